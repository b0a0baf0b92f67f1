/-
  FnExactBackPick as it is stated: the card.
-/
import Derived.Test.YtakifcobofkheabGreatDoorCardBackPickB4
import Derived.Maps.Own
import Derived.Maps.OwnOps
import Derived.Maps.OwnSet
import Derived.Maps.Views
import Derived.Test.YtakifcobofkheabGreatDoorRows
import Derived.ProofKit
import Derived.LaidMore
import Derived.LaidHandle
import Derived.OpenShut
import Derived.ShutString
import Derived.ChangeOld
import Derived.WalkSmall
import Derived.Stop.LaidErr
import Derived.Stop.Joined
import Derived.Test.YtakifcobofkheabGreatDoorCards
import Derived.Test.YtakifcobofkheabGreatDoorTie
import Derived.SevenTiedAt

/-
  What bringAll and BackAll of the program answer.
-/
namespace Go.Proofs.YtakifcobofkheabGreatDoor
open Go.RowKit Go.Deep
set_option linter.unusedVariables false
set_option linter.unusedSimpArgs false
set_option linter.unnecessarySimpa false

theorem allAt_bad (D : Nat → Dp) : ∀ k, (allAt D k).2 ≠ 0 → (allAt D k).1 = trNone
  | 0, h => absurd rfl h
  | k + 1, h => by
    by_cases hz : (allAt D k).2 = 0
    · rw [allAt_next hz] at h ⊢
      exact backTr_bad h
    · have e : allAt D (k + 1) = (trNone, (allAt D k).2) := by show (if _ then _ else _) = _; rw [if_neg hz]
      rw [e]
theorem allAns_bad {n : Nat} {D : Nat → Dp} (h : (allAns n D).2 ≠ 0) : (allAns n D).1 = trNone := by
  unfold allAns at *
  split at h
  · rename_i h'; rw [if_pos h']
  · rename_i h'; rw [if_neg h']; exact allAt_bad D n h

theorem bring_out {t : Tr} {d : Dp} {w : World} {e : Ending} {w' : World} (h : BringPost w t.n t.D t.now d e w') : Below w.heap.size w w' ∧ ∃ l E, e = .returned (.tuple #[tV (backTr t d) l, E]) ∧ (backCode t.n t.D t.now d = 0 ∧ E = .nilIface ∨ backCode t.n t.D t.now d ≠ 0 ∧ E = .iface 115 (.agg #[.int .i64 (backCode t.n t.D t.now d)])) ∧ OwnTr w' w.heap.size (backTr t d) l := by
  obtain ⟨hb, hc⟩ := h
  refine ⟨hb, ?_⟩
  rcases hc with ⟨hne, rfl⟩ | ⟨hz, b, c, M, rfl, hot⟩
  · have e1 : backTr t d = trNone := backTr_bad hne
    rw [e1]
    exact ⟨⟨none, 0, fun _ => ⟨none, 0, none, 0⟩⟩, _, rfl, Or.inr ⟨hne, rfl⟩, OT.start _ _ _ _ _ _⟩
  · have e1 : backTr t d = ⟨d.ln, oneD (fromN t.n d) t.D d, d.date⟩ := by unfold backTr; rw [if_pos hz]
    rw [e1]
    exact ⟨⟨b, c, M⟩, _, rfl, Or.inl ⟨hz, rfl⟩, hot⟩

/-- What bringAll answers. -/
def AllBring (w : World) (r : Tr × Int) (e : Ending) (w' : World) : Prop :=
  Below w.heap.size w w' ∧ ((r.2 ≠ 0 ∧ e = .returned (.tuple #[.agg #[.slice none 0 0, .int .i64 0], .iface 115 (.agg #[.int .i64 r.2])])) ∨ (r.2 = 0 ∧ ∃ l, e = .returned (.tuple #[tV r.1 l, .nilIface]) ∧ OwnTr w' w.heap.size r.1 l))

theorem Al.bad {w : World} {t : Tr} {lt : TLoc} {W : World} {z : Int} (h : Al w t lt W) (hz : z ≠ 0) :
    Blk ((W.setCell ⟨w.heap.size, 0, none⟩ (.slice none 0 0)).setCell ⟨w.heap.size, 1, none⟩ (.int .i64 0)) w.heap.size #[.slice none 0 0, .int .i64 0] 44 ∧ AllBring w (trNone, z) (.returned (.tuple #[.agg #[.slice none 0 0, .int .i64 0], .iface 115 (.agg #[.int .i64 z])])) ((W.setCell ⟨w.heap.size, 0, none⟩ (.slice none 0 0)).setCell ⟨w.heap.size, 1, none⟩ (.int .i64 0)) :=
  ⟨(h.r.set 0 _).set 1 _, bel_put (bel_put h.bel _ (Nat.le_refl _)) _ (Nat.le_refl _), Or.inl ⟨hz, rfl⟩⟩

theorem Al.good {w : World} {t : Tr} {lt : TLoc} {W : World} (h : Al w t lt W) :
    Blk ((W.setCell ⟨w.heap.size, 0, none⟩ (.slice lt.a t.n lt.c)).setCell ⟨w.heap.size, 1, none⟩ (.int .i64 t.now)) w.heap.size (tC t lt) 44 ∧ AllBring w (t, 0) (.returned (.tuple #[.agg #[.slice lt.a t.n lt.c, .int .i64 t.now], .nilIface])) ((W.setCell ⟨w.heap.size, 0, none⟩ (.slice lt.a t.n lt.c)).setCell ⟨w.heap.size, 1, none⟩ (.int .i64 t.now)) :=
  ⟨(h.r.set 0 _).set 1 _, bel_put (bel_put h.bel _ (Nat.le_refl _)) _ (Nat.le_refl _), Or.inr ⟨rfl, lt, rfl, ((h.own.put _ (by omega)).put _ (by omega)).lower (by omega)⟩⟩

set_option maxRecDepth 100000 in
set_option maxHeartbeats 8000000 in
theorem bringAll_any (a : Option Addr) (n c : Nat) (D : Nat → Dp) (L : Nat → DLoc) (w : World) (hS : IsDps w a n D L) (hf : FitDps n D) (hn : n ≤ maxLen) (hs : recsTo D n ≤ 1048576) :
    Calls Tryz.prog 59 #[.slice a n c] w (AllBring w (allAns n D)) := by
  unfold maxLen at hn
  have HFAIL : Hid (allAns n D = (trNone, 3) → ∀ U, U = w.alloc (.cells #[.slice none 0 0, .int .i64 0] 44) → Blk U w.heap.size #[.slice none 0 0, .int .i64 0] 44 ∧ AllBring w (allAns n D) (.returned (.tuple #[.agg #[.slice none 0 0, .int .i64 0], .iface 115 (.agg #[.int .i64 3])])) U) := fun h U e => by
    subst e
    rw [h]
    exact ⟨Blk.new _ _ _, (Below.refl _ _).alloc (Nat.le_refl _) _, Or.inl ⟨by simp, rfl⟩⟩
  by_cases hn0 : n = 0
  · have HX : Hid _ := HFAIL.out (by unfold allAns; rw [if_pos (Or.inl hn0)])
    subst hn0
    clear HFAIL
    go_enter Tryz.func59, Tryz.ntmps59
    go_wp2_with fail
    refine end_world (F := fun U => Blk U w.heap.size #[.slice none 0 0, .int .i64 0] 44 ∧ AllBring w (allAns 0 D) (.returned (.tuple #[.agg #[.slice none 0 0, .int .i64 0], .iface 115 (.agg #[.int .i64 3])])) U) (HX.out _ rfl) ?_
    rintro U ⟨hr, hE⟩
    have e0 : U.cell? ⟨w.heap.size, 0, none⟩ = some (.slice none 0 0) := hr.cell 0
    have e1 : U.cell? ⟨w.heap.size, 1, none⟩ = some (.int .i64 0) := hr.cell 1
    exact bodyPost_ret (v := .tuple #[.agg #[.slice none 0 0, .int .i64 0], .iface 115 (.agg #[.int .i64 3])]) (by simp [results, Tryz.results59, go_sem, e0, e1]) rfl hE
  · obtain ⟨b, off, rfl, hlt0, hc0⟩ := hS.at (show 0 < n by omega)
    have c00 : w.cell? ⟨b, off, none⟩ = some (.int .i64 (D 0).since) := by have := (hc0 0 (by omega)).1; simpa using this
    have hnb : ((n : Int) == 0) = false := by simp; omega
    have hn0i : (0 : Int) < (n : Int) := by omega
    clear hc0
    by_cases hsi : (D 0).since = 0
    · have hsb : ((D 0).since != 0) = false := by simp [hsi]
      have HANS : Hid (allAns n D = allAt D n) := by show _ = _; unfold allAns; rw [if_neg (by omega)]
      clear hsi HFAIL
      go_enter Tryz.func59, Tryz.ntmps59
      go_wp2
      go_loopw [24] (fun i wr => ∃ (k : Nat) (lt : TLoc), k ≤ n ∧ i = .int .i64 k ∧ (allAt D k).2 = 0 ∧ Al w (allAt D k).1 lt wr) (fun i _ => n - (intOf i).toNat)
      case atStart => exact ⟨0, _, Nat.zero_le _, rfl, rfl, al_new w⟩
      case round =>
        obtain ⟨k, lt, hk, rfl, hz, hA⟩ := hrel
        obtain ⟨hsm, hsk⟩ := all_small hf hs k hk
        have HNX : Hid _ := allAt_next hz
        have HZ : Hid ((allAt D k).2 = 0) := hz
        clear hz
        generalize ht : (allAt D k).1 = t at hA hsm hsk HNX
        have HT : Hid ((allAt D k).1 = t) := ht
        clear ht
        by_cases hlt : k < n
        · have hlti : (k : Int) < (n : Int) := by omega
          obtain ⟨b', off', e', hlt2, hc⟩ := (hS.below (Nat.le_refl _) hA.bel).at hlt
          cases e'
          obtain ⟨c0, c1, c2, c3, hI⟩ := hc k hlt
          have hrt := recsTo_mono D (show k + 1 ≤ n by omega)
          rw [recsTo_succ] at hrt
          have hpair : sizeTo t.D t.n + sizeTo (D k).nd (D k).m ≤ 1048576 := by unfold Tr.size at hsk; unfold Dp.size at hrt; omega
          obtain ⟨v0, v1⟩ := tC_cells hA.v
          have hvl := hA.v.lt
          have hvn : w.heap.size + 1 ≠ wr.heap.size := by omega
          have HA : Hid (Al w t lt wr) := hA
          have HI : Hid (DpIn wr (D k) (L k)) := hI
          clear hc hI hA hrt hsk
          go_wp2_with fail
          refine at_world (F := New1 wr (pC (D k) (L k)) 64) (new1 wr _ _) ?_
          rintro W1 ⟨hd1, hb1, hs1⟩
          refine (bringOne_any lt.a t.n lt.c t.now t.D lt.L (D k) (L k) W1 (HA.out.own.tIn.below (Nat.le_refl _) hb1) (HI.out.below (Nat.le_refl _) hb1) hsm.fits.n hsm.fits.nds (hf k hlt) hsm.fits.now hpair).mono ?_
          intro e w2 hp
          obtain ⟨hb2, lr, E, rfl, hE, hown⟩ := bring_out hp
          unfold tV
          have HNX2 : Hid (allAt D (k + 1) = (backTr t (D k), backCode t.n t.D t.now (D k)) ∧ (backCode t.n t.D t.now (D k) ≠ 0 → backTr t (D k) = trNone)) := ⟨HNX.out, backTr_bad⟩
          have hb12 : Below wr.heap.size wr w2 := hb1.trans (hb2.mono (by omega))
          have HA2 : Hid (Al w t lt w2 ∧ OwnTr w2 wr.heap.size (backTr t (D k)) lr) := ⟨HA.out.below hb12, hown.lower (by omega)⟩
          have HSW : Hid (w.heap.size + 2 ≤ wr.heap.size) := HA.out.size
          clear hp hb1 hb2 hb12 hown hd1 hs1 c0 c1 c2 c3 v0 v1 hvl hvn HNX hsm hpair
          have hvl : w.heap.size + 1 < w2.heap.size := HA2.out.1.v.lt
          have hvn : w.heap.size + 1 ≠ w2.heap.size := by omega
          have hrl : w.heap.size < w2.heap.size := by omega
          have hrn : w.heap.size ≠ w2.heap.size := by omega
          rcases hE with ⟨hz, rfl⟩ | ⟨hz, rfl⟩
          · have HN : Hid (allAt D (k + 1) = (backTr t (D k), 0)) := by have := HNX2.out.1; rw [hz] at this; exact this
            generalize backTr t (D k) = tn at *
            have q0 : w2.cell? ⟨w.heap.size + 1, 0, none⟩ = some (.slice lt.a t.n lt.c) := HA2.out.1.v.cell 0
            have q1 : w2.cell? ⟨w.heap.size + 1, 1, none⟩ = some (.int .i64 t.now) := HA2.out.1.v.cell 1
            have g0 := HA2.out.1.v.frozen 0
            have g1 := HA2.out.1.v.frozen 1
            have HX : Hid (∀ U, U = ((w2.setCell ⟨w.heap.size + 1, 0, none⟩ (.slice lr.a tn.n lr.c)).setCell ⟨w.heap.size + 1, 1, none⟩ (.int .i64 tn.now)).alloc (.cells #[.slice lr.a tn.n lr.c, .int .i64 tn.now] 44) → Al w tn lr U) := fun U e => by
              subst e
              have h' := HA2.out.1
              have hsw := HSW.out
              have hX : Al w tn lr ((w2.setCell ⟨w.heap.size + 1, 0, none⟩ (.slice lr.a tn.n lr.c)).setCell ⟨w.heap.size + 1, 1, none⟩ (.int .i64 tn.now)) := ⟨(h'.r.off _ (by omega)).off _ (by omega), (h'.v.set 0 _).set 1 _, ((HA2.out.2.put _ (by omega)).put _ (by omega)).lower (by omega), bel_put (bel_put h'.bel _ (by omega)) _ (by omega), by simpa [World.setCell] using h'.size⟩
              exact hX.below ((Below.refl _ _).alloc (Nat.le_refl _) _)
            clear hz HNX2
            go_wp2
            go_roundw
            case rel => exact ⟨k + 1, lr, by omega, by go_num, by rw [HN.out], by rw [HN.out]; exact HX.out _ rfl⟩
            case measure => simp [intOf]; omega
          · have HN : Hid (allAns n D = (trNone, backCode t.n t.D t.now (D k))) := by
              show _ = _
              have h1 := HNX2.out.1
              rw [HNX2.out.2 hz] at h1
              rw [HANS.out]
              exact allAt_stuck hz h1 n hlt
            have HZN : Hid (backCode t.n t.D t.now (D k) ≠ 0) := hz
            generalize backCode t.n t.D t.now (D k) = z at *
            generalize backTr t (D k) = tn at *
            have r0 : w2.cell? ⟨w.heap.size, 0, none⟩ = some (.slice none 0 0) := HA2.out.1.r.cell 0
            have r1 : w2.cell? ⟨w.heap.size, 1, none⟩ = some (.int .i64 0) := HA2.out.1.r.cell 1
            have g0 := HA2.out.1.r.frozen 0
            have g1 := HA2.out.1.r.frozen 1
            have HE : Hid (∀ U, U = ((w2.setCell ⟨w.heap.size, 0, none⟩ (.slice none 0 0)).setCell ⟨w.heap.size, 1, none⟩ (.int .i64 0)).alloc (.cells #[.slice lr.a tn.n lr.c, .int .i64 tn.now] 44) → Blk U w.heap.size #[.slice none 0 0, .int .i64 0] 44 ∧ AllBring w (allAns n D) (.returned (.tuple #[.agg #[.slice none 0 0, .int .i64 0], .iface 115 (.agg #[.int .i64 z])])) U) := fun U e => by
              subst e
              obtain ⟨h1, h2, h3⟩ := HA2.out.1.bad HZN.out
              rw [HN.out]
              refine ⟨h1.alloc _, h2.alloc h2.size _, ?_⟩
              rcases h3 with h | ⟨h, _⟩
              · exact Or.inl h
              · exact absurd h HZN.out
            clear hz HNX2 HZN
            go_wp2_with fail
            refine end_world (F := fun U => Blk U w.heap.size #[.slice none 0 0, .int .i64 0] 44 ∧ AllBring w (allAns n D) (.returned (.tuple #[.agg #[.slice none 0 0, .int .i64 0], .iface 115 (.agg #[.int .i64 z])])) U) (HE.out _ rfl) ?_
            clear HE r0 r1 g0 g1
            rintro U ⟨hr, hE⟩
            have e0 : U.cell? ⟨w.heap.size, 0, none⟩ = some (.slice none 0 0) := hr.cell 0
            have e1 : U.cell? ⟨w.heap.size, 1, none⟩ = some (.int .i64 0) := hr.cell 1
            exact bodyPost_ret (v := .tuple #[.agg #[.slice none 0 0, .int .i64 0], .iface 115 (.agg #[.int .i64 z])]) (by simp [results, Tryz.results59, go_sem, e0, e1]) rfl hE
        · obtain rfl : k = n := by omega
          have HN : Hid (allAns k D = (t, 0)) := by
            show _ = _
            rw [HANS.out]
            exact Prod.ext HT.out HZ.out
          obtain ⟨v0, v1⟩ := tC_cells hA.v
          have r0 : wr.cell? ⟨w.heap.size, 0, none⟩ = some (.slice none 0 0) := hA.r.cell 0
          have r1 : wr.cell? ⟨w.heap.size, 1, none⟩ = some (.int .i64 0) := hA.r.cell 1
          have g0 := hA.r.frozen 0
          have g1 := hA.r.frozen 1
          have HE : Hid _ := hA.good
          clear hA HNX HZ HT hsm hsk
          go_wp2_with fail
          refine end_world (F := fun U => Blk U w.heap.size (tC t lt) 44 ∧ AllBring w (t, 0) (.returned (.tuple #[.agg #[.slice lt.a t.n lt.c, .int .i64 t.now], .nilIface])) U) HE.out ?_
          clear HE r0 r1 g0 g1 v0 v1
          rintro U ⟨hr, hE⟩
          obtain ⟨e0, e1⟩ := tC_cells hr
          exact bodyPost_ret (v := .tuple #[.agg #[.slice lt.a t.n lt.c, .int .i64 t.now], .nilIface]) (by simp [results, Tryz.results59, go_sem, e0, e1]) rfl (by rw [HN.out]; exact hE)
    · have hsb : ((D 0).since != 0) = true := by simp [hsi]
      have HX : Hid _ := HFAIL.out (by unfold allAns; rw [if_pos (Or.inr hsi)])
      clear hsi HFAIL
      go_enter Tryz.func59, Tryz.ntmps59
      go_wp2_with fail
      refine end_world (F := fun U => Blk U w.heap.size #[.slice none 0 0, .int .i64 0] 44 ∧ AllBring w (allAns n D) (.returned (.tuple #[.agg #[.slice none 0 0, .int .i64 0], .iface 115 (.agg #[.int .i64 3])])) U) (HX.out _ rfl) ?_
      rintro U ⟨hr, hE⟩
      have e0 : U.cell? ⟨w.heap.size, 0, none⟩ = some (.slice none 0 0) := hr.cell 0
      have e1 : U.cell? ⟨w.heap.size, 1, none⟩ = some (.int .i64 0) := hr.cell 1
      exact bodyPost_ret (v := .tuple #[.agg #[.slice none 0 0, .int .i64 0], .iface 115 (.agg #[.int .i64 3])]) (by simp [results, Tryz.results59, go_sem, e0, e1]) rfl hE

set_option maxHeartbeats 2000000 in
theorem implBackAll_any (a : Option Addr) (n c : Nat) (D : Nat → Dp) (L : Nat → DLoc) (w : World) (hg : ErrType w) (hS : IsDps w a n D L) (hf : FitDps n D) (hn : n ≤ maxLen) (hs : recsTo D n ≤ 1048576) :
    Calls Tryz.prog 32 #[.slice a n c] w (AllPost w (allAns n D)) := by
  have HB : Hid ((allAns n D).2 ≠ 0 → (allAns n D).1 = trNone) := allAns_bad
  go_enter Tryz.func32, Tryz.ntmps32
  go_wp2_with fail
  refine at_world (F := New1 w #[.slice none 0 0, .int .i64 0] 44) (new1 w _ _) ?_
  rintro W ⟨hr, hb, hsz⟩
  refine (bringAll_any a n c D L W (hS.below (Nat.le_refl _) hb) hf hn hs).mono ?_
  rintro e w1 ⟨hb1, hcase⟩
  generalize allAns n D = r at *
  obtain ⟨t, z⟩ := r
  have hs1 : w.heap.size + 1 ≤ W.heap.size := by omega
  have HG : Hid (ErrType w1) := (hg.bel hb).bel hb1
  have hr1 := hr.below hb1 (by omega)
  have hB1 := hb.trans (hb1.mono (by omega))
  rcases hcase with ⟨hne, rfl⟩ | ⟨hz, l, rfl, ho⟩
  · have HZ : Hid (t = trNone) := HB.out hne
    have H1 : Hid (Blk w1 w.heap.size #[.slice none 0 0, .int .i64 0] 44 ∧ Below w.heap.size w w1) := ⟨hr1, hB1⟩
    clear hr hb hb1 hr1 hB1 hne hsz hs1
    dsimp only
    go_wp2_with fail
    refine (treeOrCode_err z 0 none 0 0 w1 HG.out).mono ?_
    rintro e w2 ⟨rfl, hb2⟩
    have H2 : Hid (Blk w2 w.heap.size #[.slice none 0 0, .int .i64 0] 44 ∧ Below w.heap.size w w2) := ⟨H1.out.1.below hb2 H1.out.1.lt, H1.out.2.trans (hb2.mono H1.out.2.size)⟩
    clear hb2 H1
    have r0 : w2.cell? ⟨w.heap.size, 0, none⟩ = some (.slice none 0 0) := H2.out.1.cell 0
    have r1 : w2.cell? ⟨w.heap.size, 1, none⟩ = some (.int .i64 0) := H2.out.1.cell 1
    have g0 := H2.out.1.frozen 0
    have g1 := H2.out.1.frozen 1
    go_wp2_with fail
    refine end_world (F := fun U => Blk U w.heap.size #[.slice none 0 0, .int .i64 0] 44 ∧ Below w.heap.size w U) ⟨(H2.out.1.set 0 _).set 1 _, bel_put (bel_put H2.out.2 _ (Nat.le_refl _)) _ (Nat.le_refl _)⟩ ?_
    clear r0 r1 g0 g1
    rintro U ⟨hr, hB⟩
    have e0 : U.cell? ⟨w.heap.size, 0, none⟩ = some (.slice none 0 0) := hr.cell 0
    have e1 : U.cell? ⟨w.heap.size, 1, none⟩ = some (.int .i64 0) := hr.cell 1
    exact bodyPost_ret (v := .tuple #[.agg #[.slice none 0 0, .int .i64 0], .int .i64 z]) (by simp [results, Tryz.results32, go_sem, e0, e1]) rfl ⟨hB, ⟨none, 0, fun _ => ⟨none, 0, none, 0⟩⟩, by rw [HZ.out]; rfl, by rw [HZ.out]; exact OT.start _ _ _ _ _ _⟩
  · have HZ : Hid (z = 0) := hz
    have H1 : Hid (Blk w1 w.heap.size #[.slice none 0 0, .int .i64 0] 44 ∧ Below w.heap.size w w1 ∧ OwnTr w1 (w.heap.size + 1) t l) := ⟨hr1, hB1, ho.lower (by omega)⟩
    clear hr hb hb1 hr1 hB1 hz hsz hs1 ho
    unfold tV
    dsimp only
    go_wp2_with fail
    refine (treeOrCode_nil _ t.now l.a t.n l.c rfl w1).mono ?_
    rintro e w2 ⟨rfl, hb2⟩
    have H2 : Hid (Blk w2 w.heap.size #[.slice none 0 0, .int .i64 0] 44 ∧ Below w.heap.size w w2 ∧ OwnTr w2 (w.heap.size + 1) t l) := ⟨H1.out.1.below hb2 H1.out.1.lt, H1.out.2.1.trans (hb2.mono H1.out.2.1.size), H1.out.2.2.below hb2⟩
    clear hb2 H1
    have r0 : w2.cell? ⟨w.heap.size, 0, none⟩ = some (.slice none 0 0) := H2.out.1.cell 0
    have r1 : w2.cell? ⟨w.heap.size, 1, none⟩ = some (.int .i64 0) := H2.out.1.cell 1
    have g0 := H2.out.1.frozen 0
    have g1 := H2.out.1.frozen 1
    go_wp2_with fail
    refine end_world (F := fun U => Blk U w.heap.size (tC t l) 44 ∧ Below w.heap.size w U ∧ OwnTr U (w.heap.size + 1) t l) ⟨(H2.out.1.set 0 _).set 1 _, bel_put (bel_put H2.out.2.1 _ (Nat.le_refl _)) _ (Nat.le_refl _), (H2.out.2.2.put _ (by omega)).put _ (by omega)⟩ ?_
    clear r0 r1 g0 g1
    rintro U ⟨hr, hB, ho⟩
    obtain ⟨e0, e1⟩ := tC_cells hr
    exact bodyPost_ret (v := .tuple #[.agg #[.slice l.a t.n l.c, .int .i64 t.now], .int .i64 0]) (by simp [results, Tryz.results32, go_sem, e0, e1]) rfl ⟨hB, l, by rw [HZ.out]; rfl, ho.lower (by omega)⟩
end Go.Proofs.YtakifcobofkheabGreatDoor

/-
  What kidsByName of the program answers: a map from the names of a place to its places.
-/
namespace Go.Proofs.YtakifcobofkheabGreatDoor
open Go.RowKit Go.Maps Go.WideMaps
set_option linter.unusedVariables false

theorem law : Keyed Tryz.prog 9 := string_keyed Tryz.underlying9
theorem zeroInt (w : World) : (zeroValue 3).run Tryz.prog w = .ok (.int .i64 0) w := by kernel_rfl

/-- What a name reads as. -/
def keyL (s : ByteArray) : Lit := .string s.data.toList

/-- The map has the first k names, and at each its place. -/
structure Kept (S : Nat → ByteArray) (Z : Nat → Int) (k : Nat) (M : DataW Unit) : Prop where
  isMap : IsMap M
  has : ∀ s : ByteArray, Maps.has M (keyL s) = true ↔ ∃ i, i < k ∧ (S i).toList = s.toList
  at_ : ∀ i, i < k → ∀ z, M.atKey (keyL (S i)) z = .lit (.int .i64 (Z i))

theorem run_makeMap_hint (n : Int) (w : World) : (Instr.makeMap 95 (some (.int .i64 n))).run Tryz.prog w = .ok (.map (some w.heap.size)) (w.alloc (.map #[] 0)) := by
  simp [Instr.makeMap, run_underlying Tryz.underlying95, asInt, asIntOf, Result.andThen]

theorem keyL_ne {s t : ByteArray} (h : ¬ s.toList = t.toList) : keyL s ≠ keyL t := by
  intro e
  unfold keyL at e
  simp only [Lit.string.injEq] at e
  exact h (by rw [ByteArray.toList_eq, ByteArray.toList_eq, e])

theorem keyL_eq {s t : ByteArray} (h : s.toList = t.toList) : keyL s = keyL t := by
  unfold keyL
  rw [← ByteArray.toList_eq, ← ByteArray.toList_eq, h]

theorem kept_start (S : Nat → ByteArray) (Z : Nat → Int) : Kept S Z 0 (.map []) := ⟨isMap_empty, fun s => ⟨fun h => by simp [Maps.has] at h, fun h => by obtain ⟨i, hi, _⟩ := h; omega⟩, fun i hi => by omega⟩

theorem Kept.step {S : Nat → ByteArray} {Z : Nat → Int} {k : Nat} {M : DataW Unit} (h : Kept S Z k M) (hne : ∀ i, i < k → ¬ (S i).toList = (S k).toList) : Kept S Z (k + 1) (M.put (keyL (S k)) (.lit (.int .i64 (Z k)))) := by
  refine ⟨h.isMap.put _ _, fun s => ?_, fun i hi z => ?_⟩
  · by_cases e : (S k).toList = s.toList
    · rw [← keyL_eq e, has_put_same h.isMap (show WideAt.IsKeyLit (keyL (S k)) from trivial)]
      exact ⟨fun _ => ⟨k, by omega, e⟩, fun _ => rfl⟩
    · rw [has_put_other (keyL_ne (fun e' => e e'.symm)), h.has s]
      constructor
      · rintro ⟨i, hi, he⟩; exact ⟨i, by omega, he⟩
      · rintro ⟨i, hi, he⟩
        by_cases e2 : i = k
        · subst e2; exact absurd he e
        · exact ⟨i, by omega, he⟩
  · by_cases e : i = k
    · subst e; exact atKey_put_same h.isMap (show WideAt.IsKeyLit (keyL (S i)) from trivial) _ _
    · rw [atKey_put_other (keyL_ne (hne i (by omega)))]; exact h.at_ i (by omega) z

/-- What is known within kidsByName. -/
structure KbIn (w : World) (d : Nd) (l : Loc) (M : DataW Unit) (k : Nat) (W : World) : Prop where
  d : Blk W w.heap.size #[.int .i64 d.kind, .string d.text, .slice l.nA d.nn l.nc, .slice l.kA d.kn l.kc, .int .i64 d.turn] 28
  own : W.ownsMap Tryz.prog 9 (plainElem Tryz.prog 3) (w.heap.size + 1) k M
  bel : Below w.heap.size w W

set_option maxHeartbeats 2000000 in
theorem kidsByName_any (d : Nd) (l : Loc) (w : World) (hI : NdIn w d l) (hf : d.Fits) (hk : d.kn = d.nn) (hinj : ∀ i j, i < d.nn → j < d.nn → (d.names i).toList = (d.names j).toList → i = j) :
    Calls Tryz.prog 62 #[ndV d l] w fun e w' => Below w.heap.size w w' ∧ ∃ b M, e = .returned (.map (some b)) ∧ w'.ownsMap Tryz.prog 9 (plainElem Tryz.prog 3) b d.nn M ∧ Kept d.names d.kids d.nn M := by
  have hnn := hf.nn
  have hkn := hf.kn
  have HK : Hid (d.kn = d.nn) := hk
  clear hk
  unfold maxLen at hnn hkn
  unfold ndV
  have hmm := run_makeMap_hint
  go_enter Tryz.func62, Tryz.ntmps62
  go_wp2
  go_loopw [13] (fun i wr => ∃ (k : Nat) (M : DataW Unit), k ≤ d.nn ∧ i = .int .i64 k ∧ KbIn w d l M k wr ∧ Kept d.names d.kids k M) (fun i _ => d.nn - (intOf i).toNat)
  case atStart =>
    have h1 := new1 w #[.int .i64 d.kind, .string d.text, .slice l.nA d.nn l.nc, .slice l.kA d.kn l.kc, .int .i64 d.turn] 28
    refine ⟨0, .map [], Nat.zero_le _, rfl, ⟨h1.b0.alloc _, ?_, h1.bel.alloc (by simp) _⟩, kept_start _ _⟩
    have := World.ownsMap_made (H := Unit) (w.alloc (.cells #[.int .i64 d.kind, .string d.text, .slice l.nA d.nn l.nc, .slice l.kA d.kn l.kc, .int .i64 d.turn] 28)) Tryz.prog 9 (plainElem Tryz.prog 3)
    rw [h1.size] at this
    exact this
  case round =>
    obtain ⟨k, M, hk', rfl, hin, hkept⟩ := hrel
    have d2 : wr.cell? ⟨w.heap.size, 2, none⟩ = some (.slice l.nA d.nn l.nc) := hin.d.cell 2
    have d3 : wr.cell? ⟨w.heap.size, 3, none⟩ = some (.slice l.kA d.kn l.kc) := hin.d.cell 3
    clear hmm
    by_cases hlt : k < d.nn
    · have hIr := hI.below (Nat.le_refl _) hin.bel
      obtain ⟨b, off, ha, hlt2, hc⟩ := hIr.1.at hlt
      obtain ⟨b', off', ha', hlt2', hc'⟩ := hIr.2.at (show k < d.kn by have := HK.out; omega)
      have h1 := hc k hlt
      have h2 := hc' k (by have := HK.out; omega)
      rw [ha] at d2
      rw [ha'] at d3
      rw [ha, ha']
      have hlti : (k : Int) < (d.nn : Int) := by omega
      have hltk : (k : Int) < (d.kn : Int) := by have := HK.out; omega
      have hkey : keyOf Tryz.prog 9 (.string (d.names k)) = some (keyL (d.names k)) := keyOf_string_mk Tryz.underlying9 (hf.names k hlt)
      have hwf : (Lit.int .i64 (d.kids k)).wf = true := by
        have := hf.kids k (by have := HK.out; omega)
        unfold In64 at this
        exact WalkArith.wf_i64 (by omega)
      have hown := hin.own
      have HIN : Hid (KbIn w d l M k wr ∧ Kept d.names d.kids k M) := ⟨hin, hkept⟩
      clear hc hc' hIr hin hkept
      go_wp2_with (at_mapUpdate; refine wpList_mapUpdate_own _ rfl _ _ _ 95 rfl 9 3 law Tryz.underlying95 _ (w.heap.size + 1) k _ rfl hown (by unfold maxLen; omega) _ _ _ rfl rfl hkey _ [] (plainElem_int Tryz.underlying3 hwf) ?_)
      intro w1 hown1 hgrow1
      have HN : Hid (KbIn w d l (M.put (keyL (d.names k)) (.lit (.int .i64 (d.kids k)))) (k + 1) w1 ∧ Kept d.names d.kids (k + 1) (M.put (keyL (d.names k)) (.lit (.int .i64 (d.kids k))))) :=
        ⟨⟨HIN.out.1.d.of_block (hgrow1.block _ HIN.out.1.d.lt (by simp)), hown1, HIN.out.1.bel.grown hgrow1 (by have := HIN.out.1.d.lt; omega) (fun g hg => by cases hg; omega)⟩, HIN.out.2.step (fun i hi e => by have := hinj i k (by omega) hlt e; omega)⟩
      clear hown1 hgrow1 hown d2 d3 h1 h2
      go_wp2
      go_roundw
      case rel => exact ⟨k + 1, _, by omega, by go_num, HN.out.1, HN.out.2⟩
      case measure => simp [intOf]; omega
    · have hke : k = d.nn := by omega
      have HIN : Hid (KbIn w d l M d.nn wr ∧ Kept d.names d.kids d.nn M) := ⟨hke ▸ hin, hke ▸ hkept⟩
      clear hke hin hkept
      go_wp2
      go_ret
      exact ⟨HIN.out.1.bel, _, M, rfl, HIN.out.1.own, HIN.out.2⟩
end Go.Proofs.YtakifcobofkheabGreatDoor

/-
  What TreeFind of the program answers.
-/
namespace Go.Proofs.YtakifcobofkheabGreatDoor
open Go.RowKit Go.Maps Go.WideMaps
set_option linter.unusedVariables false

/-- What TreeFind of the program has to keep. -/
def ImplTreeFind : Prop := ∀ (a : Option Addr) (n c : Nat) (now : Int) (D : Nat → Nd) (L : Nat → Loc) (pa : Option Addr) (m pc : Nat) (S : Nat → ByteArray) (w : World), IsNds w a n D L → IsStrs w pa m S → FitAll n D → n ≤ maxLen → sizeTo D n ≤ 1048576 → In64 now → m ≤ maxLen → Small m S →
    Calls Tryz.prog 33 #[trV a n c now, .slice pa m pc] w fun e w' => Below w.heap.size w w' ∧ ∃ r, e = .returned (.int .i64 r) ∧ FindAre n D now m S r

set_option maxRecDepth 100000 in
set_option maxHeartbeats 2000000 in
theorem implTreeFind : ImplTreeFind := by
  intro a n c now D L pa m pc S w hS hP hf hn hsz hnow hm hsm
  have hn' := hn
  have hm' := hm
  unfold maxLen at hn' hm'
  unfold trV
  go_enter Tryz.func33, Tryz.ntmps33
  go_wp2_with fail
  refine at_world (F := New1 w _ _) (new1 w _ _) ?_
  rintro W ⟨hp, hb, hs⟩
  refine (implTreeOk a n c now D L W (hS.below (Nat.le_refl _) hb) hf hn hsz hnow).mono ?_
  rintro e w1 ⟨hb1, r, rfl, hr⟩
  have hp1 := hp.below hb1 (by omega)
  have HB : Hid (RefsIn w a n c now w1 ∧ (r = true ↔ TreeGood n D now)) := ⟨⟨hp1, hb.trans (hb1.mono (by omega))⟩, hr⟩
  clear hp hb hs hb1 hp1 hr
  cases r with
  | false =>
    have HN : Hid (FindAre n D now m S (-1)) := findAre_no (fun g => by have := HB.out.2.2 g.1; cases this)
    go_wp2_with fail
    go_ret
    exact ⟨HB.out.1.bel, -1, rfl, HN.out⟩
  | true =>
    have HG : Hid (TreeGood n D now) := HB.out.2.1 rfl
    go_wp2_with fail
    refine (implPathOk_any pa m pc S w1 (hP.below (Nat.le_refl _) HB.out.1.bel) hsm hm).mono ?_
    rintro e w2 ⟨rfl, rfl⟩
    cases hpo : pathOk m S with
    | false =>
      have HN : Hid (FindAre n D now m S (-1)) := findAre_no (fun g => by have := g.2.1; rw [hpo] at this; cases this)
      clear hpo
      go_wp2_with fail
      go_ret
      exact ⟨HB.out.1.bel, -1, rfl, HN.out⟩
    | true =>
      have HP : Hid (pathOk m S = true) := hpo
      clear hpo
      go_wp2_with fail
      go_loopw [5, 20] (fun x i wr => ∃ k y : Nat, k ≤ m ∧ i = .int .i64 k ∧ x = .int .i64 y ∧ RefsIn w a n c now wr ∧ Leads D S k y) (fun _ i _ => m - (intOf i).toNat)
      case atStart => exact ⟨0, 0, Nat.zero_le _, rfl, rfl, HB.out.1, .root⟩
      case round =>
        obtain ⟨k, y, hk, rfl, rfl, hin, hl⟩ := hrel
        have t0 : wr.cell? ⟨w.heap.size, 0, none⟩ = some (.slice a n c) := hin.t.cell 0
        have hwl : w.heap.size < wr.heap.size := hin.t.lt
        by_cases hlt : k < m
        · have hyn : y < n := hl.lt HG.out
          have hSr := hS.below (Nat.le_refl _) hin.bel
          have hPr := hP.below (Nat.le_refl _) hin.bel
          obtain ⟨b, off, rfl, hlt2, hc⟩ := hSr.at hyn
          obtain ⟨b', off', rfl, hlt2', hc'⟩ := hPr.at hlt
          obtain ⟨c0, c1, c2, c3, c4, hI⟩ := hc y hyn
          have p0 := hc' k hlt
          have hki : (k : Int) < (m : Int) := by omega
          have hyi : (y : Int) < (n : Int) := by omega
          have HIN : Hid (RefsIn w (some ⟨b, off, none⟩) n c now wr ∧ Leads D S k y ∧ NdIn wr (D y) (L y)) := ⟨hin, hl, hI⟩
          have hkn : (D y).kn = (D y).nn ∧ ∀ i j, i < (D y).nn → j < (D y).nn → ((D y).names i).toList = ((D y).names j).toList → i = j := by
            by_cases h0 : 0 < (D y).nn
            · have h := dir_of_names (HG.out.nodes y hyn) h0
              exact ⟨h.2.2, fun i j hi hj e => names_inj h.2.1 hi hj e⟩
            · refine ⟨?_, fun i j hi => by omega⟩
              have h := HG.out.nodes y hyn
              unfold ndOk at h
              split at h
              · unfold freeOk at h; simp at h; omega
              · split at h
                · unfold fileOk at h; simp at h; omega
                · split at h
                  · unfold dirOk at h
                    simp only [Bool.and_eq_true, decide_eq_true_eq] at h
                    exact h.1.1.2.2
                  · cases h
          have HKN : Hid _ := hkn
          clear hc hc' hin hl hI hkn hSr hPr
          have hkey : keyOf Tryz.prog 9 (.string (S k)) = some (keyL (S k)) := keyOf_string_mk Tryz.underlying9 (hsm k hlt)
          go_wp2_with fail
          refine (kidsByName_any (D y) (L y) wr HIN.out.2.2 (hf y hyn) HKN.out.1 HKN.out.2).mono ?_
          rintro e w3 ⟨hb3, bm, M, rfl, hown, hkept⟩
          have HN : Hid (RefsIn w (some ⟨b, off, none⟩) n c now w3 ∧ Kept (D y).names (D y).kids (D y).nn M) := ⟨⟨HIN.out.1.t.below hb3 hwl, HIN.out.1.bel.trans (hb3.mono HIN.out.1.bel.size)⟩, hkept⟩
          clear hb3 hkept c0 c1 c2 c3 c4 p0 t0 hwl hlt2 hlt2'
          go_wp2_with (at_lookup; refine wpList_lookup_own_ok_int _ rfl _ _ 95 rfl 9 3 .i64 law Tryz.underlying95 Tryz.underlying3 (zeroInt _) bm _ M rfl hown _ _ rfl hkey ?_; intro z hat hwz)
          · have hno : Maps.has M (keyL (S k)) = false := by
              have h : (!Maps.has M (keyL (S k))) = true := ‹_›
              simpa using h
            have HX : Hid (FindAre n D now m S (-1)) := findAre_no (fun g => (HIN.out.2.1.stuck g.1 (fun i hi e => by
              have := (HN.out.2.has (S k)).2 ⟨i, hi, e⟩
              rw [hno] at this; cases this) hlt) g.2.2)
            go_ret
            exact ⟨HN.out.1.bel, -1, rfl, HX.out⟩
          · have hyes : Maps.has M (keyL (S k)) = true := by
              have h : (!Maps.has M (keyL (S k))) = false := ‹_›
              simpa using h
            obtain ⟨i, hi, e⟩ := (HN.out.2.has (S k)).1 hyes
            have hz : (D y).kids i = z := by
              have h1 := HN.out.2.at_ i hi (.lit (.int .i64 0))
              rw [keyL_eq e, hat] at h1
              simpa using h1.symm
            have hkid := kids_in HG.out.nodes y hyn i (by have := HKN.out.1; omega)
            have hst := HIN.out.2.1.step hi e
            go_roundw
            case rel => exact ⟨k + 1, ((D y).kids i).toNat, by omega, by go_num, by rw [← hz]; congr 1; omega, HN.out.1, hst⟩
            case measure => simp [intOf]; omega
        · have hke : k = m := by omega
          have HX : Hid (FindAre n D now m S y ∧ Below w.heap.size w wr) := ⟨findAre_end HG.out HP.out (hke ▸ hl), hin.bel⟩
          clear hke hin hl
          go_wp2
          go_ret
          exact ⟨HX.out.2, _, rfl, HX.out.1⟩
end Go.Proofs.YtakifcobofkheabGreatDoor

/-
  What BackPick of the program answers.
-/
namespace Go.Proofs.YtakifcobofkheabGreatDoor
open Go.RowKit Go.Deep
set_option linter.unusedVariables false
set_option linter.unusedSimpArgs false
set_option linter.unnecessarySimpa false

set_option maxRecDepth 100000 in
set_option maxHeartbeats 8000000 in
theorem implBackPick_any (a : Option Addr) (n c : Nat) (D : Nat → Dp) (L : Nat → DLoc) (pa : Option Addr) (m pc : Nat) (S : Nat → ByteArray) (w : World) (hg : ErrType w) (hS : IsDps w a n D L) (hP : IsStrs w pa m S) (hf : FitDps n D) (hn : n ≤ maxLen) (hs : recsTo D n ≤ 1048576) (hm : m ≤ maxLen) (hsm : Small m S) :
    Calls Tryz.prog 10 #[.slice a n c, .slice pa m pc] w (PickPost w (allAns n D) m S) := by
  have HSM : Hid (SmTr (allAns n D).1) := allAns_small hf hs
  go_enter Tryz.func10, Tryz.ntmps10
  go_wp2_with fail
  refine at_world (F := New1 w #[.int .i64 0, .string ByteArray.empty, .slice none 0 0, .slice none 0 0, .int .i64 0] 28) (new1 w _ _) ?_
  rintro W ⟨hr, hb, hsz⟩
  refine (implBackAll_any a n c D L W (hg.bel hb) (hS.below (Nat.le_refl _) hb) hf hn hs).mono ?_
  generalize hrz : allAns n D = rz
  rw [hrz] at HSM
  obtain ⟨t, z⟩ := rz
  have HRZ : Hid (allAns n D = (t, z)) := hrz
  replace HSM : Hid (SmTr t) := HSM
  clear hrz
  rintro e w1 ⟨hb1, lt, rfl, hot⟩
  unfold tV
  have hs1 : w.heap.size + 1 ≤ W.heap.size := by omega
  have hs2 : W.heap.size ≤ w1.heap.size := hb1.size
  have H1 : Hid (Blk w1 w.heap.size #[.int .i64 0, .string ByteArray.empty, .slice none 0 0, .slice none 0 0, .int .i64 0] 28 ∧ Below w.heap.size w w1 ∧ OwnTr w1 (w.heap.size + 1) t lt) := ⟨hr.below hb1 (by omega), hb.trans (hb1.mono (by omega)), hot.lower hs1⟩
  have HV : Hid (∀ U, U = w1.alloc (.cells (tC t lt) 44) → Pk w t lt w1.heap.size U ∧ w1.heap.size < U.heap.size) := fun U e => by
    obtain ⟨h0, hbn, _⟩ := new1 w1 (tC t lt) 44
    rw [← e] at h0 hbn
    exact ⟨⟨H1.out.1.below hbn H1.out.1.lt, h0, H1.out.2.2.below hbn, H1.out.2.1.trans (hbn.mono H1.out.2.1.size), by omega⟩, h0.lt⟩
  clear hr hb hb1 hot hsz
  dsimp only
  by_cases hz : z = 0
  · have hzb : (z != 0) = false := by simp [hz]
    have HZ : Hid (z = 0) := hz
    clear hz
    go_wp2_with fail
    refine at_world (F := fun U => Pk w t lt w1.heap.size U ∧ w1.heap.size < U.heap.size) (HV.out _ rfl) ?_
    clear HV H1
    generalize w1.heap.size = V at *
    rintro W2 ⟨hk2, hl2⟩
    refine (implTreeFind lt.a t.n lt.c t.now t.D lt.L pa m pc S W2 hk2.own.tIn (hP.below (Nat.le_refl _) hk2.bel) HSM.out.fits.nds HSM.out.fits.n (by have := HSM.out.size; unfold Tr.size at this; omega) HSM.out.fits.now hm hsm).mono ?_
    rintro e w3 ⟨hb3, r, rfl, hfa⟩
    have H3 : Hid (Pk w t lt V w3) := hk2.below hb3
    have HFA : Hid (FindAre t.n t.D t.now m S r) := hfa
    clear hk2 hl2 hb3 hfa
    rcases find_cases HFA.out with ⟨x, rfl, hx⟩ | rfl
    · have hxb : decide ((x : Int) < 0) = false := by simp
      have hxi : (x : Int) < (t.n : Int) := by omega
      have HQ : Hid (PickIs t z m S (t.D x, true)) := Or.inl ⟨x, HZ.out, hx, HFA.out, rfl⟩
      have H4 : Hid (Pk w t lt V w3 ∧ OwnNd w3 (w.heap.size + 1) (t.D x) (lt.L x)) := ⟨H3.out, OwnTr.place H3.out.own hx⟩
      obtain ⟨v0, v1⟩ := tC_cells H3.out.v
      obtain ⟨b, off, hla, hbl, hc⟩ := (OwnTr.tIn H3.out.own).at hx
      obtain ⟨c0, c1, c2, c3, c4, hI⟩ := hc x hx
      rw [hla] at v0
      clear hc hI hla H3
      have r0 : w3.cell? ⟨w.heap.size, 0, none⟩ = some (.int .i64 0) := H4.out.1.r.cell 0
      have r1 : w3.cell? ⟨w.heap.size, 1, none⟩ = some (.string ByteArray.empty) := H4.out.1.r.cell 1
      have r2 : w3.cell? ⟨w.heap.size, 2, none⟩ = some (.slice none 0 0) := H4.out.1.r.cell 2
      have r3 : w3.cell? ⟨w.heap.size, 3, none⟩ = some (.slice none 0 0) := H4.out.1.r.cell 3
      have r4 : w3.cell? ⟨w.heap.size, 4, none⟩ = some (.int .i64 0) := H4.out.1.r.cell 4
      have g0 := H4.out.1.r.frozen 0
      have g1 := H4.out.1.r.frozen 1
      have g2 := H4.out.1.r.frozen 2
      have g3 := H4.out.1.r.frozen 3
      have g4 := H4.out.1.r.frozen 4
      have HE : Hid _ := H4.out.1.fin HQ.out (lq := (lt.L x)) H4.out.2 _ rfl
      go_wp2_with fail
      refine end_world (F := fun U => Blk U w.heap.size #[.int .i64 (t.D x).kind, .string (t.D x).text, .slice (lt.L x).nA (t.D x).nn (lt.L x).nc, .slice (lt.L x).kA (t.D x).kn (lt.L x).kc, .int .i64 (t.D x).turn] 28 ∧ PickPost w (t, z) m S (.returned (.tuple #[.agg #[.int .i64 (t.D x).kind, .string (t.D x).text, .slice (lt.L x).nA (t.D x).nn (lt.L x).nc, .slice (lt.L x).kA (t.D x).kn (lt.L x).kc, .int .i64 (t.D x).turn], .bool true])) U) HE.out ?_
      clear HE r0 r1 r2 r3 r4 g0 g1 g2 g3 g4
      rintro U ⟨hr, hE⟩
      have e0 : U.cell? ⟨w.heap.size, 0, none⟩ = some (.int .i64 (t.D x).kind) := hr.cell 0
      have e1 : U.cell? ⟨w.heap.size, 1, none⟩ = some (.string (t.D x).text) := hr.cell 1
      have e2 : U.cell? ⟨w.heap.size, 2, none⟩ = some (.slice (lt.L x).nA (t.D x).nn (lt.L x).nc) := hr.cell 2
      have e3 : U.cell? ⟨w.heap.size, 3, none⟩ = some (.slice (lt.L x).kA (t.D x).kn (lt.L x).kc) := hr.cell 3
      have e4 : U.cell? ⟨w.heap.size, 4, none⟩ = some (.int .i64 (t.D x).turn) := hr.cell 4
      exact bodyPost_ret (v := .tuple #[.agg #[.int .i64 (t.D x).kind, .string (t.D x).text, .slice (lt.L x).nA (t.D x).nn (lt.L x).nc, .slice (lt.L x).kA (t.D x).kn (lt.L x).kc, .int .i64 (t.D x).turn], .bool true]) (by simp [results, Tryz.results10, go_sem, e0, e1, e2, e3, e4]) rfl (by rw [HRZ.out]; exact hE)
    · have HQ : Hid (PickIs t z m S (ndZero, false)) := Or.inr ⟨Or.inr HFA.out, rfl⟩
      have r0 : w3.cell? ⟨w.heap.size, 0, none⟩ = some (.int .i64 0) := H3.out.r.cell 0
      have r1 : w3.cell? ⟨w.heap.size, 1, none⟩ = some (.string ByteArray.empty) := H3.out.r.cell 1
      have r2 : w3.cell? ⟨w.heap.size, 2, none⟩ = some (.slice none 0 0) := H3.out.r.cell 2
      have r3 : w3.cell? ⟨w.heap.size, 3, none⟩ = some (.slice none 0 0) := H3.out.r.cell 3
      have r4 : w3.cell? ⟨w.heap.size, 4, none⟩ = some (.int .i64 0) := H3.out.r.cell 4
      have g0 := H3.out.r.frozen 0
      have g1 := H3.out.r.frozen 1
      have g2 := H3.out.r.frozen 2
      have g3 := H3.out.r.frozen 3
      have g4 := H3.out.r.frozen 4
      have HE : Hid _ := H3.out.fin HQ.out (lq := ⟨none, 0, none, 0⟩) (ownNd_zero _ _) _ rfl
      go_wp2_with fail
      refine end_world (F := fun U => Blk U w.heap.size #[.int .i64 0, .string ByteArray.empty, .slice none 0 0, .slice none 0 0, .int .i64 0] 28 ∧ PickPost w (t, z) m S (.returned (.tuple #[.agg #[.int .i64 0, .string ByteArray.empty, .slice none 0 0, .slice none 0 0, .int .i64 0], .bool false])) U) HE.out ?_
      clear HE r0 r1 r2 r3 r4 g0 g1 g2 g3 g4
      rintro U ⟨hr, hE⟩
      have e0 : U.cell? ⟨w.heap.size, 0, none⟩ = some (.int .i64 0) := hr.cell 0
      have e1 : U.cell? ⟨w.heap.size, 1, none⟩ = some (.string ByteArray.empty) := hr.cell 1
      have e2 : U.cell? ⟨w.heap.size, 2, none⟩ = some (.slice none 0 0) := hr.cell 2
      have e3 : U.cell? ⟨w.heap.size, 3, none⟩ = some (.slice none 0 0) := hr.cell 3
      have e4 : U.cell? ⟨w.heap.size, 4, none⟩ = some (.int .i64 0) := hr.cell 4
      exact bodyPost_ret (v := .tuple #[.agg #[.int .i64 0, .string ByteArray.empty, .slice none 0 0, .slice none 0 0, .int .i64 0], .bool false]) (by simp [results, Tryz.results10, go_sem, e0, e1, e2, e3, e4]) rfl (by rw [HRZ.out]; exact hE)
  · have hzb : (z != 0) = true := by simp [hz]
    have HQ : Hid (PickIs t z m S (ndZero, false)) := Or.inr ⟨Or.inl hz, rfl⟩
    clear hz
    have r0 : w1.cell? ⟨w.heap.size, 0, none⟩ = some (.int .i64 0) := H1.out.1.cell 0
    have r1 : w1.cell? ⟨w.heap.size, 1, none⟩ = some (.string ByteArray.empty) := H1.out.1.cell 1
    have r2 : w1.cell? ⟨w.heap.size, 2, none⟩ = some (.slice none 0 0) := H1.out.1.cell 2
    have r3 : w1.cell? ⟨w.heap.size, 3, none⟩ = some (.slice none 0 0) := H1.out.1.cell 3
    have r4 : w1.cell? ⟨w.heap.size, 4, none⟩ = some (.int .i64 0) := H1.out.1.cell 4
    have g0 := H1.out.1.frozen 0
    have g1 := H1.out.1.frozen 1
    have g2 := H1.out.1.frozen 2
    have g3 := H1.out.1.frozen 3
    have g4 := H1.out.1.frozen 4
    have HE : Hid (∀ U, U = (((((w1.setCell ⟨w.heap.size, 0, none⟩ (.int .i64 0)).setCell ⟨w.heap.size, 1, none⟩ (.string ByteArray.empty)).setCell ⟨w.heap.size, 2, none⟩ (.slice none 0 0)).setCell ⟨w.heap.size, 3, none⟩ (.slice none 0 0)).setCell ⟨w.heap.size, 4, none⟩ (.int .i64 0)).alloc (.cells #[.slice lt.a t.n lt.c, .int .i64 t.now] 44) → Blk U w.heap.size #[.int .i64 0, .string ByteArray.empty, .slice none 0 0, .slice none 0 0, .int .i64 0] 28 ∧ PickPost w (t, z) m S (.returned (.tuple #[.agg #[.int .i64 0, .string ByteArray.empty, .slice none 0 0, .slice none 0 0, .int .i64 0], .bool false])) U) := fun U e => by
      subst e
      have hb : Below w.heap.size w (((((w1.setCell ⟨w.heap.size, 0, none⟩ (.int .i64 0)).setCell ⟨w.heap.size, 1, none⟩ (.string ByteArray.empty)).setCell ⟨w.heap.size, 2, none⟩ (.slice none 0 0)).setCell ⟨w.heap.size, 3, none⟩ (.slice none 0 0)).setCell ⟨w.heap.size, 4, none⟩ (.int .i64 0)) := bel5p H1.out.2.1 (Nat.le_refl _) _ _ _ _ _
      exact ⟨(blk5p H1.out.1 _ _ _ _ _).alloc _, hb.alloc hb.size _, (ndZero, false), ⟨none, 0, none, 0⟩, HQ.out, rfl, ownNd_zero _ _⟩
    clear HV
    have n0 : w.heap.size < w1.heap.size := by omega
    have m0 : w.heap.size ≠ w1.heap.size := by omega
    go_wp2_with fail
    refine end_world (F := fun U => Blk U w.heap.size #[.int .i64 0, .string ByteArray.empty, .slice none 0 0, .slice none 0 0, .int .i64 0] 28 ∧ PickPost w (t, z) m S (.returned (.tuple #[.agg #[.int .i64 0, .string ByteArray.empty, .slice none 0 0, .slice none 0 0, .int .i64 0], .bool false])) U) (HE.out _ rfl) ?_
    clear HE r0 r1 r2 r3 r4 g0 g1 g2 g3 g4
    rintro U ⟨hr, hE⟩
    have e0 : U.cell? ⟨w.heap.size, 0, none⟩ = some (.int .i64 0) := hr.cell 0
    have e1 : U.cell? ⟨w.heap.size, 1, none⟩ = some (.string ByteArray.empty) := hr.cell 1
    have e2 : U.cell? ⟨w.heap.size, 2, none⟩ = some (.slice none 0 0) := hr.cell 2
    have e3 : U.cell? ⟨w.heap.size, 3, none⟩ = some (.slice none 0 0) := hr.cell 3
    have e4 : U.cell? ⟨w.heap.size, 4, none⟩ = some (.int .i64 0) := hr.cell 4
    exact bodyPost_ret (v := .tuple #[.agg #[.int .i64 0, .string ByteArray.empty, .slice none 0 0, .slice none 0 0, .int .i64 0], .bool false]) (by simp [results, Tryz.results10, go_sem, e0, e1, e2, e3, e4]) rfl (by rw [HRZ.out]; exact hE)
end Go.Proofs.YtakifcobofkheabGreatDoor

/-
  Words of a place as an answer: marking it, and whether it is held.
-/
namespace Go.Proofs.YtakifcobofkheabGreatDoor
open Go.RowKit Go.Deep
set_option linter.unusedVariables false
set_option linter.unusedSimpArgs false

/-- The place with marks from k on in what it points to. -/
def mkNd (d : Nd) (k : Nat) : Nd := { d with names := marks k, kids := fun i => ((k + d.nn + i : Nat) : Int) }
def ndC (d : Nd) (l : Loc) : Array Value := #[.int .i64 d.kind, .string d.text, .slice l.nA d.nn l.nc, .slice l.kA d.kn l.kc, .int .i64 d.turn]
theorem ndC_cells {W : World} {b : Nat} {d : Nd} {l : Loc} {ty : TypeId} (h : Blk W b (ndC d l) ty) : W.cell? ⟨b, 0, none⟩ = some (.int .i64 d.kind) ∧ W.cell? ⟨b, 1, none⟩ = some (.string d.text) ∧ W.cell? ⟨b, 2, none⟩ = some (.slice l.nA d.nn l.nc) ∧ W.cell? ⟨b, 3, none⟩ = some (.slice l.kA d.kn l.kc) ∧ W.cell? ⟨b, 4, none⟩ = some (.int .i64 d.turn) := ⟨h.cell 0, h.cell 1, h.cell 2, h.cell 3, h.cell 4⟩

theorem OwnNd.nIn {W : World} {B : Nat} {d : Nd} {l : Loc} (h : OwnNd W B d l) : NdIn W d l := ⟨ownd_strs h.names, ownd_ints h.kids⟩

structure SmNd (d : Nd) : Prop where
  fits : d.Fits
  nn : d.nn ≤ 1000000
  kn : d.kn ≤ 1000000

set_option maxHeartbeats 2000000 in
theorem markPl (d : Nd) (l : Loc) (k B H : Nat) (w : World) (h : OwnNd w B d l) (hs : SmNd d) (hH : ∀ b, (Value.slice l.nA d.nn l.nc).ownBlock = some b ∨ (Value.slice l.kA d.kn l.kc).ownBlock = some b → b < H) (hHw : H ≤ w.heap.size) (hBw : B ≤ w.heap.size) (hk1 : 1 ≤ k) (hk : k ≤ 10000000) :
    Calls Tryz.prog 16 #[ndV d l, .int .i64 (k : Int)] w fun e w' => e = .returned (.int .i64 ((k + d.nn + d.kn : Nat) : Int)) ∧ Fr B H w w' ∧ OwnNd w' B (mkNd d k) l := by
  have hnn := hs.nn
  have hkn := hs.kn
  unfold ndV
  go_enter Tryz.func16, Tryz.ntmps16
  go_wp2_with fail
  refine at_world (F := New1 w (ndC d l) 28) (new1 w _ _) ?_
  rintro W ⟨hp, hb, hsz⟩
  have h1 := h.below hb
  have hf0 : Fr B H w W := (Fr.refl B H w).below hBw hb
  refine (markStringS_own l.nA d.nn l.nc k B d.names W h1.names (by omega) hk1 (by omega)).mono ?_
  rintro e W2 ⟨rfl, hown, hg⟩
  have hf2 : Fr B H w W2 := hf0.grow hg (by omega) (fun b e => ⟨(owns_block h.names e).1, hH b (Or.inl e)⟩)
  have hkids : W2.ownsRow B 3 1 (.slice l.kA d.kn l.kc) d.kn (intv0 d.kn d.kids) := owns_same h1.kids fun b e => hg.block b (owns_block h1.kids e).2 (fun e' => h.apart b e'.symm e)
  have hp2 : Blk W2 w.heap.size (ndC d l) 28 := hp.of_block (hg.block _ hp.lt (fun e => by have := hH _ (Or.inl e.symm); omega))
  have HP : Hid (Fr B H w W2 ∧ W2.ownsRow B 9 1 (.slice l.nA d.nn l.nc) d.nn (strv (lst d.nn (marks k))) ∧ W2.ownsRow B 3 1 (.slice l.kA d.kn l.kc) d.kn (intv0 d.kn d.kids) ∧ B ≤ W2.heap.size) := ⟨hf2, hown, hkids, by have := hf2.bel.size; omega⟩
  obtain ⟨c0, c1, c2, c3, c4⟩ := ndC_cells hp2
  clear hp hb hsz h1 hf0 hown hg hf2 hkids hp2
  go_wp2_with fail
  refine (markIntS_own l.kA d.kn l.kc (k + d.nn) B d.kids W2 HP.out.2.2.1 (by omega) (by omega)).mono ?_
  rintro e W3 ⟨rfl, hown, hg⟩
  have HX : Hid (Fr B H w W3 ∧ OwnNd W3 B (mkNd d k) l) := ⟨HP.out.1.grow hg HP.out.2.2.2 (fun b e => ⟨(owns_block h.kids e).1, hH b (Or.inr e)⟩), owns_same HP.out.2.1 fun b e => hg.block b (owns_block HP.out.2.1 e).2 (fun e' => h.apart b e e'.symm), hown, h.apart⟩
  clear hown hg HP c0 c1 c2 c3 c4
  go_wp2
  go_ret
  exact ⟨rfl, HX.out.1, HX.out.2⟩

set_option maxHeartbeats 2000000 in
theorem heldPl (d : Nd) (l : Loc) (k B : Nat) (w : World) (h : OwnNd w B (mkNd d k) l) (hs : SmNd d) (hk1 : 1 ≤ k) (hk : k ≤ 10000000) :
    Calls Tryz.prog 17 #[ndV d l, .int .i64 (k : Int)] w fun e w' => e = .returned (.int .i64 ((k + d.nn + d.kn : Nat) : Int)) ∧ Below w.heap.size w w' := by
  have hnn := hs.nn
  have hkn := hs.kn
  unfold ndV
  go_enter Tryz.func17, Tryz.ntmps17
  go_wp2_with fail
  refine at_world (F := New1 w (ndC d l) 28) (new1 w _ _) ?_
  rintro W ⟨hp, hb, hsz⟩
  have h1 := h.below hb
  refine (heldStringS_any l.nA d.nn l.nc k W (ownd_strs h1.names) (by omega) hk1 (by omega)).mono ?_
  rintro e W2 ⟨rfl, hb2⟩
  have HP : Hid (OwnNd W2 B (mkNd d k) l ∧ Below w.heap.size w W2) := ⟨h1.below hb2, hb.trans (hb2.mono (by omega))⟩
  obtain ⟨c0, c1, c2, c3, c4⟩ := ndC_cells (hp.below hb2 (by omega))
  have HI2 : Hid (IsInts W2 l.kA d.kn (fun i => ((k + d.nn + i : Nat) : Int))) := ownd_ints HP.out.1.kids
  obtain ⟨q, hq⟩ : ∃ q, q = k + d.nn := ⟨_, rfl⟩
  have HQ : Hid (q = k + d.nn) := hq
  rw [← hq]
  rw [← hq] at HI2
  have hkb : decide (((q : Nat) : Int) < 0) = false := by simp
  clear hq
  clear hp hb hsz h1 hb2
  go_wp2_with fail
  refine (heldIntS_own l.kA d.kn l.kc q W2 HI2.out (by omega) (by have := HQ.out; omega)).mono ?_
  rintro e W3 ⟨rfl, rfl⟩
  obtain ⟨q2, hq2⟩ : ∃ q2, q2 = q + d.kn := ⟨_, rfl⟩
  have HQ2 : Hid (q2 = q + d.kn) := hq2
  rw [← hq2]
  have hkb2 : decide (((q2 : Nat) : Int) < 0) = false := by simp
  clear hq2
  clear c0 c1 c2 c3 c4
  go_wp2
  go_ret
  exact ⟨by rw [HQ2.out, HQ.out]; rfl, HP.out.2⟩
end Go.Proofs.YtakifcobofkheabGreatDoor

/-
  What the helpers of the exact laws do at a list of what was kept.
-/
namespace Go.Proofs.YtakifcobofkheabGreatDoor
open Go.RowKit Go.Deep
set_option linter.unusedVariables false
set_option linter.unusedSimpArgs false

set_option maxHeartbeats 1000000 in
theorem szDumpS_any (a : Option Addr) (n c : Nat) (D : Nat → Dp) (L : Nat → DLoc) (left : Int) (w : World) (hS : IsDps w a n D L) (hf : FitDps n D) (hn : n ≤ maxLen) (h0 : 0 ≤ left) (h1 : left ≤ 1048576) :
    Calls Tryz.prog 5 #[.slice a n c, .int .i64 left] w fun e w' => Below w.heap.size w w' ∧ ∃ r : Int, e = .returned (.int .i64 r) ∧ r ≤ left ∧ (0 ≤ r → r + n + recsTo D n ≤ left) := by
  unfold maxLen at hn
  by_cases hneg : left - n < 0
  · have hneg' : decide (left - (n : Int) < 0) = true := decide_eq_true hneg
    go_enter Tryz.func5, Tryz.ntmps5
    go_wp2
    go_ret
    exact ⟨Below.refl _ _, -1, rfl, by omega, fun h => by omega⟩
  · have hneg' : decide (left - (n : Int) < 0) = false := decide_eq_false hneg
    go_enter Tryz.func5, Tryz.ntmps5
    go_wp2
    go_loopw [1, 5] (fun v i wr => ∃ (k : Nat) (r : Int), k ≤ n ∧ i = .int .i64 k ∧ v = .int .i64 r ∧ 0 ≤ r ∧ r ≤ left - n ∧ r + recsTo D k ≤ left - n ∧ Below w.heap.size w wr) (fun _ i _ => n - (intOf i).toNat)
    case atStart => exact ⟨0, left - n, Nat.zero_le _, rfl, rfl, by omega, by omega, by simp [recsTo], Below.refl _ _⟩
    case round =>
      obtain ⟨k, r, hk, rfl, rfl, hr0, hr1, hr2, hb⟩ := hrel
      have HB : Hid (Below w.heap.size w wr ∧ r + recsTo D k ≤ left - n) := ⟨hb, hr2⟩
      have hge : w.heap.size ≤ wr.heap.size := hb.size
      by_cases hlt : k < n
      · obtain ⟨b, off, rfl, hlt2, hc⟩ := (hS.below (Nat.le_refl _) hb).at hlt
        obtain ⟨c0, c1, c2, c3, hI⟩ := hc k hlt
        have hlti : (k : Int) < (n : Int) := by omega
        clear hc hb hr2
        go_wp2_with fail
        refine (szDump_any (D k) (L k) r wr hI (hf k hlt) hr0 (by omega)).mono ?_
        rintro e w1 ⟨hb1, r', rfl, hr1', hr2'⟩
        have HB1 : Hid (Below w.heap.size w w1 ∧ (0 ≤ r' → r' + (D k).size ≤ r)) := ⟨HB.out.1.trans (hb1.mono hge), hr2'⟩
        clear hb1 hr2' c0 c1 c2 c3
        by_cases hr3 : r' < 0
        · have hr3' : decide (r' < 0) = true := decide_eq_true hr3
          go_wp2
          go_ret
          exact ⟨HB1.out.1, -1, rfl, by omega, fun h => by omega⟩
        · have hr3' : decide (r' < 0) = false := decide_eq_false hr3
          have HN : Hid (r' + (recsTo D (k + 1) : Nat) ≤ left - n) := by
            have h1 := HB1.out.2 (by omega)
            have h2 := HB.out.2
            show _ ≤ _
            rw [recsTo_succ]
            omega
          go_wp2
          go_roundw
          case rel => exact ⟨k + 1, r', by omega, by go_num, rfl, by omega, by omega, HN.out, HB1.out.1⟩
          case measure => simp [intOf] <;> omega
      · obtain rfl : k = n := by omega
        clear hb hr2
        go_wp2
        go_ret
        exact ⟨HB.out.1, r, rfl, by omega, fun _ => by have := HB.out.2; omega⟩

set_option maxHeartbeats 1000000 in
theorem eqDumpS_any (a a' : Option Addr) (n c m c' : Nat) (D E : Nat → Dp) (L M : Nat → DLoc) (w : World) (hS : IsDps w a n D L) (hT : IsDps w a' m E M) (hf : FitDps n D) (hf' : FitDps m E) (hn : n ≤ maxLen) (hm : m ≤ maxLen) :
    Calls Tryz.prog 12 #[.slice a n c, .slice a' m c'] w fun e w' => Below w.heap.size w w' ∧ e = .returned (.bool (decide (n = m) && sameDps n D E)) := by
  unfold maxLen at hn hm
  by_cases hne : n = m
  · subst hne
    have hb : ((n : Int) != (n : Int)) = false := by simp
    go_enter Tryz.func12, Tryz.ntmps12
    go_wp2
    go_loopw [5] (fun i wr => ∃ k : Nat, k ≤ n ∧ i = .int .i64 k ∧ Below w.heap.size w wr ∧ sameDps k D E = true) (fun i _ => n - (intOf i).toNat)
    case atStart => exact ⟨0, Nat.zero_le _, rfl, Below.refl _ _, rfl⟩
    case round =>
      obtain ⟨k, hk, rfl, hbel, heq⟩ := hrel
      have HE : Hid (sameDps k D E = true) := heq
      clear heq
      by_cases hlt : k < n
      · obtain ⟨b, off, rfl, hlt2, hc⟩ := (hS.below (Nat.le_refl _) hbel).at hlt
        obtain ⟨b', off', rfl, hlt2', hc'⟩ := (hT.below (Nat.le_refl _) hbel).at hlt
        obtain ⟨c0, c1, c2, c3, hI⟩ := hc k hlt
        obtain ⟨d0, d1, d2, d3, hI'⟩ := hc' k hlt
        have hlti : (k : Int) < (n : Int) := by omega
        have C0 := Lat.cell (B := wr.heap.size) c0 hlt2
        have C1 := Lat.cell (B := wr.heap.size) c1 hlt2
        have C2 := Lat.cell (B := wr.heap.size) c2 hlt2
        have C3 := Lat.cell (B := wr.heap.size) c3 hlt2
        have D0 := Lat.cell (B := wr.heap.size) d0 hlt2'
        have D1 := Lat.cell (B := wr.heap.size) d1 hlt2'
        have D2 := Lat.cell (B := wr.heap.size) d2 hlt2'
        have D3 := Lat.cell (B := wr.heap.size) d3 hlt2'
        have hcall : Hid (∀ n : Lat wr.heap.size wr, Calls Tryz.prog 35 #[dpV (D k) (L k), dpV (E k) (M k)] n.val fun e w'' => e = .returned (.bool ((D k).same (E k))) ∧ ∃ m : Lat wr.heap.size wr, w'' = m.val) := fun n =>
          Calls.lat_of (eqDump_any (D k) (E k) (L k) (M k) n.val (hI.below (Nat.le_refl _) n.bel) (hI'.below (Nat.le_refl _) n.bel) (hf k hlt) (hf' k hlt)) (fun e w' h => ⟨h.2, h.1.mono n.bel.size⟩)
        clear hc hc' c0 c1 c2 c3 d0 d1 d2 d3 hI hI'
        have HBL : Hid (Below w.heap.size w wr) := hbel
        clear hbel
        go_wp2_with fail
        refine wp_region_lat (B := wr.heap.size) (w0 := wr) (by kernel_rfl) (by kernel_rfl) (Below.refl _ _) ?_
        repeat (go_big_quiet_step (exact hcall.out _))
        refine wpQuiet_nil ?_
        rintro _ ⟨nq, rfl⟩
        have hB : Hid (Below w.heap.size w nq.val) := HBL.out.trans (nq.bel.mono HBL.out.size)
        clear hcall C0 C1 C2 C3 D0 D1 D2 D3
        cases hq : (D k).same (E k) with
        | false =>
          have HX : Hid (false = sameDps n D E) := sameDps_not n k D E hlt hq
          clear hq
          go_wp2
          go_ret
          exact ⟨hB.out, ret_bool (by rw [← HX.out]; simp)⟩
        | true =>
          have HX : Hid (sameDps (k + 1) D E = true) := sameDps_succ k D E HE.out hq
          clear hq
          go_wp2
          go_roundw
          case rel => exact ⟨k + 1, by omega, by go_num, hB.out, HX.out⟩
          case measure => simp [intOf]; omega
      · have hkn : k = n := by omega
        have HK : Hid (k = n) := hkn
        have HBL : Hid (Below w.heap.size w wr) := hbel
        clear hkn hbel
        go_wp2
        go_ret
        exact ⟨HBL.out, ret_bool (by rw [← HK.out, HE.out]; simp)⟩
  · have hb : ((n : Int) != (m : Int)) = true := by simp; omega
    go_enter Tryz.func12, Tryz.ntmps12
    go_wp2
    go_ret
    exact ⟨Below.refl _ _, ret_bool (by simp [hne])⟩
end Go.Proofs.YtakifcobofkheabGreatDoor

/-
  A list of what was kept, in memory of one's own: a copy of it.
-/
namespace Go.Proofs.YtakifcobofkheabGreatDoor
open Go.RowKit Go.Deep
set_option linter.unusedVariables false
set_option linter.unusedSimpArgs false

/-- Block g holds n of them, the first k laid; the parts of each lie in blocks of their own, those of i from H i on and below H (i + 1). -/
structure DpRow (w : World) (g n k : Nat) (D : Nat → Dp) (L : Nat → DLoc) (H : Nat → Nat) : Prop where
  row : ∃ f, w.rowIs g 64 (n * 4) f ∧ ∀ i, i < k → f (i * 4) = .int .i64 (D i).since ∧ f (i * 4 + 1) = .int .i64 (D i).date ∧ f (i * 4 + 2) = .slice (L i).lA (D i).ln (L i).lc ∧ f (i * 4 + 3) = .slice (L i).iA (D i).m (L i).ic
  own : ∀ i, i < k → OwnDp w (H i) (D i) (L i)
  blk : ∀ i, i < k → ∀ d b, d < 2 + 2 * (D i).m → (valD (.slice (L i).lA (D i).ln (L i).lc) (.slice (L i).iA (D i).m (L i).ic) (D i).nd (L i).L d).ownBlock = some b → b < H (i + 1)
  up : ∀ i, i < k → H i ≤ H (i + 1)
  top : H k ≤ w.heap.size
  low : g < H 0

theorem DpRow.mono {w : World} {g n k : Nat} {D : Nat → Dp} {L : Nat → DLoc} {H : Nat → Nat} (h : DpRow w g n k D L H) : ∀ {i j : Nat}, i ≤ j → j ≤ k → H i ≤ H j := by
  intro i j hij
  induction hij with
  | refl => intro _; exact Nat.le_refl _
  | step hij ih =>
    rename_i m
    intro hm
    exact Nat.le_trans (ih (by omega)) (h.up m (by omega))

theorem DpRow.recs {w : World} {g n : Nat} {D : Nat → Dp} {L : Nat → DLoc} {H : Nat → Nat} (h : DpRow w g n n D L H) : IsDps w (some ⟨g, 0, none⟩) n D L := by
  obtain ⟨f, hr, hf⟩ := h.row
  refine Or.inr ⟨g, 0, rfl, hr.lt, fun i hi => ?_⟩
  obtain ⟨f0, f1, f2, f3⟩ := hf i hi
  rw [Nat.zero_add, ← f0, ← f1, ← f2, ← f3]
  exact ⟨hr.cell (by omega), hr.cell (by omega), hr.cell (by omega), hr.cell (by omega), (h.own i hi).dpIn⟩

theorem DpRow.below {w w' : World} {g n k : Nat} {D : Nat → Dp} {L : Nat → DLoc} {H : Nat → Nat} (h : DpRow w g n k D L H) (hb : Below w.heap.size w w') : DpRow w' g n k D L H := by
  obtain ⟨f, hr, hf⟩ := h.row
  exact ⟨⟨f, rowIs_below hr hb hr.lt, hf⟩, fun i hi => OD.below (h.own i hi) hb, h.blk, h.up, Nat.le_trans h.top hb.size, h.low⟩

theorem fourD_ne {i k r s : Nat} (h : i ≠ k) (hr : r < 4) (hs : s < 4) : i * 4 + r ≠ k * 4 + s := by omega

theorem DpRow.step {w : World} {g n k : Nat} {D : Nat → Dp} {L : Nat → DLoc} {H : Nat → Nat} (h : DpRow w g n k D L H) {l : DLoc} (hk : OwnDp w (H k) (D k) l) :
    DpRow ((((w.setCell ⟨g, k * 4, none⟩ (.int .i64 (D k).since)).setCell ⟨g, k * 4 + 1, none⟩ (.int .i64 (D k).date)).setCell ⟨g, k * 4 + 2, none⟩ (.slice l.lA (D k).ln l.lc)).setCell ⟨g, k * 4 + 3, none⟩ (.slice l.iA (D k).m l.ic)) g n (k + 1) D (fun i => if i = k then l else L i) (fun i => if i = k + 1 then w.heap.size else H i) := by
  have hlow := h.low
  have hm : ∀ i, i ≤ k → g < H i := fun i hi => Nat.lt_of_lt_of_le hlow (h.mono (Nat.zero_le _) hi)
  have htop := h.top
  obtain ⟨f, hr, hf⟩ := h.row
  refine ⟨⟨_, ((((hr.set _ _).set _ _).set _ _).set _ _), fun i hi => ?_⟩, fun i hi => ?_, fun i hi d b hd hb => ?_, fun i hi => ?_, ?_, ?_⟩
  · by_cases e : i = k
    · subst e; simp
    · have := hf i (by omega)
      have n0 : ∀ r s, r < 4 → s < 4 → ¬ i * 4 + r = k * 4 + s := fun r s hr hs => fourD_ne e hr hs
      have z0 : ∀ s, s < 4 → ¬ i * 4 = k * 4 + s := fun s hs => n0 0 s (by omega) hs
      have z1 : ∀ r, r < 4 → ¬ i * 4 + r = k * 4 := fun r hr => n0 r 0 hr (by omega)
      have z2 : ¬ i * 4 = k * 4 := n0 0 0 (by omega) (by omega)
      simp only [if_neg e, z0 1 (by omega), z0 2 (by omega), z0 3 (by omega), z1 1 (by omega), z1 2 (by omega), z1 3 (by omega), z2, n0 1 1 (by omega) (by omega), n0 1 2 (by omega) (by omega), n0 1 3 (by omega) (by omega), n0 2 1 (by omega) (by omega), n0 2 2 (by omega) (by omega), n0 2 3 (by omega) (by omega), n0 3 1 (by omega) (by omega), n0 3 2 (by omega) (by omega), n0 3 3 (by omega) (by omega), if_false]
      exact this
  · simp only [show i ≠ k + 1 by omega, if_false]
    have hg : g < H i := hm i (by omega)
    by_cases e : i = k
    · subst e
      simp only [if_true]
      exact ((((OD.off hk _ hg).off _ hg).off _ hg).off _ hg)
    · simp only [if_neg e]
      exact ((((OD.off (h.own i (by omega)) _ hg).off _ hg).off _ hg).off _ hg)
  · by_cases e : i = k
    · subst e
      simp only [if_true] at hb ⊢
      exact (owns_block (hk.rows.own d hd) hb).2
    · simp only [if_neg e] at hb
      have := h.blk i (by omega) d b hd hb
      simp only [show i + 1 ≠ k + 1 by omega, if_false]
      exact this
  · by_cases e : i = k
    · subst e
      simp only [show i ≠ i + 1 by omega, if_false, if_true]
      exact htop
    · simp only [show i ≠ k + 1 by omega, show i + 1 ≠ k + 1 by omega, if_false]
      exact h.up i (by omega)
  · simp [World.setCell]
  · simp only [show (0 : Nat) ≠ k + 1 by omega, if_false]
    exact hlow

set_option maxHeartbeats 2000000 in
theorem toDumpS_own (a : Option Addr) (n c : Nat) (D : Nat → Dp) (L : Nat → DLoc) (w : World) (hS : IsDps w a n D L) (hn : n ≤ 1048576) (hsz : recsTo D n ≤ 1048576) :
    Calls Tryz.prog 8 #[.slice a n c] w fun e w' => e = .returned (.slice (some ⟨w.heap.size, 0, none⟩) n n) ∧ Below w.heap.size w w' ∧ ∃ L' H, DpRow w' w.heap.size n n D L' H := by
  have hmk := fun w => run_make_wide (P := Tryz.prog) 31 64 _ 64 4 Tryz.underlying31 infoDumpE .i64 .i64 n (by omega) (by omega) w
  go_enter Tryz.func8, Tryz.ntmps8
  go_wp2
  go_loopw [4] (fun i wr => ∃ (k : Nat) (L' : Nat → DLoc) (H : Nat → Nat), k ≤ n ∧ i = .int .i64 k ∧ Below w.heap.size w wr ∧ DpRow wr w.heap.size n k D L' H) (fun i _ => n - (intOf i).toNat)
  case atStart =>
    obtain ⟨g, hg⟩ := rowIs_wide w #[.int .i64 0, .int .i64 0, .slice none 0 0, .slice none 0 0] (n * 4) 64
    exact ⟨0, L, fun _ => w.heap.size + 1, Nat.zero_le _, rfl, (Below.refl _ _).alloc (Nat.le_refl _) _, ⟨g, hg, fun i hi => by omega⟩, fun i hi => by omega, fun i hi => by omega, fun i hi => by omega, by simp, by omega⟩
  case round =>
    obtain ⟨k, L', H, hk, rfl, hb, hrow⟩ := hrel
    by_cases hlt : k < n
    · obtain ⟨b, off, rfl, hlt2, hc⟩ := (hS.below (Nat.le_refl _) hb).at hlt
      obtain ⟨c0, c1, c2, c3, hI⟩ := hc k hlt
      clear hc
      go_wp2_with fail
      refine (toDump_own (D k) (L k) wr hI (by have := recs_size D hlt; omega)).mono ?_
      rintro e w1 ⟨l', rfl, hb1, hod⟩
      unfold dpV
      have hrow1 := hrow.below hb1
      have hB := hb.trans (hb1.mono hb.size)
      have HR : Hid (DpRow w1 w.heap.size n k D L' H ∧ OwnDp w1 (H k) (D k) l' ∧ Below w.heap.size w w1) := ⟨hrow1, OD.lower hod hrow.top, hB⟩
      obtain ⟨f, hr, _⟩ := hrow1.row
      have d0 := hr.cell (show k * 4 < n * 4 by omega)
      have d1 := hr.cell (show k * 4 + 1 < n * 4 by omega)
      have d2 := hr.cell (show k * 4 + 2 < n * 4 by omega)
      have d3 := hr.cell (show k * 4 + 3 < n * 4 by omega)
      have e0 := hr.frozen (k * 4)
      have e1 := hr.frozen (k * 4 + 1)
      have e2 := hr.frozen (k * 4 + 2)
      have e3 := hr.frozen (k * 4 + 3)
      clear hb hrow hrow1 hr hB hb1 hod hI c0 c1 c2 c3
      go_wp2
      go_roundw
      case rel => exact ⟨k + 1, _, _, by omega, by go_num, bel_put (bel_put (bel_put (bel_put HR.out.2.2 _ (Nat.le_refl _)) _ (Nat.le_refl _)) _ (Nat.le_refl _)) _ (Nat.le_refl _), HR.out.1.step HR.out.2.1⟩
      case measure => simp [intOf]; omega
    · have hkn : k = n := by omega
      have HR : Hid (Below w.heap.size w wr ∧ ∃ L' H, DpRow wr w.heap.size n n D L' H) := ⟨hb, L', H, hkn ▸ hrow⟩
      clear hb hrow hkn
      go_wp2
      go_ret
      exact ⟨rfl, HR.out.1, HR.out.2⟩
end Go.Proofs.YtakifcobofkheabGreatDoor

/-
  What the helpers of the exact laws do at what was kept, with its levels.
-/
namespace Go.Proofs.YtakifcobofkheabGreatDoor
open Go.RowKit Go.Deep
set_option linter.unusedVariables false
set_option linter.unusedSimpArgs false

set_option maxHeartbeats 1000000 in
theorem szRec_any (v : Int) (d : Dp) (l : DLoc) (left : Int) (w : World) (hI : DpIn w d l) (hf : d.Fits) (h0 : 0 ≤ left) (h1 : left ≤ 1048576) :
    Calls Tryz.prog 42 #[recV v d l, .int .i64 left] w fun e w' => Below w.heap.size w w' ∧ ∃ r : Int, e = .returned (.int .i64 r) ∧ r ≤ left ∧ (0 ≤ r → r + d.size ≤ left) := by
  unfold recV
  go_enter Tryz.func42, Tryz.ntmps42
  go_wp2_with fail
  refine at_world (F := New1 w _ _) (new1 w _ _) ?_
  rintro W ⟨hp, hb, hs⟩
  refine (szDump_any d l left W (hI.below (Nat.le_refl _) hb) hf h0 h1).mono ?_
  rintro e w1 ⟨hb1, r, rfl, hr1, hr2⟩
  have HB : Hid (Below w.heap.size w w1 ∧ (0 ≤ r → r + d.size ≤ left)) := ⟨hb.trans (hb1.mono (by omega)), hr2⟩
  clear hb hb1 hr2 hp hs
  by_cases hr3 : r < 0
  · have hr3' : decide (r < 0) = true := decide_eq_true hr3
    go_wp2
    go_ret
    exact ⟨HB.out.1, -1, rfl, by omega, fun h => by omega⟩
  · have hr3' : decide (r < 0) = false := decide_eq_false hr3
    go_wp2
    go_ret
    exact ⟨HB.out.1, r, rfl, hr1, HB.out.2⟩

set_option maxHeartbeats 1000000 in
theorem szRecS_any (a : Option Addr) (n c : Nat) (V : Nat → Int) (D : Nat → Dp) (L : Nat → DLoc) (left : Int) (w : World) (hS : IsRecs w a n V D L) (hf : FitRecs n V D) (hn : n ≤ maxLen) (h0 : 0 ≤ left) (h1 : left ≤ 1048576) :
    Calls Tryz.prog 18 #[.slice a n c, .int .i64 left] w fun e w' => Below w.heap.size w w' ∧ ∃ r : Int, e = .returned (.int .i64 r) ∧ r ≤ left ∧ (0 ≤ r → r + n + recsTo D n ≤ left) := by
  unfold maxLen at hn
  by_cases hneg : left - n < 0
  · have hneg' : decide (left - (n : Int) < 0) = true := decide_eq_true hneg
    go_enter Tryz.func18, Tryz.ntmps18
    go_wp2
    go_ret
    exact ⟨Below.refl _ _, -1, rfl, by omega, fun h => by omega⟩
  · have hneg' : decide (left - (n : Int) < 0) = false := decide_eq_false hneg
    go_enter Tryz.func18, Tryz.ntmps18
    go_wp2
    go_loopw [1, 5] (fun v i wr => ∃ (k : Nat) (r : Int), k ≤ n ∧ i = .int .i64 k ∧ v = .int .i64 r ∧ 0 ≤ r ∧ r ≤ left - n ∧ r + recsTo D k ≤ left - n ∧ Below w.heap.size w wr) (fun _ i _ => n - (intOf i).toNat)
    case atStart => exact ⟨0, left - n, Nat.zero_le _, rfl, rfl, by omega, by omega, by simp [recsTo], Below.refl _ _⟩
    case round =>
      obtain ⟨k, r, hk, rfl, rfl, hr0, hr1, hr2, hb⟩ := hrel
      have HB : Hid (Below w.heap.size w wr ∧ r + recsTo D k ≤ left - n) := ⟨hb, hr2⟩
      have hge : w.heap.size ≤ wr.heap.size := hb.size
      by_cases hlt : k < n
      · obtain ⟨b, off, rfl, hlt2, hc⟩ := (hS.below (Nat.le_refl _) hb).at hlt
        obtain ⟨c0, c1, c2, c3, c4, hI⟩ := hc k hlt
        have hlti : (k : Int) < (n : Int) := by omega
        clear hc hb hr2
        go_wp2_with fail
        refine (szRec_any (V k) (D k) (L k) r wr hI (hf k hlt).2 hr0 (by omega)).mono ?_
        rintro e w1 ⟨hb1, r', rfl, hr1', hr2'⟩
        have HB1 : Hid (Below w.heap.size w w1 ∧ (0 ≤ r' → r' + (D k).size ≤ r)) := ⟨HB.out.1.trans (hb1.mono hge), hr2'⟩
        clear hb1 hr2' c0 c1 c2 c3 c4
        by_cases hr3 : r' < 0
        · have hr3' : decide (r' < 0) = true := decide_eq_true hr3
          go_wp2
          go_ret
          exact ⟨HB1.out.1, -1, rfl, by omega, fun h => by omega⟩
        · have hr3' : decide (r' < 0) = false := decide_eq_false hr3
          have HN : Hid (r' + (recsTo D (k + 1) : Nat) ≤ left - n) := by
            have h1 := HB1.out.2 (by omega)
            have h2 := HB.out.2
            show _ ≤ _
            rw [recsTo_succ]
            omega
          go_wp2
          go_roundw
          case rel => exact ⟨k + 1, r', by omega, by go_num, rfl, by omega, by omega, HN.out, HB1.out.1⟩
          case measure => simp [intOf] <;> omega
      · obtain rfl : k = n := by omega
        clear hb hr2
        go_wp2
        go_ret
        exact ⟨HB.out.1, r, rfl, by omega, fun _ => by have := HB.out.2; omega⟩

set_option maxHeartbeats 1000000 in
theorem eqRec_any (v u : Int) (d e : Dp) (l k : DLoc) (w : World) (hI : DpIn w d l) (hI' : DpIn w e k) (hf : d.Fits) (hf' : e.Fits) :
    Calls Tryz.prog 47 #[recV v d l, recV u e k] w fun r w' => Below w.heap.size w w' ∧ r = .returned (.bool (sameRec v u d e)) := by
  unfold recV sameRec
  cases h1 : (v == u) with
  | false =>
    have hnb : (v != u) = true := by simp only [bne, h1]; rfl
    clear h1
    go_enter Tryz.func47, Tryz.ntmps47
    go_wp2_with fail
    go_ret
    exact ⟨((Below.refl _ _).alloc (Nat.le_refl _) _).alloc (by simp) _, rfl⟩
  | true =>
    have hnb : (v != u) = false := by simpa [bne] using h1
    clear h1
    go_enter Tryz.func47, Tryz.ntmps47
    go_wp2_with fail
    refine at_world (F := New2 w _ _ _ _) (new2 w _ _ _ _) ?_
    rintro W ⟨hp, hp', hb, hs⟩
    refine (eqDump_any d e l k W (hI.below (Nat.le_refl _) hb) (hI'.below (Nat.le_refl _) hb) hf hf').mono ?_
    rintro r w1 ⟨hb1, rfl⟩
    have HB : Hid (Below w.heap.size w w1) := hb.trans (hb1.mono (by omega))
    clear hp hp' hb hs hb1
    cases hq : d.same e with
    | false =>
      have HQ : Hid (d.same e = false) := hq
      clear hq
      go_wp2
      go_ret
      exact ⟨HB.out, ret_bool (by rw [HQ.out]; rfl)⟩
    | true =>
      have HQ : Hid (d.same e = true) := hq
      clear hq
      go_wp2
      go_ret
      exact ⟨HB.out, ret_bool (by rw [HQ.out]; rfl)⟩

set_option maxHeartbeats 1000000 in
theorem eqRecS_any (a a' : Option Addr) (n c m c' : Nat) (V U : Nat → Int) (D E : Nat → Dp) (L M : Nat → DLoc) (w : World) (hS : IsRecs w a n V D L) (hT : IsRecs w a' m U E M) (hf : FitRecs n V D) (hf' : FitRecs m U E) (hn : n ≤ maxLen) (hm : m ≤ maxLen) :
    Calls Tryz.prog 23 #[.slice a n c, .slice a' m c'] w fun e w' => Below w.heap.size w w' ∧ e = .returned (.bool (decide (n = m) && sameRecs n V U D E)) := by
  unfold maxLen at hn hm
  by_cases hne : n = m
  · subst hne
    have hb : ((n : Int) != (n : Int)) = false := by simp
    go_enter Tryz.func23, Tryz.ntmps23
    go_wp2
    go_loopw [5] (fun i wr => ∃ k : Nat, k ≤ n ∧ i = .int .i64 k ∧ Below w.heap.size w wr ∧ sameRecs k V U D E = true) (fun i _ => n - (intOf i).toNat)
    case atStart => exact ⟨0, Nat.zero_le _, rfl, Below.refl _ _, rfl⟩
    case round =>
      obtain ⟨k, hk, rfl, hbel, heq⟩ := hrel
      have HE : Hid (sameRecs k V U D E = true) := heq
      clear heq
      by_cases hlt : k < n
      · obtain ⟨b, off, rfl, hlt2, hc⟩ := (hS.below (Nat.le_refl _) hbel).at hlt
        obtain ⟨b', off', rfl, hlt2', hc'⟩ := (hT.below (Nat.le_refl _) hbel).at hlt
        obtain ⟨c0, c1, c2, c3, c4, hI⟩ := hc k hlt
        obtain ⟨d0, d1, d2, d3, d4, hI'⟩ := hc' k hlt
        have hlti : (k : Int) < (n : Int) := by omega
        have C0 := Lat.cell (B := wr.heap.size) c0 hlt2
        have C1 := Lat.cell (B := wr.heap.size) c1 hlt2
        have C2 := Lat.cell (B := wr.heap.size) c2 hlt2
        have C3 := Lat.cell (B := wr.heap.size) c3 hlt2
        have C4 := Lat.cell (B := wr.heap.size) c4 hlt2
        have D0 := Lat.cell (B := wr.heap.size) d0 hlt2'
        have D1 := Lat.cell (B := wr.heap.size) d1 hlt2'
        have D2 := Lat.cell (B := wr.heap.size) d2 hlt2'
        have D3 := Lat.cell (B := wr.heap.size) d3 hlt2'
        have D4 := Lat.cell (B := wr.heap.size) d4 hlt2'
        have hcall : Hid (∀ n : Lat wr.heap.size wr, Calls Tryz.prog 47 #[recV (V k) (D k) (L k), recV (U k) (E k) (M k)] n.val fun e w'' => e = .returned (.bool (sameRec (V k) (U k) (D k) (E k))) ∧ ∃ m : Lat wr.heap.size wr, w'' = m.val) := fun n =>
          Calls.lat_of (eqRec_any (V k) (U k) (D k) (E k) (L k) (M k) n.val (hI.below (Nat.le_refl _) n.bel) (hI'.below (Nat.le_refl _) n.bel) (hf k hlt).2 (hf' k hlt).2) (fun e w' h => ⟨h.2, h.1.mono n.bel.size⟩)
        clear hc hc' c0 c1 c2 c3 c4 d0 d1 d2 d3 d4 hI hI'
        have HBL : Hid (Below w.heap.size w wr) := hbel
        clear hbel
        go_wp2_with fail
        refine wp_region_lat (B := wr.heap.size) (w0 := wr) (by kernel_rfl) (by kernel_rfl) (Below.refl _ _) ?_
        repeat (go_big_quiet_step (exact hcall.out _))
        refine wpQuiet_nil ?_
        rintro _ ⟨nq, rfl⟩
        have hB : Hid (Below w.heap.size w nq.val) := HBL.out.trans (nq.bel.mono HBL.out.size)
        clear hcall C0 C1 C2 C3 C4 D0 D1 D2 D3 D4
        cases hq : sameRec (V k) (U k) (D k) (E k) with
        | false =>
          have HX : Hid (false = sameRecs n V U D E) := sameRecs_not n k V U D E hlt hq
          clear hq
          go_wp2
          go_ret
          exact ⟨hB.out, ret_bool (by rw [← HX.out]; simp)⟩
        | true =>
          have HX : Hid (sameRecs (k + 1) V U D E = true) := sameRecs_succ k V U D E HE.out hq
          clear hq
          go_wp2
          go_roundw
          case rel => exact ⟨k + 1, by omega, by go_num, hB.out, HX.out⟩
          case measure => simp [intOf]; omega
      · have hkn : k = n := by omega
        have HK : Hid (k = n) := hkn
        have HBL : Hid (Below w.heap.size w wr) := hbel
        clear hkn hbel
        go_wp2
        go_ret
        exact ⟨HBL.out, ret_bool (by rw [← HK.out, HE.out]; simp)⟩
  · have hb : ((n : Int) != (m : Int)) = true := by simp; omega
    go_enter Tryz.func23, Tryz.ntmps23
    go_wp2
    go_ret
    exact ⟨Below.refl _ _, ret_bool (by simp [hne])⟩
end Go.Proofs.YtakifcobofkheabGreatDoor

/-
  What was kept, with its levels, in memory of one's own: a copy, and marking it.
-/
namespace Go.Proofs.YtakifcobofkheabGreatDoor
open Go.RowKit Go.Deep
set_option linter.unusedVariables false
set_option linter.unusedSimpArgs false

/-- Block g holds n of them, the first k laid; the parts of each lie in blocks of their own, those of i from H i on and below H (i + 1). -/
structure RecRow (w : World) (g n k : Nat) (V : Nat → Int) (D : Nat → Dp) (L : Nat → DLoc) (H : Nat → Nat) : Prop where
  row : ∃ f, w.rowIs g 77 (n * 5) f ∧ ∀ i, i < k → f (i * 5) = .int .i64 (V i) ∧ f (i * 5 + 1) = .int .i64 (D i).since ∧ f (i * 5 + 2) = .int .i64 (D i).date ∧ f (i * 5 + 3) = .slice (L i).lA (D i).ln (L i).lc ∧ f (i * 5 + 4) = .slice (L i).iA (D i).m (L i).ic
  own : ∀ i, i < k → OwnDp w (H i) (D i) (L i)
  blk : ∀ i, i < k → ∀ d b, d < 2 + 2 * (D i).m → (valD (.slice (L i).lA (D i).ln (L i).lc) (.slice (L i).iA (D i).m (L i).ic) (D i).nd (L i).L d).ownBlock = some b → b < H (i + 1)
  up : ∀ i, i < k → H i ≤ H (i + 1)
  top : H k ≤ w.heap.size
  low : g < H 0

theorem RecRow.mono {w : World} {g n k : Nat} {V : Nat → Int} {D : Nat → Dp} {L : Nat → DLoc} {H : Nat → Nat} (h : RecRow w g n k V D L H) : ∀ {i j : Nat}, i ≤ j → j ≤ k → H i ≤ H j := by
  intro i j hij
  induction hij with
  | refl => intro _; exact Nat.le_refl _
  | step hij ih =>
    rename_i m
    intro hm
    exact Nat.le_trans (ih (by omega)) (h.up m (by omega))

theorem RecRow.recs {w : World} {g n : Nat} {V : Nat → Int} {D : Nat → Dp} {L : Nat → DLoc} {H : Nat → Nat} (h : RecRow w g n n V D L H) : IsRecs w (some ⟨g, 0, none⟩) n V D L := by
  obtain ⟨f, hr, hf⟩ := h.row
  refine Or.inr ⟨g, 0, rfl, hr.lt, fun i hi => ?_⟩
  obtain ⟨f0, f1, f2, f3, f4⟩ := hf i hi
  rw [Nat.zero_add, ← f0, ← f1, ← f2, ← f3, ← f4]
  exact ⟨hr.cell (by omega), hr.cell (by omega), hr.cell (by omega), hr.cell (by omega), hr.cell (by omega), (h.own i hi).dpIn⟩

theorem RecRow.below {w w' : World} {g n k : Nat} {V : Nat → Int} {D : Nat → Dp} {L : Nat → DLoc} {H : Nat → Nat} (h : RecRow w g n k V D L H) (hb : Below w.heap.size w w') : RecRow w' g n k V D L H := by
  obtain ⟨f, hr, hf⟩ := h.row
  exact ⟨⟨f, rowIs_below hr hb hr.lt, hf⟩, fun i hi => OD.below (h.own i hi) hb, h.blk, h.up, Nat.le_trans h.top hb.size, h.low⟩

theorem five_ne {i k r s : Nat} (h : i ≠ k) (hr : r < 5) (hs : s < 5) : i * 5 + r ≠ k * 5 + s := by omega

theorem RecRow.step {w : World} {g n k : Nat} {V : Nat → Int} {D : Nat → Dp} {L : Nat → DLoc} {H : Nat → Nat} (h : RecRow w g n k V D L H) {l : DLoc} (hk : OwnDp w (H k) (D k) l) :
    RecRow (((((w.setCell ⟨g, k * 5, none⟩ (.int .i64 (V k))).setCell ⟨g, k * 5 + 1, none⟩ (.int .i64 (D k).since)).setCell ⟨g, k * 5 + 2, none⟩ (.int .i64 (D k).date)).setCell ⟨g, k * 5 + 3, none⟩ (.slice l.lA (D k).ln l.lc)).setCell ⟨g, k * 5 + 4, none⟩ (.slice l.iA (D k).m l.ic)) g n (k + 1) V D (fun i => if i = k then l else L i) (fun i => if i = k + 1 then w.heap.size else H i) := by
  have hlow := h.low
  have hm : ∀ i, i ≤ k → g < H i := fun i hi => Nat.lt_of_lt_of_le hlow (h.mono (Nat.zero_le _) hi)
  have htop := h.top
  obtain ⟨f, hr, hf⟩ := h.row
  refine ⟨⟨_, (((((hr.set _ _).set _ _).set _ _).set _ _).set _ _), fun i hi => ?_⟩, fun i hi => ?_, fun i hi d b hd hb => ?_, fun i hi => ?_, ?_, ?_⟩
  · by_cases e : i = k
    · subst e; simp
    · have := hf i (by omega)
      have n0 : ∀ r s, r < 5 → s < 5 → ¬ i * 5 + r = k * 5 + s := fun r s hr hs => five_ne e hr hs
      have z0 : ∀ s, s < 5 → ¬ i * 5 = k * 5 + s := fun s hs => n0 0 s (by omega) hs
      have z1 : ∀ r, r < 5 → ¬ i * 5 + r = k * 5 := fun r hr => n0 r 0 hr (by omega)
      have z2 : ¬ i * 5 = k * 5 := n0 0 0 (by omega) (by omega)
      simp only [if_neg e, z0 1 (by omega), z0 2 (by omega), z0 3 (by omega), z0 4 (by omega), z1 1 (by omega), z1 2 (by omega), z1 3 (by omega), z1 4 (by omega), z2, n0 1 1 (by omega) (by omega), n0 1 2 (by omega) (by omega), n0 1 3 (by omega) (by omega), n0 1 4 (by omega) (by omega), n0 2 1 (by omega) (by omega), n0 2 2 (by omega) (by omega), n0 2 3 (by omega) (by omega), n0 2 4 (by omega) (by omega), n0 3 1 (by omega) (by omega), n0 3 2 (by omega) (by omega), n0 3 3 (by omega) (by omega), n0 3 4 (by omega) (by omega), n0 4 1 (by omega) (by omega), n0 4 2 (by omega) (by omega), n0 4 3 (by omega) (by omega), n0 4 4 (by omega) (by omega), if_false]
      exact this
  · simp only [show i ≠ k + 1 by omega, if_false]
    have hg : g < H i := hm i (by omega)
    by_cases e : i = k
    · subst e
      simp only [if_true]
      exact (((((OD.off hk _ hg).off _ hg).off _ hg).off _ hg).off _ hg)
    · simp only [if_neg e]
      exact (((((OD.off (h.own i (by omega)) _ hg).off _ hg).off _ hg).off _ hg).off _ hg)
  · by_cases e : i = k
    · subst e
      simp only [if_true] at hb ⊢
      exact (owns_block (hk.rows.own d hd) hb).2
    · simp only [if_neg e] at hb
      have := h.blk i (by omega) d b hd hb
      simp only [show i + 1 ≠ k + 1 by omega, if_false]
      exact this
  · by_cases e : i = k
    · subst e
      simp only [show i ≠ i + 1 by omega, if_false, if_true]
      exact htop
    · simp only [show i ≠ k + 1 by omega, show i + 1 ≠ k + 1 by omega, if_false]
      exact h.up i (by omega)
  · simp [World.setCell]
  · simp only [show (0 : Nat) ≠ k + 1 by omega, if_false]
    exact hlow

set_option maxHeartbeats 1000000 in
theorem toRec_any (v : Int) (d : Dp) (l : DLoc) (w : World) (hI : DpIn w d l) (hsz : d.size ≤ 1048576) :
    Calls Tryz.prog 44 #[recV v d l] w fun e w' => ∃ l', e = .returned (recV v d l') ∧ Below w.heap.size w w' ∧ OwnDp w' w.heap.size d l' := by
  unfold recV
  go_enter Tryz.func44, Tryz.ntmps44
  go_wp2_with fail
  refine at_world (F := New3 w _ _ _ _ _ _) (new3 w _ _ _ _ _ _) ?_
  rintro W ⟨hp, hr, ho, hb0, hs0⟩
  refine (toDump_own d l W (hI.below (Nat.le_refl _) hb0) hsz).mono ?_
  rintro e w1 ⟨l', rfl, hb1, hod⟩
  unfold dpV
  have hr1 := hr.below hb1 (by omega)
  have ho1 := ho.below hb1 (by omega)
  have hB1 := hb0.trans (hb1.mono (by omega))
  have hod' : OwnDp w1 W.heap.size d l' := hod
  have o0 : w1.cell? ⟨w.heap.size + 1 + 1, 0, none⟩ = some (.int .i64 v) := ho1.cell 0
  have o1 : w1.cell? ⟨w.heap.size + 1 + 1, 1, none⟩ = some (.int .i64 0) := ho1.cell 1
  have o2 : w1.cell? ⟨w.heap.size + 1 + 1, 2, none⟩ = some (.int .i64 0) := ho1.cell 2
  have o3 : w1.cell? ⟨w.heap.size + 1 + 1, 3, none⟩ = some (.slice none 0 0) := ho1.cell 3
  have o4 : w1.cell? ⟨w.heap.size + 1 + 1, 4, none⟩ = some (.slice none 0 0) := ho1.cell 4
  have f1 := ho1.frozen 1
  have f2 := ho1.frozen 2
  have f3 := ho1.frozen 3
  have f4 := ho1.frozen 4
  have r0 : w1.cell? ⟨w.heap.size + 1, 0, none⟩ = some (.int .i64 0) := hr1.cell 0
  have r1 : w1.cell? ⟨w.heap.size + 1, 1, none⟩ = some (.int .i64 0) := hr1.cell 1
  have r2 : w1.cell? ⟨w.heap.size + 1, 2, none⟩ = some (.int .i64 0) := hr1.cell 2
  have r3 : w1.cell? ⟨w.heap.size + 1, 3, none⟩ = some (.slice none 0 0) := hr1.cell 3
  have r4 : w1.cell? ⟨w.heap.size + 1, 4, none⟩ = some (.slice none 0 0) := hr1.cell 4
  have g0 := hr1.frozen 0
  have g1 := hr1.frozen 1
  have g2 := hr1.frozen 2
  have g3 := hr1.frozen 3
  have g4 := hr1.frozen 4
  have FB : Hid (Blk w1 (w.heap.size + 1) _ _ ∧ Below w.heap.size w w1 ∧ OwnDp w1 (w.heap.size + 3) d l') := ⟨hr1, hB1, hod.lower (by omega)⟩
  clear hp hr ho hb0 hb1 hr1 ho1 hB1 hod hod' hs0
  go_wp2_with fail
  obtain ⟨hr, hB, hS⟩ := FB.out
  refine end_world (F := fun W => Blk W (w.heap.size + 1) #[.int .i64 v, .int .i64 d.since, .int .i64 d.date, .slice l'.lA d.ln l'.lc, .slice l'.iA d.m l'.ic] 77 ∧ Below w.heap.size w W ∧ OwnDp W (w.heap.size + 3) d l')
    ?_ ?_
  · refine ⟨?_, ?_, ?_⟩
    · exact (((((((((hr.off _ (by omega)).off _ (by omega)).off _ (by omega)).off _ (by omega)).set 0 _).set 1 _).set 2 _).set 3 _).set 4 _)
    · exact bel_put (bel_put (bel_put (bel_put (bel_put (bel_put (bel_put (bel_put (bel_put hB _ (by omega)) _ (by omega)) _ (by omega)) _ (by omega)) _ (by omega)) _ (by omega)) _ (by omega)) _ (by omega)) _ (by omega)
    · exact ((((((((OD.off hS _ (by omega)).off _ (by omega)).off _ (by omega)).off _ (by omega)).off _ (by omega)).off _ (by omega)).off _ (by omega)).off _ (by omega)).off _ (by omega)
  · clear hr hB hS FB o0 o1 o2 o3 o4 f1 f2 f3 f4 r0 r1 r2 r3 r4 g0 g1 g2 g3 g4
    rintro W ⟨hr, hB, hS⟩
    have r0 : W.cell? ⟨w.heap.size + 1, 0, none⟩ = some (.int .i64 v) := hr.cell 0
    have r1 : W.cell? ⟨w.heap.size + 1, 1, none⟩ = some (.int .i64 d.since) := hr.cell 1
    have r2 : W.cell? ⟨w.heap.size + 1, 2, none⟩ = some (.int .i64 d.date) := hr.cell 2
    have r3 : W.cell? ⟨w.heap.size + 1, 3, none⟩ = some (.slice l'.lA d.ln l'.lc) := hr.cell 3
    have r4 : W.cell? ⟨w.heap.size + 1, 4, none⟩ = some (.slice l'.iA d.m l'.ic) := hr.cell 4
    exact bodyPost_ret (v := .agg #[.int .i64 v, .int .i64 d.since, .int .i64 d.date, .slice l'.lA d.ln l'.lc, .slice l'.iA d.m l'.ic]) (by simp [results, Tryz.results44, go_sem, r0, r1, r2, r3, r4]) rfl ⟨l', rfl, hB, OD.lower hS (by omega)⟩

set_option maxHeartbeats 2000000 in
theorem toRecS_own (a : Option Addr) (n c : Nat) (V : Nat → Int) (D : Nat → Dp) (L : Nat → DLoc) (w : World) (hS : IsRecs w a n V D L) (hn : n ≤ 1048576) (hsz : recsTo D n ≤ 1048576) :
    Calls Tryz.prog 20 #[.slice a n c] w fun e w' => e = .returned (.slice (some ⟨w.heap.size, 0, none⟩) n n) ∧ Below w.heap.size w w' ∧ ∃ L' H, RecRow w' w.heap.size n n V D L' H := by
  have hmk := fun w => run_make_wide (P := Tryz.prog) 47 77 _ 72 5 Tryz.underlying47 infoRec .i64 .i64 n (by omega) (by omega) w
  go_enter Tryz.func20, Tryz.ntmps20
  go_wp2
  go_loopw [4] (fun i wr => ∃ (k : Nat) (L' : Nat → DLoc) (H : Nat → Nat), k ≤ n ∧ i = .int .i64 k ∧ Below w.heap.size w wr ∧ RecRow wr w.heap.size n k V D L' H) (fun i _ => n - (intOf i).toNat)
  case atStart =>
    obtain ⟨g, hg⟩ := rowIs_wide w #[.int .i64 0, .int .i64 0, .int .i64 0, .slice none 0 0, .slice none 0 0] (n * 5) 77
    exact ⟨0, L, fun _ => w.heap.size + 1, Nat.zero_le _, rfl, (Below.refl _ _).alloc (Nat.le_refl _) _, ⟨g, hg, fun i hi => by omega⟩, fun i hi => by omega, fun i hi => by omega, fun i hi => by omega, by simp, by omega⟩
  case round =>
    obtain ⟨k, L', H, hk, rfl, hb, hrow⟩ := hrel
    by_cases hlt : k < n
    · obtain ⟨b, off, rfl, hlt2, hc⟩ := (hS.below (Nat.le_refl _) hb).at hlt
      obtain ⟨c0, c1, c2, c3, c4, hI⟩ := hc k hlt
      clear hc
      go_wp2_with fail
      refine (toRec_any (V k) (D k) (L k) wr hI (by have := recs_size D hlt; omega)).mono ?_
      rintro e w1 ⟨l', rfl, hb1, hod⟩
      unfold recV
      have hrow1 := hrow.below hb1
      have hB := hb.trans (hb1.mono hb.size)
      have HR : Hid (RecRow w1 w.heap.size n k V D L' H ∧ OwnDp w1 (H k) (D k) l' ∧ Below w.heap.size w w1) := ⟨hrow1, OD.lower hod hrow.top, hB⟩
      obtain ⟨f, hr, _⟩ := hrow1.row
      have d0 := hr.cell (show k * 5 < n * 5 by omega)
      have d1 := hr.cell (show k * 5 + 1 < n * 5 by omega)
      have d2 := hr.cell (show k * 5 + 2 < n * 5 by omega)
      have d3 := hr.cell (show k * 5 + 3 < n * 5 by omega)
      have d4 := hr.cell (show k * 5 + 4 < n * 5 by omega)
      have e0 := hr.frozen (k * 5)
      have e1 := hr.frozen (k * 5 + 1)
      have e2 := hr.frozen (k * 5 + 2)
      have e3 := hr.frozen (k * 5 + 3)
      have e4 := hr.frozen (k * 5 + 4)
      clear hb hrow hrow1 hr hB hb1 hod hI c0 c1 c2 c3 c4
      go_wp2
      go_roundw
      case rel => exact ⟨k + 1, _, _, by omega, by go_num, bel_put (bel_put (bel_put (bel_put (bel_put HR.out.2.2 _ (Nat.le_refl _)) _ (Nat.le_refl _)) _ (Nat.le_refl _)) _ (Nat.le_refl _)) _ (Nat.le_refl _), HR.out.1.step HR.out.2.1⟩
      case measure => simp [intOf]; omega
    · have hkn : k = n := by omega
      have HR : Hid (Below w.heap.size w wr ∧ ∃ L' H, RecRow wr w.heap.size n n V D L' H) := ⟨hb, L', H, hkn ▸ hrow⟩
      clear hb hrow hkn
      go_wp2
      go_ret
      exact ⟨rfl, HR.out.1, HR.out.2⟩
end Go.Proofs.YtakifcobofkheabGreatDoor

/-
  What was kept, in memory of one's own, is marked: only that it goes on, and what it leaves alone.
-/
namespace Go.Proofs.YtakifcobofkheabGreatDoor
open Go.RowKit Go.Deep
set_option linter.unusedVariables false
set_option linter.unusedSimpArgs false

theorem kap_le6 (D : Nat → Nd) (k0 : Nat) : ∀ m, kap D k0 m ≤ k0 + 4 * m + sizeTo D m
  | 0 => by simp [kap, sizeTo]
  | m + 1 => by
    have h1 := kap_le6 D k0 m
    rw [kap, sizeTo_succ]
    unfold Nd.size
    omega

theorem kap_size6 {d : Dp} (k0 : Nat) : kap d.nd (k0 + d.ln) d.m ≤ k0 + 4 * d.size := by
  have h1 := kap_le6 d.nd (k0 + d.ln) d.m
  unfold Dp.size
  omega

theorem nd_sum6 {d : Dp} (h : d.size ≤ 1048576) {i : Nat} (hi : i < d.m) : (d.nd i).nn ≤ 1048576 ∧ (d.nd i).kn ≤ 1048576 := by
  have h1 := size_le_sizeTo d.nd d.m i hi
  unfold Dp.size at h
  unfold Nd.size at h1
  omega

theorem Fr.wide {B B' H H' : Nat} {a w : World} (h : Fr B H a w) (hB : B' ≤ B) (hH : H ≤ H') : Fr B' H' a w := ⟨h.bel.mono hB, fun b hb hl => h.far b (by omega) hl⟩

/-- Block g holds n of them, those from j on each in blocks of their own. -/
structure MkRow (w : World) (g n j : Nat) (D : Nat → Dp) (L : Nat → DLoc) (H : Nat → Nat) : Prop where
  row : ∃ f, w.rowIs g 77 (n * 5) f ∧ ∀ i, i < n → f (i * 5 + 3) = .slice (L i).lA (D i).ln (L i).lc ∧ f (i * 5 + 4) = .slice (L i).iA (D i).m (L i).ic
  own : ∀ i, j ≤ i → i < n → OwnDp w (H i) (D i) (L i)
  blk : ∀ i, i < n → ∀ d b, d < 2 + 2 * (D i).m → (valD (.slice (L i).lA (D i).ln (L i).lc) (.slice (L i).iA (D i).m (L i).ic) (D i).nd (L i).L d).ownBlock = some b → b < H (i + 1)
  up : ∀ i, i < n → H i ≤ H (i + 1)
  top : H n ≤ w.heap.size
  low : g < H 0

theorem RecRow.toMk {w : World} {g n : Nat} {V : Nat → Int} {D : Nat → Dp} {L : Nat → DLoc} {H : Nat → Nat} (h : RecRow w g n n V D L H) : MkRow w g n 0 D L H := by
  obtain ⟨f, hr, hf⟩ := h.row
  exact ⟨⟨f, hr, fun i hi => ⟨(hf i hi).2.2.2.1, (hf i hi).2.2.2.2⟩⟩, fun i _ hi => h.own i hi, h.blk, h.up, h.top, h.low⟩

theorem MkRow.mono {w : World} {g n j : Nat} {D : Nat → Dp} {L : Nat → DLoc} {H : Nat → Nat} (h : MkRow w g n j D L H) : ∀ {i j : Nat}, i ≤ j → j ≤ n → H i ≤ H j := by
  intro i j hij
  induction hij with
  | refl => intro _; exact Nat.le_refl _
  | step hij ih =>
    rename_i m
    intro hm
    exact Nat.le_trans (ih (by omega)) (h.up m (by omega))

/-- A number is written into a cell of the row. -/
theorem MkRow.put {w : World} {g n j : Nat} {D : Nat → Dp} {L : Nat → DLoc} {H : Nat → Nat} (h : MkRow w g n j D L H) (k r : Nat) (hr : r < 3) (v : Value) : MkRow (w.setCell ⟨g, k * 5 + r, none⟩ v) g n j D L H := by
  obtain ⟨f, hrow, hf⟩ := h.row
  refine ⟨⟨_, hrow.set _ _, fun i hi => ?_⟩, fun i hj hi => OD.off (h.own i hj hi) v (Nat.lt_of_lt_of_le h.low (h.mono (Nat.zero_le _) (by omega))), h.blk, h.up, by simpa [World.setCell] using h.top, h.low⟩
  rw [if_neg (show ¬ i * 5 + 3 = k * 5 + r by omega), if_neg (show ¬ i * 5 + 4 = k * 5 + r by omega)]
  exact hf i hi

/-- What only writes into the blocks of one of them leaves the row, and those behind it, alone. -/
theorem MkRow.next {w w' : World} {g n j : Nat} {D : Nat → Dp} {L : Nat → DLoc} {H : Nat → Nat} (h : MkRow w g n j D L H) (hj : j < n) (hf : Fr (H j) (H (j + 1)) w w') : MkRow w' g n (j + 1) D L H := by
  obtain ⟨f, hrow, hff⟩ := h.row
  have hg : g < H j := Nat.lt_of_lt_of_le h.low (h.mono (Nat.zero_le _) (by omega))
  refine ⟨⟨f, hrow.of_block (hf.bel.block g hg), hff⟩, fun i hji hi => OD.same (h.own i (by omega) hi) fun b hb hl => hf.far b ?_ hl, h.blk, h.up, Nat.le_trans h.top hf.bel.size, h.low⟩
  exact Nat.le_trans (h.mono hji (by omega)) hb

set_option maxHeartbeats 2000000 in
theorem markRecS_own (g n c k0 : Nat) (D : Nat → Dp) (L : Nat → DLoc) (H : Nat → Nat) (w : World) (h : MkRow w g n 0 D L H) (hn : n ≤ 1048576) (hsz : recsTo D n ≤ 1048576) (hk1 : 1 ≤ k0) (hk : k0 ≤ 10000000) :
    Calls Tryz.prog 24 #[.slice (some ⟨g, 0, none⟩) n c, .int .i64 (k0 : Int)] w fun e w' => (∃ q : Nat, e = .returned (.int .i64 (q : Int)) ∧ k0 ≤ q ∧ q ≤ k0 + 3 * n + 4 * recsTo D n) ∧ Fr g (H n) w w' := by
  go_enter Tryz.func24, Tryz.ntmps24
  go_wp2
  go_loopw [1, 5] (fun kk i wr => ∃ j q : Nat, j ≤ n ∧ i = .int .i64 j ∧ kk = .int .i64 (q : Int) ∧ k0 ≤ q ∧ q ≤ k0 + 3 * j + 4 * recsTo D j ∧ MkRow wr g n j D L H ∧ Fr g (H n) w wr) (fun _ i _ => n - (intOf i).toNat)
  case atStart => exact ⟨0, k0, Nat.zero_le _, rfl, rfl, Nat.le_refl _, by simp [recsTo], h, Fr.refl _ _ _⟩
  case round =>
    obtain ⟨j, q, hj, rfl, rfl, hq0, hq1, hm, hf⟩ := hrel
    have hrj : recsTo D j ≤ recsTo D n := recsTo_mono D hj
    by_cases hlt : j < n
    · have hlti : (j : Int) < (n : Int) := by omega
      have hgj : g < H j := Nat.lt_of_lt_of_le hm.low (hm.mono (Nat.zero_le _) (by omega))
      have hjn : H (j + 1) ≤ H n := hm.mono (by omega) (Nat.le_refl _)
      have hgn : g < H n := Nat.lt_of_lt_of_le hgj (hm.mono (by omega) (Nat.le_refl _))
      have hup : H j ≤ H (j + 1) := hm.up j hlt
      have hdz := recs_size D hlt
      have hq2 : q ≤ 18000000 := by omega
      obtain ⟨f, hr, hff⟩ := hm.row
      have d0 := hr.cell (show j * 5 < n * 5 by omega)
      have d1 := hr.cell (show j * 5 + 1 < n * 5 by omega)
      have d2 := hr.cell (show j * 5 + 2 < n * 5 by omega)
      have d3 := hr.cell (show j * 5 + 3 < n * 5 by omega)
      have e0 := hr.frozen (j * 5)
      have e1 := hr.frozen (j * 5 + 1)
      have e2 := hr.frozen (j * 5 + 2)
      rw [(hff j hlt).1] at d3
      have HM : Hid (MkRow (((wr.setCell ⟨g, j * 5, none⟩ (.int .i64 (q : Int))).setCell ⟨g, j * 5 + 1, none⟩ (.int .i64 ((q : Int) + 1))).setCell ⟨g, j * 5 + 2, none⟩ (.int .i64 ((q : Int) + 1 + 1))) g n j D L H ∧ Fr g (H n) w (((wr.setCell ⟨g, j * 5, none⟩ (.int .i64 (q : Int))).setCell ⟨g, j * 5 + 1, none⟩ (.int .i64 ((q : Int) + 1))).setCell ⟨g, j * 5 + 2, none⟩ (.int .i64 ((q : Int) + 1 + 1)))) :=
        ⟨((hm.put j 0 (by omega) _).put j 1 (by omega) _).put j 2 (by omega) _, ((hf.put _ (Nat.le_refl _) hgn).put _ (Nat.le_refl _) hgn).put _ (Nat.le_refl _) hgn⟩
      clear hm hf hr hff
      go_wp2_with fail
      refine at_world (F := fun W => MkRow W g n j D L H ∧ Fr g (H n) w W) HM.out ?_
      clear HM d0 d1 d2 d3 e0 e1 e2
      rintro W ⟨hm, hf⟩
      have hod := hm.own j (Nat.le_refl _) hlt
      rw [show (q : Int) + 1 + 1 + 1 = ((q + 3 : Nat) : Int) from by omega]
      refine (markBoolS_own (L j).lA (D j).ln (L j).lc (q + 3) (H j) (D j).live W hod.ownL (by have := hdz; unfold Dp.size at this; omega) (by omega)).mono ?_
      rintro e W2 ⟨rfl, hown, hg⟩
      have hod2 : OD W2 (H j) (D j).ln (markB (q + 3)) (D j).m (D j).ino (D j).nd (L j).L (.slice (L j).lA (D j).ln (L j).lc) (.slice (L j).iA (D j).m (L j).ic) := OD.turnLive hod hg hown
      have hbl : ∀ b, (Value.slice (L j).lA (D j).ln (L j).lc).ownBlock = some b → H j ≤ b ∧ b < H (j + 1) := fun b e => ⟨(owns_block (OD.ownL hod) e).1, hm.blk j hlt 0 b (by omega) e⟩
      have hf2 : Fr (H j) (H (j + 1)) W W2 := (Fr.refl _ _ W).grow hg (Nat.le_trans (hm.mono (by omega) (Nat.le_refl _)) hm.top) hbl
      obtain ⟨f, hr, hff⟩ := hm.row
      have d4 := (hr.of_block (hf2.bel.block g hgj)).cell (show j * 5 + 4 < n * 5 by omega)
      rw [(hff j hlt).2] at d4
      have H2 : Hid (MkRow W g n j D L H ∧ Fr g (H n) w W ∧ Fr (H j) (H (j + 1)) W W2 ∧ OD W2 (H j) (D j).ln (markB (q + 3)) (D j).m (D j).ino (D j).nd (L j).L (.slice (L j).lA (D j).ln (L j).lc) (.slice (L j).iA (D j).m (L j).ic)) := ⟨hm, hf, hf2, hod2⟩
      clear hm hf hod hown hg hod2 hbl hf2 hr hff
      have hks := kap_size6 (d := D j) (q + 3)
      have hkg := kap_ge (D j).nd (q + 3 + (D j).ln) (D j).m
      have hm1 : (D j).m ≤ 1048576 := by have := hdz; unfold Dp.size at this; omega
      go_wp2_with fail
      refine (markItemS_own (H (j + 1)) (L j).iA (D j).m (L j).ic (q + 3 + (D j).ln) (H j) (D j).ln (markB (q + 3)) (D j).ino (D j).nd (L j).L (.slice (L j).lA (D j).ln (L j).lc) W2 H2.out.2.2.2 hm1 (by omega) (H2.out.1.blk j hlt) (by omega) (fun i hi => nd_sum6 (by omega) hi)).mono ?_
      rintro e W3 ⟨rfl, hf3, _⟩
      have HF : Hid (Fr (H j) (H (j + 1)) W W3) := H2.out.2.2.1.trans (by have := H2.out.1.top; have := H2.out.1.mono (show j ≤ n by omega) (Nat.le_refl _); have := H2.out.2.2.1.bel.size; omega) hf3
      have HN : Hid (MkRow W3 g n (j + 1) D L H ∧ Fr g (H n) w W3) := ⟨H2.out.1.next hlt HF.out, H2.out.2.1.trans (by have := H2.out.1.top; omega) (HF.out.wide (by omega) hjn)⟩
      have hb1 : kap (D j).nd (q + 3 + (D j).ln) (D j).m ≤ k0 + 3 * (j + 1) + 4 * recsTo D (j + 1) := by rw [recsTo_succ]; omega
      clear H2 HF hf3 d4
      go_wp2
      go_roundw
      case rel => exact ⟨j + 1, kap (D j).nd (q + 3 + (D j).ln) (D j).m, by omega, by go_num, rfl, by omega, hb1, HN.out.1, HN.out.2⟩
      case measure => simp [intOf]; omega
    · obtain rfl : j = n := by omega
      have HR : Hid (Fr g (H j) w wr) := hf
      clear hm hf
      go_wp2
      go_ret
      exact ⟨⟨q, rfl, hq0, hq1⟩, HR.out⟩
end Go.Proofs.YtakifcobofkheabGreatDoor

/-
  Marking a list of what was kept, in memory of one's own.
-/
namespace Go.Proofs.YtakifcobofkheabGreatDoor
open Go.RowKit Go.Deep
set_option linter.unusedVariables false
set_option linter.unusedSimpArgs false

/-- Block g holds n of them, those from j on each in blocks of their own. -/
structure MkDps (w : World) (g n j : Nat) (D : Nat → Dp) (L : Nat → DLoc) (H : Nat → Nat) : Prop where
  row : ∃ f, w.rowIs g 64 (n * 4) f ∧ ∀ i, i < n → f (i * 4 + 2) = .slice (L i).lA (D i).ln (L i).lc ∧ f (i * 4 + 3) = .slice (L i).iA (D i).m (L i).ic
  own : ∀ i, j ≤ i → i < n → OwnDp w (H i) (D i) (L i)
  blk : ∀ i, i < n → ∀ d b, d < 2 + 2 * (D i).m → (valD (.slice (L i).lA (D i).ln (L i).lc) (.slice (L i).iA (D i).m (L i).ic) (D i).nd (L i).L d).ownBlock = some b → b < H (i + 1)
  up : ∀ i, i < n → H i ≤ H (i + 1)
  top : H n ≤ w.heap.size
  low : g < H 0

theorem DpRow.toMk {w : World} {g n : Nat} {D : Nat → Dp} {L : Nat → DLoc} {H : Nat → Nat} (h : DpRow w g n n D L H) : MkDps w g n 0 D L H := by
  obtain ⟨f, hr, hf⟩ := h.row
  exact ⟨⟨f, hr, fun i hi => ⟨(hf i hi).2.2.1, (hf i hi).2.2.2⟩⟩, fun i _ hi => h.own i hi, h.blk, h.up, h.top, h.low⟩

theorem MkDps.mono {w : World} {g n j : Nat} {D : Nat → Dp} {L : Nat → DLoc} {H : Nat → Nat} (h : MkDps w g n j D L H) : ∀ {i j : Nat}, i ≤ j → j ≤ n → H i ≤ H j := by
  intro i j hij
  induction hij with
  | refl => intro _; exact Nat.le_refl _
  | step hij ih =>
    rename_i m
    intro hm
    exact Nat.le_trans (ih (by omega)) (h.up m (by omega))

/-- A number is written into a cell of the row. -/
theorem MkDps.put {w : World} {g n j : Nat} {D : Nat → Dp} {L : Nat → DLoc} {H : Nat → Nat} (h : MkDps w g n j D L H) (k r : Nat) (hr : r < 2) (v : Value) : MkDps (w.setCell ⟨g, k * 4 + r, none⟩ v) g n j D L H := by
  obtain ⟨f, hrow, hf⟩ := h.row
  refine ⟨⟨_, hrow.set _ _, fun i hi => ?_⟩, fun i hj hi => OD.off (h.own i hj hi) v (Nat.lt_of_lt_of_le h.low (h.mono (Nat.zero_le _) (by omega))), h.blk, h.up, by simpa [World.setCell] using h.top, h.low⟩
  rw [if_neg (show ¬ i * 4 + 2 = k * 4 + r by omega), if_neg (show ¬ i * 4 + 3 = k * 4 + r by omega)]
  exact hf i hi

/-- What only writes into the blocks of one of them leaves the row, and those behind it, alone. -/
theorem MkDps.next {w w' : World} {g n j : Nat} {D : Nat → Dp} {L : Nat → DLoc} {H : Nat → Nat} (h : MkDps w g n j D L H) (hj : j < n) (hf : Fr (H j) (H (j + 1)) w w') : MkDps w' g n (j + 1) D L H := by
  obtain ⟨f, hrow, hff⟩ := h.row
  have hg : g < H j := Nat.lt_of_lt_of_le h.low (h.mono (Nat.zero_le _) (by omega))
  refine ⟨⟨f, hrow.of_block (hf.bel.block g hg), hff⟩, fun i hji hi => OD.same (h.own i (by omega) hi) fun b hb hl => hf.far b ?_ hl, h.blk, h.up, Nat.le_trans h.top hf.bel.size, h.low⟩
  exact Nat.le_trans (h.mono hji (by omega)) hb

set_option maxHeartbeats 2000000 in
theorem markDumpS_own (g n c k0 : Nat) (D : Nat → Dp) (L : Nat → DLoc) (H : Nat → Nat) (w : World) (h : MkDps w g n 0 D L H) (hn : n ≤ 1048576) (hsz : recsTo D n ≤ 1048576) (hk1 : 1 ≤ k0) (hk : k0 ≤ 10000000) :
    Calls Tryz.prog 14 #[.slice (some ⟨g, 0, none⟩) n c, .int .i64 (k0 : Int)] w fun e w' => (∃ q : Nat, e = .returned (.int .i64 (q : Int)) ∧ k0 ≤ q ∧ q ≤ k0 + 2 * n + 4 * recsTo D n) ∧ Fr g (H n) w w' := by
  go_enter Tryz.func14, Tryz.ntmps14
  go_wp2
  go_loopw [1, 5] (fun kk i wr => ∃ j q : Nat, j ≤ n ∧ i = .int .i64 j ∧ kk = .int .i64 (q : Int) ∧ k0 ≤ q ∧ q ≤ k0 + 2 * j + 4 * recsTo D j ∧ MkDps wr g n j D L H ∧ Fr g (H n) w wr) (fun _ i _ => n - (intOf i).toNat)
  case atStart => exact ⟨0, k0, Nat.zero_le _, rfl, rfl, Nat.le_refl _, by simp [recsTo], h, Fr.refl _ _ _⟩
  case round =>
    obtain ⟨j, q, hj, rfl, rfl, hq0, hq1, hm, hf⟩ := hrel
    have hrj : recsTo D j ≤ recsTo D n := recsTo_mono D hj
    by_cases hlt : j < n
    · have hlti : (j : Int) < (n : Int) := by omega
      have hgj : g < H j := Nat.lt_of_lt_of_le hm.low (hm.mono (Nat.zero_le _) (by omega))
      have hjn : H (j + 1) ≤ H n := hm.mono (by omega) (Nat.le_refl _)
      have hgn : g < H n := Nat.lt_of_lt_of_le hgj (hm.mono (by omega) (Nat.le_refl _))
      have hup : H j ≤ H (j + 1) := hm.up j hlt
      have hdz := recs_size D hlt
      have hq2 : q ≤ 18000000 := by omega
      obtain ⟨f, hr, hff⟩ := hm.row
      have d0 := hr.cell (show j * 4 < n * 4 by omega)
      have d1 := hr.cell (show j * 4 + 1 < n * 4 by omega)
      have d2 := hr.cell (show j * 4 + 2 < n * 4 by omega)
      have e0 := hr.frozen (j * 4)
      have e1 := hr.frozen (j * 4 + 1)
      rw [(hff j hlt).1] at d2
      have HM : Hid (MkDps ((wr.setCell ⟨g, j * 4, none⟩ (.int .i64 (q : Int))).setCell ⟨g, j * 4 + 1, none⟩ (.int .i64 ((q : Int) + 1))) g n j D L H ∧ Fr g (H n) w ((wr.setCell ⟨g, j * 4, none⟩ (.int .i64 (q : Int))).setCell ⟨g, j * 4 + 1, none⟩ (.int .i64 ((q : Int) + 1)))) :=
        ⟨(hm.put j 0 (by omega) _).put j 1 (by omega) _, (hf.put _ (Nat.le_refl _) hgn).put _ (Nat.le_refl _) hgn⟩
      clear hm hf hr hff
      go_wp2_with fail
      refine at_world (F := fun W => MkDps W g n j D L H ∧ Fr g (H n) w W) HM.out ?_
      clear HM d0 d1 d2 e0 e1
      rintro W ⟨hm, hf⟩
      have hod := hm.own j (Nat.le_refl _) hlt
      rw [show (q : Int) + 1 + 1 = ((q + 2 : Nat) : Int) from by omega]
      refine (markBoolS_own (L j).lA (D j).ln (L j).lc (q + 2) (H j) (D j).live W hod.ownL (by have := hdz; unfold Dp.size at this; omega) (by omega)).mono ?_
      rintro e W2 ⟨rfl, hown, hg⟩
      have hod2 : OD W2 (H j) (D j).ln (markB (q + 2)) (D j).m (D j).ino (D j).nd (L j).L (.slice (L j).lA (D j).ln (L j).lc) (.slice (L j).iA (D j).m (L j).ic) := OD.turnLive hod hg hown
      have hbl : ∀ b, (Value.slice (L j).lA (D j).ln (L j).lc).ownBlock = some b → H j ≤ b ∧ b < H (j + 1) := fun b e => ⟨(owns_block (OD.ownL hod) e).1, hm.blk j hlt 0 b (by omega) e⟩
      have hf2 : Fr (H j) (H (j + 1)) W W2 := (Fr.refl _ _ W).grow hg (Nat.le_trans (hm.mono (by omega) (Nat.le_refl _)) hm.top) hbl
      obtain ⟨f, hr, hff⟩ := hm.row
      have d4 := (hr.of_block (hf2.bel.block g hgj)).cell (show j * 4 + 3 < n * 4 by omega)
      rw [(hff j hlt).2] at d4
      have H2 : Hid (MkDps W g n j D L H ∧ Fr g (H n) w W ∧ Fr (H j) (H (j + 1)) W W2 ∧ OD W2 (H j) (D j).ln (markB (q + 2)) (D j).m (D j).ino (D j).nd (L j).L (.slice (L j).lA (D j).ln (L j).lc) (.slice (L j).iA (D j).m (L j).ic)) := ⟨hm, hf, hf2, hod2⟩
      clear hm hf hod hown hg hod2 hbl hf2 hr hff
      have hks := kap_size6 (d := D j) (q + 2)
      have hkg := kap_ge (D j).nd (q + 2 + (D j).ln) (D j).m
      have hm1 : (D j).m ≤ 1048576 := by have := hdz; unfold Dp.size at this; omega
      go_wp2_with fail
      refine (markItemS_own (H (j + 1)) (L j).iA (D j).m (L j).ic (q + 2 + (D j).ln) (H j) (D j).ln (markB (q + 2)) (D j).ino (D j).nd (L j).L (.slice (L j).lA (D j).ln (L j).lc) W2 H2.out.2.2.2 hm1 (by omega) (H2.out.1.blk j hlt) (by omega) (fun i hi => nd_sum6 (by omega) hi)).mono ?_
      rintro e W3 ⟨rfl, hf3, _⟩
      have HF : Hid (Fr (H j) (H (j + 1)) W W3) := H2.out.2.2.1.trans (by have := H2.out.1.top; have := H2.out.1.mono (show j ≤ n by omega) (Nat.le_refl _); have := H2.out.2.2.1.bel.size; omega) hf3
      have HN : Hid (MkDps W3 g n (j + 1) D L H ∧ Fr g (H n) w W3) := ⟨H2.out.1.next hlt HF.out, H2.out.2.1.trans (by have := H2.out.1.top; omega) (HF.out.wide (by omega) hjn)⟩
      have hb1 : kap (D j).nd (q + 2 + (D j).ln) (D j).m ≤ k0 + 2 * (j + 1) + 4 * recsTo D (j + 1) := by rw [recsTo_succ]; omega
      clear H2 HF hf3 d4
      go_wp2
      go_roundw
      case rel => exact ⟨j + 1, kap (D j).nd (q + 2 + (D j).ln) (D j).m, by omega, by go_num, rfl, by omega, hb1, HN.out.1, HN.out.2⟩
      case measure => simp [intOf]; omega
    · obtain rfl : j = n := by omega
      have HR : Hid (Fr g (H j) w wr) := hf
      clear hm hf
      go_wp2
      go_ret
      exact ⟨⟨q, rfl, hq0, hq1⟩, HR.out⟩
end Go.Proofs.YtakifcobofkheabGreatDoor

/-
  FnExactBackPick, walked.
-/
namespace Go.Proofs.YtakifcobofkheabGreatDoor
open Go.RowKit Go.Deep
set_option linter.unusedVariables false
set_option linter.unusedSimpArgs false
set_option linter.unnecessarySimpa false

theorem pick_small {t : Tr} {z : Int} {m : Nat} {S : Nat → ByteArray} {q : Nd × Bool} (h : PickIs t z m S q) (hs : SmTr t) : SmNd q.1 := by
  rcases h with ⟨x, _, hx, _, rfl⟩ | ⟨_, rfl⟩
  · exact ⟨hs.fits.nds x hx, (hs.nds x hx).1, (hs.nds x hx).2⟩
  · exact ⟨ndZero_fits, by show (0 : Nat) ≤ _; omega, by show (0 : Nat) ≤ _; omega⟩

/-- What is known behind the calls. -/
structure FBPick (w w3 : World) (r : Nd) (lr lg : Loc) (V bG : Nat) (W : World) : Prop where
  bel : Below w.heap.size w W
  base : Below w3.heap.size w3 W
  v : Blk W V (ndC r lr) 28
  g : Blk W bG (ndC r lg) 28
  vl : V < w3.heap.size
  wl : w.heap.size ≤ w3.heap.size

theorem FBPick.below {w w3 : World} {r : Nd} {lr lg : Loc} {V bG : Nat} {W W' : World} (h : FBPick w w3 r lr lg V bG W) (hb : Below W.heap.size W W') : FBPick w w3 r lr lg V bG W' :=
  ⟨h.bel.trans (hb.mono h.bel.size), h.base.trans (hb.mono h.base.size), h.v.below hb h.v.lt, h.g.below hb h.g.lt, h.vl, h.wl⟩

theorem FBPick.fr {w w3 : World} {r : Nd} {lr lg : Loc} {V bG : Nat} {W W' : World} (h : FBPick w w3 r lr lg V bG W) {B H : Nat} (hb : Fr B H W W') (hB : w3.heap.size ≤ B) (hG : bG < B ∨ H ≤ bG) : FBPick w w3 r lr lg V bG W' := by
  have hwl := h.wl
  have hvl := h.vl
  have key : ∀ {q : Nat} {cs : Array Value} {t : TypeId}, Blk W q cs t → q < B ∨ H ≤ q → Blk W' q cs t := fun hq e => hq.of_block (by
    rcases e with e | e
    · exact hb.bel.block _ e
    · exact hb.far _ e hq.lt)
  exact ⟨h.bel.trans (hb.bel.mono (by omega)), h.base.trans (hb.bel.mono hB), key h.v (Or.inl (by omega)), key h.g hG, h.vl, h.wl⟩

set_option maxRecDepth 100000 in
set_option maxHeartbeats 32000000 in
theorem lawBackPick (x0 : Ds) (l0 : DsLoc) (x1 : Ss) (l1 : SsLoc) (w : World) (hE : ErrType w) (hI0 : DsIn w x0 l0) (hI1 : SsIn w x1 l1) (hf0 : x0.Fits) (hf1 : x1.Fits) :
    Calls Tryz.prog 3 #[dsV x0 l0, ssV x1 l1] w fun r w' => r = .returned (.bool true) ∧ Below w.heap.size w w' := by
  obtain ⟨n, D⟩ := x0
  obtain ⟨a, c, L⟩ := l0
  obtain ⟨m, S⟩ := x1
  obtain ⟨pa, pc⟩ := l1
  have hI : IsDps w a n D L := hI0
  have hP : IsStrs w pa m S := hI1
  have hn : n ≤ maxLen := hf0.n
  have hf : FitDps n D := hf0.d
  have hm : m ≤ maxLen := hf1.n
  have hsm : Small m S := hf1.s
  unfold dsV ssV
  clear hI0 hf0 hI1 hf1
  have hn' := hn
  have hm' := hm
  unfold maxLen at hn' hm'
  go_enter Tryz.func3, Tryz.ntmps3
  go_wp2_with fail
  refine (szDumpS_any a n c D L _ w hI hf hn (by omega) (by omega)).mono ?_
  rintro r0 ws0 ⟨hbs0, rr0, rfl, hra0, hrb0⟩
  by_cases hrc0 : rr0 < 0
  · have hrd0 : decide (rr0 < 0) = true := by simp; omega
    have HB : Hid (Below w.heap.size w ws0) := hbs0
    clear hrb0 hbs0
    go_wp2
    go_ret
    exact ⟨rfl, HB.out⟩
  · have hrd0 : decide (rr0 < 0) = false := by simp; omega
    have hsz0 := hrb0 (by omega)
    have H0 : Hid (Below w.heap.size w ws0) := hbs0
    clear hrb0 hbs0
    go_wp2_with fail
    refine (szStringS_any pa m pc S rr0 ws0 (hP.below (Nat.le_refl _) H0.out) hsm hm (by omega) (by omega)).mono ?_
    rintro r1 ws1 ⟨hw1, rr1, rfl, hra1, hrb1⟩
    subst hw1
    by_cases hrc1 : rr1 < 0
    · have hrd1 : decide (rr1 < 0) = true := by simp; omega
      clear hrb1
      go_wp2
      go_ret
      exact ⟨rfl, H0.out⟩
    · have hrd1 : decide (rr1 < 0) = false := by simp; omega
      have hsz1 := hrb1 (by omega)
      have HSZ : Hid (recsTo D n ≤ 1048576 ∧ n ≤ 1048576 ∧ m ≤ 1048576) := by refine ⟨?_, ?_, ?_⟩ <;> omega
      have HST : Hid (SmTr (allAns n D).1) := allAns_small hf HSZ.out.1
      have HSP : Hid (∀ W a' c' L' pa' pc', IsDps W a' n D L' → IsStrs W pa' m S → Calls Tryz.prog 7 #[.slice a' n c', .slice pa' m pc'] W (PickPost W (allAns n D) m S)) := fun W a' c' L' pa' pc' h h' => specBackPick_any a' n c' D L' pa' m pc' S W h h' hf hn HSZ.out.1 hm hsm
      have HIM : Hid (∀ W a' c' L' pa' pc', ErrType W → IsDps W a' n D L' → IsStrs W pa' m S → Calls Tryz.prog 10 #[.slice a' n c', .slice pa' m pc'] W (PickPost W (allAns n D) m S)) := fun W a' c' L' pa' pc' hg h h' => implBackPick_any a' n c' D L' pa' m pc' S W hg h h' hf hn HSZ.out.1 hm hsm
      generalize allAns n D = rz at *
      clear hrb1 hsz1 hsz0
      go_wp2_with fail
      refine (toDumpS_own a n c D L ws0 (hI.below (Nat.le_refl _) H0.out) HSZ.out.2.1 HSZ.out.1).mono ?_
      rintro e wq1 ⟨rfl, hbc, Lq, Hq, hrow⟩
      have HQ1 : Hid (Below w.heap.size w wq1 ∧ Below ws0.heap.size ws0 wq1 ∧ IsDps wq1 (some ⟨ws0.heap.size, 0, none⟩) n D Lq) := ⟨H0.out.trans (hbc.mono H0.out.size), hbc, hrow.recs⟩
      clear hbc hrow
      go_wp2_with fail
      refine (toStringS_any pa m pc S wq1 (hP.below (Nat.le_refl _) HQ1.out.1) HSZ.out.2.2).mono ?_
      rintro e wq2 ⟨rfl, hbc, hrow⟩
      have HQ2 : Hid (Below w.heap.size w wq2 ∧ Below ws0.heap.size ws0 wq2 ∧ IsDps wq2 (some ⟨ws0.heap.size, 0, none⟩) n D Lq ∧ IsStrs wq2 (some ⟨wq1.heap.size, 0, none⟩) m S) := ⟨HQ1.out.1.trans (hbc.mono HQ1.out.1.size), HQ1.out.2.1.trans (hbc.mono HQ1.out.2.1.size), HQ1.out.2.2.below (Nat.le_refl _) hbc, IsStrs.row hrow⟩
      clear hbc hrow HQ1
      go_wp2_with fail
      refine (HSP.out wq2 _ _ Lq _ _ HQ2.out.2.2.1 HQ2.out.2.2.2).mono ?_
      rintro e wq3 ⟨hbc, q, lr, hq, rfl, ho⟩
      obtain ⟨r, z⟩ := q
      have HPI : Hid (PickIs rz.1 rz.2 m S (r, z)) := hq
      have HSM : Hid (SmNd r) := pick_small hq HST.out
      replace ho : OwnNd wq3 wq2.heap.size r lr := ho
      have HQ3 : Hid (Below w.heap.size w wq3 ∧ Below ws0.heap.size ws0 wq3 ∧ OwnNd wq3 wq2.heap.size r lr) := ⟨HQ2.out.1.trans (hbc.mono HQ2.out.1.size), HQ2.out.2.1.trans (hbc.mono HQ2.out.2.1.size), ho⟩
      clear hbc ho hq HQ2
      unfold ndV
      dsimp only
      go_wp2_with fail
      refine at_world (F := fun U => Below ws0.heap.size ws0 U ∧ Blk U wq3.heap.size (ndC r lr) 28 ∧ NdIn U r lr ∧ ws0.heap.size ≤ wq3.heap.size) ?_ ?_
      · have hb1 := (new1 wq3 (ndC r lr) 28).bel
        have hv1 := (new1 wq3 (ndC r lr) 28).b0
        exact ⟨HQ3.out.2.1.trans (hb1.mono HQ3.out.2.1.size), hv1, (HQ3.out.2.2.below hb1).nIn, HQ3.out.2.1.size⟩
      · generalize wq3.heap.size = V
        clear HQ3
        intro W3 h3
        obtain ⟨hb3, hv3, hi3, hVge⟩ := h3
        have H3 : Hid (Below w.heap.size w W3 ∧ Blk W3 V (ndC r lr) 28) := ⟨H0.out.trans (hb3.mono H0.out.size), hv3⟩
        have HI3 : Hid (NdIn W3 r lr) := hi3
        have hVl := hv3.lt
        have hwl : w.heap.size ≤ W3.heap.size := H3.out.1.size
        clear hb3 hv3 hi3 H0 hVge
        refine (toDumpS_own a n c D L W3 (hI.below (Nat.le_refl _) H3.out.1) HSZ.out.2.1 HSZ.out.1).mono ?_
        rintro e wc0 ⟨rfl, hbc, Lx, Hx, hrow⟩
        have HC0 : Hid (Below w.heap.size w wc0 ∧ Below W3.heap.size W3 wc0 ∧ DpRow wc0 W3.heap.size n n D Lx Hx) := ⟨H3.out.1.trans (hbc.mono H3.out.1.size), hbc, hrow⟩
        have hlc0 : W3.heap.size < wc0.heap.size := by obtain ⟨f, hr, _⟩ := hrow.row; exact hr.lt
        have hHt : Hx n ≤ wc0.heap.size := hrow.top
        obtain ⟨X, hX⟩ : ∃ X, X = W3.heap.size := ⟨_, rfl⟩
        have HX : Hid (X = W3.heap.size) := hX
        rw [← hX] at hlc0
        have hVX : V < X := by omega
        have HCX : Hid (DpRow wc0 X n n D Lx Hx) := by show DpRow _ _ _ _ _ _ _; rw [hX]; exact hrow
        rw [← hX]
        clear hbc hrow hX
        go_wp2_with fail
        refine (toStringS_any pa m pc S wc0 (hP.below (Nat.le_refl _) HC0.out.1) HSZ.out.2.2).mono ?_
        rintro e wc1 ⟨rfl, hbc, hrow⟩
        have hst := row_ownS hrow (Nat.le_refl _) hm
        have HC1 : Hid (Below w.heap.size w wc1 ∧ Below W3.heap.size W3 wc1 ∧ DpRow wc1 X n n D Lx Hx ∧ wc1.ownsRow wc0.heap.size 9 1 (.slice (some ⟨wc0.heap.size, 0, none⟩) m m) m (strv (lst m S))) := ⟨HC0.out.1.trans (hbc.mono HC0.out.1.size), HC0.out.2.1.trans (hbc.mono HC0.out.2.1.size), HCX.out.below hbc, hst⟩
        have hlc1 : wc0.heap.size < wc1.heap.size := hrow.lt
        clear hbc hrow hst HC0 HCX
        go_wp2_with fail
        refine (HIM.out wc1 _ _ Lx _ _ (hE.bel HC1.out.1) HC1.out.2.2.1.recs (ownd_strs HC1.out.2.2.2)).mono ?_
        rintro e wg ⟨hbc, q, lg, hq, rfl, hog⟩
        obtain rfl : q = (r, z) := hq.one HPI.out
        replace hog : OwnNd wg wc1.heap.size r lg := hog
        unfold ndV
        dsimp only
        have hb3 : Below W3.heap.size W3 wg := HC1.out.2.1.trans (hbc.mono HC1.out.2.1.size)
        have HTG : Hid (∀ b, (Value.slice lg.nA r.nn lg.nc).ownBlock = some b ∨ (Value.slice lg.kA r.kn lg.kc).ownBlock = some b → b < wg.heap.size) := fun b e => by
          rcases e with e | e
          · exact (owns_block hog.names e).2
          · exact (owns_block hog.kids e).2
        have hlg : wc1.heap.size ≤ wg.heap.size := hbc.size
        have hVg : V < wg.heap.size := by omega
        have hVn : V ≠ wg.heap.size := by omega
        have hst := owns_same HC1.out.2.2.2 fun b e => hbc.block b (owns_block HC1.out.2.2.2 e).2
        have HG : Hid (Below w.heap.size w wg ∧ Below W3.heap.size W3 wg ∧ Blk wg V (ndC r lr) 28 ∧ DpRow wg X n n D Lx Hx ∧ wg.ownsRow wc0.heap.size 9 1 (.slice (some ⟨wc0.heap.size, 0, none⟩) m m) m (strv (lst m S)) ∧ OwnNd wg wc1.heap.size r lg) := ⟨HC1.out.1.trans (hbc.mono HC1.out.1.size), hb3, H3.out.2.below hb3 hVl, HC1.out.2.2.1.below hbc, hst, hog⟩
        clear hbc hog hb3 HC1 hst hq
        have hne : (z != z) = false := by cases z <;> rfl
        have hne2 : (!(z == z)) = false := by cases z <;> rfl
        obtain ⟨z0, z1, z2, z3, z4⟩ := ndC_cells HG.out.2.2.1
        go_wp2_with fail
        clear z0 z1 z2 z3 z4
        have HF9 : Hid (∀ W9, W9 = wg.alloc (.cells (ndC r lg) 28) → FBPick w W3 r lr lg V wg.heap.size W9 ∧ DpRow W9 X n n D Lx Hx ∧ W9.ownsRow wc0.heap.size 9 1 (.slice (some ⟨wc0.heap.size, 0, none⟩) m m) m (strv (lst m S)) ∧ OwnNd W9 wc1.heap.size r lg) := fun W9 e => by
          obtain ⟨hvG, hb9, hs9⟩ := new1 wg (ndC r lg) 28
          rw [← e] at hvG hb9
          obtain ⟨e1, e2, e3, o0, o1, eg⟩ := HG.out
          exact ⟨⟨e1.trans (hb9.mono e1.size), e2.trans (hb9.mono e2.size), e3.below hb9 hVg, hvG, by omega, hwl⟩, o0.below hb9, owns_same o1 fun b e => hb9.block b (owns_block o1 e).2, eg.below hb9⟩
        refine at_world (F := fun W9 => FBPick w W3 r lr lg V wg.heap.size W9 ∧ DpRow W9 X n n D Lx Hx ∧ W9.ownsRow wc0.heap.size 9 1 (.slice (some ⟨wc0.heap.size, 0, none⟩) m m) m (strv (lst m S)) ∧ OwnNd W9 wc1.heap.size r lg) (HF9.out _ rfl) ?_
        clear HF9 HG H3
        rintro W9 ⟨hF9, hx0, hx1, hg9⟩
        refine (eqNode_any r r lg lr W9 hg9.nIn (HI3.out.below (Nat.le_refl _) hF9.base) HSM.out.fits HSM.out.fits).mono ?_
        rintro e v0 ⟨hb, rfl⟩
        rw [Nd.same_self]
        have HA0 : Hid (FBPick w W3 r lr lg V wg.heap.size v0 ∧ DpRow v0 X n n D Lx Hx ∧ v0.ownsRow wc0.heap.size 9 1 (.slice (some ⟨wc0.heap.size, 0, none⟩) m m) m (strv (lst m S)) ∧ OwnNd v0 wc1.heap.size r lg) := ⟨hF9.below hb, hx0.below hb, owns_same hx1 fun b e => hb.block b (owns_block hx1 e).2, hg9.below hb⟩
        clear hF9 hx0 hx1 hg9 hb
        go_wp2_with fail
        refine (toDumpS_own a n c D L v0 (hI.below (Nat.le_refl _) HA0.out.1.bel) HSZ.out.2.1 HSZ.out.1).mono ?_
        rintro e v1 ⟨rfl, hbc, Ly, Hy, hrow⟩
        have HA1 : Hid ((FBPick w W3 r lr lg V wg.heap.size v1 ∧ DpRow v1 X n n D Lx Hx ∧ v1.ownsRow wc0.heap.size 9 1 (.slice (some ⟨wc0.heap.size, 0, none⟩) m m) m (strv (lst m S)) ∧ OwnNd v1 wc1.heap.size r lg) ∧ DpRow v1 v0.heap.size n n D Ly Hy) := ⟨⟨HA0.out.1.below hbc, HA0.out.2.1.below hbc, owns_same HA0.out.2.2.1 fun b e => hbc.block b (owns_block HA0.out.2.2.1 e).2, HA0.out.2.2.2.below hbc⟩, hrow⟩
        clear hbc hrow HA0
        go_wp2_with fail
        refine (eqDumpS_any _ _ n _ n _ D D Lx Ly v1 HA1.out.1.2.1.recs HA1.out.2.recs hf hf hn hn).mono ?_
        rintro e v2 ⟨hbc, rfl⟩
        rw [sameDps_self]
        simp only [decide_true, Bool.and_true]
        have HA2 : Hid (FBPick w W3 r lr lg V wg.heap.size v2 ∧ DpRow v2 X n n D Lx Hx ∧ v2.ownsRow wc0.heap.size 9 1 (.slice (some ⟨wc0.heap.size, 0, none⟩) m m) m (strv (lst m S)) ∧ OwnNd v2 wc1.heap.size r lg) := ⟨HA1.out.1.1.below hbc, HA1.out.1.2.1.below hbc, owns_same HA1.out.1.2.2.1 fun b e => hbc.block b (owns_block HA1.out.1.2.2.1 e).2, HA1.out.1.2.2.2.below hbc⟩
        clear hbc HA1
        go_wp2_with fail
        refine (toStringS_any pa m pc S v2 (hP.below (Nat.le_refl _) HA2.out.1.bel) HSZ.out.2.2).mono ?_
        rintro e v3 ⟨rfl, hbc, hrow⟩
        have HA3 : Hid ((FBPick w W3 r lr lg V wg.heap.size v3 ∧ DpRow v3 X n n D Lx Hx ∧ v3.ownsRow wc0.heap.size 9 1 (.slice (some ⟨wc0.heap.size, 0, none⟩) m m) m (strv (lst m S)) ∧ OwnNd v3 wc1.heap.size r lg) ∧ IsStrs v3 (some ⟨v2.heap.size, 0, none⟩) m S) := ⟨⟨HA2.out.1.below hbc, HA2.out.2.1.below hbc, owns_same HA2.out.2.2.1 fun b e => hbc.block b (owns_block HA2.out.2.2.1 e).2, HA2.out.2.2.2.below hbc⟩, IsStrs.row hrow⟩
        clear hbc hrow HA2
        go_wp2_with fail
        refine (eqStringS_any _ _ m _ m _ S S v3 (ownd_strs HA3.out.1.2.2.1) HA3.out.2 hm hm).mono ?_
        rintro e v4 ⟨⟨dq, rfl⟩, rfl⟩
        rw [eqS_self m S S (fun _ _ => rfl)]
        simp only [decide_true, Bool.and_true]
        have hbd := below_drewN (Below.refl v3.heap.size v3) dq
        have HA4 : Hid (FBPick w W3 r lr lg V wg.heap.size (v3.drewN dq) ∧ DpRow (v3.drewN dq) X n n D Lx Hx ∧ (v3.drewN dq).ownsRow wc0.heap.size 9 1 (.slice (some ⟨wc0.heap.size, 0, none⟩) m m) m (strv (lst m S)) ∧ OwnNd (v3.drewN dq) wc1.heap.size r lg) := ⟨HA3.out.1.1.below hbd, HA3.out.1.2.1.below hbd, owns_same HA3.out.1.2.2.1 fun b e => hbd.block b (owns_block HA3.out.1.2.2.1 e).2, HA3.out.1.2.2.2.below hbd⟩
        clear HA3 hbd
        generalize v3.drewN dq = v4 at HA4 ⊢
        go_wp2_with fail
        refine (markDumpS_own X n n 1 D Lx Hx v4 HA4.out.2.1.toMk HSZ.out.2.1 HSZ.out.1 (by omega) (by omega)).mono ?_
        rintro e vm0 ⟨⟨kk0, rfl, hkp0, hka0⟩, hfr⟩
        have hkz : kk0 ≤ 7000000 := by have := HSZ.out; omega
        have HM0 : Hid (FBPick w W3 r lr lg V wg.heap.size vm0 ∧ vm0.ownsRow wc0.heap.size 9 1 (.slice (some ⟨wc0.heap.size, 0, none⟩) m m) m (strv (lst m S)) ∧ OwnNd vm0 wc1.heap.size r lg) := ⟨HA4.out.1.fr hfr (by have := HX.out; omega) (Or.inr (by omega)), owns_same HA4.out.2.2.1 fun b e => hfr.far b (by have := (owns_block HA4.out.2.2.1 e).1; omega) (owns_block HA4.out.2.2.1 e).2, HA4.out.2.2.2.far hfr (by omega)⟩
        clear hfr HA4 hka0
        go_wp2_with fail
        refine (markStringS_own (some ⟨wc0.heap.size, 0, none⟩) m m kk0 wc0.heap.size S vm0 HM0.out.2.1 HSZ.out.2.2 hkp0 (by omega)).mono ?_
        rintro e vm1 ⟨rfl, _, hg⟩
        have hbx : (Value.slice (some ⟨wc0.heap.size, 0, none⟩) m m).ownBlock = some wc0.heap.size := rfl
        rw [hbx] at hg
        have hfr : Fr wc0.heap.size (wc0.heap.size + 1) vm0 vm1 := (Fr.refl _ _ _).grow hg (by have := HM0.out.1.base.size; have := (owns_block HM0.out.2.1 hbx).2; omega) (fun b e => by have := Option.some.inj e; omega)
        have HM1 : Hid (FBPick w W3 r lr lg V wg.heap.size vm1 ∧ OwnNd vm1 wc1.heap.size r lg) := ⟨HM0.out.1.fr hfr (by have := HX.out; omega) (Or.inr (by omega)), HM0.out.2.2.far hfr (by omega)⟩
        clear hfr hg hbx HM0
        obtain ⟨kk1, hkk1⟩ : ∃ kk1, kk1 = kk0 + m := ⟨_, rfl⟩
        rw [← hkk1]
        clear hkk1
        have hkn : decide (((kk1 : Nat) : Int) < 0) = false := by simp
        obtain ⟨g0, g1, g2, g3, g4⟩ := ndC_cells HM1.out.1.g
        obtain ⟨z0, z1, z2, z3, z4⟩ := ndC_cells HM1.out.1.v
        go_wp2_with fail
        refine (eqNode_any r r lg lr vm1 HM1.out.2.nIn (HI3.out.below (Nat.le_refl _) HM1.out.1.base) HSM.out.fits HSM.out.fits).mono ?_
        rintro e va ⟨hb, rfl⟩
        rw [Nd.same_self]
        have HVA : Hid (FBPick w W3 r lr lg V wg.heap.size va ∧ OwnNd va wc1.heap.size r lg) := ⟨HM1.out.1.below hb, HM1.out.2.below hb⟩
        clear hb HM1 g0 g1 g2 g3 g4 z0 z1 z2 z3 z4
        obtain ⟨g0, g1, g2, g3, g4⟩ := ndC_cells HVA.out.1.g
        go_wp2_with fail
        refine (markPl r lg 1 wc1.heap.size wg.heap.size va HVA.out.2 HSM.out HTG.out (by have := HVA.out.1.g.lt; omega) (by have := HVA.out.1.g.lt; omega) (by omega) (by omega)).mono ?_
        rintro e vb ⟨rfl, hfr, hmk⟩
        have HVB : Hid (FBPick w W3 r lr lg V wg.heap.size vb ∧ OwnNd vb wc1.heap.size (mkNd r 1) lg) := ⟨HVA.out.1.fr hfr (by have := HX.out; omega) (Or.inr (Nat.le_refl _)), hmk⟩
        clear hfr hmk HVA g0 g1 g2 g3 g4
        obtain ⟨kq, hkq⟩ : ∃ kq, kq = 1 + r.nn + r.kn := ⟨_, rfl⟩
        have HKQ : Hid (1 + r.nn + r.kn = kq) := hkq.symm
        clear hkq
        rw [HKQ.out]
        obtain ⟨g0, g1, g2, g3, g4⟩ := ndC_cells HVB.out.1.g
        go_wp2_with fail
        refine (heldPl r lg 1 wc1.heap.size vb HVB.out.2 HSM.out (by omega) (by omega)).mono ?_
        rintro e vc ⟨rfl, hb⟩
        rw [HKQ.out]
        have HVC : Hid (FBPick w W3 r lr lg V wg.heap.size vc ∧ OwnNd vc wc1.heap.size (mkNd r 1) lg) := ⟨HVB.out.1.below hb, HVB.out.2.below hb⟩
        have hkm : decide (((kq : Nat) : Int) < 0) = false := by simp
        have hkk : (((kq : Nat) : Int) != ((kq : Nat) : Int)) = false := by simp
        clear hb HVB g0 g1 g2 g3 g4
        go_wp2_with fail
        refine (toDumpS_own a n c D L vc (hI.below (Nat.le_refl _) HVC.out.1.bel) HSZ.out.2.1 HSZ.out.1).mono ?_
        rintro e wr1 ⟨rfl, hbc, Lq, Hq, hrow⟩
        have HR1 : Hid (Below w.heap.size w wr1 ∧ Below vc.heap.size vc wr1 ∧ IsDps wr1 (some ⟨vc.heap.size, 0, none⟩) n D Lq) := ⟨HVC.out.1.bel.trans (hbc.mono HVC.out.1.bel.size), hbc, hrow.recs⟩
        clear hbc hrow
        go_wp2_with fail
        refine (toStringS_any pa m pc S wr1 (hP.below (Nat.le_refl _) HR1.out.1) HSZ.out.2.2).mono ?_
        rintro e wr2 ⟨rfl, hbc, hrow⟩
        have HR2 : Hid (Below w.heap.size w wr2 ∧ Below vc.heap.size vc wr2 ∧ IsDps wr2 (some ⟨vc.heap.size, 0, none⟩) n D Lq ∧ IsStrs wr2 (some ⟨wr1.heap.size, 0, none⟩) m S) := ⟨HR1.out.1.trans (hbc.mono HR1.out.1.size), HR1.out.2.1.trans (hbc.mono HR1.out.2.1.size), HR1.out.2.2.below (Nat.le_refl _) hbc, IsStrs.row hrow⟩
        clear hbc hrow HR1
        go_wp2_with fail
        refine (HIM.out wr2 _ _ Lq _ _ (hE.bel HR2.out.1) HR2.out.2.2.1 HR2.out.2.2.2).mono ?_
        rintro e wr3 ⟨hbc, q, lh, hq, rfl, ho⟩
        obtain rfl : q = (r, z) := hq.one HPI.out
        replace ho : OwnNd wr3 wr2.heap.size r lh := ho
        unfold ndV
        dsimp only
        have HR3 : Hid (Below vc.heap.size vc wr3 ∧ OwnNd wr3 wr2.heap.size r lh) := ⟨HR2.out.2.1.trans (hbc.mono HR2.out.2.1.size), ho⟩
        clear hbc ho hq HR2
        have hq2lt : V < wr3.heap.size := (HVC.out.1.below HR3.out.1).v.lt
        obtain ⟨z0, z1, z2, z3, z4⟩ := ndC_cells (HVC.out.1.below HR3.out.1).v
        go_wp2_with fail
        clear z0 z1 z2 z3 z4
        refine at_world (F := fun U => Below vc.heap.size vc U ∧ Blk U wr3.heap.size (ndC r lh) 28 ∧ NdIn U r lh) ?_ ?_
        · have hb1 := (new1 wr3 (ndC r lh) 28).bel
          have hv1 := (new1 wr3 (ndC r lh) 28).b0
          exact ⟨HR3.out.1.trans (hb1.mono HR3.out.1.size), hv1, (HR3.out.2.below hb1).nIn⟩
        generalize wr3.heap.size = V3
        clear HR3
        · intro vd hd
          obtain ⟨hbd, hvd, hid⟩ := hd
          have HVE : Hid (FBPick w W3 r lr lg V wg.heap.size vd ∧ OwnNd vd wc1.heap.size (mkNd r 1) lg ∧ NdIn vd r lh) := ⟨HVC.out.1.below hbd, HVC.out.2.below hbd, hid⟩
          clear hbd hvd hid HVC
          refine (eqNode_any r r lh lr vd HVE.out.2.2 (HI3.out.below (Nat.le_refl _) HVE.out.1.base) HSM.out.fits HSM.out.fits).mono ?_
          rintro e vf ⟨hb, rfl⟩
          rw [Nd.same_self]
          have HVF : Hid (FBPick w W3 r lr lg V wg.heap.size vf ∧ OwnNd vf wc1.heap.size (mkNd r 1) lg) := ⟨HVE.out.1.below hb, HVE.out.2.1.below hb⟩
          clear hb HVE
          obtain ⟨g0, g1, g2, g3, g4⟩ := ndC_cells HVF.out.1.g
          go_wp2_with fail
          refine (heldPl r lg 1 wc1.heap.size vf HVF.out.2 HSM.out (by omega) (by omega)).mono ?_
          rintro e vh ⟨rfl, hb⟩
          rw [HKQ.out]
          have HBB : Hid (Below w.heap.size w vh) := (HVF.out.1.below hb).bel
          clear hb HVF g0 g1 g2 g3 g4
          go_wp2
          go_ret
          exact ⟨rfl, HBB.out⟩
end Go.Proofs.YtakifcobofkheabGreatDoor

/-
  FnExactBackPick as it is stated: the row, where the listed variable of the library reads as it is laid.
-/
namespace Go.Proofs.YtakifcobofkheabGreatDoor.fnExactBackPick
open Go.ChangeShapes Go.WideShapes Go.ChangeAt Go.RowKit Go.Joins
open Go.ChangeMaps (open_string)
set_option linter.unusedVariables false

abbrev laids : List (String × DataW Unit) := [("errors.errorType", Rows.laid_errors_errorType)]

theorem door_met (os : Os) (args : Array Value) : laidMetH Tryz.prog laids ((World.doorLaid Tryz.prog 16 os).forCall (fun _ _ => 0) ⟨#[], args, []⟩).memory :=
  laidMetH_of_parts3 (fuel := 8) (laidMet_of_run' 8 (by kernel_rfl) (by kernel_rfl)) (by kernel_rfl) (by kernel_rfl)

theorem et : Tryz.prog.globalNamed "errors.errorType" = some 0 := by kernel_rfl
theorem rt : (Tryz.prog.cutTypes.find? (·.1 == "internal/reflectlite.rtype")).map (·.2) = some 157 := by kernel_rfl
theorem oneRow : ((List.range 206).filter fun t => Tryz.prog.rowNamed t [101, 114, 114, 111, 114]) = [91] := by kernel_rfl
theorem typesSize : Tryz.prog.types.size = 206 := by kernel_rfl

/-- What the condition gives a walk: the variable's one cell. -/
theorem err_of_laid {W : World} (h : laidMetH Tryz.prog laids W) : ErrType W := by
  have h' : laidMet Tryz.prog [] W ∧ handlesMet Tryz.prog laids W := h
  obtain ⟨name, u, ty, e1, e2, e3, e4, e5⟩ := h'.2 _ (List.mem_singleton.2 rfl)
  have en : name = [101, 114, 114, 111, 114] := (Option.some.inj e1).symm
  subst en
  obtain rfl := Option.some.inj (rt.symm.trans e2)
  have hm : ty ∈ (List.range 206).filter fun t => Tryz.prog.rowNamed t [101, 114, 114, 111, 114] := List.mem_filter.2 ⟨List.mem_range.2 (by rw [← typesSize]; exact e3), e4⟩
  rw [oneRow] at hm
  obtain rfl := List.mem_singleton.1 hm
  have hh : typeHandle Tryz.prog 91 = .pointer (some ⟨1, 91, none⟩) := by kernel_rfl
  rw [hh] at e5
  have := World.var?_cell et e5 0
  unfold ErrType
  simpa using this

set_option maxRecDepth 100000 in
theorem lifted (os : Os) (started : os.Started) (H : Type) (enc : TypeId × Value → H) :
    ReturnsInHanded {} Tryz.checked os 3 .any (fun w args => (Rows.fnExactBackPickSpec.pre enc Tryz.prog Tryz.f3 [] false w args ∧ laidMetH Tryz.prog laids w) ∧ sizedMet enc Tryz.prog Tryz.f3 (OpenSpec.ofChange Rows.fnExactBackPickSpec) false w args)
      (Rows.fnExactBackPickSpec.post enc Tryz.prog Tryz.f3 false true false false) := by
  refine returnsInHanded_of_change_and (C := Tryz.checked) (X := fun w _ => laidMetH Tryz.prog laids w) (fun _ _ _ hh h => h.of_heap hh) own started (by kernel_rfl) Tryz.func3
    (ChangeSpec.witness_shaped (enc := enc) (C := Tryz.checked) (os := os) (X := fun w _ => laidMetH Tryz.prog laids w) false (World.doorLaid Tryz.prog 16 os) #[.slice none 0 0, .slice none 0 0] 8 rfl (World.shaped_of_RefB (by kernel_rfl) (by kernel_rfl)) (by kernel_rfl) (by kernel_rfl) (by kernel_rfl) (door_met os _)) ?_
  intro W base args ds gs before hval0 hW _ _ hL _
  have hval : ∀ (j : Nat) t v, Tryz.f3.params[j]? = some t → args[j]? = some v → Value.okWide Tryz.prog W .any base t v := hval0
  have hW' := hW
  obtain ⟨p, q, hA0, hV, rfl, hfz, hnd⟩ := hW
  have hA : DataW.TrodAll enc Tryz.prog W 0 (fun _ => true) true Tryz.f3.params.toList args.toList ds p := hA0
  rw [Tryz.params3] at hA hval
  obtain ⟨v0, vs0, d0, ds0, p0, q0, hargs, rfl, rfl, h0, r0⟩ := trodAll_cons hA
  obtain ⟨v1, vs1, d1, ds1, p1, q1, rfl, rfl, rfl, h1, r1⟩ := trodAll_cons r0
  obtain ⟨rfl, rfl, rfl⟩ := trodAll_nil r1
  obtain rfl : args = #[v0, v1] := by cases args; simp_all
  obtain ⟨rfl, rfl⟩ := trodVars_none hV
  have k0 := h0
  have lt0 : ∀ x ∈ p0, x.block < W.heap.size := by obtain ⟨m, hm⟩ := k0; exact DataW.trod_lt m _ _ _ hm
  obtain ⟨e0, l0, rfl, hI0, hf0⟩ := openDumps (hval 0 22 v0 rfl rfl) h0
  have k1 := h1
  have lt1 : ∀ x ∈ p1, x.block < W.heap.size := by obtain ⟨m, hm⟩ := k1; exact DataW.trod_lt m _ _ _ hm
  obtain ⟨e1, l1, rfl, hI1, hf1⟩ := openStrsP (hval 1 23 v1 rfl rfl) h1
  clear hA0 hval0
  refine (lawBackPick e0 l0 e1 l1 W (err_of_laid hL) hI0 hI1 hf0 hf1).mono fun e W' ⟨he, bel⟩ => ?_
  subst he
  exact ⟨_, rfl, _, _, _, [], _, [], hW', trodAll_mk1 (shut_bool Tryz.underlying4 _), (trodAll_cons_mk (Below.trod laidOut (by kernel_rfl) (of_decide_eq_true (by kernel_rfl)) k0 bel lt0) (trodAll_cons_mk (Below.trod laidOut (by kernel_rfl) (of_decide_eq_true (by kernel_rfl)) k1 bel lt1) trodAll_mk0)), rfl, bel.frame _, fun h => by cases h⟩

theorem over : Rows.fnExactBackPickRow.holds Tryz.pinned (OpenSpec.ofChange Rows.fnExactBackPickSpec) :=
  OpenClaim.holds_of_wide 3 Tryz.f3 rfl rfl rfl rfl rfl rfl rfl ⟨rfl, rfl, rfl, rfl, rfl⟩ rfl rfl rfl rfl rfl (by kernel_rfl) Tryz.func3 (by kernel_rfl)
    (of_decide_eq_true (by kernel_rfl)) (by unfold Func.isWrapper; first | (rw [if_pos (by decide +kernel)]; kernel_rfl) | (rw [if_neg (by decide +kernel)]; exact ⟨rfl, rfl⟩))
    (fun os started H enc _ => lifted os started H enc)
end Go.Proofs.YtakifcobofkheabGreatDoor.fnExactBackPick

/-
  FnExactBackPick as it is stated: the card.
-/
namespace Go.Proofs.YtakifcobofkheabGreatDoor
open Go

theorem fnExactBackPick_holds : Rows.FnExactBackPickCardSaid :=
  Claim7.holds_tied_plain_at .later [] [.handle] true (true, "4c636494980e828f4dad90b476c57cd818f6247b6f918578e8d945476bc251ab") true
    fnExactBackPick.over (fun _ h => by cases h) (by kernel_rfl) (fun _ h => by cases h) fnExactBackPick_row_tie rfl ⟨rfl, rfl⟩ (by kernel_rfl) rfl
    (fun f fn hf hfn => by
      obtain rfl : f = 3 := Option.some.inj ((show Tryz.prog.funcNamed "loop.example/cellarage/laws.FnExactBackPick" = some 3 by kernel_rfl).symm.trans hf) |>.symm
      obtain rfl : fn = Tryz.f3 := (Option.some.inj (Tryz.func3.symm.trans hfn)).symm
      exact ⟨by kernel_rfl, fun j t ht => by
        rw [Tryz.params3] at ht
        have hm : t ∈ [22, 23] := by simpa using Array.mem_of_getElem? ht
        have hall : ([22, 23].all fun u => !Tryz.prog.wantsStandIn u) = true := by kernel_rfl
        exact (show Tryz.prog.wantsStandIn t = false by simpa using List.all_eq_true.1 hall t hm)⟩)
    (by kernel_rfl)
end Go.Proofs.YtakifcobofkheabGreatDoor
