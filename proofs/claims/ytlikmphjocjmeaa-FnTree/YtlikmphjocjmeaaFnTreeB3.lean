/-
  Texts that the proof needs, laid one behind the other.
-/
import Derived.Test.YtlikmphjocjmeaaFnTreeB2
import Derived.Maps.Own
import Derived.Maps.OwnOps
import Derived.Maps.OwnSet
import Derived.Maps.Views
import Derived.Maps.AppendAt
import Derived.Laws.OwnMore
import Derived.Laws.Cover1
import Derived.BigCall

/-
  What reachOk and TreeOk of the program answer.
-/
namespace Go.Proofs.Ytlikmphjocjmeaa
open Go.RowKit
set_option linter.unusedVariables false

set_option maxHeartbeats 2000000 in
theorem reachOk_any (a : Option Addr) (n c : Nat) (now : Int) (D : Nat → Nd) (L : Nat → Loc) (w : World) (hS : IsNds w a n D L) (h1 : 1 ≤ n) (hn : n ≤ 1048576) (hsm : ∀ i, i < n → (D i).kn ≤ maxLen) (hk : ∀ i, i < n → ∀ j, j < (D i).kn → 0 ≤ (D i).kids j ∧ (D i).kids j < n) :
    Calls Try.prog 21 #[trV a n c now] w fun e w' => Below w.heap.size w w' ∧ ∃ r : Bool, e = .returned (.bool r) ∧ (r = true ↔ ∀ i, i < n → (Reach n D i ↔ (D i).kind ≠ 0)) := by
  unfold trV
  go_enter Try.func21, Try.ntmps21
  go_wp2_with fail
  refine at_world (F := New1 w _ _) (new1 w _ _) ?_
  rintro W ⟨hp, hb, hs⟩
  refine (reached_any a n c now D L W (hS.below (Nat.le_refl _) hb) h1 hn hsm hk).mono ?_
  rintro e w1 ⟨hb1, rfl, m, hrow, hm⟩
  have hp1 := hp.below hb1 (by omega)
  have HIN : Hid (RefsIn w a n c now w1 ∧ w1.rowIs (W.heap.size + 1) 4 n (fun j => .bool (m j))) := ⟨⟨hp1, hb.trans (hb1.mono (by omega))⟩, hrow⟩
  have HM : Hid (∀ j, m j = true ↔ Reach n D j) := hm
  clear hp hb hs hb1 hrow hp1 hm
  generalize W.heap.size + 1 = bm at *
  go_wp2
  go_loopw [8] (fun i wr => ∃ k : Nat, k ≤ n ∧ i = .int .i64 k ∧ RefsIn w a n c now wr ∧ wr.rowIs bm 4 n (fun j => .bool (m j)) ∧ ∀ i, i < k → (Reach n D i ↔ (D i).kind ≠ 0)) (fun i _ => n - (intOf i).toNat)
  case atStart => exact ⟨0, Nat.zero_le _, rfl, HIN.out.1, HIN.out.2, fun i h2 => by omega⟩
  case round =>
    obtain ⟨k, hk', rfl, hin, hrow, hall⟩ := hrel
    by_cases hlt : k < n
    · have hSr := hS.below (Nat.le_refl _) hin.bel
      obtain ⟨b, off, rfl, hlt2, hc⟩ := hSr.at hlt
      have c0 := (hc k hlt).1
      have t0 : wr.cell? ⟨w.heap.size, 0, none⟩ = some (.slice (some ⟨b, off, none⟩) n c) := hin.t.cell 0
      have hki : (k : Int) < (n : Int) := by omega
      have rc : wr.cell? ⟨bm, k, none⟩ = some (.bool (m k)) := hrow.cell hlt
      have HR : Hid (RefsIn w (some ⟨b, off, none⟩) n c now wr ∧ wr.rowIs bm 4 n (fun j => .bool (m j)) ∧ ∀ i, i < k → (Reach n D i ↔ (D i).kind ≠ 0)) := ⟨hin, hrow, hall⟩
      clear hc hin hrow hall hSr HIN
      cases hkz : ((D k).kind == 0) with
      | true =>
        have HZ : Hid ((D k).kind = 0) := show (D k).kind = 0 by simpa using hkz
        cases hmk : m k with
        | true =>
          rw [hmk] at rc
          have HX : Hid (Reach n D k) := (HM.out k).1 hmk
          clear hmk
          go_wp2
          go_ret
          exact ⟨HR.out.1.bel, false, rfl, fun h => (by cases h), fun h => absurd HZ.out ((h k hlt).1 HX.out)⟩
        | false =>
          rw [hmk] at rc
          have HX : Hid (Reach n D k ↔ (D k).kind ≠ 0) := ⟨fun h => (by have := (HM.out k).2 h; rw [hmk] at this; cases this), fun h => absurd HZ.out h⟩
          clear hmk
          go_wp2
          go_roundw
          case rel => exact ⟨k + 1, by omega, by go_num, HR.out.1, HR.out.2.1, fun i h2 => by
            by_cases e : i = k
            · subst e; exact HX.out
            · exact HR.out.2.2 i (by omega)⟩
          case measure => simp [intOf]; omega
      | false =>
        have HZ : Hid (¬ (D k).kind = 0) := show ¬ (D k).kind = 0 by simpa using hkz
        cases hmk : m k with
        | false =>
          rw [hmk] at rc
          have HX : Hid (¬ Reach n D k) := fun h => (by have := (HM.out k).2 h; rw [hmk] at this; cases this)
          clear hmk
          go_wp2
          go_ret
          exact ⟨HR.out.1.bel, false, rfl, fun h => (by cases h), fun h => absurd ((h k hlt).2 HZ.out) HX.out⟩
        | true =>
          rw [hmk] at rc
          have HX : Hid (Reach n D k ↔ (D k).kind ≠ 0) := ⟨fun _ => HZ.out, fun _ => (HM.out k).1 hmk⟩
          clear hmk
          go_wp2
          go_roundw
          case rel => exact ⟨k + 1, by omega, by go_num, HR.out.1, HR.out.2.1, fun i h2 => by
            by_cases e : i = k
            · subst e; exact HX.out
            · exact HR.out.2.2 i (by omega)⟩
          case measure => simp [intOf]; omega
    · have HALL : Hid (Below w.heap.size w wr ∧ ∀ i, i < n → (Reach n D i ↔ (D i).kind ≠ 0)) := ⟨hin.bel, fun i h2 => hall i (by omega)⟩
      clear hin hrow hall HIN
      go_wp2
      go_ret
      exact ⟨HALL.out.1, true, rfl, fun _ => HALL.out.2, fun _ => rfl⟩

set_option maxHeartbeats 2000000 in
theorem implTreeOk : ImplTreeOk := by
  intro a n c now D L w hS hf hn hsz hnow
  have hn' := hn
  unfold maxLen at hn'
  have out : ∀ (e : Ending) (w' : World), Below w.heap.size w w' → e = .returned (.bool false) → ¬ TreeGood n D now → Below w.heap.size w w' ∧ ∃ r : Bool, e = .returned (.bool r) ∧ (r = true ↔ TreeGood n D now) :=
    fun e w' hb he hg => ⟨hb, false, he, fun h => (by cases h), fun h => absurd h hg⟩
  by_cases g1 : n < 1
  · have hb1 : decide ((n : Int) < 1) = true := by simp; omega
    have HG : Hid (¬ TreeGood n D now) := fun h => by have := h.some; omega
    unfold trV
    go_enter Try.func7, Try.ntmps7
    go_wp2_with fail
    go_ret
    exact out _ _ ((Below.refl _ _).alloc (Nat.le_refl _) _) rfl HG.out
  · have hb1 : decide ((n : Int) < 1) = false := by simp; omega
    by_cases g2 : 10 < n
    · have hb2 : decide (10 < (n : Int)) = true := by simp; omega
      have HG : Hid (¬ TreeGood n D now) := fun h => by have := h.few; omega
      unfold trV
      go_enter Try.func7, Try.ntmps7
      go_wp2_with fail
      go_ret
      exact out _ _ ((Below.refl _ _).alloc (Nat.le_refl _) _) rfl HG.out
    · have hb2 : decide (10 < (n : Int)) = false := by simp; omega
      cases hto : turnIn now 1000 with
      | false =>
        have HG : Hid (¬ TreeGood n D now) := fun h => by
          have h1 := h.begun
          have h2 := h.soon
          unfold turnIn at hto
          rw [decide_eq_true h1, decide_eq_true h2] at hto
          cases hto
        unfold trV
        go_enter Try.func7, Try.ntmps7
        go_wp2_with (go_at_call 19; refine (turnOk_any _ _ _).mono ?_; rintro e w' ⟨rfl, rfl⟩; rw [hto])
        go_ret
        exact out _ _ ((Below.refl _ _).alloc (Nat.le_refl _) _) rfl HG.out
      | true =>
        have HT : Hid (1 ≤ now ∧ now ≤ 1000) := by
          show 1 ≤ now ∧ now ≤ 1000
          unfold turnIn at hto
          simpa using hto
        obtain ⟨b, off, rfl, hlt2, hc⟩ := hS.at (show 0 < n by omega)
        have c0 := (hc 0 (by omega)).1
        rw [Nat.zero_mul, Nat.add_zero] at c0
        clear hc
        by_cases g5 : (D 0).kind = 2
        · have hb5 : ((D 0).kind != 2) = false := by simp [g5]
          have H5 : Hid ((D 0).kind = 2) := g5
          clear g5
          unfold trV
          go_enter Try.func7, Try.ntmps7
          go_wp2_with (go_at_call 19; refine (turnOk_any _ _ _).mono ?_; rintro e w' ⟨rfl, rfl⟩; rw [hto])
          clear c0
          go_loopw [30] (fun i wr => ∃ k : Nat, k ≤ n ∧ i = .int .i64 k ∧ RefsIn w (some ⟨b, off, none⟩) n c now wr ∧ ∀ i, i < k → ndOk n D now (D i) = true) (fun i _ => n - (intOf i).toNat)
          case atStart => exact ⟨0, Nat.zero_le _, rfl, ⟨(new1 w _ _).b0, (new1 w _ _).bel⟩, fun i hi => by omega⟩
          case round =>
            obtain ⟨k, hk, rfl, hin, hall⟩ := hrel
            have t0 : wr.cell? ⟨w.heap.size, 0, none⟩ = some (.slice (some ⟨b, off, none⟩) n c) := hin.t.cell 0
            have t1 : wr.cell? ⟨w.heap.size, 1, none⟩ = some (.int .i64 now) := hin.t.cell 1
            have hSr := hS.below (Nat.le_refl _) hin.bel
            have hwl : w.heap.size < wr.heap.size := hin.t.lt
            by_cases hlt : k < n
            · obtain ⟨b', off', ha, hlt2', hc⟩ := hSr.at hlt
              cases ha
              obtain ⟨c0, c1, c2, c3, c4, hI⟩ := hc k hlt
              have hki : (k : Int) < (n : Int) := by omega
              have HIN : Hid (RefsIn w (some ⟨b, off, none⟩) n c now wr ∧ ∀ i, i < k → ndOk n D now (D i) = true) := ⟨hin, hall⟩
              clear hc hin hall
              go_wp2_with fail
              refine at_world (F := New1 wr _ _) (new1 wr _ _) ?_
              rintro W ⟨hp, hb, hs⟩
              refine (placeOk_any _ n c now D L (D k) (L k) W (hSr.below (Nat.le_refl _) hb) (hI.below (Nat.le_refl _) hb) (hf k hlt) hn).mono ?_
              rintro e w1 ⟨hb1', rfl⟩
              have hbw : Below wr.heap.size wr w1 := hb.trans (hb1'.mono (by omega))
              have HN : Hid (RefsIn w (some ⟨b, off, none⟩) n c now w1) := ⟨HIN.out.1.t.below hbw hwl, HIN.out.1.bel.trans (hbw.mono HIN.out.1.bel.size)⟩
              clear hp hb hs hb1' hbw c0 c1 c2 c3 c4 hI hSr t0 t1
              cases hq : ndOk n D now (D k) with
              | false =>
                have HQ : Hid (¬ TreeGood n D now) := fun h => by have := h.nodes k hlt; rw [hq] at this; cases this
                clear hq
                go_wp2
                go_ret
                exact out _ _ HN.out.bel rfl HQ.out
              | true =>
                have HQ : Hid (ndOk n D now (D k) = true) := hq
                clear hq
                go_wp2
                go_roundw
                case rel => exact ⟨k + 1, by omega, by go_num, HN.out, fun i hi => by
                  by_cases e : i = k
                  · subst e; exact HQ.out
                  · exact HIN.out.2 i (by omega)⟩
                case measure => simp [intOf]; omega
            · have hke : k = n := by omega
              have HALL : Hid (∀ i, i < n → ndOk n D now (D i) = true) := fun i hi => hall i (by omega)
              have HIN : Hid (RefsIn w (some ⟨b, off, none⟩) n c now wr) := hin
              clear hke hall hin
              go_wp2_with fail
              refine (reachOk_any _ n c now D L wr hSr (by omega) (by omega) (fun i hi => (hf i hi).kn) (kids_in HALL.out)).mono ?_
              rintro e w1 ⟨hb1', r, rfl, hr⟩
              have hN1 : RefsIn w (some ⟨b, off, none⟩) n c now w1 := ⟨HIN.out.t.below hb1' hwl, HIN.out.bel.trans (hb1'.mono HIN.out.bel.size)⟩
              have T0 : w1.cell? ⟨w.heap.size, 0, none⟩ = some (.slice (some ⟨b, off, none⟩) n c) := hN1.t.cell 0
              have T1 : w1.cell? ⟨w.heap.size, 1, none⟩ = some (.int .i64 now) := hN1.t.cell 1
              have HN1 : Hid (RefsIn w (some ⟨b, off, none⟩) n c now w1 ∧ (r = true ↔ ∀ i, i < n → (Reach n D i ↔ (D i).kind ≠ 0))) := ⟨hN1, hr⟩
              clear hb1' hN1 hr t0 t1 hSr
              cases r with
              | false =>
                have HQ : Hid (¬ TreeGood n D now) := fun h => by
                  have := HN1.out.2.2 (fun i hi => by
                    by_cases e : i = 0
                    · subst e; exact ⟨fun _ => by rw [H5.out]; decide, fun _ => .root⟩
                    · exact h.reach i (by omega) hi)
                  cases this
                go_wp2
                go_ret
                exact out _ _ HN1.out.1.bel rfl HQ.out
              | true =>
                go_wp2_with fail
                refine (namedOnce_any _ n c now D L w1 (hS.below (Nat.le_refl _) HN1.out.1.bel) (by omega) hsz (fun i hi => (hf i hi).kn) (kids_in HALL.out)).mono ?_
                rintro e w2 ⟨hb2', r2, rfl, hr2⟩
                have HE : Hid (Below w.heap.size w w2 ∧ (r2 = true ↔ TreeGood n D now)) := ⟨HN1.out.1.bel.trans (hb2'.mono HN1.out.1.bel.size),
                  fun h => ⟨by omega, by omega, HT.out.1, HT.out.2, H5.out, HALL.out, fun i _ hi => HN1.out.2.1 (by trivial) i hi, hr2.1 h⟩, fun h => hr2.2 h.one⟩
                clear hb2' hr2
                go_wp2
                go_ret
                exact ⟨HE.out.1, r2, rfl, HE.out.2⟩
        · have hb5 : ((D 0).kind != 2) = true := by simpa using g5
          have HG : Hid (¬ TreeGood n D now) := fun h => g5 h.root
          clear g5
          unfold trV
          go_enter Try.func7, Try.ntmps7
          go_wp2_with (go_at_call 19; refine (turnOk_any _ _ _).mono ?_; rintro e w' ⟨rfl, rfl⟩; rw [hto])
          go_ret
          exact out _ _ ((Below.refl _ _).alloc (Nat.le_refl _) _) rfl HG.out
end Go.Proofs.Ytlikmphjocjmeaa

/-
  What TreeRefs of the specification answers.
-/
namespace Go.Proofs.Ytlikmphjocjmeaa
open Go.RowKit
set_option linter.unusedVariables false

/-- How many names a place of a tree has; 0, if it is none. -/
structure RefsAre (n : Nat) (D : Nat → Nd) (now ino r : Int) : Prop where
  yes : TreeGood n D now → 0 ≤ ino → ino < n → r = refsTo D ino n
  no : ¬ (TreeGood n D now ∧ 0 ≤ ino ∧ ino < n) → r = 0

theorem RefsAre.one {n : Nat} {D : Nat → Nd} {now ino r r' : Int} (h : RefsAre n D now ino r) (h' : RefsAre n D now ino r') : r = r' := by
  by_cases g : TreeGood n D now ∧ 0 ≤ ino ∧ ino < n
  · rw [h.yes g.1 g.2.1 g.2.2, h'.yes g.1 g.2.1 g.2.2]
  · rw [h.no g, h'.no g]

set_option maxHeartbeats 2000000 in
theorem specTreeRefs_any (a : Option Addr) (n c : Nat) (now ino : Int) (D : Nat → Nd) (L : Nat → Loc) (w : World) (hS : IsNds w a n D L) (hf : FitAll n D) (hn : n ≤ maxLen) (hsz : sizeTo D n ≤ 1048576) :
    Calls Try.prog 15 #[trV a n c now, .int .i64 ino] w fun e w' => Below w.heap.size w w' ∧ ∃ r : Int, e = .returned (.int .i64 r) ∧ RefsAre n D now ino r := by
  unfold trV
  go_enter Try.func15, Try.ntmps15
  go_wp2_with fail
  refine at_world (F := New1 w _ _) (new1 w _ _) ?_
  rintro W ⟨hp, hb, hs⟩
  have hS0 := hS.below (Nat.le_refl _) hb
  refine (specTreeOk_any a n c now D L W hS0 hf hn hsz).mono ?_
  rintro e w1 ⟨hb1, r, rfl, hr⟩
  have hp1 := hp.below hb1 (by omega)
  have p0 : w1.cell? ⟨w.heap.size, 0, none⟩ = some (.slice a n c) := hp1.cell 0
  have p1 : w1.cell? ⟨w.heap.size, 1, none⟩ = some (.int .i64 now) := hp1.cell 1
  have HB : Hid (Below w.heap.size w w1 ∧ (r = true ↔ TreeGood n D now)) := ⟨hb.trans (hb1.mono (by omega)), hr⟩
  have hn' := hn
  unfold maxLen at hn'
  clear hp hb hs hS0 hb1 hp1 hr
  cases r with
  | false =>
    have HN : Hid (¬ TreeGood n D now) := fun h => by have := HB.out.2.2 h; cases this
    go_wp2_with fail
    go_ret
    exact ⟨HB.out.1, 0, rfl, fun h => absurd h HN.out, fun _ => rfl⟩
  | true =>
    have HN : Hid (TreeGood n D now) := HB.out.2.1 rfl
    by_cases h1 : ino < 0
    · have hb1 : decide (ino < 0) = true := by simp; omega
      go_wp2_with fail
      go_ret
      exact ⟨HB.out.1, 0, rfl, fun _ h => by omega, fun _ => rfl⟩
    · have hb1 : decide (ino < 0) = false := by simp; omega
      by_cases h2 : (n : Int) ≤ ino
      · have hb2 : decide ((n : Int) ≤ ino) = true := by simp; omega
        go_wp2_with fail
        go_ret
        exact ⟨HB.out.1, 0, rfl, fun _ _ h => by omega, fun _ => rfl⟩
      · have hb2 : decide ((n : Int) ≤ ino) = false := by simp; omega
        go_wp2_with fail
        refine (l2Refs_any a n c now ino D L w1 (hS.below (Nat.le_refl _) HB.out.1) hsz hn).mono ?_
        rintro e w2 ⟨hb2', rfl⟩
        have HB2 : Hid (Below w.heap.size w w2) := HB.out.1.trans (hb2'.mono HB.out.1.size)
        clear hb2'
        go_wp2_with fail
        go_ret
        exact ⟨HB2.out, _, rfl, fun _ _ _ => rfl, fun h => absurd ⟨HN.out, by omega, by omega⟩ h⟩
end Go.Proofs.Ytlikmphjocjmeaa

/-
  What TreeRefs of the program has to keep.
-/
namespace Go.Proofs.Ytlikmphjocjmeaa
open Go.RowKit

/-- What TreeRefs of the program has to keep. -/
def ImplTreeRefs : Prop := ∀ (a : Option Addr) (n c : Nat) (now ino : Int) (D : Nat → Nd) (L : Nat → Loc) (w : World), IsNds w a n D L → FitAll n D → n ≤ maxLen → sizeTo D n ≤ 1048576 → In64 now → In64 ino →
    Calls Try.prog 13 #[trV a n c now, .int .i64 ino] w fun e w' => Below w.heap.size w w' ∧ ∃ r : Int, e = .returned (.int .i64 r) ∧ RefsAre n D now ino r
end Go.Proofs.Ytlikmphjocjmeaa

/-
  What TreeRefs of the program answers.
-/
namespace Go.Proofs.Ytlikmphjocjmeaa
open Go.RowKit
set_option linter.unusedVariables false

set_option maxHeartbeats 2000000 in
theorem implTreeRefs : ImplTreeRefs := by
  intro a n c now ino D L w hS hf hn hsz hnow hino
  unfold trV
  go_enter Try.func13, Try.ntmps13
  go_wp2_with fail
  refine at_world (F := New1 w _ _) (new1 w _ _) ?_
  rintro W ⟨hp, hb, hs⟩
  have hS0 := hS.below (Nat.le_refl _) hb
  refine (implTreeOk a n c now D L W hS0 hf hn hsz hnow).mono ?_
  rintro e w1 ⟨hb1, r, rfl, hr⟩
  have hp1 := hp.below hb1 (by omega)
  have p0 : w1.cell? ⟨w.heap.size, 0, none⟩ = some (.slice a n c) := hp1.cell 0
  have p1 : w1.cell? ⟨w.heap.size, 1, none⟩ = some (.int .i64 now) := hp1.cell 1
  have HB : Hid (Below w.heap.size w w1 ∧ (r = true ↔ TreeGood n D now)) := ⟨hb.trans (hb1.mono (by omega)), hr⟩
  have hn' := hn
  unfold maxLen at hn'
  unfold In64 at hino
  clear hp hb hs hS0 hb1 hp1 hr
  cases r with
  | false =>
    have HN : Hid (¬ TreeGood n D now) := fun h => by have := HB.out.2.2 h; cases this
    go_wp2_with fail
    go_ret
    exact ⟨HB.out.1, 0, rfl, fun h => absurd h HN.out, fun _ => rfl⟩
  | true =>
    have HN : Hid (TreeGood n D now) := HB.out.2.1 rfl
    by_cases h1 : ino < 0
    · have hb1 : decide (ino < 0) = true := by simp; omega
      go_wp2_with fail
      go_ret
      exact ⟨HB.out.1, 0, rfl, fun _ h => by omega, fun _ => rfl⟩
    · have hb1 : decide (ino < 0) = false := by simp; omega
      by_cases h2 : (n : Int) ≤ ino
      · have hb2 : decide ((n : Int) ≤ ino) = true := by simp; omega
        go_wp2_with fail
        go_ret
        exact ⟨HB.out.1, 0, rfl, fun _ _ h => by omega, fun _ => rfl⟩
      · have hb2 : decide ((n : Int) ≤ ino) = false := by simp; omega
        obtain ⟨k, rfl⟩ : ∃ k : Nat, ino = k := ⟨ino.toNat, by omega⟩
        have hkn : k < n := by omega
        have hki : (k : Int) < (n : Int) := by omega
        go_wp2_with fail
        refine (refsOf_any a n c now D L w1 (hS.below (Nat.le_refl _) HB.out.1) (by have := HN.out.few; omega) hsz (fun i hi => (hf i hi).kn) (kids_in HN.out.nodes)).mono ?_
        rintro e w2 ⟨hb2', rfl, hrow⟩
        have rc : w2.cell? ⟨w1.heap.size + 1, k, none⟩ = some (.int .i64 (refsTo D k n)) := hrow.cell hkn
        have HB2 : Hid (Below w.heap.size w w2) := HB.out.1.trans (hb2'.mono HB.out.1.size)
        clear hb2' hrow
        go_wp2_with fail
        go_ret
        exact ⟨HB2.out, _, rfl, fun _ _ _ => rfl, fun h => absurd ⟨HN.out, by omega, by omega⟩ h⟩
end Go.Proofs.Ytlikmphjocjmeaa

/-
  What kidsByName of the program answers: a map from the names of a place to its places.
-/
namespace Go.Proofs.Ytlikmphjocjmeaa
open Go.RowKit Go.Maps Go.WideMaps
set_option linter.unusedVariables false

theorem law : Keyed Try.prog 9 := string_keyed Try.underlying9
theorem zeroInt (w : World) : (zeroValue 3).run Try.prog w = .ok (.int .i64 0) w := by kernel_rfl

/-- What a name reads as. -/
def keyL (s : ByteArray) : Lit := .string s.data.toList

/-- The map has the first k names, and at each its place. -/
structure Kept (S : Nat → ByteArray) (Z : Nat → Int) (k : Nat) (M : DataW Unit) : Prop where
  isMap : IsMap M
  has : ∀ s : ByteArray, Maps.has M (keyL s) = true ↔ ∃ i, i < k ∧ (S i).toList = s.toList
  at_ : ∀ i, i < k → ∀ z, M.atKey (keyL (S i)) z = .lit (.int .i64 (Z i))

theorem run_makeMap_hint (n : Int) (w : World) : (Instr.makeMap 52 (some (.int .i64 n))).run Try.prog w = .ok (.map (some w.heap.size)) (w.alloc (.map #[] 0)) := by
  simp [Instr.makeMap, run_underlying Try.underlying52, asInt, asIntOf, Result.andThen]

theorem keyL_ne {s t : ByteArray} (h : ¬ s.toList = t.toList) : keyL s ≠ keyL t := by
  intro e
  unfold keyL at e
  simp only [Lit.string.injEq] at e
  exact h (by rw [ByteArray.toList_eq, ByteArray.toList_eq, e])

theorem keyL_eq {s t : ByteArray} (h : s.toList = t.toList) : keyL s = keyL t := by
  unfold keyL
  rw [← ByteArray.toList_eq, ← ByteArray.toList_eq, h]

theorem kept_start (S : Nat → ByteArray) (Z : Nat → Int) : Kept S Z 0 (.map []) := ⟨isMap_empty, fun s => ⟨fun h => by simp [Maps.has] at h, fun h => by obtain ⟨i, hi, _⟩ := h; omega⟩, fun i hi => by omega⟩

theorem Kept.step {S : Nat → ByteArray} {Z : Nat → Int} {k : Nat} {M : DataW Unit} (h : Kept S Z k M) (hne : ∀ i, i < k → ¬ (S i).toList = (S k).toList) : Kept S Z (k + 1) (M.put (keyL (S k)) (.lit (.int .i64 (Z k)))) := by
  refine ⟨h.isMap.put _ _, fun s => ?_, fun i hi z => ?_⟩
  · by_cases e : (S k).toList = s.toList
    · rw [← keyL_eq e, has_put_same h.isMap (show WideAt.IsKeyLit (keyL (S k)) from trivial)]
      exact ⟨fun _ => ⟨k, by omega, e⟩, fun _ => rfl⟩
    · rw [has_put_other (keyL_ne (fun e' => e e'.symm)), h.has s]
      constructor
      · rintro ⟨i, hi, he⟩; exact ⟨i, by omega, he⟩
      · rintro ⟨i, hi, he⟩
        by_cases e2 : i = k
        · subst e2; exact absurd he e
        · exact ⟨i, by omega, he⟩
  · by_cases e : i = k
    · subst e; exact atKey_put_same h.isMap (show WideAt.IsKeyLit (keyL (S i)) from trivial) _ _
    · rw [atKey_put_other (keyL_ne (hne i (by omega)))]; exact h.at_ i (by omega) z

/-- What is known within kidsByName. -/
structure KbIn (w : World) (d : Nd) (l : Loc) (M : DataW Unit) (k : Nat) (W : World) : Prop where
  d : Blk W w.heap.size #[.int .i64 d.kind, .string d.text, .slice l.nA d.nn l.nc, .slice l.kA d.kn l.kc, .int .i64 d.turn] 36
  own : W.ownsMap Try.prog 9 (plainElem Try.prog 3) (w.heap.size + 1) k M
  bel : Below w.heap.size w W

set_option maxHeartbeats 2000000 in
theorem kidsByName_any (d : Nd) (l : Loc) (w : World) (hI : NdIn w d l) (hf : d.Fits) (hk : d.kn = d.nn) (hinj : ∀ i j, i < d.nn → j < d.nn → (d.names i).toList = (d.names j).toList → i = j) :
    Calls Try.prog 29 #[ndV d l] w fun e w' => Below w.heap.size w w' ∧ ∃ b M, e = .returned (.map (some b)) ∧ w'.ownsMap Try.prog 9 (plainElem Try.prog 3) b d.nn M ∧ Kept d.names d.kids d.nn M := by
  have hnn := hf.nn
  have hkn := hf.kn
  have HK : Hid (d.kn = d.nn) := hk
  clear hk
  unfold maxLen at hnn hkn
  unfold ndV
  have hmm := run_makeMap_hint
  go_enter Try.func29, Try.ntmps29
  go_wp2
  go_loopw [13] (fun i wr => ∃ (k : Nat) (M : DataW Unit), k ≤ d.nn ∧ i = .int .i64 k ∧ KbIn w d l M k wr ∧ Kept d.names d.kids k M) (fun i _ => d.nn - (intOf i).toNat)
  case atStart =>
    have h1 := new1 w #[.int .i64 d.kind, .string d.text, .slice l.nA d.nn l.nc, .slice l.kA d.kn l.kc, .int .i64 d.turn] 36
    refine ⟨0, .map [], Nat.zero_le _, rfl, ⟨h1.b0.alloc _, ?_, h1.bel.alloc (by simp) _⟩, kept_start _ _⟩
    have := World.ownsMap_made (H := Unit) (w.alloc (.cells #[.int .i64 d.kind, .string d.text, .slice l.nA d.nn l.nc, .slice l.kA d.kn l.kc, .int .i64 d.turn] 36)) Try.prog 9 (plainElem Try.prog 3)
    rw [h1.size] at this
    exact this
  case round =>
    obtain ⟨k, M, hk', rfl, hin, hkept⟩ := hrel
    have d2 : wr.cell? ⟨w.heap.size, 2, none⟩ = some (.slice l.nA d.nn l.nc) := hin.d.cell 2
    have d3 : wr.cell? ⟨w.heap.size, 3, none⟩ = some (.slice l.kA d.kn l.kc) := hin.d.cell 3
    clear hmm
    by_cases hlt : k < d.nn
    · have hIr := hI.below (Nat.le_refl _) hin.bel
      obtain ⟨b, off, ha, hlt2, hc⟩ := hIr.1.at hlt
      obtain ⟨b', off', ha', hlt2', hc'⟩ := hIr.2.at (show k < d.kn by have := HK.out; omega)
      have h1 := hc k hlt
      have h2 := hc' k (by have := HK.out; omega)
      rw [ha] at d2
      rw [ha'] at d3
      rw [ha, ha']
      have hlti : (k : Int) < (d.nn : Int) := by omega
      have hltk : (k : Int) < (d.kn : Int) := by have := HK.out; omega
      have hkey : keyOf Try.prog 9 (.string (d.names k)) = some (keyL (d.names k)) := keyOf_string_mk Try.underlying9 (hf.names k hlt)
      have hwf : (Lit.int .i64 (d.kids k)).wf = true := by
        have := hf.kids k (by have := HK.out; omega)
        unfold In64 at this
        exact WalkArith.wf_i64 (by omega)
      have hown := hin.own
      have HIN : Hid (KbIn w d l M k wr ∧ Kept d.names d.kids k M) := ⟨hin, hkept⟩
      clear hc hc' hIr hin hkept
      go_wp2_with (at_mapUpdate; refine wpList_mapUpdate_own _ rfl _ _ _ 52 rfl 9 3 law Try.underlying52 _ (w.heap.size + 1) k _ rfl hown (by unfold maxLen; omega) _ _ _ rfl rfl hkey _ [] (plainElem_int Try.underlying3 hwf) ?_)
      intro w1 hown1 hgrow1
      have HN : Hid (KbIn w d l (M.put (keyL (d.names k)) (.lit (.int .i64 (d.kids k)))) (k + 1) w1 ∧ Kept d.names d.kids (k + 1) (M.put (keyL (d.names k)) (.lit (.int .i64 (d.kids k))))) :=
        ⟨⟨HIN.out.1.d.of_block (hgrow1.block _ HIN.out.1.d.lt (by simp)), hown1, HIN.out.1.bel.grown hgrow1 (by have := HIN.out.1.d.lt; omega) (fun g hg => by cases hg; omega)⟩, HIN.out.2.step (fun i hi e => by have := hinj i k (by omega) hlt e; omega)⟩
      clear hown1 hgrow1 hown d2 d3 h1 h2
      go_wp2
      go_roundw
      case rel => exact ⟨k + 1, _, by omega, by go_num, HN.out.1, HN.out.2⟩
      case measure => simp [intOf]; omega
    · have hke : k = d.nn := by omega
      have HIN : Hid (KbIn w d l M d.nn wr ∧ Kept d.names d.kids d.nn M) := ⟨hke ▸ hin, hke ▸ hkept⟩
      clear hke hin hkept
      go_wp2
      go_ret
      exact ⟨HIN.out.1.bel, _, M, rfl, HIN.out.1.own, HIN.out.2⟩
end Go.Proofs.Ytlikmphjocjmeaa

/-
  What TreeFind of the program answers.
-/
namespace Go.Proofs.Ytlikmphjocjmeaa
open Go.RowKit Go.Maps Go.WideMaps
set_option linter.unusedVariables false

/-- What TreeFind of the program has to keep. -/
def ImplTreeFind : Prop := ∀ (a : Option Addr) (n c : Nat) (now : Int) (D : Nat → Nd) (L : Nat → Loc) (pa : Option Addr) (m pc : Nat) (S : Nat → ByteArray) (w : World), IsNds w a n D L → IsStrs w pa m S → FitAll n D → n ≤ maxLen → sizeTo D n ≤ 1048576 → In64 now → m ≤ maxLen → Small m S →
    Calls Try.prog 12 #[trV a n c now, .slice pa m pc] w fun e w' => Below w.heap.size w w' ∧ ∃ r, e = .returned (.int .i64 r) ∧ FindAre n D now m S r

set_option maxHeartbeats 2000000 in
theorem implTreeFind : ImplTreeFind := by
  intro a n c now D L pa m pc S w hS hP hf hn hsz hnow hm hsm
  have hn' := hn
  have hm' := hm
  unfold maxLen at hn' hm'
  unfold trV
  go_enter Try.func12, Try.ntmps12
  go_wp2_with fail
  refine at_world (F := New1 w _ _) (new1 w _ _) ?_
  rintro W ⟨hp, hb, hs⟩
  refine (implTreeOk a n c now D L W (hS.below (Nat.le_refl _) hb) hf hn hsz hnow).mono ?_
  rintro e w1 ⟨hb1, r, rfl, hr⟩
  have hp1 := hp.below hb1 (by omega)
  have HB : Hid (RefsIn w a n c now w1 ∧ (r = true ↔ TreeGood n D now)) := ⟨⟨hp1, hb.trans (hb1.mono (by omega))⟩, hr⟩
  clear hp hb hs hb1 hp1 hr
  cases r with
  | false =>
    have HN : Hid (FindAre n D now m S (-1)) := findAre_no (fun g => by have := HB.out.2.2 g.1; cases this)
    go_wp2_with fail
    go_ret
    exact ⟨HB.out.1.bel, -1, rfl, HN.out⟩
  | true =>
    have HG : Hid (TreeGood n D now) := HB.out.2.1 rfl
    go_wp2_with fail
    refine (implPathOk_any pa m pc S w1 (hP.below (Nat.le_refl _) HB.out.1.bel) hsm hm).mono ?_
    rintro e w2 ⟨rfl, rfl⟩
    cases hpo : pathOk m S with
    | false =>
      have HN : Hid (FindAre n D now m S (-1)) := findAre_no (fun g => by have := g.2.1; rw [hpo] at this; cases this)
      clear hpo
      go_wp2_with fail
      go_ret
      exact ⟨HB.out.1.bel, -1, rfl, HN.out⟩
    | true =>
      have HP : Hid (pathOk m S = true) := hpo
      clear hpo
      go_wp2_with fail
      go_loopw [5, 20] (fun x i wr => ∃ k y : Nat, k ≤ m ∧ i = .int .i64 k ∧ x = .int .i64 y ∧ RefsIn w a n c now wr ∧ Leads D S k y) (fun _ i _ => m - (intOf i).toNat)
      case atStart => exact ⟨0, 0, Nat.zero_le _, rfl, rfl, HB.out.1, .root⟩
      case round =>
        obtain ⟨k, y, hk, rfl, rfl, hin, hl⟩ := hrel
        have t0 : wr.cell? ⟨w.heap.size, 0, none⟩ = some (.slice a n c) := hin.t.cell 0
        have hwl : w.heap.size < wr.heap.size := hin.t.lt
        by_cases hlt : k < m
        · have hyn : y < n := hl.lt HG.out
          have hSr := hS.below (Nat.le_refl _) hin.bel
          have hPr := hP.below (Nat.le_refl _) hin.bel
          obtain ⟨b, off, rfl, hlt2, hc⟩ := hSr.at hyn
          obtain ⟨b', off', rfl, hlt2', hc'⟩ := hPr.at hlt
          obtain ⟨c0, c1, c2, c3, c4, hI⟩ := hc y hyn
          have p0 := hc' k hlt
          have hki : (k : Int) < (m : Int) := by omega
          have hyi : (y : Int) < (n : Int) := by omega
          have HIN : Hid (RefsIn w (some ⟨b, off, none⟩) n c now wr ∧ Leads D S k y ∧ NdIn wr (D y) (L y)) := ⟨hin, hl, hI⟩
          have hkn : (D y).kn = (D y).nn ∧ ∀ i j, i < (D y).nn → j < (D y).nn → ((D y).names i).toList = ((D y).names j).toList → i = j := by
            by_cases h0 : 0 < (D y).nn
            · have h := dir_of_names (HG.out.nodes y hyn) h0
              exact ⟨h.2.2, fun i j hi hj e => names_inj h.2.1 hi hj e⟩
            · refine ⟨?_, fun i j hi => by omega⟩
              have h := HG.out.nodes y hyn
              unfold ndOk at h
              split at h
              · unfold freeOk at h; simp at h; omega
              · split at h
                · unfold fileOk at h; simp at h; omega
                · split at h
                  · unfold dirOk at h
                    simp only [Bool.and_eq_true, decide_eq_true_eq] at h
                    exact h.1.1.2.2
                  · cases h
          have HKN : Hid _ := hkn
          clear hc hc' hin hl hI hkn hSr hPr
          have hkey : keyOf Try.prog 9 (.string (S k)) = some (keyL (S k)) := keyOf_string_mk Try.underlying9 (hsm k hlt)
          go_wp2_with fail
          refine (kidsByName_any (D y) (L y) wr HIN.out.2.2 (hf y hyn) HKN.out.1 HKN.out.2).mono ?_
          rintro e w3 ⟨hb3, bm, M, rfl, hown, hkept⟩
          have HN : Hid (RefsIn w (some ⟨b, off, none⟩) n c now w3 ∧ Kept (D y).names (D y).kids (D y).nn M) := ⟨⟨HIN.out.1.t.below hb3 hwl, HIN.out.1.bel.trans (hb3.mono HIN.out.1.bel.size)⟩, hkept⟩
          clear hb3 hkept c0 c1 c2 c3 c4 p0 t0 hwl hlt2 hlt2'
          go_wp2_with (at_lookup; refine wpList_lookup_own_ok_int _ rfl _ _ 52 rfl 9 3 .i64 law Try.underlying52 Try.underlying3 (zeroInt _) bm _ M rfl hown _ _ rfl hkey ?_; intro z hat hwz)
          · have hno : Maps.has M (keyL (S k)) = false := by
              have h : (!Maps.has M (keyL (S k))) = true := ‹_›
              simpa using h
            have HX : Hid (FindAre n D now m S (-1)) := findAre_no (fun g => (HIN.out.2.1.stuck g.1 (fun i hi e => by
              have := (HN.out.2.has (S k)).2 ⟨i, hi, e⟩
              rw [hno] at this; cases this) hlt) g.2.2)
            go_ret
            exact ⟨HN.out.1.bel, -1, rfl, HX.out⟩
          · have hyes : Maps.has M (keyL (S k)) = true := by
              have h : (!Maps.has M (keyL (S k))) = false := ‹_›
              simpa using h
            obtain ⟨i, hi, e⟩ := (HN.out.2.has (S k)).1 hyes
            have hz : (D y).kids i = z := by
              have h1 := HN.out.2.at_ i hi (.lit (.int .i64 0))
              rw [keyL_eq e, hat] at h1
              simpa using h1.symm
            have hkid := kids_in HG.out.nodes y hyn i (by have := HKN.out.1; omega)
            have hst := HIN.out.2.1.step hi e
            go_roundw
            case rel => exact ⟨k + 1, ((D y).kids i).toNat, by omega, by go_num, by rw [← hz]; congr 1; omega, HN.out.1, hst⟩
            case measure => simp [intOf]; omega
        · have hke : k = m := by omega
          have HX : Hid (FindAre n D now m S y ∧ Below w.heap.size w wr) := ⟨findAre_end HG.out HP.out (hke ▸ hl), hin.bel⟩
          clear hke hin hl
          go_wp2
          go_ret
          exact ⟨HX.out.2, _, rfl, HX.out.1⟩
end Go.Proofs.Ytlikmphjocjmeaa

/-
  A statement whose order is drawn, walked operation by operation: what is known of what has come up is kept by whatever comes next. Plain laws.
-/
namespace Go.Proofs.Ytlikmphjocjmeaa
open Go.RowKit
set_option linter.unusedVariables false

section
variable {P : Program} {md : Region.Mode} {Q : Exit → Act → World → Prop} {ops : Array Oper}

/-- One more has come up. -/
def lset (L : Nat → Bool) (i : Nat) : Nat → Bool := fun j => j == i || L j

theorem lset_same (L : Nat → Bool) (i : Nat) : lset L i i = true := by simp [lset]
theorem lset_ne (L : Nat → Bool) {i j : Nat} (h : j ≠ i) : lset L i j = L j := by simp [lset, h]

theorem count_set_true : ∀ (l : List Bool) (i : Nat), l[i]? = some false → (l.set i true).count false + 1 = l.count false
  | [], i, h => by simp at h
  | b :: l, 0, h => by simp at h; subst h; simp
  | b :: l, i + 1, h => by
    have := count_set_true l i (by simpa using h)
    cases b <;> simp <;> omega

theorem ready_listed {listed : Array Bool} {i : Nat} (h : i ∈ Region.ready md ops listed) : listed.toList[i]? = some false := by
  obtain ⟨h0, _⟩ := mem_ready.1 h
  rcases Nat.lt_or_ge i listed.size with hi | hi
  · rw [getD_both hi] at h0
    simp [hi, h0]
  · simp [Array.getD, Nat.not_lt.2 hi] at h0

theorem wpAny_inv (hlt : ∀ (j : Nat) (oj : Oper), ops[j]? = some oj → ∀ e ∈ oj.after, Region.binds md e = true → e.on < j) (I : (Nat → Bool) → Act → World → Prop)
    (step : ∀ (i : Nat) (o : Oper), ops[i]? = some o → ∀ L a w, L i = false → (∀ e ∈ o.after, Region.binds md e = true → L e.on = true) → I L a w → ∀ K : Act → World → Prop, (∀ a' w', I (lset L i) a' w' → K a' w') →
      if Region.wanted o (yielded ops a.tmps) = true then Oper.wp P o a w K Q else K (a.put o.dst undef) w)
    (fin : ∀ L a w, (∀ i, i < ops.size → L i = true) → I L a w → Q .normal a w) :
    ∀ (fuel : Nat) (listed : Array Bool) (a : Act) (w : World), listed.size = ops.size → listed.toList.count false ≤ fuel → I (fun j => listed.getD j false) a w → wpAny P md ops Q fuel listed a w := by
  have hfin : ∀ (listed : Array Bool) (a : Act) (w : World), listed.size = ops.size → I (fun j => listed.getD j false) a w → Region.ready md ops listed = [] → Q .normal a w := fun listed a w hs hI hr => by
    refine fin _ a w ?_ hI
    intro j
    induction j using Nat.strongRecOn with
    | _ j ih =>
      intro hj
      show listed.getD j false = true
      cases hb : listed.getD j false with
      | true => rfl
      | false =>
        exfalso
        have hjl : j < listed.size := by rw [hs]; exact hj
        have : j ∈ Region.ready md ops listed := mem_ready.2 ⟨by rw [getD_both hjl] at hb ⊢; exact hb, ops[j], by simp [hj], fun e he hbn => ih e.on (hlt j ops[j] (by simp [hj]) e he hbn) (Nat.lt_trans (hlt j ops[j] (by simp [hj]) e he hbn) hj)⟩
        rw [hr] at this
        cases this
  intro fuel
  induction fuel with
  | zero =>
    intro listed a w hs hc hI
    have hr : Region.ready md ops listed = [] := by
      rw [List.eq_nil_iff_forall_not_mem]
      intro i hi
      have h1 := List.mem_of_getElem? (ready_listed hi)
      have h2 := List.count_pos_iff.2 h1
      omega
    exact ⟨hr, hfin listed a w hs hI hr⟩
  | succ fuel ih =>
    intro listed a w hs hc hI
    refine ⟨hfin listed a w hs hI, fun i hi => ?_⟩
    obtain ⟨h0, o, ho, hall⟩ := mem_ready.1 hi
    have hil : i < ops.size := (Array.getElem?_eq_some_iff.1 ho).1
    have hill : i < listed.size := by omega
    have h0' : listed.getD i false = false := by rw [getD_both hill] at h0 ⊢; exact h0
    have hst := step i o ho (fun j => listed.getD j false) a w h0' hall hI (wpAny P md ops Q fuel (listed.setIfInBounds i true)) (fun a' w' hI' => ih _ a' w' (by simp [hs]) (by
      have := count_set_true listed.toList i (ready_listed hi)
      rw [Array.toList_setIfInBounds]
      omega) (by
      have e : (fun j => (listed.setIfInBounds i true).getD j false) = lset (fun j => listed.getD j false) i := by
        funext j
        by_cases hj : j = i
        · subst hj; rw [lset_same]; simp [hill]
        · rw [lset_ne _ hj]; simp [Ne.symm hj]
      rw [e]; exact hI'))
    unfold wpOp
    simp only [ho]
    split
    · rename_i hw; rw [if_pos hw] at hst; exact Or.inl hst
    · rename_i hw; rw [if_neg hw] at hst; exact hst
theorem wpAnyH_inv {S : World → Prop} (hlt : ∀ (j : Nat) (oj : Oper), ops[j]? = some oj → ∀ e ∈ oj.after, Region.binds md e = true → e.on < j) (I : (Nat → Bool) → Act → World → Prop)
    (hS : ∀ L a w, I L a w → S w)
    (step : ∀ (i : Nat) (o : Oper), ops[i]? = some o → ∀ L a w, L i = false → (∀ e ∈ o.after, Region.binds md e = true → L e.on = true) → I L a w → ∀ K : Act → World → Prop, (∀ a' w', I (lset L i) a' w' → K a' w') →
      if Region.wanted o (yielded ops a.tmps) = true then Oper.wp P o a w K Q else K (a.put o.dst undef) w)
    (fin : ∀ L a w, (∀ i, i < ops.size → L i = true) → I L a w → Q .normal a w) :
    ∀ (fuel : Nat) (listed : Array Bool) (a : Act) (w : World), listed.size = ops.size → listed.toList.count false ≤ fuel → I (fun j => listed.getD j false) a w → wpAnyH P md ops Q S fuel listed a w := by
  have hfin : ∀ (listed : Array Bool) (a : Act) (w : World), listed.size = ops.size → I (fun j => listed.getD j false) a w → Region.ready md ops listed = [] → Q .normal a w := fun listed a w hs hI hr => by
    refine fin _ a w ?_ hI
    intro j
    induction j using Nat.strongRecOn with
    | _ j ih =>
      intro hj
      show listed.getD j false = true
      cases hb : listed.getD j false with
      | true => rfl
      | false =>
        exfalso
        have hjl : j < listed.size := by rw [hs]; exact hj
        have : j ∈ Region.ready md ops listed := mem_ready.2 ⟨by rw [getD_both hjl] at hb ⊢; exact hb, ops[j], by simp [hj], fun e he hbn => ih e.on (hlt j ops[j] (by simp [hj]) e he hbn) (Nat.lt_trans (hlt j ops[j] (by simp [hj]) e he hbn) hj)⟩
        rw [hr] at this
        cases this
  intro fuel
  induction fuel with
  | zero =>
    intro listed a w hs hc hI
    have hr : Region.ready md ops listed = [] := by
      rw [List.eq_nil_iff_forall_not_mem]
      intro i hi
      have h1 := List.mem_of_getElem? (ready_listed hi)
      have h2 := List.count_pos_iff.2 h1
      omega
    exact ⟨hr, hfin listed a w hs hI hr⟩
  | succ fuel ih =>
    intro listed a w hs hc hI
    refine ⟨hfin listed a w hs hI, fun i hi => ?_⟩
    obtain ⟨h0, o, ho, hall⟩ := mem_ready.1 hi
    have hil : i < ops.size := (Array.getElem?_eq_some_iff.1 ho).1
    have hill : i < listed.size := by omega
    have h0' : listed.getD i false = false := by rw [getD_both hill] at h0 ⊢; exact h0
    have hst := step i o ho (fun j => listed.getD j false) a w h0' hall hI (fun a' w' => S w' ∧ wpAnyH P md ops Q S fuel (listed.setIfInBounds i true) a' w') (fun a' w' hI' => ⟨hS _ _ _ hI', ih _ a' w' (by simp [hs]) (by
      have := count_set_true listed.toList i (ready_listed hi)
      rw [Array.toList_setIfInBounds]
      omega) (by
      have e : (fun j => (listed.setIfInBounds i true).getD j false) = lset (fun j => listed.getD j false) i := by
        funext j
        by_cases hj : j = i
        · subst hj; rw [lset_same]; simp [hill]
        · rw [lset_ne _ hj]; simp [Ne.symm hj]
      rw [e]; exact hI')⟩)
    unfold wpOp
    simp only [ho]
    split
    · rename_i hw; rw [if_pos hw] at hst; exact Or.inl hst
    · rename_i hw; rw [if_neg hw] at hst; exact hst
end

/-- The places ds of a frame hold these values. -/
def upd (a : Act) (ds : List Nat) (v : Nat → Value) : Act := { a with tmps := ds.foldl (fun t d => t.setIfInBounds d (v d)) a.tmps }

theorem upd_size (ds : List Nat) (v : Nat → Value) : ∀ t : Array Value, (ds.foldl (fun t d => t.setIfInBounds d (v d)) t).size = t.size := by
  induction ds with
  | nil => intro t; rfl
  | cons d ds ih => intro t; rw [List.foldl_cons, ih]; simp

theorem upd_get (ds : List Nat) (v : Nat → Value) : ∀ (t : Array Value) (j : Nat), (ds.foldl (fun t d => t.setIfInBounds d (v d)) t)[j]? = if j ∈ ds ∧ j < t.size then some (v j) else t[j]? := by
  induction ds with
  | nil => intro t j; simp
  | cons d ds ih =>
    intro t j
    rw [List.foldl_cons, ih, Array.size_setIfInBounds, Array.getElem?_setIfInBounds]
    by_cases hj : j < t.size
    · by_cases h1 : j ∈ ds
      · simp [h1, hj]
      · by_cases h2 : j = d
        · subst h2; simp [h1, hj]
        · simp [h1, h2, Ne.symm h2]
    · have hn : t[j]? = none := Array.getElem?_eq_none (by omega)
      by_cases h2 : d = j
      · subst h2; simp [hj]
      · simp [hj, h2]

/-- One of them is put. -/
def vset (v : Nat → Value) (d : Nat) (x : Value) : Nat → Value := fun j => if j = d then x else v j

theorem vset_same (v : Nat → Value) (d : Nat) (x : Value) : vset v d x d = x := by simp [vset]
theorem vset_ne (v : Nat → Value) {d j : Nat} (x : Value) (h : j ≠ d) : vset v d x j = v j := by simp [vset, h]

theorem upd_put (a : Act) (ds : List Nat) (v : Nat → Value) (d : Nat) (x : Value) (hd : d ∈ ds) : (upd a ds v).put (some d) x = upd a ds (vset v d x) := by
  unfold upd Act.put
  simp only [Act.mk.injEq, and_true]
  apply Array.ext_getElem?
  intro j
  rw [Array.getElem?_setIfInBounds, upd_get, upd_get, upd_size]
  by_cases hj : j < a.tmps.size
  · by_cases h : d = j
    · subst h; simp [hj, hd, vset]
    · simp [h, Ne.symm h, vset]
  · have hn : a.tmps[j]? = none := Array.getElem?_eq_none (by omega)
    by_cases h : d = j
    · subst h; simp [hj]
    · simp [hj, h]

theorem upd_eval_in (a : Act) (ds : List Nat) (v : Nat → Value) (t : Nat) (ht : t ∈ ds) (hs : t < a.tmps.size) : (upd a ds v).eval (.tmp t) = v t := by
  have := upd_get ds v a.tmps t
  rw [if_pos ⟨ht, hs⟩] at this
  unfold upd Act.eval
  simp [Array.getD_eq_getD_getElem?, this]

theorem upd_eval_out (a : Act) (ds : List Nat) (v : Nat → Value) (t : Nat) (ht : t ∉ ds) : (upd a ds v).eval (.tmp t) = a.eval (.tmp t) := by
  have := upd_get ds v a.tmps t
  rw [if_neg (fun h => ht h.1)] at this
  unfold upd Act.eval
  simp only [Array.getD_eq_getD_getElem?]
  rw [this]

theorem upd_self (a : Act) (ds : List Nat) : upd a ds (fun j => a.tmps.getD j undef) = a := by
  unfold upd
  cases a with | mk t d => ?_
  simp only [Act.mk.injEq, and_true]
  apply Array.ext_getElem?
  intro j
  rw [upd_get]
  split
  · rename_i h; simp [h.2]
  · rfl

section
variable {P : Program} {Q : Exit → Act → World → Prop}

/-- Each operation of a list keeps what is known. -/
def StepsAll (P : Program) (ops : Array Oper) (Q : Exit → Act → World → Prop) (a0 : Act) (ds : List Nat) (J : (Nat → Bool) → (Nat → Value) → World → Prop) : List Oper → Nat → Prop
  | [], _ => True
  | o :: l, k => (∀ (L : Nat → Bool) (v : Nat → Value) (w : World), L k = false → (∀ e ∈ o.after.toList, Region.binds .any e = true → L e.on = true) → J L v w → ∀ K : Act → World → Prop,
      (∀ a' v' w', a' = upd a0 ds v' → J (lset L k) v' w' → K a' w') → if Region.wanted o (yielded ops (upd a0 ds v).tmps) = true then Oper.wp P o (upd a0 ds v) w K Q else K ((upd a0 ds v).put o.dst undef) w) ∧ StepsAll P ops Q a0 ds J l (k + 1)

theorem StepsAll.get {ops : Array Oper} {a0 : Act} {ds : List Nat} {J : (Nat → Bool) → (Nat → Value) → World → Prop} : ∀ {l : List Oper} {k : Nat}, StepsAll P ops Q a0 ds J l k → ∀ (i : Nat) (o : Oper), l[i]? = some o →
    (∀ (L : Nat → Bool) (v : Nat → Value) (w : World), L (k + i) = false → (∀ e ∈ o.after.toList, Region.binds .any e = true → L e.on = true) → J L v w → ∀ K : Act → World → Prop,
      (∀ a' v' w', a' = upd a0 ds v' → J (lset L (k + i)) v' w' → K a' w') → if Region.wanted o (yielded ops (upd a0 ds v).tmps) = true then Oper.wp P o (upd a0 ds v) w K Q else K ((upd a0 ds v).put o.dst undef) w)
  | [], _, _, i, o, h => by simp at h
  | o' :: l, k, hs, 0, o, h => by simp at h; subst h; exact hs.1
  | o' :: l, k, hs, i + 1, o, h => by
    have := hs.2.get i o (by simpa using h)
    rw [show k + 1 + i = k + (i + 1) by omega] at this
    exact this

/-- Every operation waits for earlier ones alone. -/
def laterB (ops : Array Oper) : Bool := (List.range ops.size).all fun j => match ops[j]? with | some oj => oj.after.all (fun e => !Region.binds .any e || decide (e.on < j)) | none => true

theorem laterB_spec {ops : Array Oper} (h : laterB ops = true) : ∀ (j : Nat) (oj : Oper), ops[j]? = some oj → ∀ e ∈ oj.after, Region.binds .any e = true → e.on < j := fun j oj hj e he hb => by
  have hlt : j < ops.size := (Array.getElem?_eq_some_iff.1 hj).1
  unfold laterB at h
  have := List.all_eq_true.1 h j (by simpa using hlt)
  rw [hj] at this
  simp only [Array.all_eq_true_iff_forall_mem, Bool.or_eq_true, Bool.not_eq_true', decide_eq_true_eq] at this
  exact (this e he).resolve_left (by simp [hb])

theorem wp_region_inv {id : Nat} {l : List Oper} {a0 : Act} {w : World} (ds : List Nat) (J : (Nat → Bool) → (Nat → Value) → World → Prop) (hm : P.follows .mixedOrders = true) (hB : laterB l.toArray = true)
    (h0 : ∀ v, J (fun _ => false) v w.drew) (hs : StepsAll P l.toArray Q a0 ds J l 0) (fin : ∀ L v w', (∀ i, i < l.length → L i = true) → J L v w' → Q .normal (upd a0 ds v) w') : (Code.region id l.toArray true).wp P Q a0 w := by
  refine wp_region_any hm ?_
  refine wpAny_inv (laterB_spec hB) (fun L a w' => ∃ v, a = upd a0 ds v ∧ J L v w') ?_ ?_ _ _ _ _ (by simp) (by simp) ⟨fun j => a0.tmps.getD j undef, (upd_self a0 ds).symm, ?_⟩
  · rintro i o ho L a w' hi hd ⟨v, rfl, hJ⟩ K hK
    have := hs.get i o (by simpa using ho) L v w' (by simpa using hi) (fun e he hb => hd e (by simpa using he) hb) hJ K (fun a' v' w'' e h => hK a' w'' ⟨v', e, by simpa using h⟩)
    exact this
  · rintro L a w' hL ⟨v, rfl, hJ⟩
    exact fin L v w' (fun i hi => hL i (by simpa using hi)) hJ
  · have e : (fun j => (Array.replicate l.toArray.size false).getD j false) = fun _ => false := by funext j; simp [Array.getD]
    rw [e]; exact h0 _

/-- .. behind operations that were taken first. -/
theorem wpAnyH_vals {S : World → Prop} {l : List Oper} {a0 : Act} {w : World} {fuel : Nat} {listed : Array Bool} (ds : List Nat) (J : (Nat → Bool) → (Nat → Value) → World → Prop) (hB : laterB l.toArray = true) (hn : listed.size = l.length) (hc : listed.toList.count false ≤ fuel)
    (h0 : ∀ v, J (fun j => listed.getD j false) v w) (hS : ∀ L v w, J L v w → S w) (hs : StepsAll P l.toArray Q a0 ds J l 0) (fin : ∀ L v w', (∀ i, i < l.length → L i = true) → J L v w' → Q .normal (upd a0 ds v) w') : wpAnyH P .any l.toArray Q S fuel listed a0 w := by
  refine wpAnyH_inv (laterB_spec hB) (fun L a w' => ∃ v, a = upd a0 ds v ∧ J L v w') (fun L a w' ⟨v, _, h⟩ => hS L v w' h) ?_ ?_ _ _ _ _ (by simpa using hn) hc ⟨fun j => a0.tmps.getD j undef, (upd_self a0 ds).symm, h0 _⟩
  · rintro i o ho L a w' hi hd ⟨v, rfl, hJ⟩ K hK
    have := hs.get i o (by simpa using ho) L v w' (by simpa using hi) (fun e he hb => hd e (by simpa using he) hb) hJ K (fun a' v' w'' e h => hK a' w'' ⟨v', e, by simpa using h⟩)
    exact this
  · rintro L a w' hL ⟨v, rfl, hJ⟩
    exact fin L v w' (fun i hi => hL i (by simpa using hi)) hJ

/-- The places of a frame that hold rows: each with the operation that makes the row, and the one that takes it. -/
def liveAt (keys : List (Nat × Nat × Nat)) (L : Nat → Bool) (d : Nat) : Prop := ∃ j c, (d, j, c) ∈ keys ∧ L j = true ∧ L c = false
end
end Go.Proofs.Ytlikmphjocjmeaa

/-
  A list of texts behind another one: what the laws append. Plain facts.
-/
namespace Go.Proofs.Ytlikmphjocjmeaa
open Go.RowKit
set_option linter.unusedVariables false

theorem take_cells {w : World} {g : Nat} {L : List ByteArray} (hc : ∀ i, i < L.length → w.cell? ⟨g, 0 + i, none⟩ = some (.string (L.getD i ByteArray.empty))) (k : Nat) :
    ∀ j u, (strv (L.take k))[j]? = some u → w.cell? ((⟨g, 0, none⟩ : Addr).add j) = some u := by
  intro j u h
  rw [show (⟨g, 0, none⟩ : Addr).add j = ⟨g, 0 + j, none⟩ by unfold Addr.add; split <;> simp_all]
  have hj : j < (strv (L.take k)).length := by
    by_cases hh : j < (strv (L.take k)).length
    · exact hh
    · rw [List.getElem?_eq_none (by omega)] at h; cases h
  rw [strv_length, List.length_take] at hj
  rw [hc j (by omega), ← h]
  simp [strv, List.getElem?_take_of_lt (show j < k by omega), show j < L.length by omega]

/-- The first n of a list, as a list. -/
def lst (n : Nat) (S : Nat → ByteArray) : List ByteArray := (List.range n).map S
theorem lst_length (n : Nat) (S : Nat → ByteArray) : (lst n S).length = n := by simp [lst]
theorem lst_getD (n : Nat) (S : Nat → ByteArray) (i : Nat) (h : i < n) : (lst n S).getD i ByteArray.empty = S i := by simp [lst, h]

/-- One list behind another. -/
def catS (n : Nat) (S T : Nat → ByteArray) : Nat → ByteArray := fun i => if i < n then S i else T (i - n)

theorem cat_getD (n m : Nat) (S T : Nat → ByteArray) (i : Nat) (h : i < n + m) : (lst n S ++ lst m T).getD i ByteArray.empty = catS n S T i := by
  unfold catS
  by_cases hi : i < n
  · simp [hi, lst, List.getElem?_append_left]
  · simp only [if_neg hi, List.getD_eq_getElem?_getD]
    rw [List.getElem?_append_right (by rw [lst_length]; omega), lst_length]
    simp [lst, show i - n < m by omega]

theorem IsStrs.congr {w : World} {a : Option Addr} {n : Nat} {S T : Nat → ByteArray} (h : IsStrs w a n S) (e : ∀ i, i < n → S i = T i) : IsStrs w a n T := by
  rcases h with h | ⟨b, off, ha, hlt, hc⟩
  · exact Or.inl h
  · exact Or.inr ⟨b, off, ha, hlt, fun i hi => by rw [hc i hi, e i hi]⟩

theorem lst_cells {w : World} {g n : Nat} {S : Nat → ByteArray} (hc : ∀ i, i < n → w.cell? ⟨g, 0 + i, none⟩ = some (.string (S i))) :
    ∀ j u, (strv (lst n S))[j]? = some u → w.cell? ((⟨g, 0, none⟩ : Addr).add j) = some u := by
  have := take_cells (w := w) (g := g) (L := lst n S) (fun i hi => by rw [lst_length] at hi; rw [hc i hi, lst_getD n S i hi]) n
  rw [List.take_of_length_le (by rw [lst_length]; exact Nat.le_refl _)] at this
  exact this

theorem strv_lst (n : Nat) (S : Nat → ByteArray) : (strv (lst n S)).length = n * 1 := by rw [strv_length, lst_length]; omega

/-- A way of one's own: a list of texts that lies in memory from block g on. -/
structure Lies (w : World) (g n cap : Nat) (S : Nat → ByteArray) : Prop where
  lt : g < w.heap.size
  cell : ∀ i, i < n → w.cell? ⟨g, 0 + i, none⟩ = some (.string (S i))
  room : n ≤ cap
  most : cap ≤ maxLen
  few : n ≤ 100
  short : ∀ i, i < n → (S i).size ≤ 5

theorem Lies.strs {w : World} {g n cap : Nat} {S : Nat → ByteArray} (h : Lies w g n cap S) : IsStrs w (some ⟨g, 0, none⟩) n S := Or.inr ⟨g, 0, rfl, h.lt, h.cell⟩
theorem Lies.small {w : World} {g n cap : Nat} {S : Nat → ByteArray} (h : Lies w g n cap S) : Small n S := fun i hi => by have := h.short i hi; unfold maxLen; omega
theorem Lies.below {w w' : World} {g n cap : Nat} {S : Nat → ByteArray} (h : Lies w g n cap S) (hb : Below w.heap.size w w') : Lies w' g n cap S :=
  ⟨Nat.lt_of_lt_of_le h.lt hb.size, fun i hi => (hb.cell (p := ⟨g, 0 + i, none⟩) h.lt).trans (h.cell i hi), h.room, h.most, h.few, h.short⟩
theorem Lies.drewN {w : World} {g n cap : Nat} {S : Nat → ByteArray} (h : Lies w g n cap S) (q : Nat) : Lies (w.drewN q) g n cap S := h.below (below_drewN (Below.refl _ _) q)
theorem Lies.len {w : World} {g n cap : Nat} {S : Nat → ByteArray} (h : Lies w g n cap S) : n ≤ maxLen := by have := h.few; unfold maxLen; omega
theorem Drawn.lies {w : World} {g n cap : Nat} {S : Nat → ByteArray} (h : Drawn w g n cap S) : Lies w g n cap S := ⟨h.lt, h.cell, h.room, h.most, by have := h.few; omega, fun i _ => h.short i⟩

theorem OwnsStrs.lies {w : World} {B : Nat} {v : Value} {L : List ByteArray} (h : OwnsStrs w B v L) (n : Nat) (S : Nat → ByteArray) (hn : L.length = n) (hS : ∀ i, i < n → L.getD i ByteArray.empty = S i) (h9 : n ≤ 100) (h5 : ∀ i, i < n → (S i).size ≤ 5) :
    ∃ g cap, v = .slice (some ⟨g, 0, none⟩) n cap ∧ B ≤ g ∧ Lies w g n cap S := by
  subst hn
  obtain ⟨g, cap, hv, hB, hlt, hc, hn, hm⟩ := h.hands
  exact ⟨g, cap, hv, hB, hlt, fun i hi => by rw [hc i hi, hS i hi], hn, hm, h9, h5⟩

theorem cat_right (n : Nat) (S T : Nat → ByteArray) (i : Nat) : catS n S T (n + i) = T i := by
  unfold catS; rw [if_neg (by omega), Nat.add_sub_cancel_left]
end Go.Proofs.Ytlikmphjocjmeaa

/-
  Rows of one's own that a statement makes and appends to, in whatever order: each is as it is said, and no two share memory. Plain laws.
-/
namespace Go.Proofs.Ytlikmphjocjmeaa
open Go.RowKit
set_option linter.unusedVariables false

/-- What a list to be appended holds, and where it lies; it may be nil. -/
structure Src (W : World) (size : Nat) (x : Value) (m : Nat) (news : List Value) : Prop where
  len : news.length = m * size
  one : ∀ u ∈ news, u.oneCell' = true
  lies : (∃ c, x = .slice none 0 c ∧ m = 0) ∨ ∃ ad c, x = .slice (some ad) m c ∧ ∀ j u, news[j]? = some u → W.cell? (ad.add j) = some u

theorem run_append_none {P : Program} (w : World) (base : Nat) (t ty e : TypeId) (i : TypeInfo) (size : Nat) (ht : P.underlying t = some (.slice e)) (hi : P.info? e = some i)
    (v : Value) (n : Nat) (xs : List Value) (hown : w.ownsRow base e size v n xs) (c : Nat) :
    (Builtin.append_ #[t, t] ty #[v, .slice none 0 c]).run P w = .ok v w := by
  rcases hown.2 with ⟨rfl, rfl⟩ | ⟨g, cap, cur, rfl, _, _, hnc, _⟩
  · simp [Builtin.append_, run_underlying ht, sizeOf, typeInfo, hi, Builtin.lenOf, Builtin.firstCells]
  · simp [Builtin.append_, run_underlying ht, sizeOf, typeInfo, hi, Builtin.lenOf, Builtin.firstCells, hnc, storeCells]

theorem run_append_src {P : Program} (w : World) (base : Nat) (t ty e : TypeId) (i : TypeInfo) (z : Value) (size bytes : Nat) (ht : P.underlying t = some (.slice e)) (hi : P.info? e = some i) (hz : i.zero = some z)
    (hsize : i.size = size) (hby : i.bytes = bytes) (hzs : z.cells.size = size) (hsz : 0 < size)
    (v : Value) (n : Nat) (xs : List Value) (hown : w.ownsRow base e size v n xs) (x : Value) (m : Nat) (news : List Value) (hx : Src w size x m news)
    (h63 : n + m ≤ maxLen) (hbytes : (n + m) * bytes ≤ 140737488355328) (hbase : base ≤ w.heap.size) :
    ∃ v' w', (Builtin.append_ #[t, t] ty #[v, x]).run P w = .ok v' w' ∧ w'.ownsRow base e size v' (n + m) (xs ++ news) ∧ w.grownBy w' v.ownBlock ∧
      (v' = .slice none 0 0 ↔ v = .slice none 0 0 ∧ m = 0) ∧ (v'.ownBlock = v.ownBlock ∨ v'.ownBlock = some w.heap.size) := by
  rcases hx.lies with ⟨c, rfl, rfl⟩ | ⟨ad, c, rfl, hc⟩
  · have hn : news = [] := List.length_eq_zero_iff.1 (by have := hx.len; omega)
    subst hn
    exact ⟨v, w, run_append_none w base t ty e i size ht hi v n xs hown c, by simpa using hown, ⟨rfl, rfl, rfl, Nat.le_refl _, fun _ _ _ => rfl⟩, by simp, Or.inl rfl⟩
  · exact run_append_own_at w base t ty e i z size bytes ht hi hz hsize hby hzs hsz v n xs hown ad m c news hx.len hc hx.one h63 hbytes hbase

theorem wp_append_src {P : Program} {o : Oper} {a : Act} {w : World} {K : Act → World → Prop} {Q : Exit → Act → World → Prop} (s y : Operand) (t : TypeId)
    (ho : o.op = .call { callee := .builtin .append, args := #[s, y], argTypes := #[t, t] })
    (base : Nat) (e : TypeId) (i : TypeInfo) (z : Value) (size bytes : Nat) (ht : P.underlying t = some (.slice e)) (hi : P.info? e = some i) (hz : i.zero = some z)
    (hsize : i.size = size) (hby : i.bytes = bytes) (hzs : z.cells.size = size) (hsz : 0 < size)
    (v : Value) (n : Nat) (xs : List Value) (hs : a.eval s = v) (hown : w.ownsRow base e size v n xs) (x : Value) (m : Nat) (news : List Value) (hxe : a.eval y = x) (hx : Src w size x m news)
    (h63 : n + m ≤ maxLen) (hbytes : (n + m) * bytes ≤ 140737488355328) (hbase : base ≤ w.heap.size)
    (h : ∀ v' w', w'.ownsRow base e size v' (n + m) (xs ++ news) → w.grownBy w' v.ownBlock → (v' = .slice none 0 0 ↔ v = .slice none 0 0 ∧ m = 0) → (v'.ownBlock = v.ownBlock ∨ v'.ownBlock = some w.heap.size) → K (a.put o.dst v') w') : o.wp P a w K Q := by
  obtain ⟨v', w', hr, h2, h3, h4, h5⟩ := run_append_src (P := P) w base t o.type e i z size bytes ht hi hz hsize hby hzs hsz v n xs hown x m news hx h63 hbytes hbase
  unfold Oper.wp execOp
  simp only [ho, resolve, invoke, builtin, Sem.run_bind, Sem.run_pure, Result.andThen_ok, List.map_toArray, List.map_cons, List.map_nil, hs, hxe, hr]
  exact h v' w' h2 h3 h4 h5

theorem wpList_append_src {P : Program} {ops : Array Oper} {rest : List Oper} {o : Oper} {a : Act} {w : World} {Q : Exit → Act → World → Prop} (hgd : o.guard = none) (s y : Operand) (t : TypeId)
    (ho : o.op = .call { callee := .builtin .append, args := #[s, y], argTypes := #[t, t] })
    (base : Nat) (e : TypeId) (i : TypeInfo) (z : Value) (size bytes : Nat) (ht : P.underlying t = some (.slice e)) (hi : P.info? e = some i) (hz : i.zero = some z)
    (hsize : i.size = size) (hby : i.bytes = bytes) (hzs : z.cells.size = size) (hsz : 0 < size)
    (v : Value) (n : Nat) (xs : List Value) (hs : a.eval s = v) (hown : w.ownsRow base e size v n xs) (x : Value) (m : Nat) (news : List Value) (hxe : a.eval y = x) (hx : Src w size x m news)
    (h63 : n + m ≤ maxLen) (hbytes : (n + m) * bytes ≤ 140737488355328) (hbase : base ≤ w.heap.size)
    (h : ∀ v' w', w'.ownsRow base e size v' (n + m) (xs ++ news) → w.grownBy w' v.ownBlock → (v' = .slice none 0 0 ↔ v = .slice none 0 0 ∧ m = 0) → (v'.ownBlock = v.ownBlock ∨ v'.ownBlock = some w.heap.size) → wpList P ops Q rest (a.put o.dst v') w') : wpList P ops Q (o :: rest) a w :=
  wpList_plain hgd fun _ hK => wp_append_src s y t ho base e i z size bytes ht hi hz hsize hby hzs hsz v n xs hs hown x m news hxe hx h63 hbytes hbase fun v' w' h2 h3 h4 h5 => hK _ _ (h v' w' h2 h3 h4 h5)

/-- A row: of which elements, how wide, how many, which. -/
structure Rw where
  e : TypeId
  size : Nat
  n : Nat
  xs : List Value

/-- The places d that are live hold such rows, in blocks of their own. -/
structure Rws (B : Nat) (row : Nat → Rw) (live : Nat → Prop) (v : Nat → Value) (w : World) : Prop where
  own : ∀ d, live d → w.ownsRow B (row d).e (row d).size (v d) (row d).n (row d).xs ∧ ∃ b, (v d).ownBlock = some b
  apart : ∀ d d', live d → live d' → d ≠ d' → (v d).ownBlock ≠ (v d').ownBlock

theorem owns_block {w : World} {B : Nat} {e : TypeId} {size n : Nat} {xs : List Value} {v : Value} (h : w.ownsRow B e size v n xs) {b : Nat} (hb : v.ownBlock = some b) : B ≤ b ∧ b < w.heap.size := h.lt b hb

/-- A row comes to be: a new one, or a live one appended to. -/
theorem Rws.step {B : Nat} {row : Nat → Rw} {live live' : Nat → Prop} {v : Nat → Value} {w w' : World} (h : Rws B row live v w) {d : Nat} {x : Value} {r : Option Nat} (hg : w.grownBy w' r)
    (hr : ∀ d', live' d' → d' ≠ d → live d' ∧ (v d').ownBlock ≠ r) (hown : w'.ownsRow B (row d).e (row d).size x (row d).n (row d).xs) {b : Nat} (hx : x.ownBlock = some b) (hb : r = some b ∨ w.heap.size ≤ b) : Rws B row live' (vset v d x) w' := by
  have key : ∀ d', live' d' → d' ≠ d → (v d').ownBlock ≠ some b := fun d' h1 h2 e => by
    obtain ⟨h3, h4⟩ := hr d' h1 h2
    rcases hb with hb | hb
    · exact h4 (e.trans hb.symm)
    · have := (owns_block (h.own d' h3).1 e).2
      omega
  refine ⟨fun d' hl => ?_, fun d1 d2 h1 h2 hne => ?_⟩
  · by_cases e : d' = d
    · subst e; rw [vset_same]; exact ⟨hown, b, hx⟩
    · rw [vset_ne _ _ e]
      obtain ⟨h3, h4⟩ := hr d' hl e
      exact ⟨(h.own d' h3).1.kept hg (Or.inr h4), (h.own d' h3).2⟩
  · by_cases e1 : d1 = d
    · have e2 : d2 ≠ d := fun e => hne (e1.trans e.symm)
      subst e1
      rw [vset_same, vset_ne _ _ e2, hx]
      exact Ne.symm (key d2 h2 e2)
    · by_cases e2 : d2 = d
      · subst e2
        rw [vset_same, vset_ne _ _ e1, hx]
        exact key d1 h1 e1
      · rw [vset_ne _ _ e1, vset_ne _ _ e2]
        exact h.apart d1 d2 (hr d1 h1 e1).1 (hr d2 h2 e2).1 hne

/-- Nothing of the rows turns. -/
theorem Rws.same {B : Nat} {row : Nat → Rw} {live live' : Nat → Prop} {v v' : Nat → Value} {w w' : World} (h : Rws B row live v w) (hl : ∀ d, live' d → live d ∧ v' d = v d) (hw : ∀ d b, live' d → (v d).ownBlock = some b → w'.heap[b]? = w.heap[b]?) : Rws B row live' v' w' := by
  refine ⟨fun d hd => ?_, fun d1 d2 h1 h2 hne => ?_⟩
  · obtain ⟨h1, h2⟩ := hl d hd
    rw [h2]
    obtain ⟨⟨h3, h4⟩, b, h5⟩ := h.own d h1
    refine ⟨⟨h3, ?_⟩, b, h5⟩
    rcases h4 with h4 | ⟨g, cap, cur, hv, hB, hg, hr⟩
    · exact Or.inl h4
    · refine Or.inr ⟨g, cap, cur, hv, hB, ?_, hr⟩
      have : b = g := by rw [hv] at h5; simpa [Value.ownBlock] using h5.symm
      subst this
      exact (hw d b hd h5).trans hg
  · rw [(hl d1 h1).2, (hl d2 h2).2]
    exact h.apart d1 d2 (hl d1 h1).1 (hl d2 h2).1 hne

/-- A row of a literal. -/
theorem owns_lit {w : World} {B : Nat} (hB : B ≤ w.heap.size) (xs : List Value) (e : TypeId) (size n : Nat) (hl : xs.length = n * size) (hn : n ≤ maxLen) : (w.alloc (.cells xs.toArray e)).ownsRow B e size (.slice (some ⟨w.heap.size, 0, none⟩) n n) n xs :=
  ⟨hl, Or.inr ⟨w.heap.size, n, xs.toArray, rfl, hB, Go.Deep.blk_alloc_new _ _, Nat.le_refl _, hn, by simpa using hl, by rw [← hl]; simp⟩⟩

/-- A live row, as a source. -/
theorem owns_src {w : World} {B : Nat} {e : TypeId} {size n : Nat} {xs : List Value} {v : Value} (h : w.ownsRow B e size v n xs) (h1 : ∀ u ∈ xs, u.oneCell' = true) {b : Nat} (hb : v.ownBlock = some b) : Src w size v n xs :=
  ⟨h.1, h1, Or.inr (by
    rcases h.2 with ⟨h0, _⟩ | ⟨g, cap, cur, hv, _⟩
    · rw [h0] at hb; simp [Value.ownBlock] at hb
    · exact ⟨⟨g, 0, none⟩, cap, hv, h.cells (g := g) (by rw [hv]; rfl)⟩)⟩

theorem addr_add (b o j : Nat) : (⟨b, o, none⟩ : Addr).add j = ⟨b, o + j, none⟩ := by unfold Addr.add; split <;> simp_all

theorem IsStrs.src {W : World} {a : Option Addr} {n : Nat} {S : Nat → ByteArray} (h : IsStrs W a n S) (c : Nat) : Src W 1 (.slice a n c) n (strv (lst n S)) := by
  refine ⟨strv_lst n S, strv_one _, ?_⟩
  rcases h with h | ⟨b, off, rfl, hlt, hc⟩
  · subst h
    cases a with
    | none => exact Or.inl ⟨c, rfl, rfl⟩
    | some ad => exact Or.inr ⟨ad, c, rfl, fun j u hu => by simp [strv, lst] at hu⟩
  · refine Or.inr ⟨⟨b, off, none⟩, c, rfl, fun j u hu => ?_⟩
    have hj : j < n := by
      rcases Nat.lt_or_ge j n with e | e
      · exact e
      · rw [List.getElem?_eq_none (by have := strv_lst n S; omega)] at hu; cases hu
    rw [addr_add, hc j hj]
    simp [strv, lst, hj] at hu
    rw [hu]

theorem IsInts.src {W : World} {a : Option Addr} {n : Nat} {Z : Nat → Int} (h : IsInts W a n Z) (c : Nat) : Src W 1 (.slice a n c) n ((List.range n).map fun i => .int .i64 (Z i)) := by
  refine ⟨by simp, fun u hu => by obtain ⟨i, _, rfl⟩ := List.mem_map.1 hu; rfl, ?_⟩
  rcases h with h | ⟨b, off, rfl, hlt, hc⟩
  · subst h
    cases a with
    | none => exact Or.inl ⟨c, rfl, rfl⟩
    | some ad => exact Or.inr ⟨ad, c, rfl, fun j u hu => by simp at hu⟩
  · refine Or.inr ⟨⟨b, off, none⟩, c, rfl, fun j u hu => ?_⟩
    have hj : j < n := by
      rcases Nat.lt_or_ge j n with e | e
      · exact e
      · rw [List.getElem?_eq_none (by simpa using e)] at hu; cases hu
    rw [addr_add, hc j hj]
    simp [hj] at hu
    rw [hu]

theorem Src.of_cells {w w' : World} {size : Nat} {x : Value} {m : Nat} {news : List Value} (h : Src w size x m news) {B : Nat} (hb : Below B w w') (hx : ∀ ad n c, x = .slice (some ad) n c → ad.block < B) : Src w' size x m news :=
  ⟨h.len, h.one, h.lies.imp id fun ⟨ad, c, e, hc⟩ => ⟨ad, c, e, fun j u hu => by
    rw [hb.cell (p := ad.add j) (by
      have h1 := hx ad m c e
      have : (ad.add j).block = ad.block := by unfold Addr.add; split <;> rfl
      omega)]
    exact hc j u hu⟩⟩

/-- What is known within a statement: what was taken first, that nothing old turns, the rows, and values that hang on no memory. -/
structure RJ (taken : List Nat) (W : World) (row : Nat → Rw) (keys : List (Nat × Nat × Nat)) (plain : List (Nat × Nat × Value)) (L : Nat → Bool) (v : Nat → Value) (w : World) : Prop where
  taken : ∀ j ∈ taken, L j = true
  none : L 99 = false
  bel : Below W.heap.size W w
  rws : Rws W.heap.size row (liveAt keys L) v w
  plain : ∀ t ∈ plain, L t.1 = true → v t.2.1 = t.2.2

section
variable {taken : List Nat} {W : World} {row : Nat → Rw} {keys : List (Nat × Nat × Nat)} {plain : List (Nat × Nat × Value)} {L : Nat → Bool} {v : Nat → Value} {w w' : World}

theorem RJ.start (hb : Below W.heap.size W w) (ht : ∀ j ∈ taken, L j = true) (hn : L 99 = false) (hk : ∀ t ∈ keys, L t.2.1 = false) (hp : ∀ t ∈ plain, L t.1 = false) : RJ taken W row keys plain L v w :=
  ⟨ht, hn, hb, ⟨fun d ⟨j, c, h1, h2, h3⟩ => by have := hk _ h1; simp_all, fun d d' ⟨j, c, h1, h2, h3⟩ => by have := hk _ h1; simp_all⟩, fun t h1 h2 => by have := hp t h1; simp_all⟩

theorem lset_true {i j : Nat} (h : L j = true) : lset L i j = true := by simp [lset, h]
theorem lset_false {i j : Nat} (h : lset L i j = false) : L j = false ∧ j ≠ i := by simp [lset] at h; exact ⟨h.2, h.1⟩
theorem lset_cases {i j : Nat} (h : lset L i j = true) : j = i ∨ L j = true := by simpa [lset] using h

/-- A row comes to be. -/
theorem RJ.rowStep (h : RJ taken W row keys plain L v w) {k d : Nat} {x : Value} {r : Option Nat} (hg : w.grownBy w' r) (hbel : Below W.heap.size W w') (hk : ∀ t ∈ keys, t.2.1 = k → t.1 = d) (hp : ∀ t ∈ plain, t.1 ≠ k ∧ t.2.1 ≠ d) (h99 : 99 ≠ k)
    (hr : ∀ d', liveAt keys (lset L k) d' → d' ≠ d → (v d').ownBlock ≠ r) (hown : w'.ownsRow W.heap.size (row d).e (row d).size x (row d).n (row d).xs) {b : Nat} (hx : x.ownBlock = some b) (hb : r = some b ∨ w.heap.size ≤ b) : RJ taken W row keys plain (lset L k) (vset v d x) w' :=
  ⟨fun j hj => lset_true (h.taken j hj), by rw [lset_ne _ h99]; exact h.none, hbel, h.rws.step hg (fun d' hl hne => ⟨by
    obtain ⟨j, c, h1, h2, h3⟩ := hl
    have hj : j ≠ k := fun e => hne (hk _ h1 e)
    rw [lset_ne _ hj] at h2
    exact ⟨j, c, h1, h2, (lset_false h3).1⟩, hr d' hl hne⟩) hown hx hb, fun t h1 h2 => by
    obtain ⟨h3, h4⟩ := hp t h1
    rw [lset_ne _ h3] at h2
    rw [vset_ne _ _ h4]
    exact h.plain t h1 h2⟩

theorem RJ.gone (h : RJ taken W row keys plain L v w) {k : Nat} (hk : k ∈ taken) (h0 : L k = false) {A : Prop} : A := by
  have := h.taken k hk
  rw [h0] at this
  cases this

/-- A new row. -/
theorem RJ.make (h : RJ taken W row keys plain L v w) {k d : Nat} (hk : ∀ t ∈ keys, t.2.1 = k → t.1 = d) (hp : ∀ t ∈ plain, t.1 ≠ k ∧ t.2.1 ≠ d) (h99 : 99 ≠ k) {xs : List Value} {n : Nat} {e : TypeId} {size : Nat} (hrow : row d = ⟨e, size, n, xs⟩) (hl : xs.length = n * size) (hn : n ≤ maxLen) :
    RJ taken W row keys plain (lset L k) (vset v d (.slice (some ⟨w.heap.size, 0, .none⟩) n n)) (w.alloc (.cells xs.toArray e)) :=
  h.rowStep (r := .none) (b := w.heap.size) (World.grownBy_alloc w _ _) (h.bel.alloc h.bel.size _) hk hp h99 (fun d' ⟨j, c, h1, h2, h3⟩ hne => by
    have hj : j ≠ k := fun e => hne (hk _ h1 e)
    rw [lset_ne _ hj] at h2
    obtain ⟨b, hb⟩ := (h.rws.own d' ⟨j, c, h1, h2, (lset_false h3).1⟩).2
    rw [hb]; simp) (by rw [hrow]; exact owns_lit h.bel.size xs e size n hl hn) rfl (Or.inr (Nat.le_refl _))

/-- A row is appended to. -/
theorem RJ.app (h : RJ taken W row keys plain L v w) {k d s : Nat} {x : Value} (hs : liveAt keys L s) (hsk : ∀ t ∈ keys, t.1 = s → t.2.2 = k) (hg : w.grownBy w' (v s).ownBlock) (hk : ∀ t ∈ keys, t.2.1 = k → t.1 = d) (hp : ∀ t ∈ plain, t.1 ≠ k ∧ t.2.1 ≠ d) (h99 : 99 ≠ k)
    (hown : w'.ownsRow W.heap.size (row d).e (row d).size x (row d).n (row d).xs) (hat : x.ownBlock = (v s).ownBlock ∨ x.ownBlock = some w.heap.size) : RJ taken W row keys plain (lset L k) (vset v d x) w' := by
  obtain ⟨b, hb⟩ := (h.rws.own s hs).2
  have hlt := owns_block (h.rws.own s hs).1 hb
  have hbel : Below W.heap.size W w' := h.bel.grown hg h.bel.size (fun b' e => by rw [hb] at e; cases e; exact hlt.1)
  have hbx : ∃ b', x.ownBlock = some b' ∧ ((v s).ownBlock = some b' ∨ w.heap.size ≤ b') := by
    rcases hat with e | e
    · exact ⟨b, e.trans hb, Or.inl hb⟩
    · exact ⟨_, e, Or.inr (Nat.le_refl _)⟩
  obtain ⟨b', hb1, hb2⟩ := hbx
  exact h.rowStep hg hbel hk hp h99 (fun d' ⟨j, c, h1, h2, h3⟩ hne => by
    have hj : j ≠ k := fun e => hne (hk _ h1 e)
    rw [lset_ne _ hj] at h2
    obtain ⟨h4, h5⟩ := lset_false h3
    exact h.rws.apart d' s ⟨j, c, h1, h2, h4⟩ hs (fun e => h5 (hsk _ h1 e))) hown hb1 hb2

/-- A value that hangs on no memory. -/
theorem RJ.value (h : RJ taken W row keys plain L v w) {k d : Nat} {x : Value} (hk : ∀ t ∈ keys, t.2.1 ≠ k ∧ t.1 ≠ d) (h99 : 99 ≠ k) (hp : ∀ t ∈ plain, t.1 = k → t.2.1 = d ∧ t.2.2 = x) (hd : ∀ t ∈ plain, t.1 ≠ k → t.2.1 ≠ d) : RJ taken W row keys plain (lset L k) (vset v d x) w :=
  ⟨fun j hj => lset_true (h.taken j hj), by rw [lset_ne _ h99]; exact h.none, h.bel, h.rws.same (fun d' ⟨j, c, h1, h2, h3⟩ => by
    obtain ⟨h4, h5⟩ := hk _ h1
    rw [lset_ne _ h4] at h2
    exact ⟨⟨j, c, h1, h2, (lset_false h3).1⟩, vset_ne _ _ h5⟩) (fun _ _ _ _ => rfl), fun t h1 h2 => by
    by_cases e : t.1 = k
    · obtain ⟨h3, h4⟩ := hp t h1 e
      rw [h3, vset_same, h4]
    · rw [lset_ne _ e] at h2
      rw [vset_ne _ _ (hd t h1 e)]
      exact h.plain t h1 h2⟩
end

/-- A row of texts, as a list. -/
theorem ownsRow_strs {w : World} {B g c n : Nat} {T : List ByteArray} (h : w.ownsRow B 9 1 (.slice (some ⟨g, 0, none⟩) n c) n (strv T)) (hn : T.length = n) (hg : g < w.heap.size) : IsStrs w (some ⟨g, 0, none⟩) n (fun i => T.getD i ByteArray.empty) :=
  Or.inr ⟨g, 0, rfl, hg, fun i hi => by
    have := h.cells (g := g) rfl i (.string (T.getD i ByteArray.empty)) (by simp [strv, hn, hi])
    rwa [addr_add] at this⟩

/-- An operation's condition, kept shut. -/
structure OW (P : Program) (o : Oper) (a : Act) (w : World) (K : Act → World → Prop) (Q : Exit → Act → World → Prop) : Prop where
  out : Oper.wp P o a w K Q

/-- .. and what is asked at the end. -/
structure QN (Q : Exit → Act → World → Prop) (a : Act) (w : World) : Prop where
  out : Q .normal a w

/-- Each operation of a list keeps what is known; none has a guard. -/
def StepsP (P : Program) (Q : Exit → Act → World → Prop) (a0 : Act) (ds : List Nat) (J : (Nat → Bool) → (Nat → Value) → World → Prop) : List Oper → Nat → Prop
  | [], _ => True
  | o :: l, k => (∀ (L : Nat → Bool) (v : Nat → Value) (w : World), L k = false → (∀ e ∈ o.after.toList, Region.binds .any e = true → L e.on = true) → J L v w → ∀ K : Act → World → Prop,
      (∀ a' v' w', a' = upd a0 ds v' → J (lset L k) v' w' → K a' w') → OW P o (upd a0 ds v) w K Q) ∧ StepsP P Q a0 ds J l (k + 1)

theorem StepsP.all {P : Program} {ops : Array Oper} {Q : Exit → Act → World → Prop} {a0 : Act} {ds : List Nat} {J : (Nat → Bool) → (Nat → Value) → World → Prop} : ∀ {l : List Oper} {k : Nat}, (l.all fun o => o.guard.isNone) = true → StepsP P Q a0 ds J l k → StepsAll P ops Q a0 ds J l k
  | [], _, _, _ => trivial
  | o :: l, k, hg, h => by
    simp only [List.all_cons, Bool.and_eq_true] at hg
    refine ⟨fun L v w h0 hd hJ K hK => ?_, StepsP.all hg.2 h.2⟩
    have hw : Region.wanted o (yielded ops (upd a0 ds v).tmps) = true := by
      have : o.guard = none := by simpa using hg.1
      simp [Region.wanted, this]
    rw [if_pos hw]
    exact (h.1 L v w h0 hd hJ K hK).out

theorem wpAnyH_plain {P : Program} {Q : Exit → Act → World → Prop} {S : World → Prop} {l : List Oper} {a0 : Act} {w : World} {fuel : Nat} {listed : Array Bool} (ds : List Nat) (J : (Nat → Bool) → (Nat → Value) → World → Prop) (hB : laterB l.toArray = true) (hg : (l.all fun o => o.guard.isNone) = true) (hn : listed.size = l.length) (hc : listed.toList.count false ≤ fuel)
    (h0 : ∀ v, J (fun j => listed.getD j false) v w) (hS : ∀ L v w, J L v w → S w) (hs : StepsP P Q a0 ds J l 0) (fin : ∀ L v w', (∀ i, i < l.length → L i = true) → J L v w' → QN Q (upd a0 ds v) w') : wpAnyH P .any l.toArray Q S fuel listed a0 w :=
  wpAnyH_vals ds J hB hn hc h0 hS (StepsP.all hg hs) (fun L v w' h1 h2 => (fin L v w' h1 h2).out)

theorem listed_none (md : Region.Mode) (ops : Array Oper) : ListedOk md ops (Array.replicate ops.size false) := ⟨by simp, fun j oj hj hl e he hbn => by
    rw [Array.getD_eq_getD_getElem?, Array.getElem?_replicate] at hl
    split at hl <;> cases hl⟩

theorem wpAny_peel1 {P : Program} {Q : Exit → Act → World → Prop} {ops : Array Oper} {a : Act} {w : World} (o : Oper) (hb : ops.back? = some o) (hok : peelOk .any ops.pop o = true) (h : wpAny P .any ops.pop (Peel P o Q) ops.pop.size (Array.replicate ops.pop.size false) a w) : wpAny P .any ops Q ops.size (Array.replicate ops.size false) a w := by
  have hp := push_pop hb
  have := wpAny_peel (Q := Q) (P := P) (peelOk_spec hok) ops.pop.size (Array.replicate ops.pop.size false) a w (listed_none _ _) h
  have e1 : (Array.replicate ops.pop.size false).push false = Array.replicate ops.size false := by
    rw [← hp]; simp [Array.replicate_succ]
  have e2 : ops.pop.size + 1 = ops.size := by rw [← hp]; simp
  rw [hp, e1, e2] at this
  exact this

/-- The last three operations are cut off. -/
theorem wp_region_peel3 {P : Program} {Q : Exit → Act → World → Prop} {id : Nat} {ops : Array Oper} {a : Act} {w : World} (S : World → Prop) (o1 o2 o3 : Oper) (hm : P.follows .mixedOrders = true) (hb3 : ops.back? = some o3) (hb2 : ops.pop.back? = some o2) (hb1 : ops.pop.pop.back? = some o1)
    (hok3 : peelOk .any ops.pop o3 = true) (hok2 : peelOk .any ops.pop.pop o2 = true) (hok1 : peelOk .any ops.pop.pop.pop o1 = true)
    (hS : S w.drew) (h : S w.drew → wpAnyH P .any ops.pop.pop.pop (Peel P o1 (Peel P o2 (Peel P o3 Q))) S ops.pop.pop.pop.size (Array.replicate ops.pop.pop.pop.size false) a w.drew) : (Code.region id ops true).wp P Q a w :=
  wp_region_any hm (wpAny_peel1 o3 hb3 hok3 (wpAny_peel1 o2 hb2 hok2 (wpAny_peel1 o1 hb1 hok1 (wpAny_of_held _ _ _ _ (h hS)))))

/-- The last two. -/
theorem wp_region_peel2 {P : Program} {Q : Exit → Act → World → Prop} {id : Nat} {ops : Array Oper} {a : Act} {w : World} (S : World → Prop) (o2 o3 : Oper) (hm : P.follows .mixedOrders = true) (hb3 : ops.back? = some o3) (hb2 : ops.pop.back? = some o2)
    (hok3 : peelOk .any ops.pop o3 = true) (hok2 : peelOk .any ops.pop.pop o2 = true)
    (hS : S w.drew) (h : S w.drew → wpAnyH P .any ops.pop.pop (Peel P o2 (Peel P o3 Q)) S ops.pop.pop.size (Array.replicate ops.pop.pop.size false) a w.drew) : (Code.region id ops true).wp P Q a w :=
  wp_region_any hm (wpAny_peel1 o3 hb3 hok3 (wpAny_peel1 o2 hb2 hok2 (wpAny_of_held _ _ _ _ (h hS))))

theorem wpAnyH_act {P : Program} {md : Region.Mode} {ops : Array Oper} {Q : Exit → Act → World → Prop} {S : World → Prop} {fuel : Nat} {listed : Array Bool} {a : Act} {w : World} (h : ∀ a0, a0 = a → wpAnyH P md ops Q S fuel listed a0 w) : wpAnyH P md ops Q S fuel listed a w := h a rfl
end Go.Proofs.Ytlikmphjocjmeaa

/-
  Single operations of a statement, at a frame of which only so much is said.
-/
namespace Go.Proofs.Ytlikmphjocjmeaa
open Go.RowKit
set_option linter.unusedVariables false

theorem step_of {P : Program} {ops : Array Oper} {o : Oper} {a : Act} {w : World} {K : Act → World → Prop} {Q : Exit → Act → World → Prop} {E : Prop} (hgd : o.guard = none) (h : o.wp P a w K Q) : if Region.wanted o (yielded ops a.tmps) = true then Oper.wp P o a w K Q else E := by
  have hw : Region.wanted o (yielded ops a.tmps) = true := by simp [Region.wanted, hgd]
  rw [if_pos hw]; exact h

theorem eval_tmp {a : Act} {t : Nat} {v : Value} (h : a.eval (.tmp t) = v) : a.tmps[t]?.getD undef = v := by
  rw [← h]; unfold Act.eval; simp [Array.getD_eq_getD_getElem?]

section
variable {d : Nat} {ty : TypeId} {pos : String} {af : Array Edge} {gd : Option (Nat × Bool)} {a : Act} {w : World} {K : Act → World → Prop} {Q : Exit → Act → World → Prop}

theorem wp_strs0 (h : K (a.put (some d) (.slice (some ⟨w.heap.size, 0, none⟩) 0 0)) (w.alloc (.cells #[] 9))) : Oper.wp Try.prog ⟨some d, .buildSlice 33 0 #[], ty, pos, af, gd⟩ a w K Q := by
  go_simp
  exact h

theorem wp_strs1 {s : ByteArray} (h : K (a.put (some d) (.slice (some ⟨w.heap.size, 0, none⟩) 1 1)) (w.alloc (.cells #[.string s] 9))) : Oper.wp Try.prog ⟨some d, .buildSlice 33 1 #[(0, .const (.string s))], ty, pos, af, gd⟩ a w K Q := by
  go_simp
  exact h

theorem wp_ints0 (h : K (a.put (some d) (.slice (some ⟨w.heap.size, 0, none⟩) 0 0)) (w.alloc (.cells #[] 3))) : Oper.wp Try.prog ⟨some d, .buildSlice 34 0 #[], ty, pos, af, gd⟩ a w K Q := by
  go_simp
  exact h

theorem wp_ints1 {t : Nat} {z : Int} (hx : a.eval (.tmp t) = .int .i64 z) (h : K (a.put (some d) (.slice (some ⟨w.heap.size, 0, none⟩) 1 1)) (w.alloc (.cells #[.int .i64 z] 3))) : Oper.wp Try.prog ⟨some d, .buildSlice 34 1 #[(0, .tmp t)], ty, pos, af, gd⟩ a w K Q := by
  have hx' := eval_tmp hx
  go_simp
  exact h

theorem wp_node0 {t g n c : Nat} (hx : a.eval (.tmp t) = .slice (some ⟨g, 0, none⟩) n c) (hn : 0 < n) (h : K (a.put (some d) (.pointer (some ⟨g, 0, none⟩))) w) : Oper.wp Try.prog ⟨some d, .indexAddr 23 (.tmp t) (.const (.int .i64 0)), ty, pos, af, gd⟩ a w K Q := by
  have hx' := eval_tmp hx
  go_simp
  exact h

theorem wp_field2 {t g : Nat} (hx : a.eval (.tmp t) = .pointer (some ⟨g, 0, none⟩)) (h : K (a.put (some d) (.pointer (some ⟨g, 2, none⟩))) w) : Oper.wp Try.prog ⟨some d, .fieldAddr 36 (.tmp t) 2, ty, pos, af, gd⟩ a w K Q := by
  have hx' := eval_tmp hx
  go_simp
  exact h
end
end Go.Proofs.Ytlikmphjocjmeaa

/-
  A statement whose order is drawn, with calls behind guards: single operations, and what is known within it. Plain laws.
-/
namespace Go.Proofs.Ytlikmphjocjmeaa
open Go.RowKit
set_option linter.unusedVariables false

section
variable {ops : Array Oper} {a0 : Act} {ds : List Nat} {v : Nat → Value} {o : Oper}

theorem yielded_upd {j d : Nat} {b : Bool} (ho : (ops[j]?).bind (·.dst) = some d) (hd : d ∈ ds) (hs : d < a0.tmps.size) (hv : v d = .bool b) : yielded ops (upd a0 ds v).tmps j = some b := by
  have h1 : (upd a0 ds v).tmps[d]? = some (.bool b) := by
    have := upd_get ds v a0.tmps d
    rw [if_pos ⟨hd, hs⟩, hv] at this
    exact this
  unfold yielded
  rw [ho]
  simp [h1]

theorem wanted_yes {j d : Nat} {b : Bool} (hg : o.guard = some (j, b)) (ho : (ops[j]?).bind (·.dst) = some d) (hd : d ∈ ds) (hs : d < a0.tmps.size) (hv : v d = .bool b) : Region.wanted o (yielded ops (upd a0 ds v).tmps) = true := by
  unfold Region.wanted
  rw [hg]
  simp [yielded_upd ho hd hs hv]

theorem wanted_no {j d : Nat} {b b' : Bool} (hg : o.guard = some (j, b)) (ho : (ops[j]?).bind (·.dst) = some d) (hd : d ∈ ds) (hs : d < a0.tmps.size) (hv : v d = .bool b') (hb : b' ≠ b) : ¬ Region.wanted o (yielded ops (upd a0 ds v).tmps) = true := by
  unfold Region.wanted
  rw [hg]
  simp [yielded_upd ho hd hs hv, hb]
end

section
variable {d : Nat} {ty : TypeId} {pos : String} {af : Array Edge} {gd : Option (Nat × Bool)} {a : Act} {w : World} {K : Act → World → Prop} {Q : Exit → Act → World → Prop}

theorem wp_move {t : Nat} {x : Value} (hx : a.eval (.tmp t) = x) (h : K (a.put (some d) x) w) : Oper.wp Try.prog ⟨some d, .move (.tmp t), ty, pos, af, gd⟩ a w K Q := by
  have hx' := eval_tmp hx
  go_simp
  exact h

theorem wp_neqb {t u : Nat} {b c : Bool} (hx : a.eval (.tmp t) = .bool b) (hy : a.eval (.tmp u) = .bool c) (h : K (a.put (some d) (.bool (b != c))) w) : Oper.wp Try.prog ⟨some d, .binOp .neq 4 (.tmp t) (.tmp u) 4, ty, pos, af, gd⟩ a w K Q := by
  have hx' := eval_tmp hx
  have hy' := eval_tmp hy
  cases b <;> cases c <;> (go_simp; simpa [Act.put] using h)

theorem wp_notb {t : Nat} {b : Bool} (hx : a.eval (.tmp t) = .bool b) (h : K (a.put (some d) (.bool !b)) w) : Oper.wp Try.prog ⟨some d, .unOp .not 4 (.tmp t), ty, pos, af, gd⟩ a w K Q := by
  have hx' := eval_tmp hx
  cases b <;> (go_simp; simpa [Act.put] using h)

theorem wp_pickT {t u : Nat} {b : Bool} {y : Value} (hx : a.eval (.tmp t) = .bool b) (hy : a.eval (.tmp u) = y) (h : K (a.put (some d) (if b then .bool true else y)) w) : Oper.wp Try.prog ⟨some d, .pick (.tmp t) (.const (.bool true)) (.tmp u), ty, pos, af, gd⟩ a w K Q := by
  have hx' := eval_tmp hx
  have hy' := eval_tmp hy
  cases b <;> (go_simp; simpa [Act.put] using h)

theorem wp_pickF {t u : Nat} {b : Bool} {y : Value} (hx : a.eval (.tmp t) = .bool b) (hy : a.eval (.tmp u) = y) (h : K (a.put (some d) (if b then y else .bool false)) w) : Oper.wp Try.prog ⟨some d, .pick (.tmp t) (.tmp u) (.const (.bool false)), ty, pos, af, gd⟩ a w K Q := by
  have hx' := eval_tmp hx
  have hy' := eval_tmp hy
  cases b <;> (go_simp; simpa [Act.put] using h)

theorem wp_geqc {t : Nat} {z c : Int} (hx : a.eval (.tmp t) = .int .i64 z) (h : K (a.put (some d) (.bool (decide (c ≤ z)))) w) : Oper.wp Try.prog ⟨some d, .binOp .geq 3 (.tmp t) (.const (.int .i64 c)) 3, ty, pos, af, gd⟩ a w K Q := by
  have hx' := eval_tmp hx
  go_simp
  simpa [Act.put] using h

theorem wp_leqc {t : Nat} {z c : Int} (hx : a.eval (.tmp t) = .int .i64 z) (h : K (a.put (some d) (.bool (decide (z ≤ c)))) w) : Oper.wp Try.prog ⟨some d, .binOp .leq 3 (.tmp t) (.const (.int .i64 c)) 3, ty, pos, af, gd⟩ a w K Q := by
  have hx' := eval_tmp hx
  go_simp
  simpa [Act.put] using h

theorem wp_loadT {t T : Nat} {x y : Value} (hx : a.eval (.tmp t) = .pointer (some ⟨T, 0, none⟩)) (h0 : w.cell? ⟨T, 0, none⟩ = some x) (h1 : w.cell? ⟨T, 1, none⟩ = some y) (h : K (a.put (some d) (.agg #[x, y])) w) : Oper.wp Try.prog ⟨some d, .load 25 (.tmp t), ty, pos, af, gd⟩ a w K Q := by
  have hx' := eval_tmp hx
  go_simp
  exact h
end

/-- A call of a Go function that the source names. -/
theorem wp_callk {d : Nat} {ty : TypeId} {pos : String} {af : Array Edge} {gd : Option (Nat × Bool)} {a : Act} {w : World} {K : Act → World → Prop} {Q : Exit → Act → World → Prop} {f : FuncId} {xs : Array Operand} {ats : Array TypeId} (vs : Array Value) {A : Value → World → Prop} (hx : #[] ++ xs.map a.eval ++ #[] = vs) (hr : (callFunc f vs).run Try.prog w = .ok (.enter f vs) w) (hc : Calls Try.prog f vs w fun e w' => ∃ u, e = .returned u ∧ A u w') (h : ∀ u w', A u w' → K (a.put (some d) u) w') : Oper.wp Try.prog ⟨some d, .call { callee := .value (.func f), args := xs, argTypes := ats }, ty, pos, af, gd⟩ a w K Q := by
  unfold Oper.wp
  rw [execOp_call_go, hx, hr, Oper.upon_enter]
  refine hc.mono ?_
  rintro e w' ⟨u, rfl, hA⟩
  exact h u w' hA

/-- What TreeNew of z has made. -/
def newN (z : Int) : Nat := if 1 ≤ z ∧ z ≤ 1000 then 1 else 0
def newZ (z : Int) : Int := if 1 ≤ z ∧ z ≤ 1000 then z else 0
def NewV (z : Int) (v : Value) (w : World) : Prop := ∃ a c L, v = .agg #[.slice a (newN z) c, .int .i64 (newZ z)] ∧ IsNds w a (newN z) (fun _ => rootNd z) L

theorem NewV.below {z : Int} {v : Value} {w w' : World} (h : NewV z v w) (hb : Below w.heap.size w w') : NewV z v w' := by
  obtain ⟨a, c, L, rfl, hn⟩ := h
  exact ⟨a, c, L, rfl, hn.below (Nat.le_refl _) hb⟩

/-- Within the statement: values that hang on no memory, and new trees. -/
structure RG (W : World) (z : Int) (vf : Nat → Value) (pk nk : List (Nat × Nat)) (L : Nat → Bool) (v : Nat → Value) (w : World) : Prop where
  bel : Below W.heap.size W w
  vals : ∀ t ∈ pk, L t.1 = true → v t.2 = vf t.2
  news : ∀ t ∈ nk, L t.1 = true → NewV z (v t.2) w

section
variable {W : World} {z : Int} {vf : Nat → Value} {pk nk : List (Nat × Nat)} {L : Nat → Bool} {v : Nat → Value} {w w' : World}

theorem RG.below (h : RG W z vf pk nk L v w) (hb : Below w.heap.size w w') : RG W z vf pk nk L v w' := ⟨h.bel.trans (hb.mono h.bel.size), h.vals, fun t ht hl => (h.news t ht hl).below hb⟩

theorem RG.val (h : RG W z vf pk nk L v w) {k d : Nat} {x : Value} (hx : x = vf d) (hk : ∀ t ∈ pk, t.1 = k → t.2 = d) (hd : ∀ t ∈ pk, t.1 ≠ k → t.2 ≠ d) (hn : ∀ t ∈ nk, t.1 ≠ k ∧ t.2 ≠ d) : RG W z vf pk nk (lset L k) (vset v d x) w :=
  ⟨h.bel, fun t ht hl => by
    by_cases e : t.1 = k
    · rw [hk t ht e, vset_same, hx]
    · rw [lset_ne _ e] at hl
      rw [vset_ne _ _ (hd t ht e)]
      exact h.vals t ht hl, fun t ht hl => by
    obtain ⟨h1, h2⟩ := hn t ht
    rw [lset_ne _ h1] at hl
    rw [vset_ne _ _ h2]
    exact h.news t ht hl⟩

theorem RG.new (h : RG W z vf pk nk L v w) {k d : Nat} {x : Value} (hx : NewV z x w) (hk : ∀ t ∈ nk, t.1 = k → t.2 = d) (hd : ∀ t ∈ nk, t.1 ≠ k → t.2 ≠ d) (hp : ∀ t ∈ pk, t.1 ≠ k ∧ t.2 ≠ d) : RG W z vf pk nk (lset L k) (vset v d x) w :=
  ⟨h.bel, fun t ht hl => by
    obtain ⟨h1, h2⟩ := hp t ht
    rw [lset_ne _ h1] at hl
    rw [vset_ne _ _ h2]
    exact h.vals t ht hl, fun t ht hl => by
    by_cases e : t.1 = k
    · rw [hk t ht e, vset_same]; exact hx
    · rw [lset_ne _ e] at hl
      rw [vset_ne _ _ (hd t ht e)]
      exact h.news t ht hl⟩
end

theorem wp_region_act {P : Program} {Q : Exit → Act → World → Prop} {id : Nat} {ops : Array Oper} {a : Act} {w : World} (h : ∀ a0, a0 = a → (Code.region id ops true).wp P Q a0 w) : (Code.region id ops true).wp P Q a w := h a rfl

theorem newN_yes {z : Int} (h : 1 ≤ z ∧ z ≤ 1000) : newN z = 1 ∧ newZ z = z := by simp [newN, newZ, h]
theorem newN_no {z : Int} (h : ¬ (1 ≤ z ∧ z ≤ 1000)) : newN z = 0 ∧ newZ z = 0 := by simp [newN, newZ, h]

theorem newV_yes {z : Int} (h : 1 ≤ z ∧ z ≤ 1000) {b : Nat} {w : World} (hb : Blk w b (rootCells z) 36) : NewV z (trV (some ⟨b, 0, none⟩) 1 1 z) w := by
  obtain ⟨h1, h2⟩ := newN_yes h
  exact ⟨some ⟨b, 0, none⟩, 1, fun _ => noLoc, by rw [h1, h2]; rfl, by rw [h1]; exact root_nds hb⟩

theorem newV_no {z : Int} (h : ¬ (1 ≤ z ∧ z ≤ 1000)) {w : World} : NewV z (trV none 0 0 0) w := by
  obtain ⟨h1, h2⟩ := newN_no h
  exact ⟨none, 0, fun _ => noLoc, by rw [h1, h2]; rfl, by rw [h1]; exact Or.inl rfl⟩

theorem implNew (z : Int) (w : World) : Calls Try.prog 10 #[.int .i64 z] w fun e w' => ∃ u, e = .returned u ∧ Below w.heap.size w w' ∧ NewV z u w' := by
  by_cases h : 1 ≤ z ∧ z ≤ 1000
  · exact (implTreeNew_yes z w h.1 h.2).mono fun e w' ⟨b, he, _, hb, hk⟩ => ⟨_, he, hb, newV_yes h hk⟩
  · exact (implTreeNew_no z w h).mono fun e w' ⟨he, hb⟩ => ⟨_, he, hb, newV_no h⟩
theorem specNew (z : Int) (w : World) : Calls Try.prog 11 #[.int .i64 z] w fun e w' => ∃ u, e = .returned u ∧ Below w.heap.size w w' ∧ NewV z u w' := by
  by_cases h : 1 ≤ z ∧ z ≤ 1000
  · exact (specTreeNew_yes z w h.1 h.2).mono fun e w' ⟨b, he, _, hb, hk⟩ => ⟨_, he, hb, newV_yes h hk⟩
  · exact (specTreeNew_no z w h).mono fun e w' ⟨he, hb⟩ => ⟨_, he, hb, newV_no h⟩
/-- An operation that may be let out by its guard, kept shut. -/
structure OG (P : Program) (ops : Array Oper) (o : Oper) (a : Act) (w : World) (K : Act → World → Prop) (Q : Exit → Act → World → Prop) : Prop where
  out : if Region.wanted o (yielded ops a.tmps) = true then Oper.wp P o a w K Q else K (a.put o.dst undef) w

theorem OG.yes {P : Program} {ops : Array Oper} {o : Oper} {a : Act} {w : World} {K : Act → World → Prop} {Q : Exit → Act → World → Prop} (hw : Region.wanted o (yielded ops a.tmps) = true) (h : Oper.wp P o a w K Q) : OG P ops o a w K Q := ⟨by rw [if_pos hw]; exact h⟩

theorem OG.no {P : Program} {ops : Array Oper} {o : Oper} {a : Act} {w : World} {K : Act → World → Prop} {Q : Exit → Act → World → Prop} (hw : ¬ Region.wanted o (yielded ops a.tmps) = true) (h : K (a.put o.dst undef) w) : OG P ops o a w K Q := ⟨by rw [if_neg hw]; exact h⟩

theorem wanted_none {ops : Array Oper} {o : Oper} {a : Act} (hg : o.guard = none) : Region.wanted o (yielded ops a.tmps) = true := by simp [Region.wanted, hg]

/-- Each operation of a list keeps what is known. -/
def StepsG (P : Program) (ops : Array Oper) (Q : Exit → Act → World → Prop) (a0 : Act) (ds : List Nat) (J : (Nat → Bool) → (Nat → Value) → World → Prop) : List Oper → Nat → Prop
  | [], _ => True
  | o :: l, k => (∀ (L : Nat → Bool) (v : Nat → Value) (w : World), L k = false → (∀ e ∈ o.after.toList, Region.binds .any e = true → L e.on = true) → J L v w → ∀ K : Act → World → Prop,
      (∀ a' v' w', a' = upd a0 ds v' → J (lset L k) v' w' → K a' w') → OG P ops o (upd a0 ds v) w K Q) ∧ StepsG P ops Q a0 ds J l (k + 1)

theorem StepsG.all {P : Program} {ops : Array Oper} {Q : Exit → Act → World → Prop} {a0 : Act} {ds : List Nat} {J : (Nat → Bool) → (Nat → Value) → World → Prop} : ∀ {l : List Oper} {k : Nat}, StepsG P ops Q a0 ds J l k → StepsAll P ops Q a0 ds J l k
  | [], _, _ => trivial
  | o :: l, k, h => ⟨fun L v w h0 hd hJ K hK => (h.1 L v w h0 hd hJ K hK).out, StepsG.all h.2⟩

theorem wp_region_guard {P : Program} {Q : Exit → Act → World → Prop} {id : Nat} {l : List Oper} {a0 : Act} {w : World} (ds : List Nat) (J : (Nat → Bool) → (Nat → Value) → World → Prop) (hm : P.follows .mixedOrders = true) (hB : laterB l.toArray = true)
    (h0 : ∀ v, J (fun _ => false) v w.drew) (hs : StepsG P l.toArray Q a0 ds J l 0) (fin : ∀ L v w', (∀ i, i < l.length → L i = true) → J L v w' → QN Q (upd a0 ds v) w') : (Code.region id l.toArray true).wp P Q a0 w :=
  wp_region_inv ds J hm hB h0 hs.all (fun L v w' h1 h2 => (fin L v w' h1 h2).out)

section
variable {d : Nat} {ty : TypeId} {pos : String} {af : Array Edge} {gd : Option (Nat × Bool)} {a : Act} {w : World} {K : Act → World → Prop} {Q : Exit → Act → World → Prop} {f : FuncId} {ats : Array TypeId} {A : Value → World → Prop}
theorem wp_callA {t : Nat} {x : Value} (hx : a.eval (.tmp t) = x) (hr : (callFunc f #[x]).run Try.prog w = .ok (.enter f #[x]) w) (hc : Calls Try.prog f #[x] w fun e w' => ∃ u, e = .returned u ∧ A u w') (h : ∀ u w', A u w' → K (a.put (some d) u) w') : Oper.wp Try.prog ⟨some d, .call { callee := .value (.func f), args := #[.tmp t], argTypes := ats }, ty, pos, af, gd⟩ a w K Q :=
  wp_callk #[x] (by simp [hx]) hr hc h
theorem wp_callB {t u : Nat} {x y : Value} (hx : a.eval (.tmp t) = x) (hy : a.eval (.tmp u) = y) (hr : (callFunc f #[x, y]).run Try.prog w = .ok (.enter f #[x, y]) w) (hc : Calls Try.prog f #[x, y] w fun e w' => ∃ u, e = .returned u ∧ A u w') (h : ∀ u w', A u w' → K (a.put (some d) u) w') : Oper.wp Try.prog ⟨some d, .call { callee := .value (.func f), args := #[.tmp t, .tmp u], argTypes := ats }, ty, pos, af, gd⟩ a w K Q :=
  wp_callk #[x, y] (by simp [hx, hy]) hr hc h
end

section
variable {d : Nat} {ty : TypeId} {pos : String} {af : Array Edge} {gd : Option (Nat × Bool)} {a : Act} {w : World} {K : Act → World → Prop} {Q : Exit → Act → World → Prop} {f : FuncId} {ats : Array TypeId} {A : Value → World → Prop}
theorem ow_move {t : Nat} {x : Value} (hx : a.eval (.tmp t) = x) (h : K (a.put (some d) x) w) : OW Try.prog ⟨some d, .move (.tmp t), ty, pos, af, gd⟩ a w K Q := ⟨wp_move hx h⟩

theorem ow_neqb {t u : Nat} {b c : Bool} (hx : a.eval (.tmp t) = .bool b) (hy : a.eval (.tmp u) = .bool c) (h : K (a.put (some d) (.bool (b != c))) w) : OW Try.prog ⟨some d, .binOp .neq 4 (.tmp t) (.tmp u) 4, ty, pos, af, gd⟩ a w K Q := ⟨wp_neqb hx hy h⟩

theorem ow_notb {t : Nat} {b : Bool} (hx : a.eval (.tmp t) = .bool b) (h : K (a.put (some d) (.bool !b)) w) : OW Try.prog ⟨some d, .unOp .not 4 (.tmp t), ty, pos, af, gd⟩ a w K Q := ⟨wp_notb hx h⟩

theorem ow_pickT {t u : Nat} {b : Bool} {y : Value} (hx : a.eval (.tmp t) = .bool b) (hy : a.eval (.tmp u) = y) (h : K (a.put (some d) (if b then .bool true else y)) w) : OW Try.prog ⟨some d, .pick (.tmp t) (.const (.bool true)) (.tmp u), ty, pos, af, gd⟩ a w K Q := ⟨wp_pickT hx hy h⟩

theorem ow_pickF {t u : Nat} {b : Bool} {y : Value} (hx : a.eval (.tmp t) = .bool b) (hy : a.eval (.tmp u) = y) (h : K (a.put (some d) (if b then y else .bool false)) w) : OW Try.prog ⟨some d, .pick (.tmp t) (.tmp u) (.const (.bool false)), ty, pos, af, gd⟩ a w K Q := ⟨wp_pickF hx hy h⟩

theorem ow_geqc {t : Nat} {z c : Int} (hx : a.eval (.tmp t) = .int .i64 z) (h : K (a.put (some d) (.bool (decide (c ≤ z)))) w) : OW Try.prog ⟨some d, .binOp .geq 3 (.tmp t) (.const (.int .i64 c)) 3, ty, pos, af, gd⟩ a w K Q := ⟨wp_geqc hx h⟩

theorem ow_leqc {t : Nat} {z c : Int} (hx : a.eval (.tmp t) = .int .i64 z) (h : K (a.put (some d) (.bool (decide (z ≤ c)))) w) : OW Try.prog ⟨some d, .binOp .leq 3 (.tmp t) (.const (.int .i64 c)) 3, ty, pos, af, gd⟩ a w K Q := ⟨wp_leqc hx h⟩

theorem ow_loadT {t T : Nat} {x y : Value} (hx : a.eval (.tmp t) = .pointer (some ⟨T, 0, none⟩)) (h0 : w.cell? ⟨T, 0, none⟩ = some x) (h1 : w.cell? ⟨T, 1, none⟩ = some y) (h : K (a.put (some d) (.agg #[x, y])) w) : OW Try.prog ⟨some d, .load 25 (.tmp t), ty, pos, af, gd⟩ a w K Q := ⟨wp_loadT hx h0 h1 h⟩

theorem ow_callA {t : Nat} {x : Value} (hx : a.eval (.tmp t) = x) (hr : (callFunc f #[x]).run Try.prog w = .ok (.enter f #[x]) w) (hc : Calls Try.prog f #[x] w fun e w' => ∃ u, e = .returned u ∧ A u w') (h : ∀ u w', A u w' → K (a.put (some d) u) w') : OW Try.prog ⟨some d, .call { callee := .value (.func f), args := #[.tmp t], argTypes := ats }, ty, pos, af, gd⟩ a w K Q := ⟨wp_callA hx hr hc h⟩

theorem ow_callB {t u : Nat} {x y : Value} (hx : a.eval (.tmp t) = x) (hy : a.eval (.tmp u) = y) (hr : (callFunc f #[x, y]).run Try.prog w = .ok (.enter f #[x, y]) w) (hc : Calls Try.prog f #[x, y] w fun e w' => ∃ u, e = .returned u ∧ A u w') (h : ∀ u w', A u w' → K (a.put (some d) u) w') : OW Try.prog ⟨some d, .call { callee := .value (.func f), args := #[.tmp t, .tmp u], argTypes := ats }, ty, pos, af, gd⟩ a w K Q := ⟨wp_callB hx hy hr hc h⟩

theorem OG.yesW {P : Program} {ops : Array Oper} {o : Oper} (hw : Region.wanted o (yielded ops a.tmps) = true) (h : OW P o a w K Q) : OG P ops o a w K Q := OG.yes hw h.out
end

theorem cf_tOk (x : Value) (w : World) : (callFunc 7 #[x]).run Try.prog w = .ok (.enter 7 #[x]) w := by go_simp
theorem cf_sOk (x : Value) (w : World) : (callFunc 8 #[x]).run Try.prog w = .ok (.enter 8 #[x]) w := by go_simp
theorem cf_tNew (x : Value) (w : World) : (callFunc 10 #[x]).run Try.prog w = .ok (.enter 10 #[x]) w := by go_simp
theorem cf_sNew (x : Value) (w : World) : (callFunc 11 #[x]).run Try.prog w = .ok (.enter 11 #[x]) w := by go_simp
theorem cf_tSame (x y : Value) (w : World) : (callFunc 9 #[x, y]).run Try.prog w = .ok (.enter 9 #[x, y]) w := by go_simp
end Go.Proofs.Ytlikmphjocjmeaa

/-
  What NodeSame of the specification answers at two places.
-/
namespace Go.Proofs.Ytlikmphjocjmeaa
open Go.RowKit
set_option linter.unusedVariables false
end Go.Proofs.Ytlikmphjocjmeaa

/-
  What TreeSame of the specification answers at two trees.
-/
namespace Go.Proofs.Ytlikmphjocjmeaa
open Go.RowKit
set_option linter.unusedVariables false

/-- Two trees are one. -/
def treeSame (n m : Nat) (D E : Nat → Nd) (now now' : Int) : Bool := (decide (n = m) && sameAll n D E) && (now == now')

/-- What is known within TreeSame. -/
structure TSIn (w : World) (a a' : Option Addr) (n c m c' : Nat) (now now' : Int) (t : TypeId) (W : World) : Prop where
  p : Blk W w.heap.size #[.slice a n c, .int .i64 now] t
  p' : Blk W (w.heap.size + 1) #[.slice a' m c', .int .i64 now'] t
  bel : Below w.heap.size w W

theorem TSIn.below {w : World} {a a' : Option Addr} {n c m c' : Nat} {now now' : Int} {t : TypeId} {W W' : World} (h : TSIn w a a' n c m c' now now' t W) (hb : Below W.heap.size W W') : TSIn w a a' n c m c' now now' t W' :=
  ⟨h.p.below hb h.p.lt, h.p'.below hb h.p'.lt, h.bel.trans (hb.mono (by have := h.p.lt; omega))⟩

end Go.Proofs.Ytlikmphjocjmeaa

/-
  What TreeSame of the program answers at two trees.
-/
namespace Go.Proofs.Ytlikmphjocjmeaa
open Go.RowKit
set_option linter.unusedVariables false

set_option maxHeartbeats 2000000 in
theorem equalFunc_any (a a' : Option Addr) (n c m c' : Nat) (D E : Nat → Nd) (L M : Nat → Loc) (w : World) (hS : IsNds w a n D L) (hT : IsNds w a' m E M) (hf : FitAll n D) (hf' : FitAll m E) (hn : n ≤ maxLen) (hm : m ≤ maxLen) :
    Calls Try.prog 26 #[.slice a n c, .slice a' m c', .func (Fn.func 27) #[] #[]] w fun e w' => Below w.heap.size w w' ∧ e = .returned (.bool (decide (n = m) && sameAll n D E)) := by
  unfold maxLen at hn hm
  by_cases hne : n = m
  · subst hne
    have hb : ((n : Int) != (n : Int)) = false := by simp
    go_enter Try.func26, Try.ntmps26
    go_wp2
    go_loopw [17] (fun i wr => ∃ k : Nat, k ≤ n ∧ i = .int .i64 k ∧ Below w.heap.size w wr ∧ sameAll k D E = true) (fun i _ => n - (intOf i).toNat)
    case atStart => exact ⟨0, Nat.zero_le _, rfl, Below.refl _ _, rfl⟩
    case round =>
      obtain ⟨k, hk, rfl, hbel, heq⟩ := hrel
      by_cases hlt : k < n
      · have hSr := hS.below (Nat.le_refl _) hbel
        have hTr := hT.below (Nat.le_refl _) hbel
        obtain ⟨b, off, rfl, hlt2, hc⟩ := hSr.at hlt
        obtain ⟨b', off', rfl, hlt2', hc'⟩ := hTr.at hlt
        obtain ⟨c0, c1, c2, c3, c4, hI⟩ := hc k hlt
        obtain ⟨d0, d1, d2, d3, d4, hI'⟩ := hc' k hlt
        have hlti : (k : Int) < (n : Int) := by omega
        have HE : Hid (sameAll k D E = true ∧ Below w.heap.size w wr ∧ NdIn wr (D k) (L k) ∧ NdIn wr (E k) (M k)) := ⟨heq, hbel, hI, hI'⟩
        clear hc hc' hSr hTr hbel heq hI hI'
        go_wp2_with fail
        refine at_world (F := New2 wr _ _ _ _) (new2 wr _ _ _ _) ?_
        rintro W ⟨hp, hp', hb', hs⟩
        refine (implNodeSame_any (D k) (E k) (L k) (M k) W (HE.out.2.2.1.below (Nat.le_refl _) hb') (HE.out.2.2.2.below (Nat.le_refl _) hb') (hf k hlt) (hf' k hlt)).mono ?_
        rintro e w1 ⟨hb1, rfl⟩
        have HB : Hid (Below w.heap.size w w1) := HE.out.2.1.trans ((hb'.trans (hb1.mono (by omega))).mono HE.out.2.1.size)
        clear hp hp' hb' hs hb1 c0 c1 c2 c3 c4 d0 d1 d2 d3 d4
        cases hq : (D k).same (E k) with
        | false =>
          have HQ : Hid ((D k).same (E k) = false) := hq
          clear hq
          go_wp2
          go_ret
          exact ⟨HB.out, ret_bool (by rw [← sameAll_not n k D E hlt HQ.out]; simp)⟩
        | true =>
          have HQ : Hid ((D k).same (E k) = true) := hq
          clear hq
          go_wp2
          go_roundw
          case rel => exact ⟨k + 1, by omega, by go_num, HB.out, sameAll_succ k D E HE.out.1 HQ.out⟩
          case measure => simp [intOf]; omega
      · have hkn : k = n := by omega
        have HK : Hid (k = n ∧ Below w.heap.size w wr ∧ sameAll k D E = true) := ⟨hkn, hbel, heq⟩
        clear hkn hbel heq
        go_wp2
        go_ret
        exact ⟨HK.out.2.1, ret_bool (by have := HK.out.2.2; rw [HK.out.1] at this; rw [this]; simp)⟩
  · have hb : ((n : Int) != (m : Int)) = true := by simp; omega
    go_enter Try.func26, Try.ntmps26
    go_wp2
    go_ret
    exact ⟨Below.refl _ _, ret_bool (by simp [hne])⟩

set_option maxHeartbeats 2000000 in
theorem implTreeSame_any (a a' : Option Addr) (n c m c' : Nat) (now now' : Int) (D E : Nat → Nd) (L M : Nat → Loc) (w : World) (hS : IsNds w a n D L) (hT : IsNds w a' m E M) (hf : FitAll n D) (hf' : FitAll m E) (hn : n ≤ maxLen) (hm : m ≤ maxLen) :
    Calls Try.prog 9 #[trV a n c now, trV a' m c' now'] w fun e w' => Below w.heap.size w w' ∧ e = .returned (.bool (treeSame n m D E now now')) := by
  have hn' := hn
  have hm' := hm
  unfold maxLen at hn' hm'
  unfold trV
  cases hnc : (now == now') with
  | false =>
    have HN : Hid (false = treeSame n m D E now now') := by show _ = _; unfold treeSame; rw [hnc, Bool.and_false]
    go_enter Try.func9, Try.ntmps9
    go_wp2_with fail
    go_ret
    exact ⟨((Below.refl _ _).alloc (Nat.le_refl _) _).alloc (by simp) _, ret_bool HN.out⟩
  | true =>
    go_enter Try.func9, Try.ntmps9
    go_wp2_with fail
    refine at_world (F := New2 w _ _ _ _) (new2 w _ _ _ _) ?_
    rintro W ⟨hp, hp', hb, hs⟩
    refine (equalFunc_any a a' n c m c' D E L M W (hS.below (Nat.le_refl _) hb) (hT.below (Nat.le_refl _) hb) hf hf' hn hm).mono ?_
    rintro e w1 ⟨hb1, rfl⟩
    have HB : Hid (Below w.heap.size w w1 ∧ (decide (n = m) && sameAll n D E) = treeSame n m D E now now') := ⟨hb.trans (hb1.mono (by omega)), by unfold treeSame; rw [hnc, Bool.and_true]⟩
    clear hp hp' hb hs hb1
    rw [HB.out.2]
    go_wp2
    go_ret
    exact ⟨HB.out.1, rfl⟩
end Go.Proofs.Ytlikmphjocjmeaa

/-
  What holds of new trees, as FnTree asks it. Plain facts.
-/
namespace Go.Proofs.Ytlikmphjocjmeaa
open Go.RowKit
set_option linter.unusedVariables false

theorem new_good {n : Int} (h1 : 1 ≤ n) (h2 : n ≤ 1000) : TreeGood 1 (fun _ => rootNd n) n :=
  ⟨by omega, by omega, h1, h2, rfl, fun i hi => by
    show (if (2 : Int) = 0 then freeOk (rootNd n) else if (2 : Int) = 1 then fileOk n (rootNd n) else if (2 : Int) = 2 then dirOk 1 (fun _ => rootNd n) n (rootNd n) else false) = true
    rw [if_neg (show ¬ (2 : Int) = 0 by decide), if_neg (show ¬ (2 : Int) = 1 by decide), if_pos (show (2 : Int) = 2 by rfl)]
    unfold dirOk rootNd
    simp [dirNames, kidsOk]
    omega, fun i h h' => by omega, fun i h h' => by omega⟩

theorem new_size (n : Int) : sizeTo (fun _ => rootNd n) 1 ≤ 1048576 := by
  unfold sizeTo sizeTo Nd.size rootNd sumTo
  simp

theorem newOk {z : Int} (hz : -1 ≤ z ∧ z ≤ 1001) {x : Value} {w : World} (h : NewV z x w) : Calls Try.prog 7 #[x] w fun e w' => ∃ u, e = .returned u ∧ (u = .bool (decide (1 ≤ z ∧ z ≤ 1000)) ∧ Below w.heap.size w w') := by
  obtain ⟨a, c, L, rfl, hn⟩ := h
  by_cases hy : 1 ≤ z ∧ z ≤ 1000
  · obtain ⟨h1, h2⟩ := newN_yes hy
    rw [h1] at hn ⊢
    rw [h2]
    refine (implTreeOk a 1 c z (fun _ => rootNd z) L w hn (root_fits ⟨by omega, by omega⟩) (by unfold maxLen; omega) (new_size z) ⟨by omega, by omega⟩).mono ?_
    rintro e w' ⟨hb, r, rfl, hr⟩
    rw [hr.2 (new_good hy.1 hy.2)]
    exact ⟨_, rfl, by simp [hy], hb⟩
  · obtain ⟨h1, h2⟩ := newN_no hy
    rw [h1] at hn ⊢
    rw [h2]
    refine (implTreeOk a 0 c 0 (fun _ => rootNd z) L w hn (fun i hi => absurd hi (Nat.not_lt_zero _)) (by unfold maxLen; omega) (by simp [sizeTo]) ⟨by omega, by omega⟩).mono ?_
    rintro e w' ⟨hb, r, rfl, hr⟩
    have : r = false := by
      cases r with
      | false => rfl
      | true => have := (hr.1 rfl).some; omega
    subst this
    exact ⟨_, rfl, by simp [hy], hb⟩

theorem newSame {z : Int} (hz : -1 ≤ z ∧ z ≤ 1001) {x y : Value} {w : World} (h : NewV z x w) (h' : NewV z y w) : Calls Try.prog 9 #[x, y] w fun e w' => ∃ u, e = .returned u ∧ (u = .bool true ∧ Below w.heap.size w w') := by
  obtain ⟨a, c, L, rfl, hn⟩ := h
  obtain ⟨a', c', L', rfl, hn'⟩ := h'
  have hf : FitAll (newN z) (fun _ => rootNd z) := fun i _ => root_fits (now := z) ⟨by omega, by omega⟩ 0 (by omega)
  have hl : newN z ≤ maxLen := by unfold newN maxLen; split <;> omega
  refine (implTreeSame_any a a' (newN z) c (newN z) c' (newZ z) (newZ z) _ _ L L' w hn hn' hf hf hl hl).mono ?_
  rintro e w' ⟨hb, rfl⟩
  refine ⟨_, rfl, ?_, hb⟩
  unfold treeSame
  rw [sameAll_self]
  simp

/-- What the slots of the statement hold. -/
def vf5 (tv : Value) (ok : Bool) (z : Int) (d : Nat) : Value :=
  if d = 18 ∨ d = 20 then tv else if d = 19 ∨ d = 21 then .bool ok else if d = 22 ∨ d = 23 ∨ d = 29 ∨ d = 30 ∨ d = 31 ∨ d = 41 ∨ d = 42 then .bool false else if d = 28 then .bool true
  else if d = 34 ∨ d = 40 then .bool (decide (1 ≤ z ∧ z ≤ 1000)) else if d = 36 ∨ d = 37 then .bool (decide (1 ≤ z)) else if d = 38 then (if 1 ≤ z then .int .i64 z else undef)
  else if d = 39 then (if 1 ≤ z then .bool (decide (z ≤ 1000)) else undef) else .int .i64 z
end Go.Proofs.Ytlikmphjocjmeaa

/-
  What l2Copy gives: a place in new memory.
-/
namespace Go.Proofs.Ytlikmphjocjmeaa
open Go.RowKit Go.Deep
set_option linter.unusedVariables false

def intv0 (n : Nat) (Z : Nat → Int) : List Value := (List.range n).map fun i => .int .i64 (Z i)

/-- A place whose lists lie in new memory of their own. -/
structure NewNd (w : World) (d : Nd) (l : Loc) (W : World) : Prop where
  bel : Below w.heap.size w W
  names : W.ownsRow w.heap.size 9 1 (.slice l.nA d.nn l.nc) d.nn (strv (lst d.nn d.names))
  kids : W.ownsRow w.heap.size 3 1 (.slice l.kA d.kn l.kc) d.kn (intv0 d.kn d.kids)
  nA : ∃ b, l.nA = some ⟨b, 0, none⟩ ∧ w.heap.size ≤ b ∧ b < W.heap.size
  kA : ∃ b, l.kA = some ⟨b, 0, none⟩ ∧ w.heap.size ≤ b ∧ b < W.heap.size
  apart : ∀ b b', l.nA = some ⟨b, 0, none⟩ → l.kA = some ⟨b', 0, none⟩ → b ≠ b'

theorem NewNd.lies {w : World} {d : Nd} {l : Loc} {W : World} (h : NewNd w d l W) : NdIn W d l := by
  obtain ⟨b, e, _, hb⟩ := h.nA
  obtain ⟨b', e', _, hb'⟩ := h.kA
  have h1 := h.names
  have h2 := h.kids
  rw [e] at h1
  rw [e'] at h2
  unfold NdIn
  rw [e, e']
  refine ⟨(ownsRow_strs h1 (lst_length _ _) hb).congr (fun i hi => lst_getD _ _ _ hi), Or.inr ⟨b', 0, rfl, hb', fun i hi => ?_⟩⟩
  have := h2.cells (g := b') rfl i (.int .i64 (d.kids i)) (by simp [intv0, hi])
  rwa [addr_add] at this

theorem grown_cell (w : World) (b k : Nat) (v : Value) : w.grownBy (w.setCell ⟨b, k, none⟩ v) (some b) :=
  ⟨rfl, rfl, rfl, by simp [World.setCell], fun j _ hne => blk_setCell_other _ _ _ _ (fun e => hne (by rw [e]))⟩

theorem owns_lower {w : World} {B B' : Nat} {e : TypeId} {size n : Nat} {xs : List Value} {v : Value} (h : w.ownsRow B e size v n xs) (hB : B' ≤ B) : w.ownsRow B' e size v n xs :=
  ⟨h.1, h.2.imp id fun ⟨g, cap, cur, hv, hb, hr⟩ => ⟨g, cap, cur, hv, Nat.le_trans hB hb, hr⟩⟩

/-- A cell of a block that neither list lies in is written. -/
theorem NewNd.set {w : World} {d : Nd} {l : Loc} {W : World} (h : NewNd w d l W) {q k : Nat} {v : Value} (hq : w.heap.size ≤ q) (h1 : ∀ b, l.nA = some ⟨b, 0, none⟩ → b ≠ q) (h2 : ∀ b, l.kA = some ⟨b, 0, none⟩ → b ≠ q) : NewNd w d l (W.setCell ⟨q, k, none⟩ v) := by
  have hs : (W.setCell ⟨q, k, none⟩ v).heap.size = W.heap.size := by simp [World.setCell]
  obtain ⟨b, e, hb⟩ := h.nA
  obtain ⟨b', e', hb'⟩ := h.kA
  refine ⟨bel_put h.bel v hq, h.names.kept (grown_cell W q k v) (Or.inr ?_), h.kids.kept (grown_cell W q k v) (Or.inr ?_), ⟨b, e, by rw [hs]; exact hb⟩, ⟨b', e', by rw [hs]; exact hb'⟩, h.apart⟩
  · rw [e]; intro he; simp [Value.ownBlock] at he; exact h1 b e he
  · rw [e']; intro he; simp [Value.ownBlock] at he; exact h2 b' e' he

theorem owned_form {w : World} {B : Nat} {e : TypeId} {size n : Nat} {xs : List Value} {v : Value} (h : w.ownsRow B e size v n xs) {b : Nat} (hb : v.ownBlock = some b) : ∃ c, v = .slice (some ⟨b, 0, none⟩) n c ∧ B ≤ b ∧ b < w.heap.size := by
  have hlt := owns_block h hb
  rcases h.2 with ⟨h0, _⟩ | ⟨g, cap, cur, hv, _⟩
  · rw [h0] at hb; simp [Value.ownBlock] at hb
  · rw [hv] at hb
    simp [Value.ownBlock] at hb
    subst hb
    exact ⟨cap, hv, hlt.1, hlt.2⟩
end Go.Proofs.Ytlikmphjocjmeaa

/-
  A statement whose order is drawn, with a value that is built of rows: what is known within it. Plain laws.
-/
namespace Go.Proofs.Ytlikmphjocjmeaa
open Go.RowKit
set_option linter.unusedVariables false

/-- As RJ, and operation kb builds place db out of places that others made. -/
structure RJB (taken : List Nat) (W : World) (row : Nat → Rw) (keys : List (Nat × Nat × Nat)) (plain : List (Nat × Nat × Value)) (kb db : Nat) (needs : List (Nat × Nat)) (F : (Nat → Value) → Value) (L : Nat → Bool) (v : Nat → Value) (w : World) : Prop where
  rj : RJ taken W row keys plain L v w
  built : L kb = true → (∀ t ∈ needs, L t.1 = true) ∧ v db = F v

section
variable {taken : List Nat} {W : World} {row : Nat → Rw} {keys : List (Nat × Nat × Nat)} {plain : List (Nat × Nat × Value)} {kb db : Nat} {needs : List (Nat × Nat)} {F : (Nat → Value) → Value} {L : Nat → Bool} {v : Nat → Value} {w w' : World}

theorem RJB.start (h : RJ taken W row keys plain L v w) (hb : L kb = false) : RJB taken W row keys plain kb db needs F L v w := ⟨h, fun e => by rw [hb] at e; cases e⟩

theorem RJB.keep (h : RJB taken W row keys plain kb db needs F L v w) {k d : Nat} {x : Value} (h0 : L k = false) (hk : kb ≠ k) (hd : db ≠ d) (hn : ∀ t ∈ needs, t.2 = d → t.1 = k) (hF : ∀ v v' : Nat → Value, (∀ t ∈ needs, v' t.2 = v t.2) → F v' = F v) (h' : RJ taken W row keys plain (lset L k) (vset v d x) w') : RJB taken W row keys plain kb db needs F (lset L k) (vset v d x) w' :=
  ⟨h', fun e => by
    rw [lset_ne _ hk] at e
    obtain ⟨h1, h2⟩ := h.built e
    refine ⟨fun t ht => lset_true (h1 t ht), ?_⟩
    rw [vset_ne _ _ hd, h2]
    refine (hF v _ fun t ht => vset_ne _ _ fun e2 => ?_).symm
    have := h1 t ht
    rw [hn t ht e2, h0] at this
    cases this⟩

theorem RJB.gone (h : RJB taken W row keys plain kb db needs F L v w) {k : Nat} (hk : k ∈ taken) (h0 : L k = false) {A : Prop} : A := h.rj.gone hk h0

theorem RJB.build (h : RJB taken W row keys plain kb db needs F L v w) (hn : ∀ t ∈ needs, L t.1 = true) (hd : ∀ t ∈ needs, t.2 ≠ db) (hF : ∀ v v' : Nat → Value, (∀ t ∈ needs, v' t.2 = v t.2) → F v' = F v) (hk : ∀ t ∈ keys, t.2.1 ≠ kb ∧ t.1 ≠ db) (h99 : 99 ≠ kb) (hp : ∀ t ∈ plain, t.1 ≠ kb ∧ t.2.1 ≠ db) : RJB taken W row keys plain kb db needs F (lset L kb) (vset v db (F v)) w :=
  ⟨h.rj.value hk h99 (fun t ht e => absurd e (hp t ht).1) (fun t ht _ => (hp t ht).2), fun _ => ⟨fun t ht => lset_true (hn t ht), by
    rw [vset_same]
    exact (hF v _ fun t ht => vset_ne _ _ (hd t ht)).symm⟩⟩
end

section
variable {d : Nat} {ty : TypeId} {pos : String} {af : Array Edge} {gd : Option (Nat × Bool)} {a : Act} {w : World} {K : Act → World → Prop} {Q : Exit → Act → World → Prop}

theorem wp_rootM {p q r : Nat} {xa ya : Option Addr} {xn xc yn yc : Nat} {z : Int} (hp : a.eval (.tmp p) = .slice xa xn xc) (hq : a.eval (.tmp q) = .slice ya yn yc) (hr : a.eval (.tmp r) = .int .i64 z) (h : K (a.put (some d) (.agg #[.int .i64 2, .string ByteArray.empty, .slice xa xn xc, .slice ya yn yc, .int .i64 z])) w) : Oper.wp Try.prog ⟨some d, .build 36 #[(0, .const (.int .i64 2)), (2, .tmp p), (3, .tmp q), (4, .tmp r)], ty, pos, af, gd⟩ a w K Q := by
  have hp' := eval_tmp hp
  have hq' := eval_tmp hq
  have hr' := eval_tmp hr
  go_simp
  exact h
end

/-- A row of numbers, as a list. -/
theorem ownsRow_ints {w : World} {B g c n : Nat} {Z : Nat → Int} (h : w.ownsRow B 3 1 (.slice (some ⟨g, 0, none⟩) n c) n (intv0 n Z)) (hg : g < w.heap.size) : IsInts w (some ⟨g, 0, none⟩) n Z :=
  Or.inr ⟨g, 0, rfl, hg, fun i hi => by
    have := h.cells (g := g) rfl i (.int .i64 (Z i)) (by simp [intv0, hi])
    rwa [addr_add] at this⟩

theorem intv0_snoc (n : Nat) (Z : Nat → Int) (z : Int) : intv0 n Z ++ [.int .i64 z] = intv0 (n + 1) (fun i => if i < n then Z i else z) := by
  unfold intv0
  rw [List.range_succ, List.map_append]
  congr 1
  · exact List.map_congr_left fun i hi => by simp at hi; simp [hi]
  · simp

theorem lst_snoc (n : Nat) (S : Nat → ByteArray) (s : ByteArray) : lst n S ++ [s] = lst (n + 1) (fun i => if i < n then S i else s) := by
  unfold lst
  rw [List.range_succ, List.map_append]
  congr 1
  · exact List.map_congr_left fun i hi => by simp at hi; simp [hi]
  · simp
end Go.Proofs.Ytlikmphjocjmeaa

/-
  A statement whose order is drawn, with rows, a value that is built of them, and a variable of its own: what is known within it. Rows of places. Plain laws.
-/
namespace Go.Proofs.Ytlikmphjocjmeaa
open Go.RowKit Go.Deep
set_option linter.unusedVariables false

/-- As RJB, and operation ka makes a variable, whose address is in place da. -/
structure RJX (taken : List Nat) (W : World) (row : Nat → Rw) (keys : List (Nat × Nat × Nat)) (plain : List (Nat × Nat × Value)) (kb db : Nat) (needs : List (Nat × Nat)) (F : (Nat → Value) → Value) (ka da : Nat) (cs : Array Value) (ty : TypeId) (L : Nat → Bool) (v : Nat → Value) (w : World) : Prop where
  rjb : RJB taken W row keys plain kb db needs F L v w
  box : L ka = true → ∃ b, v da = .pointer (some ⟨b, 0, none⟩) ∧ W.heap.size ≤ b ∧ Blk w b cs ty ∧ ∀ d, liveAt keys L d → (v d).ownBlock ≠ some b

theorem live_old {keys : List (Nat × Nat × Nat)} {L : Nat → Bool} {k d d' : Nat} (hk : ∀ t ∈ keys, t.2.1 = k → t.1 = d) (h : liveAt keys (lset L k) d') (hne : d' ≠ d) : liveAt keys L d' := by
  obtain ⟨j, c, h1, h2, h3⟩ := h
  have hj : j ≠ k := fun e => hne (hk _ h1 e)
  rw [lset_ne _ hj] at h2
  exact ⟨j, c, h1, h2, (lset_false h3).1⟩

section
variable {taken : List Nat} {W : World} {row : Nat → Rw} {keys : List (Nat × Nat × Nat)} {kb db : Nat} {needs : List (Nat × Nat)} {F : (Nat → Value) → Value} {ka da : Nat} {cs : Array Value} {ty : TypeId} {L : Nat → Bool} {v : Nat → Value} {w w' : World}

theorem RJX.start (h : RJ taken W row keys [] L v w) (hb : L kb = false) (ha : L ka = false) : RJX taken W row keys [] kb db needs F ka da cs ty L v w := ⟨RJB.start h hb, fun e => by rw [ha] at e; cases e⟩

theorem RJX.gone (h : RJX taken W row keys [] kb db needs F ka da cs ty L v w) {k : Nat} (hk : k ∈ taken) (h0 : L k = false) {A : Prop} : A := h.rjb.rj.gone hk h0

theorem RJX.make (h : RJX taken W row keys [] kb db needs F ka da cs ty L v w) {k d : Nat} (h0 : L k = false) (hkb : kb ≠ k) (hdb : db ≠ d) (hka : ka ≠ k) (hda : da ≠ d) (hn : ∀ t ∈ needs, t.2 = d → t.1 = k) (hF : ∀ v v' : Nat → Value, (∀ t ∈ needs, v' t.2 = v t.2) → F v' = F v)
    (hk : ∀ t ∈ keys, t.2.1 = k → t.1 = d) (h99 : 99 ≠ k) {xs : List Value} {n : Nat} {e : TypeId} {size : Nat} (hrow : row d = ⟨e, size, n, xs⟩) (hl : xs.length = n * size) (hm : n ≤ maxLen) :
    RJX taken W row keys [] kb db needs F ka da cs ty (lset L k) (vset v d (.slice (some ⟨w.heap.size, 0, .none⟩) n n)) (w.alloc (.cells xs.toArray e)) :=
  ⟨h.rjb.keep h0 hkb hdb hn hF (h.rjb.rj.make hk (by simp) h99 hrow hl hm), fun e => by
    rw [lset_ne _ hka] at e
    obtain ⟨b, h1, h2, h3, h4⟩ := h.box e
    refine ⟨b, by rw [vset_ne _ _ hda]; exact h1, h2, h3.alloc _, fun d' hl' => ?_⟩
    by_cases e2 : d' = d
    · subst e2
      rw [vset_same]
      have := h3.lt
      simp [Value.ownBlock]
      omega
    · rw [vset_ne _ _ e2]; exact h4 d' (live_old hk hl' e2)⟩

theorem RJX.app (h : RJX taken W row keys [] kb db needs F ka da cs ty L v w) {k d s : Nat} {x : Value} (h0 : L k = false) (hkb : kb ≠ k) (hdb : db ≠ d) (hka : ka ≠ k) (hda : da ≠ d) (hn : ∀ t ∈ needs, t.2 = d → t.1 = k) (hF : ∀ v v' : Nat → Value, (∀ t ∈ needs, v' t.2 = v t.2) → F v' = F v)
    (hs : liveAt keys L s) (hsk : ∀ t ∈ keys, t.1 = s → t.2.2 = k) (hg : w.grownBy w' (v s).ownBlock) (hk : ∀ t ∈ keys, t.2.1 = k → t.1 = d) (h99 : 99 ≠ k)
    (hown : w'.ownsRow W.heap.size (row d).e (row d).size x (row d).n (row d).xs) (hat : x.ownBlock = (v s).ownBlock ∨ x.ownBlock = some w.heap.size) : RJX taken W row keys [] kb db needs F ka da cs ty (lset L k) (vset v d x) w' :=
  ⟨h.rjb.keep h0 hkb hdb hn hF (h.rjb.rj.app hs hsk hg hk (by simp) h99 hown hat), fun e => by
    rw [lset_ne _ hka] at e
    obtain ⟨b, h1, h2, h3, h4⟩ := h.box e
    refine ⟨b, by rw [vset_ne _ _ hda]; exact h1, h2, h3.of_block (hg.block b h3.lt (fun e => h4 s hs e.symm)), fun d' hl' => ?_⟩
    by_cases e2 : d' = d
    · subst e2
      rw [vset_same]
      rcases hat with e3 | e3
      · rw [e3]; exact h4 s hs
      · rw [e3]
        have := h3.lt
        simp
        omega
    · rw [vset_ne _ _ e2]; exact h4 d' (live_old hk hl' e2)⟩

theorem RJX.build (h : RJX taken W row keys [] kb db needs F ka da cs ty L v w) (hn : ∀ t ∈ needs, L t.1 = true) (hd : ∀ t ∈ needs, t.2 ≠ db) (hF : ∀ v v' : Nat → Value, (∀ t ∈ needs, v' t.2 = v t.2) → F v' = F v) (hk : ∀ t ∈ keys, t.2.1 ≠ kb ∧ t.1 ≠ db) (h99 : 99 ≠ kb) (hka : ka ≠ kb) (hda : da ≠ db) : RJX taken W row keys [] kb db needs F ka da cs ty (lset L kb) (vset v db (F v)) w :=
  ⟨h.rjb.build hn hd hF hk h99 (by simp), fun e => by
    rw [lset_ne _ hka] at e
    obtain ⟨b, h1, h2, h3, h4⟩ := h.box e
    refine ⟨b, by rw [vset_ne _ _ hda]; exact h1, h2, h3, fun d' hl' => ?_⟩
    obtain ⟨j, c, g1, g2, g3⟩ := hl'
    obtain ⟨g4, g5⟩ := hk _ g1
    rw [lset_ne _ g4] at g2
    rw [vset_ne _ _ g5]
    exact h4 d' ⟨j, c, g1, g2, (lset_false g3).1⟩⟩

theorem RJX.alloc (h : RJX taken W row keys [] kb db needs F ka da cs ty L v w) (hkb : kb ≠ ka) (hdb : db ≠ da) (hn : ∀ t ∈ needs, t.2 ≠ da) (hF : ∀ v v' : Nat → Value, (∀ t ∈ needs, v' t.2 = v t.2) → F v' = F v) (hk : ∀ t ∈ keys, t.2.1 ≠ ka ∧ t.1 ≠ da) (h99 : 99 ≠ ka) :
    RJX taken W row keys [] kb db needs F ka da cs ty (lset L ka) (vset v da (.pointer (some ⟨w.heap.size, 0, none⟩))) (w.alloc (.cells cs ty)) := by
  have hold : ∀ d', liveAt keys (lset L ka) d' → liveAt keys L d' ∧ d' ≠ da := fun d' ⟨j, c, g1, g2, g3⟩ => by
    obtain ⟨g4, g5⟩ := hk _ g1
    rw [lset_ne _ g4] at g2
    exact ⟨⟨j, c, g1, g2, (lset_false g3).1⟩, g5⟩
  have hlt : ∀ d' b, liveAt keys L d' → (v d').ownBlock = some b → b < w.heap.size := fun d' b hl e => (owns_block (h.rjb.rj.rws.own d' hl).1 e).2
  have hrj := h.rjb.rj
  refine ⟨⟨⟨fun j hj => lset_true (hrj.taken j hj), by rw [lset_ne _ h99]; exact hrj.none, hrj.bel.alloc hrj.bel.size _, hrj.rws.same (fun d' hl => ⟨(hold d' hl).1, vset_ne _ _ (hold d' hl).2⟩) (fun d' b hl e => blk_alloc_lt _ _ _ (hlt d' b (hold d' hl).1 e)), by simp⟩, fun e => ?_⟩, fun _ => ?_⟩
  · rw [lset_ne _ hkb] at e
    obtain ⟨h1, h2⟩ := h.rjb.built e
    refine ⟨fun t ht => lset_true (h1 t ht), ?_⟩
    rw [vset_ne _ _ hdb, h2]
    exact (hF v _ fun t ht => vset_ne _ _ (hn t ht)).symm
  · refine ⟨w.heap.size, vset_same _ _ _, hrj.bel.size, Blk.new w cs ty, fun d' hl e => ?_⟩
    rw [vset_ne _ _ (hold d' hl).2] at e
    have := hlt d' _ (hold d' hl).1 e
    omega
end

/-- The cells of a place. -/
def nd5 (d : Nd) (l : Loc) : List Value := [.int .i64 d.kind, .string d.text, .slice l.nA d.nn l.nc, .slice l.kA d.kn l.kc, .int .i64 d.turn]

/-- The cells of m places from s on. -/
def rowsOf (D : Nat → Nd) (L : Nat → Loc) (s : Nat) : Nat → List Value | 0 => [] | m + 1 => rowsOf D L s m ++ nd5 (D (s + m)) (L (s + m))

section
variable {D D' : Nat → Nd} {L L' : Nat → Loc} {s : Nat}

theorem rows_len : ∀ m, (rowsOf D L s m).length = m * 5
  | 0 => rfl
  | m + 1 => by rw [rowsOf, List.length_append, rows_len m]; simp [nd5]; omega

theorem nd5_one (d : Nd) (l : Loc) : ∀ u ∈ nd5 d l, u.oneCell' = true := by intro u hu; simp [nd5] at hu; rcases hu with rfl | rfl | rfl | rfl | rfl <;> rfl

theorem rows_one : ∀ m, ∀ u ∈ rowsOf D L s m, u.oneCell' = true
  | 0 => by simp [rowsOf]
  | m + 1 => by
    intro u hu
    rw [rowsOf, List.mem_append] at hu
    exact hu.elim (rows_one m u) (nd5_one _ _ u)

theorem rows_get : ∀ m i, i < m → ∀ r, r < 5 → (rowsOf D L s m)[i * 5 + r]? = (nd5 (D (s + i)) (L (s + i)))[r]?
  | 0, i, h, r, hr => by omega
  | m + 1, i, h, r, hr => by
    rw [rowsOf]
    by_cases e : i < m
    · rw [List.getElem?_append_left (by rw [rows_len]; omega)]; exact rows_get m i e r hr
    · obtain rfl : i = m := by omega
      rw [List.getElem?_append_right (by rw [rows_len]; omega), rows_len, show i * 5 + r - i * 5 = r by omega]

theorem rows_cons : ∀ m, rowsOf D L s (m + 1) = nd5 (D s) (L s) ++ rowsOf D L (s + 1) m
  | 0 => by simp [rowsOf]
  | m + 1 => by
    rw [rowsOf, rows_cons m, List.append_assoc, rowsOf, show s + (m + 1) = s + 1 + m by omega]

theorem rows_ext : ∀ m, (∀ i, i < m → D' (s + i) = D (s + i) ∧ L' (s + i) = L (s + i)) → rowsOf D' L' s m = rowsOf D L s m
  | 0, _ => rfl
  | m + 1, h => by
    rw [rowsOf, rowsOf, rows_ext m (fun i hi => h i (by omega)), (h m (by omega)).1, (h m (by omega)).2]
end

section
variable {W W' : World} {B g cap n : Nat} {D : Nat → Nd} {L : Nat → Loc}

/-- A row of places, as it is appended. -/
theorem OwnT.srcFrom (h : OwnT W B g cap n D L) (s m c : Nat) (hs : s + m ≤ n) : Src W 5 (.slice (some ⟨g, s * 5, none⟩) m c) m (rowsOf D L s m) :=
  ⟨rows_len m, rows_one m, Or.inr ⟨⟨g, s * 5, none⟩, c, rfl, fun j u hu => by
    have hj : j < m * 5 := by
      rcases Nat.lt_or_ge j (m * 5) with e | e
      · exact e
      · rw [List.getElem?_eq_none (by rw [rows_len]; exact e)] at hu; cases hu
    rw [addr_add]
    have h1 := rows_get (D := D) (L := L) (s := s) m (j / 5) (by omega) (j % 5) (by omega)
    rw [show j / 5 * 5 + j % 5 = j by omega, hu] at h1
    obtain ⟨c0, c1, c2, c3, c4⟩ := h.cells (s + j / 5) (by omega)
    have hj5 : j % 5 = 0 ∨ j % 5 = 1 ∨ j % 5 = 2 ∨ j % 5 = 3 ∨ j % 5 = 4 := by omega
    rcases hj5 with e | e | e | e | e <;> rw [e] at h1 <;> simp [nd5] at h1
    · rw [show s * 5 + j = (s + j / 5) * 5 by omega, c0, h1]
    · rw [show s * 5 + j = (s + j / 5) * 5 + 1 by omega, c1, h1]
    · rw [show s * 5 + j = (s + j / 5) * 5 + 2 by omega, c2, h1]
    · rw [show s * 5 + j = (s + j / 5) * 5 + 3 by omega, c3, h1]
    · rw [show s * 5 + j = (s + j / 5) * 5 + 4 by omega, c4, h1]⟩⟩

/-- A row of places of one's own. -/
theorem OwnT.of_row {B' c : Nat} (hown : W.ownsRow B' 36 5 (.slice (some ⟨g, 0, none⟩) n c) n (rowsOf D L 0 n)) (hB : B ≤ B') (hl : ∀ i, i < n → NdIn W (D i) (L i) ∧ Off W B g (L i).nA ∧ Off W B g (L i).kA) : OwnT W B g c n D L := by
  have hcell := hown.cells (g := g) rfl
  rcases hown.2 with ⟨h0, _⟩ | ⟨g2, cap2, cur2, hv, hb2, hblk2, hn2, hm2, hs2, ht2⟩
  · cases h0
  cases hv
  refine ⟨⟨cur2, hblk2, hs2⟩, by omega, hn2, hm2, fun i hi => ?_, hl⟩
  have key : ∀ r u, r < 5 → (nd5 (D i) (L i))[r]? = some u → W.cell? ⟨g, i * 5 + r, none⟩ = some u := fun r u hr hu => by
    have h1 := rows_get (D := D) (L := L) (s := 0) n i hi r hr
    rw [Nat.zero_add, hu] at h1
    have := hcell (i * 5 + r) u h1
    rwa [addr_add, Nat.zero_add] at this
  exact ⟨key 0 _ (by omega) rfl, key 1 _ (by omega) rfl, key 2 _ (by omega) rfl, key 3 _ (by omega) rfl, key 4 _ (by omega) rfl⟩
end
end Go.Proofs.Ytlikmphjocjmeaa

/-
  What is known of the names of a tree that is ok: how many there are, and to what. Plain facts.
-/
namespace Go.Proofs.Ytlikmphjocjmeaa
open Go.RowKit
set_option linter.unusedVariables false

section
variable {n : Nat} {D : Nat → Nd} {now : Int}

theorem TreeGood.kids (h : TreeGood n D now) {i : Nat} (hi : i < n) {j : Nat} (hj : j < (D i).kn) : 1 ≤ (D i).kids j ∧ (D i).kids j < n ∧ (D ((D i).kids j).toNat).kind ≠ 0 := by
  have hk := h.nodes i hi
  unfold ndOk at hk
  split at hk
  · unfold freeOk at hk; simp at hk; omega
  split at hk
  · unfold fileOk at hk; simp at hk; omega
  split at hk
  · unfold dirOk at hk
    simp only [Bool.and_eq_true] at hk
    obtain ⟨⟨⟨⟨_, _⟩, hk, _⟩, _⟩, _⟩ := hk
    unfold kidsOk at hk
    have := List.all_eq_true.1 hk j (by simpa using hj)
    unfold kidOk at this
    simp at this
    exact ⟨this.1.1, this.1.2, this.2⟩
  · cases hk

theorem TreeGood.kinds (h : TreeGood n D now) {i : Nat} (hi : i < n) : (D i).kind = 0 ∨ (D i).kind = 1 ∨ (D i).kind = 2 := by
  have hk := h.nodes i hi
  unfold ndOk at hk
  split at hk
  · exact Or.inl ‹_›
  split at hk
  · exact Or.inr (Or.inl ‹_›)
  split at hk
  · exact Or.inr (Or.inr ‹_›)
  · cases hk

theorem TreeGood.kn_nn (h : TreeGood n D now) {i : Nat} (hi : i < n) : (D i).kn = (D i).nn := by
  have hk := h.nodes i hi
  unfold ndOk at hk
  split at hk
  · unfold freeOk at hk; simp at hk; omega
  split at hk
  · unfold fileOk at hk; simp at hk; omega
  split at hk
  · unfold dirOk at hk
    simp at hk
    exact hk.1.1.2.2
  · cases hk

theorem cnt_zero {Z : Nat → Int} {z : Int} : ∀ k, (∀ j, j < k → Z j ≠ z) → cnt Z z k = 0
  | 0, _ => rfl
  | k + 1, h => by
    rw [show cnt Z z (k + 1) = cnt Z z k + (if Z k = z then 1 else 0) from rfl, cnt_zero k (fun j hj => h j (by omega)), if_neg (h k (by omega))]

theorem cnt_pos {Z : Nat → Int} {z : Int} {j : Nat} (h : Z j = z) : ∀ k, j < k → 1 ≤ cnt Z z k
  | 0, hk => by omega
  | k + 1, hk => by
    rw [show cnt Z z (k + 1) = cnt Z z k + (if Z k = z then 1 else 0) from rfl]
    by_cases e : j = k
    · subst e; rw [if_pos h]; omega
    · have := cnt_pos h k (by omega); omega

theorem refsTo_zero {z : Int} : ∀ m, (∀ i, i < m → ∀ j, j < (D i).kn → (D i).kids j ≠ z) → refsTo D z m = 0
  | 0, _ => rfl
  | m + 1, h => by
    rw [show refsTo D z (m + 1) = refsTo D z m + cnt (D m).kids z (D m).kn from rfl, refsTo_zero m (fun i hi => h i (by omega)), cnt_zero _ (h m (by omega))]

theorem refsTo_pos {z : Int} {i j : Nat} (hj : j < (D i).kn) (h : (D i).kids j = z) : ∀ m, i < m → 1 ≤ refsTo D z m
  | 0, hm => by omega
  | m + 1, hm => by
    rw [show refsTo D z (m + 1) = refsTo D z m + cnt (D m).kids z (D m).kn from rfl]
    by_cases e : i = m
    · subst e; have := cnt_pos h _ hj; omega
    · have := refsTo_pos hj h m (by omega); omega

theorem TreeGood.refs_root (h : TreeGood n D now) : refsTo D 0 n = 0 := refsTo_zero n fun i hi j hj e => by have := (h.kids hi hj).1; omega

theorem TreeGood.refs_free (h : TreeGood n D now) {z : Nat} (hz : (D z).kind = 0) : refsTo D z n = 0 := refsTo_zero n fun i hi j hj e => by
  have := (h.kids hi hj).2.2
  rw [e] at this
  exact this (by simpa using hz)

theorem TreeGood.refs_file (h : TreeGood n D now) {z : Nat} (hz : z < n) (hk : (D z).kind ≠ 0) (h1 : 1 ≤ z) : 1 ≤ refsTo D z n := by
  have hr := (h.reach z h1 hz).2 hk
  cases hr with
  | root => omega
  | step hi' hin hj =>
    rename_i i j
    have hk := h.kids hin hj
    exact refsTo_pos hj (by omega) n hin

/-- The sum over the first k places of how many names they have. -/
def refSum (D : Nat → Nd) (m : Nat) : Nat → Nat | 0 => 0 | k + 1 => refSum D m k + refsTo D (k : Nat) m
def cntSum (Z : Nat → Int) (m : Nat) : Nat → Nat | 0 => 0 | k + 1 => cntSum Z m k + cnt Z (k : Nat) m
/-- The sum over the first k places of how many names are in them. -/
def nameSum (D : Nat → Nd) : Nat → Nat | 0 => 0 | k + 1 => nameSum D k + (D k).nn

theorem cntSum_succ {Z : Nat → Int} {m : Nat} : ∀ k, cntSum Z (m + 1) k = cntSum Z m k + (if 0 ≤ Z m ∧ Z m < k then 1 else 0)
  | 0 => by
    have : ¬ (0 ≤ Z m ∧ Z m < (0 : Nat)) := by omega
    rw [if_neg this]; rfl
  | k + 1 => by
    rw [show cntSum Z (m + 1) (k + 1) = cntSum Z (m + 1) k + cnt Z (k : Nat) (m + 1) from rfl, cntSum_succ k, show cntSum Z m (k + 1) = cntSum Z m k + cnt Z (k : Nat) m from rfl, show cnt Z (k : Nat) (m + 1) = cnt Z (k : Nat) m + (if Z m = (k : Nat) then 1 else 0) from rfl]
    split <;> split <;> split <;> omega

theorem cntSum_all {Z : Nat → Int} {k : Nat} : ∀ m, (∀ j, j < m → 0 ≤ Z j ∧ Z j < k) → cntSum Z m k = m
  | 0, _ => by
    induction k with
    | zero => rfl
    | succ k ih => rw [show cntSum Z 0 (k + 1) = cntSum Z 0 k + cnt Z (k : Nat) 0 from rfl, ih (fun j hj => absurd hj (Nat.not_lt_zero _))]; rfl
  | m + 1, h => by rw [cntSum_succ, cntSum_all m (fun j hj => h j (by omega)), if_pos (h m (by omega))]

theorem refSum_succ {m : Nat} : ∀ k, refSum D (m + 1) k = refSum D m k + cntSum (D m).kids (D m).kn k
  | 0 => rfl
  | k + 1 => by
    rw [show refSum D (m + 1) (k + 1) = refSum D (m + 1) k + refsTo D (k : Nat) (m + 1) from rfl, refSum_succ k, show refSum D m (k + 1) = refSum D m k + refsTo D (k : Nat) m from rfl, show refsTo D (k : Nat) (m + 1) = refsTo D (k : Nat) m + cnt (D m).kids (k : Nat) (D m).kn from rfl, show cntSum (D m).kids (D m).kn (k + 1) = cntSum (D m).kids (D m).kn k + cnt (D m).kids (k : Nat) (D m).kn from rfl]
    omega

theorem refSum_zero : ∀ k, refSum D 0 k = 0
  | 0 => rfl
  | k + 1 => by rw [show refSum D 0 (k + 1) = refSum D 0 k + refsTo D (k : Nat) 0 from rfl, refSum_zero k]; rfl

theorem TreeGood.sums (h : TreeGood n D now) : ∀ m, m ≤ n → refSum D m n = nameSum D m
  | 0, _ => refSum_zero n
  | m + 1, hm => by
    rw [refSum_succ, h.sums m (by omega), cntSum_all _ (fun j hj => by have := h.kids (show m < n by omega) hj; omega), h.kn_nn (show m < n by omega)]
    rfl

theorem nameSum_le (D : Nat → Nd) : ∀ k, nameSum D k ≤ sizeTo D k
  | 0 => Nat.le_refl _
  | k + 1 => by
    have := nameSum_le D k
    rw [show nameSum D (k + 1) = nameSum D k + (D k).nn from rfl, sizeTo_succ]
    unfold Nd.size
    omega

theorem refSum_le (D : Nat → Nd) (m : Nat) : ∀ k, refSum D m k ≤ k * sizeTo D m
  | 0 => by simp [refSum]
  | k + 1 => by
    have h1 := refSum_le D m k
    have h2 := refsTo_le D (k : Nat) m
    rw [show refSum D m (k + 1) = refSum D m k + refsTo D (k : Nat) m from rfl, Nat.add_mul]
    omega
end
end Go.Proofs.Ytlikmphjocjmeaa

/-
  What a turned root does to a tree that is ok. Plain facts.
-/
namespace Go.Proofs.Ytlikmphjocjmeaa
open Go.RowKit
set_option linter.unusedVariables false

section
variable {n : Nat} {D : Nat → Nd} {now : Int}

theorem root_dir (h : TreeGood n D now) : dirOk n D now (D 0) = true := by
  have hk := h.nodes 0 h.some
  unfold ndOk at hk
  rw [h.root] at hk
  simpa using hk

/-- Of a tree that is ok with a root that is a directory. -/
theorem good_root (h : TreeGood n D now) : dirOk n D now (D 0) = true ∧ (D 0).kind = 2 := ⟨root_dir h, h.root⟩

theorem bent_turn (z : Int) (hz : now < z) : ¬ TreeGood n (putNd D 0 { D 0 with turn := z }) now := fun h => by
  have := root_dir h
  rw [putNd_same] at this
  unfold dirOk at this
  simp at this
  omega

theorem bent_kind {d : Nd} (hd : d.kind ≠ 2) : ¬ TreeGood n (putNd D 0 d) now := fun h => by
  have := h.root
  rw [putNd_same] at this
  exact hd this

theorem bent_text {s : ByteArray} (hs : (s.toList == []) = false) : ¬ TreeGood n (putNd D 0 { D 0 with text := s }) now := fun h => by
  have := root_dir h
  rw [putNd_same] at this
  unfold dirOk at this
  rw [show ({ D 0 with text := s } : Nd).text = s from rfl, hs] at this
  simp at this

theorem bent_names (h0 : TreeGood n D now) (S : Nat → ByteArray) : ¬ TreeGood n (putNd D 0 { D 0 with nn := (D 0).nn + 1, names := S }) now := fun h => by
  have h1 := h.kn_nn h0.some
  have h2 := h0.kn_nn h0.some
  rw [putNd_same] at h1
  simp at h1
  omega

theorem good_late (h : TreeGood n D now) : TreeGood n D 1000 := by
  have hs := h.soon
  refine ⟨h.some, h.few, by omega, by omega, h.root, fun i hi => ?_, h.reach, h.one⟩
  have hk := h.nodes i hi
  unfold ndOk at hk ⊢
  split
  · rename_i e; rw [if_pos e] at hk; exact hk
  · rename_i e; rw [if_neg e] at hk
    split
    · rename_i e1; rw [if_pos e1] at hk
      unfold fileOk at hk ⊢
      simp only [Bool.and_eq_true, decide_eq_true_eq] at hk ⊢
      exact ⟨hk.1, by omega⟩
    · rename_i e1; rw [if_neg e1] at hk
      split
      · rename_i e2; rw [if_pos e2] at hk
        unfold dirOk at hk ⊢
        simp only [Bool.and_eq_true, decide_eq_true_eq] at hk ⊢
        exact ⟨hk.1, by omega⟩
      · rename_i e2; rw [if_neg e2] at hk; exact hk

theorem bent_now0 : ¬ TreeGood n D 0 := fun h => by have := h.begun; omega
end

/-- A drawn tree with another root fits, too. -/
theorem fits_put {n : Nat} {D : Nat → Nd} (h : Fair n D) {d : Nd} (hd : d.Fits) (hs : d.size ≤ 1000) : FitAll n (putNd D 0 d) ∧ sizeTo (putNd D 0 d) n ≤ 1048576 := by
  constructor
  · intro i hi
    by_cases e : i = 0
    · subst e; rw [putNd_same]; exact hd
    · rw [putNd_ne D d e]; exact h.fits i hi
  · have h1 := sizeTo_le (n := n) (D := putNd D 0 d) 1000 (fun i hi => by
      by_cases e : i = 0
      · subst e; rw [putNd_same]; exact hs
      · rw [putNd_ne D d e]; have := (h.each i hi).small; omega) n (Nat.le_refl _)
    have h2 := h.few
    omega

theorem fits_fair {n : Nat} {D : Nat → Nd} (h : Fair n D) {d : Nd} (hd : FairNd d) : FitAll n (putNd D 0 d) ∧ sizeTo (putNd D 0 d) n ≤ 1048576 := fits_put h hd.fits (by have := hd.small; omega)

/-- A root with one name more. -/
theorem fits_names {n : Nat} {D : Nat → Nd} (h : Fair n D) (hn1 : 1 ≤ n) {S : Nat → ByteArray} (hS : ∀ i, i < (D 0).nn + 1 → (S i).size ≤ 5) : FitAll n (putNd D 0 { D 0 with nn := (D 0).nn + 1, names := S }) ∧ sizeTo (putNd D 0 { D 0 with nn := (D 0).nn + 1, names := S }) n ≤ 1048576 := by
  have h0 := h.each 0 hn1
  have hf := h0.fits
  have h1 := h0.nn
  have h2 := h0.kn
  have h3 := h0.text
  refine fits_put h ⟨hf.kind, hf.turn, hf.text, fun i hi => ?_, by show (D 0).nn + 1 ≤ maxLen; unfold maxLen; omega, hf.kn, hf.kids⟩ ?_
  · have := hS i hi; show (S i).size ≤ maxLen; unfold maxLen; omega
  · have h4 := sumTo_le (n := (D 0).nn + 1) (S := S) 5 hS ((D 0).nn + 1) (Nat.le_refl _)
    unfold Nd.size
    show (D 0).text.size + ((D 0).nn + 1) + sumTo S ((D 0).nn + 1) + (D 0).kn ≤ 1000
    omega

theorem leaf1_fair : FairNd (leafNd 1 1) := ⟨Nat.zero_le _, Nat.zero_le _, fun j hj => absurd hj (Nat.not_lt_zero _), fun j hj => absurd hj (Nat.not_lt_zero _), by simp [leafNd], by simp [leafNd], by simp [leafNd]⟩

theorem names5 {d : Nd} (h : FairNd d) : ∀ i, i < d.nn + 1 → ((lst d.nn d.names ++ [(⟨#[122, 122, 122, 122]⟩ : ByteArray)]).getD i ByteArray.empty).size ≤ 5 := fun i hi => by
  by_cases e : i < d.nn
  · have h1 := (h.names i e).size
    have e1 : (lst d.nn d.names ++ [(⟨#[122, 122, 122, 122]⟩ : ByteArray)]).getD i ByteArray.empty = d.names i := by
      rw [List.getD_eq_getElem?_getD, List.getElem?_append_left (by rw [lst_length]; exact e)]
      simp [lst, e]
    rw [e1]
    omega
  · obtain rfl : i = d.nn := by omega
    have e1 : (lst d.nn d.names ++ [(⟨#[122, 122, 122, 122]⟩ : ByteArray)]).getD d.nn ByteArray.empty = ⟨#[122, 122, 122, 122]⟩ := by
      rw [List.getD_eq_getElem?_getD, List.getElem?_append_right (by rw [lst_length]; omega), lst_length]
      simp
    rw [e1]
    decide

theorem a_some : (({ data := #[97] } : ByteArray).toList == []) = false := by
  rw [ByteArray.toList_eq]
  rfl
end Go.Proofs.Ytlikmphjocjmeaa

/-
  More of where ways lead in a tree that is ok. Plain facts.
-/
namespace Go.Proofs.Ytlikmphjocjmeaa
open Go.RowKit
set_option linter.unusedVariables false

section
variable {n : Nat} {D : Nat → Nd} {now : Int} {S S' : Nat → ByteArray}

theorem Leads.ext {m x : Nat} (h : Leads D S m x) : (∀ i, i < m → S' i = S i) → Leads D S' m x := by
  induction h with
  | root => intro _; exact Leads.root
  | step hl hi he ih =>
    intro hs
    exact Leads.step (ih (fun i hi => hs i (by omega))) hi (by rw [hs _ (Nat.lt_succ_self _)]; exact he)

theorem Leads.reach (hg : TreeGood n D now) {m x : Nat} (h : Leads D S m x) : Reach n D x := by
  induction h with
  | root => exact Reach.root
  | step hl hi he ih =>
    have hx := hl.lt hg
    exact Reach.step ih hx (by rw [hg.kn_nn hx]; exact hi)

theorem Leads.live (hg : TreeGood n D now) {m x : Nat} (h : Leads D S m x) : (D x).kind ≠ 0 := by
  rcases Nat.eq_zero_or_pos x with e | e
  · subst e; rw [hg.root]; decide
  · exact (hg.reach x e (h.lt hg)).1 (h.reach hg)

theorem TreeGood.name (hg : TreeGood n D now) {x : Nat} (hx : x < n) {i : Nat} (hi : i < (D x).nn) : nameOk ((D x).names i).data.toList = true := by
  have hd := (dir_of_names (hg.nodes x hx) (by omega)).2.1
  unfold dirNames at hd
  have := List.all_eq_true.1 hd i (by simpa using hi)
  simp only [Bool.and_eq_true] at this
  exact this.1

theorem cnt_two {Z : Nat → Int} {z : Int} {i j : Nat} (hij : j < i) (hj : Z j = z) (hi : Z i = z) : ∀ k, i < k → 2 ≤ cnt Z z k
  | 0, hk => by omega
  | k + 1, hk => by
    rw [show cnt Z z (k + 1) = cnt Z z k + (if Z k = z then 1 else 0) from rfl]
    by_cases e : i = k
    · subst e; rw [if_pos hi]; have := cnt_pos hj i hij; omega
    · have := cnt_two hij hj hi k (by omega); omega

theorem refsTo_two {z : Int} {x i j : Nat} (hij : j < i) (hi : i < (D x).kn) (h1 : (D x).kids j = z) (h2 : (D x).kids i = z) : ∀ m, x < m → 2 ≤ refsTo D z m
  | 0, hm => by omega
  | m + 1, hm => by
    rw [show refsTo D z (m + 1) = refsTo D z m + cnt (D m).kids z (D m).kn from rfl]
    by_cases e : x = m
    · subst e; have := cnt_two hij h1 h2 _ hi; omega
    · have := refsTo_two hij hi h1 h2 m (by omega); omega

theorem pathOk_more {m : Nat} {s : ByteArray} (h : pathOk m S = true) (hm : m < 5) (hs : nameOk s.data.toList = true) : pathOk (m + 1) (catS m S (fun _ => s)) = true := by
  unfold pathOk at *
  simp only [Bool.and_eq_true, decide_eq_true_eq] at *
  refine ⟨?_, by omega⟩
  have h1 := h.1
  unfold namesOk at *
  rw [List.all_eq_true] at *
  intro i hi
  have hi' : i < m + 1 := by simpa using hi
  unfold catS
  by_cases e : i < m
  · rw [if_pos e]; exact h1 i (by simpa using e)
  · rw [if_neg e]; exact hs

theorem leads_more {m x i : Nat} (h : Leads D S m x) (hi : i < (D x).nn) : Leads D (catS m S (fun _ => (D x).names i)) (m + 1) ((D x).kids i).toNat :=
  Leads.step (h.ext (fun j hj => by unfold catS; rw [if_pos hj])) hi (by unfold catS; rw [if_neg (Nat.lt_irrefl _)])
end
end Go.Proofs.Ytlikmphjocjmeaa

/-
  A tree with free places more, behind all. Plain facts.
-/
namespace Go.Proofs.Ytlikmphjocjmeaa
open Go.RowKit
set_option linter.unusedVariables false

/-- Places that are free behind the first n. -/
def padT (D : Nat → Nd) (n : Nat) : Nat → Nd := fun i => if i < n then D i else leafNd 0 0

theorem pad_lt (D : Nat → Nd) {n i : Nat} (h : i < n) : padT D n i = D i := by simp [padT, h]
theorem pad_ge (D : Nat → Nd) {n i : Nat} (h : n ≤ i) : padT D n i = leafNd 0 0 := by simp [padT, Nat.not_lt.2 h]

section
variable {n m : Nat} {D : Nat → Nd} {now : Int} {S : Nat → ByteArray}

theorem pad_refs {z : Int} : ∀ k, k ≤ n → refsTo (padT D n) z k = refsTo D z k
  | 0, _ => rfl
  | k + 1, h => by
    rw [show refsTo (padT D n) z (k + 1) = refsTo (padT D n) z k + cnt (padT D n k).kids z (padT D n k).kn from rfl, pad_refs k (by omega), pad_lt D (show k < n by omega)]
    rfl

theorem pad_refs_more {z : Int} : ∀ k, refsTo (padT D n) z (n + k) = refsTo D z n
  | 0 => pad_refs n (Nat.le_refl _)
  | k + 1 => by
    rw [show refsTo (padT D n) z (n + (k + 1)) = refsTo (padT D n) z (n + k) + cnt (padT D n (n + k)).kids z (padT D n (n + k)).kn from rfl, pad_refs_more k, pad_ge D (Nat.le_add_right n k)]
    rfl

theorem pad_reach (hg : TreeGood n D now) {i : Nat} (h : Reach m (padT D n) i) : i < n ∧ Reach n D i := by
  induction h with
  | root => exact ⟨hg.some, Reach.root⟩
  | step hr hi hj ih =>
    obtain ⟨h1, h2⟩ := ih
    rw [pad_lt D h1] at hj ⊢
    have hk := hg.kids h1 hj
    exact ⟨by omega, Reach.step h2 h1 hj⟩

theorem reach_pad (hg : TreeGood n D now) (hm : n ≤ m) {i : Nat} (h : Reach n D i) : Reach m (padT D n) i := by
  induction h with
  | root => exact Reach.root
  | step hr hi hj ih =>
    rename_i i j
    have := Reach.step (n := m) (D := padT D n) (i := i) (j := j) ih (by omega) (by rw [pad_lt D hi]; exact hj)
    rwa [pad_lt D hi] at this

theorem pad_nd (hg : TreeGood n D now) (hm : n ≤ m) {i : Nat} (hi : i < n) : ndOk m (padT D n) now (D i) = true := by
  have hk := hg.nodes i hi
  unfold ndOk at hk ⊢
  split
  · rename_i h; rw [if_pos h] at hk; exact hk
  · rename_i h; rw [if_neg h] at hk
    split
    · rename_i h1; rw [if_pos h1] at hk; exact hk
    · rename_i h1; rw [if_neg h1] at hk
      split
      · rename_i h2; rw [if_pos h2] at hk
        unfold dirOk at hk ⊢
        simp only [Bool.and_eq_true] at hk ⊢
        obtain ⟨⟨⟨⟨a1, a2⟩, a3, a4⟩, a5⟩, a6⟩ := hk
        refine ⟨⟨⟨⟨a1, a2⟩, ?_, a4⟩, a5⟩, a6⟩
        unfold kidsOk at a3 ⊢
        rw [List.all_eq_true] at a3 ⊢
        intro j hj
        have := a3 j hj
        unfold kidOk at this ⊢
        simp only [Bool.and_eq_true, decide_eq_true_eq] at this ⊢
        obtain ⟨⟨b1, b2⟩, b3⟩ := this
        refine ⟨⟨b1, by omega⟩, ?_⟩
        rw [pad_lt D (by omega)]
        exact b3
      · rename_i h2; rw [if_neg h2] at hk; exact hk

theorem pad_good (hg : TreeGood n D now) (hm : n ≤ m) (h10 : m ≤ 10) : TreeGood m (padT D n) now := by
  have h1 := hg.some
  refine ⟨by omega, h10, hg.begun, hg.soon, by rw [pad_lt D h1]; exact hg.root, fun i hi => ?_, fun i h1i hi => ?_, fun i h1i hi hk => ?_⟩
  · by_cases e : i < n
    · rw [pad_lt D e]; exact pad_nd hg hm e
    · rw [pad_ge D (by omega)]
      unfold ndOk leafNd
      rw [if_pos rfl]
      unfold freeOk
      simp
  · by_cases e : i < n
    · rw [pad_lt D e]
      exact ⟨fun h => (hg.reach i h1i e).1 (pad_reach hg h).2, fun h => reach_pad hg hm ((hg.reach i h1i e).2 h)⟩
    · rw [pad_ge D (by omega)]
      exact ⟨fun h => absurd (pad_reach hg h).1 e, fun h => absurd rfl h⟩
  · by_cases e : i < n
    · rw [pad_lt D e] at hk
      obtain ⟨k, rfl⟩ : ∃ k, m = n + k := ⟨m - n, by omega⟩
      rw [pad_refs_more k]
      exact hg.one i h1i e hk
    · rw [pad_ge D (by omega)] at hk
      exact absurd hk (by simp [leafNd])

theorem leads_pad (hg : TreeGood n D now) {k x : Nat} (h : Leads D S k x) : Leads (padT D n) S k x := by
  induction h with
  | root => exact Leads.root
  | step hl hi he ih =>
    rename_i k x i
    have hx := hl.lt hg
    have := Leads.step (D := padT D n) (S := S) (k := k) (x := x) (i := i) ih (by rw [pad_lt D hx]; exact hi) (by rw [pad_lt D hx]; exact he)
    rwa [pad_lt D hx] at this

theorem pad_leads (hg : TreeGood n D now) {k x : Nat} (h : Leads (padT D n) S k x) : Leads D S k x := by
  induction h with
  | root => exact Leads.root
  | step hl hi he ih =>
    have hx := ih.lt hg
    rw [pad_lt D hx] at hi he ⊢
    exact Leads.step ih hi he

theorem find_pad (hg : TreeGood n D now) (hm : n ≤ m) (h10 : m ≤ 10) {k : Nat} {r : Int} (h : FindAre n D now k S r) {r' : Int} (h' : FindAre m (padT D n) now k S r') : r' = r := by
  by_cases g : pathOk k S = true ∧ ∃ x, Leads D S k x
  · obtain ⟨g1, x, g2⟩ := g
    rw [h.yes hg g1 x g2, h'.yes (pad_good hg hm h10) g1 x (leads_pad hg g2)]
  · rw [h.no (fun e => g e.2), h'.no (fun e => g ⟨e.2.1, e.2.2.choose, pad_leads hg e.2.2.choose_spec⟩)]
end
end Go.Proofs.Ytlikmphjocjmeaa

/-
  A root with one name more, of a tree that is ok, or of one with a file more behind all. Plain facts.
-/
namespace Go.Proofs.Ytlikmphjocjmeaa
open Go.RowKit
set_option linter.unusedVariables false

/-- The name zzz. -/
def zzz : ByteArray := ⟨#[122, 122, 122]⟩

/-- A root with the name zzz more, of place z. -/
def rootM (d : Nd) (z : Int) : Nd := ⟨2, ByteArray.empty, d.nn + 1, fun i => if i < d.nn then d.names i else zzz, d.kn + 1, fun i => if i < d.kn then d.kids i else z, d.turn⟩

theorem zzz_name : nameOk zzz.data.toList = true := by decide
theorem zzz_list : zzz.toList = [122, 122, 122] := by rw [ByteArray.toList_eq]; rfl
theorem empty_list : ((ByteArray.empty).toList == []) = true := by rw [ByteArray.toList_eq]; rfl

theorem cnt_ext {Z Z' : Nat → Int} {z : Int} : ∀ k, (∀ j, j < k → Z' j = Z j) → cnt Z' z k = cnt Z z k
  | 0, _ => rfl
  | k + 1, h => by
    rw [show cnt Z' z (k + 1) = cnt Z' z k + (if Z' k = z then 1 else 0) from rfl, cnt_ext k (fun j hj => h j (by omega)), h k (by omega)]
    rfl

theorem rootM_cnt (d : Nd) (x z : Int) : cnt (rootM d x).kids z (rootM d x).kn = cnt d.kids z d.kn + (if x = z then 1 else 0) := by
  rw [show (rootM d x).kn = d.kn + 1 from rfl, show cnt (rootM d x).kids z (d.kn + 1) = cnt (rootM d x).kids z d.kn + (if (rootM d x).kids d.kn = z then 1 else 0) from rfl, cnt_ext (Z := d.kids) d.kn (fun j hj => by simp [rootM, hj])]
  simp [rootM]

/-- What is known of the tree with a place more, or none. -/
structure Grown (n m k : Nat) (D D1 : Nat → Nd) (now : Int) : Prop where
  good : TreeGood n D now
  le : n ≤ m
  few : m ≤ 10
  old : ∀ i, i < n → D1 i = D i
  new : ∀ i, n ≤ i → i < m → i = k ∧ D1 i = leafNd 1 1
  one : 1 ≤ k
  lt : k < m

section
variable {n m k : Nat} {D D1 : Nat → Nd} {now : Int}

theorem Grown.refs (h : Grown n m k D D1 now) (x z : Int) : ∀ i, i ≤ m → refsTo (putNd D1 0 (rootM (D 0) x)) z i = refsTo D z (min i n) + (if 0 < i ∧ x = z then 1 else 0)
  | 0, _ => by simp [refsTo]
  | i + 1, hi => by
    have h1 := h.good.some
    rw [show refsTo (putNd D1 0 (rootM (D 0) x)) z (i + 1) = refsTo (putNd D1 0 (rootM (D 0) x)) z i + cnt (putNd D1 0 (rootM (D 0) x) i).kids z (putNd D1 0 (rootM (D 0) x) i).kn from rfl, h.refs x z i (by omega)]
    by_cases e0 : i = 0
    · subst e0
      rw [putNd_same, rootM_cnt, show min (0 + 1) n = 0 + 1 from by omega, show min 0 n = 0 from by omega, show refsTo D z (0 + 1) = refsTo D z 0 + cnt (D 0).kids z (D 0).kn from rfl]
      simp
      omega
    · rw [putNd_ne _ _ e0]
      by_cases e : i < n
      · rw [h.old i e, show min i n = i from by omega, show min (i + 1) n = i + 1 from by omega, show refsTo D z (i + 1) = refsTo D z i + cnt (D i).kids z (D i).kn from rfl]
        simp only [show 0 < i from by omega, show 0 < i + 1 from by omega, true_and]
        omega
      · rw [(h.new i (by omega) (by omega)).2, show min i n = n from by omega, show min (i + 1) n = n from by omega, show (leafNd 1 1).kn = 0 from rfl, show cnt (leafNd 1 1).kids z 0 = 0 from rfl]
        simp only [show 0 < i from by omega, show 0 < i + 1 from by omega, true_and]
        omega

theorem Grown.refs_all (h : Grown n m k D D1 now) (x z : Int) : refsTo (putNd D1 0 (rootM (D 0) x)) z m = refsTo D z n + (if x = z then 1 else 0) := by
  have h1 := h.good.some
  have h2 := h.le
  rw [h.refs x z m (Nat.le_refl _), show min m n = n from by omega]
  simp only [show 0 < m from by omega, true_and]

theorem kindM (h : Grown n m k D D1 now) {x : Int} {i : Nat} (hi : i < n) : (putNd D1 0 (rootM (D 0) x) i).kind = (D i).kind := by
  by_cases e : i = 0
  · subst e; rw [putNd_same, h.good.root]; rfl
  · rw [putNd_ne _ _ e, h.old i hi]

/-- A place that is right is so in a greater tree. -/
theorem nd_more {D2 : Nat → Nd} (hm : n ≤ m) (hk : ∀ j, j < n → (D j).kind ≠ 0 → (D2 j).kind ≠ 0) {d : Nd} (h : ndOk n D now d = true) : ndOk m D2 now d = true := by
  unfold ndOk at h ⊢
  split
  · rename_i e; rw [if_pos e] at h; exact h
  · rename_i e; rw [if_neg e] at h
    split
    · rename_i e1; rw [if_pos e1] at h; exact h
    · rename_i e1; rw [if_neg e1] at h
      split
      · rename_i e2; rw [if_pos e2] at h
        unfold dirOk at h ⊢
        simp only [Bool.and_eq_true] at h ⊢
        obtain ⟨⟨⟨⟨a1, a2⟩, a3, a4⟩, a5⟩, a6⟩ := h
        refine ⟨⟨⟨⟨a1, a2⟩, ?_, a4⟩, a5⟩, a6⟩
        unfold kidsOk at a3 ⊢
        rw [List.all_eq_true] at a3 ⊢
        intro j hj
        have := a3 j hj
        unfold kidOk at this ⊢
        simp only [Bool.and_eq_true, decide_eq_true_eq] at this ⊢
        obtain ⟨⟨b1, b2⟩, b3⟩ := this
        refine ⟨⟨b1, by omega⟩, ?_⟩
        simp only [bne_iff_ne, ne_eq] at b3 ⊢
        exact hk _ (by omega) b3
      · rename_i e2; rw [if_neg e2] at h; exact h

/-- The names with zzz behind them. -/
theorem names_more {S : Nat → ByteArray} {q : Nat} (h : dirNames S q = true) (hz : ∀ i, i < q → Op.bytesLess (S i).toList zzz.toList = true) : dirNames (fun i => if i < q then S i else zzz) (q + 1) = true := by
  unfold dirNames at *
  rw [List.all_eq_true] at *
  intro i hi
  have hi' : i < q + 1 := by simpa using hi
  dsimp only
  by_cases e : i < q
  · have := h i (by simpa using e)
    rw [if_pos e]
    by_cases e0 : i = 0
    · subst e0; simpa using this
    · rw [if_pos (show i - 1 < q by omega)]; exact this
  · obtain rfl : i = q := by omega
    rw [if_neg e, zzz_name]
    by_cases e0 : i = 0
    · subst e0; rfl
    · rw [if_pos (show i - 1 < i by omega)]
      have h1 := hz (i - 1) (by omega)
      have h2 := less_tot (S (i - 1)).toList zzz.toList
      rw [h1] at h2
      have h3 : lessEq zzz (S (i - 1)) = false := by unfold lessEq; simpa using h2.symm
      rw [h3]; simp

theorem Grown.reachTo (h : Grown n m k D D1 now) (hf : (D1 k).kind = 1) {i : Nat} (hr : Reach m (putNd D1 0 (rootM (D 0) k)) i) : i = k ∨ (i < n ∧ Reach n D i) := by
  have hk1 := h.one
  induction hr with
  | root => exact Or.inr ⟨h.good.some, Reach.root⟩
  | step hr hi hj ih =>
    rename_i i j
    by_cases ek : i = k
    · exfalso
      subst ek
      rw [putNd_ne _ _ (by omega)] at hj
      by_cases e : i < n
      · rw [h.old i e] at hj hf
        have := h.good.nodes i e
        unfold ndOk at this
        rw [hf] at this
        simp [fileOk] at this
        omega
      · rw [(h.new i (by omega) h.lt).2] at hj
        exact absurd hj (Nat.not_lt_zero _)
    · obtain ⟨h1, h2⟩ := ih.resolve_left ek
      by_cases e0 : i = 0
      · subst e0
        rw [putNd_same] at hj ⊢
        by_cases ej : j < (D 0).kn
        · have e1 : (rootM (D 0) k).kids j = (D 0).kids j := by simp [rootM, ej]
          rw [e1]
          have := h.good.kids h1 ej
          exact Or.inr ⟨by omega, Reach.step h2 h1 ej⟩
        · have e1 : (rootM (D 0) k).kids j = k := by simp [rootM, ej]
          rw [e1]
          exact Or.inl (by simp)
      · rw [putNd_ne _ _ e0, h.old i h1] at hj ⊢
        have := h.good.kids h1 hj
        exact Or.inr ⟨by omega, Reach.step h2 h1 hj⟩

theorem Grown.reachOf (h : Grown n m k D D1 now) {x : Int} {i : Nat} (hr : Reach n D i) : Reach m (putNd D1 0 (rootM (D 0) x)) i := by
  have hle := h.le
  induction hr with
  | root => exact Reach.root
  | step hr hi hj ih =>
    rename_i i j
    by_cases e0 : i = 0
    · subst e0
      have := Reach.step (n := m) (D := putNd D1 0 (rootM (D 0) x)) (i := 0) (j := j) ih (by omega) (by rw [putNd_same]; show j < (D 0).kn + 1; omega)
      rw [putNd_same, show (rootM (D 0) x).kids j = (D 0).kids j from by simp [rootM, hj]] at this
      exact this
    · have := Reach.step (n := m) (D := putNd D1 0 (rootM (D 0) x)) (i := i) (j := j) ih (by omega) (by rw [putNd_ne _ _ e0, h.old i hi]; exact hj)
      rwa [putNd_ne _ _ e0, h.old i hi] at this

theorem Grown.reachNew (h : Grown n m k D D1 now) : Reach m (putNd D1 0 (rootM (D 0) k)) k := by
  have := Reach.step (n := m) (D := putNd D1 0 (rootM (D 0) k)) (i := 0) (j := (D 0).kn) Reach.root (by have := h.good.some; have := h.le; omega) (by rw [putNd_same]; show (D 0).kn < (D 0).kn + 1; omega)
  rw [putNd_same, show (rootM (D 0) k).kids (D 0).kn = k from by simp [rootM]] at this
  simpa using this

theorem Grown.root (h : Grown n m k D D1 now) (hl : (D1 k).kind ≠ 0) (hz : ∀ i, i < (D 0).nn → Op.bytesLess ((D 0).names i).toList zzz.toList = true) : ndOk m (putNd D1 0 (rootM (D 0) k)) now (rootM (D 0) k) = true := by
  have hd := root_dir h.good
  have hle := h.le
  have hk1 := h.one
  unfold ndOk
  rw [if_neg (show ¬ (rootM (D 0) k).kind = 0 by simp [rootM]), if_neg (show ¬ (rootM (D 0) k).kind = 1 by simp [rootM]), if_pos (show (rootM (D 0) k).kind = 2 by simp [rootM])]
  unfold dirOk at hd ⊢
  simp only [Bool.and_eq_true] at hd ⊢
  obtain ⟨⟨⟨⟨a1, a2⟩, a3, a4⟩, a5⟩, a6⟩ := hd
  refine ⟨⟨⟨⟨empty_list, names_more a2 hz⟩, ?_, ?_⟩, a5⟩, a6⟩
  · unfold kidsOk
    rw [List.all_eq_true]
    intro j hj
    have hj' : j < (D 0).kn + 1 := by simpa [rootM] using hj
    by_cases e : j < (D 0).kn
    · have := h.good.kids h.good.some e
      rw [show (rootM (D 0) k).kids j = (D 0).kids j from by simp [rootM, e]]
      unfold kidOk
      have h3 := kindM h (x := (k : Int)) (i := ((D 0).kids j).toNat) (by omega)
      simp only [Bool.and_eq_true, decide_eq_true_eq]
      exact ⟨⟨this.1, by omega⟩, by rw [h3]; simpa using this.2.2⟩
    · rw [show (rootM (D 0) k).kids j = k from by simp [rootM, e]]
      have := h.lt
      unfold kidOk
      simp only [Bool.and_eq_true, decide_eq_true_eq]
      exact ⟨⟨by omega, by omega⟩, by rw [show ((k : Int)).toNat = k from by simp, putNd_ne _ _ (by omega)]; simpa using hl⟩
  · simp only [decide_eq_true_eq] at a4 ⊢
    show (D 0).kn + 1 = (D 0).nn + 1
    omega

/-- A file has one name more. -/
theorem Grown.ok (h : Grown n m k D D1 now) (hf : (D1 k).kind = 1) (hz : ∀ i, i < (D 0).nn → Op.bytesLess ((D 0).names i).toList zzz.toList = true) : TreeGood m (putNd D1 0 (rootM (D 0) k)) now := by
  have hle := h.le
  have h1 := h.good.some
  have hk1 := h.one
  have hb := h.good.begun
  refine ⟨by omega, h.few, h.good.begun, h.good.soon, by rw [putNd_same]; rfl, fun i hi => ?_, fun i h1i hi => ?_, fun i h1i hi hk => ?_⟩
  · by_cases e0 : i = 0
    · subst e0; rw [putNd_same]; exact h.root (by rw [hf]; decide) hz
    · rw [putNd_ne _ _ e0]
      by_cases e : i < n
      · rw [h.old i e]
        exact nd_more hle (fun j hj hne => by rw [kindM h hj]; exact hne) (h.good.nodes i e)
      · rw [(h.new i (by omega) hi).2]
        unfold ndOk
        rw [if_neg (show ¬ (leafNd 1 1).kind = 0 by simp [leafNd]), if_pos (show (leafNd 1 1).kind = 1 by simp [leafNd])]
        unfold fileOk leafNd
        have : textOk ByteArray.empty = true := by decide
        simp [this, hb]
  · rw [putNd_ne _ _ (by omega)]
    constructor
    · intro hr
      rcases h.reachTo hf hr with e | ⟨e, hr'⟩
      · subst e; rw [hf]; decide
      · rw [h.old i e]; exact (h.good.reach i h1i e).1 hr'
    · intro hk
      by_cases e : i < n
      · rw [h.old i e] at hk
        exact h.reachOf ((h.good.reach i h1i e).2 hk)
      · obtain ⟨rfl, _⟩ := h.new i (by omega) hi
        exact h.reachNew
  · rw [putNd_ne _ _ (by omega)] at hk
    have hne : i ≠ k := fun e => by subst e; rw [hf] at hk; exact absurd hk (by decide)
    have e : i < n := by
      rcases Nat.lt_or_ge i n with e | e
      · exact e
      · exact absurd (h.new i e hi).1 hne
    rw [h.old i e] at hk
    rw [h.refs_all, h.good.one i h1i e hk, if_neg (by omega)]

/-- A directory has not. -/
theorem Grown.two (h : Grown n n k D D1 now) (hd : (D k).kind = 2) : ¬ TreeGood n (putNd D1 0 (rootM (D 0) k)) now := fun hg => by
  have hk1 := h.one
  have h1 := hg.one k h.one h.lt (by rw [kindM h h.lt]; exact hd)
  rw [h.refs_all, h.good.one k h.one h.lt hd, if_pos rfl] at h1
  omega

/-- A place that is none. -/
theorem none_kid (hg : TreeGood n D now) (hn : n ≤ n) : ¬ TreeGood n (putNd D 0 (rootM (D 0) n)) now := fun h => by
  have := h.kids h.some (j := (D 0).kn) (by rw [putNd_same]; show (D 0).kn < (D 0).kn + 1; omega)
  rw [putNd_same, show (rootM (D 0) n).kids (D 0).kn = n from by simp [rootM]] at this
  omega

theorem zzz_size : zzz.size = 3 := by decide

theorem fits_rootM {n : Nat} {D : Nat → Nd} (h : Fair n D) {z : Int} (hz : 0 ≤ z ∧ z ≤ 99) : FitAll n (putNd D 0 (rootM (D 0) z)) ∧ sizeTo (putNd D 0 (rootM (D 0) z)) n ≤ 1048576 := by
  have h0 := h.each 0 h.some
  have hf := h0.fits
  have h1 := h0.nn
  have h2 := h0.kn
  have h3 : ∀ i, ((rootM (D 0) z).names i).size ≤ 5 ∨ (D 0).nn < i + 1 := fun i => by
    by_cases e : i < (D 0).nn
    · left
      have := (h0.names i e).size
      simp only [rootM, if_pos e]
      omega
    · right; omega
  have h4 : ∀ i, i < (D 0).nn + 1 → ((rootM (D 0) z).names i).size ≤ 5 := fun i hi => by
    by_cases e : i < (D 0).nn
    · exact (h3 i).resolve_right (by omega)
    · simp only [rootM, if_neg e]
      rw [zzz_size]; omega
  refine fits_put h ⟨⟨by simp [rootM], by simp [rootM]⟩, hf.turn, by simp [rootM], fun i hi => ?_, by show (D 0).nn + 1 ≤ maxLen; unfold maxLen; omega, by show (D 0).kn + 1 ≤ maxLen; unfold maxLen; omega, fun i hi => ?_⟩ ?_
  · have := h4 i hi; unfold maxLen; omega
  · by_cases e : i < (D 0).kn
    · simp only [rootM, if_pos e]; exact hf.kids i e
    · simp only [rootM, if_neg e]; unfold In64; omega
  · have h5 := sumTo_le (n := (D 0).nn + 1) (S := (rootM (D 0) z).names) 5 h4 ((D 0).nn + 1) (Nat.le_refl _)
    unfold Nd.size
    show (ByteArray.empty).size + ((D 0).nn + 1) + sumTo (rootM (D 0) z).names ((D 0).nn + 1) + ((D 0).kn + 1) ≤ 1000
    have : (ByteArray.empty).size = 0 := rfl
    omega

/-- Where zzz leads. -/
theorem leadsM {D1 : Nat → Nd} {z : Nat} {S : Nat → ByteArray} (hS : S 0 = zzz) (hkn : (D 0).kn = (D 0).nn) : Leads (putNd D1 0 (rootM (D 0) z)) S 1 z := by
  have := Leads.step (D := putNd D1 0 (rootM (D 0) z)) (S := S) (k := 0) (x := 0) (i := (D 0).nn) Leads.root (by rw [putNd_same]; show (D 0).nn < (D 0).nn + 1; omega) (by rw [putNd_same, hS]; simp [rootM])
  rw [putNd_same, show (rootM (D 0) z).kids (D 0).nn = z from by simp [rootM, hkn]] at this
  simpa using this
end
end Go.Proofs.Ytlikmphjocjmeaa

/-
  'append([]impl.Node{}, t.Nodes...)': a copy of the places of a drawn tree, over the same lists. Plain laws.
-/
namespace Go.Proofs.Ytlikmphjocjmeaa
open Go.RowKit Go.Deep
set_option linter.unusedVariables false

/-- An empty list of places of one's own, made since wr. -/
structure RgE (wr W : World) (e0 : Nat) : Prop where
  bel : Below wr.heap.size wr W
  own : W.ownsRow wr.heap.size 36 5 (.slice (some ⟨e0, 0, none⟩) 0 0) 0 []
  up : wr.heap.size ≤ e0
  lt : e0 < W.heap.size

theorem RgE.alloc {wr W : World} {e0 : Nat} (h : RgE wr W e0) (o : Obj) : RgE wr (W.alloc o) e0 := ⟨h.bel.alloc h.bel.size _, h.own.alloc o, h.up, by have := h.lt; simp; omega⟩

theorem rgE_new {wr W : World} (h : Below wr.heap.size wr W) : RgE wr (W.alloc (.cells #[] 36)) W.heap.size :=
  ⟨h.alloc h.size _, ⟨rfl, Or.inr ⟨W.heap.size, 0, #[], rfl, h.size, blk_alloc_new _ _, Nat.le_refl _, by unfold maxLen; omega, rfl, rfl⟩⟩, h.size, by simp⟩

theorem rgE1 (wr : World) : RgE wr (wr.drew.alloc (.cells #[] 36)) wr.heap.size := rgE_new (below_drewN (Below.refl _ _) 1)
theorem rgE2 (wr : World) (o : Obj) : RgE wr ((wr.drew.alloc o).alloc (.cells #[] 36)) (wr.heap.size + 1) := by
  have := rgE_new ((below_drewN (Below.refl wr.heap.size wr) 1).alloc (Nat.le_refl _) o)
  have e : ((wr.drewN 1).alloc o).heap.size = wr.heap.size + 1 := by simp
  rw [e] at this
  exact this
theorem rgE0 (wr : World) : RgE wr (wr.alloc (.cells #[] 36)) wr.heap.size := rgE_new (Below.refl _ _)

section
variable {W W' : World} {B g cap n : Nat} {D : Nat → Nd} {L : Nat → Loc}

/-- The cells of the row, as they are appended. -/
theorem OwnT.news (h : OwnT W B g cap n D L) : ∃ news : List Value, news.length = n * 5 ∧ (∀ u ∈ news, u.oneCell' = true) ∧ ∀ j, j < n * 5 → news[j]? = W.cell? ⟨g, j, none⟩ := by
  obtain ⟨cur, hb, hcs⟩ := h.blk
  have hr := h.room
  have hl : (cur.toList.take (n * 5)).length = n * 5 := by simp [hcs]; omega
  have hc : ∀ j, j < n * 5 → (cur.toList.take (n * 5))[j]? = W.cell? ⟨g, j, none⟩ := fun j hj => by
    rw [List.getElem?_take_of_lt hj]
    simp [World.cell?, hb]
  refine ⟨_, hl, fun u hu => ?_, hc⟩
  obtain ⟨j, hj, he⟩ := List.getElem_of_mem hu
  rw [hl] at hj
  have h1 := hc j hj
  rw [List.getElem?_eq_getElem (by rw [hl]; exact hj), he] at h1
  obtain ⟨c0, c1, c2, c3, c4⟩ := h.cells (j / 5) (by omega)
  have hj5 : j % 5 = 0 ∨ j % 5 = 1 ∨ j % 5 = 2 ∨ j % 5 = 3 ∨ j % 5 = 4 := by omega
  rcases hj5 with e | e | e | e | e
  · rw [show j = j / 5 * 5 by omega, c0] at h1; cases h1; rfl
  · rw [show j = j / 5 * 5 + 1 by omega, c1] at h1; cases h1; rfl
  · rw [show j = j / 5 * 5 + 2 by omega, c2] at h1; cases h1; rfl
  · rw [show j = j / 5 * 5 + 3 by omega, c3] at h1; cases h1; rfl
  · rw [show j = j / 5 * 5 + 4 by omega, c4] at h1; cases h1; rfl

theorem OwnT.copied (h : OwnT W B g cap n D L) (hB : B ≤ W.heap.size) {news : List Value} (hnews : ∀ j, j < n * 5 → news[j]? = W.cell? ⟨g, j, none⟩) (hbel : Below W.heap.size W W') {g' c' : Nat} (hg' : W.heap.size ≤ g')
    (hown : W'.ownsRow W.heap.size 36 5 (.slice (some ⟨g', 0, none⟩) n c') n news) : OwnT W' B g' c' n D L := by
  rcases hown.2 with ⟨h0, _⟩ | ⟨g2, cap2, cur2, hv, hb2, hblk2, hn2, hm2, hs2, ht2⟩
  · cases h0
  cases hv
  have cell2 : ∀ j, j < n * 5 → W'.cell? ⟨g', j, none⟩ = W.cell? ⟨g, j, none⟩ := fun j hj => by
    rw [← hnews j hj, ← ht2, List.getElem?_take_of_lt hj]
    simp [World.cell?, hblk2]
  have hb := hbel.size
  refine ⟨⟨cur2, hblk2, hs2⟩, by omega, hn2, hm2, fun i hi => ?_, fun i hi => ?_⟩
  · rw [cell2 _ (by omega), cell2 _ (by omega), cell2 _ (by omega), cell2 _ (by omega), cell2 _ (by omega)]
    exact h.cells i hi
  · obtain ⟨h1, h3, h4⟩ := h.lists i hi
    exact ⟨h1.below (Nat.le_refl _) hbel, fun b o x e => by have := h3 b o x e; omega, fun b o x e => by have := h4 b o x e; omega⟩
end

theorem infoNode' : (Try.prog.info? 36).map (fun i => (i.zero, i.size, i.bytes)) = some (some (.agg #[.int .i64 0, .string ByteArray.empty, .slice none 0 0, .slice none 0 0, .int .i64 0]), 5, 80) := by kernel_rfl

/-- The append, at a step of a drawn region. -/
theorem copy_step {ops : Array Oper} {o : Oper} {a : Act} {K : Act → World → Prop} {Q : Exit → Act → World → Prop} {E : Prop} {wr WA : World} {e0 : Nat} (hgd : o.guard = none) (s x : Operand) (ho : o.op = .call { callee := .builtin .append, args := #[s, x], argTypes := #[23, 23] }) (hA : RgE wr WA e0)
    {B g cap n : Nat} {D : Nat → Nd} {L : Nat → Loc} (h : OwnT wr B g cap n D L) (hB : B ≤ wr.heap.size) (hn : n ≤ 1000) (hn1 : 1 ≤ n) (hs : a.eval s = .slice (some ⟨e0, 0, none⟩) 0 0) (hx : a.eval x = .slice (some ⟨g, 0, none⟩) n cap)
    (k : ∀ g' c' w', OwnT w' B g' c' n D L → wr.heap.size ≤ g' → Below wr.heap.size wr w' → WA.grownBy w' (some e0) → (g' = e0 ∨ WA.heap.size ≤ g') → K (a.put o.dst (.slice (some ⟨g', 0, none⟩) n c')) w') : if Region.wanted o (yielded ops a.tmps) = true then Oper.wp Try.prog o a WA K Q else E := by
  obtain ⟨i0, hi0, hz0, hz1, hz2⟩ := info_parts infoNode'
  obtain ⟨news, hl, h1, hc⟩ := h.news
  have hsz := hA.bel.size
  have hlt := h.lt
  have hw : Region.wanted o (yielded ops a.tmps) = true := by simp [Region.wanted, hgd]
  rw [if_pos hw]
  refine wp_append_lies WA s x 23 ho wr.heap.size 36 i0 _ 5 80 Try.underlying23 hi0 hz0 hz1 hz2 rfl (by decide) (.slice (some ⟨e0, 0, none⟩) 0 0) 0 [] hs hA.own ⟨g, 0, none⟩ n cap news hx hl (fun j u hu => ?_) h1 (by omega) (by unfold maxLen; omega) (by omega) hsz WA.heap.size rfl ?_
  · have hj : j < n * 5 := by
      rcases Nat.lt_or_ge j (n * 5) with e | e
      · exact e
      · rw [List.getElem?_eq_none (by omega)] at hu; cases hu
    rw [hc j hj] at hu
    rw [show (⟨g, 0, none⟩ : Addr).add j = ⟨g, j, none⟩ by unfold Addr.add; split <;> simp_all]
    exact (hA.bel.cell (p := ⟨g, j, none⟩) hlt).trans hu
  · intro g' c' w' hown hgrow hat hlt'
    have hgr : WA.grownBy w' (some e0) := by simpa [Value.ownBlock] using hgrow
    have hup := hA.up
    have hbel : Below wr.heap.size wr w' := hA.bel.grown hgr hsz (fun b e => by simp at e; omega)
    have hg' : wr.heap.size ≤ g' := by
      rcases hat with e | e
      · simp [Value.ownBlock] at e; omega
      · omega
    simp only [Nat.zero_add, List.nil_append] at hown
    have := k g' c' w' (h.copied hB hc hbel hg' hown) hg' hbel hgr (hat.elim (fun e => Or.inl (by simpa [Value.ownBlock] using e.symm)) (fun e => Or.inr (by omega)))
    simpa using this
end Go.Proofs.Ytlikmphjocjmeaa

/-
  A copy of a drawn tree in a variable, with free places more. Plain facts.
-/
namespace Go.Proofs.Ytlikmphjocjmeaa
open Go.RowKit Go.Deep
set_option linter.unusedVariables false

def padL (L : Nat → Loc) (n : Nat) : Nat → Loc := fun i => if i < n then L i else loc00

theorem OwnT.congr {W : World} {B g cap n : Nat} {D D' : Nat → Nd} {L L' : Nat → Loc} (h : OwnT W B g cap n D L) (hd : ∀ i, i < n → D' i = D i) (hl : ∀ i, i < n → L' i = L i) : OwnT W B g cap n D' L' :=
  ⟨h.blk, h.base, h.room, h.most, fun i hi => by rw [hd i hi, hl i hi]; exact h.cells i hi, fun i hi => by rw [hd i hi, hl i hi]; exact h.lists i hi⟩

/-- What is known of the copy x, which lies in block X: k places. -/
structure InX (w W4 : World) (X g' c' n k : Nat) (D : Nat → Nd) (L : Nat → Loc) (now : Int) (W : World) : Prop where
  bel : Below W4.heap.size W4 W
  x : Blk W X #[.slice (some ⟨g', 0, none⟩) k c', .int .i64 now] 25
  own : OwnT W w.heap.size g' c' k (padT D n) (padL L n)
  far : W4.heap.size ≤ X ∧ W4.heap.size ≤ g' ∧ g' ≠ X
  low : ∀ i, i < n → (∀ b o y, (L i).nA = some ⟨b, o, y⟩ → b < W4.heap.size) ∧ (∀ b o y, (L i).kA = some ⟨b, o, y⟩ → b < W4.heap.size)

theorem InX.away {w W4 : World} {X g' c' n k : Nat} {D : Nat → Nd} {L : Nat → Loc} {now : Int} {W : World} (h : InX w W4 X g' c' n k D L now W) : Away (fun b => b = X) g' k (padL L n) :=
  ⟨h.far.2.2, fun i hi => by
    unfold padL
    by_cases e : i < n
    · rw [if_pos e]
      exact ⟨fun b o y e1 e2 => by have := (h.low i e).1 b o y e1; have := h.far.1; omega, fun b o y e1 e2 => by have := (h.low i e).2 b o y e1; have := h.far.1; omega⟩
    · rw [if_neg e]
      exact ⟨fun b o y e1 => by simp [loc00] at e1, fun b o y e1 => by simp [loc00] at e1⟩⟩

/-- The copy has been made. -/
theorem InX.start {w W4 w7 W : World} {X g g' c c' n : Nat} {D : Nat → Nd} {L : Nat → Loc} {now : Int} (h4 : OwnT W4 w.heap.size g c n D L) (h7 : OwnT w7 w.heap.size g' c' n D L) (hg7 : W4.heap.size ≤ g') (hb : Below W4.heap.size W4 w7) (hX : W4.heap.size ≤ X) (hgX : g' ≠ X)
    (hs : w7.heap.size ≤ W.heap.size) (hW : ∀ b, b < w7.heap.size → b ≠ X → W.heap[b]? = w7.heap[b]?) (hos : W.os = w7.os ∧ W.tape = w7.tape ∧ W.output = w7.output) (hx : Blk W X #[.slice (some ⟨g', 0, none⟩) n c', .int .i64 now] 25) : InX w W4 X g' c' n n D L now W := by
  have hlow : ∀ i, i < n → (∀ b o y, (L i).nA = some ⟨b, o, y⟩ → b < W4.heap.size) ∧ (∀ b o y, (L i).kA = some ⟨b, o, y⟩ → b < W4.heap.size) := fun i hi => ⟨fun b o y e => ((h4.lists i hi).2.1 b o y e).2.2, fun b o y e => ((h4.lists i hi).2.2 b o y e).2.2⟩
  have hsz := hb.size
  have ha : Away (fun b => b = X) g' n L := ⟨hgX, fun i hi => ⟨fun b o y e e2 => by have := (hlow i hi).1 b o y e; omega, fun b o y e e2 => by have := (hlow i hi).2 b o y e; omega⟩⟩
  refine ⟨⟨hos.1.trans hb.os, hos.2.1.trans hb.tape, hos.2.2.trans hb.output, by omega, fun k hk => (hW k (by omega) (by omega)).trans (hb.block k hk)⟩, hx, ?_, ⟨hX, hg7, hgX⟩, hlow⟩
  exact (h7.other ha hs (fun b h1 h2 h3 => hW b h2 h3)).congr (fun i hi => pad_lt D hi) (fun i hi => by simp [padL, hi])


/-- A free place more: t.Nodes is appended to and written. -/
theorem InX.more {w W4 : World} {X g' c' n k : Nat} {D : Nat → Nd} {L : Nat → Loc} {now : Int} {W W' : World} (h : InX w W4 X g' c' n k D L now W) (hk : n ≤ k) {cur : Array Value} (hc : W.heap[g']? = some (.cells cur 36 (0, 0))) (hs : cur.size = c' * 5) {g2 c2 : Nat}
    (hown : W'.ownsRow w.heap.size 36 5 (.slice (some ⟨g2, 0, none⟩) (k + 1) c2) (k + 1) (cur.toList.take (k * 5) ++ leafCells 0 0)) (hgrow : W.grownBy W' (some g')) (hat : g' = g2 ∨ W.heap.size ≤ g2) :
    InX w W4 X g2 c2 n (k + 1) D L now (W'.setCell ⟨X, 0, none⟩ (.slice (some ⟨g2, 0, none⟩) (k + 1) c2)) := by
  have hf := h.far
  have hsz := h.bel.size
  have hxl := h.x.lt
  have hgl := h.own.lt
  have ho := h.own.appL hc hs hown hgrow hat
  have eD : putNd (padT D n) k (leafNd 0 0) = padT D n := by
    funext j
    by_cases e : j = k
    · subst e; rw [putNd_same, pad_ge D hk]
    · rw [putNd_ne _ _ e]
  have eL : putLoc (padL L n) k loc00 = padL L n := by
    funext j
    by_cases e : j = k
    · subst e; simp [putLoc, padL, Nat.not_lt.2 hk]
    · simp [putLoc, e]
  rw [eD, eL] at ho
  have hb : ∀ b, b < W.heap.size → b ≠ g' → W'.heap[b]? = W.heap[b]? := fun b h1 h2 => hgrow.block b h1 (by simpa using h2)
  have hf2 : W4.heap.size ≤ g2 ∧ g2 ≠ X := by rcases hat with e | e <;> omega
  have ha : Away (fun b => b = X) g2 (k + 1) (padL L n) := ⟨hf2.2, fun i hi => by
    unfold padL
    by_cases e : i < n
    · rw [if_pos e]
      exact ⟨fun b o y e1 e2 => by have := (h.low i e).1 b o y e1; omega, fun b o y e1 e2 => by have := (h.low i e).2 b o y e1; omega⟩
    · rw [if_neg e]
      exact ⟨fun b o y e1 => by simp [loc00] at e1, fun b o y e1 => by simp [loc00] at e1⟩⟩
  refine ⟨?_, (h.x.of_block (hb X hxl (Ne.symm hf.2.2))).set 0 _, ho.setOther ha rfl _ _, ⟨hf.1, hf2.1, hf2.2⟩, h.low⟩
  have hg2 := hgrow.size
  exact bel_put (h.bel.grown hgrow hsz (fun b e => by simp at e; omega)) _ hf.1

theorem InX.below {w W4 : World} {X g' c' n k : Nat} {D : Nat → Nd} {L : Nat → Loc} {now : Int} {W W' : World} (h : InX w W4 X g' c' n k D L now W) (hb : Below W.heap.size W W') : InX w W4 X g' c' n k D L now W' :=
  ⟨h.bel.trans (hb.mono h.bel.size), h.x.below hb h.x.lt, h.own.below hb, h.far, h.low⟩

theorem leaf0_fair : FairNd (leafNd 0 0) := ⟨Nat.zero_le _, Nat.zero_le _, fun j hj => absurd hj (Nat.not_lt_zero _), fun j hj => absurd hj (Nat.not_lt_zero _), by simp [leafNd], by simp [leafNd], by simp [leafNd]⟩

theorem pad_fair {n m : Nat} {D : Nat → Nd} (h : Fair n D) (hm : 1 ≤ m) (h11 : m ≤ 11) : Fair m (padT D n) := ⟨hm, h11, fun i hi => by
  by_cases e : i < n
  · rw [pad_lt D e]; exact h.each i e
  · rw [pad_ge D (by omega)]; exact leaf0_fair⟩

theorem pad_none {n : Nat} {D : Nat → Nd} {now : Int} (hg : TreeGood n D now) (h : n ≤ 10) : refsTo (padT D n) (n : Nat) 10 = 0 := by
  obtain ⟨k, hk⟩ : ∃ k, 10 = n + k := ⟨10 - n, by omega⟩
  rw [hk, pad_refs_more k]
  exact refsTo_zero n fun i hi j hj e => by have := (hg.kids hi hj).2.1; omega
end Go.Proofs.Ytlikmphjocjmeaa

/-
  A copy of a drawn tree in a variable, that is then written into. Plain facts.
-/
namespace Go.Proofs.Ytlikmphjocjmeaa
open Go.RowKit Go.Deep
set_option linter.unusedVariables false

/-- What is known of a copy, which lies in block X; W4 is the world that it was made in. -/
structure InC (w W4 : World) (X g c n : Nat) (D : Nat → Nd) (L : Nat → Loc) (now : Int) (W : World) : Prop where
  bel : Below W4.heap.size W4 W
  x : Blk W X #[.slice (some ⟨g, 0, none⟩) n c, .int .i64 now] 25
  own : OwnT W w.heap.size g c n D L
  far : W4.heap.size ≤ X ∧ W4.heap.size ≤ g ∧ g ≠ X

section
variable {w W4 : World} {X g c n : Nat} {D D' : Nat → Nd} {L L' : Nat → Loc} {now : Int} {W W' : World}

theorem InX.inC (h : InX w W4 X g c n n D L now W) : InC w W4 X g c n D L now W :=
  ⟨h.bel, h.x, h.own.congr (fun i hi => (pad_lt D hi).symm) (fun i hi => by simp [padL, hi]), h.far⟩

theorem InC.below (h : InC w W4 X g c n D L now W) (hb : Below W.heap.size W W') : InC w W4 X g c n D L now W' :=
  ⟨h.bel.trans (hb.mono h.bel.size), h.x.below hb h.x.lt, h.own.below hb, h.far⟩

theorem InC.put (h : InC w W4 X g c n D L now W) {k : Nat} {v : Value} (ho : OwnT (W.setCell ⟨g, k, none⟩ v) w.heap.size g c n D' L') : InC w W4 X g c n D' L' now (W.setCell ⟨g, k, none⟩ v) :=
  ⟨bel_put h.bel v h.far.2.1, h.x.off v (Ne.symm h.far.2.2), ho, h.far⟩

theorem InC.putNode (h : InC w W4 X g c n D L now W) {i : Nat} (hi : i < n) (d : Nd) (l : Loc) (hd : NdIn W d l) (hn : Off W w.heap.size g l.nA) (hk : Off W w.heap.size g l.kA) :
    InC w W4 X g c n (putNd D i d) (putLoc L i l) now (((((W.setCell ⟨g, i * 5, none⟩ (.int .i64 d.kind)).setCell ⟨g, i * 5 + 1, none⟩ (.string d.text)).setCell ⟨g, i * 5 + 2, none⟩ (.slice l.nA d.nn l.nc)).setCell ⟨g, i * 5 + 3, none⟩ (.slice l.kA d.kn l.kc)).setCell ⟨g, i * 5 + 4, none⟩ (.int .i64 d.turn)) :=
  have hX := Ne.symm h.far.2.2
  have hg := h.far.2.1
  ⟨bel_put (bel_put (bel_put (bel_put (bel_put h.bel _ hg) _ hg) _ hg) _ hg) _ hg, ((((h.x.off _ hX).off _ hX).off _ hX).off _ hX).off _ hX, h.own.setNode hi d l hd hn hk, h.far⟩

/-- A file of nothing in the place of a node. -/
theorem InC.putFile (h : InC w W4 X g c n D L now W) (hn1 : 1 ≤ n) : InC w W4 X g c n (putNd D 0 (leafNd 1 1)) (putLoc L 0 loc00) now (((((W.setCell ⟨g, 0, none⟩ (.int .i64 1)).setCell ⟨g, 1, none⟩ (.string ⟨#[]⟩)).setCell ⟨g, 2, none⟩ (.slice none 0 0)).setCell ⟨g, 3, none⟩ (.slice none 0 0)).setCell ⟨g, 4, none⟩ (.int .i64 1)) :=
  h.putNode (i := 0) hn1 (leafNd 1 1) loc00 ⟨Or.inl rfl, Or.inl rfl⟩ (fun b o x e => by simp [loc00] at e) (fun b o x e => by simp [loc00] at e)

theorem InC.alloc (h : InC w W4 X g c n D L now W) (o : Obj) : InC w W4 X g c n D L now (W.alloc o) := h.below ((Below.refl _ _).alloc (Nat.le_refl _) _)

theorem InC.drew (h : InC w W4 X g c n D L now W) (k : Nat) : InC w W4 X g c n D L now (W.drewN k) := h.below (below_drewN (Below.refl _ _) k)

/-- What comes later, seen from the world that the copy was made in. -/
theorem InC.since (h : InC w W4 X g c n D L now W) (hb : Below W.heap.size W W') : Below W4.heap.size W4 W' := h.bel.trans (hb.mono h.bel.size)
end

theorem blk_second (W4 : World) : Blk ((W4.drew.alloc (.cells #[] 36)).alloc (.cells #[.slice none 0 0, .int .i64 0] 25)) (W4.heap.size + 1) #[.slice none 0 0, .int .i64 0] 25 := by
  have := Blk.new (W4.drew.alloc (.cells #[] 36)) #[.slice none 0 0, .int .i64 0] 25
  have e : (W4.drew.alloc (.cells #[] 36)).heap.size = W4.heap.size + 1 := by simp
  rwa [e] at this

/-- A list of operations is walked at a world of which no more is said than this. -/
theorem wpList_world {P : Program} {ops : Array Oper} {l : List Oper} {a : Act} {Q : Exit → Act → World → Prop} {F : World → Prop} {w : World} (h : F w) (g : ∀ W, F W → wpList P ops Q l a W) : wpList P ops Q l a w := g w h

/-- The append of a copy, in a plain list of operations. -/
theorem copy_list {ops : Array Oper} {rest : List Oper} {o : Oper} {a : Act} {Q : Exit → Act → World → Prop} {wr WA : World} {e0 : Nat} (hgd : o.guard = none) (s x : Operand) (ho : o.op = .call { callee := .builtin .append, args := #[s, x], argTypes := #[23, 23] }) (hA : RgE wr WA e0)
    {B g cap n : Nat} {D : Nat → Nd} {L : Nat → Loc} (h : OwnT wr B g cap n D L) (hB : B ≤ wr.heap.size) (hn : n ≤ 1000) (hn1 : 1 ≤ n) (hs : a.eval s = .slice (some ⟨e0, 0, none⟩) 0 0) (hx : a.eval x = .slice (some ⟨g, 0, none⟩) n cap)
    (k : ∀ g' c' w', OwnT w' B g' c' n D L → wr.heap.size ≤ g' → Below wr.heap.size wr w' → WA.grownBy w' (some e0) → (g' = e0 ∨ WA.heap.size ≤ g') → wpList Try.prog ops Q rest (a.put o.dst (.slice (some ⟨g', 0, none⟩) n c')) w') : wpList Try.prog ops Q (o :: rest) a WA :=
  wpList_plain hgd fun K hK => by
    have hw : Region.wanted o (yielded ops a.tmps) = true := by simp [Region.wanted, hgd]
    have := copy_step (ops := ops) (K := K) (Q := Q) (E := True) hgd s x ho hA h hB hn hn1 hs hx (fun g' c' w' h1 h2 h3 h4 h5 => hK _ _ (k g' c' w' h1 h2 h3 h4 h5))
    rwa [if_pos hw] at this
end Go.Proofs.Ytlikmphjocjmeaa

/-
  Trees made of rows of places in one statement: single operations, and plain facts of a tree with a place more.
-/
namespace Go.Proofs.Ytlikmphjocjmeaa
open Go.RowKit Go.Deep
set_option linter.unusedVariables false

section
variable {d : Nat} {ty : TypeId} {pos : String} {af : Array Edge} {gd : Option (Nat × Bool)} {a : Act} {w : World} {K : Act → World → Prop} {Q : Exit → Act → World → Prop}

theorem wp_allocNode (h : K (a.put (some d) (.pointer (some ⟨w.heap.size, 0, none⟩))) (w.alloc (.cells #[.int .i64 0, .string ByteArray.empty, .slice none 0 0, .slice none 0 0, .int .i64 0] 36))) : Oper.wp Try.prog ⟨some d, .alloc 36, ty, pos, af, gd⟩ a w K Q := by
  go_simp
  exact h

theorem wp_allocTree (h : K (a.put (some d) (.pointer (some ⟨w.heap.size, 0, none⟩))) (w.alloc (.cells #[.slice none 0 0, .int .i64 0] 25))) : Oper.wp Try.prog ⟨some d, .alloc 25, ty, pos, af, gd⟩ a w K Q := by
  go_simp
  exact h

theorem wp_nodes0 (h : K (a.put (some d) (.slice (some ⟨w.heap.size, 0, none⟩) 0 0)) (w.alloc (.cells #[] 36))) : Oper.wp Try.prog ⟨some d, .buildSlice 23 0 #[], ty, pos, af, gd⟩ a w K Q := by
  go_simp
  exact h

theorem wp_nodes1 {t : Nat} {k z : Int} {s : ByteArray} {na ka : Option Addr} {nn nc kn kc : Nat} (hx : a.eval (.tmp t) = .agg #[.int .i64 k, .string s, .slice na nn nc, .slice ka kn kc, .int .i64 z]) (h : K (a.put (some d) (.slice (some ⟨w.heap.size, 0, none⟩) 1 1)) (w.alloc (.cells #[.int .i64 k, .string s, .slice na nn nc, .slice ka kn kc, .int .i64 z] 36))) : Oper.wp Try.prog ⟨some d, .buildSlice 23 1 #[(0, .tmp t)], ty, pos, af, gd⟩ a w K Q := by
  have hx' := eval_tmp hx
  go_simp
  exact h

theorem wp_tree2 {p q : Nat} {xa : Option Addr} {xn xc : Nat} {z : Int} (hp : a.eval (.tmp p) = .slice xa xn xc) (hq : a.eval (.tmp q) = .int .i64 z) (h : K (a.put (some d) (.agg #[.slice xa xn xc, .int .i64 z])) w) : Oper.wp Try.prog ⟨some d, .build 25 #[(0, .tmp p), (1, .tmp q)], ty, pos, af, gd⟩ a w K Q := by
  have hp' := eval_tmp hp
  have hq' := eval_tmp hq
  go_simp
  exact h
end

/-- A file of nothing behind the first n. -/
def filT (D : Nat → Nd) (n : Nat) : Nat → Nd := fun i => if i < n then D i else leafNd 1 1

theorem fil_lt (D : Nat → Nd) {n i : Nat} (h : i < n) : filT D n i = D i := by simp [filT, h]
theorem fil_ge (D : Nat → Nd) {n i : Nat} (h : n ≤ i) : filT D n i = leafNd 1 1 := by simp [filT, Nat.not_lt.2 h]

theorem leaf_fairK (k z : Int) (hk : 0 ≤ k ∧ k ≤ 3) (hz : -1 ≤ z ∧ z ≤ 1001) : FairNd (leafNd k z) :=
  ⟨Nat.zero_le _, Nat.zero_le _, fun j hj => absurd hj (Nat.not_lt_zero _), fun j hj => absurd hj (Nat.not_lt_zero _), Nat.zero_le _, hk, hz⟩

section
variable {n : Nat} {D : Nat → Nd} {now : Int}

theorem fil_fair (h : Fair n D) (hn : n ≤ 10) : Fair (n + 1) (filT D n) := ⟨by omega, by omega, fun i hi => by
  by_cases e : i < n
  · rw [fil_lt D e]; exact h.each i e
  · rw [fil_ge D (by omega)]; exact leaf_fairK 1 1 (by omega) (by omega)⟩

theorem pad_fair1 (h : Fair n D) (hn : n ≤ 10) : Fair (n + 1) (padT D n) := ⟨by omega, by omega, fun i hi => by
  by_cases e : i < n
  · rw [pad_lt D e]; exact h.each i e
  · rw [pad_ge D (by omega)]; exact leaf_fairK 0 0 (by omega) (by omega)⟩

theorem fil_reach (hg : TreeGood n D now) {m i : Nat} (h : Reach m (filT D n) i) : i < n := by
  induction h with
  | root => exact hg.some
  | step hr hi hj ih =>
    rw [fil_lt D ih] at hj ⊢
    have hk := hg.kids ih hj
    omega

theorem fil_not (hg : TreeGood n D now) : ¬ TreeGood (n + 1) (filT D n) now := fun h => by
  have h1 := hg.some
  have := fil_reach hg ((h.reach n h1 (by omega)).2 (by rw [fil_ge D (Nat.le_refl n)]; simp [leafNd]))
  omega

theorem nm_less {s : ByteArray} (h : Nm s) : Op.bytesLess s.toList zzz.toList = true := by
  have key : ∀ t ∈ nmL, Op.bytesLess t.data.toList zzz.data.toList = true := by decide
  rw [ByteArray.toList_eq, ByteArray.toList_eq]
  exact key s h

theorem fil_good (hg : TreeGood n D now) (hn : n < 10) (hf : Fair n D) : TreeGood (n + 1) (putNd (filT D n) 0 (rootM (D 0) n)) now := by
  have h1 := hg.some
  exact (Grown.mk hg (by omega) (by omega) (fun i hi => fil_lt D hi) (fun i h1 h2 => ⟨by omega, fil_ge D h1⟩) (by omega) (by omega) : Grown n (n + 1) n D (filT D n) now).ok (by rw [fil_ge D (Nat.le_refl n)]; rfl) (fun i hi => nm_less ((hf.each 0 h1).names i hi))
end

theorem leaf_nd5 (k z : Int) : nd5 (leafNd k z) loc00 = [.int .i64 k, .string ByteArray.empty, .slice none 0 0, .slice none 0 0, .int .i64 z] := rfl

theorem NdIn.leaf {w : World} (k z : Int) : NdIn w (leafNd k z) loc00 := ⟨Or.inl rfl, Or.inl rfl⟩

/-- What is known of a node that is in a variable R and has lists in blocks x and y of its own. -/
structure InR (w : World) (R : Nat) (d : Nd) (x cx y cy : Nat) (W : World) : Prop where
  nd : NdIn W d ⟨some ⟨x, 0, none⟩, cx, some ⟨y, 0, none⟩, cy⟩
  r : Blk W R #[.int .i64 d.kind, .string d.text, .slice (some ⟨x, 0, none⟩) d.nn cx, .slice (some ⟨y, 0, none⟩) d.kn cy, .int .i64 d.turn] 36
  far : w.heap.size ≤ x ∧ w.heap.size ≤ y ∧ x < W.heap.size ∧ y < W.heap.size

theorem InR.below {w W W' : World} {R x cx y cy : Nat} {d : Nd} (h : InR w R d x cx y cy W) (hb : Below W.heap.size W W') : InR w R d x cx y cy W' := by
  have h1 := hb.size
  obtain ⟨a1, a2, a3, a4⟩ := h.far
  exact ⟨h.nd.below (Nat.le_refl _) hb, h.r.below hb h.r.lt, a1, a2, by omega, by omega⟩
theorem putLoc_same (L : Nat → Loc) (i : Nat) (l : Loc) : putLoc L i l i = l := by simp [putLoc]
theorem putLoc_ne (L : Nat → Loc) {i j : Nat} (l : Loc) (h : j ≠ i) : putLoc L i l j = L j := by simp [putLoc, h]

theorem NdIn.put5 {w : World} {d : Nd} {x cx y cy : Nat} (h : NdIn w d ⟨some ⟨x, 0, none⟩, cx, some ⟨y, 0, none⟩, cy⟩) {R i : Nat} (hx : x ≠ R) (hy : y ≠ R) (v : Value) : NdIn (w.setCell ⟨R, i, none⟩ v) d ⟨some ⟨x, 0, none⟩, cx, some ⟨y, 0, none⟩, cy⟩ := ⟨h.1.off v hx, h.2.off v hy⟩

theorem owns_off {w : World} {B : Nat} {e : TypeId} {size g n c : Nat} {xs : List Value} (h : w.ownsRow B e size (.slice (some ⟨g, 0, none⟩) n c) n xs) {X i : Nat} (hX : g ≠ X) (v : Value) : (w.setCell ⟨X, i, none⟩ v).ownsRow B e size (.slice (some ⟨g, 0, none⟩) n c) n xs := by
  refine ⟨h.1, ?_⟩
  rcases h.2 with ⟨h0, _⟩ | ⟨g2, cap2, cur2, hv, hb, hg, hr⟩
  · cases h0
  · cases hv
    exact Or.inr ⟨g, c, cur2, rfl, hb, (blk_setCell_other _ _ _ _ hX).trans hg, hr⟩

section
variable {W W' : World} {B g g' c n : Nat} {D : Nat → Nd} {L : Nat → Loc} {d : Nd} {l : Loc}

theorem lists_old (h : OwnT W B g c n D L) (hb : Below W.heap.size W W') (hg : W.heap.size ≤ g') {i : Nat} (hi : i < n) : NdIn W' (D i) (L i) ∧ Off W' B g' (L i).nA ∧ Off W' B g' (L i).kA := by
  obtain ⟨h1, h2, h3⟩ := h.lists i hi
  have hs := hb.size
  refine ⟨h1.below (Nat.le_refl _) hb, fun b o x e => ?_, fun b o x e => ?_⟩
  · have := h2 b o x e; exact ⟨by omega, by omega, by omega⟩
  · have := h3 b o x e; exact ⟨by omega, by omega, by omega⟩

theorem lists_new {w : World} {R x cx y cy : Nat} (h : InR w R d x cx y cy W) (hb : Below W.heap.size W W') (hg : W.heap.size ≤ g') : NdIn W' d ⟨some ⟨x, 0, none⟩, cx, some ⟨y, 0, none⟩, cy⟩ ∧ Off W' w.heap.size g' (some ⟨x, 0, none⟩) ∧ Off W' w.heap.size g' (some ⟨y, 0, none⟩) := by
  obtain ⟨a1, a2, a3, a4⟩ := h.far
  have hs := hb.size
  refine ⟨h.nd.below (Nat.le_refl _) hb, fun b o x e => ?_, fun b o x e => ?_⟩
  · cases e; exact ⟨by omega, by omega, by omega⟩
  · cases e; exact ⟨by omega, by omega, by omega⟩

theorem lists_leaf (k z : Int) : NdIn W' (leafNd k z) loc00 ∧ Off W' B g' (loc00).nA ∧ Off W' B g' (loc00).kA := ⟨⟨Or.inl rfl, Or.inl rfl⟩, fun b o x e => by simp [loc00] at e, fun b o x e => by simp [loc00] at e⟩

theorem lists_root {w : World} {R x cx y cy : Nat} (h : OwnT W w.heap.size g c n D L) (hr : InR w R d x cx y cy W) (hb : Below W.heap.size W W') (hg : W.heap.size ≤ g') : ∀ i, i < n → NdIn W' (putNd D 0 d i) (putLoc L 0 ⟨some ⟨x, 0, none⟩, cx, some ⟨y, 0, none⟩, cy⟩ i) ∧ Off W' w.heap.size g' (putLoc L 0 ⟨some ⟨x, 0, none⟩, cx, some ⟨y, 0, none⟩, cy⟩ i).nA ∧ Off W' w.heap.size g' (putLoc L 0 ⟨some ⟨x, 0, none⟩, cx, some ⟨y, 0, none⟩, cy⟩ i).kA := fun i hi => by
  by_cases e : i = 0
  · subst e
    rw [putNd_same, putLoc_same]
    exact lists_new hr hb hg
  · rw [putNd_ne _ _ e, putLoc_ne _ _ e]
    exact lists_old h hb hg hi

theorem lists_file (h : OwnT W B g c n D L) (hb : Below W.heap.size W W') (hg : W.heap.size ≤ g') : ∀ i, i < n + 1 → NdIn W' (filT D n i) (padL L n i) ∧ Off W' B g' (padL L n i).nA ∧ Off W' B g' (padL L n i).kA := fun i hi => by
  by_cases e : i < n
  · rw [fil_lt D e, show padL L n i = L i from by simp [padL, e]]
    exact lists_old h hb hg e
  · rw [fil_ge D (by omega), show padL L n i = loc00 from by simp [padL, e]]
    exact lists_leaf 1 1

theorem lists_free (h : OwnT W B g c n D L) (hb : Below W.heap.size W W') (hg : W.heap.size ≤ g') : ∀ i, i < n + 1 → NdIn W' (padT D n i) (padL L n i) ∧ Off W' B g' (padL L n i).nA ∧ Off W' B g' (padL L n i).kA := fun i hi => by
  by_cases e : i < n
  · rw [pad_lt D e, show padL L n i = L i from by simp [padL, e]]
    exact lists_old h hb hg e
  · rw [pad_ge D (by omega), show padL L n i = loc00 from by simp [padL, e]]
    exact lists_leaf 0 0

theorem lists_rootfile {w : World} {R x cx y cy : Nat} (h : OwnT W w.heap.size g c n D L) (hr : InR w R d x cx y cy W) (hb : Below W.heap.size W W') (hg : W.heap.size ≤ g') : ∀ i, i < n + 1 → NdIn W' (putNd (filT D n) 0 d i) (putLoc (padL L n) 0 ⟨some ⟨x, 0, none⟩, cx, some ⟨y, 0, none⟩, cy⟩ i) ∧ Off W' w.heap.size g' (putLoc (padL L n) 0 ⟨some ⟨x, 0, none⟩, cx, some ⟨y, 0, none⟩, cy⟩ i).nA ∧ Off W' w.heap.size g' (putLoc (padL L n) 0 ⟨some ⟨x, 0, none⟩, cx, some ⟨y, 0, none⟩, cy⟩ i).kA := fun i hi => by
  by_cases e : i = 0
  · subst e
    rw [putNd_same, putLoc_same]
    exact lists_new hr hb hg
  · rw [putNd_ne _ _ e, putLoc_ne _ _ e]
    exact lists_file h hb hg i hi

/-- All places but the first, as they are appended. -/
theorem src_tail {cap : Nat} (h : OwnT W B g cap n D L) (hn : 1 ≤ n) : Src W 5 (.slice (if cap = 1 then some ⟨g, 0, none⟩ else some ⟨g, 5, none⟩) (n - 1) (cap - 1)) (n - 1) (rowsOf D L 1 (n - 1)) := by
  have hr := h.room
  by_cases e : cap = 1
  · obtain rfl : n = 1 := by omega
    rw [if_pos e]
    exact h.srcFrom 0 0 (cap - 1) (by omega)
  · rw [if_neg e]
    exact h.srcFrom 1 (n - 1) (cap - 1) (by omega)

theorem src_blk {cap x y H : Nat} {ad : Addr} {m c' : Nat} (e : Value.slice (if cap = 1 then some ⟨g, 0, none⟩ else some ⟨g, 5, none⟩) x y = .slice (some ad) m c') (h : g < H) : ad.block < H := by
  split at e <;> (cases e; exact h)

theorem rows_root (hn : 1 ≤ n) (D : Nat → Nd) (L : Nat → Loc) : rowsOf (putNd D 0 d) (putLoc L 0 l) 0 n = nd5 d l ++ rowsOf D L 1 (n - 1) := by
  obtain ⟨m, rfl⟩ : ∃ m, n = m + 1 := ⟨n - 1, by omega⟩
  rw [rows_cons, putNd_same, putLoc_same, Nat.add_sub_cancel]
  congr 1
  exact rows_ext m fun i hi => ⟨putNd_ne _ _ (by omega), putLoc_ne _ _ (by omega)⟩

theorem rows_file (D : Nat → Nd) (L : Nat → Loc) : rowsOf (filT D n) (padL L n) 0 (n + 1) = rowsOf D L 0 n ++ nd5 (leafNd 1 1) loc00 := by
  rw [rowsOf, Nat.zero_add, fil_ge D (Nat.le_refl n), show padL L n n = loc00 from by simp [padL]]
  congr 1
  exact rows_ext n fun i hi => ⟨fil_lt D (by omega), by simp [padL, hi]⟩

theorem rows_free (D : Nat → Nd) (L : Nat → Loc) : rowsOf (padT D n) (padL L n) 0 (n + 1) = rowsOf D L 0 n ++ nd5 (leafNd 0 0) loc00 := by
  rw [rowsOf, Nat.zero_add, pad_ge D (Nat.le_refl n), show padL L n n = loc00 from by simp [padL]]
  congr 1
  exact rows_ext n fun i hi => ⟨pad_lt D (by omega), by simp [padL, hi]⟩

theorem rows_rootfile (hn : 1 ≤ n) (D : Nat → Nd) (L : Nat → Loc) : rowsOf (putNd (filT D n) 0 d) (putLoc (padL L n) 0 l) 0 (n + 1) = (nd5 d l ++ rowsOf D L 1 (n - 1)) ++ nd5 (leafNd 1 1) loc00 := by
  rw [rowsOf, Nat.zero_add, putNd_ne _ _ (by omega), putLoc_ne _ _ (by omega), fil_ge D (Nat.le_refl n), show padL L n n = loc00 from by simp [padL], rows_root hn]
  congr 2
  exact rows_ext (n - 1) fun i hi => ⟨fil_lt D (by omega), by simp [padL, show 1 + i < n from by omega]⟩
end
end Go.Proofs.Ytlikmphjocjmeaa
