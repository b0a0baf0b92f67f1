/-
  For every code, FnTreeTwo answers true: a drawn tree in which a file has a name more in the root has one more to it; in which a directory has, is none; and the code reads afterwards as it read before. No condition.
-/
import Derived.Test.YtlikmphjocjmeaaFnTreeTwoB2
import Derived.Maps.Own
import Derived.Maps.OwnOps
import Derived.Maps.OwnSet
import Derived.Maps.Views
import Derived.Maps.AppendAt
import Derived.Laws.OwnMore
import Derived.Laws.Cover1

/-
  What reachOk and TreeOk of the program answer.
-/
namespace Go.Proofs.Ytlikmphjocjmeaa
open Go.RowKit
set_option linter.unusedVariables false

set_option maxHeartbeats 2000000 in
theorem reachOk_any (a : Option Addr) (n c : Nat) (now : Int) (D : Nat → Nd) (L : Nat → Loc) (w : World) (hS : IsNds w a n D L) (h1 : 1 ≤ n) (hn : n ≤ 1048576) (hsm : ∀ i, i < n → (D i).kn ≤ maxLen) (hk : ∀ i, i < n → ∀ j, j < (D i).kn → 0 ≤ (D i).kids j ∧ (D i).kids j < n) :
    Calls Try.prog 21 #[trV a n c now] w fun e w' => Below w.heap.size w w' ∧ ∃ r : Bool, e = .returned (.bool r) ∧ (r = true ↔ ∀ i, i < n → (Reach n D i ↔ (D i).kind ≠ 0)) := by
  unfold trV
  go_enter Try.func21, Try.ntmps21
  go_wp2_with fail
  refine at_world (F := New1 w _ _) (new1 w _ _) ?_
  rintro W ⟨hp, hb, hs⟩
  refine (reached_any a n c now D L W (hS.below (Nat.le_refl _) hb) h1 hn hsm hk).mono ?_
  rintro e w1 ⟨hb1, rfl, m, hrow, hm⟩
  have hp1 := hp.below hb1 (by omega)
  have HIN : Hid (RefsIn w a n c now w1 ∧ w1.rowIs (W.heap.size + 1) 4 n (fun j => .bool (m j))) := ⟨⟨hp1, hb.trans (hb1.mono (by omega))⟩, hrow⟩
  have HM : Hid (∀ j, m j = true ↔ Reach n D j) := hm
  clear hp hb hs hb1 hrow hp1 hm
  generalize W.heap.size + 1 = bm at *
  go_wp2
  go_loopw [8] (fun i wr => ∃ k : Nat, k ≤ n ∧ i = .int .i64 k ∧ RefsIn w a n c now wr ∧ wr.rowIs bm 4 n (fun j => .bool (m j)) ∧ ∀ i, i < k → (Reach n D i ↔ (D i).kind ≠ 0)) (fun i _ => n - (intOf i).toNat)
  case atStart => exact ⟨0, Nat.zero_le _, rfl, HIN.out.1, HIN.out.2, fun i h2 => by omega⟩
  case round =>
    obtain ⟨k, hk', rfl, hin, hrow, hall⟩ := hrel
    by_cases hlt : k < n
    · have hSr := hS.below (Nat.le_refl _) hin.bel
      obtain ⟨b, off, rfl, hlt2, hc⟩ := hSr.at hlt
      have c0 := (hc k hlt).1
      have t0 : wr.cell? ⟨w.heap.size, 0, none⟩ = some (.slice (some ⟨b, off, none⟩) n c) := hin.t.cell 0
      have hki : (k : Int) < (n : Int) := by omega
      have rc : wr.cell? ⟨bm, k, none⟩ = some (.bool (m k)) := hrow.cell hlt
      have HR : Hid (RefsIn w (some ⟨b, off, none⟩) n c now wr ∧ wr.rowIs bm 4 n (fun j => .bool (m j)) ∧ ∀ i, i < k → (Reach n D i ↔ (D i).kind ≠ 0)) := ⟨hin, hrow, hall⟩
      clear hc hin hrow hall hSr HIN
      cases hkz : ((D k).kind == 0) with
      | true =>
        have HZ : Hid ((D k).kind = 0) := show (D k).kind = 0 by simpa using hkz
        cases hmk : m k with
        | true =>
          rw [hmk] at rc
          have HX : Hid (Reach n D k) := (HM.out k).1 hmk
          clear hmk
          go_wp2
          go_ret
          exact ⟨HR.out.1.bel, false, rfl, fun h => (by cases h), fun h => absurd HZ.out ((h k hlt).1 HX.out)⟩
        | false =>
          rw [hmk] at rc
          have HX : Hid (Reach n D k ↔ (D k).kind ≠ 0) := ⟨fun h => (by have := (HM.out k).2 h; rw [hmk] at this; cases this), fun h => absurd HZ.out h⟩
          clear hmk
          go_wp2
          go_roundw
          case rel => exact ⟨k + 1, by omega, by go_num, HR.out.1, HR.out.2.1, fun i h2 => by
            by_cases e : i = k
            · subst e; exact HX.out
            · exact HR.out.2.2 i (by omega)⟩
          case measure => simp [intOf]; omega
      | false =>
        have HZ : Hid (¬ (D k).kind = 0) := show ¬ (D k).kind = 0 by simpa using hkz
        cases hmk : m k with
        | false =>
          rw [hmk] at rc
          have HX : Hid (¬ Reach n D k) := fun h => (by have := (HM.out k).2 h; rw [hmk] at this; cases this)
          clear hmk
          go_wp2
          go_ret
          exact ⟨HR.out.1.bel, false, rfl, fun h => (by cases h), fun h => absurd ((h k hlt).2 HZ.out) HX.out⟩
        | true =>
          rw [hmk] at rc
          have HX : Hid (Reach n D k ↔ (D k).kind ≠ 0) := ⟨fun _ => HZ.out, fun _ => (HM.out k).1 hmk⟩
          clear hmk
          go_wp2
          go_roundw
          case rel => exact ⟨k + 1, by omega, by go_num, HR.out.1, HR.out.2.1, fun i h2 => by
            by_cases e : i = k
            · subst e; exact HX.out
            · exact HR.out.2.2 i (by omega)⟩
          case measure => simp [intOf]; omega
    · have HALL : Hid (Below w.heap.size w wr ∧ ∀ i, i < n → (Reach n D i ↔ (D i).kind ≠ 0)) := ⟨hin.bel, fun i h2 => hall i (by omega)⟩
      clear hin hrow hall HIN
      go_wp2
      go_ret
      exact ⟨HALL.out.1, true, rfl, fun _ => HALL.out.2, fun _ => rfl⟩

set_option maxHeartbeats 2000000 in
theorem implTreeOk : ImplTreeOk := by
  intro a n c now D L w hS hf hn hsz hnow
  have hn' := hn
  unfold maxLen at hn'
  have out : ∀ (e : Ending) (w' : World), Below w.heap.size w w' → e = .returned (.bool false) → ¬ TreeGood n D now → Below w.heap.size w w' ∧ ∃ r : Bool, e = .returned (.bool r) ∧ (r = true ↔ TreeGood n D now) :=
    fun e w' hb he hg => ⟨hb, false, he, fun h => (by cases h), fun h => absurd h hg⟩
  by_cases g1 : n < 1
  · have hb1 : decide ((n : Int) < 1) = true := by simp; omega
    have HG : Hid (¬ TreeGood n D now) := fun h => by have := h.some; omega
    unfold trV
    go_enter Try.func7, Try.ntmps7
    go_wp2_with fail
    go_ret
    exact out _ _ ((Below.refl _ _).alloc (Nat.le_refl _) _) rfl HG.out
  · have hb1 : decide ((n : Int) < 1) = false := by simp; omega
    by_cases g2 : 10 < n
    · have hb2 : decide (10 < (n : Int)) = true := by simp; omega
      have HG : Hid (¬ TreeGood n D now) := fun h => by have := h.few; omega
      unfold trV
      go_enter Try.func7, Try.ntmps7
      go_wp2_with fail
      go_ret
      exact out _ _ ((Below.refl _ _).alloc (Nat.le_refl _) _) rfl HG.out
    · have hb2 : decide (10 < (n : Int)) = false := by simp; omega
      cases hto : turnIn now 1000 with
      | false =>
        have HG : Hid (¬ TreeGood n D now) := fun h => by
          have h1 := h.begun
          have h2 := h.soon
          unfold turnIn at hto
          rw [decide_eq_true h1, decide_eq_true h2] at hto
          cases hto
        unfold trV
        go_enter Try.func7, Try.ntmps7
        go_wp2_with (go_at_call 19; refine (turnOk_any _ _ _).mono ?_; rintro e w' ⟨rfl, rfl⟩; rw [hto])
        go_ret
        exact out _ _ ((Below.refl _ _).alloc (Nat.le_refl _) _) rfl HG.out
      | true =>
        have HT : Hid (1 ≤ now ∧ now ≤ 1000) := by
          show 1 ≤ now ∧ now ≤ 1000
          unfold turnIn at hto
          simpa using hto
        obtain ⟨b, off, rfl, hlt2, hc⟩ := hS.at (show 0 < n by omega)
        have c0 := (hc 0 (by omega)).1
        rw [Nat.zero_mul, Nat.add_zero] at c0
        clear hc
        by_cases g5 : (D 0).kind = 2
        · have hb5 : ((D 0).kind != 2) = false := by simp [g5]
          have H5 : Hid ((D 0).kind = 2) := g5
          clear g5
          unfold trV
          go_enter Try.func7, Try.ntmps7
          go_wp2_with (go_at_call 19; refine (turnOk_any _ _ _).mono ?_; rintro e w' ⟨rfl, rfl⟩; rw [hto])
          clear c0
          go_loopw [30] (fun i wr => ∃ k : Nat, k ≤ n ∧ i = .int .i64 k ∧ RefsIn w (some ⟨b, off, none⟩) n c now wr ∧ ∀ i, i < k → ndOk n D now (D i) = true) (fun i _ => n - (intOf i).toNat)
          case atStart => exact ⟨0, Nat.zero_le _, rfl, ⟨(new1 w _ _).b0, (new1 w _ _).bel⟩, fun i hi => by omega⟩
          case round =>
            obtain ⟨k, hk, rfl, hin, hall⟩ := hrel
            have t0 : wr.cell? ⟨w.heap.size, 0, none⟩ = some (.slice (some ⟨b, off, none⟩) n c) := hin.t.cell 0
            have t1 : wr.cell? ⟨w.heap.size, 1, none⟩ = some (.int .i64 now) := hin.t.cell 1
            have hSr := hS.below (Nat.le_refl _) hin.bel
            have hwl : w.heap.size < wr.heap.size := hin.t.lt
            by_cases hlt : k < n
            · obtain ⟨b', off', ha, hlt2', hc⟩ := hSr.at hlt
              cases ha
              obtain ⟨c0, c1, c2, c3, c4, hI⟩ := hc k hlt
              have hki : (k : Int) < (n : Int) := by omega
              have HIN : Hid (RefsIn w (some ⟨b, off, none⟩) n c now wr ∧ ∀ i, i < k → ndOk n D now (D i) = true) := ⟨hin, hall⟩
              clear hc hin hall
              go_wp2_with fail
              refine at_world (F := New1 wr _ _) (new1 wr _ _) ?_
              rintro W ⟨hp, hb, hs⟩
              refine (placeOk_any _ n c now D L (D k) (L k) W (hSr.below (Nat.le_refl _) hb) (hI.below (Nat.le_refl _) hb) (hf k hlt) hn).mono ?_
              rintro e w1 ⟨hb1', rfl⟩
              have hbw : Below wr.heap.size wr w1 := hb.trans (hb1'.mono (by omega))
              have HN : Hid (RefsIn w (some ⟨b, off, none⟩) n c now w1) := ⟨HIN.out.1.t.below hbw hwl, HIN.out.1.bel.trans (hbw.mono HIN.out.1.bel.size)⟩
              clear hp hb hs hb1' hbw c0 c1 c2 c3 c4 hI hSr t0 t1
              cases hq : ndOk n D now (D k) with
              | false =>
                have HQ : Hid (¬ TreeGood n D now) := fun h => by have := h.nodes k hlt; rw [hq] at this; cases this
                clear hq
                go_wp2
                go_ret
                exact out _ _ HN.out.bel rfl HQ.out
              | true =>
                have HQ : Hid (ndOk n D now (D k) = true) := hq
                clear hq
                go_wp2
                go_roundw
                case rel => exact ⟨k + 1, by omega, by go_num, HN.out, fun i hi => by
                  by_cases e : i = k
                  · subst e; exact HQ.out
                  · exact HIN.out.2 i (by omega)⟩
                case measure => simp [intOf]; omega
            · have hke : k = n := by omega
              have HALL : Hid (∀ i, i < n → ndOk n D now (D i) = true) := fun i hi => hall i (by omega)
              have HIN : Hid (RefsIn w (some ⟨b, off, none⟩) n c now wr) := hin
              clear hke hall hin
              go_wp2_with fail
              refine (reachOk_any _ n c now D L wr hSr (by omega) (by omega) (fun i hi => (hf i hi).kn) (kids_in HALL.out)).mono ?_
              rintro e w1 ⟨hb1', r, rfl, hr⟩
              have hN1 : RefsIn w (some ⟨b, off, none⟩) n c now w1 := ⟨HIN.out.t.below hb1' hwl, HIN.out.bel.trans (hb1'.mono HIN.out.bel.size)⟩
              have T0 : w1.cell? ⟨w.heap.size, 0, none⟩ = some (.slice (some ⟨b, off, none⟩) n c) := hN1.t.cell 0
              have T1 : w1.cell? ⟨w.heap.size, 1, none⟩ = some (.int .i64 now) := hN1.t.cell 1
              have HN1 : Hid (RefsIn w (some ⟨b, off, none⟩) n c now w1 ∧ (r = true ↔ ∀ i, i < n → (Reach n D i ↔ (D i).kind ≠ 0))) := ⟨hN1, hr⟩
              clear hb1' hN1 hr t0 t1 hSr
              cases r with
              | false =>
                have HQ : Hid (¬ TreeGood n D now) := fun h => by
                  have := HN1.out.2.2 (fun i hi => by
                    by_cases e : i = 0
                    · subst e; exact ⟨fun _ => by rw [H5.out]; decide, fun _ => .root⟩
                    · exact h.reach i (by omega) hi)
                  cases this
                go_wp2
                go_ret
                exact out _ _ HN1.out.1.bel rfl HQ.out
              | true =>
                go_wp2_with fail
                refine (namedOnce_any _ n c now D L w1 (hS.below (Nat.le_refl _) HN1.out.1.bel) (by omega) hsz (fun i hi => (hf i hi).kn) (kids_in HALL.out)).mono ?_
                rintro e w2 ⟨hb2', r2, rfl, hr2⟩
                have HE : Hid (Below w.heap.size w w2 ∧ (r2 = true ↔ TreeGood n D now)) := ⟨HN1.out.1.bel.trans (hb2'.mono HN1.out.1.bel.size),
                  fun h => ⟨by omega, by omega, HT.out.1, HT.out.2, H5.out, HALL.out, fun i _ hi => HN1.out.2.1 (by trivial) i hi, hr2.1 h⟩, fun h => hr2.2 h.one⟩
                clear hb2' hr2
                go_wp2
                go_ret
                exact ⟨HE.out.1, r2, rfl, HE.out.2⟩
        · have hb5 : ((D 0).kind != 2) = true := by simpa using g5
          have HG : Hid (¬ TreeGood n D now) := fun h => g5 h.root
          clear g5
          unfold trV
          go_enter Try.func7, Try.ntmps7
          go_wp2_with (go_at_call 19; refine (turnOk_any _ _ _).mono ?_; rintro e w' ⟨rfl, rfl⟩; rw [hto])
          go_ret
          exact out _ _ ((Below.refl _ _).alloc (Nat.le_refl _) _) rfl HG.out
end Go.Proofs.Ytlikmphjocjmeaa

/-
  What TreeRefs of the specification answers.
-/
namespace Go.Proofs.Ytlikmphjocjmeaa
open Go.RowKit
set_option linter.unusedVariables false

/-- How many names a place of a tree has; 0, if it is none. -/
structure RefsAre (n : Nat) (D : Nat → Nd) (now ino r : Int) : Prop where
  yes : TreeGood n D now → 0 ≤ ino → ino < n → r = refsTo D ino n
  no : ¬ (TreeGood n D now ∧ 0 ≤ ino ∧ ino < n) → r = 0

theorem RefsAre.one {n : Nat} {D : Nat → Nd} {now ino r r' : Int} (h : RefsAre n D now ino r) (h' : RefsAre n D now ino r') : r = r' := by
  by_cases g : TreeGood n D now ∧ 0 ≤ ino ∧ ino < n
  · rw [h.yes g.1 g.2.1 g.2.2, h'.yes g.1 g.2.1 g.2.2]
  · rw [h.no g, h'.no g]

set_option maxHeartbeats 2000000 in
theorem specTreeRefs_any (a : Option Addr) (n c : Nat) (now ino : Int) (D : Nat → Nd) (L : Nat → Loc) (w : World) (hS : IsNds w a n D L) (hf : FitAll n D) (hn : n ≤ maxLen) (hsz : sizeTo D n ≤ 1048576) :
    Calls Try.prog 15 #[trV a n c now, .int .i64 ino] w fun e w' => Below w.heap.size w w' ∧ ∃ r : Int, e = .returned (.int .i64 r) ∧ RefsAre n D now ino r := by
  unfold trV
  go_enter Try.func15, Try.ntmps15
  go_wp2_with fail
  refine at_world (F := New1 w _ _) (new1 w _ _) ?_
  rintro W ⟨hp, hb, hs⟩
  have hS0 := hS.below (Nat.le_refl _) hb
  refine (specTreeOk_any a n c now D L W hS0 hf hn hsz).mono ?_
  rintro e w1 ⟨hb1, r, rfl, hr⟩
  have hp1 := hp.below hb1 (by omega)
  have p0 : w1.cell? ⟨w.heap.size, 0, none⟩ = some (.slice a n c) := hp1.cell 0
  have p1 : w1.cell? ⟨w.heap.size, 1, none⟩ = some (.int .i64 now) := hp1.cell 1
  have HB : Hid (Below w.heap.size w w1 ∧ (r = true ↔ TreeGood n D now)) := ⟨hb.trans (hb1.mono (by omega)), hr⟩
  have hn' := hn
  unfold maxLen at hn'
  clear hp hb hs hS0 hb1 hp1 hr
  cases r with
  | false =>
    have HN : Hid (¬ TreeGood n D now) := fun h => by have := HB.out.2.2 h; cases this
    go_wp2_with fail
    go_ret
    exact ⟨HB.out.1, 0, rfl, fun h => absurd h HN.out, fun _ => rfl⟩
  | true =>
    have HN : Hid (TreeGood n D now) := HB.out.2.1 rfl
    by_cases h1 : ino < 0
    · have hb1 : decide (ino < 0) = true := by simp; omega
      go_wp2_with fail
      go_ret
      exact ⟨HB.out.1, 0, rfl, fun _ h => by omega, fun _ => rfl⟩
    · have hb1 : decide (ino < 0) = false := by simp; omega
      by_cases h2 : (n : Int) ≤ ino
      · have hb2 : decide ((n : Int) ≤ ino) = true := by simp; omega
        go_wp2_with fail
        go_ret
        exact ⟨HB.out.1, 0, rfl, fun _ _ h => by omega, fun _ => rfl⟩
      · have hb2 : decide ((n : Int) ≤ ino) = false := by simp; omega
        go_wp2_with fail
        refine (l2Refs_any a n c now ino D L w1 (hS.below (Nat.le_refl _) HB.out.1) hsz hn).mono ?_
        rintro e w2 ⟨hb2', rfl⟩
        have HB2 : Hid (Below w.heap.size w w2) := HB.out.1.trans (hb2'.mono HB.out.1.size)
        clear hb2'
        go_wp2_with fail
        go_ret
        exact ⟨HB2.out, _, rfl, fun _ _ _ => rfl, fun h => absurd ⟨HN.out, by omega, by omega⟩ h⟩
end Go.Proofs.Ytlikmphjocjmeaa

/-
  What TreeRefs of the program has to keep.
-/
namespace Go.Proofs.Ytlikmphjocjmeaa
open Go.RowKit

/-- What TreeRefs of the program has to keep. -/
def ImplTreeRefs : Prop := ∀ (a : Option Addr) (n c : Nat) (now ino : Int) (D : Nat → Nd) (L : Nat → Loc) (w : World), IsNds w a n D L → FitAll n D → n ≤ maxLen → sizeTo D n ≤ 1048576 → In64 now → In64 ino →
    Calls Try.prog 13 #[trV a n c now, .int .i64 ino] w fun e w' => Below w.heap.size w w' ∧ ∃ r : Int, e = .returned (.int .i64 r) ∧ RefsAre n D now ino r
end Go.Proofs.Ytlikmphjocjmeaa

/-
  What TreeRefs of the program answers.
-/
namespace Go.Proofs.Ytlikmphjocjmeaa
open Go.RowKit
set_option linter.unusedVariables false

set_option maxHeartbeats 2000000 in
theorem implTreeRefs : ImplTreeRefs := by
  intro a n c now ino D L w hS hf hn hsz hnow hino
  unfold trV
  go_enter Try.func13, Try.ntmps13
  go_wp2_with fail
  refine at_world (F := New1 w _ _) (new1 w _ _) ?_
  rintro W ⟨hp, hb, hs⟩
  have hS0 := hS.below (Nat.le_refl _) hb
  refine (implTreeOk a n c now D L W hS0 hf hn hsz hnow).mono ?_
  rintro e w1 ⟨hb1, r, rfl, hr⟩
  have hp1 := hp.below hb1 (by omega)
  have p0 : w1.cell? ⟨w.heap.size, 0, none⟩ = some (.slice a n c) := hp1.cell 0
  have p1 : w1.cell? ⟨w.heap.size, 1, none⟩ = some (.int .i64 now) := hp1.cell 1
  have HB : Hid (Below w.heap.size w w1 ∧ (r = true ↔ TreeGood n D now)) := ⟨hb.trans (hb1.mono (by omega)), hr⟩
  have hn' := hn
  unfold maxLen at hn'
  unfold In64 at hino
  clear hp hb hs hS0 hb1 hp1 hr
  cases r with
  | false =>
    have HN : Hid (¬ TreeGood n D now) := fun h => by have := HB.out.2.2 h; cases this
    go_wp2_with fail
    go_ret
    exact ⟨HB.out.1, 0, rfl, fun h => absurd h HN.out, fun _ => rfl⟩
  | true =>
    have HN : Hid (TreeGood n D now) := HB.out.2.1 rfl
    by_cases h1 : ino < 0
    · have hb1 : decide (ino < 0) = true := by simp; omega
      go_wp2_with fail
      go_ret
      exact ⟨HB.out.1, 0, rfl, fun _ h => by omega, fun _ => rfl⟩
    · have hb1 : decide (ino < 0) = false := by simp; omega
      by_cases h2 : (n : Int) ≤ ino
      · have hb2 : decide ((n : Int) ≤ ino) = true := by simp; omega
        go_wp2_with fail
        go_ret
        exact ⟨HB.out.1, 0, rfl, fun _ _ h => by omega, fun _ => rfl⟩
      · have hb2 : decide ((n : Int) ≤ ino) = false := by simp; omega
        obtain ⟨k, rfl⟩ : ∃ k : Nat, ino = k := ⟨ino.toNat, by omega⟩
        have hkn : k < n := by omega
        have hki : (k : Int) < (n : Int) := by omega
        go_wp2_with fail
        refine (refsOf_any a n c now D L w1 (hS.below (Nat.le_refl _) HB.out.1) (by have := HN.out.few; omega) hsz (fun i hi => (hf i hi).kn) (kids_in HN.out.nodes)).mono ?_
        rintro e w2 ⟨hb2', rfl, hrow⟩
        have rc : w2.cell? ⟨w1.heap.size + 1, k, none⟩ = some (.int .i64 (refsTo D k n)) := hrow.cell hkn
        have HB2 : Hid (Below w.heap.size w w2) := HB.out.1.trans (hb2'.mono HB.out.1.size)
        clear hb2' hrow
        go_wp2_with fail
        go_ret
        exact ⟨HB2.out, _, rfl, fun _ _ _ => rfl, fun h => absurd ⟨HN.out, by omega, by omega⟩ h⟩
end Go.Proofs.Ytlikmphjocjmeaa

/-
  What kidsByName of the program answers: a map from the names of a place to its places.
-/
namespace Go.Proofs.Ytlikmphjocjmeaa
open Go.RowKit Go.Maps Go.WideMaps
set_option linter.unusedVariables false

theorem law : Keyed Try.prog 9 := string_keyed Try.underlying9
theorem zeroInt (w : World) : (zeroValue 3).run Try.prog w = .ok (.int .i64 0) w := by kernel_rfl

/-- What a name reads as. -/
def keyL (s : ByteArray) : Lit := .string s.data.toList

/-- The map has the first k names, and at each its place. -/
structure Kept (S : Nat → ByteArray) (Z : Nat → Int) (k : Nat) (M : DataW Unit) : Prop where
  isMap : IsMap M
  has : ∀ s : ByteArray, Maps.has M (keyL s) = true ↔ ∃ i, i < k ∧ (S i).toList = s.toList
  at_ : ∀ i, i < k → ∀ z, M.atKey (keyL (S i)) z = .lit (.int .i64 (Z i))

theorem run_makeMap_hint (n : Int) (w : World) : (Instr.makeMap 52 (some (.int .i64 n))).run Try.prog w = .ok (.map (some w.heap.size)) (w.alloc (.map #[] 0)) := by
  simp [Instr.makeMap, run_underlying Try.underlying52, asInt, asIntOf, Result.andThen]

theorem keyL_ne {s t : ByteArray} (h : ¬ s.toList = t.toList) : keyL s ≠ keyL t := by
  intro e
  unfold keyL at e
  simp only [Lit.string.injEq] at e
  exact h (by rw [ByteArray.toList_eq, ByteArray.toList_eq, e])

theorem keyL_eq {s t : ByteArray} (h : s.toList = t.toList) : keyL s = keyL t := by
  unfold keyL
  rw [← ByteArray.toList_eq, ← ByteArray.toList_eq, h]

theorem kept_start (S : Nat → ByteArray) (Z : Nat → Int) : Kept S Z 0 (.map []) := ⟨isMap_empty, fun s => ⟨fun h => by simp [Maps.has] at h, fun h => by obtain ⟨i, hi, _⟩ := h; omega⟩, fun i hi => by omega⟩

theorem Kept.step {S : Nat → ByteArray} {Z : Nat → Int} {k : Nat} {M : DataW Unit} (h : Kept S Z k M) (hne : ∀ i, i < k → ¬ (S i).toList = (S k).toList) : Kept S Z (k + 1) (M.put (keyL (S k)) (.lit (.int .i64 (Z k)))) := by
  refine ⟨h.isMap.put _ _, fun s => ?_, fun i hi z => ?_⟩
  · by_cases e : (S k).toList = s.toList
    · rw [← keyL_eq e, has_put_same h.isMap (show WideAt.IsKeyLit (keyL (S k)) from trivial)]
      exact ⟨fun _ => ⟨k, by omega, e⟩, fun _ => rfl⟩
    · rw [has_put_other (keyL_ne (fun e' => e e'.symm)), h.has s]
      constructor
      · rintro ⟨i, hi, he⟩; exact ⟨i, by omega, he⟩
      · rintro ⟨i, hi, he⟩
        by_cases e2 : i = k
        · subst e2; exact absurd he e
        · exact ⟨i, by omega, he⟩
  · by_cases e : i = k
    · subst e; exact atKey_put_same h.isMap (show WideAt.IsKeyLit (keyL (S i)) from trivial) _ _
    · rw [atKey_put_other (keyL_ne (hne i (by omega)))]; exact h.at_ i (by omega) z

/-- What is known within kidsByName. -/
structure KbIn (w : World) (d : Nd) (l : Loc) (M : DataW Unit) (k : Nat) (W : World) : Prop where
  d : Blk W w.heap.size #[.int .i64 d.kind, .string d.text, .slice l.nA d.nn l.nc, .slice l.kA d.kn l.kc, .int .i64 d.turn] 36
  own : W.ownsMap Try.prog 9 (plainElem Try.prog 3) (w.heap.size + 1) k M
  bel : Below w.heap.size w W

set_option maxHeartbeats 2000000 in
theorem kidsByName_any (d : Nd) (l : Loc) (w : World) (hI : NdIn w d l) (hf : d.Fits) (hk : d.kn = d.nn) (hinj : ∀ i j, i < d.nn → j < d.nn → (d.names i).toList = (d.names j).toList → i = j) :
    Calls Try.prog 29 #[ndV d l] w fun e w' => Below w.heap.size w w' ∧ ∃ b M, e = .returned (.map (some b)) ∧ w'.ownsMap Try.prog 9 (plainElem Try.prog 3) b d.nn M ∧ Kept d.names d.kids d.nn M := by
  have hnn := hf.nn
  have hkn := hf.kn
  have HK : Hid (d.kn = d.nn) := hk
  clear hk
  unfold maxLen at hnn hkn
  unfold ndV
  have hmm := run_makeMap_hint
  go_enter Try.func29, Try.ntmps29
  go_wp2
  go_loopw [13] (fun i wr => ∃ (k : Nat) (M : DataW Unit), k ≤ d.nn ∧ i = .int .i64 k ∧ KbIn w d l M k wr ∧ Kept d.names d.kids k M) (fun i _ => d.nn - (intOf i).toNat)
  case atStart =>
    have h1 := new1 w #[.int .i64 d.kind, .string d.text, .slice l.nA d.nn l.nc, .slice l.kA d.kn l.kc, .int .i64 d.turn] 36
    refine ⟨0, .map [], Nat.zero_le _, rfl, ⟨h1.b0.alloc _, ?_, h1.bel.alloc (by simp) _⟩, kept_start _ _⟩
    have := World.ownsMap_made (H := Unit) (w.alloc (.cells #[.int .i64 d.kind, .string d.text, .slice l.nA d.nn l.nc, .slice l.kA d.kn l.kc, .int .i64 d.turn] 36)) Try.prog 9 (plainElem Try.prog 3)
    rw [h1.size] at this
    exact this
  case round =>
    obtain ⟨k, M, hk', rfl, hin, hkept⟩ := hrel
    have d2 : wr.cell? ⟨w.heap.size, 2, none⟩ = some (.slice l.nA d.nn l.nc) := hin.d.cell 2
    have d3 : wr.cell? ⟨w.heap.size, 3, none⟩ = some (.slice l.kA d.kn l.kc) := hin.d.cell 3
    clear hmm
    by_cases hlt : k < d.nn
    · have hIr := hI.below (Nat.le_refl _) hin.bel
      obtain ⟨b, off, ha, hlt2, hc⟩ := hIr.1.at hlt
      obtain ⟨b', off', ha', hlt2', hc'⟩ := hIr.2.at (show k < d.kn by have := HK.out; omega)
      have h1 := hc k hlt
      have h2 := hc' k (by have := HK.out; omega)
      rw [ha] at d2
      rw [ha'] at d3
      rw [ha, ha']
      have hlti : (k : Int) < (d.nn : Int) := by omega
      have hltk : (k : Int) < (d.kn : Int) := by have := HK.out; omega
      have hkey : keyOf Try.prog 9 (.string (d.names k)) = some (keyL (d.names k)) := keyOf_string_mk Try.underlying9 (hf.names k hlt)
      have hwf : (Lit.int .i64 (d.kids k)).wf = true := by
        have := hf.kids k (by have := HK.out; omega)
        unfold In64 at this
        exact WalkArith.wf_i64 (by omega)
      have hown := hin.own
      have HIN : Hid (KbIn w d l M k wr ∧ Kept d.names d.kids k M) := ⟨hin, hkept⟩
      clear hc hc' hIr hin hkept
      go_wp2_with (at_mapUpdate; refine wpList_mapUpdate_own _ rfl _ _ _ 52 rfl 9 3 law Try.underlying52 _ (w.heap.size + 1) k _ rfl hown (by unfold maxLen; omega) _ _ _ rfl rfl hkey _ [] (plainElem_int Try.underlying3 hwf) ?_)
      intro w1 hown1 hgrow1
      have HN : Hid (KbIn w d l (M.put (keyL (d.names k)) (.lit (.int .i64 (d.kids k)))) (k + 1) w1 ∧ Kept d.names d.kids (k + 1) (M.put (keyL (d.names k)) (.lit (.int .i64 (d.kids k))))) :=
        ⟨⟨HIN.out.1.d.of_block (hgrow1.block _ HIN.out.1.d.lt (by simp)), hown1, HIN.out.1.bel.grown hgrow1 (by have := HIN.out.1.d.lt; omega) (fun g hg => by cases hg; omega)⟩, HIN.out.2.step (fun i hi e => by have := hinj i k (by omega) hlt e; omega)⟩
      clear hown1 hgrow1 hown d2 d3 h1 h2
      go_wp2
      go_roundw
      case rel => exact ⟨k + 1, _, by omega, by go_num, HN.out.1, HN.out.2⟩
      case measure => simp [intOf]; omega
    · have hke : k = d.nn := by omega
      have HIN : Hid (KbIn w d l M d.nn wr ∧ Kept d.names d.kids d.nn M) := ⟨hke ▸ hin, hke ▸ hkept⟩
      clear hke hin hkept
      go_wp2
      go_ret
      exact ⟨HIN.out.1.bel, _, M, rfl, HIN.out.1.own, HIN.out.2⟩
end Go.Proofs.Ytlikmphjocjmeaa

/-
  What TreeFind of the program answers.
-/
namespace Go.Proofs.Ytlikmphjocjmeaa
open Go.RowKit Go.Maps Go.WideMaps
set_option linter.unusedVariables false

/-- What TreeFind of the program has to keep. -/
def ImplTreeFind : Prop := ∀ (a : Option Addr) (n c : Nat) (now : Int) (D : Nat → Nd) (L : Nat → Loc) (pa : Option Addr) (m pc : Nat) (S : Nat → ByteArray) (w : World), IsNds w a n D L → IsStrs w pa m S → FitAll n D → n ≤ maxLen → sizeTo D n ≤ 1048576 → In64 now → m ≤ maxLen → Small m S →
    Calls Try.prog 12 #[trV a n c now, .slice pa m pc] w fun e w' => Below w.heap.size w w' ∧ ∃ r, e = .returned (.int .i64 r) ∧ FindAre n D now m S r

set_option maxHeartbeats 2000000 in
theorem implTreeFind : ImplTreeFind := by
  intro a n c now D L pa m pc S w hS hP hf hn hsz hnow hm hsm
  have hn' := hn
  have hm' := hm
  unfold maxLen at hn' hm'
  unfold trV
  go_enter Try.func12, Try.ntmps12
  go_wp2_with fail
  refine at_world (F := New1 w _ _) (new1 w _ _) ?_
  rintro W ⟨hp, hb, hs⟩
  refine (implTreeOk a n c now D L W (hS.below (Nat.le_refl _) hb) hf hn hsz hnow).mono ?_
  rintro e w1 ⟨hb1, r, rfl, hr⟩
  have hp1 := hp.below hb1 (by omega)
  have HB : Hid (RefsIn w a n c now w1 ∧ (r = true ↔ TreeGood n D now)) := ⟨⟨hp1, hb.trans (hb1.mono (by omega))⟩, hr⟩
  clear hp hb hs hb1 hp1 hr
  cases r with
  | false =>
    have HN : Hid (FindAre n D now m S (-1)) := findAre_no (fun g => by have := HB.out.2.2 g.1; cases this)
    go_wp2_with fail
    go_ret
    exact ⟨HB.out.1.bel, -1, rfl, HN.out⟩
  | true =>
    have HG : Hid (TreeGood n D now) := HB.out.2.1 rfl
    go_wp2_with fail
    refine (implPathOk_any pa m pc S w1 (hP.below (Nat.le_refl _) HB.out.1.bel) hsm hm).mono ?_
    rintro e w2 ⟨rfl, rfl⟩
    cases hpo : pathOk m S with
    | false =>
      have HN : Hid (FindAre n D now m S (-1)) := findAre_no (fun g => by have := g.2.1; rw [hpo] at this; cases this)
      clear hpo
      go_wp2_with fail
      go_ret
      exact ⟨HB.out.1.bel, -1, rfl, HN.out⟩
    | true =>
      have HP : Hid (pathOk m S = true) := hpo
      clear hpo
      go_wp2_with fail
      go_loopw [5, 20] (fun x i wr => ∃ k y : Nat, k ≤ m ∧ i = .int .i64 k ∧ x = .int .i64 y ∧ RefsIn w a n c now wr ∧ Leads D S k y) (fun _ i _ => m - (intOf i).toNat)
      case atStart => exact ⟨0, 0, Nat.zero_le _, rfl, rfl, HB.out.1, .root⟩
      case round =>
        obtain ⟨k, y, hk, rfl, rfl, hin, hl⟩ := hrel
        have t0 : wr.cell? ⟨w.heap.size, 0, none⟩ = some (.slice a n c) := hin.t.cell 0
        have hwl : w.heap.size < wr.heap.size := hin.t.lt
        by_cases hlt : k < m
        · have hyn : y < n := hl.lt HG.out
          have hSr := hS.below (Nat.le_refl _) hin.bel
          have hPr := hP.below (Nat.le_refl _) hin.bel
          obtain ⟨b, off, rfl, hlt2, hc⟩ := hSr.at hyn
          obtain ⟨b', off', rfl, hlt2', hc'⟩ := hPr.at hlt
          obtain ⟨c0, c1, c2, c3, c4, hI⟩ := hc y hyn
          have p0 := hc' k hlt
          have hki : (k : Int) < (m : Int) := by omega
          have hyi : (y : Int) < (n : Int) := by omega
          have HIN : Hid (RefsIn w (some ⟨b, off, none⟩) n c now wr ∧ Leads D S k y ∧ NdIn wr (D y) (L y)) := ⟨hin, hl, hI⟩
          have hkn : (D y).kn = (D y).nn ∧ ∀ i j, i < (D y).nn → j < (D y).nn → ((D y).names i).toList = ((D y).names j).toList → i = j := by
            by_cases h0 : 0 < (D y).nn
            · have h := dir_of_names (HG.out.nodes y hyn) h0
              exact ⟨h.2.2, fun i j hi hj e => names_inj h.2.1 hi hj e⟩
            · refine ⟨?_, fun i j hi => by omega⟩
              have h := HG.out.nodes y hyn
              unfold ndOk at h
              split at h
              · unfold freeOk at h; simp at h; omega
              · split at h
                · unfold fileOk at h; simp at h; omega
                · split at h
                  · unfold dirOk at h
                    simp only [Bool.and_eq_true, decide_eq_true_eq] at h
                    exact h.1.1.2.2
                  · cases h
          have HKN : Hid _ := hkn
          clear hc hc' hin hl hI hkn hSr hPr
          have hkey : keyOf Try.prog 9 (.string (S k)) = some (keyL (S k)) := keyOf_string_mk Try.underlying9 (hsm k hlt)
          go_wp2_with fail
          refine (kidsByName_any (D y) (L y) wr HIN.out.2.2 (hf y hyn) HKN.out.1 HKN.out.2).mono ?_
          rintro e w3 ⟨hb3, bm, M, rfl, hown, hkept⟩
          have HN : Hid (RefsIn w (some ⟨b, off, none⟩) n c now w3 ∧ Kept (D y).names (D y).kids (D y).nn M) := ⟨⟨HIN.out.1.t.below hb3 hwl, HIN.out.1.bel.trans (hb3.mono HIN.out.1.bel.size)⟩, hkept⟩
          clear hb3 hkept c0 c1 c2 c3 c4 p0 t0 hwl hlt2 hlt2'
          go_wp2_with (at_lookup; refine wpList_lookup_own_ok_int _ rfl _ _ 52 rfl 9 3 .i64 law Try.underlying52 Try.underlying3 (zeroInt _) bm _ M rfl hown _ _ rfl hkey ?_; intro z hat hwz)
          · have hno : Maps.has M (keyL (S k)) = false := by
              have h : (!Maps.has M (keyL (S k))) = true := ‹_›
              simpa using h
            have HX : Hid (FindAre n D now m S (-1)) := findAre_no (fun g => (HIN.out.2.1.stuck g.1 (fun i hi e => by
              have := (HN.out.2.has (S k)).2 ⟨i, hi, e⟩
              rw [hno] at this; cases this) hlt) g.2.2)
            go_ret
            exact ⟨HN.out.1.bel, -1, rfl, HX.out⟩
          · have hyes : Maps.has M (keyL (S k)) = true := by
              have h : (!Maps.has M (keyL (S k))) = false := ‹_›
              simpa using h
            obtain ⟨i, hi, e⟩ := (HN.out.2.has (S k)).1 hyes
            have hz : (D y).kids i = z := by
              have h1 := HN.out.2.at_ i hi (.lit (.int .i64 0))
              rw [keyL_eq e, hat] at h1
              simpa using h1.symm
            have hkid := kids_in HG.out.nodes y hyn i (by have := HKN.out.1; omega)
            have hst := HIN.out.2.1.step hi e
            go_roundw
            case rel => exact ⟨k + 1, ((D y).kids i).toNat, by omega, by go_num, by rw [← hz]; congr 1; omega, HN.out.1, hst⟩
            case measure => simp [intOf]; omega
        · have hke : k = m := by omega
          have HX : Hid (FindAre n D now m S y ∧ Below w.heap.size w wr) := ⟨findAre_end HG.out HP.out (hke ▸ hl), hin.bel⟩
          clear hke hin hl
          go_wp2
          go_ret
          exact ⟨HX.out.2, _, rfl, HX.out.1⟩
end Go.Proofs.Ytlikmphjocjmeaa

/-
  What is known of the names of a tree that is ok: how many there are, and to what. Plain facts.
-/
namespace Go.Proofs.Ytlikmphjocjmeaa
open Go.RowKit
set_option linter.unusedVariables false

section
variable {n : Nat} {D : Nat → Nd} {now : Int}

theorem TreeGood.kids (h : TreeGood n D now) {i : Nat} (hi : i < n) {j : Nat} (hj : j < (D i).kn) : 1 ≤ (D i).kids j ∧ (D i).kids j < n ∧ (D ((D i).kids j).toNat).kind ≠ 0 := by
  have hk := h.nodes i hi
  unfold ndOk at hk
  split at hk
  · unfold freeOk at hk; simp at hk; omega
  split at hk
  · unfold fileOk at hk; simp at hk; omega
  split at hk
  · unfold dirOk at hk
    simp only [Bool.and_eq_true] at hk
    obtain ⟨⟨⟨⟨_, _⟩, hk, _⟩, _⟩, _⟩ := hk
    unfold kidsOk at hk
    have := List.all_eq_true.1 hk j (by simpa using hj)
    unfold kidOk at this
    simp at this
    exact ⟨this.1.1, this.1.2, this.2⟩
  · cases hk

theorem TreeGood.kinds (h : TreeGood n D now) {i : Nat} (hi : i < n) : (D i).kind = 0 ∨ (D i).kind = 1 ∨ (D i).kind = 2 := by
  have hk := h.nodes i hi
  unfold ndOk at hk
  split at hk
  · exact Or.inl ‹_›
  split at hk
  · exact Or.inr (Or.inl ‹_›)
  split at hk
  · exact Or.inr (Or.inr ‹_›)
  · cases hk

theorem TreeGood.kn_nn (h : TreeGood n D now) {i : Nat} (hi : i < n) : (D i).kn = (D i).nn := by
  have hk := h.nodes i hi
  unfold ndOk at hk
  split at hk
  · unfold freeOk at hk; simp at hk; omega
  split at hk
  · unfold fileOk at hk; simp at hk; omega
  split at hk
  · unfold dirOk at hk
    simp at hk
    exact hk.1.1.2.2
  · cases hk

theorem cnt_zero {Z : Nat → Int} {z : Int} : ∀ k, (∀ j, j < k → Z j ≠ z) → cnt Z z k = 0
  | 0, _ => rfl
  | k + 1, h => by
    rw [show cnt Z z (k + 1) = cnt Z z k + (if Z k = z then 1 else 0) from rfl, cnt_zero k (fun j hj => h j (by omega)), if_neg (h k (by omega))]

theorem cnt_pos {Z : Nat → Int} {z : Int} {j : Nat} (h : Z j = z) : ∀ k, j < k → 1 ≤ cnt Z z k
  | 0, hk => by omega
  | k + 1, hk => by
    rw [show cnt Z z (k + 1) = cnt Z z k + (if Z k = z then 1 else 0) from rfl]
    by_cases e : j = k
    · subst e; rw [if_pos h]; omega
    · have := cnt_pos h k (by omega); omega

theorem refsTo_zero {z : Int} : ∀ m, (∀ i, i < m → ∀ j, j < (D i).kn → (D i).kids j ≠ z) → refsTo D z m = 0
  | 0, _ => rfl
  | m + 1, h => by
    rw [show refsTo D z (m + 1) = refsTo D z m + cnt (D m).kids z (D m).kn from rfl, refsTo_zero m (fun i hi => h i (by omega)), cnt_zero _ (h m (by omega))]

theorem refsTo_pos {z : Int} {i j : Nat} (hj : j < (D i).kn) (h : (D i).kids j = z) : ∀ m, i < m → 1 ≤ refsTo D z m
  | 0, hm => by omega
  | m + 1, hm => by
    rw [show refsTo D z (m + 1) = refsTo D z m + cnt (D m).kids z (D m).kn from rfl]
    by_cases e : i = m
    · subst e; have := cnt_pos h _ hj; omega
    · have := refsTo_pos hj h m (by omega); omega

theorem TreeGood.refs_root (h : TreeGood n D now) : refsTo D 0 n = 0 := refsTo_zero n fun i hi j hj e => by have := (h.kids hi hj).1; omega

theorem TreeGood.refs_free (h : TreeGood n D now) {z : Nat} (hz : (D z).kind = 0) : refsTo D z n = 0 := refsTo_zero n fun i hi j hj e => by
  have := (h.kids hi hj).2.2
  rw [e] at this
  exact this (by simpa using hz)

theorem TreeGood.refs_file (h : TreeGood n D now) {z : Nat} (hz : z < n) (hk : (D z).kind ≠ 0) (h1 : 1 ≤ z) : 1 ≤ refsTo D z n := by
  have hr := (h.reach z h1 hz).2 hk
  cases hr with
  | root => omega
  | step hi' hin hj =>
    rename_i i j
    have hk := h.kids hin hj
    exact refsTo_pos hj (by omega) n hin

/-- The sum over the first k places of how many names they have. -/
def refSum (D : Nat → Nd) (m : Nat) : Nat → Nat | 0 => 0 | k + 1 => refSum D m k + refsTo D (k : Nat) m
def cntSum (Z : Nat → Int) (m : Nat) : Nat → Nat | 0 => 0 | k + 1 => cntSum Z m k + cnt Z (k : Nat) m
/-- The sum over the first k places of how many names are in them. -/
def nameSum (D : Nat → Nd) : Nat → Nat | 0 => 0 | k + 1 => nameSum D k + (D k).nn

theorem cntSum_succ {Z : Nat → Int} {m : Nat} : ∀ k, cntSum Z (m + 1) k = cntSum Z m k + (if 0 ≤ Z m ∧ Z m < k then 1 else 0)
  | 0 => by
    have : ¬ (0 ≤ Z m ∧ Z m < (0 : Nat)) := by omega
    rw [if_neg this]; rfl
  | k + 1 => by
    rw [show cntSum Z (m + 1) (k + 1) = cntSum Z (m + 1) k + cnt Z (k : Nat) (m + 1) from rfl, cntSum_succ k, show cntSum Z m (k + 1) = cntSum Z m k + cnt Z (k : Nat) m from rfl, show cnt Z (k : Nat) (m + 1) = cnt Z (k : Nat) m + (if Z m = (k : Nat) then 1 else 0) from rfl]
    split <;> split <;> split <;> omega

theorem cntSum_all {Z : Nat → Int} {k : Nat} : ∀ m, (∀ j, j < m → 0 ≤ Z j ∧ Z j < k) → cntSum Z m k = m
  | 0, _ => by
    induction k with
    | zero => rfl
    | succ k ih => rw [show cntSum Z 0 (k + 1) = cntSum Z 0 k + cnt Z (k : Nat) 0 from rfl, ih (fun j hj => absurd hj (Nat.not_lt_zero _))]; rfl
  | m + 1, h => by rw [cntSum_succ, cntSum_all m (fun j hj => h j (by omega)), if_pos (h m (by omega))]

theorem refSum_succ {m : Nat} : ∀ k, refSum D (m + 1) k = refSum D m k + cntSum (D m).kids (D m).kn k
  | 0 => rfl
  | k + 1 => by
    rw [show refSum D (m + 1) (k + 1) = refSum D (m + 1) k + refsTo D (k : Nat) (m + 1) from rfl, refSum_succ k, show refSum D m (k + 1) = refSum D m k + refsTo D (k : Nat) m from rfl, show refsTo D (k : Nat) (m + 1) = refsTo D (k : Nat) m + cnt (D m).kids (k : Nat) (D m).kn from rfl, show cntSum (D m).kids (D m).kn (k + 1) = cntSum (D m).kids (D m).kn k + cnt (D m).kids (k : Nat) (D m).kn from rfl]
    omega

theorem refSum_zero : ∀ k, refSum D 0 k = 0
  | 0 => rfl
  | k + 1 => by rw [show refSum D 0 (k + 1) = refSum D 0 k + refsTo D (k : Nat) 0 from rfl, refSum_zero k]; rfl

theorem TreeGood.sums (h : TreeGood n D now) : ∀ m, m ≤ n → refSum D m n = nameSum D m
  | 0, _ => refSum_zero n
  | m + 1, hm => by
    rw [refSum_succ, h.sums m (by omega), cntSum_all _ (fun j hj => by have := h.kids (show m < n by omega) hj; omega), h.kn_nn (show m < n by omega)]
    rfl

theorem nameSum_le (D : Nat → Nd) : ∀ k, nameSum D k ≤ sizeTo D k
  | 0 => Nat.le_refl _
  | k + 1 => by
    have := nameSum_le D k
    rw [show nameSum D (k + 1) = nameSum D k + (D k).nn from rfl, sizeTo_succ]
    unfold Nd.size
    omega

theorem refSum_le (D : Nat → Nd) (m : Nat) : ∀ k, refSum D m k ≤ k * sizeTo D m
  | 0 => by simp [refSum]
  | k + 1 => by
    have h1 := refSum_le D m k
    have h2 := refsTo_le D (k : Nat) m
    rw [show refSum D m (k + 1) = refSum D m k + refsTo D (k : Nat) m from rfl, Nat.add_mul]
    omega
end
end Go.Proofs.Ytlikmphjocjmeaa

/-
  A list of texts behind another one: what the laws append. Plain facts.
-/
namespace Go.Proofs.Ytlikmphjocjmeaa
open Go.RowKit
set_option linter.unusedVariables false

theorem take_cells {w : World} {g : Nat} {L : List ByteArray} (hc : ∀ i, i < L.length → w.cell? ⟨g, 0 + i, none⟩ = some (.string (L.getD i ByteArray.empty))) (k : Nat) :
    ∀ j u, (strv (L.take k))[j]? = some u → w.cell? ((⟨g, 0, none⟩ : Addr).add j) = some u := by
  intro j u h
  rw [show (⟨g, 0, none⟩ : Addr).add j = ⟨g, 0 + j, none⟩ by unfold Addr.add; split <;> simp_all]
  have hj : j < (strv (L.take k)).length := by
    by_cases hh : j < (strv (L.take k)).length
    · exact hh
    · rw [List.getElem?_eq_none (by omega)] at h; cases h
  rw [strv_length, List.length_take] at hj
  rw [hc j (by omega), ← h]
  simp [strv, List.getElem?_take_of_lt (show j < k by omega), show j < L.length by omega]

/-- The first n of a list, as a list. -/
def lst (n : Nat) (S : Nat → ByteArray) : List ByteArray := (List.range n).map S
theorem lst_length (n : Nat) (S : Nat → ByteArray) : (lst n S).length = n := by simp [lst]
theorem lst_getD (n : Nat) (S : Nat → ByteArray) (i : Nat) (h : i < n) : (lst n S).getD i ByteArray.empty = S i := by simp [lst, h]

/-- One list behind another. -/
def catS (n : Nat) (S T : Nat → ByteArray) : Nat → ByteArray := fun i => if i < n then S i else T (i - n)

theorem cat_getD (n m : Nat) (S T : Nat → ByteArray) (i : Nat) (h : i < n + m) : (lst n S ++ lst m T).getD i ByteArray.empty = catS n S T i := by
  unfold catS
  by_cases hi : i < n
  · simp [hi, lst, List.getElem?_append_left]
  · simp only [if_neg hi, List.getD_eq_getElem?_getD]
    rw [List.getElem?_append_right (by rw [lst_length]; omega), lst_length]
    simp [lst, show i - n < m by omega]

theorem IsStrs.congr {w : World} {a : Option Addr} {n : Nat} {S T : Nat → ByteArray} (h : IsStrs w a n S) (e : ∀ i, i < n → S i = T i) : IsStrs w a n T := by
  rcases h with h | ⟨b, off, ha, hlt, hc⟩
  · exact Or.inl h
  · exact Or.inr ⟨b, off, ha, hlt, fun i hi => by rw [hc i hi, e i hi]⟩

theorem lst_cells {w : World} {g n : Nat} {S : Nat → ByteArray} (hc : ∀ i, i < n → w.cell? ⟨g, 0 + i, none⟩ = some (.string (S i))) :
    ∀ j u, (strv (lst n S))[j]? = some u → w.cell? ((⟨g, 0, none⟩ : Addr).add j) = some u := by
  have := take_cells (w := w) (g := g) (L := lst n S) (fun i hi => by rw [lst_length] at hi; rw [hc i hi, lst_getD n S i hi]) n
  rw [List.take_of_length_le (by rw [lst_length]; exact Nat.le_refl _)] at this
  exact this

theorem strv_lst (n : Nat) (S : Nat → ByteArray) : (strv (lst n S)).length = n * 1 := by rw [strv_length, lst_length]; omega

/-- A way of one's own: a list of texts that lies in memory from block g on. -/
structure Lies (w : World) (g n cap : Nat) (S : Nat → ByteArray) : Prop where
  lt : g < w.heap.size
  cell : ∀ i, i < n → w.cell? ⟨g, 0 + i, none⟩ = some (.string (S i))
  room : n ≤ cap
  most : cap ≤ maxLen
  few : n ≤ 100
  short : ∀ i, i < n → (S i).size ≤ 5

theorem Lies.strs {w : World} {g n cap : Nat} {S : Nat → ByteArray} (h : Lies w g n cap S) : IsStrs w (some ⟨g, 0, none⟩) n S := Or.inr ⟨g, 0, rfl, h.lt, h.cell⟩
theorem Lies.small {w : World} {g n cap : Nat} {S : Nat → ByteArray} (h : Lies w g n cap S) : Small n S := fun i hi => by have := h.short i hi; unfold maxLen; omega
theorem Lies.below {w w' : World} {g n cap : Nat} {S : Nat → ByteArray} (h : Lies w g n cap S) (hb : Below w.heap.size w w') : Lies w' g n cap S :=
  ⟨Nat.lt_of_lt_of_le h.lt hb.size, fun i hi => (hb.cell (p := ⟨g, 0 + i, none⟩) h.lt).trans (h.cell i hi), h.room, h.most, h.few, h.short⟩
theorem Lies.drewN {w : World} {g n cap : Nat} {S : Nat → ByteArray} (h : Lies w g n cap S) (q : Nat) : Lies (w.drewN q) g n cap S := h.below (below_drewN (Below.refl _ _) q)
theorem Lies.len {w : World} {g n cap : Nat} {S : Nat → ByteArray} (h : Lies w g n cap S) : n ≤ maxLen := by have := h.few; unfold maxLen; omega
theorem Drawn.lies {w : World} {g n cap : Nat} {S : Nat → ByteArray} (h : Drawn w g n cap S) : Lies w g n cap S := ⟨h.lt, h.cell, h.room, h.most, by have := h.few; omega, fun i _ => h.short i⟩

theorem OwnsStrs.lies {w : World} {B : Nat} {v : Value} {L : List ByteArray} (h : OwnsStrs w B v L) (n : Nat) (S : Nat → ByteArray) (hn : L.length = n) (hS : ∀ i, i < n → L.getD i ByteArray.empty = S i) (h9 : n ≤ 100) (h5 : ∀ i, i < n → (S i).size ≤ 5) :
    ∃ g cap, v = .slice (some ⟨g, 0, none⟩) n cap ∧ B ≤ g ∧ Lies w g n cap S := by
  subst hn
  obtain ⟨g, cap, hv, hB, hlt, hc, hn, hm⟩ := h.hands
  exact ⟨g, cap, hv, hB, hlt, fun i hi => by rw [hc i hi, hS i hi], hn, hm, h9, h5⟩

theorem cat_right (n : Nat) (S T : Nat → ByteArray) (i : Nat) : catS n S T (n + i) = T i := by
  unfold catS; rw [if_neg (by omega), Nat.add_sub_cancel_left]
end Go.Proofs.Ytlikmphjocjmeaa

/-
  What a turned root does to a tree that is ok. Plain facts.
-/
namespace Go.Proofs.Ytlikmphjocjmeaa
open Go.RowKit
set_option linter.unusedVariables false

section
variable {n : Nat} {D : Nat → Nd} {now : Int}

theorem root_dir (h : TreeGood n D now) : dirOk n D now (D 0) = true := by
  have hk := h.nodes 0 h.some
  unfold ndOk at hk
  rw [h.root] at hk
  simpa using hk

/-- Of a tree that is ok with a root that is a directory. -/
theorem good_root (h : TreeGood n D now) : dirOk n D now (D 0) = true ∧ (D 0).kind = 2 := ⟨root_dir h, h.root⟩

theorem bent_turn (z : Int) (hz : now < z) : ¬ TreeGood n (putNd D 0 { D 0 with turn := z }) now := fun h => by
  have := root_dir h
  rw [putNd_same] at this
  unfold dirOk at this
  simp at this
  omega

theorem bent_kind {d : Nd} (hd : d.kind ≠ 2) : ¬ TreeGood n (putNd D 0 d) now := fun h => by
  have := h.root
  rw [putNd_same] at this
  exact hd this

theorem bent_text {s : ByteArray} (hs : (s.toList == []) = false) : ¬ TreeGood n (putNd D 0 { D 0 with text := s }) now := fun h => by
  have := root_dir h
  rw [putNd_same] at this
  unfold dirOk at this
  rw [show ({ D 0 with text := s } : Nd).text = s from rfl, hs] at this
  simp at this

theorem bent_names (h0 : TreeGood n D now) (S : Nat → ByteArray) : ¬ TreeGood n (putNd D 0 { D 0 with nn := (D 0).nn + 1, names := S }) now := fun h => by
  have h1 := h.kn_nn h0.some
  have h2 := h0.kn_nn h0.some
  rw [putNd_same] at h1
  simp at h1
  omega

theorem good_late (h : TreeGood n D now) : TreeGood n D 1000 := by
  have hs := h.soon
  refine ⟨h.some, h.few, by omega, by omega, h.root, fun i hi => ?_, h.reach, h.one⟩
  have hk := h.nodes i hi
  unfold ndOk at hk ⊢
  split
  · rename_i e; rw [if_pos e] at hk; exact hk
  · rename_i e; rw [if_neg e] at hk
    split
    · rename_i e1; rw [if_pos e1] at hk
      unfold fileOk at hk ⊢
      simp only [Bool.and_eq_true, decide_eq_true_eq] at hk ⊢
      exact ⟨hk.1, by omega⟩
    · rename_i e1; rw [if_neg e1] at hk
      split
      · rename_i e2; rw [if_pos e2] at hk
        unfold dirOk at hk ⊢
        simp only [Bool.and_eq_true, decide_eq_true_eq] at hk ⊢
        exact ⟨hk.1, by omega⟩
      · rename_i e2; rw [if_neg e2] at hk; exact hk

theorem bent_now0 : ¬ TreeGood n D 0 := fun h => by have := h.begun; omega
end

/-- A drawn tree with another root fits, too. -/
theorem fits_put {n : Nat} {D : Nat → Nd} (h : Fair n D) {d : Nd} (hd : d.Fits) (hs : d.size ≤ 1000) : FitAll n (putNd D 0 d) ∧ sizeTo (putNd D 0 d) n ≤ 1048576 := by
  constructor
  · intro i hi
    by_cases e : i = 0
    · subst e; rw [putNd_same]; exact hd
    · rw [putNd_ne D d e]; exact h.fits i hi
  · have h1 := sizeTo_le (n := n) (D := putNd D 0 d) 1000 (fun i hi => by
      by_cases e : i = 0
      · subst e; rw [putNd_same]; exact hs
      · rw [putNd_ne D d e]; have := (h.each i hi).small; omega) n (Nat.le_refl _)
    have h2 := h.few
    omega

theorem fits_fair {n : Nat} {D : Nat → Nd} (h : Fair n D) {d : Nd} (hd : FairNd d) : FitAll n (putNd D 0 d) ∧ sizeTo (putNd D 0 d) n ≤ 1048576 := fits_put h hd.fits (by have := hd.small; omega)

/-- A root with one name more. -/
theorem fits_names {n : Nat} {D : Nat → Nd} (h : Fair n D) (hn1 : 1 ≤ n) {S : Nat → ByteArray} (hS : ∀ i, i < (D 0).nn + 1 → (S i).size ≤ 5) : FitAll n (putNd D 0 { D 0 with nn := (D 0).nn + 1, names := S }) ∧ sizeTo (putNd D 0 { D 0 with nn := (D 0).nn + 1, names := S }) n ≤ 1048576 := by
  have h0 := h.each 0 hn1
  have hf := h0.fits
  have h1 := h0.nn
  have h2 := h0.kn
  have h3 := h0.text
  refine fits_put h ⟨hf.kind, hf.turn, hf.text, fun i hi => ?_, by show (D 0).nn + 1 ≤ maxLen; unfold maxLen; omega, hf.kn, hf.kids⟩ ?_
  · have := hS i hi; show (S i).size ≤ maxLen; unfold maxLen; omega
  · have h4 := sumTo_le (n := (D 0).nn + 1) (S := S) 5 hS ((D 0).nn + 1) (Nat.le_refl _)
    unfold Nd.size
    show (D 0).text.size + ((D 0).nn + 1) + sumTo S ((D 0).nn + 1) + (D 0).kn ≤ 1000
    omega

theorem leaf1_fair : FairNd (leafNd 1 1) := ⟨Nat.zero_le _, Nat.zero_le _, fun j hj => absurd hj (Nat.not_lt_zero _), fun j hj => absurd hj (Nat.not_lt_zero _), by simp [leafNd], by simp [leafNd], by simp [leafNd]⟩

theorem names5 {d : Nd} (h : FairNd d) : ∀ i, i < d.nn + 1 → ((lst d.nn d.names ++ [(⟨#[122, 122, 122, 122]⟩ : ByteArray)]).getD i ByteArray.empty).size ≤ 5 := fun i hi => by
  by_cases e : i < d.nn
  · have h1 := (h.names i e).size
    have e1 : (lst d.nn d.names ++ [(⟨#[122, 122, 122, 122]⟩ : ByteArray)]).getD i ByteArray.empty = d.names i := by
      rw [List.getD_eq_getElem?_getD, List.getElem?_append_left (by rw [lst_length]; exact e)]
      simp [lst, e]
    rw [e1]
    omega
  · obtain rfl : i = d.nn := by omega
    have e1 : (lst d.nn d.names ++ [(⟨#[122, 122, 122, 122]⟩ : ByteArray)]).getD d.nn ByteArray.empty = ⟨#[122, 122, 122, 122]⟩ := by
      rw [List.getD_eq_getElem?_getD, List.getElem?_append_right (by rw [lst_length]; omega), lst_length]
      simp
    rw [e1]
    decide

theorem a_some : (({ data := #[97] } : ByteArray).toList == []) = false := by
  rw [ByteArray.toList_eq]
  rfl
end Go.Proofs.Ytlikmphjocjmeaa

/-
  More of where ways lead in a tree that is ok. Plain facts.
-/
namespace Go.Proofs.Ytlikmphjocjmeaa
open Go.RowKit
set_option linter.unusedVariables false

section
variable {n : Nat} {D : Nat → Nd} {now : Int} {S S' : Nat → ByteArray}

theorem Leads.ext {m x : Nat} (h : Leads D S m x) : (∀ i, i < m → S' i = S i) → Leads D S' m x := by
  induction h with
  | root => intro _; exact Leads.root
  | step hl hi he ih =>
    intro hs
    exact Leads.step (ih (fun i hi => hs i (by omega))) hi (by rw [hs _ (Nat.lt_succ_self _)]; exact he)

theorem Leads.reach (hg : TreeGood n D now) {m x : Nat} (h : Leads D S m x) : Reach n D x := by
  induction h with
  | root => exact Reach.root
  | step hl hi he ih =>
    have hx := hl.lt hg
    exact Reach.step ih hx (by rw [hg.kn_nn hx]; exact hi)

theorem Leads.live (hg : TreeGood n D now) {m x : Nat} (h : Leads D S m x) : (D x).kind ≠ 0 := by
  rcases Nat.eq_zero_or_pos x with e | e
  · subst e; rw [hg.root]; decide
  · exact (hg.reach x e (h.lt hg)).1 (h.reach hg)

theorem TreeGood.name (hg : TreeGood n D now) {x : Nat} (hx : x < n) {i : Nat} (hi : i < (D x).nn) : nameOk ((D x).names i).data.toList = true := by
  have hd := (dir_of_names (hg.nodes x hx) (by omega)).2.1
  unfold dirNames at hd
  have := List.all_eq_true.1 hd i (by simpa using hi)
  simp only [Bool.and_eq_true] at this
  exact this.1

theorem cnt_two {Z : Nat → Int} {z : Int} {i j : Nat} (hij : j < i) (hj : Z j = z) (hi : Z i = z) : ∀ k, i < k → 2 ≤ cnt Z z k
  | 0, hk => by omega
  | k + 1, hk => by
    rw [show cnt Z z (k + 1) = cnt Z z k + (if Z k = z then 1 else 0) from rfl]
    by_cases e : i = k
    · subst e; rw [if_pos hi]; have := cnt_pos hj i hij; omega
    · have := cnt_two hij hj hi k (by omega); omega

theorem refsTo_two {z : Int} {x i j : Nat} (hij : j < i) (hi : i < (D x).kn) (h1 : (D x).kids j = z) (h2 : (D x).kids i = z) : ∀ m, x < m → 2 ≤ refsTo D z m
  | 0, hm => by omega
  | m + 1, hm => by
    rw [show refsTo D z (m + 1) = refsTo D z m + cnt (D m).kids z (D m).kn from rfl]
    by_cases e : x = m
    · subst e; have := cnt_two hij h1 h2 _ hi; omega
    · have := refsTo_two hij hi h1 h2 m (by omega); omega

theorem pathOk_more {m : Nat} {s : ByteArray} (h : pathOk m S = true) (hm : m < 5) (hs : nameOk s.data.toList = true) : pathOk (m + 1) (catS m S (fun _ => s)) = true := by
  unfold pathOk at *
  simp only [Bool.and_eq_true, decide_eq_true_eq] at *
  refine ⟨?_, by omega⟩
  have h1 := h.1
  unfold namesOk at *
  rw [List.all_eq_true] at *
  intro i hi
  have hi' : i < m + 1 := by simpa using hi
  unfold catS
  by_cases e : i < m
  · rw [if_pos e]; exact h1 i (by simpa using e)
  · rw [if_neg e]; exact hs

theorem leads_more {m x i : Nat} (h : Leads D S m x) (hi : i < (D x).nn) : Leads D (catS m S (fun _ => (D x).names i)) (m + 1) ((D x).kids i).toNat :=
  Leads.step (h.ext (fun j hj => by unfold catS; rw [if_pos hj])) hi (by unfold catS; rw [if_neg (Nat.lt_irrefl _)])
end
end Go.Proofs.Ytlikmphjocjmeaa

/-
  A tree with free places more, behind all. Plain facts.
-/
namespace Go.Proofs.Ytlikmphjocjmeaa
open Go.RowKit
set_option linter.unusedVariables false

/-- Places that are free behind the first n. -/
def padT (D : Nat → Nd) (n : Nat) : Nat → Nd := fun i => if i < n then D i else leafNd 0 0

theorem pad_lt (D : Nat → Nd) {n i : Nat} (h : i < n) : padT D n i = D i := by simp [padT, h]
theorem pad_ge (D : Nat → Nd) {n i : Nat} (h : n ≤ i) : padT D n i = leafNd 0 0 := by simp [padT, Nat.not_lt.2 h]

section
variable {n m : Nat} {D : Nat → Nd} {now : Int} {S : Nat → ByteArray}

theorem pad_refs {z : Int} : ∀ k, k ≤ n → refsTo (padT D n) z k = refsTo D z k
  | 0, _ => rfl
  | k + 1, h => by
    rw [show refsTo (padT D n) z (k + 1) = refsTo (padT D n) z k + cnt (padT D n k).kids z (padT D n k).kn from rfl, pad_refs k (by omega), pad_lt D (show k < n by omega)]
    rfl

theorem pad_refs_more {z : Int} : ∀ k, refsTo (padT D n) z (n + k) = refsTo D z n
  | 0 => pad_refs n (Nat.le_refl _)
  | k + 1 => by
    rw [show refsTo (padT D n) z (n + (k + 1)) = refsTo (padT D n) z (n + k) + cnt (padT D n (n + k)).kids z (padT D n (n + k)).kn from rfl, pad_refs_more k, pad_ge D (Nat.le_add_right n k)]
    rfl

theorem pad_reach (hg : TreeGood n D now) {i : Nat} (h : Reach m (padT D n) i) : i < n ∧ Reach n D i := by
  induction h with
  | root => exact ⟨hg.some, Reach.root⟩
  | step hr hi hj ih =>
    obtain ⟨h1, h2⟩ := ih
    rw [pad_lt D h1] at hj ⊢
    have hk := hg.kids h1 hj
    exact ⟨by omega, Reach.step h2 h1 hj⟩

theorem reach_pad (hg : TreeGood n D now) (hm : n ≤ m) {i : Nat} (h : Reach n D i) : Reach m (padT D n) i := by
  induction h with
  | root => exact Reach.root
  | step hr hi hj ih =>
    rename_i i j
    have := Reach.step (n := m) (D := padT D n) (i := i) (j := j) ih (by omega) (by rw [pad_lt D hi]; exact hj)
    rwa [pad_lt D hi] at this

theorem pad_nd (hg : TreeGood n D now) (hm : n ≤ m) {i : Nat} (hi : i < n) : ndOk m (padT D n) now (D i) = true := by
  have hk := hg.nodes i hi
  unfold ndOk at hk ⊢
  split
  · rename_i h; rw [if_pos h] at hk; exact hk
  · rename_i h; rw [if_neg h] at hk
    split
    · rename_i h1; rw [if_pos h1] at hk; exact hk
    · rename_i h1; rw [if_neg h1] at hk
      split
      · rename_i h2; rw [if_pos h2] at hk
        unfold dirOk at hk ⊢
        simp only [Bool.and_eq_true] at hk ⊢
        obtain ⟨⟨⟨⟨a1, a2⟩, a3, a4⟩, a5⟩, a6⟩ := hk
        refine ⟨⟨⟨⟨a1, a2⟩, ?_, a4⟩, a5⟩, a6⟩
        unfold kidsOk at a3 ⊢
        rw [List.all_eq_true] at a3 ⊢
        intro j hj
        have := a3 j hj
        unfold kidOk at this ⊢
        simp only [Bool.and_eq_true, decide_eq_true_eq] at this ⊢
        obtain ⟨⟨b1, b2⟩, b3⟩ := this
        refine ⟨⟨b1, by omega⟩, ?_⟩
        rw [pad_lt D (by omega)]
        exact b3
      · rename_i h2; rw [if_neg h2] at hk; exact hk

theorem pad_good (hg : TreeGood n D now) (hm : n ≤ m) (h10 : m ≤ 10) : TreeGood m (padT D n) now := by
  have h1 := hg.some
  refine ⟨by omega, h10, hg.begun, hg.soon, by rw [pad_lt D h1]; exact hg.root, fun i hi => ?_, fun i h1i hi => ?_, fun i h1i hi hk => ?_⟩
  · by_cases e : i < n
    · rw [pad_lt D e]; exact pad_nd hg hm e
    · rw [pad_ge D (by omega)]
      unfold ndOk leafNd
      rw [if_pos rfl]
      unfold freeOk
      simp
  · by_cases e : i < n
    · rw [pad_lt D e]
      exact ⟨fun h => (hg.reach i h1i e).1 (pad_reach hg h).2, fun h => reach_pad hg hm ((hg.reach i h1i e).2 h)⟩
    · rw [pad_ge D (by omega)]
      exact ⟨fun h => absurd (pad_reach hg h).1 e, fun h => absurd rfl h⟩
  · by_cases e : i < n
    · rw [pad_lt D e] at hk
      obtain ⟨k, rfl⟩ : ∃ k, m = n + k := ⟨m - n, by omega⟩
      rw [pad_refs_more k]
      exact hg.one i h1i e hk
    · rw [pad_ge D (by omega)] at hk
      exact absurd hk (by simp [leafNd])

theorem leads_pad (hg : TreeGood n D now) {k x : Nat} (h : Leads D S k x) : Leads (padT D n) S k x := by
  induction h with
  | root => exact Leads.root
  | step hl hi he ih =>
    rename_i k x i
    have hx := hl.lt hg
    have := Leads.step (D := padT D n) (S := S) (k := k) (x := x) (i := i) ih (by rw [pad_lt D hx]; exact hi) (by rw [pad_lt D hx]; exact he)
    rwa [pad_lt D hx] at this

theorem pad_leads (hg : TreeGood n D now) {k x : Nat} (h : Leads (padT D n) S k x) : Leads D S k x := by
  induction h with
  | root => exact Leads.root
  | step hl hi he ih =>
    have hx := ih.lt hg
    rw [pad_lt D hx] at hi he ⊢
    exact Leads.step ih hi he

theorem find_pad (hg : TreeGood n D now) (hm : n ≤ m) (h10 : m ≤ 10) {k : Nat} {r : Int} (h : FindAre n D now k S r) {r' : Int} (h' : FindAre m (padT D n) now k S r') : r' = r := by
  by_cases g : pathOk k S = true ∧ ∃ x, Leads D S k x
  · obtain ⟨g1, x, g2⟩ := g
    rw [h.yes hg g1 x g2, h'.yes (pad_good hg hm h10) g1 x (leads_pad hg g2)]
  · rw [h.no (fun e => g e.2), h'.no (fun e => g ⟨e.2.1, e.2.2.choose, pad_leads hg e.2.2.choose_spec⟩)]
end
end Go.Proofs.Ytlikmphjocjmeaa

/-
  A root with one name more, of a tree that is ok, or of one with a file more behind all. Plain facts.
-/
namespace Go.Proofs.Ytlikmphjocjmeaa
open Go.RowKit
set_option linter.unusedVariables false

/-- The name zzz. -/
def zzz : ByteArray := ⟨#[122, 122, 122]⟩

/-- A root with the name zzz more, of place z. -/
def rootM (d : Nd) (z : Int) : Nd := ⟨2, ByteArray.empty, d.nn + 1, fun i => if i < d.nn then d.names i else zzz, d.kn + 1, fun i => if i < d.kn then d.kids i else z, d.turn⟩

theorem zzz_name : nameOk zzz.data.toList = true := by decide
theorem zzz_list : zzz.toList = [122, 122, 122] := by rw [ByteArray.toList_eq]; rfl
theorem empty_list : ((ByteArray.empty).toList == []) = true := by rw [ByteArray.toList_eq]; rfl

theorem cnt_ext {Z Z' : Nat → Int} {z : Int} : ∀ k, (∀ j, j < k → Z' j = Z j) → cnt Z' z k = cnt Z z k
  | 0, _ => rfl
  | k + 1, h => by
    rw [show cnt Z' z (k + 1) = cnt Z' z k + (if Z' k = z then 1 else 0) from rfl, cnt_ext k (fun j hj => h j (by omega)), h k (by omega)]
    rfl

theorem rootM_cnt (d : Nd) (x z : Int) : cnt (rootM d x).kids z (rootM d x).kn = cnt d.kids z d.kn + (if x = z then 1 else 0) := by
  rw [show (rootM d x).kn = d.kn + 1 from rfl, show cnt (rootM d x).kids z (d.kn + 1) = cnt (rootM d x).kids z d.kn + (if (rootM d x).kids d.kn = z then 1 else 0) from rfl, cnt_ext (Z := d.kids) d.kn (fun j hj => by simp [rootM, hj])]
  simp [rootM]

/-- What is known of the tree with a place more, or none. -/
structure Grown (n m k : Nat) (D D1 : Nat → Nd) (now : Int) : Prop where
  good : TreeGood n D now
  le : n ≤ m
  few : m ≤ 10
  old : ∀ i, i < n → D1 i = D i
  new : ∀ i, n ≤ i → i < m → i = k ∧ D1 i = leafNd 1 1
  one : 1 ≤ k
  lt : k < m

section
variable {n m k : Nat} {D D1 : Nat → Nd} {now : Int}

theorem Grown.refs (h : Grown n m k D D1 now) (x z : Int) : ∀ i, i ≤ m → refsTo (putNd D1 0 (rootM (D 0) x)) z i = refsTo D z (min i n) + (if 0 < i ∧ x = z then 1 else 0)
  | 0, _ => by simp [refsTo]
  | i + 1, hi => by
    have h1 := h.good.some
    rw [show refsTo (putNd D1 0 (rootM (D 0) x)) z (i + 1) = refsTo (putNd D1 0 (rootM (D 0) x)) z i + cnt (putNd D1 0 (rootM (D 0) x) i).kids z (putNd D1 0 (rootM (D 0) x) i).kn from rfl, h.refs x z i (by omega)]
    by_cases e0 : i = 0
    · subst e0
      rw [putNd_same, rootM_cnt, show min (0 + 1) n = 0 + 1 from by omega, show min 0 n = 0 from by omega, show refsTo D z (0 + 1) = refsTo D z 0 + cnt (D 0).kids z (D 0).kn from rfl]
      simp
      omega
    · rw [putNd_ne _ _ e0]
      by_cases e : i < n
      · rw [h.old i e, show min i n = i from by omega, show min (i + 1) n = i + 1 from by omega, show refsTo D z (i + 1) = refsTo D z i + cnt (D i).kids z (D i).kn from rfl]
        simp only [show 0 < i from by omega, show 0 < i + 1 from by omega, true_and]
        omega
      · rw [(h.new i (by omega) (by omega)).2, show min i n = n from by omega, show min (i + 1) n = n from by omega, show (leafNd 1 1).kn = 0 from rfl, show cnt (leafNd 1 1).kids z 0 = 0 from rfl]
        simp only [show 0 < i from by omega, show 0 < i + 1 from by omega, true_and]
        omega

theorem Grown.refs_all (h : Grown n m k D D1 now) (x z : Int) : refsTo (putNd D1 0 (rootM (D 0) x)) z m = refsTo D z n + (if x = z then 1 else 0) := by
  have h1 := h.good.some
  have h2 := h.le
  rw [h.refs x z m (Nat.le_refl _), show min m n = n from by omega]
  simp only [show 0 < m from by omega, true_and]

theorem kindM (h : Grown n m k D D1 now) {x : Int} {i : Nat} (hi : i < n) : (putNd D1 0 (rootM (D 0) x) i).kind = (D i).kind := by
  by_cases e : i = 0
  · subst e; rw [putNd_same, h.good.root]; rfl
  · rw [putNd_ne _ _ e, h.old i hi]

/-- A place that is right is so in a greater tree. -/
theorem nd_more {D2 : Nat → Nd} (hm : n ≤ m) (hk : ∀ j, j < n → (D j).kind ≠ 0 → (D2 j).kind ≠ 0) {d : Nd} (h : ndOk n D now d = true) : ndOk m D2 now d = true := by
  unfold ndOk at h ⊢
  split
  · rename_i e; rw [if_pos e] at h; exact h
  · rename_i e; rw [if_neg e] at h
    split
    · rename_i e1; rw [if_pos e1] at h; exact h
    · rename_i e1; rw [if_neg e1] at h
      split
      · rename_i e2; rw [if_pos e2] at h
        unfold dirOk at h ⊢
        simp only [Bool.and_eq_true] at h ⊢
        obtain ⟨⟨⟨⟨a1, a2⟩, a3, a4⟩, a5⟩, a6⟩ := h
        refine ⟨⟨⟨⟨a1, a2⟩, ?_, a4⟩, a5⟩, a6⟩
        unfold kidsOk at a3 ⊢
        rw [List.all_eq_true] at a3 ⊢
        intro j hj
        have := a3 j hj
        unfold kidOk at this ⊢
        simp only [Bool.and_eq_true, decide_eq_true_eq] at this ⊢
        obtain ⟨⟨b1, b2⟩, b3⟩ := this
        refine ⟨⟨b1, by omega⟩, ?_⟩
        simp only [bne_iff_ne, ne_eq] at b3 ⊢
        exact hk _ (by omega) b3
      · rename_i e2; rw [if_neg e2] at h; exact h

/-- The names with zzz behind them. -/
theorem names_more {S : Nat → ByteArray} {q : Nat} (h : dirNames S q = true) (hz : ∀ i, i < q → Op.bytesLess (S i).toList zzz.toList = true) : dirNames (fun i => if i < q then S i else zzz) (q + 1) = true := by
  unfold dirNames at *
  rw [List.all_eq_true] at *
  intro i hi
  have hi' : i < q + 1 := by simpa using hi
  dsimp only
  by_cases e : i < q
  · have := h i (by simpa using e)
    rw [if_pos e]
    by_cases e0 : i = 0
    · subst e0; simpa using this
    · rw [if_pos (show i - 1 < q by omega)]; exact this
  · obtain rfl : i = q := by omega
    rw [if_neg e, zzz_name]
    by_cases e0 : i = 0
    · subst e0; rfl
    · rw [if_pos (show i - 1 < i by omega)]
      have h1 := hz (i - 1) (by omega)
      have h2 := less_tot (S (i - 1)).toList zzz.toList
      rw [h1] at h2
      have h3 : lessEq zzz (S (i - 1)) = false := by unfold lessEq; simpa using h2.symm
      rw [h3]; simp

theorem Grown.reachTo (h : Grown n m k D D1 now) (hf : (D1 k).kind = 1) {i : Nat} (hr : Reach m (putNd D1 0 (rootM (D 0) k)) i) : i = k ∨ (i < n ∧ Reach n D i) := by
  have hk1 := h.one
  induction hr with
  | root => exact Or.inr ⟨h.good.some, Reach.root⟩
  | step hr hi hj ih =>
    rename_i i j
    by_cases ek : i = k
    · exfalso
      subst ek
      rw [putNd_ne _ _ (by omega)] at hj
      by_cases e : i < n
      · rw [h.old i e] at hj hf
        have := h.good.nodes i e
        unfold ndOk at this
        rw [hf] at this
        simp [fileOk] at this
        omega
      · rw [(h.new i (by omega) h.lt).2] at hj
        exact absurd hj (Nat.not_lt_zero _)
    · obtain ⟨h1, h2⟩ := ih.resolve_left ek
      by_cases e0 : i = 0
      · subst e0
        rw [putNd_same] at hj ⊢
        by_cases ej : j < (D 0).kn
        · have e1 : (rootM (D 0) k).kids j = (D 0).kids j := by simp [rootM, ej]
          rw [e1]
          have := h.good.kids h1 ej
          exact Or.inr ⟨by omega, Reach.step h2 h1 ej⟩
        · have e1 : (rootM (D 0) k).kids j = k := by simp [rootM, ej]
          rw [e1]
          exact Or.inl (by simp)
      · rw [putNd_ne _ _ e0, h.old i h1] at hj ⊢
        have := h.good.kids h1 hj
        exact Or.inr ⟨by omega, Reach.step h2 h1 hj⟩

theorem Grown.reachOf (h : Grown n m k D D1 now) {x : Int} {i : Nat} (hr : Reach n D i) : Reach m (putNd D1 0 (rootM (D 0) x)) i := by
  have hle := h.le
  induction hr with
  | root => exact Reach.root
  | step hr hi hj ih =>
    rename_i i j
    by_cases e0 : i = 0
    · subst e0
      have := Reach.step (n := m) (D := putNd D1 0 (rootM (D 0) x)) (i := 0) (j := j) ih (by omega) (by rw [putNd_same]; show j < (D 0).kn + 1; omega)
      rw [putNd_same, show (rootM (D 0) x).kids j = (D 0).kids j from by simp [rootM, hj]] at this
      exact this
    · have := Reach.step (n := m) (D := putNd D1 0 (rootM (D 0) x)) (i := i) (j := j) ih (by omega) (by rw [putNd_ne _ _ e0, h.old i hi]; exact hj)
      rwa [putNd_ne _ _ e0, h.old i hi] at this

theorem Grown.reachNew (h : Grown n m k D D1 now) : Reach m (putNd D1 0 (rootM (D 0) k)) k := by
  have := Reach.step (n := m) (D := putNd D1 0 (rootM (D 0) k)) (i := 0) (j := (D 0).kn) Reach.root (by have := h.good.some; have := h.le; omega) (by rw [putNd_same]; show (D 0).kn < (D 0).kn + 1; omega)
  rw [putNd_same, show (rootM (D 0) k).kids (D 0).kn = k from by simp [rootM]] at this
  simpa using this

theorem Grown.root (h : Grown n m k D D1 now) (hl : (D1 k).kind ≠ 0) (hz : ∀ i, i < (D 0).nn → Op.bytesLess ((D 0).names i).toList zzz.toList = true) : ndOk m (putNd D1 0 (rootM (D 0) k)) now (rootM (D 0) k) = true := by
  have hd := root_dir h.good
  have hle := h.le
  have hk1 := h.one
  unfold ndOk
  rw [if_neg (show ¬ (rootM (D 0) k).kind = 0 by simp [rootM]), if_neg (show ¬ (rootM (D 0) k).kind = 1 by simp [rootM]), if_pos (show (rootM (D 0) k).kind = 2 by simp [rootM])]
  unfold dirOk at hd ⊢
  simp only [Bool.and_eq_true] at hd ⊢
  obtain ⟨⟨⟨⟨a1, a2⟩, a3, a4⟩, a5⟩, a6⟩ := hd
  refine ⟨⟨⟨⟨empty_list, names_more a2 hz⟩, ?_, ?_⟩, a5⟩, a6⟩
  · unfold kidsOk
    rw [List.all_eq_true]
    intro j hj
    have hj' : j < (D 0).kn + 1 := by simpa [rootM] using hj
    by_cases e : j < (D 0).kn
    · have := h.good.kids h.good.some e
      rw [show (rootM (D 0) k).kids j = (D 0).kids j from by simp [rootM, e]]
      unfold kidOk
      have h3 := kindM h (x := (k : Int)) (i := ((D 0).kids j).toNat) (by omega)
      simp only [Bool.and_eq_true, decide_eq_true_eq]
      exact ⟨⟨this.1, by omega⟩, by rw [h3]; simpa using this.2.2⟩
    · rw [show (rootM (D 0) k).kids j = k from by simp [rootM, e]]
      have := h.lt
      unfold kidOk
      simp only [Bool.and_eq_true, decide_eq_true_eq]
      exact ⟨⟨by omega, by omega⟩, by rw [show ((k : Int)).toNat = k from by simp, putNd_ne _ _ (by omega)]; simpa using hl⟩
  · simp only [decide_eq_true_eq] at a4 ⊢
    show (D 0).kn + 1 = (D 0).nn + 1
    omega

/-- A file has one name more. -/
theorem Grown.ok (h : Grown n m k D D1 now) (hf : (D1 k).kind = 1) (hz : ∀ i, i < (D 0).nn → Op.bytesLess ((D 0).names i).toList zzz.toList = true) : TreeGood m (putNd D1 0 (rootM (D 0) k)) now := by
  have hle := h.le
  have h1 := h.good.some
  have hk1 := h.one
  have hb := h.good.begun
  refine ⟨by omega, h.few, h.good.begun, h.good.soon, by rw [putNd_same]; rfl, fun i hi => ?_, fun i h1i hi => ?_, fun i h1i hi hk => ?_⟩
  · by_cases e0 : i = 0
    · subst e0; rw [putNd_same]; exact h.root (by rw [hf]; decide) hz
    · rw [putNd_ne _ _ e0]
      by_cases e : i < n
      · rw [h.old i e]
        exact nd_more hle (fun j hj hne => by rw [kindM h hj]; exact hne) (h.good.nodes i e)
      · rw [(h.new i (by omega) hi).2]
        unfold ndOk
        rw [if_neg (show ¬ (leafNd 1 1).kind = 0 by simp [leafNd]), if_pos (show (leafNd 1 1).kind = 1 by simp [leafNd])]
        unfold fileOk leafNd
        have : textOk ByteArray.empty = true := by decide
        simp [this, hb]
  · rw [putNd_ne _ _ (by omega)]
    constructor
    · intro hr
      rcases h.reachTo hf hr with e | ⟨e, hr'⟩
      · subst e; rw [hf]; decide
      · rw [h.old i e]; exact (h.good.reach i h1i e).1 hr'
    · intro hk
      by_cases e : i < n
      · rw [h.old i e] at hk
        exact h.reachOf ((h.good.reach i h1i e).2 hk)
      · obtain ⟨rfl, _⟩ := h.new i (by omega) hi
        exact h.reachNew
  · rw [putNd_ne _ _ (by omega)] at hk
    have hne : i ≠ k := fun e => by subst e; rw [hf] at hk; exact absurd hk (by decide)
    have e : i < n := by
      rcases Nat.lt_or_ge i n with e | e
      · exact e
      · exact absurd (h.new i e hi).1 hne
    rw [h.old i e] at hk
    rw [h.refs_all, h.good.one i h1i e hk, if_neg (by omega)]

/-- A directory has not. -/
theorem Grown.two (h : Grown n n k D D1 now) (hd : (D k).kind = 2) : ¬ TreeGood n (putNd D1 0 (rootM (D 0) k)) now := fun hg => by
  have hk1 := h.one
  have h1 := hg.one k h.one h.lt (by rw [kindM h h.lt]; exact hd)
  rw [h.refs_all, h.good.one k h.one h.lt hd, if_pos rfl] at h1
  omega

/-- A place that is none. -/
theorem none_kid (hg : TreeGood n D now) (hn : n ≤ n) : ¬ TreeGood n (putNd D 0 (rootM (D 0) n)) now := fun h => by
  have := h.kids h.some (j := (D 0).kn) (by rw [putNd_same]; show (D 0).kn < (D 0).kn + 1; omega)
  rw [putNd_same, show (rootM (D 0) n).kids (D 0).kn = n from by simp [rootM]] at this
  omega

theorem zzz_size : zzz.size = 3 := by decide

theorem fits_rootM {n : Nat} {D : Nat → Nd} (h : Fair n D) {z : Int} (hz : 0 ≤ z ∧ z ≤ 99) : FitAll n (putNd D 0 (rootM (D 0) z)) ∧ sizeTo (putNd D 0 (rootM (D 0) z)) n ≤ 1048576 := by
  have h0 := h.each 0 h.some
  have hf := h0.fits
  have h1 := h0.nn
  have h2 := h0.kn
  have h3 : ∀ i, ((rootM (D 0) z).names i).size ≤ 5 ∨ (D 0).nn < i + 1 := fun i => by
    by_cases e : i < (D 0).nn
    · left
      have := (h0.names i e).size
      simp only [rootM, if_pos e]
      omega
    · right; omega
  have h4 : ∀ i, i < (D 0).nn + 1 → ((rootM (D 0) z).names i).size ≤ 5 := fun i hi => by
    by_cases e : i < (D 0).nn
    · exact (h3 i).resolve_right (by omega)
    · simp only [rootM, if_neg e]
      rw [zzz_size]; omega
  refine fits_put h ⟨⟨by simp [rootM], by simp [rootM]⟩, hf.turn, by simp [rootM], fun i hi => ?_, by show (D 0).nn + 1 ≤ maxLen; unfold maxLen; omega, by show (D 0).kn + 1 ≤ maxLen; unfold maxLen; omega, fun i hi => ?_⟩ ?_
  · have := h4 i hi; unfold maxLen; omega
  · by_cases e : i < (D 0).kn
    · simp only [rootM, if_pos e]; exact hf.kids i e
    · simp only [rootM, if_neg e]; unfold In64; omega
  · have h5 := sumTo_le (n := (D 0).nn + 1) (S := (rootM (D 0) z).names) 5 h4 ((D 0).nn + 1) (Nat.le_refl _)
    unfold Nd.size
    show (ByteArray.empty).size + ((D 0).nn + 1) + sumTo (rootM (D 0) z).names ((D 0).nn + 1) + ((D 0).kn + 1) ≤ 1000
    have : (ByteArray.empty).size = 0 := rfl
    omega

/-- Where zzz leads. -/
theorem leadsM {D1 : Nat → Nd} {z : Nat} {S : Nat → ByteArray} (hS : S 0 = zzz) (hkn : (D 0).kn = (D 0).nn) : Leads (putNd D1 0 (rootM (D 0) z)) S 1 z := by
  have := Leads.step (D := putNd D1 0 (rootM (D 0) z)) (S := S) (k := 0) (x := 0) (i := (D 0).nn) Leads.root (by rw [putNd_same]; show (D 0).nn < (D 0).nn + 1; omega) (by rw [putNd_same, hS]; simp [rootM])
  rw [putNd_same, show (rootM (D 0) z).kids (D 0).nn = z from by simp [rootM, hkn]] at this
  simpa using this
end
end Go.Proofs.Ytlikmphjocjmeaa

/-
  'append([]impl.Node{}, t.Nodes...)': a copy of the places of a drawn tree, over the same lists. Plain laws.
-/
namespace Go.Proofs.Ytlikmphjocjmeaa
open Go.RowKit Go.Deep
set_option linter.unusedVariables false

/-- An empty list of places of one's own, made since wr. -/
structure RgE (wr W : World) (e0 : Nat) : Prop where
  bel : Below wr.heap.size wr W
  own : W.ownsRow wr.heap.size 36 5 (.slice (some ⟨e0, 0, none⟩) 0 0) 0 []
  up : wr.heap.size ≤ e0
  lt : e0 < W.heap.size

theorem RgE.alloc {wr W : World} {e0 : Nat} (h : RgE wr W e0) (o : Obj) : RgE wr (W.alloc o) e0 := ⟨h.bel.alloc h.bel.size _, h.own.alloc o, h.up, by have := h.lt; simp; omega⟩

theorem rgE_new {wr W : World} (h : Below wr.heap.size wr W) : RgE wr (W.alloc (.cells #[] 36)) W.heap.size :=
  ⟨h.alloc h.size _, ⟨rfl, Or.inr ⟨W.heap.size, 0, #[], rfl, h.size, blk_alloc_new _ _, Nat.le_refl _, by unfold maxLen; omega, rfl, rfl⟩⟩, h.size, by simp⟩

theorem rgE1 (wr : World) : RgE wr (wr.drew.alloc (.cells #[] 36)) wr.heap.size := rgE_new (below_drewN (Below.refl _ _) 1)
theorem rgE2 (wr : World) (o : Obj) : RgE wr ((wr.drew.alloc o).alloc (.cells #[] 36)) (wr.heap.size + 1) := by
  have := rgE_new ((below_drewN (Below.refl wr.heap.size wr) 1).alloc (Nat.le_refl _) o)
  have e : ((wr.drewN 1).alloc o).heap.size = wr.heap.size + 1 := by simp
  rw [e] at this
  exact this
theorem rgE0 (wr : World) : RgE wr (wr.alloc (.cells #[] 36)) wr.heap.size := rgE_new (Below.refl _ _)

section
variable {W W' : World} {B g cap n : Nat} {D : Nat → Nd} {L : Nat → Loc}

/-- The cells of the row, as they are appended. -/
theorem OwnT.news (h : OwnT W B g cap n D L) : ∃ news : List Value, news.length = n * 5 ∧ (∀ u ∈ news, u.oneCell' = true) ∧ ∀ j, j < n * 5 → news[j]? = W.cell? ⟨g, j, none⟩ := by
  obtain ⟨cur, hb, hcs⟩ := h.blk
  have hr := h.room
  have hl : (cur.toList.take (n * 5)).length = n * 5 := by simp [hcs]; omega
  have hc : ∀ j, j < n * 5 → (cur.toList.take (n * 5))[j]? = W.cell? ⟨g, j, none⟩ := fun j hj => by
    rw [List.getElem?_take_of_lt hj]
    simp [World.cell?, hb]
  refine ⟨_, hl, fun u hu => ?_, hc⟩
  obtain ⟨j, hj, he⟩ := List.getElem_of_mem hu
  rw [hl] at hj
  have h1 := hc j hj
  rw [List.getElem?_eq_getElem (by rw [hl]; exact hj), he] at h1
  obtain ⟨c0, c1, c2, c3, c4⟩ := h.cells (j / 5) (by omega)
  have hj5 : j % 5 = 0 ∨ j % 5 = 1 ∨ j % 5 = 2 ∨ j % 5 = 3 ∨ j % 5 = 4 := by omega
  rcases hj5 with e | e | e | e | e
  · rw [show j = j / 5 * 5 by omega, c0] at h1; cases h1; rfl
  · rw [show j = j / 5 * 5 + 1 by omega, c1] at h1; cases h1; rfl
  · rw [show j = j / 5 * 5 + 2 by omega, c2] at h1; cases h1; rfl
  · rw [show j = j / 5 * 5 + 3 by omega, c3] at h1; cases h1; rfl
  · rw [show j = j / 5 * 5 + 4 by omega, c4] at h1; cases h1; rfl

theorem OwnT.copied (h : OwnT W B g cap n D L) (hB : B ≤ W.heap.size) {news : List Value} (hnews : ∀ j, j < n * 5 → news[j]? = W.cell? ⟨g, j, none⟩) (hbel : Below W.heap.size W W') {g' c' : Nat} (hg' : W.heap.size ≤ g')
    (hown : W'.ownsRow W.heap.size 36 5 (.slice (some ⟨g', 0, none⟩) n c') n news) : OwnT W' B g' c' n D L := by
  rcases hown.2 with ⟨h0, _⟩ | ⟨g2, cap2, cur2, hv, hb2, hblk2, hn2, hm2, hs2, ht2⟩
  · cases h0
  cases hv
  have cell2 : ∀ j, j < n * 5 → W'.cell? ⟨g', j, none⟩ = W.cell? ⟨g, j, none⟩ := fun j hj => by
    rw [← hnews j hj, ← ht2, List.getElem?_take_of_lt hj]
    simp [World.cell?, hblk2]
  have hb := hbel.size
  refine ⟨⟨cur2, hblk2, hs2⟩, by omega, hn2, hm2, fun i hi => ?_, fun i hi => ?_⟩
  · rw [cell2 _ (by omega), cell2 _ (by omega), cell2 _ (by omega), cell2 _ (by omega), cell2 _ (by omega)]
    exact h.cells i hi
  · obtain ⟨h1, h3, h4⟩ := h.lists i hi
    exact ⟨h1.below (Nat.le_refl _) hbel, fun b o x e => by have := h3 b o x e; omega, fun b o x e => by have := h4 b o x e; omega⟩
end

theorem infoNode' : (Try.prog.info? 36).map (fun i => (i.zero, i.size, i.bytes)) = some (some (.agg #[.int .i64 0, .string ByteArray.empty, .slice none 0 0, .slice none 0 0, .int .i64 0]), 5, 80) := by kernel_rfl

/-- The append, at a step of a drawn region. -/
theorem copy_step {ops : Array Oper} {o : Oper} {a : Act} {K : Act → World → Prop} {Q : Exit → Act → World → Prop} {E : Prop} {wr WA : World} {e0 : Nat} (hgd : o.guard = none) (s x : Operand) (ho : o.op = .call { callee := .builtin .append, args := #[s, x], argTypes := #[23, 23] }) (hA : RgE wr WA e0)
    {B g cap n : Nat} {D : Nat → Nd} {L : Nat → Loc} (h : OwnT wr B g cap n D L) (hB : B ≤ wr.heap.size) (hn : n ≤ 1000) (hn1 : 1 ≤ n) (hs : a.eval s = .slice (some ⟨e0, 0, none⟩) 0 0) (hx : a.eval x = .slice (some ⟨g, 0, none⟩) n cap)
    (k : ∀ g' c' w', OwnT w' B g' c' n D L → wr.heap.size ≤ g' → Below wr.heap.size wr w' → WA.grownBy w' (some e0) → (g' = e0 ∨ WA.heap.size ≤ g') → K (a.put o.dst (.slice (some ⟨g', 0, none⟩) n c')) w') : if Region.wanted o (yielded ops a.tmps) = true then Oper.wp Try.prog o a WA K Q else E := by
  obtain ⟨i0, hi0, hz0, hz1, hz2⟩ := info_parts infoNode'
  obtain ⟨news, hl, h1, hc⟩ := h.news
  have hsz := hA.bel.size
  have hlt := h.lt
  have hw : Region.wanted o (yielded ops a.tmps) = true := by simp [Region.wanted, hgd]
  rw [if_pos hw]
  refine wp_append_lies WA s x 23 ho wr.heap.size 36 i0 _ 5 80 Try.underlying23 hi0 hz0 hz1 hz2 rfl (by decide) (.slice (some ⟨e0, 0, none⟩) 0 0) 0 [] hs hA.own ⟨g, 0, none⟩ n cap news hx hl (fun j u hu => ?_) h1 (by omega) (by unfold maxLen; omega) (by omega) hsz WA.heap.size rfl ?_
  · have hj : j < n * 5 := by
      rcases Nat.lt_or_ge j (n * 5) with e | e
      · exact e
      · rw [List.getElem?_eq_none (by omega)] at hu; cases hu
    rw [hc j hj] at hu
    rw [show (⟨g, 0, none⟩ : Addr).add j = ⟨g, j, none⟩ by unfold Addr.add; split <;> simp_all]
    exact (hA.bel.cell (p := ⟨g, j, none⟩) hlt).trans hu
  · intro g' c' w' hown hgrow hat hlt'
    have hgr : WA.grownBy w' (some e0) := by simpa [Value.ownBlock] using hgrow
    have hup := hA.up
    have hbel : Below wr.heap.size wr w' := hA.bel.grown hgr hsz (fun b e => by simp at e; omega)
    have hg' : wr.heap.size ≤ g' := by
      rcases hat with e | e
      · simp [Value.ownBlock] at e; omega
      · omega
    simp only [Nat.zero_add, List.nil_append] at hown
    have := k g' c' w' (h.copied hB hc hbel hg' hown) hg' hbel hgr (hat.elim (fun e => Or.inl (by simpa [Value.ownBlock] using e.symm)) (fun e => Or.inr (by omega)))
    simpa using this
end Go.Proofs.Ytlikmphjocjmeaa

/-
  A copy of a drawn tree in a variable, with free places more. Plain facts.
-/
namespace Go.Proofs.Ytlikmphjocjmeaa
open Go.RowKit Go.Deep
set_option linter.unusedVariables false

def padL (L : Nat → Loc) (n : Nat) : Nat → Loc := fun i => if i < n then L i else loc00

theorem OwnT.congr {W : World} {B g cap n : Nat} {D D' : Nat → Nd} {L L' : Nat → Loc} (h : OwnT W B g cap n D L) (hd : ∀ i, i < n → D' i = D i) (hl : ∀ i, i < n → L' i = L i) : OwnT W B g cap n D' L' :=
  ⟨h.blk, h.base, h.room, h.most, fun i hi => by rw [hd i hi, hl i hi]; exact h.cells i hi, fun i hi => by rw [hd i hi, hl i hi]; exact h.lists i hi⟩

/-- What is known of the copy x, which lies in block X: k places. -/
structure InX (w W4 : World) (X g' c' n k : Nat) (D : Nat → Nd) (L : Nat → Loc) (now : Int) (W : World) : Prop where
  bel : Below W4.heap.size W4 W
  x : Blk W X #[.slice (some ⟨g', 0, none⟩) k c', .int .i64 now] 25
  own : OwnT W w.heap.size g' c' k (padT D n) (padL L n)
  far : W4.heap.size ≤ X ∧ W4.heap.size ≤ g' ∧ g' ≠ X
  low : ∀ i, i < n → (∀ b o y, (L i).nA = some ⟨b, o, y⟩ → b < W4.heap.size) ∧ (∀ b o y, (L i).kA = some ⟨b, o, y⟩ → b < W4.heap.size)

theorem InX.away {w W4 : World} {X g' c' n k : Nat} {D : Nat → Nd} {L : Nat → Loc} {now : Int} {W : World} (h : InX w W4 X g' c' n k D L now W) : Away (fun b => b = X) g' k (padL L n) :=
  ⟨h.far.2.2, fun i hi => by
    unfold padL
    by_cases e : i < n
    · rw [if_pos e]
      exact ⟨fun b o y e1 e2 => by have := (h.low i e).1 b o y e1; have := h.far.1; omega, fun b o y e1 e2 => by have := (h.low i e).2 b o y e1; have := h.far.1; omega⟩
    · rw [if_neg e]
      exact ⟨fun b o y e1 => by simp [loc00] at e1, fun b o y e1 => by simp [loc00] at e1⟩⟩

/-- The copy has been made. -/
theorem InX.start {w W4 w7 W : World} {X g g' c c' n : Nat} {D : Nat → Nd} {L : Nat → Loc} {now : Int} (h4 : OwnT W4 w.heap.size g c n D L) (h7 : OwnT w7 w.heap.size g' c' n D L) (hg7 : W4.heap.size ≤ g') (hb : Below W4.heap.size W4 w7) (hX : W4.heap.size ≤ X) (hgX : g' ≠ X)
    (hs : w7.heap.size ≤ W.heap.size) (hW : ∀ b, b < w7.heap.size → b ≠ X → W.heap[b]? = w7.heap[b]?) (hos : W.os = w7.os ∧ W.tape = w7.tape ∧ W.output = w7.output) (hx : Blk W X #[.slice (some ⟨g', 0, none⟩) n c', .int .i64 now] 25) : InX w W4 X g' c' n n D L now W := by
  have hlow : ∀ i, i < n → (∀ b o y, (L i).nA = some ⟨b, o, y⟩ → b < W4.heap.size) ∧ (∀ b o y, (L i).kA = some ⟨b, o, y⟩ → b < W4.heap.size) := fun i hi => ⟨fun b o y e => ((h4.lists i hi).2.1 b o y e).2.2, fun b o y e => ((h4.lists i hi).2.2 b o y e).2.2⟩
  have hsz := hb.size
  have ha : Away (fun b => b = X) g' n L := ⟨hgX, fun i hi => ⟨fun b o y e e2 => by have := (hlow i hi).1 b o y e; omega, fun b o y e e2 => by have := (hlow i hi).2 b o y e; omega⟩⟩
  refine ⟨⟨hos.1.trans hb.os, hos.2.1.trans hb.tape, hos.2.2.trans hb.output, by omega, fun k hk => (hW k (by omega) (by omega)).trans (hb.block k hk)⟩, hx, ?_, ⟨hX, hg7, hgX⟩, hlow⟩
  exact (h7.other ha hs (fun b h1 h2 h3 => hW b h2 h3)).congr (fun i hi => pad_lt D hi) (fun i hi => by simp [padL, hi])


/-- A free place more: t.Nodes is appended to and written. -/
theorem InX.more {w W4 : World} {X g' c' n k : Nat} {D : Nat → Nd} {L : Nat → Loc} {now : Int} {W W' : World} (h : InX w W4 X g' c' n k D L now W) (hk : n ≤ k) {cur : Array Value} (hc : W.heap[g']? = some (.cells cur 36 (0, 0))) (hs : cur.size = c' * 5) {g2 c2 : Nat}
    (hown : W'.ownsRow w.heap.size 36 5 (.slice (some ⟨g2, 0, none⟩) (k + 1) c2) (k + 1) (cur.toList.take (k * 5) ++ leafCells 0 0)) (hgrow : W.grownBy W' (some g')) (hat : g' = g2 ∨ W.heap.size ≤ g2) :
    InX w W4 X g2 c2 n (k + 1) D L now (W'.setCell ⟨X, 0, none⟩ (.slice (some ⟨g2, 0, none⟩) (k + 1) c2)) := by
  have hf := h.far
  have hsz := h.bel.size
  have hxl := h.x.lt
  have hgl := h.own.lt
  have ho := h.own.appL hc hs hown hgrow hat
  have eD : putNd (padT D n) k (leafNd 0 0) = padT D n := by
    funext j
    by_cases e : j = k
    · subst e; rw [putNd_same, pad_ge D hk]
    · rw [putNd_ne _ _ e]
  have eL : putLoc (padL L n) k loc00 = padL L n := by
    funext j
    by_cases e : j = k
    · subst e; simp [putLoc, padL, Nat.not_lt.2 hk]
    · simp [putLoc, e]
  rw [eD, eL] at ho
  have hb : ∀ b, b < W.heap.size → b ≠ g' → W'.heap[b]? = W.heap[b]? := fun b h1 h2 => hgrow.block b h1 (by simpa using h2)
  have hf2 : W4.heap.size ≤ g2 ∧ g2 ≠ X := by rcases hat with e | e <;> omega
  have ha : Away (fun b => b = X) g2 (k + 1) (padL L n) := ⟨hf2.2, fun i hi => by
    unfold padL
    by_cases e : i < n
    · rw [if_pos e]
      exact ⟨fun b o y e1 e2 => by have := (h.low i e).1 b o y e1; omega, fun b o y e1 e2 => by have := (h.low i e).2 b o y e1; omega⟩
    · rw [if_neg e]
      exact ⟨fun b o y e1 => by simp [loc00] at e1, fun b o y e1 => by simp [loc00] at e1⟩⟩
  refine ⟨?_, (h.x.of_block (hb X hxl (Ne.symm hf.2.2))).set 0 _, ho.setOther ha rfl _ _, ⟨hf.1, hf2.1, hf2.2⟩, h.low⟩
  have hg2 := hgrow.size
  exact bel_put (h.bel.grown hgrow hsz (fun b e => by simp at e; omega)) _ hf.1

theorem InX.below {w W4 : World} {X g' c' n k : Nat} {D : Nat → Nd} {L : Nat → Loc} {now : Int} {W W' : World} (h : InX w W4 X g' c' n k D L now W) (hb : Below W.heap.size W W') : InX w W4 X g' c' n k D L now W' :=
  ⟨h.bel.trans (hb.mono h.bel.size), h.x.below hb h.x.lt, h.own.below hb, h.far, h.low⟩

theorem leaf0_fair : FairNd (leafNd 0 0) := ⟨Nat.zero_le _, Nat.zero_le _, fun j hj => absurd hj (Nat.not_lt_zero _), fun j hj => absurd hj (Nat.not_lt_zero _), by simp [leafNd], by simp [leafNd], by simp [leafNd]⟩

theorem pad_fair {n m : Nat} {D : Nat → Nd} (h : Fair n D) (hm : 1 ≤ m) (h11 : m ≤ 11) : Fair m (padT D n) := ⟨hm, h11, fun i hi => by
  by_cases e : i < n
  · rw [pad_lt D e]; exact h.each i e
  · rw [pad_ge D (by omega)]; exact leaf0_fair⟩

theorem pad_none {n : Nat} {D : Nat → Nd} {now : Int} (hg : TreeGood n D now) (h : n ≤ 10) : refsTo (padT D n) (n : Nat) 10 = 0 := by
  obtain ⟨k, hk⟩ : ∃ k, 10 = n + k := ⟨10 - n, by omega⟩
  rw [hk, pad_refs_more k]
  exact refsTo_zero n fun i hi j hj e => by have := (hg.kids hi hj).2.1; omega
end Go.Proofs.Ytlikmphjocjmeaa

/-
  A copy of a drawn tree in a variable, that is then written into. Plain facts.
-/
namespace Go.Proofs.Ytlikmphjocjmeaa
open Go.RowKit Go.Deep
set_option linter.unusedVariables false

/-- What is known of a copy, which lies in block X; W4 is the world that it was made in. -/
structure InC (w W4 : World) (X g c n : Nat) (D : Nat → Nd) (L : Nat → Loc) (now : Int) (W : World) : Prop where
  bel : Below W4.heap.size W4 W
  x : Blk W X #[.slice (some ⟨g, 0, none⟩) n c, .int .i64 now] 25
  own : OwnT W w.heap.size g c n D L
  far : W4.heap.size ≤ X ∧ W4.heap.size ≤ g ∧ g ≠ X

section
variable {w W4 : World} {X g c n : Nat} {D D' : Nat → Nd} {L L' : Nat → Loc} {now : Int} {W W' : World}

theorem InX.inC (h : InX w W4 X g c n n D L now W) : InC w W4 X g c n D L now W :=
  ⟨h.bel, h.x, h.own.congr (fun i hi => (pad_lt D hi).symm) (fun i hi => by simp [padL, hi]), h.far⟩

theorem InC.below (h : InC w W4 X g c n D L now W) (hb : Below W.heap.size W W') : InC w W4 X g c n D L now W' :=
  ⟨h.bel.trans (hb.mono h.bel.size), h.x.below hb h.x.lt, h.own.below hb, h.far⟩

theorem InC.put (h : InC w W4 X g c n D L now W) {k : Nat} {v : Value} (ho : OwnT (W.setCell ⟨g, k, none⟩ v) w.heap.size g c n D' L') : InC w W4 X g c n D' L' now (W.setCell ⟨g, k, none⟩ v) :=
  ⟨bel_put h.bel v h.far.2.1, h.x.off v (Ne.symm h.far.2.2), ho, h.far⟩

theorem InC.putNode (h : InC w W4 X g c n D L now W) {i : Nat} (hi : i < n) (d : Nd) (l : Loc) (hd : NdIn W d l) (hn : Off W w.heap.size g l.nA) (hk : Off W w.heap.size g l.kA) :
    InC w W4 X g c n (putNd D i d) (putLoc L i l) now (((((W.setCell ⟨g, i * 5, none⟩ (.int .i64 d.kind)).setCell ⟨g, i * 5 + 1, none⟩ (.string d.text)).setCell ⟨g, i * 5 + 2, none⟩ (.slice l.nA d.nn l.nc)).setCell ⟨g, i * 5 + 3, none⟩ (.slice l.kA d.kn l.kc)).setCell ⟨g, i * 5 + 4, none⟩ (.int .i64 d.turn)) :=
  have hX := Ne.symm h.far.2.2
  have hg := h.far.2.1
  ⟨bel_put (bel_put (bel_put (bel_put (bel_put h.bel _ hg) _ hg) _ hg) _ hg) _ hg, ((((h.x.off _ hX).off _ hX).off _ hX).off _ hX).off _ hX, h.own.setNode hi d l hd hn hk, h.far⟩

/-- A file of nothing in the place of a node. -/
theorem InC.putFile (h : InC w W4 X g c n D L now W) (hn1 : 1 ≤ n) : InC w W4 X g c n (putNd D 0 (leafNd 1 1)) (putLoc L 0 loc00) now (((((W.setCell ⟨g, 0, none⟩ (.int .i64 1)).setCell ⟨g, 1, none⟩ (.string ⟨#[]⟩)).setCell ⟨g, 2, none⟩ (.slice none 0 0)).setCell ⟨g, 3, none⟩ (.slice none 0 0)).setCell ⟨g, 4, none⟩ (.int .i64 1)) :=
  h.putNode (i := 0) hn1 (leafNd 1 1) loc00 ⟨Or.inl rfl, Or.inl rfl⟩ (fun b o x e => by simp [loc00] at e) (fun b o x e => by simp [loc00] at e)

theorem InC.alloc (h : InC w W4 X g c n D L now W) (o : Obj) : InC w W4 X g c n D L now (W.alloc o) := h.below ((Below.refl _ _).alloc (Nat.le_refl _) _)

theorem InC.drew (h : InC w W4 X g c n D L now W) (k : Nat) : InC w W4 X g c n D L now (W.drewN k) := h.below (below_drewN (Below.refl _ _) k)

/-- What comes later, seen from the world that the copy was made in. -/
theorem InC.since (h : InC w W4 X g c n D L now W) (hb : Below W.heap.size W W') : Below W4.heap.size W4 W' := h.bel.trans (hb.mono h.bel.size)
end

theorem blk_second (W4 : World) : Blk ((W4.drew.alloc (.cells #[] 36)).alloc (.cells #[.slice none 0 0, .int .i64 0] 25)) (W4.heap.size + 1) #[.slice none 0 0, .int .i64 0] 25 := by
  have := Blk.new (W4.drew.alloc (.cells #[] 36)) #[.slice none 0 0, .int .i64 0] 25
  have e : (W4.drew.alloc (.cells #[] 36)).heap.size = W4.heap.size + 1 := by simp
  rwa [e] at this

/-- A list of operations is walked at a world of which no more is said than this. -/
theorem wpList_world {P : Program} {ops : Array Oper} {l : List Oper} {a : Act} {Q : Exit → Act → World → Prop} {F : World → Prop} {w : World} (h : F w) (g : ∀ W, F W → wpList P ops Q l a W) : wpList P ops Q l a w := g w h

/-- The append of a copy, in a plain list of operations. -/
theorem copy_list {ops : Array Oper} {rest : List Oper} {o : Oper} {a : Act} {Q : Exit → Act → World → Prop} {wr WA : World} {e0 : Nat} (hgd : o.guard = none) (s x : Operand) (ho : o.op = .call { callee := .builtin .append, args := #[s, x], argTypes := #[23, 23] }) (hA : RgE wr WA e0)
    {B g cap n : Nat} {D : Nat → Nd} {L : Nat → Loc} (h : OwnT wr B g cap n D L) (hB : B ≤ wr.heap.size) (hn : n ≤ 1000) (hn1 : 1 ≤ n) (hs : a.eval s = .slice (some ⟨e0, 0, none⟩) 0 0) (hx : a.eval x = .slice (some ⟨g, 0, none⟩) n cap)
    (k : ∀ g' c' w', OwnT w' B g' c' n D L → wr.heap.size ≤ g' → Below wr.heap.size wr w' → WA.grownBy w' (some e0) → (g' = e0 ∨ WA.heap.size ≤ g') → wpList Try.prog ops Q rest (a.put o.dst (.slice (some ⟨g', 0, none⟩) n c')) w') : wpList Try.prog ops Q (o :: rest) a WA :=
  wpList_plain hgd fun K hK => by
    have hw : Region.wanted o (yielded ops a.tmps) = true := by simp [Region.wanted, hgd]
    have := copy_step (ops := ops) (K := K) (Q := Q) (E := True) hgd s x ho hA h hB hn hn1 hs hx (fun g' c' w' h1 h2 h3 h4 h5 => hK _ _ (k g' c' w' h1 h2 h3 h4 h5))
    rwa [if_pos hw] at this
end Go.Proofs.Ytlikmphjocjmeaa

/-
  A statement whose order is drawn, walked operation by operation: what is known of what has come up is kept by whatever comes next. Plain laws.
-/
namespace Go.Proofs.Ytlikmphjocjmeaa
open Go.RowKit
set_option linter.unusedVariables false

section
variable {P : Program} {md : Region.Mode} {Q : Exit → Act → World → Prop} {ops : Array Oper}

/-- One more has come up. -/
def lset (L : Nat → Bool) (i : Nat) : Nat → Bool := fun j => j == i || L j

theorem lset_same (L : Nat → Bool) (i : Nat) : lset L i i = true := by simp [lset]
theorem lset_ne (L : Nat → Bool) {i j : Nat} (h : j ≠ i) : lset L i j = L j := by simp [lset, h]

theorem count_set_true : ∀ (l : List Bool) (i : Nat), l[i]? = some false → (l.set i true).count false + 1 = l.count false
  | [], i, h => by simp at h
  | b :: l, 0, h => by simp at h; subst h; simp
  | b :: l, i + 1, h => by
    have := count_set_true l i (by simpa using h)
    cases b <;> simp <;> omega

theorem ready_listed {listed : Array Bool} {i : Nat} (h : i ∈ Region.ready md ops listed) : listed.toList[i]? = some false := by
  obtain ⟨h0, _⟩ := mem_ready.1 h
  rcases Nat.lt_or_ge i listed.size with hi | hi
  · rw [getD_both hi] at h0
    simp [hi, h0]
  · simp [Array.getD, Nat.not_lt.2 hi] at h0

theorem wpAny_inv (hlt : ∀ (j : Nat) (oj : Oper), ops[j]? = some oj → ∀ e ∈ oj.after, Region.binds md e = true → e.on < j) (I : (Nat → Bool) → Act → World → Prop)
    (step : ∀ (i : Nat) (o : Oper), ops[i]? = some o → ∀ L a w, L i = false → (∀ e ∈ o.after, Region.binds md e = true → L e.on = true) → I L a w → ∀ K : Act → World → Prop, (∀ a' w', I (lset L i) a' w' → K a' w') →
      if Region.wanted o (yielded ops a.tmps) = true then Oper.wp P o a w K Q else K (a.put o.dst undef) w)
    (fin : ∀ L a w, (∀ i, i < ops.size → L i = true) → I L a w → Q .normal a w) :
    ∀ (fuel : Nat) (listed : Array Bool) (a : Act) (w : World), listed.size = ops.size → listed.toList.count false ≤ fuel → I (fun j => listed.getD j false) a w → wpAny P md ops Q fuel listed a w := by
  have hfin : ∀ (listed : Array Bool) (a : Act) (w : World), listed.size = ops.size → I (fun j => listed.getD j false) a w → Region.ready md ops listed = [] → Q .normal a w := fun listed a w hs hI hr => by
    refine fin _ a w ?_ hI
    intro j
    induction j using Nat.strongRecOn with
    | _ j ih =>
      intro hj
      show listed.getD j false = true
      cases hb : listed.getD j false with
      | true => rfl
      | false =>
        exfalso
        have hjl : j < listed.size := by rw [hs]; exact hj
        have : j ∈ Region.ready md ops listed := mem_ready.2 ⟨by rw [getD_both hjl] at hb ⊢; exact hb, ops[j], by simp [hj], fun e he hbn => ih e.on (hlt j ops[j] (by simp [hj]) e he hbn) (Nat.lt_trans (hlt j ops[j] (by simp [hj]) e he hbn) hj)⟩
        rw [hr] at this
        cases this
  intro fuel
  induction fuel with
  | zero =>
    intro listed a w hs hc hI
    have hr : Region.ready md ops listed = [] := by
      rw [List.eq_nil_iff_forall_not_mem]
      intro i hi
      have h1 := List.mem_of_getElem? (ready_listed hi)
      have h2 := List.count_pos_iff.2 h1
      omega
    exact ⟨hr, hfin listed a w hs hI hr⟩
  | succ fuel ih =>
    intro listed a w hs hc hI
    refine ⟨hfin listed a w hs hI, fun i hi => ?_⟩
    obtain ⟨h0, o, ho, hall⟩ := mem_ready.1 hi
    have hil : i < ops.size := (Array.getElem?_eq_some_iff.1 ho).1
    have hill : i < listed.size := by omega
    have h0' : listed.getD i false = false := by rw [getD_both hill] at h0 ⊢; exact h0
    have hst := step i o ho (fun j => listed.getD j false) a w h0' hall hI (wpAny P md ops Q fuel (listed.setIfInBounds i true)) (fun a' w' hI' => ih _ a' w' (by simp [hs]) (by
      have := count_set_true listed.toList i (ready_listed hi)
      rw [Array.toList_setIfInBounds]
      omega) (by
      have e : (fun j => (listed.setIfInBounds i true).getD j false) = lset (fun j => listed.getD j false) i := by
        funext j
        by_cases hj : j = i
        · subst hj; rw [lset_same]; simp [hill]
        · rw [lset_ne _ hj]; simp [Ne.symm hj]
      rw [e]; exact hI'))
    unfold wpOp
    simp only [ho]
    split
    · rename_i hw; rw [if_pos hw] at hst; exact Or.inl hst
    · rename_i hw; rw [if_neg hw] at hst; exact hst
theorem wpAnyH_inv {S : World → Prop} (hlt : ∀ (j : Nat) (oj : Oper), ops[j]? = some oj → ∀ e ∈ oj.after, Region.binds md e = true → e.on < j) (I : (Nat → Bool) → Act → World → Prop)
    (hS : ∀ L a w, I L a w → S w)
    (step : ∀ (i : Nat) (o : Oper), ops[i]? = some o → ∀ L a w, L i = false → (∀ e ∈ o.after, Region.binds md e = true → L e.on = true) → I L a w → ∀ K : Act → World → Prop, (∀ a' w', I (lset L i) a' w' → K a' w') →
      if Region.wanted o (yielded ops a.tmps) = true then Oper.wp P o a w K Q else K (a.put o.dst undef) w)
    (fin : ∀ L a w, (∀ i, i < ops.size → L i = true) → I L a w → Q .normal a w) :
    ∀ (fuel : Nat) (listed : Array Bool) (a : Act) (w : World), listed.size = ops.size → listed.toList.count false ≤ fuel → I (fun j => listed.getD j false) a w → wpAnyH P md ops Q S fuel listed a w := by
  have hfin : ∀ (listed : Array Bool) (a : Act) (w : World), listed.size = ops.size → I (fun j => listed.getD j false) a w → Region.ready md ops listed = [] → Q .normal a w := fun listed a w hs hI hr => by
    refine fin _ a w ?_ hI
    intro j
    induction j using Nat.strongRecOn with
    | _ j ih =>
      intro hj
      show listed.getD j false = true
      cases hb : listed.getD j false with
      | true => rfl
      | false =>
        exfalso
        have hjl : j < listed.size := by rw [hs]; exact hj
        have : j ∈ Region.ready md ops listed := mem_ready.2 ⟨by rw [getD_both hjl] at hb ⊢; exact hb, ops[j], by simp [hj], fun e he hbn => ih e.on (hlt j ops[j] (by simp [hj]) e he hbn) (Nat.lt_trans (hlt j ops[j] (by simp [hj]) e he hbn) hj)⟩
        rw [hr] at this
        cases this
  intro fuel
  induction fuel with
  | zero =>
    intro listed a w hs hc hI
    have hr : Region.ready md ops listed = [] := by
      rw [List.eq_nil_iff_forall_not_mem]
      intro i hi
      have h1 := List.mem_of_getElem? (ready_listed hi)
      have h2 := List.count_pos_iff.2 h1
      omega
    exact ⟨hr, hfin listed a w hs hI hr⟩
  | succ fuel ih =>
    intro listed a w hs hc hI
    refine ⟨hfin listed a w hs hI, fun i hi => ?_⟩
    obtain ⟨h0, o, ho, hall⟩ := mem_ready.1 hi
    have hil : i < ops.size := (Array.getElem?_eq_some_iff.1 ho).1
    have hill : i < listed.size := by omega
    have h0' : listed.getD i false = false := by rw [getD_both hill] at h0 ⊢; exact h0
    have hst := step i o ho (fun j => listed.getD j false) a w h0' hall hI (fun a' w' => S w' ∧ wpAnyH P md ops Q S fuel (listed.setIfInBounds i true) a' w') (fun a' w' hI' => ⟨hS _ _ _ hI', ih _ a' w' (by simp [hs]) (by
      have := count_set_true listed.toList i (ready_listed hi)
      rw [Array.toList_setIfInBounds]
      omega) (by
      have e : (fun j => (listed.setIfInBounds i true).getD j false) = lset (fun j => listed.getD j false) i := by
        funext j
        by_cases hj : j = i
        · subst hj; rw [lset_same]; simp [hill]
        · rw [lset_ne _ hj]; simp [Ne.symm hj]
      rw [e]; exact hI')⟩)
    unfold wpOp
    simp only [ho]
    split
    · rename_i hw; rw [if_pos hw] at hst; exact Or.inl hst
    · rename_i hw; rw [if_neg hw] at hst; exact hst
end

/-- The places ds of a frame hold these values. -/
def upd (a : Act) (ds : List Nat) (v : Nat → Value) : Act := { a with tmps := ds.foldl (fun t d => t.setIfInBounds d (v d)) a.tmps }

theorem upd_size (ds : List Nat) (v : Nat → Value) : ∀ t : Array Value, (ds.foldl (fun t d => t.setIfInBounds d (v d)) t).size = t.size := by
  induction ds with
  | nil => intro t; rfl
  | cons d ds ih => intro t; rw [List.foldl_cons, ih]; simp

theorem upd_get (ds : List Nat) (v : Nat → Value) : ∀ (t : Array Value) (j : Nat), (ds.foldl (fun t d => t.setIfInBounds d (v d)) t)[j]? = if j ∈ ds ∧ j < t.size then some (v j) else t[j]? := by
  induction ds with
  | nil => intro t j; simp
  | cons d ds ih =>
    intro t j
    rw [List.foldl_cons, ih, Array.size_setIfInBounds, Array.getElem?_setIfInBounds]
    by_cases hj : j < t.size
    · by_cases h1 : j ∈ ds
      · simp [h1, hj]
      · by_cases h2 : j = d
        · subst h2; simp [h1, hj]
        · simp [h1, h2, Ne.symm h2]
    · have hn : t[j]? = none := Array.getElem?_eq_none (by omega)
      by_cases h2 : d = j
      · subst h2; simp [hj]
      · simp [hj, h2]

/-- One of them is put. -/
def vset (v : Nat → Value) (d : Nat) (x : Value) : Nat → Value := fun j => if j = d then x else v j

theorem vset_same (v : Nat → Value) (d : Nat) (x : Value) : vset v d x d = x := by simp [vset]
theorem vset_ne (v : Nat → Value) {d j : Nat} (x : Value) (h : j ≠ d) : vset v d x j = v j := by simp [vset, h]

theorem upd_put (a : Act) (ds : List Nat) (v : Nat → Value) (d : Nat) (x : Value) (hd : d ∈ ds) : (upd a ds v).put (some d) x = upd a ds (vset v d x) := by
  unfold upd Act.put
  simp only [Act.mk.injEq, and_true]
  apply Array.ext_getElem?
  intro j
  rw [Array.getElem?_setIfInBounds, upd_get, upd_get, upd_size]
  by_cases hj : j < a.tmps.size
  · by_cases h : d = j
    · subst h; simp [hj, hd, vset]
    · simp [h, Ne.symm h, vset]
  · have hn : a.tmps[j]? = none := Array.getElem?_eq_none (by omega)
    by_cases h : d = j
    · subst h; simp [hj]
    · simp [hj, h]

theorem upd_eval_in (a : Act) (ds : List Nat) (v : Nat → Value) (t : Nat) (ht : t ∈ ds) (hs : t < a.tmps.size) : (upd a ds v).eval (.tmp t) = v t := by
  have := upd_get ds v a.tmps t
  rw [if_pos ⟨ht, hs⟩] at this
  unfold upd Act.eval
  simp [Array.getD_eq_getD_getElem?, this]

theorem upd_eval_out (a : Act) (ds : List Nat) (v : Nat → Value) (t : Nat) (ht : t ∉ ds) : (upd a ds v).eval (.tmp t) = a.eval (.tmp t) := by
  have := upd_get ds v a.tmps t
  rw [if_neg (fun h => ht h.1)] at this
  unfold upd Act.eval
  simp only [Array.getD_eq_getD_getElem?]
  rw [this]

theorem upd_self (a : Act) (ds : List Nat) : upd a ds (fun j => a.tmps.getD j undef) = a := by
  unfold upd
  cases a with | mk t d => ?_
  simp only [Act.mk.injEq, and_true]
  apply Array.ext_getElem?
  intro j
  rw [upd_get]
  split
  · rename_i h; simp [h.2]
  · rfl

section
variable {P : Program} {Q : Exit → Act → World → Prop}

/-- Each operation of a list keeps what is known. -/
def StepsAll (P : Program) (ops : Array Oper) (Q : Exit → Act → World → Prop) (a0 : Act) (ds : List Nat) (J : (Nat → Bool) → (Nat → Value) → World → Prop) : List Oper → Nat → Prop
  | [], _ => True
  | o :: l, k => (∀ (L : Nat → Bool) (v : Nat → Value) (w : World), L k = false → (∀ e ∈ o.after.toList, Region.binds .any e = true → L e.on = true) → J L v w → ∀ K : Act → World → Prop,
      (∀ a' v' w', a' = upd a0 ds v' → J (lset L k) v' w' → K a' w') → if Region.wanted o (yielded ops (upd a0 ds v).tmps) = true then Oper.wp P o (upd a0 ds v) w K Q else K ((upd a0 ds v).put o.dst undef) w) ∧ StepsAll P ops Q a0 ds J l (k + 1)

theorem StepsAll.get {ops : Array Oper} {a0 : Act} {ds : List Nat} {J : (Nat → Bool) → (Nat → Value) → World → Prop} : ∀ {l : List Oper} {k : Nat}, StepsAll P ops Q a0 ds J l k → ∀ (i : Nat) (o : Oper), l[i]? = some o →
    (∀ (L : Nat → Bool) (v : Nat → Value) (w : World), L (k + i) = false → (∀ e ∈ o.after.toList, Region.binds .any e = true → L e.on = true) → J L v w → ∀ K : Act → World → Prop,
      (∀ a' v' w', a' = upd a0 ds v' → J (lset L (k + i)) v' w' → K a' w') → if Region.wanted o (yielded ops (upd a0 ds v).tmps) = true then Oper.wp P o (upd a0 ds v) w K Q else K ((upd a0 ds v).put o.dst undef) w)
  | [], _, _, i, o, h => by simp at h
  | o' :: l, k, hs, 0, o, h => by simp at h; subst h; exact hs.1
  | o' :: l, k, hs, i + 1, o, h => by
    have := hs.2.get i o (by simpa using h)
    rw [show k + 1 + i = k + (i + 1) by omega] at this
    exact this

/-- Every operation waits for earlier ones alone. -/
def laterB (ops : Array Oper) : Bool := (List.range ops.size).all fun j => match ops[j]? with | some oj => oj.after.all (fun e => !Region.binds .any e || decide (e.on < j)) | none => true

theorem laterB_spec {ops : Array Oper} (h : laterB ops = true) : ∀ (j : Nat) (oj : Oper), ops[j]? = some oj → ∀ e ∈ oj.after, Region.binds .any e = true → e.on < j := fun j oj hj e he hb => by
  have hlt : j < ops.size := (Array.getElem?_eq_some_iff.1 hj).1
  unfold laterB at h
  have := List.all_eq_true.1 h j (by simpa using hlt)
  rw [hj] at this
  simp only [Array.all_eq_true_iff_forall_mem, Bool.or_eq_true, Bool.not_eq_true', decide_eq_true_eq] at this
  exact (this e he).resolve_left (by simp [hb])

theorem wp_region_inv {id : Nat} {l : List Oper} {a0 : Act} {w : World} (ds : List Nat) (J : (Nat → Bool) → (Nat → Value) → World → Prop) (hm : P.follows .mixedOrders = true) (hB : laterB l.toArray = true)
    (h0 : ∀ v, J (fun _ => false) v w.drew) (hs : StepsAll P l.toArray Q a0 ds J l 0) (fin : ∀ L v w', (∀ i, i < l.length → L i = true) → J L v w' → Q .normal (upd a0 ds v) w') : (Code.region id l.toArray true).wp P Q a0 w := by
  refine wp_region_any hm ?_
  refine wpAny_inv (laterB_spec hB) (fun L a w' => ∃ v, a = upd a0 ds v ∧ J L v w') ?_ ?_ _ _ _ _ (by simp) (by simp) ⟨fun j => a0.tmps.getD j undef, (upd_self a0 ds).symm, ?_⟩
  · rintro i o ho L a w' hi hd ⟨v, rfl, hJ⟩ K hK
    have := hs.get i o (by simpa using ho) L v w' (by simpa using hi) (fun e he hb => hd e (by simpa using he) hb) hJ K (fun a' v' w'' e h => hK a' w'' ⟨v', e, by simpa using h⟩)
    exact this
  · rintro L a w' hL ⟨v, rfl, hJ⟩
    exact fin L v w' (fun i hi => hL i (by simpa using hi)) hJ
  · have e : (fun j => (Array.replicate l.toArray.size false).getD j false) = fun _ => false := by funext j; simp [Array.getD]
    rw [e]; exact h0 _

/-- .. behind operations that were taken first. -/
theorem wpAnyH_vals {S : World → Prop} {l : List Oper} {a0 : Act} {w : World} {fuel : Nat} {listed : Array Bool} (ds : List Nat) (J : (Nat → Bool) → (Nat → Value) → World → Prop) (hB : laterB l.toArray = true) (hn : listed.size = l.length) (hc : listed.toList.count false ≤ fuel)
    (h0 : ∀ v, J (fun j => listed.getD j false) v w) (hS : ∀ L v w, J L v w → S w) (hs : StepsAll P l.toArray Q a0 ds J l 0) (fin : ∀ L v w', (∀ i, i < l.length → L i = true) → J L v w' → Q .normal (upd a0 ds v) w') : wpAnyH P .any l.toArray Q S fuel listed a0 w := by
  refine wpAnyH_inv (laterB_spec hB) (fun L a w' => ∃ v, a = upd a0 ds v ∧ J L v w') (fun L a w' ⟨v, _, h⟩ => hS L v w' h) ?_ ?_ _ _ _ _ (by simpa using hn) hc ⟨fun j => a0.tmps.getD j undef, (upd_self a0 ds).symm, h0 _⟩
  · rintro i o ho L a w' hi hd ⟨v, rfl, hJ⟩ K hK
    have := hs.get i o (by simpa using ho) L v w' (by simpa using hi) (fun e he hb => hd e (by simpa using he) hb) hJ K (fun a' v' w'' e h => hK a' w'' ⟨v', e, by simpa using h⟩)
    exact this
  · rintro L a w' hL ⟨v, rfl, hJ⟩
    exact fin L v w' (fun i hi => hL i (by simpa using hi)) hJ

/-- The places of a frame that hold rows: each with the operation that makes the row, and the one that takes it. -/
def liveAt (keys : List (Nat × Nat × Nat)) (L : Nat → Bool) (d : Nat) : Prop := ∃ j c, (d, j, c) ∈ keys ∧ L j = true ∧ L c = false
end
end Go.Proofs.Ytlikmphjocjmeaa

/-
  Rows of one's own that a statement makes and appends to, in whatever order: each is as it is said, and no two share memory. Plain laws.
-/
namespace Go.Proofs.Ytlikmphjocjmeaa
open Go.RowKit
set_option linter.unusedVariables false

/-- What a list to be appended holds, and where it lies; it may be nil. -/
structure Src (W : World) (size : Nat) (x : Value) (m : Nat) (news : List Value) : Prop where
  len : news.length = m * size
  one : ∀ u ∈ news, u.oneCell' = true
  lies : (∃ c, x = .slice none 0 c ∧ m = 0) ∨ ∃ ad c, x = .slice (some ad) m c ∧ ∀ j u, news[j]? = some u → W.cell? (ad.add j) = some u

theorem run_append_none {P : Program} (w : World) (base : Nat) (t ty e : TypeId) (i : TypeInfo) (size : Nat) (ht : P.underlying t = some (.slice e)) (hi : P.info? e = some i)
    (v : Value) (n : Nat) (xs : List Value) (hown : w.ownsRow base e size v n xs) (c : Nat) :
    (Builtin.append_ #[t, t] ty #[v, .slice none 0 c]).run P w = .ok v w := by
  rcases hown.2 with ⟨rfl, rfl⟩ | ⟨g, cap, cur, rfl, _, _, hnc, _⟩
  · simp [Builtin.append_, run_underlying ht, sizeOf, typeInfo, hi, Builtin.lenOf, Builtin.firstCells]
  · simp [Builtin.append_, run_underlying ht, sizeOf, typeInfo, hi, Builtin.lenOf, Builtin.firstCells, hnc, storeCells]

theorem run_append_src {P : Program} (w : World) (base : Nat) (t ty e : TypeId) (i : TypeInfo) (z : Value) (size bytes : Nat) (ht : P.underlying t = some (.slice e)) (hi : P.info? e = some i) (hz : i.zero = some z)
    (hsize : i.size = size) (hby : i.bytes = bytes) (hzs : z.cells.size = size) (hsz : 0 < size)
    (v : Value) (n : Nat) (xs : List Value) (hown : w.ownsRow base e size v n xs) (x : Value) (m : Nat) (news : List Value) (hx : Src w size x m news)
    (h63 : n + m ≤ maxLen) (hbytes : (n + m) * bytes ≤ 140737488355328) (hbase : base ≤ w.heap.size) :
    ∃ v' w', (Builtin.append_ #[t, t] ty #[v, x]).run P w = .ok v' w' ∧ w'.ownsRow base e size v' (n + m) (xs ++ news) ∧ w.grownBy w' v.ownBlock ∧
      (v' = .slice none 0 0 ↔ v = .slice none 0 0 ∧ m = 0) ∧ (v'.ownBlock = v.ownBlock ∨ v'.ownBlock = some w.heap.size) := by
  rcases hx.lies with ⟨c, rfl, rfl⟩ | ⟨ad, c, rfl, hc⟩
  · have hn : news = [] := List.length_eq_zero_iff.1 (by have := hx.len; omega)
    subst hn
    exact ⟨v, w, run_append_none w base t ty e i size ht hi v n xs hown c, by simpa using hown, ⟨rfl, rfl, rfl, Nat.le_refl _, fun _ _ _ => rfl⟩, by simp, Or.inl rfl⟩
  · exact run_append_own_at w base t ty e i z size bytes ht hi hz hsize hby hzs hsz v n xs hown ad m c news hx.len hc hx.one h63 hbytes hbase

theorem wp_append_src {P : Program} {o : Oper} {a : Act} {w : World} {K : Act → World → Prop} {Q : Exit → Act → World → Prop} (s y : Operand) (t : TypeId)
    (ho : o.op = .call { callee := .builtin .append, args := #[s, y], argTypes := #[t, t] })
    (base : Nat) (e : TypeId) (i : TypeInfo) (z : Value) (size bytes : Nat) (ht : P.underlying t = some (.slice e)) (hi : P.info? e = some i) (hz : i.zero = some z)
    (hsize : i.size = size) (hby : i.bytes = bytes) (hzs : z.cells.size = size) (hsz : 0 < size)
    (v : Value) (n : Nat) (xs : List Value) (hs : a.eval s = v) (hown : w.ownsRow base e size v n xs) (x : Value) (m : Nat) (news : List Value) (hxe : a.eval y = x) (hx : Src w size x m news)
    (h63 : n + m ≤ maxLen) (hbytes : (n + m) * bytes ≤ 140737488355328) (hbase : base ≤ w.heap.size)
    (h : ∀ v' w', w'.ownsRow base e size v' (n + m) (xs ++ news) → w.grownBy w' v.ownBlock → (v' = .slice none 0 0 ↔ v = .slice none 0 0 ∧ m = 0) → (v'.ownBlock = v.ownBlock ∨ v'.ownBlock = some w.heap.size) → K (a.put o.dst v') w') : o.wp P a w K Q := by
  obtain ⟨v', w', hr, h2, h3, h4, h5⟩ := run_append_src (P := P) w base t o.type e i z size bytes ht hi hz hsize hby hzs hsz v n xs hown x m news hx h63 hbytes hbase
  unfold Oper.wp execOp
  simp only [ho, resolve, invoke, builtin, Sem.run_bind, Sem.run_pure, Result.andThen_ok, List.map_toArray, List.map_cons, List.map_nil, hs, hxe, hr]
  exact h v' w' h2 h3 h4 h5

theorem wpList_append_src {P : Program} {ops : Array Oper} {rest : List Oper} {o : Oper} {a : Act} {w : World} {Q : Exit → Act → World → Prop} (hgd : o.guard = none) (s y : Operand) (t : TypeId)
    (ho : o.op = .call { callee := .builtin .append, args := #[s, y], argTypes := #[t, t] })
    (base : Nat) (e : TypeId) (i : TypeInfo) (z : Value) (size bytes : Nat) (ht : P.underlying t = some (.slice e)) (hi : P.info? e = some i) (hz : i.zero = some z)
    (hsize : i.size = size) (hby : i.bytes = bytes) (hzs : z.cells.size = size) (hsz : 0 < size)
    (v : Value) (n : Nat) (xs : List Value) (hs : a.eval s = v) (hown : w.ownsRow base e size v n xs) (x : Value) (m : Nat) (news : List Value) (hxe : a.eval y = x) (hx : Src w size x m news)
    (h63 : n + m ≤ maxLen) (hbytes : (n + m) * bytes ≤ 140737488355328) (hbase : base ≤ w.heap.size)
    (h : ∀ v' w', w'.ownsRow base e size v' (n + m) (xs ++ news) → w.grownBy w' v.ownBlock → (v' = .slice none 0 0 ↔ v = .slice none 0 0 ∧ m = 0) → (v'.ownBlock = v.ownBlock ∨ v'.ownBlock = some w.heap.size) → wpList P ops Q rest (a.put o.dst v') w') : wpList P ops Q (o :: rest) a w :=
  wpList_plain hgd fun _ hK => wp_append_src s y t ho base e i z size bytes ht hi hz hsize hby hzs hsz v n xs hs hown x m news hxe hx h63 hbytes hbase fun v' w' h2 h3 h4 h5 => hK _ _ (h v' w' h2 h3 h4 h5)

/-- A row: of which elements, how wide, how many, which. -/
structure Rw where
  e : TypeId
  size : Nat
  n : Nat
  xs : List Value

/-- The places d that are live hold such rows, in blocks of their own. -/
structure Rws (B : Nat) (row : Nat → Rw) (live : Nat → Prop) (v : Nat → Value) (w : World) : Prop where
  own : ∀ d, live d → w.ownsRow B (row d).e (row d).size (v d) (row d).n (row d).xs ∧ ∃ b, (v d).ownBlock = some b
  apart : ∀ d d', live d → live d' → d ≠ d' → (v d).ownBlock ≠ (v d').ownBlock

theorem owns_block {w : World} {B : Nat} {e : TypeId} {size n : Nat} {xs : List Value} {v : Value} (h : w.ownsRow B e size v n xs) {b : Nat} (hb : v.ownBlock = some b) : B ≤ b ∧ b < w.heap.size := h.lt b hb

/-- A row comes to be: a new one, or a live one appended to. -/
theorem Rws.step {B : Nat} {row : Nat → Rw} {live live' : Nat → Prop} {v : Nat → Value} {w w' : World} (h : Rws B row live v w) {d : Nat} {x : Value} {r : Option Nat} (hg : w.grownBy w' r)
    (hr : ∀ d', live' d' → d' ≠ d → live d' ∧ (v d').ownBlock ≠ r) (hown : w'.ownsRow B (row d).e (row d).size x (row d).n (row d).xs) {b : Nat} (hx : x.ownBlock = some b) (hb : r = some b ∨ w.heap.size ≤ b) : Rws B row live' (vset v d x) w' := by
  have key : ∀ d', live' d' → d' ≠ d → (v d').ownBlock ≠ some b := fun d' h1 h2 e => by
    obtain ⟨h3, h4⟩ := hr d' h1 h2
    rcases hb with hb | hb
    · exact h4 (e.trans hb.symm)
    · have := (owns_block (h.own d' h3).1 e).2
      omega
  refine ⟨fun d' hl => ?_, fun d1 d2 h1 h2 hne => ?_⟩
  · by_cases e : d' = d
    · subst e; rw [vset_same]; exact ⟨hown, b, hx⟩
    · rw [vset_ne _ _ e]
      obtain ⟨h3, h4⟩ := hr d' hl e
      exact ⟨(h.own d' h3).1.kept hg (Or.inr h4), (h.own d' h3).2⟩
  · by_cases e1 : d1 = d
    · have e2 : d2 ≠ d := fun e => hne (e1.trans e.symm)
      subst e1
      rw [vset_same, vset_ne _ _ e2, hx]
      exact Ne.symm (key d2 h2 e2)
    · by_cases e2 : d2 = d
      · subst e2
        rw [vset_same, vset_ne _ _ e1, hx]
        exact key d1 h1 e1
      · rw [vset_ne _ _ e1, vset_ne _ _ e2]
        exact h.apart d1 d2 (hr d1 h1 e1).1 (hr d2 h2 e2).1 hne

/-- Nothing of the rows turns. -/
theorem Rws.same {B : Nat} {row : Nat → Rw} {live live' : Nat → Prop} {v v' : Nat → Value} {w w' : World} (h : Rws B row live v w) (hl : ∀ d, live' d → live d ∧ v' d = v d) (hw : ∀ d b, live' d → (v d).ownBlock = some b → w'.heap[b]? = w.heap[b]?) : Rws B row live' v' w' := by
  refine ⟨fun d hd => ?_, fun d1 d2 h1 h2 hne => ?_⟩
  · obtain ⟨h1, h2⟩ := hl d hd
    rw [h2]
    obtain ⟨⟨h3, h4⟩, b, h5⟩ := h.own d h1
    refine ⟨⟨h3, ?_⟩, b, h5⟩
    rcases h4 with h4 | ⟨g, cap, cur, hv, hB, hg, hr⟩
    · exact Or.inl h4
    · refine Or.inr ⟨g, cap, cur, hv, hB, ?_, hr⟩
      have : b = g := by rw [hv] at h5; simpa [Value.ownBlock] using h5.symm
      subst this
      exact (hw d b hd h5).trans hg
  · rw [(hl d1 h1).2, (hl d2 h2).2]
    exact h.apart d1 d2 (hl d1 h1).1 (hl d2 h2).1 hne

/-- A row of a literal. -/
theorem owns_lit {w : World} {B : Nat} (hB : B ≤ w.heap.size) (xs : List Value) (e : TypeId) (size n : Nat) (hl : xs.length = n * size) (hn : n ≤ maxLen) : (w.alloc (.cells xs.toArray e)).ownsRow B e size (.slice (some ⟨w.heap.size, 0, none⟩) n n) n xs :=
  ⟨hl, Or.inr ⟨w.heap.size, n, xs.toArray, rfl, hB, Go.Deep.blk_alloc_new _ _, Nat.le_refl _, hn, by simpa using hl, by rw [← hl]; simp⟩⟩

/-- A live row, as a source. -/
theorem owns_src {w : World} {B : Nat} {e : TypeId} {size n : Nat} {xs : List Value} {v : Value} (h : w.ownsRow B e size v n xs) (h1 : ∀ u ∈ xs, u.oneCell' = true) {b : Nat} (hb : v.ownBlock = some b) : Src w size v n xs :=
  ⟨h.1, h1, Or.inr (by
    rcases h.2 with ⟨h0, _⟩ | ⟨g, cap, cur, hv, _⟩
    · rw [h0] at hb; simp [Value.ownBlock] at hb
    · exact ⟨⟨g, 0, none⟩, cap, hv, h.cells (g := g) (by rw [hv]; rfl)⟩)⟩

theorem addr_add (b o j : Nat) : (⟨b, o, none⟩ : Addr).add j = ⟨b, o + j, none⟩ := by unfold Addr.add; split <;> simp_all

theorem IsStrs.src {W : World} {a : Option Addr} {n : Nat} {S : Nat → ByteArray} (h : IsStrs W a n S) (c : Nat) : Src W 1 (.slice a n c) n (strv (lst n S)) := by
  refine ⟨strv_lst n S, strv_one _, ?_⟩
  rcases h with h | ⟨b, off, rfl, hlt, hc⟩
  · subst h
    cases a with
    | none => exact Or.inl ⟨c, rfl, rfl⟩
    | some ad => exact Or.inr ⟨ad, c, rfl, fun j u hu => by simp [strv, lst] at hu⟩
  · refine Or.inr ⟨⟨b, off, none⟩, c, rfl, fun j u hu => ?_⟩
    have hj : j < n := by
      rcases Nat.lt_or_ge j n with e | e
      · exact e
      · rw [List.getElem?_eq_none (by have := strv_lst n S; omega)] at hu; cases hu
    rw [addr_add, hc j hj]
    simp [strv, lst, hj] at hu
    rw [hu]

theorem IsInts.src {W : World} {a : Option Addr} {n : Nat} {Z : Nat → Int} (h : IsInts W a n Z) (c : Nat) : Src W 1 (.slice a n c) n ((List.range n).map fun i => .int .i64 (Z i)) := by
  refine ⟨by simp, fun u hu => by obtain ⟨i, _, rfl⟩ := List.mem_map.1 hu; rfl, ?_⟩
  rcases h with h | ⟨b, off, rfl, hlt, hc⟩
  · subst h
    cases a with
    | none => exact Or.inl ⟨c, rfl, rfl⟩
    | some ad => exact Or.inr ⟨ad, c, rfl, fun j u hu => by simp at hu⟩
  · refine Or.inr ⟨⟨b, off, none⟩, c, rfl, fun j u hu => ?_⟩
    have hj : j < n := by
      rcases Nat.lt_or_ge j n with e | e
      · exact e
      · rw [List.getElem?_eq_none (by simpa using e)] at hu; cases hu
    rw [addr_add, hc j hj]
    simp [hj] at hu
    rw [hu]

theorem Src.of_cells {w w' : World} {size : Nat} {x : Value} {m : Nat} {news : List Value} (h : Src w size x m news) {B : Nat} (hb : Below B w w') (hx : ∀ ad n c, x = .slice (some ad) n c → ad.block < B) : Src w' size x m news :=
  ⟨h.len, h.one, h.lies.imp id fun ⟨ad, c, e, hc⟩ => ⟨ad, c, e, fun j u hu => by
    rw [hb.cell (p := ad.add j) (by
      have h1 := hx ad m c e
      have : (ad.add j).block = ad.block := by unfold Addr.add; split <;> rfl
      omega)]
    exact hc j u hu⟩⟩

/-- What is known within a statement: what was taken first, that nothing old turns, the rows, and values that hang on no memory. -/
structure RJ (taken : List Nat) (W : World) (row : Nat → Rw) (keys : List (Nat × Nat × Nat)) (plain : List (Nat × Nat × Value)) (L : Nat → Bool) (v : Nat → Value) (w : World) : Prop where
  taken : ∀ j ∈ taken, L j = true
  none : L 99 = false
  bel : Below W.heap.size W w
  rws : Rws W.heap.size row (liveAt keys L) v w
  plain : ∀ t ∈ plain, L t.1 = true → v t.2.1 = t.2.2

section
variable {taken : List Nat} {W : World} {row : Nat → Rw} {keys : List (Nat × Nat × Nat)} {plain : List (Nat × Nat × Value)} {L : Nat → Bool} {v : Nat → Value} {w w' : World}

theorem RJ.start (hb : Below W.heap.size W w) (ht : ∀ j ∈ taken, L j = true) (hn : L 99 = false) (hk : ∀ t ∈ keys, L t.2.1 = false) (hp : ∀ t ∈ plain, L t.1 = false) : RJ taken W row keys plain L v w :=
  ⟨ht, hn, hb, ⟨fun d ⟨j, c, h1, h2, h3⟩ => by have := hk _ h1; simp_all, fun d d' ⟨j, c, h1, h2, h3⟩ => by have := hk _ h1; simp_all⟩, fun t h1 h2 => by have := hp t h1; simp_all⟩

theorem lset_true {i j : Nat} (h : L j = true) : lset L i j = true := by simp [lset, h]
theorem lset_false {i j : Nat} (h : lset L i j = false) : L j = false ∧ j ≠ i := by simp [lset] at h; exact ⟨h.2, h.1⟩
theorem lset_cases {i j : Nat} (h : lset L i j = true) : j = i ∨ L j = true := by simpa [lset] using h

/-- A row comes to be. -/
theorem RJ.rowStep (h : RJ taken W row keys plain L v w) {k d : Nat} {x : Value} {r : Option Nat} (hg : w.grownBy w' r) (hbel : Below W.heap.size W w') (hk : ∀ t ∈ keys, t.2.1 = k → t.1 = d) (hp : ∀ t ∈ plain, t.1 ≠ k ∧ t.2.1 ≠ d) (h99 : 99 ≠ k)
    (hr : ∀ d', liveAt keys (lset L k) d' → d' ≠ d → (v d').ownBlock ≠ r) (hown : w'.ownsRow W.heap.size (row d).e (row d).size x (row d).n (row d).xs) {b : Nat} (hx : x.ownBlock = some b) (hb : r = some b ∨ w.heap.size ≤ b) : RJ taken W row keys plain (lset L k) (vset v d x) w' :=
  ⟨fun j hj => lset_true (h.taken j hj), by rw [lset_ne _ h99]; exact h.none, hbel, h.rws.step hg (fun d' hl hne => ⟨by
    obtain ⟨j, c, h1, h2, h3⟩ := hl
    have hj : j ≠ k := fun e => hne (hk _ h1 e)
    rw [lset_ne _ hj] at h2
    exact ⟨j, c, h1, h2, (lset_false h3).1⟩, hr d' hl hne⟩) hown hx hb, fun t h1 h2 => by
    obtain ⟨h3, h4⟩ := hp t h1
    rw [lset_ne _ h3] at h2
    rw [vset_ne _ _ h4]
    exact h.plain t h1 h2⟩

theorem RJ.gone (h : RJ taken W row keys plain L v w) {k : Nat} (hk : k ∈ taken) (h0 : L k = false) {A : Prop} : A := by
  have := h.taken k hk
  rw [h0] at this
  cases this

/-- A new row. -/
theorem RJ.make (h : RJ taken W row keys plain L v w) {k d : Nat} (hk : ∀ t ∈ keys, t.2.1 = k → t.1 = d) (hp : ∀ t ∈ plain, t.1 ≠ k ∧ t.2.1 ≠ d) (h99 : 99 ≠ k) {xs : List Value} {n : Nat} {e : TypeId} {size : Nat} (hrow : row d = ⟨e, size, n, xs⟩) (hl : xs.length = n * size) (hn : n ≤ maxLen) :
    RJ taken W row keys plain (lset L k) (vset v d (.slice (some ⟨w.heap.size, 0, .none⟩) n n)) (w.alloc (.cells xs.toArray e)) :=
  h.rowStep (r := .none) (b := w.heap.size) (World.grownBy_alloc w _ _) (h.bel.alloc h.bel.size _) hk hp h99 (fun d' ⟨j, c, h1, h2, h3⟩ hne => by
    have hj : j ≠ k := fun e => hne (hk _ h1 e)
    rw [lset_ne _ hj] at h2
    obtain ⟨b, hb⟩ := (h.rws.own d' ⟨j, c, h1, h2, (lset_false h3).1⟩).2
    rw [hb]; simp) (by rw [hrow]; exact owns_lit h.bel.size xs e size n hl hn) rfl (Or.inr (Nat.le_refl _))

/-- A row is appended to. -/
theorem RJ.app (h : RJ taken W row keys plain L v w) {k d s : Nat} {x : Value} (hs : liveAt keys L s) (hsk : ∀ t ∈ keys, t.1 = s → t.2.2 = k) (hg : w.grownBy w' (v s).ownBlock) (hk : ∀ t ∈ keys, t.2.1 = k → t.1 = d) (hp : ∀ t ∈ plain, t.1 ≠ k ∧ t.2.1 ≠ d) (h99 : 99 ≠ k)
    (hown : w'.ownsRow W.heap.size (row d).e (row d).size x (row d).n (row d).xs) (hat : x.ownBlock = (v s).ownBlock ∨ x.ownBlock = some w.heap.size) : RJ taken W row keys plain (lset L k) (vset v d x) w' := by
  obtain ⟨b, hb⟩ := (h.rws.own s hs).2
  have hlt := owns_block (h.rws.own s hs).1 hb
  have hbel : Below W.heap.size W w' := h.bel.grown hg h.bel.size (fun b' e => by rw [hb] at e; cases e; exact hlt.1)
  have hbx : ∃ b', x.ownBlock = some b' ∧ ((v s).ownBlock = some b' ∨ w.heap.size ≤ b') := by
    rcases hat with e | e
    · exact ⟨b, e.trans hb, Or.inl hb⟩
    · exact ⟨_, e, Or.inr (Nat.le_refl _)⟩
  obtain ⟨b', hb1, hb2⟩ := hbx
  exact h.rowStep hg hbel hk hp h99 (fun d' ⟨j, c, h1, h2, h3⟩ hne => by
    have hj : j ≠ k := fun e => hne (hk _ h1 e)
    rw [lset_ne _ hj] at h2
    obtain ⟨h4, h5⟩ := lset_false h3
    exact h.rws.apart d' s ⟨j, c, h1, h2, h4⟩ hs (fun e => h5 (hsk _ h1 e))) hown hb1 hb2

/-- A value that hangs on no memory. -/
theorem RJ.value (h : RJ taken W row keys plain L v w) {k d : Nat} {x : Value} (hk : ∀ t ∈ keys, t.2.1 ≠ k ∧ t.1 ≠ d) (h99 : 99 ≠ k) (hp : ∀ t ∈ plain, t.1 = k → t.2.1 = d ∧ t.2.2 = x) (hd : ∀ t ∈ plain, t.1 ≠ k → t.2.1 ≠ d) : RJ taken W row keys plain (lset L k) (vset v d x) w :=
  ⟨fun j hj => lset_true (h.taken j hj), by rw [lset_ne _ h99]; exact h.none, h.bel, h.rws.same (fun d' ⟨j, c, h1, h2, h3⟩ => by
    obtain ⟨h4, h5⟩ := hk _ h1
    rw [lset_ne _ h4] at h2
    exact ⟨⟨j, c, h1, h2, (lset_false h3).1⟩, vset_ne _ _ h5⟩) (fun _ _ _ _ => rfl), fun t h1 h2 => by
    by_cases e : t.1 = k
    · obtain ⟨h3, h4⟩ := hp t h1 e
      rw [h3, vset_same, h4]
    · rw [lset_ne _ e] at h2
      rw [vset_ne _ _ (hd t h1 e)]
      exact h.plain t h1 h2⟩
end

/-- A row of texts, as a list. -/
theorem ownsRow_strs {w : World} {B g c n : Nat} {T : List ByteArray} (h : w.ownsRow B 9 1 (.slice (some ⟨g, 0, none⟩) n c) n (strv T)) (hn : T.length = n) (hg : g < w.heap.size) : IsStrs w (some ⟨g, 0, none⟩) n (fun i => T.getD i ByteArray.empty) :=
  Or.inr ⟨g, 0, rfl, hg, fun i hi => by
    have := h.cells (g := g) rfl i (.string (T.getD i ByteArray.empty)) (by simp [strv, hn, hi])
    rwa [addr_add] at this⟩

/-- An operation's condition, kept shut. -/
structure OW (P : Program) (o : Oper) (a : Act) (w : World) (K : Act → World → Prop) (Q : Exit → Act → World → Prop) : Prop where
  out : Oper.wp P o a w K Q

/-- .. and what is asked at the end. -/
structure QN (Q : Exit → Act → World → Prop) (a : Act) (w : World) : Prop where
  out : Q .normal a w

/-- Each operation of a list keeps what is known; none has a guard. -/
def StepsP (P : Program) (Q : Exit → Act → World → Prop) (a0 : Act) (ds : List Nat) (J : (Nat → Bool) → (Nat → Value) → World → Prop) : List Oper → Nat → Prop
  | [], _ => True
  | o :: l, k => (∀ (L : Nat → Bool) (v : Nat → Value) (w : World), L k = false → (∀ e ∈ o.after.toList, Region.binds .any e = true → L e.on = true) → J L v w → ∀ K : Act → World → Prop,
      (∀ a' v' w', a' = upd a0 ds v' → J (lset L k) v' w' → K a' w') → OW P o (upd a0 ds v) w K Q) ∧ StepsP P Q a0 ds J l (k + 1)

theorem StepsP.all {P : Program} {ops : Array Oper} {Q : Exit → Act → World → Prop} {a0 : Act} {ds : List Nat} {J : (Nat → Bool) → (Nat → Value) → World → Prop} : ∀ {l : List Oper} {k : Nat}, (l.all fun o => o.guard.isNone) = true → StepsP P Q a0 ds J l k → StepsAll P ops Q a0 ds J l k
  | [], _, _, _ => trivial
  | o :: l, k, hg, h => by
    simp only [List.all_cons, Bool.and_eq_true] at hg
    refine ⟨fun L v w h0 hd hJ K hK => ?_, StepsP.all hg.2 h.2⟩
    have hw : Region.wanted o (yielded ops (upd a0 ds v).tmps) = true := by
      have : o.guard = none := by simpa using hg.1
      simp [Region.wanted, this]
    rw [if_pos hw]
    exact (h.1 L v w h0 hd hJ K hK).out

theorem wpAnyH_plain {P : Program} {Q : Exit → Act → World → Prop} {S : World → Prop} {l : List Oper} {a0 : Act} {w : World} {fuel : Nat} {listed : Array Bool} (ds : List Nat) (J : (Nat → Bool) → (Nat → Value) → World → Prop) (hB : laterB l.toArray = true) (hg : (l.all fun o => o.guard.isNone) = true) (hn : listed.size = l.length) (hc : listed.toList.count false ≤ fuel)
    (h0 : ∀ v, J (fun j => listed.getD j false) v w) (hS : ∀ L v w, J L v w → S w) (hs : StepsP P Q a0 ds J l 0) (fin : ∀ L v w', (∀ i, i < l.length → L i = true) → J L v w' → QN Q (upd a0 ds v) w') : wpAnyH P .any l.toArray Q S fuel listed a0 w :=
  wpAnyH_vals ds J hB hn hc h0 hS (StepsP.all hg hs) (fun L v w' h1 h2 => (fin L v w' h1 h2).out)

theorem listed_none (md : Region.Mode) (ops : Array Oper) : ListedOk md ops (Array.replicate ops.size false) := ⟨by simp, fun j oj hj hl e he hbn => by
    rw [Array.getD_eq_getD_getElem?, Array.getElem?_replicate] at hl
    split at hl <;> cases hl⟩

theorem wpAny_peel1 {P : Program} {Q : Exit → Act → World → Prop} {ops : Array Oper} {a : Act} {w : World} (o : Oper) (hb : ops.back? = some o) (hok : peelOk .any ops.pop o = true) (h : wpAny P .any ops.pop (Peel P o Q) ops.pop.size (Array.replicate ops.pop.size false) a w) : wpAny P .any ops Q ops.size (Array.replicate ops.size false) a w := by
  have hp := push_pop hb
  have := wpAny_peel (Q := Q) (P := P) (peelOk_spec hok) ops.pop.size (Array.replicate ops.pop.size false) a w (listed_none _ _) h
  have e1 : (Array.replicate ops.pop.size false).push false = Array.replicate ops.size false := by
    rw [← hp]; simp [Array.replicate_succ]
  have e2 : ops.pop.size + 1 = ops.size := by rw [← hp]; simp
  rw [hp, e1, e2] at this
  exact this

/-- The last three operations are cut off. -/
theorem wp_region_peel3 {P : Program} {Q : Exit → Act → World → Prop} {id : Nat} {ops : Array Oper} {a : Act} {w : World} (S : World → Prop) (o1 o2 o3 : Oper) (hm : P.follows .mixedOrders = true) (hb3 : ops.back? = some o3) (hb2 : ops.pop.back? = some o2) (hb1 : ops.pop.pop.back? = some o1)
    (hok3 : peelOk .any ops.pop o3 = true) (hok2 : peelOk .any ops.pop.pop o2 = true) (hok1 : peelOk .any ops.pop.pop.pop o1 = true)
    (hS : S w.drew) (h : S w.drew → wpAnyH P .any ops.pop.pop.pop (Peel P o1 (Peel P o2 (Peel P o3 Q))) S ops.pop.pop.pop.size (Array.replicate ops.pop.pop.pop.size false) a w.drew) : (Code.region id ops true).wp P Q a w :=
  wp_region_any hm (wpAny_peel1 o3 hb3 hok3 (wpAny_peel1 o2 hb2 hok2 (wpAny_peel1 o1 hb1 hok1 (wpAny_of_held _ _ _ _ (h hS)))))

/-- The last two. -/
theorem wp_region_peel2 {P : Program} {Q : Exit → Act → World → Prop} {id : Nat} {ops : Array Oper} {a : Act} {w : World} (S : World → Prop) (o2 o3 : Oper) (hm : P.follows .mixedOrders = true) (hb3 : ops.back? = some o3) (hb2 : ops.pop.back? = some o2)
    (hok3 : peelOk .any ops.pop o3 = true) (hok2 : peelOk .any ops.pop.pop o2 = true)
    (hS : S w.drew) (h : S w.drew → wpAnyH P .any ops.pop.pop (Peel P o2 (Peel P o3 Q)) S ops.pop.pop.size (Array.replicate ops.pop.pop.size false) a w.drew) : (Code.region id ops true).wp P Q a w :=
  wp_region_any hm (wpAny_peel1 o3 hb3 hok3 (wpAny_peel1 o2 hb2 hok2 (wpAny_of_held _ _ _ _ (h hS))))

theorem wpAnyH_act {P : Program} {md : Region.Mode} {ops : Array Oper} {Q : Exit → Act → World → Prop} {S : World → Prop} {fuel : Nat} {listed : Array Bool} {a : Act} {w : World} (h : ∀ a0, a0 = a → wpAnyH P md ops Q S fuel listed a0 w) : wpAnyH P md ops Q S fuel listed a w := h a rfl
end Go.Proofs.Ytlikmphjocjmeaa

/-
  Single operations of a statement, at a frame of which only so much is said.
-/
namespace Go.Proofs.Ytlikmphjocjmeaa
open Go.RowKit
set_option linter.unusedVariables false

theorem step_of {P : Program} {ops : Array Oper} {o : Oper} {a : Act} {w : World} {K : Act → World → Prop} {Q : Exit → Act → World → Prop} {E : Prop} (hgd : o.guard = none) (h : o.wp P a w K Q) : if Region.wanted o (yielded ops a.tmps) = true then Oper.wp P o a w K Q else E := by
  have hw : Region.wanted o (yielded ops a.tmps) = true := by simp [Region.wanted, hgd]
  rw [if_pos hw]; exact h

theorem eval_tmp {a : Act} {t : Nat} {v : Value} (h : a.eval (.tmp t) = v) : a.tmps[t]?.getD undef = v := by
  rw [← h]; unfold Act.eval; simp [Array.getD_eq_getD_getElem?]

section
variable {d : Nat} {ty : TypeId} {pos : String} {af : Array Edge} {gd : Option (Nat × Bool)} {a : Act} {w : World} {K : Act → World → Prop} {Q : Exit → Act → World → Prop}

theorem wp_strs0 (h : K (a.put (some d) (.slice (some ⟨w.heap.size, 0, none⟩) 0 0)) (w.alloc (.cells #[] 9))) : Oper.wp Try.prog ⟨some d, .buildSlice 33 0 #[], ty, pos, af, gd⟩ a w K Q := by
  go_simp
  exact h

theorem wp_strs1 {s : ByteArray} (h : K (a.put (some d) (.slice (some ⟨w.heap.size, 0, none⟩) 1 1)) (w.alloc (.cells #[.string s] 9))) : Oper.wp Try.prog ⟨some d, .buildSlice 33 1 #[(0, .const (.string s))], ty, pos, af, gd⟩ a w K Q := by
  go_simp
  exact h

theorem wp_ints0 (h : K (a.put (some d) (.slice (some ⟨w.heap.size, 0, none⟩) 0 0)) (w.alloc (.cells #[] 3))) : Oper.wp Try.prog ⟨some d, .buildSlice 34 0 #[], ty, pos, af, gd⟩ a w K Q := by
  go_simp
  exact h

theorem wp_ints1 {t : Nat} {z : Int} (hx : a.eval (.tmp t) = .int .i64 z) (h : K (a.put (some d) (.slice (some ⟨w.heap.size, 0, none⟩) 1 1)) (w.alloc (.cells #[.int .i64 z] 3))) : Oper.wp Try.prog ⟨some d, .buildSlice 34 1 #[(0, .tmp t)], ty, pos, af, gd⟩ a w K Q := by
  have hx' := eval_tmp hx
  go_simp
  exact h

theorem wp_node0 {t g n c : Nat} (hx : a.eval (.tmp t) = .slice (some ⟨g, 0, none⟩) n c) (hn : 0 < n) (h : K (a.put (some d) (.pointer (some ⟨g, 0, none⟩))) w) : Oper.wp Try.prog ⟨some d, .indexAddr 23 (.tmp t) (.const (.int .i64 0)), ty, pos, af, gd⟩ a w K Q := by
  have hx' := eval_tmp hx
  go_simp
  exact h

theorem wp_field2 {t g : Nat} (hx : a.eval (.tmp t) = .pointer (some ⟨g, 0, none⟩)) (h : K (a.put (some d) (.pointer (some ⟨g, 2, none⟩))) w) : Oper.wp Try.prog ⟨some d, .fieldAddr 36 (.tmp t) 2, ty, pos, af, gd⟩ a w K Q := by
  have hx' := eval_tmp hx
  go_simp
  exact h
end
end Go.Proofs.Ytlikmphjocjmeaa

/-
  What l2Copy gives: a place in new memory.
-/
namespace Go.Proofs.Ytlikmphjocjmeaa
open Go.RowKit Go.Deep
set_option linter.unusedVariables false

def intv0 (n : Nat) (Z : Nat → Int) : List Value := (List.range n).map fun i => .int .i64 (Z i)

/-- A place whose lists lie in new memory of their own. -/
structure NewNd (w : World) (d : Nd) (l : Loc) (W : World) : Prop where
  bel : Below w.heap.size w W
  names : W.ownsRow w.heap.size 9 1 (.slice l.nA d.nn l.nc) d.nn (strv (lst d.nn d.names))
  kids : W.ownsRow w.heap.size 3 1 (.slice l.kA d.kn l.kc) d.kn (intv0 d.kn d.kids)
  nA : ∃ b, l.nA = some ⟨b, 0, none⟩ ∧ w.heap.size ≤ b ∧ b < W.heap.size
  kA : ∃ b, l.kA = some ⟨b, 0, none⟩ ∧ w.heap.size ≤ b ∧ b < W.heap.size
  apart : ∀ b b', l.nA = some ⟨b, 0, none⟩ → l.kA = some ⟨b', 0, none⟩ → b ≠ b'

theorem NewNd.lies {w : World} {d : Nd} {l : Loc} {W : World} (h : NewNd w d l W) : NdIn W d l := by
  obtain ⟨b, e, _, hb⟩ := h.nA
  obtain ⟨b', e', _, hb'⟩ := h.kA
  have h1 := h.names
  have h2 := h.kids
  rw [e] at h1
  rw [e'] at h2
  unfold NdIn
  rw [e, e']
  refine ⟨(ownsRow_strs h1 (lst_length _ _) hb).congr (fun i hi => lst_getD _ _ _ hi), Or.inr ⟨b', 0, rfl, hb', fun i hi => ?_⟩⟩
  have := h2.cells (g := b') rfl i (.int .i64 (d.kids i)) (by simp [intv0, hi])
  rwa [addr_add] at this

theorem grown_cell (w : World) (b k : Nat) (v : Value) : w.grownBy (w.setCell ⟨b, k, none⟩ v) (some b) :=
  ⟨rfl, rfl, rfl, by simp [World.setCell], fun j _ hne => blk_setCell_other _ _ _ _ (fun e => hne (by rw [e]))⟩

theorem owns_lower {w : World} {B B' : Nat} {e : TypeId} {size n : Nat} {xs : List Value} {v : Value} (h : w.ownsRow B e size v n xs) (hB : B' ≤ B) : w.ownsRow B' e size v n xs :=
  ⟨h.1, h.2.imp id fun ⟨g, cap, cur, hv, hb, hr⟩ => ⟨g, cap, cur, hv, Nat.le_trans hB hb, hr⟩⟩

/-- A cell of a block that neither list lies in is written. -/
theorem NewNd.set {w : World} {d : Nd} {l : Loc} {W : World} (h : NewNd w d l W) {q k : Nat} {v : Value} (hq : w.heap.size ≤ q) (h1 : ∀ b, l.nA = some ⟨b, 0, none⟩ → b ≠ q) (h2 : ∀ b, l.kA = some ⟨b, 0, none⟩ → b ≠ q) : NewNd w d l (W.setCell ⟨q, k, none⟩ v) := by
  have hs : (W.setCell ⟨q, k, none⟩ v).heap.size = W.heap.size := by simp [World.setCell]
  obtain ⟨b, e, hb⟩ := h.nA
  obtain ⟨b', e', hb'⟩ := h.kA
  refine ⟨bel_put h.bel v hq, h.names.kept (grown_cell W q k v) (Or.inr ?_), h.kids.kept (grown_cell W q k v) (Or.inr ?_), ⟨b, e, by rw [hs]; exact hb⟩, ⟨b', e', by rw [hs]; exact hb'⟩, h.apart⟩
  · rw [e]; intro he; simp [Value.ownBlock] at he; exact h1 b e he
  · rw [e']; intro he; simp [Value.ownBlock] at he; exact h2 b' e' he

theorem owned_form {w : World} {B : Nat} {e : TypeId} {size n : Nat} {xs : List Value} {v : Value} (h : w.ownsRow B e size v n xs) {b : Nat} (hb : v.ownBlock = some b) : ∃ c, v = .slice (some ⟨b, 0, none⟩) n c ∧ B ≤ b ∧ b < w.heap.size := by
  have hlt := owns_block h hb
  rcases h.2 with ⟨h0, _⟩ | ⟨g, cap, cur, hv, _⟩
  · rw [h0] at hb; simp [Value.ownBlock] at hb
  · rw [hv] at hb
    simp [Value.ownBlock] at hb
    subst hb
    exact ⟨cap, hv, hlt.1, hlt.2⟩
end Go.Proofs.Ytlikmphjocjmeaa

/-
  A statement whose order is drawn, with a value that is built of rows: what is known within it. Plain laws.
-/
namespace Go.Proofs.Ytlikmphjocjmeaa
open Go.RowKit
set_option linter.unusedVariables false

/-- As RJ, and operation kb builds place db out of places that others made. -/
structure RJB (taken : List Nat) (W : World) (row : Nat → Rw) (keys : List (Nat × Nat × Nat)) (plain : List (Nat × Nat × Value)) (kb db : Nat) (needs : List (Nat × Nat)) (F : (Nat → Value) → Value) (L : Nat → Bool) (v : Nat → Value) (w : World) : Prop where
  rj : RJ taken W row keys plain L v w
  built : L kb = true → (∀ t ∈ needs, L t.1 = true) ∧ v db = F v

section
variable {taken : List Nat} {W : World} {row : Nat → Rw} {keys : List (Nat × Nat × Nat)} {plain : List (Nat × Nat × Value)} {kb db : Nat} {needs : List (Nat × Nat)} {F : (Nat → Value) → Value} {L : Nat → Bool} {v : Nat → Value} {w w' : World}

theorem RJB.start (h : RJ taken W row keys plain L v w) (hb : L kb = false) : RJB taken W row keys plain kb db needs F L v w := ⟨h, fun e => by rw [hb] at e; cases e⟩

theorem RJB.keep (h : RJB taken W row keys plain kb db needs F L v w) {k d : Nat} {x : Value} (h0 : L k = false) (hk : kb ≠ k) (hd : db ≠ d) (hn : ∀ t ∈ needs, t.2 = d → t.1 = k) (hF : ∀ v v' : Nat → Value, (∀ t ∈ needs, v' t.2 = v t.2) → F v' = F v) (h' : RJ taken W row keys plain (lset L k) (vset v d x) w') : RJB taken W row keys plain kb db needs F (lset L k) (vset v d x) w' :=
  ⟨h', fun e => by
    rw [lset_ne _ hk] at e
    obtain ⟨h1, h2⟩ := h.built e
    refine ⟨fun t ht => lset_true (h1 t ht), ?_⟩
    rw [vset_ne _ _ hd, h2]
    refine (hF v _ fun t ht => vset_ne _ _ fun e2 => ?_).symm
    have := h1 t ht
    rw [hn t ht e2, h0] at this
    cases this⟩

theorem RJB.gone (h : RJB taken W row keys plain kb db needs F L v w) {k : Nat} (hk : k ∈ taken) (h0 : L k = false) {A : Prop} : A := h.rj.gone hk h0

theorem RJB.build (h : RJB taken W row keys plain kb db needs F L v w) (hn : ∀ t ∈ needs, L t.1 = true) (hd : ∀ t ∈ needs, t.2 ≠ db) (hF : ∀ v v' : Nat → Value, (∀ t ∈ needs, v' t.2 = v t.2) → F v' = F v) (hk : ∀ t ∈ keys, t.2.1 ≠ kb ∧ t.1 ≠ db) (h99 : 99 ≠ kb) (hp : ∀ t ∈ plain, t.1 ≠ kb ∧ t.2.1 ≠ db) : RJB taken W row keys plain kb db needs F (lset L kb) (vset v db (F v)) w :=
  ⟨h.rj.value hk h99 (fun t ht e => absurd e (hp t ht).1) (fun t ht _ => (hp t ht).2), fun _ => ⟨fun t ht => lset_true (hn t ht), by
    rw [vset_same]
    exact (hF v _ fun t ht => vset_ne _ _ (hd t ht)).symm⟩⟩
end

section
variable {d : Nat} {ty : TypeId} {pos : String} {af : Array Edge} {gd : Option (Nat × Bool)} {a : Act} {w : World} {K : Act → World → Prop} {Q : Exit → Act → World → Prop}

theorem wp_rootM {p q r : Nat} {xa ya : Option Addr} {xn xc yn yc : Nat} {z : Int} (hp : a.eval (.tmp p) = .slice xa xn xc) (hq : a.eval (.tmp q) = .slice ya yn yc) (hr : a.eval (.tmp r) = .int .i64 z) (h : K (a.put (some d) (.agg #[.int .i64 2, .string ByteArray.empty, .slice xa xn xc, .slice ya yn yc, .int .i64 z])) w) : Oper.wp Try.prog ⟨some d, .build 36 #[(0, .const (.int .i64 2)), (2, .tmp p), (3, .tmp q), (4, .tmp r)], ty, pos, af, gd⟩ a w K Q := by
  have hp' := eval_tmp hp
  have hq' := eval_tmp hq
  have hr' := eval_tmp hr
  go_simp
  exact h
end

/-- A row of numbers, as a list. -/
theorem ownsRow_ints {w : World} {B g c n : Nat} {Z : Nat → Int} (h : w.ownsRow B 3 1 (.slice (some ⟨g, 0, none⟩) n c) n (intv0 n Z)) (hg : g < w.heap.size) : IsInts w (some ⟨g, 0, none⟩) n Z :=
  Or.inr ⟨g, 0, rfl, hg, fun i hi => by
    have := h.cells (g := g) rfl i (.int .i64 (Z i)) (by simp [intv0, hi])
    rwa [addr_add] at this⟩

theorem intv0_snoc (n : Nat) (Z : Nat → Int) (z : Int) : intv0 n Z ++ [.int .i64 z] = intv0 (n + 1) (fun i => if i < n then Z i else z) := by
  unfold intv0
  rw [List.range_succ, List.map_append]
  congr 1
  · exact List.map_congr_left fun i hi => by simp at hi; simp [hi]
  · simp

theorem lst_snoc (n : Nat) (S : Nat → ByteArray) (s : ByteArray) : lst n S ++ [s] = lst (n + 1) (fun i => if i < n then S i else s) := by
  unfold lst
  rw [List.range_succ, List.map_append]
  congr 1
  · exact List.map_congr_left fun i hi => by simp at hi; simp [hi]
  · simp
end Go.Proofs.Ytlikmphjocjmeaa

/-
  For every code, FnTreeTwo answers true: a drawn tree in which a file has a name more in the root has one more to it; in which a directory has, is none; and the code reads afterwards as it read before. No condition.
-/
namespace Go.Proofs.Ytlikmphjocjmeaa.fnTreeTwo
open Go.ChangeShapes Go.WideShapes Go.ChangeAt Go.RowKit Go.Deep
set_option linter.unusedVariables false

set_option maxRecDepth 100000 in
set_option maxHeartbeats 16000000 in
theorem walk (a0 : Option Addr) (len0 cap0 : Nat) (zs0 : Nat → Int) (w : World) (hC : IsCode w a0 len0 zs0) (hl : len0 ≤ maxLen) (hp : len0 ≤ cap0) :
    Calls Try.prog 4 #[.slice a0 len0 cap0] w fun e w' => e = .returned (.bool true) ∧ Below w.heap.size w w' := by
  have hl' := hl
  unfold maxLen at hl'
  obtain ⟨i0, hi, hz0, hz1, hz2⟩ := info_parts infoStr
  obtain ⟨j0, hj0, hy0, hy1, hy2⟩ := info_parts infoNode
  obtain ⟨m0, hm, hx0, hx1, hx2⟩ := info_parts infoInt
  by_cases hbig : (1048576 : Int) < len0
  · go_enter Try.func4, Try.ntmps4
    go_wp2
    go_ret
    exact ⟨rfl, Below.refl _ _⟩
  · go_enter Try.func4, Try.ntmps4
    go_wp2_with fail
    refine (drawTreeRefs_any w a0 len0 cap0 zs0 hC hl hp).mono ?_
    rintro e w1 ⟨g, c, n, D, L, now, ino, rfl, hd, hi0, hi1⟩
    unfold trV
    have HFair : Hid (Fair n D) := hd.fair
    have hn11 := hd.fair.few
    have hn1 := hd.fair.some
    have HT : Hid (InT w w1.heap.size g c n D L now (w1.alloc (.cells #[.slice (some ⟨g, 0, none⟩) n c, .int .i64 now] 25))) := InT.start hd
    clear hd hC
    have h64i : In64 ino := by unfold In64; omega
    go_wp2_with fail
    obtain ⟨T, hT⟩ : ∃ T, T = w1.heap.size := ⟨_, rfl⟩
    rw [← hT] at HT ⊢
    clear hT
    refine (implTreeRefs (some ⟨g, 0, none⟩) n c now ino D L _ HT.out.drawn.nds HT.out.drawn.fair.fits HT.out.drawn.fair.len HT.out.drawn.fair.size HT.out.in64 h64i).mono ?_
    rintro e w2 ⟨hb2, r1, rfl, hr1⟩
    have HT2 : Hid (InT w T g c n D L now w2) := HT.out.below hb2
    have HR : Hid (RefsAre n D now ino r1) := hr1
    clear HT hb2 hr1 w1
    have t0 : w2.cell? ⟨T, 0, none⟩ = some (.slice (some ⟨g, 0, none⟩) n c) := HT2.out.t.cell 0
    have t1 : w2.cell? ⟨T, 1, none⟩ = some (.int .i64 now) := HT2.out.t.cell 1
    go_wp2_with fail
    refine (specTreeRefs_any (some ⟨g, 0, none⟩) n c now ino D L w2 HT2.out.drawn.nds HT2.out.drawn.fair.fits HT2.out.drawn.fair.len HT2.out.drawn.fair.size).mono ?_
    rintro e w3 ⟨hb3, r2, rfl, hr2⟩
    have e12 : r2 = r1 := hr2.one HR.out
    subst e12
    have HT3 : Hid (InT w T g c n D L now w3) := HT2.out.below hb3
    clear HT2 hb3 hr2 t0 t1
    have t0 : w3.cell? ⟨T, 0, none⟩ = some (.slice (some ⟨g, 0, none⟩) n c) := HT3.out.t.cell 0
    have t1 : w3.cell? ⟨T, 1, none⟩ = some (.int .i64 now) := HT3.out.t.cell 1
    go_wp2_with fail
    refine (specTreeOk_any (some ⟨g, 0, none⟩) n c now D L w3 HT3.out.drawn.nds HT3.out.drawn.fair.fits HT3.out.drawn.fair.len HT3.out.drawn.fair.size).mono ?_
    rintro e W3 ⟨hb4, ok, rfl, hok⟩
    have HT : Hid (InT w T g c n D L now W3) := HT3.out.below hb4
    clear HT3 hb4 t0 t1
    have t0 : W3.cell? ⟨T, 0, none⟩ = some (.slice (some ⟨g, 0, none⟩) n c) := HT.out.t.cell 0
    have t1 : W3.cell? ⟨T, 1, none⟩ = some (.int .i64 now) := HT.out.t.cell 1
    have HAg : Hid (Calls Try.prog 15 #[.agg #[.slice (some ⟨g, 0, none⟩) n c, .int .i64 now], .int .i64 ino] W3 fun e w' => e = .returned (.int .i64 r2) ∧ Below w.heap.size w w') :=
      (specTreeRefs_any (some ⟨g, 0, none⟩) n c now ino D L W3 HT.out.drawn.nds HT.out.drawn.fair.fits HT.out.drawn.fair.len HT.out.drawn.fair.size).mono fun e w' ⟨h1, r, h2, h3⟩ => ⟨by rw [h2, h3.one HR.out], HT.out.drawn.bel.trans (h1.mono HT.out.drawn.bel.size)⟩
    by_cases hgo : ok = true ∧ 1 ≤ ino ∧ ino < n ∧ (D ino.toNat).kind ≠ 0
    · obtain ⟨rfl, hk1, hk2, hk3⟩ := hgo
      have HG : Hid (TreeGood n D now) := hok.1 rfl
      clear hok HAg
      obtain ⟨k, rfl⟩ : ∃ k : Nat, ino = k := ⟨ino.toNat, by omega⟩
      have hkk : ((k : Int)).toNat = k := by simp
      rw [hkk] at hk3
      clear hkk
      have hk1' : 1 ≤ k := by omega
      have hkn' : k < n := by omega
      have HR2 : Hid (r2 = refsTo D (k : Nat) n) := HR.out.yes HG.out (by omega) (by omega)
      clear HR
      obtain ⟨kd, hkd⟩ : ∃ z, z = (D k).kind := ⟨_, rfl⟩
      have HKd : Hid (kd = (D k).kind) := hkd
      have hkd0 : kd ≠ 0 := by rw [hkd]; exact hk3
      obtain ⟨u0, u1, u2, u3, u4⟩ := HT.out.drawn.own.cells k hkn'
      obtain ⟨v0, v1, v2, v3, v4⟩ := HT.out.drawn.own.cells 0 hn1
      simp only [Nat.zero_mul, Nat.zero_add] at v0 v1 v2 v3 v4
      rw [← hkd] at u0
      clear u1 u2 u3 u4 v0 v1 v3 v4 hkd hk3 hi0 hi1
      have hnn0 : (D 0).nn ≤ 11 := (HFair.out.each 0 hn1).nn
      have hd1 : decide ((k : Int) < 1) = false := by simp; omega
      have hd3 : decide (kd = 0) = false := by simp [hkd0]
      have hd4 : (kd == 0) = false := by simp [hkd0]
      have hd2 : decide ((n : Int) ≤ (k : Int)) = false := by simp; omega
      go_wp2_with fail
      go_loop [6] (fun i => ∃ q : Nat, q ≤ (D 0).nn ∧ i = .int .i64 q ∧ ∀ j, j < q → Op.bytesLess ((D 0).names j).toList zzz.toList = true) (fun i => (D 0).nn - (intOf i).toNat)
      case atStart => exact ⟨0, Nat.zero_le _, rfl, fun j hj => absurd hj (Nat.not_lt_zero _)⟩
      case round =>
        obtain ⟨q, hq, rfl, hall⟩ := hrel
        have HAll : Hid _ := hall
        clear hall
        by_cases hlt : q < (D 0).nn
        · obtain ⟨b, off, hnA, hltb, hcs⟩ := (HT.out.drawn.own.lists 0 hn1).1.1.at (show 0 < (D 0).nn by omega)
          have hcq := hcs q hlt
          have HNA : Hid _ := hnA
          rw [hnA] at v2
          clear hnA hcs
          have hqi : (q : Int) < ((D 0).nn : Int) := by omega
          go_wp2
          · go_ret
            exact ⟨by simp, HT.out.drawn.bel⟩
          · go_round
            case rel => exact ⟨q + 1, by omega, by go_num, fun j hj => by
              by_cases e : j = q
              · subst e
                have h9 : (!Op.bytesLess ((D 0).names j).toList [122, 122, 122]) = false := ‹_›
                rw [zzz_list]
                simpa using h9
              · exact HAll.out j (by omega)⟩
            case measure => simp [intOf]; omega
        · obtain rfl : q = (D 0).nn := by omega
          have HZ : Hid (∀ j, j < (D 0).nn → Op.bytesLess ((D 0).names j).toList zzz.toList = true) := HAll.out
          clear HAll hlt hq
          go_wp2_with fail
          have hTl := HT.out.t.lt
          have hTn0 : T ≠ W3.heap.size := by omega
          have hTn1 : T ≠ W3.heap.size + 1 := by omega
          have hTm0 : W3.heap.size ≠ T := by omega
          have hTm1 : W3.heap.size + 1 ≠ T := by omega
          have hO4 := HT.out.drawn.own
          have hbw : w.heap.size ≤ W3.heap.size := HT.out.drawn.bel.size
          have t0 : W3.cell? ⟨T, 0, none⟩ = some (.slice (some ⟨g, 0, none⟩) n c) := HT.out.t.cell 0
          have t1 : W3.cell? ⟨T, 1, none⟩ = some (.int .i64 now) := HT.out.t.cell 1
          apply wp_cut4 (X := Nat) (Y := Nat) (Z := Nat) (U := Nat) (fun g' c' X e0 W => InC w W3 X g' c' n D L now W)
          · intro key
            have KEY : Hid _ := key
            clear key
            go_region_held3 (fun W' => W'.cell? ⟨T, 0, none⟩ = some (.slice (some ⟨g, 0, none⟩) n c) ∧ W'.cell? ⟨T, 1, none⟩ = some (.int .i64 now)) (go_keep) (first
              | (refine copy_step (wr := W3) (by rfl) _ _ (by rfl) (rgE1 W3) hO4 hbw (by omega) hn1 (by rfl) (by rfl) ?_
                 intro g' c' w7 hO7 hg7 hB7 hgr7 hat7
                 have U0 : w7.cell? ⟨T, 0, none⟩ = some (.slice (some ⟨g, 0, none⟩) n c) := (hB7.cell (p := ⟨T, 0, none⟩) hTl).trans t0
                 have U1 : w7.cell? ⟨T, 1, none⟩ = some (.int .i64 now) := (hB7.cell (p := ⟨T, 1, none⟩) hTl).trans t1
                 have hTn2 : T ≠ w7.heap.size := by have := hB7.size; omega
                 have hTm2 : w7.heap.size ≠ T := by have := hB7.size; omega)
              | (refine copy_step (wr := W3) (by rfl) _ _ (by rfl) (rgE2 W3 _) hO4 hbw (by omega) hn1 (by rfl) (by rfl) ?_
                 intro g' c' w7 hO7 hg7 hB7 hgr7 hat7
                 have U0 : w7.cell? ⟨T, 0, none⟩ = some (.slice (some ⟨g, 0, none⟩) n c) := (hB7.cell (p := ⟨T, 0, none⟩) hTl).trans t0
                 have U1 : w7.cell? ⟨T, 1, none⟩ = some (.int .i64 now) := (hB7.cell (p := ⟨T, 1, none⟩) hTl).trans t1
                 have xb : Blk w7 (W3.heap.size) #[.slice none 0 0, .int .i64 0] 25 := ((Blk.new W3.drew #[.slice none 0 0, .int .i64 0] 25).alloc (.cells #[] 36)).of_block (hgr7.block _ (by first | (simp; done) | (simp; omega)) (by first | (simp; done) | (simp; omega)))
                 have xc0 : w7.cell? ⟨W3.heap.size, 0, none⟩ = some (.slice none 0 0) := xb.cell 0
                 have xc1 : w7.cell? ⟨W3.heap.size, 1, none⟩ = some (.int .i64 0) := xb.cell 1
                 have xf0 := xb.frozen 0
                 have xf1 := xb.frozen 1)
              | (refine copy_step (wr := W3) (by rfl) _ _ (by rfl) ((rgE1 W3).alloc _) hO4 hbw (by omega) hn1 (by rfl) (by rfl) ?_
                 intro g' c' w7 hO7 hg7 hB7 hgr7 hat7
                 have U0 : w7.cell? ⟨T, 0, none⟩ = some (.slice (some ⟨g, 0, none⟩) n c) := (hB7.cell (p := ⟨T, 0, none⟩) hTl).trans t0
                 have U1 : w7.cell? ⟨T, 1, none⟩ = some (.int .i64 now) := (hB7.cell (p := ⟨T, 1, none⟩) hTl).trans t1
                 have xb : Blk w7 (W3.heap.size + 1) #[.slice none 0 0, .int .i64 0] 25 := (blk_second W3).of_block (hgr7.block _ (by first | (simp; done) | (simp; omega)) (by first | (simp; done) | (simp; omega)))
                 have xc0 : w7.cell? ⟨W3.heap.size + 1, 0, none⟩ = some (.slice none 0 0) := xb.cell 0
                 have xc1 : w7.cell? ⟨W3.heap.size + 1, 1, none⟩ = some (.int .i64 0) := xb.cell 1
                 have xf0 := xb.frozen 0
                 have xf1 := xb.frozen 1))
            · have hx := (InX.start (now := now) hO4 hO7 hg7 hB7 (X := w7.heap.size) (by have := hB7.size; omega) (by have := hO7.lt; omega) (W := w7.alloc (.cells #[.slice (some ⟨g', 0, none⟩) n c', .int .i64 now] 25)) (by simp) (fun b h1 h2 => blk_alloc_lt _ _ _ h1) ⟨rfl, rfl, rfl⟩ (Blk.new w7 _ _)).inC
              have HX : Hid _ := hx
              clear hx
              have HF := HX.out.far
              generalize w7.heap.size = X at HX ⊢
              revert HX
              generalize W3.heap.size = e0
              intro HX
              exact KEY.out g' c' X e0 _ HX.out
            · have hx := (InX.start (now := now) hO4 hO7 hg7 hB7 (X := W3.heap.size + 1) (by omega) (hat7.elim (fun e => by omega) (fun e => by simp at e; omega)) (W := (w7.setCell ⟨W3.heap.size + 1, 0, none⟩ (.slice (some ⟨g', 0, none⟩) n c')).setCell ⟨W3.heap.size + 1, 1, none⟩ (.int .i64 now)) (by simp [World.setCell]) (fun b h1 h2 => (blk_setCell_other _ _ _ _ h2).trans (blk_setCell_other _ _ _ _ h2)) ⟨rfl, rfl, rfl⟩ ((xb.set 0 _).set 1 _)).inC
              have HX : Hid _ := hx
              clear hx
              revert HX
              generalize W3.heap.size + 1 = X
              generalize W3.heap.size = e0
              intro HX
              exact KEY.out g' c' X e0 _ HX.out
            · have hx := (InX.start (now := now) hO4 hO7 hg7 hB7 (X := W3.heap.size) (by omega) (hat7.elim (fun e => by omega) (fun e => by simp at e; omega)) (W := (w7.setCell ⟨W3.heap.size, 0, none⟩ (.slice (some ⟨g', 0, none⟩) n c')).setCell ⟨W3.heap.size, 1, none⟩ (.int .i64 now)) (by simp [World.setCell]) (fun b h1 h2 => (blk_setCell_other _ _ _ _ h2).trans (blk_setCell_other _ _ _ _ h2)) ⟨rfl, rfl, rfl⟩ ((xb.set 0 _).set 1 _)).inC
              have HX : Hid _ := hx
              clear hx
              revert HX
              generalize W3.heap.size + 1 = e0
              generalize W3.heap.size = X
              intro HX
              exact KEY.out g' c' X e0 _ HX.out
          intro ga ca Xa ea W3c hC
          have HCa : Hid _ := hC
          have hgT : ga ≠ T := by have := hC.far.2.1; omega
          have hTg : T ≠ ga := Ne.symm hgT
          clear hC t0 t1 hTl hTn0 hTn1 hTm0 hTm1 hO4 hbw
          have t0 : W3c.cell? ⟨T, 0, none⟩ = some (.slice (some ⟨g, 0, none⟩) n c) := (HT.out.below HCa.out.bel).t.cell 0
          have t1 : W3c.cell? ⟨T, 1, none⟩ = some (.int .i64 now) := (HT.out.below HCa.out.bel).t.cell 1
          have x0 : W3c.cell? ⟨Xa, 0, none⟩ = some (.slice (some ⟨ga, 0, none⟩) n ca) := HCa.out.x.cell 0
          obtain ⟨k0, k1, k2, k3, k4⟩ := HCa.out.own.cells 0 hn1
          simp only [Nat.zero_mul, Nat.zero_add] at k0 k1 k2 k3 k4
          have kf0 := HCa.out.own.frozen 0
          have kf1 := HCa.out.own.frozen 1
          have kf2 := HCa.out.own.frozen 2
          have kf3 := HCa.out.own.frozen 3
          have kf4 := HCa.out.own.frozen 4
          have hn0n : 0 < n := hn1
          have hO7 := (HT.out.below HCa.out.bel).drawn.own
          have s2 : W3c.cell? ⟨g, 2, none⟩ = some (.slice (L 0).nA (D 0).nn (L 0).nc) := by have := (hO7.cells 0 hn1).2.2.1; simpa using this
          have s3 : W3c.cell? ⟨g, 3, none⟩ = some (.slice (L 0).kA (D 0).kn (L 0).kc) := by have := (hO7.cells 0 hn1).2.2.2.1; simpa using this
          have s4 : W3c.cell? ⟨g, 4, none⟩ = some (.int .i64 (D 0).turn) := by have := (hO7.cells 0 hn1).2.2.2.2; simpa using this
          have HSrc : Hid (Src W3c 1 (.slice (L 0).nA (D 0).nn (L 0).nc) (D 0).nn (strv (lst (D 0).nn (D 0).names))) := ((hO7.lists 0 hn1).1.1).src _
          have HSrk : Hid (Src W3c 1 (.slice (L 0).kA (D 0).kn (L 0).kc) (D 0).kn (intv0 (D 0).kn (D 0).kids)) := ((hO7.lists 0 hn1).1.2).src _
          have HOff : Hid (∀ ad m c', Value.slice (L 0).nA (D 0).nn (L 0).nc = .slice (some ad) m c' → ad.block < W3c.heap.size) := fun ad m c' e => by
            simp only [Value.slice.injEq] at e
            exact ((hO7.lists 0 hn1).2.1 ad.block ad.off ad.spot e.1).2.2
          have HOfk : Hid (∀ ad m c', Value.slice (L 0).kA (D 0).kn (L 0).kc = .slice (some ad) m c' → ad.block < W3c.heap.size) := fun ad m c' e => by
            simp only [Value.slice.injEq] at e
            exact ((hO7.lists 0 hn1).2.2 ad.block ad.off ad.spot e.1).2.2
          have hnn : (D 0).nn ≤ 100 := by have := (HFair.out.each 0 hn1).nn; omega
          have hkn : (D 0).kn ≤ 100 := by have := (HFair.out.each 0 hn1).kn; omega
          have hTl7 : T < W3c.heap.size := (HT.out.below HCa.out.bel).t.lt
          have hgl7 : g < W3c.heap.size := hO7.lt
          have hXl7 : Xa < W3c.heap.size := HCa.out.x.lt
          have hFF : ∀ v v' : Nat → Value, (∀ t ∈ [(10, 90), (20, 100)], v' t.2 = v t.2) → (fun v : Nat → Value => Value.agg #[.int .i64 2, .string ByteArray.empty, v 90, v 100, .int .i64 (D 0).turn]) v' = (fun v : Nat → Value => Value.agg #[.int .i64 2, .string ByteArray.empty, v 90, v 100, .int .i64 (D 0).turn]) v := fun v v' hv => by
            have h1 := hv (10, 90) (by simp)
            have h2 := hv (20, 100) (by simp)
            simp only at h1 h2 ⊢
            rw [h1, h2]
          clear hO7
          go_wp2_with fail
          refine wp_region_noPanic ?_
          refine wp_region_peel2 (fun W' => W'.cell? ⟨Xa, 0, none⟩ = some (.slice (some ⟨ga, 0, none⟩) n ca) ∧ W'.cell? ⟨T, 0, none⟩ = some (.slice (some ⟨g, 0, none⟩) n c) ∧ W'.cell? ⟨g, 2, none⟩ = some (.slice (L 0).nA (D 0).nn (L 0).nc) ∧ W'.cell? ⟨g, 3, none⟩ = some (.slice (L 0).kA (D 0).kn (L 0).kc) ∧ W'.cell? ⟨g, 4, none⟩ = some (.int .i64 (D 0).turn)) _ _ (by kernel_rfl) rfl rfl (by kernel_rfl) (by kernel_rfl) ?_ (fun hHeld => ?_)
          · exact ⟨x0, t0, s2, s3, s4⟩
          simp only [List.pop_toArray, List.dropLast, List.size_toArray, List.length_cons, List.length_nil, Nat.reduceAdd, Nat.reduceSub, List.getElem_toArray, List.getElem_cons_succ, List.getElem_cons_zero]
          refine peel_take (i := 0) (oi := ?oi0) (v := ?v0) (fun _ _ _ _ _ h => h) hHeld ?hi0 (by kernel_rfl) (by kernel_rfl) (by kernel_rfl) ?hw0 ?hy0 ?rest0
          case hi0 =>
            simp only [List.getElem?_toArray, List.getElem?_cons_zero]
            rfl
          case hw0 => rfl
          case hy0 =>
            intro w hSw
            obtain ⟨s0, s1, s2, s3, s4⟩ := hSw
            go_simp
            try with_reducible rfl
          try simp only [Act.put, List.setIfInBounds_toArray, List.set_cons_zero, List.set_cons_succ]
          refine peel_take (i := 1) (oi := ?oi1) (v := ?v1) (fun _ _ _ _ _ h => h) hHeld ?hi1 (by kernel_rfl) (by kernel_rfl) (by kernel_rfl) ?hw1 ?hy1 ?rest1
          case hi1 =>
            simp only [List.getElem?_toArray, List.getElem?_cons_succ, List.getElem?_cons_zero]
            rfl
          case hw1 => rfl
          case hy1 =>
            intro w hSw
            obtain ⟨s0, s1, s2, s3, s4⟩ := hSw
            go_simp
            try with_reducible rfl
          try simp only [Act.put, List.setIfInBounds_toArray, List.set_cons_zero, List.set_cons_succ]
          refine peel_take (i := 3) (oi := ?oi3) (v := ?v3) (fun _ _ _ _ _ h => h) hHeld ?hi3 (by kernel_rfl) (by kernel_rfl) (by kernel_rfl) ?hw3 ?hy3 ?rest3
          case hi3 =>
            simp only [List.getElem?_toArray, List.getElem?_cons_succ, List.getElem?_cons_zero]
            rfl
          case hw3 => rfl
          case hy3 =>
            intro w hSw
            obtain ⟨s0, s1, s2, s3, s4⟩ := hSw
            go_simp
            try with_reducible rfl
          try simp only [Act.put, List.setIfInBounds_toArray, List.set_cons_zero, List.set_cons_succ]
          refine peel_take (i := 4) (oi := ?oi4) (v := ?v4) (fun _ _ _ _ _ h => h) hHeld ?hi4 (by kernel_rfl) (by kernel_rfl) (by kernel_rfl) ?hw4 ?hy4 ?rest4
          case hi4 =>
            simp only [List.getElem?_toArray, List.getElem?_cons_succ, List.getElem?_cons_zero]
            rfl
          case hw4 => rfl
          case hy4 =>
            intro w hSw
            obtain ⟨s0, s1, s2, s3, s4⟩ := hSw
            go_simp
            try with_reducible rfl
          try simp only [Act.put, List.setIfInBounds_toArray, List.set_cons_zero, List.set_cons_succ]
          refine peel_take (i := 5) (oi := ?oi5) (v := ?v5) (fun _ _ _ _ _ h => h) hHeld ?hi5 (by kernel_rfl) (by kernel_rfl) (by kernel_rfl) ?hw5 ?hy5 ?rest5
          case hi5 =>
            simp only [List.getElem?_toArray, List.getElem?_cons_succ, List.getElem?_cons_zero]
            rfl
          case hw5 => rfl
          case hy5 =>
            intro w hSw
            obtain ⟨s0, s1, s2, s3, s4⟩ := hSw
            go_simp
            try with_reducible rfl
          try simp only [Act.put, List.setIfInBounds_toArray, List.set_cons_zero, List.set_cons_succ]
          refine peel_take (i := 6) (oi := ?oi6) (v := ?v6) (fun _ _ _ _ _ h => h) hHeld ?hi6 (by kernel_rfl) (by kernel_rfl) (by kernel_rfl) ?hw6 ?hy6 ?rest6
          case hi6 =>
            simp only [List.getElem?_toArray, List.getElem?_cons_succ, List.getElem?_cons_zero]
            rfl
          case hw6 => rfl
          case hy6 =>
            intro w hSw
            obtain ⟨s0, s1, s2, s3, s4⟩ := hSw
            go_simp
            try with_reducible rfl
          try simp only [Act.put, List.setIfInBounds_toArray, List.set_cons_zero, List.set_cons_succ]
          refine peel_take (i := 7) (oi := ?oi7) (v := ?v7) (fun _ _ _ _ _ h => h) hHeld ?hi7 (by kernel_rfl) (by kernel_rfl) (by kernel_rfl) ?hw7 ?hy7 ?rest7
          case hi7 =>
            simp only [List.getElem?_toArray, List.getElem?_cons_succ, List.getElem?_cons_zero]
            rfl
          case hw7 => rfl
          case hy7 =>
            intro w hSw
            obtain ⟨s0, s1, s2, s3, s4⟩ := hSw
            go_simp
            try with_reducible rfl
          try simp only [Act.put, List.setIfInBounds_toArray, List.set_cons_zero, List.set_cons_succ]
          refine peel_take (i := 12) (oi := ?oi12) (v := ?v12) (fun _ _ _ _ _ h => h) hHeld ?hi12 (by kernel_rfl) (by kernel_rfl) (by kernel_rfl) ?hw12 ?hy12 ?rest12
          case hi12 =>
            simp only [List.getElem?_toArray, List.getElem?_cons_succ, List.getElem?_cons_zero]
            rfl
          case hw12 => rfl
          case hy12 =>
            intro w hSw
            obtain ⟨s0, s1, s2, s3, s4⟩ := hSw
            go_simp
            try with_reducible rfl
          try simp only [Act.put, List.setIfInBounds_toArray, List.set_cons_zero, List.set_cons_succ]
          refine peel_take (i := 13) (oi := ?oi13) (v := ?v13) (fun _ _ _ _ _ h => h) hHeld ?hi13 (by kernel_rfl) (by kernel_rfl) (by kernel_rfl) ?hw13 ?hy13 ?rest13
          case hi13 =>
            simp only [List.getElem?_toArray, List.getElem?_cons_succ, List.getElem?_cons_zero]
            rfl
          case hw13 => rfl
          case hy13 =>
            intro w hSw
            obtain ⟨s0, s1, s2, s3, s4⟩ := hSw
            go_simp
            try with_reducible rfl
          try simp only [Act.put, List.setIfInBounds_toArray, List.set_cons_zero, List.set_cons_succ]
          refine peel_take (i := 14) (oi := ?oi14) (v := ?v14) (fun _ _ _ _ _ h => h) hHeld ?hi14 (by kernel_rfl) (by kernel_rfl) (by kernel_rfl) ?hw14 ?hy14 ?rest14
          case hi14 =>
            simp only [List.getElem?_toArray, List.getElem?_cons_succ, List.getElem?_cons_zero]
            rfl
          case hw14 => rfl
          case hy14 =>
            intro w hSw
            obtain ⟨s0, s1, s2, s3, s4⟩ := hSw
            go_simp
            try with_reducible rfl
          try simp only [Act.put, List.setIfInBounds_toArray, List.set_cons_zero, List.set_cons_succ]
          refine peel_take (i := 15) (oi := ?oi15) (v := ?v15) (fun _ _ _ _ _ h => h) hHeld ?hi15 (by kernel_rfl) (by kernel_rfl) (by kernel_rfl) ?hw15 ?hy15 ?rest15
          case hi15 =>
            simp only [List.getElem?_toArray, List.getElem?_cons_succ, List.getElem?_cons_zero]
            rfl
          case hw15 => rfl
          case hy15 =>
            intro w hSw
            obtain ⟨s0, s1, s2, s3, s4⟩ := hSw
            go_simp
            try with_reducible rfl
          try simp only [Act.put, List.setIfInBounds_toArray, List.set_cons_zero, List.set_cons_succ]
          refine peel_take (i := 16) (oi := ?oi16) (v := ?v16) (fun _ _ _ _ _ h => h) hHeld ?hi16 (by kernel_rfl) (by kernel_rfl) (by kernel_rfl) ?hw16 ?hy16 ?rest16
          case hi16 =>
            simp only [List.getElem?_toArray, List.getElem?_cons_succ, List.getElem?_cons_zero]
            rfl
          case hw16 => rfl
          case hy16 =>
            intro w hSw
            obtain ⟨s0, s1, s2, s3, s4⟩ := hSw
            go_simp
            try with_reducible rfl
          try simp only [Act.put, List.setIfInBounds_toArray, List.set_cons_zero, List.set_cons_succ]
          refine peel_take (i := 18) (oi := ?oi18) (v := ?v18) (fun _ _ _ _ _ h => h) hHeld ?hi18 (by kernel_rfl) (by kernel_rfl) (by kernel_rfl) ?hw18 ?hy18 ?rest18
          case hi18 =>
            simp only [List.getElem?_toArray, List.getElem?_cons_succ, List.getElem?_cons_zero]
            rfl
          case hw18 => rfl
          case hy18 =>
            intro w hSw
            obtain ⟨s0, s1, s2, s3, s4⟩ := hSw
            go_simp
            try with_reducible rfl
          try simp only [Act.put, List.setIfInBounds_toArray, List.set_cons_zero, List.set_cons_succ]
          refine peel_take (i := 21) (oi := ?oi21) (v := ?v21) (fun _ _ _ _ _ h => h) hHeld ?hi21 (by kernel_rfl) (by kernel_rfl) (by kernel_rfl) ?hw21 ?hy21 ?rest21
          case hi21 =>
            simp only [List.getElem?_toArray, List.getElem?_cons_succ, List.getElem?_cons_zero]
            rfl
          case hw21 => rfl
          case hy21 =>
            intro w hSw
            obtain ⟨s0, s1, s2, s3, s4⟩ := hSw
            go_simp
            try with_reducible rfl
          try simp only [Act.put, List.setIfInBounds_toArray, List.set_cons_zero, List.set_cons_succ]
          refine peel_take (i := 22) (oi := ?oi22) (v := ?v22) (fun _ _ _ _ _ h => h) hHeld ?hi22 (by kernel_rfl) (by kernel_rfl) (by kernel_rfl) ?hw22 ?hy22 ?rest22
          case hi22 =>
            simp only [List.getElem?_toArray, List.getElem?_cons_succ, List.getElem?_cons_zero]
            rfl
          case hw22 => rfl
          case hy22 =>
            intro w hSw
            obtain ⟨s0, s1, s2, s3, s4⟩ := hSw
            go_simp
            try with_reducible rfl
          try simp only [Act.put, List.setIfInBounds_toArray, List.set_cons_zero, List.set_cons_succ]
          refine peel_take (i := 23) (oi := ?oi23) (v := ?v23) (fun _ _ _ _ _ h => h) hHeld ?hi23 (by kernel_rfl) (by kernel_rfl) (by kernel_rfl) ?hw23 ?hy23 ?rest23
          case hi23 =>
            simp only [List.getElem?_toArray, List.getElem?_cons_succ, List.getElem?_cons_zero]
            rfl
          case hw23 => rfl
          case hy23 =>
            intro w hSw
            obtain ⟨s0, s1, s2, s3, s4⟩ := hSw
            go_simp
            try with_reducible rfl
          try simp only [Act.put, List.setIfInBounds_toArray, List.set_cons_zero, List.set_cons_succ]
          refine peel_take (i := 24) (oi := ?oi24) (v := ?v24) (fun _ _ _ _ _ h => h) hHeld ?hi24 (by kernel_rfl) (by kernel_rfl) (by kernel_rfl) ?hw24 ?hy24 ?rest24
          case hi24 =>
            simp only [List.getElem?_toArray, List.getElem?_cons_succ, List.getElem?_cons_zero]
            rfl
          case hw24 => rfl
          case hy24 =>
            intro w hSw
            obtain ⟨s0, s1, s2, s3, s4⟩ := hSw
            go_simp
            try with_reducible rfl
          try simp only [Act.put, List.setIfInBounds_toArray, List.set_cons_zero, List.set_cons_succ]
          refine peel_take (i := 25) (oi := ?oi25) (v := ?v25) (fun _ _ _ _ _ h => h) hHeld ?hi25 (by kernel_rfl) (by kernel_rfl) (by kernel_rfl) ?hw25 ?hy25 ?rest25
          case hi25 =>
            simp only [List.getElem?_toArray, List.getElem?_cons_succ, List.getElem?_cons_zero]
            rfl
          case hw25 => rfl
          case hy25 =>
            intro w hSw
            obtain ⟨s0, s1, s2, s3, s4⟩ := hSw
            go_simp
            try with_reducible rfl
          try simp only [Act.put, List.setIfInBounds_toArray, List.set_cons_zero, List.set_cons_succ]
          refine wpAnyH_act fun aR hA => ?_
          have e87 : aR.eval (.tmp 87) = .slice (L 0).nA (D 0).nn (L 0).nc := by rw [hA]; rfl
          have e96 : aR.eval (.tmp 96) = .slice (L 0).kA (D 0).kn (L 0).kc := by rw [hA]; rfl
          have e98 : aR.eval (.tmp 98) = .int .i64 (k : Int) := by rw [hA]; rfl
          have e105 : aR.eval (.tmp 105) = .int .i64 (D 0).turn := by rw [hA]; rfl
          have hsz : 110 < aR.tmps.size := by rw [hA]; simp
          have HA' : Hid _ := hA
          clear hA
          refine wpAnyH_plain (a0 := aR) [82, 88, 89, 90, 91, 97, 99, 100, 106] (RJB [0, 1, 3, 4, 5, 6, 7, 12, 13, 14, 15, 16, 18, 21, 22, 23, 24, 25] W3c (fun d => if d = 82 then ⟨9, 1, 0, []⟩ else if d = 88 then ⟨9, 1, (D 0).nn, strv (lst (D 0).nn (D 0).names)⟩ else if d = 89 then ⟨9, 1, 1, [.string ⟨#[122, 122, 122]⟩]⟩ else if d = 90 then ⟨9, 1, (D 0).nn + 1, strv (lst (D 0).nn (D 0).names) ++ [.string ⟨#[122, 122, 122]⟩]⟩ else if d = 91 then ⟨3, 1, 0, []⟩ else if d = 97 then ⟨3, 1, (D 0).kn, intv0 (D 0).kn (D 0).kids⟩ else if d = 99 then ⟨3, 1, 1, [.int .i64 (k : Int)]⟩ else ⟨3, 1, (D 0).kn + 1, intv0 (D 0).kn (D 0).kids ++ [.int .i64 (k : Int)]⟩)
            [(82, 2, 8), (88, 8, 10), (89, 9, 10), (90, 10, 99), (91, 11, 17), (97, 17, 20), (99, 19, 20), (100, 20, 99)] [] 26 106 [(10, 90), (20, 100)] (fun v : Nat → Value => Value.agg #[.int .i64 2, .string ByteArray.empty, v 90, v 100, .int .i64 (D 0).turn])) (by kernel_rfl) (by kernel_rfl) (by rfl) (by decide) (fun v => RJB.start (RJ.start (below_drewN (Below.refl _ _) 1) (by decide) (by decide) (by decide) (by simp)) (by decide)) (fun L' v w' h => ⟨(h.rj.bel.cell hXl7).trans x0, (h.rj.bel.cell hTl7).trans t0, (h.rj.bel.cell hgl7).trans s2, (h.rj.bel.cell hgl7).trans s3, (h.rj.bel.cell hgl7).trans s4⟩) ⟨?_, ?_, ?_, ?_, ?_, ?_, ?_, ?_, ?_, ?_, ?_, ?_, ?_, ?_, ?_, ?_, ?_, ?_, ?_, ?_, ?_, ?_, ?_, ?_, ?_, ?_, ?_, trivial⟩ ?_
          · intro L2 v2 w2 h2 hd2 hJ2
            exact hJ2.gone (k := 0) (by decide) h2
          · intro L2 v2 w2 h2 hd2 hJ2
            exact hJ2.gone (k := 1) (by decide) h2
          · intro L' v w' h hd hJ K hK
            exact ⟨wp_strs0 (hK _ _ _ (upd_put _ _ _ 82 _ (by decide)) (hJ.keep (k := 2) (d := 82) h (by decide) (by decide) (by decide) hFF (hJ.rj.make (k := 2) (d := 82) (by decide) (by simp) (by decide) (xs := []) (n := 0) (e := 9) (size := 1) rfl rfl (by unfold maxLen; omega))))⟩
          · intro L2 v2 w2 h2 hd2 hJ2
            exact hJ2.gone (k := 3) (by decide) h2
          · intro L2 v2 w2 h2 hd2 hJ2
            exact hJ2.gone (k := 4) (by decide) h2
          · intro L2 v2 w2 h2 hd2 hJ2
            exact hJ2.gone (k := 5) (by decide) h2
          · intro L2 v2 w2 h2 hd2 hJ2
            exact hJ2.gone (k := 6) (by decide) h2
          · intro L2 v2 w2 h2 hd2 hJ2
            exact hJ2.gone (k := 7) (by decide) h2
          · intro L' v w' h hd hJ K hK
            have hdj : L' 2 = true := hd _ (List.Mem.head _) rfl
            have hlive : liveAt [(82, 2, 8), (88, 8, 10), (89, 9, 10), (90, 10, 99), (91, 11, 17), (97, 17, 20), (99, 19, 20), (100, 20, 99)] L' 82 := ⟨2, 8, by decide, hdj, h⟩
            refine ⟨wp_append_src (.tmp 82) (.tmp 87) 33 rfl W3c.heap.size 9 i0 (.string ByteArray.empty) 1 16 Try.underlying33 hi hz0 hz1 hz2 rfl (by decide) (v 82) 0 [] (upd_eval_in aR _ v 82 (by decide) (by omega)) (hJ.rj.rws.own 82 hlive).1 _ (D 0).nn _ ((upd_eval_out aR _ v 87 (by decide)).trans e87) (HSrc.out.of_cells hJ.rj.bel HOff.out) (by unfold maxLen; omega) (by omega) hJ.rj.bel.size ?_⟩
            intro v' w2 hown hgrow hnil hat
            exact hK _ _ _ (upd_put _ _ _ 88 _ (by decide)) (hJ.keep (k := 8) (d := 88) h (by decide) (by decide) (by decide) hFF (hJ.rj.app (k := 8) (d := 88) (s := 82) hlive (by decide) hgrow (by decide) (by simp) (by decide) (by simpa using hown) hat))
          · intro L' v w' h hd hJ K hK
            exact ⟨wp_strs1 (hK _ _ _ (upd_put _ _ _ 89 _ (by decide)) (hJ.keep (k := 9) (d := 89) h (by decide) (by decide) (by decide) hFF (hJ.rj.make (k := 9) (d := 89) (by decide) (by simp) (by decide) (xs := [.string ⟨#[122, 122, 122]⟩]) (n := 1) (e := 9) (size := 1) rfl rfl (by unfold maxLen; omega))))⟩
          · intro L' v w' h hd hJ K hK
            have hdj : L' 8 = true := hd _ (List.Mem.head _) rfl
            have hdx : L' 9 = true := hd _ (List.Mem.tail _ (List.Mem.head _)) rfl
            have hlive : liveAt [(82, 2, 8), (88, 8, 10), (89, 9, 10), (90, 10, 99), (91, 11, 17), (97, 17, 20), (99, 19, 20), (100, 20, 99)] L' 88 := ⟨8, 10, by decide, hdj, h⟩
            have hlive2 : liveAt [(82, 2, 8), (88, 8, 10), (89, 9, 10), (90, 10, 99), (91, 11, 17), (97, 17, 20), (99, 19, 20), (100, 20, 99)] L' 89 := ⟨9, 10, by decide, hdx, h⟩
            obtain ⟨bx, hbx⟩ := (hJ.rj.rws.own 89 hlive2).2
            refine ⟨wp_append_src (.tmp 88) (.tmp 89) 33 rfl W3c.heap.size 9 i0 (.string ByteArray.empty) 1 16 Try.underlying33 hi hz0 hz1 hz2 rfl (by decide) (v 88) (D 0).nn _ (upd_eval_in aR _ v 88 (by decide) (by omega)) (hJ.rj.rws.own 88 hlive).1 _ 1 _ (upd_eval_in aR _ v 89 (by decide) (by omega)) (owns_src (hJ.rj.rws.own 89 hlive2).1 (by simp [Value.oneCell']) hbx) (by unfold maxLen; omega) (by omega) hJ.rj.bel.size ?_⟩
            intro v' w2 hown hgrow hnil hat
            exact hK _ _ _ (upd_put _ _ _ 90 _ (by decide)) (hJ.keep (k := 10) (d := 90) h (by decide) (by decide) (by decide) hFF (hJ.rj.app (k := 10) (d := 90) (s := 88) hlive (by decide) hgrow (by decide) (by simp) (by decide) (by simpa using hown) hat))
          · intro L' v w' h hd hJ K hK
            exact ⟨wp_ints0 (hK _ _ _ (upd_put _ _ _ 91 _ (by decide)) (hJ.keep (k := 11) (d := 91) h (by decide) (by decide) (by decide) hFF (hJ.rj.make (k := 11) (d := 91) (by decide) (by simp) (by decide) (xs := []) (n := 0) (e := 3) (size := 1) rfl rfl (by unfold maxLen; omega))))⟩
          · intro L2 v2 w2 h2 hd2 hJ2
            exact hJ2.gone (k := 12) (by decide) h2
          · intro L2 v2 w2 h2 hd2 hJ2
            exact hJ2.gone (k := 13) (by decide) h2
          · intro L2 v2 w2 h2 hd2 hJ2
            exact hJ2.gone (k := 14) (by decide) h2
          · intro L2 v2 w2 h2 hd2 hJ2
            exact hJ2.gone (k := 15) (by decide) h2
          · intro L2 v2 w2 h2 hd2 hJ2
            exact hJ2.gone (k := 16) (by decide) h2
          · intro L' v w' h hd hJ K hK
            have hdj : L' 11 = true := hd _ (List.Mem.head _) rfl
            have hlive : liveAt [(82, 2, 8), (88, 8, 10), (89, 9, 10), (90, 10, 99), (91, 11, 17), (97, 17, 20), (99, 19, 20), (100, 20, 99)] L' 91 := ⟨11, 17, by decide, hdj, h⟩
            refine ⟨wp_append_src (.tmp 91) (.tmp 96) 34 rfl W3c.heap.size 3 m0 (.int .i64 0) 1 8 Try.underlying34 hm hx0 hx1 hx2 rfl (by decide) (v 91) 0 [] (upd_eval_in aR _ v 91 (by decide) (by omega)) (hJ.rj.rws.own 91 hlive).1 _ (D 0).kn _ ((upd_eval_out aR _ v 96 (by decide)).trans e96) (HSrk.out.of_cells hJ.rj.bel HOfk.out) (by unfold maxLen; omega) (by omega) hJ.rj.bel.size ?_⟩
            intro v' w2 hown hgrow hnil hat
            exact hK _ _ _ (upd_put _ _ _ 97 _ (by decide)) (hJ.keep (k := 17) (d := 97) h (by decide) (by decide) (by decide) hFF (hJ.rj.app (k := 17) (d := 97) (s := 91) hlive (by decide) hgrow (by decide) (by simp) (by decide) (by simpa [intv0] using hown) hat))
          · intro L2 v2 w2 h2 hd2 hJ2
            exact hJ2.gone (k := 18) (by decide) h2
          · intro L' v w' h hd hJ K hK
            exact ⟨wp_ints1 (z := (k : Int)) ((upd_eval_out aR _ v 98 (by decide)).trans e98) (hK _ _ _ (upd_put _ _ _ 99 _ (by decide)) (hJ.keep (k := 19) (d := 99) h (by decide) (by decide) (by decide) hFF (hJ.rj.make (k := 19) (d := 99) (by decide) (by simp) (by decide) (xs := [.int .i64 (k : Int)]) (n := 1) (e := 3) (size := 1) rfl rfl (by unfold maxLen; omega))))⟩
          · intro L' v w' h hd hJ K hK
            have hdj : L' 17 = true := hd _ (List.Mem.head _) rfl
            have hdx : L' 19 = true := hd _ (List.Mem.tail _ (List.Mem.head _)) rfl
            have hlive : liveAt [(82, 2, 8), (88, 8, 10), (89, 9, 10), (90, 10, 99), (91, 11, 17), (97, 17, 20), (99, 19, 20), (100, 20, 99)] L' 97 := ⟨17, 20, by decide, hdj, h⟩
            have hlive2 : liveAt [(82, 2, 8), (88, 8, 10), (89, 9, 10), (90, 10, 99), (91, 11, 17), (97, 17, 20), (99, 19, 20), (100, 20, 99)] L' 99 := ⟨19, 20, by decide, hdx, h⟩
            obtain ⟨bx, hbx⟩ := (hJ.rj.rws.own 99 hlive2).2
            refine ⟨wp_append_src (.tmp 97) (.tmp 99) 34 rfl W3c.heap.size 3 m0 (.int .i64 0) 1 8 Try.underlying34 hm hx0 hx1 hx2 rfl (by decide) (v 97) (D 0).kn _ (upd_eval_in aR _ v 97 (by decide) (by omega)) (hJ.rj.rws.own 97 hlive).1 _ 1 _ (upd_eval_in aR _ v 99 (by decide) (by omega)) (owns_src (hJ.rj.rws.own 99 hlive2).1 (by simp [Value.oneCell']) hbx) (by unfold maxLen; omega) (by omega) hJ.rj.bel.size ?_⟩
            intro v' w2 hown hgrow hnil hat
            exact hK _ _ _ (upd_put _ _ _ 100 _ (by decide)) (hJ.keep (k := 20) (d := 100) h (by decide) (by decide) (by decide) hFF (hJ.rj.app (k := 20) (d := 100) (s := 97) hlive (by decide) hgrow (by decide) (by simp) (by decide) (by simpa using hown) hat))
          · intro L2 v2 w2 h2 hd2 hJ2
            exact hJ2.gone (k := 21) (by decide) h2
          · intro L2 v2 w2 h2 hd2 hJ2
            exact hJ2.gone (k := 22) (by decide) h2
          · intro L2 v2 w2 h2 hd2 hJ2
            exact hJ2.gone (k := 23) (by decide) h2
          · intro L2 v2 w2 h2 hd2 hJ2
            exact hJ2.gone (k := 24) (by decide) h2
          · intro L2 v2 w2 h2 hd2 hJ2
            exact hJ2.gone (k := 25) (by decide) h2
          · intro L' v w' h hd hJ K hK
            have hd10 : L' 10 = true := hd _ (List.Mem.head _) rfl
            have hd20 : L' 20 = true := hd _ (List.Mem.tail _ (List.Mem.head _)) rfl
            have hl90 : liveAt [(82, 2, 8), (88, 8, 10), (89, 9, 10), (90, 10, 99), (91, 11, 17), (97, 17, 20), (99, 19, 20), (100, 20, 99)] L' 90 := ⟨10, 99, by decide, hd10, hJ.rj.none⟩
            have hl100 : liveAt [(82, 2, 8), (88, 8, 10), (89, 9, 10), (90, 10, 99), (91, 11, 17), (97, 17, 20), (99, 19, 20), (100, 20, 99)] L' 100 := ⟨20, 99, by decide, hd20, hJ.rj.none⟩
            obtain ⟨b90, hb90⟩ := (hJ.rj.rws.own 90 hl90).2
            obtain ⟨b100, hb100⟩ := (hJ.rj.rws.own 100 hl100).2
            obtain ⟨c90, hv90, _⟩ := owned_form (hJ.rj.rws.own 90 hl90).1 hb90
            obtain ⟨c100, hv100, _⟩ := owned_form (hJ.rj.rws.own 100 hl100).1 hb100
            have hK' := hK _ _ _ (upd_put _ _ _ 106 _ (by decide)) (hJ.build (by intro t ht; simp at ht; rcases ht with rfl | rfl; exact hd10; exact hd20) (by decide) hFF (by decide) (by decide) (by simp))
            try dsimp only at hK'
            rw [hv90, hv100] at hK'
            exact ⟨wp_rootM ((upd_eval_in aR _ v 90 (by decide) (by omega)).trans hv90) ((upd_eval_in aR _ v 100 (by decide) (by omega)).trans hv100) ((upd_eval_out aR _ v 105 (by decide)).trans e105) hK'⟩
          intro L' v w' hL hJ
          obtain ⟨_, hv106⟩ := hJ.built (hL 26 (by decide))
          have hl90 : liveAt [(82, 2, 8), (88, 8, 10), (89, 9, 10), (90, 10, 99), (91, 11, 17), (97, 17, 20), (99, 19, 20), (100, 20, 99)] L' 90 := ⟨10, 99, by decide, hL 10 (by decide), hJ.rj.none⟩
          have hl100 : liveAt [(82, 2, 8), (88, 8, 10), (89, 9, 10), (90, 10, 99), (91, 11, 17), (97, 17, 20), (99, 19, 20), (100, 20, 99)] L' 100 := ⟨20, 99, by decide, hL 20 (by decide), hJ.rj.none⟩
          have hown := (hJ.rj.rws.own 90 hl90).1
          have howk := (hJ.rj.rws.own 100 hl100).1
          obtain ⟨g8, hb90⟩ := (hJ.rj.rws.own 90 hl90).2
          obtain ⟨g9, hb100⟩ := (hJ.rj.rws.own 100 hl100).2
          obtain ⟨c8, hv8, hge8, hlt8⟩ := owned_form hown hb90
          obtain ⟨c9, hv9, hge9, hlt9⟩ := owned_form howk hb100
          have hown' : w'.ownsRow W3c.heap.size 9 1 (.slice (some ⟨g8, 0, none⟩) ((D 0).nn + 1) c8) ((D 0).nn + 1) (strv (lst ((D 0).nn + 1) (rootM (D 0) k).names)) := by
            have e1 : strv (lst ((D 0).nn + 1) (rootM (D 0) k).names) = strv (lst (D 0).nn (D 0).names) ++ [.string ⟨#[122, 122, 122]⟩] := by
              have := lst_snoc (D 0).nn (D 0).names ⟨#[122, 122, 122]⟩
              rw [show (rootM (D 0) k).names = fun i => if i < (D 0).nn then (D 0).names i else ⟨#[122, 122, 122]⟩ from rfl, ← this, ← strv_append]
              rfl
            have e2 : v 90 = .slice (some ⟨g8, 0, none⟩) ((D 0).nn + 1) c8 := hv8
            rw [e1, ← e2]; exact hown
          have howk' : w'.ownsRow W3c.heap.size 3 1 (.slice (some ⟨g9, 0, none⟩) ((D 0).kn + 1) c9) ((D 0).kn + 1) (intv0 ((D 0).kn + 1) (rootM (D 0) k).kids) := by
            have e1 : intv0 ((D 0).kn + 1) (rootM (D 0) k).kids = intv0 (D 0).kn (D 0).kids ++ [.int .i64 (k : Int)] := (intv0_snoc _ _ _).symm
            have e2 : v 100 = .slice (some ⟨g9, 0, none⟩) ((D 0).kn + 1) c9 := hv9
            rw [e1, ← e2]; exact howk
          have HStr : Hid (NdIn w' (rootM (D 0) k) ⟨some ⟨g8, 0, none⟩, c8, some ⟨g9, 0, none⟩, c9⟩) := ⟨(ownsRow_strs hown' (by simp [lst_length]) hlt8).congr (fun i hi => lst_getD _ _ _ hi), ownsRow_ints howk' hlt9⟩
          have hC := HCa.out.below hJ.rj.bel
          have h1 := hC.own.base
          have h2 := HCa.out.own.lt
          have h3 := HT.out.drawn.bel.size
          have h4 := HCa.out.bel.size
          have hoff : Off w' w.heap.size ga (some ⟨g8, 0, none⟩) := fun b o x e => by
            cases e
            exact ⟨by omega, by omega, hlt8⟩
          have hofk : Off w' w.heap.size ga (some ⟨g9, 0, none⟩) := fun b o x e => by
            cases e
            exact ⟨by omega, by omega, hlt9⟩
          have HCa' : Hid (InC w W3 Xa ga ca n (putNd D 0 (rootM (D 0) k)) (putLoc L 0 ⟨some ⟨g8, 0, none⟩, c8, some ⟨g9, 0, none⟩, c9⟩) now (((((w'.setCell ⟨ga, 0, none⟩ (.int .i64 2)).setCell ⟨ga, 1, none⟩ (.string ByteArray.empty)).setCell ⟨ga, 2, none⟩ (.slice (some ⟨g8, 0, none⟩) ((D 0).nn + 1) c8)).setCell ⟨ga, 3, none⟩ (.slice (some ⟨g9, 0, none⟩) ((D 0).kn + 1) c9)).setCell ⟨ga, 4, none⟩ (.int .i64 (D 0).turn))) := hC.putNode (i := 0) hn1 (rootM (D 0) k) ⟨some ⟨g8, 0, none⟩, c8, some ⟨g9, 0, none⟩, c9⟩ HStr.out hoff hofk
          obtain ⟨q0, q1, q2, q3, q4⟩ := hC.own.cells 0 hn1
          simp only [Nat.zero_mul, Nat.zero_add] at q0 q1 q2 q3 q4
          have qf0 := hC.own.frozen 0
          have qf1 := hC.own.frozen 1
          have qf2 := hC.own.frozen 2
          have qf3 := hC.own.frozen 3
          have qf4 := hC.own.frozen 4
          have e90 : v 90 = .slice (some ⟨g8, 0, none⟩) ((D 0).nn + 1) c8 := hv8
          have e100 : v 100 = .slice (some ⟨g9, 0, none⟩) ((D 0).kn + 1) c9 := hv9
          try dsimp only at hv106
          rw [e90, e100] at hv106
          refine ⟨?_⟩
          show Oper.wp _ _ _ _ _ _
          rw [HA'.out]
          simp only [upd, List.foldl_cons, List.foldl_nil, List.setIfInBounds_toArray, List.set_cons_zero, List.set_cons_succ, hv106]
          generalize v 82 = y82
          generalize v 88 = y88
          generalize v 89 = y89
          generalize v 90 = y90
          generalize v 91 = y91
          generalize v 97 = y97
          generalize v 99 = y99
          generalize v 100 = y100
          clear hJ hL hown hown' howk howk' hv8 hv9 e90 e100 hv106 HStr hoff hofk hC HSrc HOff HSrk HOfk HA' hsz e87 e96 e98 e105 hl90 hl100 hb90 hb100 hFF h1 h2 h3 h4
          go_simp
          show Oper.wp _ _ _ _ _ _
          go_simp
          refine NoPanic.normal ?_
          obtain ⟨W8, hW8⟩ : ∃ W8, W8 = (((((w'.setCell ⟨ga, 0, none⟩ (.int .i64 2)).setCell ⟨ga, 1, none⟩ (.string ByteArray.empty)).setCell ⟨ga, 2, none⟩ (.slice (some ⟨g8, 0, none⟩) ((D 0).nn + 1) c8)).setCell ⟨ga, 3, none⟩ (.slice (some ⟨g9, 0, none⟩) ((D 0).kn + 1) c9)).setCell ⟨ga, 4, none⟩ (.int .i64 (D 0).turn)) := ⟨_, rfl⟩
          rw [← hW8] at HCa' ⊢
          clear hW8 q0 q1 q2 q3 q4 qf0 qf1 qf2 qf3 qf4 t0 t1 x0 k0 k1 k2 k3 k4 kf0 kf1 kf2 kf3 kf4 hgT hTg hHeld s2 s3 s4 hTl7 hgl7 hXl7 HCa u0 v2
          have hB := HCa'.out.bel
          have HCa : Hid _ := HCa'.out
          clear HCa'
          have HT' : Hid (InT w T g c n D L now W8) := HT.out.below hB
          clear HT
          have HT : Hid (InT w T g c n D L now W8) := HT'.out
          clear HT'
          clear hB
          have t0 : W8.cell? ⟨T, 0, none⟩ = some (.slice (some ⟨g, 0, none⟩) n c) := HT.out.t.cell 0
          have x0 : W8.cell? ⟨Xa, 0, none⟩ = some (.slice (some ⟨ga, 0, none⟩) n ca) := HCa.out.x.cell 0
          have x1 : W8.cell? ⟨Xa, 1, none⟩ = some (.int .i64 now) := HCa.out.x.cell 1
          obtain ⟨u0, u1, u2', u3, u4⟩ := HT.out.drawn.own.cells k hkn'
          rw [← HKd.out] at u0
          clear u1 u2' u3 u4
          have HF : Hid (FitAll n (putNd D 0 (rootM (D 0) k)) ∧ sizeTo (putNd D 0 (rootM (D 0) k)) n ≤ 1048576) := fits_rootM HFair.out ⟨by omega, by omega⟩
          have HGr : Hid (Grown n n k D D now) := ⟨HG.out, Nat.le_refl _, HG.out.few, fun _ _ => rfl, fun i h1 h2 => absurd h2 (by omega), hk1', hkn'⟩
          have HL : Hid (n ≤ maxLen ∧ In64 now) := ⟨HT.out.drawn.fair.len, HT.out.in64⟩
          have hkk : kd = 1 ∨ kd = 2 := by
            have h1 := HG.out.kinds hkn'
            have h2 := HKd.out
            omega
          rcases hkk with h | h
          · subst h
            go_wp2_with fail
            refine (implTreeOk (some ⟨ga, 0, none⟩) n ca now _ _ _ HCa.out.own.nds HF.out.1 HL.out.1 HF.out.2 HL.out.2).mono ?_
            rintro e W9 ⟨hB, ok, rfl, hok⟩
            have HGd : Hid (TreeGood n (putNd D 0 (rootM (D 0) k)) now) := HGr.out.ok HKd.out.symm HZ.out
            obtain rfl : ok = true := hok.2 HGd.out
            clear hok x0 x1 t0 u0
            have HT' : Hid (InT w T g c n D L now W9) := HT.out.below hB
            have HCa' : Hid _ := HCa.out.below hB
            clear HT HCa hB
            have x0 : W9.cell? ⟨Xa, 0, none⟩ = some (.slice (some ⟨ga, 0, none⟩) n ca) := HCa'.out.x.cell 0
            have x1 : W9.cell? ⟨Xa, 1, none⟩ = some (.int .i64 now) := HCa'.out.x.cell 1
            go_wp2_with fail
            refine (implTreeRefs (some ⟨ga, 0, none⟩) n ca now k _ _ _ HCa'.out.own.nds HF.out.1 HL.out.1 HF.out.2 HL.out.2 h64i).mono ?_
            rintro e W10 ⟨hB, r3, rfl, hr3⟩
            have er : r3 = r2 + 1 := by
              rw [hr3.yes HGd.out (by omega) (by omega), HR2.out, HGr.out.refs_all]
              simp
            subst er
            clear hr3 x0 x1
            have HT : Hid (InT w T g c n D L now W10) := HT'.out.below hB
            have HCa : Hid _ := HCa'.out.below hB
            clear HT' HCa' hB
            have x0 : W10.cell? ⟨Xa, 0, none⟩ = some (.slice (some ⟨ga, 0, none⟩) n ca) := HCa.out.x.cell 0
            have x1 : W10.cell? ⟨Xa, 1, none⟩ = some (.int .i64 now) := HCa.out.x.cell 1
            have hrl := refsTo_le D (k : Nat) n
            have hrs := HFair.out.size
            have hr0 : 0 ≤ r2 ∧ r2 ≤ 1048576 := by rw [HR2.out]; omega
            have hw : IntKind.i64.wrap (r2 + 1) = r2 + 1 := wrap_i64 (r2 + 1) (by omega) (by omega)
            clear hrl hrs
            go_wp2_with fail
            have HX : Hid (InC _ _ _ _ _ _ _ _ _ (W10.alloc (.cells #[.string ⟨#[122, 122, 122]⟩] 9))) := HCa.out.alloc _
            have HS : Hid (IsStrs (W10.alloc (.cells #[.string ⟨#[122, 122, 122]⟩] 9)) (some ⟨W10.heap.size, 0, none⟩) 1 (fun _ => zzz)) := Or.inr ⟨_, 0, rfl, by simp, fun i hi => by
              obtain rfl : i = 0 := by omega
              exact (Blk.new W10 #[.string ⟨#[122, 122, 122]⟩] 9).cell 0⟩
            have HB : Hid (Below w.heap.size w (W10.alloc (.cells #[.string ⟨#[122, 122, 122]⟩] 9))) := (HT.out.alloc _).drawn.bel
            refine (implTreeFind (some ⟨ga, 0, none⟩) n ca now _ _ (some ⟨W10.heap.size, 0, none⟩) 1 1 (fun _ => zzz) _ HX.out.own.nds HS.out HF.out.1 HL.out.1 HF.out.2 HL.out.2 (by unfold maxLen; omega) (fun i hi => by show zzz.size ≤ maxLen; rw [zzz_size]; unfold maxLen; omega)).mono ?_
            rintro e W11 ⟨hB, r4, rfl, hr4⟩
            have er : r4 = (k : Int) := hr4.yes HGd.out (by decide) k (leadsM rfl (HG.out.kn_nn HG.out.some))
            subst er
            have HE : Hid (Below w.heap.size w W11) := HB.out.trans (hB.mono HB.out.size)
            clear hr4 hB
            go_wp2
            go_ret
            exact ⟨by simp, HE.out⟩
          · subst h
            go_wp2_with fail
            refine (implTreeOk (some ⟨ga, 0, none⟩) n ca now _ _ _ HCa.out.own.nds HF.out.1 HL.out.1 HF.out.2 HL.out.2).mono ?_
            rintro e W9 ⟨hB, ok, rfl, hok⟩
            have hok' : ok = false := by
              cases ok with
              | false => rfl
              | true => exact absurd (hok.1 rfl) (HGr.out.two HKd.out.symm)
            subst hok'
            have HE : Hid (Below w.heap.size w W9) := (HT.out.below hB).drawn.bel
            clear hok hB
            go_wp2
            go_ret
            exact ⟨by simp, HE.out⟩
    · have hn0 : ok = false ∨ (ok = true ∧ ino < 1) ∨ (ok = true ∧ 1 ≤ ino ∧ n ≤ ino) ∨ (ok = true ∧ 1 ≤ ino ∧ ino < n ∧ (D ino.toNat).kind = 0) := by
        rcases Bool.eq_false_or_eq_true ok with h | h
        · right
          by_cases h1 : ino < 1
          · exact Or.inl ⟨h, h1⟩
          · right
            by_cases h2 : (n : Int) ≤ ino
            · exact Or.inl ⟨h, by omega, h2⟩
            · exact Or.inr ⟨h, by omega, by omega, Decidable.byContradiction fun h3 => hgo ⟨h, by omega, by omega, h3⟩⟩
        · exact Or.inl h
      clear hgo hok
      rcases hn0 with rfl | ⟨rfl, h1⟩ | ⟨rfl, h1, h2⟩ | ⟨rfl, h1, h2, h3⟩
      · go_wp2_with fail
        refine HAg.out.mono ?_
        rintro e w5 ⟨rfl, hb⟩
        have HE : Hid _ := hb
        clear hb
        go_wp2
        go_ret
        exact ⟨by simp, HE.out⟩
      · go_wp2_with fail
        refine HAg.out.mono ?_
        rintro e w5 ⟨rfl, hb⟩
        have HE : Hid _ := hb
        clear hb
        go_wp2
        go_ret
        exact ⟨by simp, HE.out⟩
      · have h1' : decide (ino < 1) = false := by simp; omega
        go_wp2_with fail
        refine HAg.out.mono ?_
        rintro e w5 ⟨rfl, hb⟩
        have HE : Hid _ := hb
        clear hb
        go_wp2
        go_ret
        exact ⟨by simp, HE.out⟩
      · obtain ⟨k, rfl⟩ : ∃ k : Nat, ino = k := ⟨ino.toNat, by omega⟩
        have hkk : ((k : Int)).toNat = k := by simp
        rw [hkk] at h3
        clear hkk
        have hkn' : k < n := by omega
        have hd1 : decide ((k : Int) < 1) = false := by simp; omega
        have hd2 : decide ((n : Int) ≤ (k : Int)) = false := by simp; omega
        obtain ⟨u0, u1, u2, u3, u4⟩ := HT.out.drawn.own.cells k hkn'
        rw [h3] at u0
        clear u1 u2 u3 u4 h3
        go_wp2_with fail
        refine HAg.out.mono ?_
        rintro e w5 ⟨rfl, hb⟩
        have HE : Hid _ := hb
        clear hb
        go_wp2
        go_ret
        exact ⟨by simp, HE.out⟩

set_option maxRecDepth 100000 in
theorem lifted (os : Os) (started : os.Started) (H : Type) (enc : TypeId × Value → H) :
    ReturnsInHanded {} Try.checked os 4 .any (Rows.fnTreeTwoSpec.pre6 enc Try.prog Try.f4 Rows.fnTreeTwoRow.domain false) (Rows.fnTreeTwoSpec.post enc Try.prog Try.f4 false true false false) := by
  refine returnsInHanded_of_change (C := Try.checked) own started (by kernel_rfl) Try.func4
    (ChangeSpec.witness6 (enc := enc) (C := Try.checked) false ⟨#[], #[.slice none 0 0], []⟩ 8 (by kernel_rfl) (by kernel_rfl) (by kernel_rfl) (by kernel_rfl)) ?_
  intro W base args ds gs before hval0 hW hcnd _
  have hval : ∀ (j : Nat) t v, Try.f4.params[j]? = some t → args[j]? = some v → Value.okWide Try.prog W .any base t v := hval0
  have hW' := hW
  obtain ⟨p, q, hA0, hV, rfl, hfz, hnd⟩ := hW
  have hA : DataW.TrodAll enc Try.prog W 0 (fun _ => true) true Try.f4.params.toList args.toList ds p := hA0
  rw [Try.params4] at hA hval
  obtain ⟨v0, vs0, d0, ds0, p0, q0, hargs, rfl, rfl, h0, r0⟩ := trodAll_cons hA
  obtain ⟨rfl, rfl, rfl⟩ := trodAll_nil r0
  obtain rfl : args = #[v0] := by cases args; simp_all
  obtain ⟨rfl, rfl⟩ := trodVars_none hV
  obtain ⟨a0, len0, cap0, rfl⟩ := okWide_slice Try.underlying22 (hval 0 22 v0 rfl rfl)
  have k0 := h0
  have lt0 : ∀ x ∈ p0, x.block < W.heap.size := by obtain ⟨m, hm⟩ := k0; exact DataW.trod_lt m _ _ _ hm
  obtain ⟨zs0, hC0, hl0, hp0⟩ := openCode h0
  clear hA0 hval0
  refine (walk a0 len0 cap0 zs0 W hC0 hl0 hp0).mono fun e W' ⟨he, bel⟩ => ?_
  subst he
  exact ⟨_, rfl, _, _, _, [], _, [], hW', trodAll_mk1 (shut_bool Try.underlying4 _), (trodAll_cons_mk (Below.trod laidOut (by kernel_rfl) (of_decide_eq_true (by kernel_rfl)) k0 bel lt0) trodAll_mk0), rfl, bel.frame _, fun h => by cases h⟩

theorem over : Rows.fnTreeTwoRow.holds Try.pinned (OpenSpec.ofChange Rows.fnTreeTwoSpec) :=
  OpenClaim.holds_of_wide 4 Try.f4 rfl rfl rfl rfl rfl rfl rfl ⟨rfl, rfl, rfl, rfl, rfl⟩ rfl rfl rfl rfl rfl (by kernel_rfl) Try.func4 (by kernel_rfl)
    (of_decide_eq_true (by kernel_rfl)) (by unfold Func.isWrapper; first | (rw [if_pos (by decide +kernel)]; kernel_rfl) | (rw [if_neg (by decide +kernel)]; exact ⟨rfl, rfl⟩))
    (fun os started H enc _ => lifted os started H enc)
end Go.Proofs.Ytlikmphjocjmeaa.fnTreeTwo

namespace Go.Proofs.Ytlikmphjocjmeaa
theorem fnTreeTwo_holds : Rows.FnTreeTwoSaid := fnTreeTwo.over
end Go.Proofs.Ytlikmphjocjmeaa
