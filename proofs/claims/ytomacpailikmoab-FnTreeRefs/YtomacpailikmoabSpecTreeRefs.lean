/-
  What TreeRefs of the specification answers.
-/
import Derived.Test.YtomacpailikmoabSpecTreeOk
namespace Go.Proofs.Ytomacpailikmoab
open Go.RowKit
set_option linter.unusedVariables false

/-- How many names a place of a tree has; 0, if it is none. -/
structure RefsAre (n : Nat) (D : Nat → Nd) (now ino r : Int) : Prop where
  yes : TreeGood n D now → 0 ≤ ino → ino < n → r = refsTo D ino n
  no : ¬ (TreeGood n D now ∧ 0 ≤ ino ∧ ino < n) → r = 0

theorem RefsAre.one {n : Nat} {D : Nat → Nd} {now ino r r' : Int} (h : RefsAre n D now ino r) (h' : RefsAre n D now ino r') : r = r' := by
  by_cases g : TreeGood n D now ∧ 0 ≤ ino ∧ ino < n
  · rw [h.yes g.1 g.2.1 g.2.2, h'.yes g.1 g.2.1 g.2.2]
  · rw [h.no g, h'.no g]

set_option maxHeartbeats 2000000 in
theorem specTreeRefs_any (a : Option Addr) (n c : Nat) (now ino : Int) (D : Nat → Nd) (L : Nat → Loc) (w : World) (hS : IsNds w a n D L) (hf : FitAll n D) (hn : n ≤ maxLen) (hsz : sizeTo D n ≤ 1048576) :
    Calls Try.prog 22 #[trV a n c now, .int .i64 ino] w fun e w' => Below w.heap.size w w' ∧ ∃ r : Int, e = .returned (.int .i64 r) ∧ RefsAre n D now ino r := by
  unfold trV
  go_enter Try.func22, Try.ntmps22
  go_wp2_with fail
  refine at_world (F := New1 w _ _) (new1 w _ _) ?_
  rintro W ⟨hp, hb, hs⟩
  have hS0 := hS.below (Nat.le_refl _) hb
  refine (specTreeOk_any a n c now D L W hS0 hf hn hsz).mono ?_
  rintro e w1 ⟨hb1, r, rfl, hr⟩
  have hp1 := hp.below hb1 (by omega)
  have p0 : w1.cell? ⟨w.heap.size, 0, none⟩ = some (.slice a n c) := hp1.cell 0
  have p1 : w1.cell? ⟨w.heap.size, 1, none⟩ = some (.int .i64 now) := hp1.cell 1
  have HB : Hid (Below w.heap.size w w1 ∧ (r = true ↔ TreeGood n D now)) := ⟨hb.trans (hb1.mono (by omega)), hr⟩
  have hn' := hn
  unfold maxLen at hn'
  clear hp hb hs hS0 hb1 hp1 hr
  cases r with
  | false =>
    have HN : Hid (¬ TreeGood n D now) := fun h => by have := HB.out.2.2 h; cases this
    go_wp2_with fail
    go_ret
    exact ⟨HB.out.1, 0, rfl, fun h => absurd h HN.out, fun _ => rfl⟩
  | true =>
    have HN : Hid (TreeGood n D now) := HB.out.2.1 rfl
    by_cases h1 : ino < 0
    · have hb1 : decide (ino < 0) = true := by simp; omega
      go_wp2_with fail
      go_ret
      exact ⟨HB.out.1, 0, rfl, fun _ h => by omega, fun _ => rfl⟩
    · have hb1 : decide (ino < 0) = false := by simp; omega
      by_cases h2 : (n : Int) ≤ ino
      · have hb2 : decide ((n : Int) ≤ ino) = true := by simp; omega
        go_wp2_with fail
        go_ret
        exact ⟨HB.out.1, 0, rfl, fun _ _ h => by omega, fun _ => rfl⟩
      · have hb2 : decide ((n : Int) ≤ ino) = false := by simp; omega
        go_wp2_with fail
        refine (l2Refs_any a n c now ino D L w1 (hS.below (Nat.le_refl _) HB.out.1) hsz hn).mono ?_
        rintro e w2 ⟨hb2', rfl⟩
        have HB2 : Hid (Below w.heap.size w w2) := HB.out.1.trans (hb2'.mono HB.out.1.size)
        clear hb2'
        go_wp2_with fail
        go_ret
        exact ⟨HB2.out, _, rfl, fun _ _ _ => rfl, fun h => absurd ⟨HN.out, by omega, by omega⟩ h⟩
end Go.Proofs.Ytomacpailikmoab
