/-
  What TreeRefs of the program answers.
-/
import Derived.Test.YtomacpailikmoabImplTreeOk
import Derived.Test.YtomacpailikmoabImplDefR
namespace Go.Proofs.Ytomacpailikmoab
open Go.RowKit
set_option linter.unusedVariables false

set_option maxHeartbeats 2000000 in
theorem implTreeRefs : ImplTreeRefs := by
  intro a n c now ino D L w hS hf hn hsz hnow hino
  unfold trV
  go_enter Try.func17, Try.ntmps17
  go_wp2_with fail
  refine at_world (F := New1 w _ _) (new1 w _ _) ?_
  rintro W ⟨hp, hb, hs⟩
  have hS0 := hS.below (Nat.le_refl _) hb
  refine (implTreeOk a n c now D L W hS0 hf hn hsz hnow).mono ?_
  rintro e w1 ⟨hb1, r, rfl, hr⟩
  have hp1 := hp.below hb1 (by omega)
  have p0 : w1.cell? ⟨w.heap.size, 0, none⟩ = some (.slice a n c) := hp1.cell 0
  have p1 : w1.cell? ⟨w.heap.size, 1, none⟩ = some (.int .i64 now) := hp1.cell 1
  have HB : Hid (Below w.heap.size w w1 ∧ (r = true ↔ TreeGood n D now)) := ⟨hb.trans (hb1.mono (by omega)), hr⟩
  have hn' := hn
  unfold maxLen at hn'
  unfold In64 at hino
  clear hp hb hs hS0 hb1 hp1 hr
  cases r with
  | false =>
    have HN : Hid (¬ TreeGood n D now) := fun h => by have := HB.out.2.2 h; cases this
    go_wp2_with fail
    go_ret
    exact ⟨HB.out.1, 0, rfl, fun h => absurd h HN.out, fun _ => rfl⟩
  | true =>
    have HN : Hid (TreeGood n D now) := HB.out.2.1 rfl
    by_cases h1 : ino < 0
    · have hb1 : decide (ino < 0) = true := by simp; omega
      go_wp2_with fail
      go_ret
      exact ⟨HB.out.1, 0, rfl, fun _ h => by omega, fun _ => rfl⟩
    · have hb1 : decide (ino < 0) = false := by simp; omega
      by_cases h2 : (n : Int) ≤ ino
      · have hb2 : decide ((n : Int) ≤ ino) = true := by simp; omega
        go_wp2_with fail
        go_ret
        exact ⟨HB.out.1, 0, rfl, fun _ _ h => by omega, fun _ => rfl⟩
      · have hb2 : decide ((n : Int) ≤ ino) = false := by simp; omega
        obtain ⟨k, rfl⟩ : ∃ k : Nat, ino = k := ⟨ino.toNat, by omega⟩
        have hkn : k < n := by omega
        have hki : (k : Int) < (n : Int) := by omega
        go_wp2_with fail
        refine (refsOf_any a n c now D L w1 (hS.below (Nat.le_refl _) HB.out.1) (by have := HN.out.few; omega) hsz (fun i hi => (hf i hi).kn) (kids_in HN.out.nodes)).mono ?_
        rintro e w2 ⟨hb2', rfl, hrow⟩
        have rc : w2.cell? ⟨w1.heap.size + 1, k, none⟩ = some (.int .i64 (refsTo D k n)) := hrow.cell hkn
        have HB2 : Hid (Below w.heap.size w w2) := HB.out.1.trans (hb2'.mono HB.out.1.size)
        clear hb2' hrow
        go_wp2_with fail
        go_ret
        exact ⟨HB2.out, _, rfl, fun _ _ _ => rfl, fun h => absurd ⟨HN.out, by omega, by omega⟩ h⟩
end Go.Proofs.Ytomacpailikmoab
