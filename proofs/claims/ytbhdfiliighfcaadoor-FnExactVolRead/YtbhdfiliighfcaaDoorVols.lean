/-
  What the helpers of the exact laws do at a piece.
-/
import Derived.Test.YtbhdfiliighfcaaDoorVolBase
import Derived.WalkSmall
namespace Go.Proofs.YtbhdfiliighfcaaDoor
open Go.RowKit
set_option linter.unusedVariables false

set_option maxHeartbeats 400000 in
theorem szVol_any (v : Vo) (left : Int) (w : World) (hn : v.text.size ≤ maxLen) (h0 : 0 ≤ left) (h1 : left ≤ 1048576) :
    Calls Tryd.prog 5 #[voV v, .int .i64 left] w fun e w' => Below w.heap.size w w' ∧ ∃ r : Int, e = .returned (.int .i64 r) ∧ r ≤ left ∧ (0 ≤ r → r + v.text.size = left) := by
  unfold maxLen at hn
  unfold voV
  by_cases hr : left - v.text.size < 0
  · have hb : decide (left - (v.text.size : Int) < 0) = true := by simp; omega
    go_enter Tryd.func5, Tryd.ntmps5
    go_wp2
    go_ret
    exact ⟨(Below.refl _ _).alloc (Nat.le_refl _) _, -1, rfl, by omega, fun h => by omega⟩
  · have hb : decide (left - (v.text.size : Int) < 0) = false := by simp; omega
    go_enter Tryd.func5, Tryd.ntmps5
    go_wp2
    go_ret
    exact ⟨(Below.refl _ _).alloc (Nat.le_refl _) _, left - v.text.size, rfl, by omega, fun h => by omega⟩

set_option maxHeartbeats 400000 in
theorem toVol_any (v : Vo) (w : World) : Calls Tryd.prog 7 #[voV v] w fun r w' => r = .returned (voV v) ∧ Below w.heap.size w w' := by
  unfold voV
  go_enter Tryd.func7, Tryd.ntmps7
  go_wp2_with fail
  exact bodyPost_ret (v := .agg #[.int .i64 v.num, .int .i64 v.cnt, .int .i64 v.sum, .string v.text]) (by simp [results, Tryd.results7, go_sem]) rfl ⟨rfl, by
    repeat (first | exact Below.refl _ _ | (refine Below.alloc ?_ (by simp <;> omega) _) | (refine Below.setCell ?_ (by simp <;> omega) _))⟩
end Go.Proofs.YtbhdfiliighfcaaDoor
