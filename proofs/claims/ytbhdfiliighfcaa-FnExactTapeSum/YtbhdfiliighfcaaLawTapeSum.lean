/-
  FnExactTapeSum, walked.
-/
import Derived.Test.YtbhdfiliighfcaaSpecSum
import Derived.Test.YtbhdfiliighfcaaImplSum
namespace Go.Proofs.Ytbhdfiliighfcaa
open Go.RowKit
set_option linter.unusedVariables false

set_option maxHeartbeats 1000000 in
theorem lawTapeSum (s : ByteArray) (w : World) (hn : s.size ≤ maxLen) :
    Calls Try.prog 3 #[.string s] w fun e w' => e = .returned (.bool true) ∧ Below w.heap.size w w' := by
  have hs := hn
  unfold maxLen at hs
  have hne : (((sumB s : Nat) : Int) != ((sumB s : Nat) : Int)) = false := by simp
  by_cases hbig : (1048576 : Int) < s.size
  · have hb : decide ((1048576 : Int) < s.size) = true := by simp; omega
    clear hbig
    go_enter Try.func3, Try.ntmps3
    go_wp2
    go_ret
    exact ⟨rfl, Below.refl _ _⟩
  · have hb : decide ((1048576 : Int) < s.size) = false := by simp; omega
    clear hbig
    go_enter Try.func3, Try.ntmps3
    go_wp2_with fail
    refine (specTapeSum_any s w hn).mono ?_
    rintro e w1 ⟨rfl, rfl⟩
    go_wp2_with fail
    refine (implTapeSum_any s _ hn).mono ?_
    rintro e w2 ⟨rfl, rfl⟩
    go_wp2
    go_ret
    exact ⟨rfl, Below.refl _ _⟩
end Go.Proofs.Ytbhdfiliighfcaa
