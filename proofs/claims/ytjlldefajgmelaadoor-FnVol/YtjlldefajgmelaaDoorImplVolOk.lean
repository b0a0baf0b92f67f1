/-
  What VolOk of the program answers.
-/
import Derived.Test.YtjlldefajgmelaaDoorImplSum
import Derived.Test.YtjlldefajgmelaaDoorVolBase
import Derived.WalkSmall
namespace Go.Proofs.YtjlldefajgmelaaDoor
open Go.RowKit
set_option linter.unusedVariables false
set_option linter.unusedSimpArgs false

set_option maxHeartbeats 2000000 in
theorem implVolOk_any (v : Vo) (w : World) (hs : v.text.size ≤ maxLen) :
    Calls Tryd.prog 10 #[voV v] w fun e w' => Below w.heap.size w w' ∧ e = .returned (.bool (voOk v)) := by
  have hs' := hs
  unfold maxLen at hs
  unfold voV
  cases h1 : decide (1 ≤ v.cnt) with
  | false =>
    have f1 : decide (v.cnt < 1) = true := by simp at h1 ⊢; omega
    have HX : Hid (false = voOk v) := by show _ = _; unfold voOk; rw [h1]; rfl
    go_enter Tryd.func10, Tryd.ntmps10
    go_wp2
    go_ret
    exact ⟨(Below.refl _ _).alloc (Nat.le_refl _) _, ret_bool HX.out⟩
  | true =>
    have f1 : decide (v.cnt < 1) = false := by simp at h1 ⊢; omega
    cases h2 : decide (v.cnt ≤ 40) with
    | false =>
      have f2 : decide (40 < v.cnt) = true := by simp at h2 ⊢; omega
      have HX : Hid (false = voOk v) := by show _ = _; unfold voOk; rw [h1, h2]; rfl
      go_enter Tryd.func10, Tryd.ntmps10
      go_wp2
      go_ret
      exact ⟨(Below.refl _ _).alloc (Nat.le_refl _) _, ret_bool HX.out⟩
    | true =>
      have f2 : decide (40 < v.cnt) = false := by simp at h2 ⊢; omega
      cases h3 : decide (1 ≤ v.num) with
      | false =>
        have f3 : decide (v.num < 1) = true := by simp at h3 ⊢; omega
        have HX : Hid (false = voOk v) := by show _ = _; unfold voOk; rw [h1, h2, h3]; rfl
        go_enter Tryd.func10, Tryd.ntmps10
        go_wp2
        go_ret
        exact ⟨(Below.refl _ _).alloc (Nat.le_refl _) _, ret_bool HX.out⟩
      | true =>
        have f3 : decide (v.num < 1) = false := by simp at h3 ⊢; omega
        cases h4 : decide (v.num ≤ v.cnt) with
        | false =>
          have f4 : decide (v.cnt < v.num) = true := by simp at h4 ⊢; omega
          have HX : Hid (false = voOk v) := by show _ = _; unfold voOk; rw [h1, h2, h3, h4]; rfl
          go_enter Tryd.func10, Tryd.ntmps10
          go_wp2
          go_ret
          exact ⟨(Below.refl _ _).alloc (Nat.le_refl _) _, ret_bool HX.out⟩
        | true =>
          have f4 : decide (v.cnt < v.num) = false := by simp at h4 ⊢; omega
          cases h5 : decide (v.text.size ≤ 2000) with
          | false =>
            have HX : Hid (false = voOk v) := by show _ = _; unfold voOk; rw [h1, h2, h3, h4, h5]; rfl
            have h5' : decide ((v.text.size : Int) ≤ 2000) = false := by simp at h5 ⊢; omega
            go_enter Tryd.func10, Tryd.ntmps10
            go_wp2
            go_quiet (fail)
            go_wp2
            go_ret
            exact ⟨below_drewN ((Below.refl _ _).alloc (Nat.le_refl _) _) _, ret_bool HX.out⟩
          | true =>
            have HX : Hid ((v.sum == ((sumB v.text : Nat) : Int)) = voOk v) := by show _ = _; unfold voOk; rw [h1, h2, h3, h4, h5]; simp
            have h5' : decide ((v.text.size : Int) ≤ 2000) = true := by simp at h5 ⊢; omega
            have hcall : Hid (∀ q, Calls Tryd.prog 15 #[.string v.text] ((w.alloc (.cells #[.int .i64 v.num, .int .i64 v.cnt, .int .i64 v.sum, .string v.text] 24)).drewN q) fun e w' => e = .returned (.int .i64 (sumB v.text : Nat)) ∧ w' = (w.alloc (.cells #[.int .i64 v.num, .int .i64 v.cnt, .int .i64 v.sum, .string v.text] 24)).drewN q) := fun q => implTapeSum_any v.text _ hs'
            go_enter Tryd.func10, Tryd.ntmps10
            go_wp2
            go_quiet (exact Calls.quiet_of_same (hcall.out _))
            go_wp2
            go_ret
            exact ⟨below_drewN ((Below.refl _ _).alloc (Nat.le_refl _) _) _, ret_bool HX.out⟩
end Go.Proofs.YtjlldefajgmelaaDoor
