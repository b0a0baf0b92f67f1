/-
  What lettersAlone and NameOk of the program answer at every text; they do not turn the world.
-/
import Derived.Test.YtnnhdcohfabenaaNameBase
namespace Go.Proofs.Ytnnhdcohfabenaa
open Go.RowKit
set_option linter.unusedVariables false

/-- Letters alone. -/
def lettersOk (s : ByteArray) : Bool := s.data.toList.all letter

set_option maxHeartbeats 400000 in
theorem lettersAlone_any (s : ByteArray) (w : World) (hs : s.size ≤ maxLen) :
    Calls Try.prog 98 #[.string s] w fun e w' => e = .returned (.bool (lettersOk s)) ∧ w' = w := by
  unfold maxLen at hs
  go_enter Try.func98, Try.ntmps98
  go_wp2
  go_loop [6] (fun i => ∃ k : Nat, k ≤ s.size ∧ i = .int .i64 k ∧ (s.data.toList.take k).all letter = true) (fun i => s.size - (intOf i).toNat)
  case atStart => exact ⟨0, Nat.zero_le _, rfl, rfl⟩
  case round =>
    obtain ⟨k, hk, rfl, ha⟩ := hrel
    have HA : Hid ((s.data.toList.take k).all letter = true) := ha
    clear ha
    by_cases hlt : k < s.size
    · go_wp2
      · go_ret
        exact ⟨ret_bool (not_all s k hlt (letter_no ‹_›)).symm, rfl⟩
      · go_round
        case rel => exact ⟨k + 1, by omega, by go_num, all_snoc s k hlt HA (letter_yes (by omega) (by omega))⟩
        case measure => simp [intOf]; omega
      · go_ret
        exact ⟨ret_bool (not_all s k hlt (letter_no (Or.inl ‹_›))).symm, rfl⟩
    · go_wp2
      go_ret
      refine ⟨ret_bool ?_, rfl⟩
      have h := HA.out
      rw [List.take_of_length_le (by simp; omega)] at h
      exact h.symm

theorem nameOk_mid (s : ByteArray) (h1 : 1 ≤ s.size) (h4 : s.size ≤ 4) : lettersOk s = nameOk s.data.toList := by
  have e : s.data.toList.length = s.size := by simp
  unfold lettersOk nameOk
  rw [decide_eq_true (show 1 ≤ s.data.toList.length by omega), decide_eq_true (show s.data.toList.length ≤ 4 by omega)]; simp

set_option maxHeartbeats 400000 in
theorem implNameOk_any (s : ByteArray) (w : World) (hs : s.size ≤ maxLen) :
    Calls Try.prog 99 #[.string s] w fun e w' => e = .returned (.bool (nameOk s.data.toList)) ∧ w' = w := by
  have hs' := hs
  unfold maxLen at hs'
  by_cases h1 : s.size < 1
  · have hb : decide ((1 : Int) ≤ s.size) = false := by simp; omega
    go_enter Try.func99, Try.ntmps99
    go_wp2
    go_ret
    exact ⟨ret_bool (nameOk_long s (Or.inl h1)), rfl⟩
  · have hb : decide ((1 : Int) ≤ s.size) = true := by simp; omega
    by_cases h4 : 4 < s.size
    · have hb4 : decide ((s.size : Int) ≤ 4) = false := by simp; omega
      go_enter Try.func99, Try.ntmps99
      go_wp2
      go_ret
      exact ⟨ret_bool (nameOk_long s (Or.inr h4)), rfl⟩
    · have hb4 : decide ((s.size : Int) ≤ 4) = true := by simp; omega
      go_enter Try.func99, Try.ntmps99
      go_wp2_with (go_at_call 98; refine (lettersAlone_any _ _ hs).mono ?_; rintro e w' ⟨rfl, rfl⟩)
      go_ret
      exact ⟨ret_bool (nameOk_mid s (by omega) (by omega)), rfl⟩
end Go.Proofs.Ytnnhdcohfabenaa
