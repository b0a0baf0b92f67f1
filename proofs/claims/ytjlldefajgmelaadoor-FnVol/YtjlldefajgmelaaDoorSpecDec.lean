/-
  What l11Dec of the specification answers: the decimals of a number.
-/
import Derived.Test.YtjlldefajgmelaaDoorMark
import Derived.Lib.ItoaNum
namespace Go.Proofs.YtjlldefajgmelaaDoor
open Go.RowKit
set_option linter.unusedVariables false

/-- A number in decimals. -/
def decB (n : Nat) : ByteArray := ⟨(Lib.decDigits n).toArray⟩

theorem decDigits_step {m : Nat} (h : ¬ m < 10) : Lib.decDigits m = Lib.decDigits (m / 10) ++ [dig m] := by
  rw [Lib.decDigits, dif_neg h]; rfl
theorem decDigits_last {m : Nat} (h : m < 10) : Lib.decDigits m = [dig m] := by
  rw [Lib.decDigits, dif_pos h]; unfold dig; rw [Nat.mod_eq_of_lt h]

theorem conv_digit2 (wr : World) (m : Nat) (h : m < 10) : (convert 22 9 (.slice (some ⟨wr.heap.size, 0, none⟩) 1 1)).run Tryd.prog (wr.alloc (.cells #[.int .u8 (48 + (m : Int))] 5)) = .ok (.string ⟨#[dig m]⟩) (wr.alloc (.cells #[.int .u8 (48 + (m : Int))] 5)) := by
  have := conv_digit wr m
  rwa [show (m : Int) % 10 = (m : Int) by omega] at this

theorem decDigits_len : ∀ (m : Nat), (Lib.decDigits m).length ≤ m + 1 := by
  intro m
  induction m using Nat.strongRecOn with
  | _ m ih =>
    by_cases h : m < 10
    · rw [decDigits_last h]; simp
    · rw [decDigits_step h, List.length_append]
      have := ih (m / 10) (by omega)
      simp
      omega

set_option maxRecDepth 100000 in
set_option maxHeartbeats 1000000 in
theorem l11Dec_any (n : Nat) (w : World) (hn : n ≤ 100000) :
    Calls Tryd.prog 21 #[.int .i64 (n : Nat)] w fun e w' => e = .returned (.string (decB n)) ∧ Below w.heap.size w w' := by
  have hd0 : decide ((n : Int) < -9223372036854775807) = false := decide_eq_false (by omega)
  have hd1 : decide ((n : Int) < 0) = false := by simp
  go_enter Tryd.func21, Tryd.ntmps21
  go_wp2
  go_loopw [0, 3] (fun kk o wr => ∃ (m : Nat) (out : List UInt8), kk = .int .i64 m ∧ o = .string ⟨out.toArray⟩ ∧ m ≤ 100000 ∧ Lib.decDigits m ++ out = Lib.decDigits n ∧ out.length + m ≤ 100000 ∧ Below w.heap.size w wr) (fun kk _ _ => (intOf kk).toNat)
  case atStart => exact ⟨n, [], rfl, rfl, hn, by simp, by simpa using hn, Below.refl _ _⟩
  case round =>
    obtain ⟨m, out, rfl, rfl, hm, hd, hlen, hB⟩ := hrel
    have HD : Hid (Lib.decDigits m ++ out = Lib.decDigits n) := hd
    have HB : Hid (Below w.heap.size w wr) := hB
    clear hd hB
    by_cases h9 : 9 < m
    · have hp : (9 : Int) < (m : Int) := by omega
      have hcv := conv_digit wr m
      have HD2 : Hid (Lib.decDigits (m / 10) ++ (dig m :: out) = Lib.decDigits n) := by
        show _ = _
        rw [← HD.out, decDigits_step (m := m) (by omega)]; simp
      go_wp2
      go_roundw
      case rel => exact ⟨m / 10, dig m :: out, by go_num, congrArg Value.string (ByteArray.mk_append_mk [dig m] out), by omega, HD2.out, by simp; omega, HB.out.alloc HB.out.size _⟩
      case measure => simp [intOf]; omega
    · have hp : decide ((9 : Int) < (m : Int)) = false := by simp; omega
      have hcv := conv_digit2 wr m (by omega)
      go_wp2
      go_ret
      refine ⟨mret_str ?_, HB.out.alloc HB.out.size _⟩
      have hd := HD.out
      rw [decDigits_last (by omega)] at hd
      unfold decB
      rw [← hd]
      exact ByteArray.mk_append_mk [dig m] out
end Go.Proofs.YtjlldefajgmelaaDoor
