/-
  What TapeSum of the program answers.
-/
import Derived.Test.YtjlldefajgmelaaDoorSumMath
namespace Go.Proofs.YtjlldefajgmelaaDoor
open Go.RowKit
set_option linter.unusedVariables false

set_option maxHeartbeats 400000 in
theorem implTapeSum_any (s : ByteArray) (w : World) (hs : s.size ≤ maxLen) :
    Calls Tryd.prog 15 #[.string s] w fun e w' => e = .returned (.int .i64 (sumB s : Nat)) ∧ w' = w := by
  unfold maxLen at hs
  go_enter Tryd.func15, Tryd.ntmps15
  go_wp2
  go_loop [3, 7] (fun m i => ∃ k : Nat, k ≤ s.size ∧ i = .int .i64 k ∧ m = .int .u32 (sumOf (s.data.toList.take k) : Nat)) (fun _ i => s.size - (intOf i).toNat)
  case atStart => exact ⟨0, Nat.zero_le _, rfl, rfl⟩
  case round =>
    obtain ⟨k, hk, rfl, rfl⟩ := hrel
    by_cases hlt : k < s.size
    · have hst := sum_take s k hlt
      have hb := sumOf_lt (s.data.toList.take k)
      have hc := UInt8.toNat_lt s[k]
      generalize sumOf (s.data.toList.take k) = g at hst hb ⊢
      have w1 : IntKind.u32.wrap ((g : Int) * 31) = (g : Int) * 31 := wrap32 (by omega) (by omega)
      have w2 : IntKind.u32.wrap (((s[k]).toNat : Int)) = ((s[k]).toNat : Int) := wrap32 (by omega) (by omega)
      have w3 : IntKind.u32.wrap ((g : Int) * 31 + ((s[k]).toNat : Int)) = (g : Int) * 31 + ((s[k]).toNat : Int) := wrap32 (by omega) (by omega)
      have w4 : IntKind.u32.wrap ((g : Int) * 31 + ((s[k]).toNat : Int) + 1) = (g : Int) * 31 + ((s[k]).toNat : Int) + 1 := wrap32 (by omega) (by omega)
      have w5 : IntKind.u32.wrap (((g : Int) * 31 + ((s[k]).toNat : Int) + 1).tmod 9973) = ((g : Int) * 31 + ((s[k]).toNat : Int) + 1).tmod 9973 := by
        rw [Int.tmod_eq_emod_of_nonneg (by omega)]; exact wrap32 (by omega) (by omega)
      go_wp2
      go_round
      case rel => exact ⟨k + 1, by omega, by go_num, by rw [hst]; congr 1⟩
      case measure => simp [intOf]; omega
    · rw [sum_all s k (by omega)]
      have hb := sumB_lt s
      have w1 : IntKind.i64.wrap ((sumB s : Nat) : Int) = ((sumB s : Nat) : Int) := by simp [IntKind.wrap, IntKind.bits, IntKind.signed]; omega
      generalize hg : sumB s = g at hb w1 ⊢
      have HG : Hid (sumB s = g) := hg
      clear hg
      go_wp2
      go_ret
      exact ⟨ret_n HG.out.symm, rfl⟩
end Go.Proofs.YtjlldefajgmelaaDoor
