/-
  The bits of a number in which the program keeps which places are not free.
-/
import Derived.Test.YtnnhdcohfabenaaDumpOkDef
import Derived.Laws.Shifts
namespace Go.Proofs.Ytnnhdcohfabenaa
open Go.RowKit
set_option linter.unusedVariables false

theorem wrap16 {z : Int} (h0 : 0 ≤ z) (h1 : z < 65536) : IntKind.u16.wrap z = z := by
  simp [IntKind.wrap, IntKind.bits, IntKind.signed]
  omega

theorem shl16 {k : Nat} (hk : k ≤ 10) : IntKind.u16.wrap ((2 : Int) ^ k) = ((2 ^ k : Nat) : Int) := by
  have hp : 2 ^ k ≤ 2 ^ 10 := Nat.pow_le_pow_right (by omega) hk
  have h1 : 2 ^ k < 65536 := by omega
  have e : (2 : Int) ^ k = ((2 ^ k : Nat) : Int) := by simp
  rw [e]
  clear e hp
  generalize 2 ^ k = y at h1 ⊢
  exact wrap16 (by omega) (by omega)

theorem or16 {x k : Nat} (hk : k ≤ 10) (hx : x < 2 ^ k) : bits .or .u16 (x : Int) ((2 ^ k : Nat) : Int) = ((x + 2 ^ k : Nat) : Int) := by
  have hp : 2 ^ k ≤ 2 ^ 10 := Nat.pow_le_pow_right (by omega) hk
  have hor : x ||| 2 ^ k = x + 2 ^ k := by
    have := Nat.two_pow_add_eq_or_of_lt hx 1
    rw [Nat.mul_one] at this
    rw [Nat.or_comm, ← this, Nat.add_comm]
  unfold bits
  simp only [show IntKind.u16.bits = 16 from rfl, BitVec.ofInt_natCast, BitVec.toNat_or, BitVec.toNat_ofNat]
  rw [Nat.mod_eq_of_lt (show x < 2 ^ 16 by omega), Nat.mod_eq_of_lt (show 2 ^ k < 2 ^ 16 by omega), hor]
  exact wrap16 (by omega) (by omega)

theorem and16 {y : Nat} (hy : y < 65536) : bits .and .u16 (y : Int) 1 = ((y % 2 : Nat) : Int) := by
  unfold bits
  have h1 : (BitVec.ofInt IntKind.u16.bits 1).toNat = 1 := by decide
  simp only [BitVec.ofInt_natCast, BitVec.toNat_and, BitVec.toNat_ofNat]
  rw [h1, show IntKind.u16.bits = 16 from rfl, Nat.mod_eq_of_lt (show y < 2 ^ 16 by omega), Nat.and_one_is_mod]
  exact wrap16 (by omega) (by omega)

theorem has16 {Z : Nat → Bool} {n j : Nat} (hn : n ≤ 10) : (bits .and .u16 (((bvv Z n : Nat) : Int) / 2 ^ j) 1 == 1) = (decide (j < n) && Z j) := by
  have hlt := bvv_lt Z n
  have hp : 2 ^ n ≤ 2 ^ 10 := Nat.pow_le_pow_right (by omega) hn
  have e1 : (((bvv Z n : Nat) : Int) / 2 ^ j) = ((bvv Z n / 2 ^ j : Nat) : Int) := by simp
  have h2 : bvv Z n / 2 ^ j ≤ bvv Z n := Nat.div_le_self _ _
  rw [e1, and16 (by omega), ← bvv_test Z j n, Nat.testBit_eq_decide_div_mod_eq]
  rcases Nat.mod_two_eq_zero_or_one (bvv Z n / 2 ^ j) with h | h <;> rw [h] <;> rfl

set_option maxHeartbeats 1000000 in
theorem bitsOfList_any (a : Option Addr) (n c : Nat) (Z : Nat → Bool) (w : World) (hS : IsBools w a n Z) (hn : n ≤ 10) :
    Calls Try.prog 30 #[.slice a n c] w fun e w' => w' = w ∧ e = .returned (.int .u16 (bvv Z n : Nat)) := by
  go_enter Try.func30, Try.ntmps30
  go_wp2
  go_loopw [3, 8] (fun v i wr => ∃ k : Nat, k ≤ n ∧ i = .int .i64 k ∧ v = .int .u16 (bvv Z k : Nat) ∧ wr = w) (fun _ i _ => n - (intOf i).toNat)
  case atStart => exact ⟨0, Nat.zero_le _, rfl, rfl, rfl⟩
  case round =>
    obtain ⟨k, hk, rfl, rfl, rfl⟩ := hrel
    by_cases hlt : k < n
    · obtain ⟨b, off, rfl, hlt2, hc⟩ := hS.at hlt
      have g0 := hc k hlt
      have hlti : (k : Int) < (n : Int) := by omega
      clear hc
      cases hz : Z k with
      | false =>
        rw [hz] at g0
        have HE : Hid (bvv Z (k + 1) = bvv Z k) := by show _ = _; rw [bvv, hz]; rfl
        clear hz
        go_wp2
        go_roundw
        case rel => exact ⟨k + 1, by omega, by go_num, by rw [HE.out], trivial⟩
        case measure => simp [intOf]; omega
      | true =>
        rw [hz] at g0
        have HE : Hid (bvv Z (k + 1) = bvv Z k + 2 ^ k) := by show _ = _; rw [bvv, hz]; rfl
        have HS : Hid (IntKind.u16.wrap ((2 : Int) ^ k) = ((2 ^ k : Nat) : Int) ∧ bits .or .u16 ((bvv Z k : Nat) : Int) ((2 ^ k : Nat) : Int) = ((bvv Z k + 2 ^ k : Nat) : Int)) := ⟨shl16 (by omega), or16 (by omega) (bvv_lt Z k)⟩
        clear hz
        go_wp2
        go_roundw
        case rel => exact ⟨k + 1, by omega, by go_num, by rw [HS.out.1, HS.out.2, HE.out], trivial⟩
        case measure => simp [intOf]; omega
    · obtain rfl : k = n := by omega
      go_wp2
      go_ret
      exact ⟨rfl, rfl⟩

set_option maxHeartbeats 1000000 in
theorem has_any (Z : Nat → Bool) (n : Nat) (z : Int) (w : World) (hn : n ≤ 10) (hz : In64 z) :
    Calls Try.prog 31 #[.int .u16 (bvv Z n : Nat), .int .i64 z] w fun e w' => w' = w ∧ e = .returned (.bool (liveIn n Z z)) := by
  unfold In64 at hz
  by_cases h0 : 0 ≤ z
  · by_cases h10 : z < 10
    · obtain ⟨j, rfl⟩ : ∃ j : Nat, z = j := ⟨z.toNat, by omega⟩
      have hb0 : decide ((0 : Int) ≤ (j : Int)) = true := by simp
      have hb1 : decide ((j : Int) < 10) = true := by simp; omega
      have H16 : Hid _ := has16 (Z := Z) (n := n) (j := j) hn
      have HX : Hid ((decide (j < n) && Z j) = liveIn n Z j) := by show _ = _; unfold liveIn; simp
      have hj0 : (0 : Int) ≤ (j : Int) := by omega
      go_enter Try.func31, Try.ntmps31
      go_wp2
      go_ret
      exact ⟨rfl, ret_bool (by rw [← HX.out, ← H16.out])⟩
    · have hb0 : decide ((0 : Int) ≤ z) = true := by simp; omega
      have hb1 : decide (z < 10) = false := by simp; omega
      have HX : Hid (false = liveIn n Z z) := by show _ = _; unfold liveIn; rw [decide_eq_false (show ¬ z < n by omega)]; simp
      go_enter Try.func31, Try.ntmps31
      go_wp2
      go_ret
      exact ⟨rfl, ret_bool HX.out⟩
  · have hb0 : decide ((0 : Int) ≤ z) = false := by simp; omega
    have HX : Hid (false = liveIn n Z z) := by show _ = _; unfold liveIn; rw [decide_eq_false h0]; rfl
    go_enter Try.func31, Try.ntmps31
    go_wp2
    go_ret
    exact ⟨rfl, ret_bool HX.out⟩
end Go.Proofs.Ytnnhdcohfabenaa
