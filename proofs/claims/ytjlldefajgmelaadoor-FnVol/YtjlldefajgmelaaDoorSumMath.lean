/-
  The sum of a text: plain facts.
-/
import Derived.Test.YtjlldefajgmelaaDoorNameBase
namespace Go.Proofs.YtjlldefajgmelaaDoor
open Go.RowKit
set_option linter.unusedVariables false

/-- A byte more. -/
def sumStep (n : Nat) (b : UInt8) : Nat := (n * 31 + b.toNat + 1) % 9973
/-- The sum of a text. -/
def sumOf (l : List UInt8) : Nat := l.foldl sumStep 0
def sumB (s : ByteArray) : Nat := sumOf s.data.toList

theorem sumStep_lt (n : Nat) (b : UInt8) : sumStep n b < 9973 := Nat.mod_lt _ (by decide)
theorem sumOf_append (l r : List UInt8) : sumOf (l ++ r) = r.foldl sumStep (sumOf l) := by unfold sumOf; rw [List.foldl_append]
theorem sumOf_snoc (l : List UInt8) (b : UInt8) : sumOf (l ++ [b]) = sumStep (sumOf l) b := by rw [sumOf_append]; rfl
theorem foldl_sum_lt (l : List UInt8) : ∀ n, n < 9973 → l.foldl sumStep n < 9973 := by
  induction l with
  | nil => intro n h; exact h
  | cons b l ih => intro n _; exact ih _ (sumStep_lt n b)
theorem sumOf_lt (l : List UInt8) : sumOf l < 9973 := foldl_sum_lt l 0 (by decide)
theorem sumB_lt (s : ByteArray) : sumB s < 9973 := sumOf_lt _
theorem sum_take (s : ByteArray) (k : Nat) (h : k < s.size) : sumOf (s.data.toList.take (k + 1)) = (sumOf (s.data.toList.take k) * 31 + (s[k]).toNat + 1) % 9973 := by
  rw [take_snoc s k h, sumOf_snoc]; rfl
theorem sum_all (s : ByteArray) (k : Nat) (hk : s.size ≤ k) : sumOf (s.data.toList.take k) = sumB s := by
  rw [List.take_of_length_le (by simp; omega)]; rfl

theorem wrap32 {z : Int} (h0 : 0 ≤ z) (h1 : z < 4294967296) : IntKind.u32.wrap z = z := by
  simp [IntKind.wrap, IntKind.bits, IntKind.signed]; omega
theorem ret_n {a b : Nat} (h : a = b) : Ending.returned (.int .i64 (a : Int)) = .returned (.int .i64 (b : Int)) := by rw [h]
end Go.Proofs.YtjlldefajgmelaaDoor
