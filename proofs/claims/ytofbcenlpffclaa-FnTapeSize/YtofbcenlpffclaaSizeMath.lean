/-
  How long the pieces of a text are: plain facts.
-/
import Derived.Test.YtofbcenlpffclaaCutMath
namespace Go.Proofs.Ytofbcenlpffclaa
open Go.RowKit
set_option linter.unusedVariables false

theorem start_lt {len size i : Nat} (h : 1 ≤ size) (hl : len ≠ 0) (hi : i < ofN len size) : i * size < len := by
  unfold ofN at hi
  rw [if_neg hl] at hi
  have h1 : (i + 1) * size ≤ len + size - 1 := (Nat.le_div_iff_mul_le (by omega)).1 (by omega)
  rw [Nat.add_mul, Nat.one_mul] at h1
  omega

theorem end_ge {len size : Nat} (h : 1 ≤ size) : len ≤ ofN len size * size := by
  unfold ofN
  split
  · omega
  · have h1 := Nat.lt_mul_div_succ (len + size - 1) (show 0 < size by omega)
    rw [Nat.mul_add, Nat.mul_one, Nat.mul_comm] at h1
    omega

theorem ofN_mono {len size : Nat} (h : 1 ≤ size) : ofN len (size + 1) ≤ ofN len size := by
  have he := end_ge (len := len) h
  have h1 := ofN_pos (len := len) h
  unfold ofN at he h1 ⊢
  split
  · omega
  · rename_i h0
    rw [if_neg h0] at he h1
    generalize (len + size - 1) / size = q at *
    have hlt : (len + (size + 1) - 1) / (size + 1) < q + 1 := by
      rw [Nat.div_lt_iff_lt_mul (by omega), Nat.add_mul, Nat.mul_add]
      omega
    omega

/-- How long a piece is. -/
def pieceLen (s : ByteArray) (size i : Nat) : Nat := (s.extract (i * size) (endAt s size i)).size
/-- How much the first of them have. -/
def gone (len size i : Nat) : Nat := if len < i * size then len else i * size

theorem piece_gone (s : ByteArray) (size i : Nat) (h : 1 ≤ size) (hi : i < ofN s.size size) : gone s.size size i + pieceLen s size i = gone s.size size (i + 1) := by
  have h1 := start_le h hi
  have h2 : (i + 1) * size = i * size + size := by rw [Nat.add_mul, Nat.one_mul]
  unfold pieceLen gone endAt
  rw [ByteArray.size_extract, h2]
  generalize i * size = p at *
  split <;> split <;> omega

theorem piece_full (s : ByteArray) (size i : Nat) (h : 1 ≤ size) (hi : i + 1 < ofN s.size size) : pieceLen s size i = size := by
  have h1 := start_le h hi
  have h2 : (i + 1) * size = i * size + size := by rw [Nat.add_mul, Nat.one_mul]
  unfold pieceLen endAt
  rw [ByteArray.size_extract]
  rw [h2] at h1 ⊢
  generalize i * size = p at *
  split <;> omega

theorem piece_some (s : ByteArray) (size i : Nat) (h : 1 ≤ size) (h1 : 1 < ofN s.size size) (hi : i < ofN s.size size) : 1 ≤ pieceLen s size i := by
  have hl : s.size ≠ 0 := by
    intro e
    unfold ofN at h1
    rw [if_pos e] at h1
    omega
  have h1 := start_lt h hl hi
  have h2 : (i + 1) * size = i * size + size := by rw [Nat.add_mul, Nat.one_mul]
  unfold pieceLen endAt
  rw [ByteArray.size_extract, h2]
  generalize i * size = p at *
  split <;> omega

theorem piece_len_le (s : ByteArray) (size i : Nat) : pieceLen s size i ≤ s.size := by
  unfold pieceLen
  rw [ByteArray.size_extract]
  omega

theorem gone_zero (len size : Nat) : gone len size 0 = 0 := by unfold gone; simp
theorem gone_all {len size : Nat} (h : 1 ≤ size) : gone len size (ofN len size) = len := by
  have := end_ge (len := len) h
  unfold gone
  split <;> omega
theorem gone_le (len size i : Nat) : gone len size i ≤ len := by unfold gone; split <;> omega
theorem last_le {len size : Nat} (h : 1 ≤ size) : (ofN len size - 1) * size ≤ len := start_le h (by have := ofN_pos (len := len) h; omega)
end Go.Proofs.Ytofbcenlpffclaa
