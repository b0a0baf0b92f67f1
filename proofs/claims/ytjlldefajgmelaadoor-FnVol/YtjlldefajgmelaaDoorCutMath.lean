/-
  A text cut into pieces: plain facts.
-/
import Derived.Test.YtjlldefajgmelaaDoorVosBase
namespace Go.Proofs.YtjlldefajgmelaaDoor
open Go.RowKit
set_option linter.unusedVariables false

/-- How many pieces of a size a text of so many bytes has. -/
def ofN (len size : Nat) : Nat := if len = 0 then 1 else (len + size - 1) / size
/-- Whether a text can be cut so. -/
def cutOk (s : ByteArray) (z : Int) : Bool := decide (s.size ≤ 2000) && decide (1 ≤ z) && decide (z ≤ 2000) && decide (ofN s.size z.toNat ≤ 40)
def cutN (s : ByteArray) (z : Int) : Nat := if cutOk s z = true then ofN s.size z.toNat else 0
/-- Where a piece ends. -/
def endAt (s : ByteArray) (size i : Nat) : Nat := if s.size < (i + 1) * size then s.size else (i + 1) * size
def piece (s : ByteArray) (size of i : Nat) : Vo := ⟨((i + 1 : Nat) : Int), (of : Int), ((sumB (s.extract (i * size) (endAt s size i)) : Nat) : Int), s.extract (i * size) (endAt s size i)⟩

theorem ofN_pos {len size : Nat} (h : 1 ≤ size) : 1 ≤ ofN len size := by
  unfold ofN
  split
  · omega
  · exact (Nat.le_div_iff_mul_le (by omega)).2 (by omega)

theorem start_le {len size i : Nat} (h : 1 ≤ size) (hi : i < ofN len size) : i * size ≤ len := by
  unfold ofN at hi
  split at hi
  · obtain rfl : i = 0 := by omega
    omega
  · have h1 : (i + 1) * size ≤ len + size - 1 := (Nat.le_div_iff_mul_le (by omega)).1 (by omega)
    rw [Nat.add_mul, Nat.one_mul] at h1
    omega

theorem ofN_mul {len size : Nat} (h : 1 ≤ size) (h2 : ofN len size ≤ 40) (hs : size ≤ 2000) (hl : len ≤ 2000) (i : Nat) (hi : i ≤ 40) : (i + 1) * size ≤ 82000 := by
  calc (i + 1) * size ≤ 41 * 2000 := Nat.mul_le_mul (by omega) hs
    _ = 82000 := rfl

theorem cutOk_iff {s : ByteArray} {z : Int} : cutOk s z = true ↔ s.size ≤ 2000 ∧ 1 ≤ z ∧ z ≤ 2000 ∧ ofN s.size z.toNat ≤ 40 := by
  unfold cutOk; simp [and_assoc]
theorem cutN_bad {s : ByteArray} {z : Int} (h : cutOk s z = false) : cutN s z = 0 := by unfold cutN; rw [h]; rfl
theorem cutN_few (s : ByteArray) (z : Int) : cutN s z ≤ 40 := by
  unfold cutN
  split
  · rename_i h; exact (cutOk_iff.1 h).2.2.2
  · omega
end Go.Proofs.YtjlldefajgmelaaDoor
