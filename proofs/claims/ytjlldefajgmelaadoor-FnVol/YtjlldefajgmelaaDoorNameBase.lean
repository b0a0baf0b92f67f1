/-
  What NameOk of the specification answers at every text: whether it has 1 to 4 letters, each from a to z; it does not turn the world.
-/
import Derived.Test.YtjlldefajgmelaaDoorProg
import Derived.WalkKit
import Derived.WalkSpells
import Derived.Below
namespace Go.Proofs.YtjlldefajgmelaaDoor
open Go.RowKit
set_option linter.unusedVariables false

/-- A letter from a to z. -/
def letter (c : UInt8) : Bool := decide (97 ≤ (c.toNat : Int) ∧ (c.toNat : Int) ≤ 122)
/-- A name. -/
def nameOk (l : List UInt8) : Bool := l.all letter && decide (1 ≤ l.length) && decide (l.length ≤ 4)

theorem take_snoc (s : ByteArray) (k : Nat) (h : k < s.size) : s.data.toList.take (k + 1) = s.data.toList.take k ++ [s[k]] := by
  rw [List.take_succ_eq_append_getElem (by simpa using h)]; rfl

theorem letter_yes {c : UInt8} (h1 : ¬ (c.toNat : Int) < 97) (h2 : ¬ (122 : Int) < (c.toNat : Int)) : letter c = true := by
  unfold letter; simp; omega

theorem all_snoc (s : ByteArray) (k : Nat) (h : k < s.size) (ha : (s.data.toList.take k).all letter = true) (hc : letter s[k] = true) : (s.data.toList.take (k + 1)).all letter = true := by
  rw [take_snoc s k h, List.all_append, ha]; simp [hc]

theorem not_all (s : ByteArray) (k : Nat) (h : k < s.size) (hc : letter s[k] = false) : s.data.toList.all letter = false := by
  rw [Bool.eq_false_iff]
  intro ha
  have := List.all_eq_true.1 ha s[k] (by
    have : s[k] = s.data.toList[k]'(by simpa using h) := rfl
    rw [this]; exact List.getElem_mem _)
  rw [hc] at this; cases this

theorem ret_bool {a b : Bool} (h : a = b) : Ending.returned (.bool a) = .returned (.bool b) := by rw [h]

theorem letter_no {c : UInt8} (h : (c.toNat : Int) < 97 ∨ (122 : Int) < (c.toNat : Int)) : letter c = false := by
  unfold letter; simp; omega

theorem nameOk_bad (s : ByteArray) (k : Nat) (h : k < s.size) (hc : letter s[k] = false) : false = nameOk s.data.toList := by
  unfold nameOk; rw [not_all s k h hc]; rfl

theorem nameOk_long (s : ByteArray) (h : s.size < 1 ∨ 4 < s.size) : false = nameOk s.data.toList := by
  unfold nameOk
  have e : s.data.toList.length = s.size := by simp
  rcases h with h | h
  · rw [decide_eq_false (show ¬ 1 ≤ s.data.toList.length by omega)]; simp
  · rw [decide_eq_false (show ¬ s.data.toList.length ≤ 4 by omega)]; simp

theorem nameOk_end (s : ByteArray) (k : Nat) (hk : k ≤ s.size) (h : ¬ k < s.size) (ha : (s.data.toList.take k).all letter = true) (h1 : 1 ≤ s.size) : decide (s.size ≤ 4) = nameOk s.data.toList := by
  have e : s.data.toList.length = s.size := by simp
  rw [List.take_of_length_le (by omega)] at ha
  unfold nameOk
  rw [ha, show decide (1 ≤ s.data.toList.length) = true by simp; omega]; simp

end Go.Proofs.YtjlldefajgmelaaDoor
