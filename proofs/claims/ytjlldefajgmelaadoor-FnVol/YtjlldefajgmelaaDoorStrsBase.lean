/-
  Lists of texts as they lie in memory, and what is said of them: plain facts.
-/
import Derived.Test.YtjlldefajgmelaaDoorNameBase
import Derived.Deep.OwnRows
import Derived.Deep.QuietTactic
import Derived.BigQuiet
namespace Go.Proofs.YtjlldefajgmelaaDoor
open Go.RowKit
set_option linter.unusedVariables false

/-- n texts lie in memory from the address on. -/
def IsStrs (w : World) (a : Option Addr) (n : Nat) (S : Nat → ByteArray) : Prop :=
  n = 0 ∨ ∃ b off, a = some ⟨b, off, none⟩ ∧ b < w.heap.size ∧ ∀ i, i < n → w.cell? ⟨b, off + i, none⟩ = some (.string (S i))

def Small (n : Nat) (S : Nat → ByteArray) : Prop := ∀ i, i < n → (S i).size ≤ maxLen

theorem IsStrs.at {w : World} {a : Option Addr} {n : Nat} {S : Nat → ByteArray} (h : IsStrs w a n S) {k : Nat} (hk : k < n) :
    ∃ b off, a = some ⟨b, off, none⟩ ∧ b < w.heap.size ∧ ∀ i, i < n → w.cell? ⟨b, off + i, none⟩ = some (.string (S i)) := by
  rcases h with h | h
  · omega
  · exact h

theorem IsStrs.below {w w' : World} {a : Option Addr} {n : Nat} {S : Nat → ByteArray} (h : IsStrs w a n S) {B : Nat} (hB : w.heap.size ≤ B) (hb : Below B w w') : IsStrs w' a n S := by
  rcases h with h | ⟨b, off, ha, hlt, hc⟩
  · exact Or.inl h
  · exact Or.inr ⟨b, off, ha, by have := hb.size; omega, fun i hi => by rw [hb.cell (p := ⟨b, off + i, none⟩) (by show b < B; omega)]; exact hc i hi⟩

/-- The letters of the first k. -/
def sumTo (S : Nat → ByteArray) : Nat → Nat | 0 => 0 | k + 1 => sumTo S k + (S k).size

theorem sumTo_succ (S : Nat → ByteArray) (k : Nat) : sumTo S (k + 1) = sumTo S k + (S k).size := rfl

theorem size_le_sumTo (S : Nat → ByteArray) (n : Nat) : ∀ i, i < n → (S i).size ≤ sumTo S n := by
  induction n with
  | zero => intro i hi; omega
  | succ n ih => intro i hi; rw [sumTo_succ]; by_cases h : i < n
                 · have := ih i h; omega
                 · have : i = n := by omega
                   subst this; omega

def eqS (n : Nat) (S T : Nat → ByteArray) : Bool := (List.range n).all fun i => (S i).toList == (T i).toList

theorem eqS_succ (k : Nat) (S T : Nat → ByteArray) (h : eqS k S T = true) (hk : (!(S k).toList == (T k).toList) = false) : eqS (k + 1) S T = true := by
  unfold eqS at *
  rw [List.range_succ, List.all_append, h]; simpa using hk

theorem eqS_not (n k : Nat) (S T : Nat → ByteArray) (hk : k < n) (h : (!(S k).toList == (T k).toList) = true) : false = eqS n S T := by
  symm
  rw [Bool.eq_false_iff]
  intro ha
  have := List.all_eq_true.1 ha k (by simpa using hk)
  simp [this] at h

theorem eqS_self (n : Nat) (S T : Nat → ByteArray) (h : ∀ i, i < n → S i = T i) : eqS n S T = true := by
  unfold eqS
  rw [List.all_eq_true]
  intro i hi
  rw [h i (by simpa using hi)]
  simp

theorem IsStrs.row {w : World} {b n : Nat} {S : Nat → ByteArray} (h : w.rowIs b 9 n (fun i => .string (S i))) : IsStrs w (some ⟨b, 0, none⟩) n S :=
  Or.inr ⟨b, 0, rfl, h.lt, fun i hi => by rw [Nat.zero_add]; exact h.cell hi⟩

theorem Small.of_sum {n : Nat} {S : Nat → ByteArray} {r left : Int} (h : r + n + sumTo S n ≤ left) (h0 : 0 ≤ r) (h1 : left ≤ 1048576) : Small n S := fun i hi => by
  have := size_le_sumTo S n i hi
  unfold maxLen; omega
end Go.Proofs.YtjlldefajgmelaaDoor
