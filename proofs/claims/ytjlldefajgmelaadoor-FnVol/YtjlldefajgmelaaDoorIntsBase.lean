/-
  Lists of numbers as they lie in memory, and places of a tree: plain facts.
-/
import Derived.Test.YtjlldefajgmelaaDoorStrsBase
namespace Go.Proofs.YtjlldefajgmelaaDoor
open Go.RowKit
set_option linter.unusedVariables false

theorem infoInt : (Tryd.prog.info? 3).map (fun i => (i.zero, i.size, i.bytes)) = some (some (.int .i64 0), 1, 8) := by kernel_rfl

/-- n numbers lie in memory from the address on. -/
def IsInts (w : World) (a : Option Addr) (n : Nat) (Z : Nat → Int) : Prop :=
  n = 0 ∨ ∃ b off, a = some ⟨b, off, none⟩ ∧ b < w.heap.size ∧ ∀ i, i < n → w.cell? ⟨b, off + i, none⟩ = some (.int .i64 (Z i))

/-- Each is a number of 64 bits. -/
def In64 (z : Int) : Prop := -9223372036854775808 ≤ z ∧ z ≤ 9223372036854775807

theorem IsInts.at {w : World} {a : Option Addr} {n : Nat} {Z : Nat → Int} (h : IsInts w a n Z) {k : Nat} (hk : k < n) :
    ∃ b off, a = some ⟨b, off, none⟩ ∧ b < w.heap.size ∧ ∀ i, i < n → w.cell? ⟨b, off + i, none⟩ = some (.int .i64 (Z i)) := by
  rcases h with h | h
  · omega
  · exact h

theorem IsInts.below {w w' : World} {a : Option Addr} {n : Nat} {Z : Nat → Int} (h : IsInts w a n Z) {B : Nat} (hB : w.heap.size ≤ B) (hb : Below B w w') : IsInts w' a n Z := by
  rcases h with h | ⟨b, off, ha, hlt, hc⟩
  · exact Or.inl h
  · exact Or.inr ⟨b, off, ha, by have := hb.size; omega, fun i hi => by rw [hb.cell (p := ⟨b, off + i, none⟩) (by show b < B; omega)]; exact hc i hi⟩

def eqZ (n : Nat) (Z Y : Nat → Int) : Bool := (List.range n).all fun i => Z i == Y i

theorem eqZ_succ (k : Nat) (Z Y : Nat → Int) (h : eqZ k Z Y = true) (hk : Z k = Y k) : eqZ (k + 1) Z Y = true := by
  unfold eqZ at *
  rw [List.range_succ, List.all_append, h]; simpa using hk

theorem eqZ_not (n k : Nat) (Z Y : Nat → Int) (hk : k < n) (h : ¬ Z k = Y k) : false = eqZ n Z Y := by
  symm
  rw [Bool.eq_false_iff]
  intro ha
  have := List.all_eq_true.1 ha k (by simpa using hk)
  simp at this; exact h this

theorem eqZ_self (n : Nat) (Z Y : Nat → Int) (h : ∀ i, i < n → Z i = Y i) : eqZ n Z Y = true := by
  unfold eqZ
  rw [List.all_eq_true]
  intro i hi
  rw [h i (by simpa using hi)]
  simp

theorem IsInts.row {w : World} {b n : Nat} {Z : Nat → Int} (h : w.rowIs b 3 n (fun i => .int .i64 (Z i))) : IsInts w (some ⟨b, 0, none⟩) n Z :=
  Or.inr ⟨b, 0, rfl, h.lt, fun i hi => by rw [Nat.zero_add]; exact h.cell hi⟩
end Go.Proofs.YtjlldefajgmelaaDoor
