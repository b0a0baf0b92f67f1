/-
  Lists of truth values as they lie in memory: plain facts.
-/
import Derived.Test.YtnnhdcohfabenaaNodesDef
namespace Go.Proofs.Ytnnhdcohfabenaa
open Go.RowKit
set_option linter.unusedVariables false

theorem infoBool : (Try.prog.info? 4).map (fun i => (i.zero, i.size, i.bytes)) = some (some (.bool false), 1, 1) := by kernel_rfl

/-- n truth values lie in memory from the address on. -/
def IsBools (w : World) (a : Option Addr) (n : Nat) (Z : Nat → Bool) : Prop :=
  n = 0 ∨ ∃ b off, a = some ⟨b, off, none⟩ ∧ b < w.heap.size ∧ ∀ i, i < n → w.cell? ⟨b, off + i, none⟩ = some (.bool (Z i))

theorem IsBools.at {w : World} {a : Option Addr} {n : Nat} {Z : Nat → Bool} (h : IsBools w a n Z) {k : Nat} (hk : k < n) :
    ∃ b off, a = some ⟨b, off, none⟩ ∧ b < w.heap.size ∧ ∀ i, i < n → w.cell? ⟨b, off + i, none⟩ = some (.bool (Z i)) := by
  rcases h with h | h
  · omega
  · exact h

theorem IsBools.below {w w' : World} {a : Option Addr} {n : Nat} {Z : Nat → Bool} (h : IsBools w a n Z) {B : Nat} (hB : w.heap.size ≤ B) (hb : Below B w w') : IsBools w' a n Z := by
  rcases h with h | ⟨b, off, ha, hlt, hc⟩
  · exact Or.inl h
  · exact Or.inr ⟨b, off, ha, by have := hb.size; omega, fun i hi => by rw [hb.cell (p := ⟨b, off + i, none⟩) (by show b < B; omega)]; exact hc i hi⟩

def eqB (n : Nat) (Z Y : Nat → Bool) : Bool := (List.range n).all fun i => Z i == Y i

theorem eqB_succ (k : Nat) (Z Y : Nat → Bool) (h : eqB k Z Y = true) (hk : Z k = Y k) : eqB (k + 1) Z Y = true := by
  unfold eqB at *
  rw [List.range_succ, List.all_append, h]; simpa using hk

theorem eqB_not (n k : Nat) (Z Y : Nat → Bool) (hk : k < n) (h : ¬ Z k = Y k) : false = eqB n Z Y := by
  symm
  rw [Bool.eq_false_iff]
  intro ha
  have := List.all_eq_true.1 ha k (by simpa using hk)
  simp at this; exact h this

theorem eqB_self (n : Nat) (Z Y : Nat → Bool) (h : ∀ i, i < n → Z i = Y i) : eqB n Z Y = true := by
  unfold eqB
  rw [List.all_eq_true]
  intro i hi
  rw [h i (by simpa using hi)]
  simp

theorem IsBools.row {w : World} {b n : Nat} {Z : Nat → Bool} (h : w.rowIs b 4 n (fun i => .bool (Z i))) : IsBools w (some ⟨b, 0, none⟩) n Z :=
  Or.inr ⟨b, 0, rfl, h.lt, fun i hi => by rw [Nat.zero_add]; exact h.cell hi⟩
theorem IsBools.off {w : World} {b' off' n : Nat} {Z : Nat → Bool} (h : IsBools w (some ⟨b', off', none⟩) n Z) {b i : Nat} (v : Value) (hb : b' ≠ b) : IsBools (w.setCell ⟨b, i, none⟩ v) (some ⟨b', off', none⟩) n Z := by
  rcases h with h | ⟨b0, o0, ha, hlt, hc⟩
  · exact Or.inl h
  · cases ha
    exact Or.inr ⟨b', off', rfl, by simpa [World.setCell] using hlt, fun i hi => by rw [← hc i hi]; exact World.cell?_of_block (Go.Deep.blk_setCell_other _ _ _ _ hb)⟩
end Go.Proofs.Ytnnhdcohfabenaa
