/-
  A list of Kids with room of its own. Plain facts.
-/
import Derived.Test.YtbifhfnoogjoeaaDraw2With
namespace Go.Proofs.Ytbifhfnoogjoeaa
open Go.RowKit Go.Deep
set_option linter.unusedVariables false

/-- A list of Kids is nil, or lies in a block of its own. -/
def RoomK (W : World) (a : Option Addr) (n c : Nat) : Prop :=
  (a = none ∧ n = 0 ∧ c = 0) ∨ ∃ b cur, a = some ⟨b, 0, none⟩ ∧ W.heap[b]? = some (.cells cur 3 (0, 0)) ∧ cur.size = c ∧ n ≤ c ∧ c ≤ maxLen

/-- Two lists lie in different blocks. -/
def Apart (a a' : Option Addr) : Prop := ∀ b o x b' o' x', a = some ⟨b, o, x⟩ → a' = some ⟨b', o', x'⟩ → b ≠ b'

theorem Apart.symm {a a' : Option Addr} (h : Apart a a') : Apart a' a := fun b o x b' o' x' e e' hb => h b' o' x' b o x e' e hb.symm
theorem apart_none (a : Option Addr) : Apart none a := fun b o x b' o' x' e => by cases e
theorem apart_none' (a : Option Addr) : Apart a none := (apart_none a).symm

section
variable {W W' : World}

theorem RoomK.of_blocks {a : Option Addr} {n c : Nat} (h : RoomK W a n c) (hb : ∀ b o x, a = some ⟨b, o, x⟩ → W'.heap[b]? = W.heap[b]?) : RoomK W' a n c := by
  rcases h with h | ⟨b, cur, h1, h2, h3⟩
  · exact Or.inl h
  · exact Or.inr ⟨b, cur, h1, (hb b 0 none h1).trans h2, h3⟩

/-- As one's own, from any block below it. -/
theorem RoomK.owns {a : Option Addr} {n c B : Nat} {Z : Nat → Int} (h : RoomK W a n c) (hZ : IsInts W a n Z) (hB : ∀ b o x, a = some ⟨b, o, x⟩ → B ≤ b) : W.ownsRow B 3 1 (.slice a n c) n (intv ((List.range n).map Z)) := by
  rcases h with ⟨rfl, rfl, rfl⟩ | ⟨b, cur, rfl, h2, h3, h4, h5⟩
  · exact World.ownsRow_nil _ _ _ _
  · refine ⟨by simp [intv], Or.inr ⟨b, c, cur, rfl, hB _ _ _ rfl, h2, h4, h5, by omega, ?_⟩⟩
    apply List.ext_getElem?
    intro i
    by_cases hi : i < n
    · rw [Nat.mul_one, List.getElem?_take_of_lt hi]
      rcases hZ with h0 | ⟨b', o', e, hl, hc⟩
      · omega
      · cases e
        have := hc i hi
        rw [Nat.zero_add] at this
        simp [World.cell?, h2] at this
        simp [intv, hi, this]
    · rw [List.getElem?_eq_none (by simp; omega), List.getElem?_eq_none (by simp [intv]; omega)]

/-- .. and back. -/
theorem room_owns {B n : Nat} {v : Value} {xs : List Value} {a : Option Addr} {c : Nat} (h : W.ownsRow B 3 1 v n xs) (e : v = .slice a n c) : RoomK W a n c := by
  rcases h.2 with ⟨h0, h1⟩ | ⟨g, cap, cur, h0, hb, hblk, hn, hm, hsz, htake⟩
  · rw [e] at h0; cases h0; exact Or.inl ⟨rfl, rfl, rfl⟩
  · rw [e] at h0; cases h0; exact Or.inr ⟨g, cur, rfl, hblk, by omega, hn, hm⟩
end
end Go.Proofs.Ytbifhfnoogjoeaa
