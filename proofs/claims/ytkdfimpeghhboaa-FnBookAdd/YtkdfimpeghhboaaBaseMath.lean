/-
  Since when a level is kept: what the laws of books say of it. Plain facts.
-/
import Derived.Test.YtkdfimpeghhboaaAddMath
namespace Go.Proofs.Ytkdfimpeghhboaa
open Go.RowKit
set_option linter.unusedVariables false

theorem base_some (E : Nat → En) (lev : Int) : ∀ n, baseTo E lev n = 0 ∨ ∃ i, i < n ∧ (E i).date = baseTo E lev n ∧ (E i).lev < lev
  | 0 => Or.inl rfl
  | n + 1 => by
    by_cases h : (E n).lev < lev
    · exact Or.inr ⟨n, by omega, by rw [baseTo, if_pos h], h⟩
    · rw [baseTo, if_neg h]
      rcases base_some E lev n with h0 | ⟨i, hi, h1, h2⟩
      · exact Or.inl h0
      · exact Or.inr ⟨i, by omega, h1, h2⟩

theorem base_mono {E : Nat → En} (lev : Int) : ∀ n, bookTo E n = true → baseTo E lev n ≤ baseTo E (lev + 1) n
  | 0, _ => Int.le_refl _
  | n + 1, h => by
    have ih := base_mono lev n (bookTo_down (by omega) h)
    rw [baseTo, baseTo]
    by_cases h1 : (E n).lev < lev
    · rw [if_pos h1, if_pos (by omega)]; exact Int.le_refl _
    · rw [if_neg h1]
      by_cases h2 : (E n).lev < lev + 1
      · rw [if_pos h2]
        rcases base_some E lev n with h0 | ⟨i, hi, h3, h4⟩
        · have := entOk_iff.1 (book_entOk h (show n < n + 1 by omega)); omega
        · have := book_lt h hi (by omega); omega
      · rw [if_neg h2]; exact ih

theorem base_low {E : Nat → En} {lev : Int} : ∀ {n : Nat}, (∀ i, i < n → lev ≤ (E i).lev) → baseTo E lev n = 0
  | 0, _ => rfl
  | n + 1, h => by rw [baseTo, if_neg (by have := h n (by omega); omega)]; exact base_low (n := n) fun i hi => h i (by omega)

theorem base_zero {E : Nat → En} {n : Nat} (h : bookTo E n = true) : baseTo E 0 n = 0 := base_low fun i hi => (entOk_iff.1 (book_entOk h hi)).1

theorem base_top {E : Nat → En} {j : Nat} {lev : Int} (h : (E j).lev < lev) : baseTo E lev (j + 1) = (E j).date := by rw [baseTo, if_pos h]

theorem base_last {E : Nat → En} {j : Nat} (h : bookTo E (j + 1) = true) : baseTo E 10 (j + 1) = (E j).date := base_top (by have := entOk_iff.1 (book_entOk h (show j < j + 1 by omega)); omega)

theorem base_congr {E F : Nat → En} {lev : Int} : ∀ {n : Nat}, (∀ i, i < n → E i = F i) → baseTo E lev n = baseTo F lev n
  | 0, _ => rfl
  | n + 1, h => by rw [baseTo, baseTo, h n (by omega), base_congr (n := n) (fun i hi => h i (by omega))]

/-- Whether one of the first k tells this turn, at a lesser level. -/
def someTo (E : Nat → En) (lev z : Int) : Nat → Bool
  | 0 => z == 0
  | k + 1 => someTo E lev z k || ((E k).date == z && decide ((E k).lev < lev))

theorem some_up {E : Nat → En} {lev z : Int} {k n : Nat} (h : k ≤ n) (hs : someTo E lev z k = true) : someTo E lev z n = true := by
  induction h with
  | refl => exact hs
  | step h ih => rw [someTo, ih]; rfl

theorem some_base (E : Nat → En) (lev : Int) (n : Nat) : someTo E lev (baseTo E lev n) n = true := by
  rcases base_some E lev n with h | ⟨i, hi, h1, h2⟩
  · exact some_up (Nat.zero_le _) (by rw [h]; rfl)
  · refine some_up (show i + 1 ≤ n by omega) ?_
    rw [someTo, h1]
    simp [h2]
end Go.Proofs.Ytkdfimpeghhboaa
