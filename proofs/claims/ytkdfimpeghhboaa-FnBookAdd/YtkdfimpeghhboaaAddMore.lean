/-
  What is said of a book to which a level is added: plain facts.
-/
import Derived.Test.YtkdfimpeghhboaaBaseMath
import Derived.Test.YtkdfimpeghhboaaSpecAdd
namespace Go.Proofs.Ytkdfimpeghhboaa
open Go.RowKit
set_option linter.unusedVariables false

/-- The entries of the book that comes. -/
def addE (n : Nat) (E : Nat → En) (lev date : Int) : Nat → En := fun i => (addTo n E lev date).getD i default

theorem addOk_iff {n : Nat} {E : Nat → En} {lev date : Int} : addOk n E lev date = true ↔ bookTo E n = true ∧ entOk ⟨lev, date⟩ = true ∧ (n = 0 ∨ lastD n E ≤ date) := by
  unfold addOk; simp

/-- What comes, entry by entry: m lesser ones and the new one. -/
theorem add_parts {n : Nat} {E : Nat → En} {lev date : Int} (h : addOk n E lev date = true) : ∃ m, m ≤ n ∧ (addTo n E lev date).length = m + 1 ∧ (∀ i, i < m → addE n E lev date i = E i) ∧ addE n E lev date m = ⟨lev, date⟩ ∧ (∀ i, i < m → (E i).lev < lev) ∧ (∀ i, m ≤ i → i < n → lev ≤ (E i).lev) ∧ ∀ k, k ≤ n → (lessTo E lev k).length = min k m := by
  obtain ⟨hb, _, _⟩ := addOk_iff.1 h
  obtain ⟨m, hm, he, h1, h2⟩ := less_pre hb lev n (Nat.le_refl _)
  refine ⟨m, hm, by rw [add_len, he, enl_len], fun i hi => ?_, ?_, h1, h2, fun k hk => ?_⟩
  · unfold addE addTo
    rw [he]
    exact getD_enl_lt hi
  · unfold addE addTo
    rw [he]
    exact getD_enl_at
  · induction k with
    | zero => simp [lessTo, enl]
    | succ k ih =>
      have ih := ih (by omega)
      by_cases hl : k < m
      · rw [less_yes (h1 k hl), List.length_append, ih]; simp; omega
      · rw [less_no (by have := h2 k (by omega) (by omega); omega), ih]; omega

theorem add_isBook {n : Nat} {E : Nat → En} {lev date : Int} (h : addOk n E lev date = true) : bookTo (addE n E lev date) (addTo n E lev date).length = true := by
  obtain ⟨hb, ho, hd⟩ := addOk_iff.1 h
  have := add_book (lev := lev) hb hd
  rw [ho] at this
  exact this

/-- Since when a level is kept behind it. -/
theorem add_base {n : Nat} {E : Nat → En} {lev date : Int} (h : addOk n E lev date = true) (x : Int) : baseTo (addE n E lev date) x (addTo n E lev date).length = if lev < x then date else baseTo E x n := by
  obtain ⟨m, hm, hl, h1, h2, h3, h4, _⟩ := add_parts h
  rw [hl, baseTo, h2]
  show (if lev < x then date else baseTo (addE n E lev date) x m) = _
  by_cases hx : lev < x
  · rw [if_pos hx, if_pos hx]
  · rw [if_neg hx, if_neg hx, base_congr h1]
    have key : ∀ k, m ≤ k → k ≤ n → baseTo E x k = baseTo E x m := by
      intro k hk
      induction hk with
      | refl => intro _; rfl
      | step hk ih =>
        rename_i q
        intro hq
        show baseTo E x (q + 1) = _
        rw [baseTo, if_neg (by have := h4 q hk (by omega); omega)]
        exact ih (by omega)
    exact (key n hm (Nat.le_refl _)).symm

/-- The last turn of what comes is the new one. -/
theorem add_last {n : Nat} {E : Nat → En} {lev date : Int} (h : addOk n E lev date = true) : lastD (addTo n E lev date).length (addE n E lev date) = date := by
  obtain ⟨m, hm, hl, h1, h2, h3, h4, _⟩ := add_parts h
  unfold lastD
  rw [hl, show m + 1 - 1 = m by omega, h2]

/-- The same level at the same turn once more. -/
theorem add_again {n : Nat} {E : Nat → En} {lev date : Int} (h : addOk n E lev date = true) : addOk (addTo n E lev date).length (addE n E lev date) lev date = true ∧ (addTo (addTo n E lev date).length (addE n E lev date) lev date).length = (addTo n E lev date).length := by
  obtain ⟨hb, ho, hd⟩ := addOk_iff.1 h
  have hk : addOk (addTo n E lev date).length (addE n E lev date) lev date = true := addOk_iff.2 ⟨add_isBook h, ho, Or.inr (by rw [add_last h]; exact Int.le_refl _)⟩
  refine ⟨hk, ?_⟩
  obtain ⟨m, hm, hl, h1, h2, h3, h4, _⟩ := add_parts h
  obtain ⟨m', hm', hl', h1', h2', h3', h4', _⟩ := add_parts hk
  rw [hl', hl]
  by_cases e1 : m' < m
  · have := h4' m' (Nat.le_refl _) (by omega)
    rw [h1 m' e1] at this
    have := h3 m' e1
    omega
  · by_cases e2 : m < m'
    · have := h3' m e2
      rw [h2] at this
      exact absurd this (by show ¬ lev < lev; omega)
    · omega

/-- A greater level at the turn of the last. -/
theorem add_greater {n : Nat} {E : Nat → En} {lev date x : Int} (h : addOk n E lev date = true) (hx : lev < x) (hx9 : x ≤ 9) :
    addOk (addTo n E lev date).length (addE n E lev date) x date = true ∧ (addTo (addTo n E lev date).length (addE n E lev date) x date).length = (addTo n E lev date).length + 1 := by
  obtain ⟨hb, ho, hd⟩ := addOk_iff.1 h
  have ho' := entOk_iff.1 ho
  have hk : addOk (addTo n E lev date).length (addE n E lev date) x date = true := addOk_iff.2 ⟨add_isBook h, entOk_iff.2 ⟨by have : 0 ≤ lev := ho'.1; show 0 ≤ x; omega, hx9, ho'.2.2⟩, Or.inr (by rw [add_last h]; exact Int.le_refl _)⟩
  refine ⟨hk, ?_⟩
  obtain ⟨m, hm, hl, h1, h2, h3, h4, _⟩ := add_parts h
  obtain ⟨m', hm', hl', h1', h2', h3', h4', _⟩ := add_parts hk
  rw [hl', hl]
  by_cases e1 : m' < m + 1
  · have := h4' m' (Nat.le_refl _) (by omega)
    by_cases e2 : m' < m
    · rw [h1 m' e2] at this
      have := h3 m' e2
      omega
    · obtain rfl : m' = m := by omega
      rw [h2] at this
      exact absurd this (by show ¬ x ≤ lev; omega)
  · omega

/-- Level 0 at the turn of the last: it alone is left. -/
theorem add_zero {n : Nat} {E : Nat → En} {lev date : Int} (h : addOk n E lev date = true) :
    addOk (addTo n E lev date).length (addE n E lev date) 0 date = true ∧ addTo (addTo n E lev date).length (addE n E lev date) 0 date = [⟨0, date⟩] := by
  obtain ⟨hb, ho, hd⟩ := addOk_iff.1 h
  have ho' := entOk_iff.1 ho
  have hk : addOk (addTo n E lev date).length (addE n E lev date) 0 date = true := addOk_iff.2 ⟨add_isBook h, entOk_iff.2 ⟨by show (0 : Int) ≤ 0; omega, by show (0 : Int) ≤ 9; omega, ho'.2.2⟩, Or.inr (by rw [add_last h]; exact Int.le_refl _)⟩
  refine ⟨hk, ?_⟩
  have : lessTo (addE n E lev date) 0 (addTo n E lev date).length = [] := by
    unfold lessTo
    rw [List.filter_eq_nil_iff]
    intro e he
    unfold enl at he
    obtain ⟨i, hi, rfl⟩ := List.mem_map.1 he
    have := entOk_iff.1 (book_entOk (add_isBook h) (by simpa using hi))
    simp; omega
  show lessTo _ 0 _ ++ [_] = _
  rw [this]
  rfl

/-- Since when the level itself is kept. -/
theorem base_cut {E : Nat → En} {n m : Nat} {lev : Int} (hm : m ≤ n) (h1 : ∀ i, i < m → (E i).lev < lev) (h2 : ∀ i, m ≤ i → i < n → lev ≤ (E i).lev) : baseTo E lev n = if m = 0 then 0 else (E (m - 1)).date := by
  have key : ∀ k, m ≤ k → k ≤ n → baseTo E lev k = baseTo E lev m := by
    intro k hk
    induction hk with
    | refl => intro _; rfl
    | step hk ih =>
      rename_i q
      intro hq
      show baseTo E lev (q + 1) = _
      rw [baseTo, if_neg (by have := h2 q hk (by omega); omega)]
      exact ih (by omega)
  rw [key n hm (Nat.le_refl _)]
  cases m with
  | zero => rfl
  | succ q => rw [baseTo, if_pos (h1 q (by omega))]; rfl
end Go.Proofs.Ytkdfimpeghhboaa
