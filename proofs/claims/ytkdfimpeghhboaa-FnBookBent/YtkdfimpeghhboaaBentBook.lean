/-
  Books that are bent, and books of which one entry is left out: plain facts.
-/
import Derived.Test.YtkdfimpeghhboaaAddMath
namespace Go.Proofs.Ytkdfimpeghhboaa
open Go.RowKit
set_option linter.unusedVariables false

theorem bent_twice {E : Nat → En} {j : Nat} : bookTo (fun i => (enl (j + 1) E ++ [E j]).getD i default) (j + 2) = false := by
  refine book_not_above (k := j) (by omega) ?_
  rw [getD_enl_lt (by omega), getD_enl_at]
  unfold above
  rw [decide_eq_false_iff_not]
  omega

theorem bent_level {E : Nat → En} {n : Nat} {d : Int} : bookTo (fun i => (enl n E ++ [(⟨10, d⟩ : En)]).getD i default) (n + 1) = false := by
  refine book_not_ok (k := n) (by omega) ?_
  rw [getD_enl_at]
  unfold entOk
  rw [decide_eq_false_iff_not]
  show ¬ (0 ≤ (10 : Int) ∧ (10 : Int) ≤ 9 ∧ 1 ≤ d ∧ d ≤ 1000)
  omega

theorem bent_turn {E : Nat → En} {j : Nat} : bookTo (fun i => if i = j then (⟨(E j).lev, 0⟩ : En) else E i) (j + 1) = false := by
  refine book_not_ok (k := j) (by omega) ?_
  rw [if_pos rfl]
  unfold entOk
  rw [decide_eq_false_iff_not]
  show ¬ (0 ≤ (E j).lev ∧ (E j).lev ≤ 9 ∧ 1 ≤ (0 : Int) ∧ (0 : Int) ≤ 1000)
  omega

/-- All but one. -/
def outL (i n : Nat) (E : Nat → En) : List En := enl i E ++ enl (n - 1 - i) (fun k => E (i + 1 + k))
theorem out_len {i n : Nat} {E : Nat → En} (h : i < n) : (outL i n E).length = n - 1 := by unfold outL; rw [List.length_append, enl_len, enl_len]; omega
theorem out_get {i n : Nat} {E : Nat → En} (h : i < n) (k : Nat) (hk : k < n - 1) : (outL i n E).getD k default = E (if k < i then k else k + 1) := by
  unfold outL
  by_cases e : k < i
  · rw [if_pos e, List.getD_eq_getElem?_getD, List.getElem?_append_left (by rw [enl_len]; exact e)]
    simp [enl, e]
  · rw [if_neg e, List.getD_eq_getElem?_getD, List.getElem?_append_right (by rw [enl_len]; omega), enl_len]
    simp [enl, show k - i < n - 1 - i by omega, show i + 1 + (k - i) = k + 1 by omega]

theorem out_book {i n : Nat} {E : Nat → En} (hb : bookTo E n = true) (h : i < n) : bookTo (fun k => (outL i n E).getD k default) (outL i n E).length = true := by
  rw [out_len h]
  apply book_of
  · intro k hk
    rw [out_get h k hk]
    exact book_entOk hb (by split <;> omega)
  · intro k hk
    rw [out_get h k (by omega), out_get h (k + 1) hk, above_iff]
    exact book_lt hb (by split <;> split <;> omega) (by split <;> omega)
end Go.Proofs.Ytkdfimpeghhboaa
