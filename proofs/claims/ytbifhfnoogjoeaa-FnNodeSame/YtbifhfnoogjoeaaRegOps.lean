/-
  Single operations of a statement, at a frame of which only so much is said.
-/
import Derived.Test.YtbifhfnoogjoeaaRegMem
import Derived.Test.YtbifhfnoogjoeaaNodesDef
namespace Go.Proofs.Ytbifhfnoogjoeaa
open Go.RowKit
set_option linter.unusedVariables false

theorem step_of {P : Program} {ops : Array Oper} {o : Oper} {a : Act} {w : World} {K : Act → World → Prop} {Q : Exit → Act → World → Prop} {E : Prop} (hgd : o.guard = none) (h : o.wp P a w K Q) : if Region.wanted o (yielded ops a.tmps) = true then Oper.wp P o a w K Q else E := by
  have hw : Region.wanted o (yielded ops a.tmps) = true := by simp [Region.wanted, hgd]
  rw [if_pos hw]; exact h

theorem eval_tmp {a : Act} {t : Nat} {v : Value} (h : a.eval (.tmp t) = v) : a.tmps[t]?.getD undef = v := by
  rw [← h]; unfold Act.eval; simp [Array.getD_eq_getD_getElem?]

section
variable {d : Nat} {ty : TypeId} {pos : String} {af : Array Edge} {gd : Option (Nat × Bool)} {a : Act} {w : World} {K : Act → World → Prop} {Q : Exit → Act → World → Prop}

theorem wp_strs0 (h : K (a.put (some d) (.slice (some ⟨w.heap.size, 0, none⟩) 0 0)) (w.alloc (.cells #[] 9))) : Oper.wp Try.prog ⟨some d, .buildSlice 33 0 #[], ty, pos, af, gd⟩ a w K Q := by
  go_simp
  exact h

theorem wp_strs1 {s : ByteArray} (h : K (a.put (some d) (.slice (some ⟨w.heap.size, 0, none⟩) 1 1)) (w.alloc (.cells #[.string s] 9))) : Oper.wp Try.prog ⟨some d, .buildSlice 33 1 #[(0, .const (.string s))], ty, pos, af, gd⟩ a w K Q := by
  go_simp
  exact h

theorem wp_ints0 (h : K (a.put (some d) (.slice (some ⟨w.heap.size, 0, none⟩) 0 0)) (w.alloc (.cells #[] 3))) : Oper.wp Try.prog ⟨some d, .buildSlice 34 0 #[], ty, pos, af, gd⟩ a w K Q := by
  go_simp
  exact h

theorem wp_ints1 {t : Nat} {z : Int} (hx : a.eval (.tmp t) = .int .i64 z) (h : K (a.put (some d) (.slice (some ⟨w.heap.size, 0, none⟩) 1 1)) (w.alloc (.cells #[.int .i64 z] 3))) : Oper.wp Try.prog ⟨some d, .buildSlice 34 1 #[(0, .tmp t)], ty, pos, af, gd⟩ a w K Q := by
  have hx' := eval_tmp hx
  go_simp
  exact h

theorem wp_node0 {t g n c : Nat} (hx : a.eval (.tmp t) = .slice (some ⟨g, 0, none⟩) n c) (hn : 0 < n) (h : K (a.put (some d) (.pointer (some ⟨g, 0, none⟩))) w) : Oper.wp Try.prog ⟨some d, .indexAddr 23 (.tmp t) (.const (.int .i64 0)), ty, pos, af, gd⟩ a w K Q := by
  have hx' := eval_tmp hx
  go_simp
  exact h

theorem wp_field2 {t g : Nat} (hx : a.eval (.tmp t) = .pointer (some ⟨g, 0, none⟩)) (h : K (a.put (some d) (.pointer (some ⟨g, 2, none⟩))) w) : Oper.wp Try.prog ⟨some d, .fieldAddr 36 (.tmp t) 2, ty, pos, af, gd⟩ a w K Q := by
  have hx' := eval_tmp hx
  go_simp
  exact h
end
end Go.Proofs.Ytbifhfnoogjoeaa
