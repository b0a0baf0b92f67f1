/-
  FnExactBookAdd, walked.
-/
import Derived.Test.YtkdfimpeghhboaaImplAdd
import Derived.Test.YtkdfimpeghhboaaEnts
namespace Go.Proofs.Ytkdfimpeghhboaa
open Go.RowKit Go.Deep
set_option linter.unusedVariables false

theorem OwnE.isEns {w : World} {B m c : Nat} {a : Option Addr} {l : List En} (h : OwnE w B (.slice a m c) l) : IsEns w a l.length (fun i => l.getD i default) ∧ m = l.length ∧ l.length ≤ maxLen := by
  obtain ⟨a', c', hv, hI, hm⟩ := h.ens
  cases hv
  exact ⟨hI, rfl, hm⟩

theorem enl_self (l : List En) : enl l.length (fun i => l.getD i default) = l := by
  apply List.ext_getElem
  · rw [enl_len]
  · intro i h1 h2
    simp [enl, h2]

theorem addAns_few (n : Nat) (E : Nat → En) (lev date : Int) : (addAns n E lev date).length ≤ 11 := by
  unfold addAns
  split
  · rename_i h
    have hb : bookTo E n = true := by unfold addOk at h; rw [Bool.and_eq_true] at h; exact h.1
    have := book_few hb
    have h2 := less_len E lev n
    rw [add_len]; omega
  · simp

/-- What is known within the law: three books, each in memory of its own. -/
structure AF (w : World) (n xb : Nat) (S1 S2 : Nat) (L X G : List En) (v g : Value) (W : World) : Prop where
  bel : Below w.heap.size w W
  ov : OwnE W w.heap.size v L
  ox : OwnE W S1 (.slice (some ⟨xb, 0, none⟩) n n) X
  og : OwnE W S2 g G
  vS : ∀ b, v.ownBlock = some b → b < S1
  xS : xb < S2
  hS : S1 ≤ xb

theorem AF.below {w : World} {n xb S1 S2 : Nat} {L X G : List En} {v g : Value} {W W' : World} (h : AF w n xb S1 S2 L X G v g W) (hb : Below W.heap.size W W') : AF w n xb S1 S2 L X G v g W' :=
  ⟨h.bel.trans (hb.mono h.bel.size), h.ov.below hb, h.ox.below hb, h.og.below hb, h.vS, h.xS, h.hS⟩

theorem eowns_kept {w w' : World} {B : Nat} {v : Value} {l : List En} {r : Option Nat} (h : OwnE w B v l) (hg : w.grownBy w' r) (hr : ∀ b, v.ownBlock = some b → r ≠ some b) : OwnE w' B v l :=
  eowns_same h fun b hb => hg.block b (eowns_block h hb).2 (fun e => hr b hb e.symm)

theorem AF.markX {w : World} {n xb S1 S2 : Nat} {L X X' G : List En} {v g : Value} {W W' : World} (h : AF w n xb S1 S2 L X G v g W) (hw : w.heap.size ≤ S1) (hg : W.grownBy W' (some xb)) (hx : OwnE W' S1 (.slice (some ⟨xb, 0, none⟩) n n) X') : AF w n xb S1 S2 L X' G v g W' :=
  ⟨h.bel.grown hg h.bel.size (fun b e => by have := h.hS; cases e; omega),
   eowns_kept h.ov hg (fun b hb e => by have := h.vS b hb; have := h.hS; cases e; omega), hx,
   eowns_kept h.og hg (fun b hb e => by have := (eowns_block h.og hb).1; have := h.xS; cases e; omega), h.vS, h.xS, h.hS⟩

theorem AF.markG {w : World} {n xb S1 S2 : Nat} {L X G G' : List En} {v g : Value} {W W' : World} (h : AF w n xb S1 S2 L X G v g W) (hw : w.heap.size ≤ S1) (hg : W.grownBy W' g.ownBlock) (hx : OwnE W' S2 g G') : AF w n xb S1 S2 L X G' v g W' := by
  have h1 := h.xS
  have h2 := h.hS
  refine ⟨h.bel.grown hg h.bel.size (fun b e => by have := (eowns_block h.og e).1; omega),
   eowns_kept h.ov hg (fun b hb e => by have := h.vS b hb; have := (eowns_block h.og e).1; omega),
   eowns_kept h.ox hg (fun b hb e => by
     have h3 : xb = b := by simpa [Value.ownBlock] using hb
     have := (eowns_block h.og e).1
     omega), hx, h.vS, h.xS, h.hS⟩

theorem marks_lie {w : World} {B m c k : Nat} {a : Option Addr} (h : OwnE w B (.slice a m c) (enl m (marksE k))) : IsEns w a m (marksE k) := by
  obtain ⟨hI, hm, _⟩ := h.isEns
  rw [enl_len] at hI
  exact hI.congr fun i hi => enl_getD m _ i hi
end Go.Proofs.Ytkdfimpeghhboaa
