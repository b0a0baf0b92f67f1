/-
  How many files, directories and letters a tree has. Plain facts.
-/
import Derived.Test.YtkbccbooiaebfaaSpecTreeOk
namespace Go.Proofs.Ytkbccbooiaebfaa
open Go.RowKit
set_option linter.unusedVariables false

def filesTo (D : Nat → Nd) : Nat → Nat | 0 => 0 | k + 1 => filesTo D k + (if (D k).kind = 1 then 1 else 0)
def dirsTo (D : Nat → Nd) : Nat → Nat | 0 => 0 | k + 1 => dirsTo D k + (if (D k).kind = 2 then 1 else 0)
def lettersTo (D : Nat → Nd) : Nat → Nat | 0 => 0 | k + 1 => lettersTo D k + (if (D k).kind = 1 then (D k).text.size else 0)

theorem filesTo_le (D : Nat → Nd) : ∀ k, filesTo D k ≤ k
  | 0 => Nat.le_refl _
  | k + 1 => by have := filesTo_le D k; rw [filesTo]; split <;> omega
theorem dirsTo_le (D : Nat → Nd) : ∀ k, dirsTo D k ≤ k
  | 0 => Nat.le_refl _
  | k + 1 => by have := dirsTo_le D k; rw [dirsTo]; split <;> omega
theorem lettersTo_le (D : Nat → Nd) : ∀ k, lettersTo D k ≤ sizeTo D k
  | 0 => Nat.le_refl _
  | k + 1 => by have := lettersTo_le D k; rw [lettersTo, sizeTo_succ]; unfold Nd.size; split <;> omega

/-- A round: a place more has been counted. -/
structure OneMore (D : Nat → Nd) (k f d l : Nat) : Prop where
  f : filesTo D (k + 1) = f
  d : dirsTo D (k + 1) = d
  l : lettersTo D (k + 1) = l

theorem more_file {D : Nat → Nd} {k : Nat} (h : (D k).kind = 1) : OneMore D k (filesTo D k + 1) (dirsTo D k) (lettersTo D k + (D k).text.size) :=
  ⟨by rw [filesTo, if_pos h], by rw [dirsTo, if_neg (by omega)]; rfl, by rw [lettersTo, if_pos h]⟩
theorem more_dir {D : Nat → Nd} {k : Nat} (h : (D k).kind = 2) : OneMore D k (filesTo D k) (dirsTo D k + 1) (lettersTo D k) :=
  ⟨by rw [filesTo, if_neg (by omega)]; rfl, by rw [dirsTo, if_pos h], by rw [lettersTo, if_neg (by omega)]; rfl⟩
theorem more_none {D : Nat → Nd} {k : Nat} (h : (D k).kind ≠ 1) (h2 : (D k).kind ≠ 2) : OneMore D k (filesTo D k) (dirsTo D k) (lettersTo D k) :=
  ⟨by rw [filesTo, if_neg h]; rfl, by rw [dirsTo, if_neg h2]; rfl, by rw [lettersTo, if_neg h]; rfl⟩

/-- What LookMany answers. -/
structure ManyAre (n : Nat) (D : Nat → Nd) (now : Int) (f d l : Int) : Prop where
  yes : TreeGood n D now → f = filesTo D n ∧ d = dirsTo D n ∧ l = lettersTo D n
  no : ¬ TreeGood n D now → f = 0 ∧ d = 0 ∧ l = 0

theorem ManyAre.one {n : Nat} {D : Nat → Nd} {now f d l f' d' l' : Int} (h : ManyAre n D now f d l) (h' : ManyAre n D now f' d' l') : f = f' ∧ d = d' ∧ l = l' := by
  by_cases g : TreeGood n D now
  · obtain ⟨a, b, c⟩ := h.yes g; obtain ⟨a', b', c'⟩ := h'.yes g
    exact ⟨a.trans a'.symm, b.trans b'.symm, c.trans c'.symm⟩
  · obtain ⟨a, b, c⟩ := h.no g; obtain ⟨a', b', c'⟩ := h'.no g
    exact ⟨a.trans a'.symm, b.trans b'.symm, c.trans c'.symm⟩

/-- The parameter's block, and nothing old turned. -/
structure ManyIn (w : World) (a : Option Addr) (n c : Nat) (now : Int) (W : World) : Prop where
  t : Blk W w.heap.size #[.slice a n c, .int .i64 now] 30
  bel : Below w.heap.size w W

theorem ManyIn.below {w W W' : World} {a : Option Addr} {n c : Nat} {now : Int} (h : ManyIn w a n c now W) (hb : Below W.heap.size W W') : ManyIn w a n c now W' := ⟨h.t.below hb h.t.lt, h.bel.trans (hb.mono h.bel.size)⟩
end Go.Proofs.Ytkbccbooiaebfaa
