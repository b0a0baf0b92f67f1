/-
  Places, lists of places and trees: when two are one; the value of a tree; plain facts.
-/
import Derived.Test.YtkdfimpeghhboaaNodesBase
import Derived.Test.YtkdfimpeghhboaaLat
namespace Go.Proofs.Ytkdfimpeghhboaa
open Go.RowKit
set_option linter.unusedVariables false

theorem same_kind {d e : Nd} (h : (d.kind != e.kind) = true) : false = d.same e := by
  have h' : (d.kind == e.kind) = false := by simpa using h
  unfold Nd.same; rw [h']; rfl
theorem same_text {d e : Nd} (h : (!d.text.toList == e.text.toList) = true) : false = d.same e := by
  have h' : (d.text.toList == e.text.toList) = false := by simpa using h
  unfold Nd.same; rw [h']; simp
theorem same_names {d e : Nd} (h : (decide (d.nn = e.nn) && eqS d.nn d.names e.names) = false) : false = d.same e := by
  unfold Nd.same; rw [h]; simp
theorem same_kids {d e : Nd} (h : (decide (d.kn = e.kn) && eqZ d.kn d.kids e.kids) = false) : false = d.same e := by
  unfold Nd.same; rw [h]; simp
theorem same_turn {d e : Nd} (h : (d.turn != e.turn) = true) : false = d.same e := by
  have h' : (d.turn == e.turn) = false := by simpa using h
  unfold Nd.same; rw [h']; simp
theorem same_yes {d e : Nd} (h1 : (d.kind != e.kind) = false) (h2 : (!d.text.toList == e.text.toList) = false) (h3 : (decide (d.nn = e.nn) && eqS d.nn d.names e.names) = true)
    (h4 : (decide (d.kn = e.kn) && eqZ d.kn d.kids e.kids) = true) (h5 : (d.turn != e.turn) = false) : true = d.same e := by
  have h1' : (d.kind == e.kind) = true := by simpa using h1
  have h2' : (d.text.toList == e.text.toList) = true := by simpa using h2
  have h5' : (d.turn == e.turn) = true := by simpa using h5
  unfold Nd.same; rw [h1', h2', h3, h4, h5']; rfl

/-- Two lists of places are one. -/
def sameAll (n : Nat) (D E : Nat → Nd) : Bool := (List.range n).all fun i => (D i).same (E i)

theorem sameAll_succ (k : Nat) (D E : Nat → Nd) (h : sameAll k D E = true) (hk : (D k).same (E k) = true) : sameAll (k + 1) D E = true := by
  unfold sameAll at *
  rw [List.range_succ, List.all_append, h]; simpa using hk

theorem sameAll_not (n k : Nat) (D E : Nat → Nd) (hk : k < n) (h : (D k).same (E k) = false) : false = sameAll n D E := by
  symm
  rw [Bool.eq_false_iff]
  intro ha
  have := List.all_eq_true.1 ha k (by simpa using hk)
  simp [this] at h

theorem sameAll_self (n : Nat) (D : Nat → Nd) : sameAll n D D = true := by
  unfold sameAll
  rw [List.all_eq_true]
  intro i hi
  exact Nd.same_self _

/-- The value of a tree. -/
def trV (a : Option Addr) (n c : Nat) (now : Int) : Value := .agg #[.slice a n c, .int .i64 now]

theorem rowIs_wide (w : World) (z : Array Value) (n : Nat) (t : TypeId) : ∃ g, (w.alloc (.cells (madeCells z n) t)).rowIs w.heap.size t n g :=
  ⟨fun i => (madeCells z n).getD i undef, _, Go.Deep.blk_alloc_new _ _, size_madeCells _ _, fun i hi => by
    have h : i < (madeCells z n).size := by rw [size_madeCells]; exact hi
    simp [Array.getElem?_eq_getElem h]⟩

theorem rowIs_below {w w' : World} {b n : Nat} {t : TypeId} {f : Nat → Value} (h : w.rowIs b t n f) {B : Nat} (hb : Below B w w') (hB : b < B) : w'.rowIs b t n f := h.of_block (hb.block b hB)
end Go.Proofs.Ytkdfimpeghhboaa
