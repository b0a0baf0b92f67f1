/-
  A tree that is being drawn: what is known of it, and what its steps leave. Plain facts.
-/
import Derived.Test.YtbifhfnoogjoeaaDraw2W
import Derived.Test.YtbifhfnoogjoeaaDraw1
import Derived.Test.YtbifhfnoogjoeaaSpecTreeFind
namespace Go.Proofs.Ytbifhfnoogjoeaa
open Go.RowKit Go.Deep
set_option linter.unusedVariables false

/-- A place of a tree of n places that is being drawn. -/
structure NiceNd (n m : Nat) (d : Nd) : Prop where
  same : d.kn = d.nn
  few : d.nn ≤ m
  short : ∀ j, j < d.nn → Nm (d.names j)
  kids : ∀ j, j < d.nn → 0 ≤ d.kids j ∧ d.kids j < n
  text : d.text.size ≤ 10
  kind : 1 ≤ d.kind ∧ d.kind ≤ 2
  turn : 0 ≤ d.turn ∧ d.turn ≤ 1000

/-- A tree that is being drawn. -/
structure Nice (n m : Nat) (D : Nat → Nd) : Prop where
  some : 1 ≤ n
  few : n ≤ 10
  root : (D 0).kind = 2
  each : ∀ i, i < n → NiceNd n m (D i)

theorem NiceNd.more {n n' m m' : Nat} {d : Nd} (h : NiceNd n m d) (hn : n ≤ n') (hm : m ≤ m') : NiceNd n' m' d :=
  ⟨h.same, Nat.le_trans h.few hm, h.short, fun j hj => ⟨(h.kids j hj).1, by have := (h.kids j hj).2; omega⟩, h.text, h.kind, h.turn⟩

theorem Nice.more {n m m' : Nat} {D : Nat → Nd} (h : Nice n m D) (hm : m ≤ m') : Nice n m' D := ⟨h.some, h.few, h.root, fun i hi => (h.each i hi).more (Nat.le_refl _) hm⟩

/-- One place is another. -/
def putNd (D : Nat → Nd) (i : Nat) (d : Nd) : Nat → Nd := fun j => if j = i then d else D j
def putLoc (L : Nat → Loc) (i : Nat) (l : Loc) : Nat → Loc := fun j => if j = i then l else L j

theorem putNd_same (D : Nat → Nd) (i : Nat) (d : Nd) : putNd D i d i = d := by simp [putNd]
theorem putNd_ne (D : Nat → Nd) {i j : Nat} (d : Nd) (h : j ≠ i) : putNd D i d j = D j := by simp [putNd, h]

theorem Nice.put {n m : Nat} {D : Nat → Nd} (h : Nice n m D) {i : Nat} {d : Nd} (hi : i < n) (hd : NiceNd n m d) (hk : d.kind = (D i).kind) : Nice n m (putNd D i d) :=
  ⟨h.some, h.few, by
    by_cases e : (0 : Nat) = i
    · subst e; rw [putNd_same, hk]; exact h.root
    · rw [putNd_ne D d e]; exact h.root, fun j hj => by
    by_cases e : j = i
    · subst e; rw [putNd_same]; exact hd
    · rw [putNd_ne D d e]; exact h.each j hj⟩

section
variable {W : World} {B g cap n : Nat} {D : Nat → Nd} {L : Nat → Loc}

/-- The turn of a place is written. -/
theorem OwnT.setTurn (h : OwnT W B g cap n D L) {i : Nat} (hi : i < n) (z : Int) : OwnT (W.setCell ⟨g, i * 5 + 4, none⟩ (.int .i64 z)) B g cap n (putNd D i { D i with turn := z }) L := by
  refine h.set (fun j hj => ?_) (fun j hj => ?_)
  · obtain ⟨h0, h1, h2, h3, h4⟩ := h.cells j hj
    by_cases e : j = i
    · subst e
      rw [putNd_same]
      simp [h0, h1, h2, h3]
    · rw [putNd_ne D _ e]
      rw [if_neg (by omega), if_neg (by omega), if_neg (by omega), if_neg (by omega), if_neg (by omega)]
      exact ⟨h0, h1, h2, h3, h4⟩
  · by_cases e : j = i
    · subst e; rw [putNd_same]; exact h.lists j hj
    · rw [putNd_ne D _ e]; exact h.lists j hj

/-- The text of a place is written. -/
theorem OwnT.setText (h : OwnT W B g cap n D L) {i : Nat} (hi : i < n) (s : ByteArray) : OwnT (W.setCell ⟨g, i * 5 + 1, none⟩ (.string s)) B g cap n (putNd D i { D i with text := s }) L := by
  refine h.set (fun j hj => ?_) (fun j hj => ?_)
  · obtain ⟨h0, h1, h2, h3, h4⟩ := h.cells j hj
    by_cases e : j = i
    · subst e
      rw [putNd_same]
      simp [h0, h2, h3, h4]
    · rw [putNd_ne D _ e]
      rw [if_neg (by omega), if_neg (by omega), if_neg (by omega), if_neg (by omega), if_neg (by omega)]
      exact ⟨h0, h1, h2, h3, h4⟩
  · by_cases e : j = i
    · subst e; rw [putNd_same]; exact h.lists j hj
    · rw [putNd_ne D _ e]; exact h.lists j hj
end

theorem NiceNd.setTurn {n m : Nat} {d : Nd} (h : NiceNd n m d) {z : Int} (h0 : 0 ≤ z) (h1 : z ≤ 1000) : NiceNd n m { d with turn := z } := ⟨h.same, h.few, h.short, h.kids, h.text, h.kind, ⟨h0, h1⟩⟩
theorem NiceNd.setText {n m : Nat} {d : Nd} (h : NiceNd n m d) {s : ByteArray} (hs : s.size ≤ 10) : NiceNd n m { d with text := s } := ⟨h.same, h.few, h.short, h.kids, hs, h.kind, h.turn⟩
end Go.Proofs.Ytbifhfnoogjoeaa
