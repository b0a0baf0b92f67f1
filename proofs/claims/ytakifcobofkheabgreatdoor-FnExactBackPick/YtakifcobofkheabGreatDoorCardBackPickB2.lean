/-
  Texts that the proof needs, laid one behind the other.
-/
import Derived.Test.YtakifcobofkheabGreatDoorCardBackPickB1
import Derived.Maps.AppendAt
import Derived.WalkSmall

/-
  What is kept, in memory of one's own: lists that grow, no two of which share a block. Plain facts.
-/
namespace Go.Proofs.YtakifcobofkheabGreatDoor
open Go.RowKit Go.Deep
set_option linter.unusedVariables false
set_option linter.unusedSimpArgs false

/-- Truth values as cells. -/
def boolv (n : Nat) (Z : Nat → Bool) : List Value := (List.range n).map fun i => .bool (Z i)
theorem boolv_len (n : Nat) (Z : Nat → Bool) : (boolv n Z).length = n := by simp [boolv]
theorem boolv_snoc (n : Nat) (Z : Nat → Bool) : boolv (n + 1) Z = boolv n Z ++ [.bool (Z n)] := by simp [boolv, List.range_succ]

/-- The cells of a place that was turned. -/
def it6 (o : Int) (d : Nd) (l : Loc) : List Value := [.int .i64 o, .int .i64 d.kind, .string d.text, .slice l.nA d.nn l.nc, .slice l.kA d.kn l.kc, .int .i64 d.turn]
/-- The cells of the first m. -/
def rowsI (O : Nat → Int) (D : Nat → Nd) (L : Nat → Loc) : Nat → List Value | 0 => [] | m + 1 => rowsI O D L m ++ it6 (O m) (D m) (L m)

section
variable {O O' : Nat → Int} {D D' : Nat → Nd} {L L' : Nat → Loc}

theorem rowsI_len : ∀ m, (rowsI O D L m).length = m * 6
  | 0 => rfl
  | m + 1 => by rw [rowsI, List.length_append, rowsI_len m]; simp [it6]; omega

theorem it6_one (o : Int) (d : Nd) (l : Loc) : ∀ u ∈ it6 o d l, u.oneCell' = true := by intro u hu; simp [it6] at hu; rcases hu with rfl | rfl | rfl | rfl | rfl | rfl <;> rfl

theorem rowsI_get : ∀ m i, i < m → ∀ r, r < 6 → (rowsI O D L m)[i * 6 + r]? = (it6 (O i) (D i) (L i))[r]?
  | 0, i, h, r, hr => by omega
  | m + 1, i, h, r, hr => by
    rw [rowsI]
    by_cases e : i < m
    · rw [List.getElem?_append_left (by rw [rowsI_len]; omega)]; exact rowsI_get m i e r hr
    · obtain rfl : i = m := by omega
      rw [List.getElem?_append_right (by rw [rowsI_len]; omega), rowsI_len, show i * 6 + r - i * 6 = r by omega]

theorem rowsI_ext : ∀ m, (∀ i, i < m → O' i = O i ∧ D' i = D i ∧ L' i = L i) → rowsI O' D' L' m = rowsI O D L m
  | 0, _ => rfl
  | m + 1, h => by rw [rowsI, rowsI, rowsI_ext m (fun i hi => h i (by omega)), (h m (by omega)).1, (h m (by omega)).2.1, (h m (by omega)).2.2]
end

/-- The rows of what is kept: 0 the truth values, 1 the places that were turned, then two for each of these. -/
def rowD (k : Nat) (Z : Nat → Bool) (m : Nat) (O : Nat → Int) (D : Nat → Nd) (L : Nat → Loc) (d : Nat) : Rw :=
  if d = 0 then ⟨4, 1, k, boolv k Z⟩ else if d = 1 then ⟨100, 6, m, rowsI O D L m⟩
  else if d % 2 = 0 then ⟨9, 1, (D ((d - 2) / 2)).nn, strv (lst (D ((d - 2) / 2)).nn (D ((d - 2) / 2)).names)⟩ else ⟨3, 1, (D ((d - 2) / 2)).kn, intv0 (D ((d - 2) / 2)).kn (D ((d - 2) / 2)).kids⟩
def valD (lv iv : Value) (D : Nat → Nd) (L : Nat → Loc) (d : Nat) : Value :=
  if d = 0 then lv else if d = 1 then iv else if d % 2 = 0 then .slice (L ((d - 2) / 2)).nA (D ((d - 2) / 2)).nn (L ((d - 2) / 2)).nc else .slice (L ((d - 2) / 2)).kA (D ((d - 2) / 2)).kn (L ((d - 2) / 2)).kc

/-- Rows of one's own, nil ones among them, no two of which share a block. -/
structure Rwn (B : Nat) (row : Nat → Rw) (live : Nat → Prop) (v : Nat → Value) (w : World) : Prop where
  own : ∀ d, live d → w.ownsRow B (row d).e (row d).size (v d) (row d).n (row d).xs
  apart : ∀ d d', live d → live d' → d ≠ d' → ∀ b, (v d).ownBlock = some b → (v d').ownBlock ≠ some b

structure OD (W : World) (B k : Nat) (Z : Nat → Bool) (m : Nat) (O : Nat → Int) (D : Nat → Nd) (L : Nat → Loc) (lv iv : Value) : Prop where
  rows : Rwn B (rowD k Z m O D L) (fun d => d < 2 + 2 * m) (valD lv iv D L) W

theorem owns_same {w w' : World} {B : Nat} {e : TypeId} {size n : Nat} {xs : List Value} {v : Value} (h : w.ownsRow B e size v n xs) (hw : ∀ b, v.ownBlock = some b → w'.heap[b]? = w.heap[b]?) : w'.ownsRow B e size v n xs := by
  refine ⟨h.1, ?_⟩
  rcases h.2 with h0 | ⟨g, cap, cur, hv, hB, hg, hr⟩
  · exact Or.inl h0
  · exact Or.inr ⟨g, cap, cur, hv, hB, (hw g (by rw [hv]; rfl)).trans hg, hr⟩

theorem owns_kept {w w' : World} {B : Nat} {e : TypeId} {size n : Nat} {xs : List Value} {v : Value} {r : Option Nat} (h : w.ownsRow B e size v n xs) (hg : w.grownBy w' r) (hr : ∀ b, v.ownBlock = some b → r ≠ some b) : w'.ownsRow B e size v n xs :=
  owns_same h fun b hb => hg.block b (owns_block h hb).2 (fun e => hr b hb e.symm)

/-- A place in new memory: its two lists are one's own; they may be nil. -/
structure NewNn (w : World) (d : Nd) (l : Loc) (W : World) : Prop where
  bel : Below w.heap.size w W
  names : W.ownsRow w.heap.size 9 1 (.slice l.nA d.nn l.nc) d.nn (strv (lst d.nn d.names))
  kids : W.ownsRow w.heap.size 3 1 (.slice l.kA d.kn l.kc) d.kn (intv0 d.kn d.kids)
  apart : ∀ b, (Value.slice l.nA d.nn l.nc).ownBlock = some b → (Value.slice l.kA d.kn l.kc).ownBlock ≠ some b

theorem NewNd.new {w : World} {d : Nd} {l : Loc} {W : World} (h : NewNd w d l W) : NewNn w d l W := by
  obtain ⟨b1, e1, g1, l1⟩ := h.nA
  obtain ⟨b2, e2, g2, l2⟩ := h.kA
  refine ⟨h.bel, h.names, h.kids, fun b hb => ?_⟩
  have := h.apart b1 b2 e1 e2
  rw [e1] at hb
  rw [e2]
  have hb' : b1 = b := by simpa [Value.ownBlock] using hb
  subst hb'
  simp [Value.ownBlock]
  omega

theorem NewNn.alloc {w : World} {d : Nd} {l : Loc} {W : World} (h : NewNn w d l W) (o : Obj) : NewNn w d l (W.alloc o) := ⟨h.bel.alloc h.bel.size _, h.names.alloc _, h.kids.alloc _, h.apart⟩

section
variable {W W' : World} {B k : Nat} {Z : Nat → Bool} {m : Nat} {O : Nat → Int} {D : Nat → Nd} {L : Nat → Loc} {lv iv lv' iv' : Value}

theorem OD.start (W : World) (B : Nat) (Z : Nat → Bool) (O : Nat → Int) (D : Nat → Nd) (L : Nat → Loc) : OD W B 0 Z 0 O D L (.slice none 0 0) (.slice none 0 0) :=
  ⟨⟨fun d hl => by
    have hd : d = 0 ∨ d = 1 := by omega
    rcases hd with rfl | rfl
    · exact World.ownsRow_nil _ _ _ _
    · exact World.ownsRow_nil _ _ _ _, fun d d' hl _ _ b hb => by
    have hd : d = 0 ∨ d = 1 := by omega
    rcases hd with rfl | rfl <;> simp [valD, Value.ownBlock] at hb⟩⟩

theorem OD.same (h : OD W B k Z m O D L lv iv) (hw : ∀ b, B ≤ b → b < W.heap.size → W'.heap[b]? = W.heap[b]?) : OD W' B k Z m O D L lv iv :=
  ⟨⟨fun d hl => owns_same (h.rows.own d hl) fun b hb => hw b (owns_block (h.rows.own d hl) hb).1 (owns_block (h.rows.own d hl) hb).2, h.rows.apart⟩⟩

theorem OD.below (h : OD W B k Z m O D L lv iv) (hb : Below W.heap.size W W') : OD W' B k Z m O D L lv iv := h.same fun b _ hlt => hb.block b hlt

theorem OD.off (h : OD W B k Z m O D L lv iv) {V i : Nat} (v : Value) (hV : V < B) : OD (W.setCell ⟨V, i, none⟩ v) B k Z m O D L lv iv := h.same fun b hB _ => blk_setCell_other _ _ _ _ (by show b ≠ V; omega)

theorem OD.lower {B' : Nat} (h : OD W B k Z m O D L lv iv) (hB : B' ≤ B) : OD W B' k Z m O D L lv iv := ⟨⟨fun d hl => owns_lower (h.rows.own d hl) hB, h.rows.apart⟩⟩

theorem OD.ownL (h : OD W B k Z m O D L lv iv) : W.ownsRow B 4 1 lv k (boolv k Z) := by
  have := h.rows.own 0 (by omega)
  simpa [rowD, valD] using this

theorem OD.ownI (h : OD W B k Z m O D L lv iv) : W.ownsRow B 100 6 iv m (rowsI O D L m) := by
  have := h.rows.own 1 (by omega)
  simpa [rowD, valD] using this

theorem rowD_rest {k k' m : Nat} {Z Z' : Nat → Bool} {d : Nat} (h : d ≠ 0) : rowD k' Z' m O D L d = rowD k Z m O D L d := by unfold rowD; rw [if_neg h, if_neg h]
theorem valD_rest {d : Nat} (h : d ≠ 0) : valD lv' iv D L d = valD lv iv D L d := by unfold valD; rw [if_neg h, if_neg h]

/-- One truth value more. -/
theorem OD.live (h : OD W B k Z m O D L lv iv) (hg : W.grownBy W' lv.ownBlock) (hown : W'.ownsRow B 4 1 lv' (k + 1) (boolv (k + 1) Z)) (hb : ∀ b, lv'.ownBlock = some b → lv.ownBlock = some b ∨ W.heap.size ≤ b) : OD W' B (k + 1) Z m O D L lv' iv := by
  have key : ∀ d, d < 2 + 2 * m → d ≠ 0 → ∀ b, (valD lv iv D L d).ownBlock = some b → b < W.heap.size ∧ lv.ownBlock ≠ some b := fun d hl hne b hb => ⟨(owns_block (h.rows.own d hl) hb).2, fun e => h.rows.apart d 0 hl (by omega) hne b hb (by simpa [valD] using e)⟩
  refine ⟨⟨fun d hl => ?_, fun d1 d2 g1 g2 hne b h1 h2 => ?_⟩⟩
  · by_cases e : d = 0
    · subst e; simpa [rowD, valD] using hown
    · rw [rowD_rest (k := k) (Z := Z) e, valD_rest (lv := lv) e]
      exact owns_kept (h.rows.own d hl) hg fun b hb => (key d hl e b hb).2
  · by_cases e1 : d1 = 0
    · have e2 : d2 ≠ 0 := fun e => hne (e1.trans e.symm)
      subst e1
      rw [valD_rest (lv := lv) e2] at h2
      have h1' : lv'.ownBlock = some b := by simpa [valD] using h1
      have := key d2 g2 e2 b h2
      rcases hb b h1' with e | e
      · exact this.2 e
      · omega
    · by_cases e2 : d2 = 0
      · subst e2
        rw [valD_rest (lv := lv) e1] at h1
        have h2' : lv'.ownBlock = some b := by simpa [valD] using h2
        have := key d1 g1 e1 b h1
        rcases hb b h2' with e | e
        · exact this.2 e
        · omega
      · rw [valD_rest (lv := lv) e1] at h1
        rw [valD_rest (lv := lv) e2] at h2
        exact h.rows.apart d1 d2 g1 g2 hne b h1 h2

/-- One place that was turned more: its lists are new, the list of them has grown. -/
theorem OD.item (h : OD W B k Z m O D L lv iv) {W1 : World} {o : Int} {x : Nd} {l : Loc} (hN : NewNn W x l W1) (hB : B ≤ W.heap.size) (hg : W1.grownBy W' iv.ownBlock) (hown : W'.ownsRow B 100 6 iv' (m + 1) (rowsI O D L m ++ it6 o x l)) (hb : ∀ b, iv'.ownBlock = some b → iv.ownBlock = some b ∨ W1.heap.size ≤ b) :
    OD W' B k Z (m + 1) (fun i => if i = m then o else O i) (fun i => if i = m then x else D i) (fun i => if i = m then l else L i) lv iv' := by
  have h1 := h.below hN.bel
  have hsz := hN.bel.size
  have hrow : rowsI (fun i => if i = m then o else O i) (fun i => if i = m then x else D i) (fun i => if i = m then l else L i) (m + 1) = rowsI O D L m ++ it6 o x l := by
    rw [rowsI, rowsI_ext (O := O) (D := D) (L := L) m (fun i hi => by simp [show i ≠ m by omega])]
    simp
  have hib : ∀ b, iv.ownBlock = some b → b < W.heap.size := fun b e => (owns_block h.ownI e).2
  have key : ∀ d, d < 2 + 2 * m → d ≠ 1 → ∀ b, (valD lv iv D L d).ownBlock = some b → b < W.heap.size ∧ iv.ownBlock ≠ some b := fun d hl hne b hb => ⟨(owns_block (h.rows.own d hl) hb).2, fun e => h.rows.apart d 1 hl (by omega) hne b hb (by simpa [valD] using e)⟩
  have e1 : rowD k Z (m + 1) (fun i => if i = m then o else O i) (fun i => if i = m then x else D i) (fun i => if i = m then l else L i) 1 = ⟨100, 6, m + 1, rowsI O D L m ++ it6 o x l⟩ := by unfold rowD; rw [hrow]; simp
  have v1 : valD lv iv' (fun i => if i = m then x else D i) (fun i => if i = m then l else L i) 1 = iv' := by simp [valD]
  have e2 : rowD k Z (m + 1) (fun i => if i = m then o else O i) (fun i => if i = m then x else D i) (fun i => if i = m then l else L i) (2 + 2 * m) = ⟨9, 1, x.nn, strv (lst x.nn x.names)⟩ := by
    have hi : (2 + 2 * m - 2) / 2 = m := by omega
    unfold rowD; rw [if_neg (by omega), if_neg (by omega), if_pos (by omega)]; simp [hi]
  have v2 : valD lv iv' (fun i => if i = m then x else D i) (fun i => if i = m then l else L i) (2 + 2 * m) = .slice l.nA x.nn l.nc := by
    have hi : (2 + 2 * m - 2) / 2 = m := by omega
    unfold valD; rw [if_neg (by omega), if_neg (by omega), if_pos (by omega)]; simp [hi]
  have e3 : rowD k Z (m + 1) (fun i => if i = m then o else O i) (fun i => if i = m then x else D i) (fun i => if i = m then l else L i) (3 + 2 * m) = ⟨3, 1, x.kn, intv0 x.kn x.kids⟩ := by
    have hi : (3 + 2 * m - 2) / 2 = m := by omega
    unfold rowD; rw [if_neg (by omega), if_neg (by omega), if_neg (by omega)]; simp [hi]
  have v3 : valD lv iv' (fun i => if i = m then x else D i) (fun i => if i = m then l else L i) (3 + 2 * m) = .slice l.kA x.kn l.kc := by
    have hi : (3 + 2 * m - 2) / 2 = m := by omega
    unfold valD; rw [if_neg (by omega), if_neg (by omega), if_neg (by omega)]; simp [hi]
  have e4 : ∀ d, d < 2 + 2 * m → d ≠ 1 → rowD k Z (m + 1) (fun i => if i = m then o else O i) (fun i => if i = m then x else D i) (fun i => if i = m then l else L i) d = rowD k Z m O D L d := fun d hl hne => by
    unfold rowD
    by_cases e0 : d = 0
    · rw [if_pos e0, if_pos e0]
    · have hi : (d - 2) / 2 ≠ m := by omega
      rw [if_neg e0, if_neg hne, if_neg e0, if_neg hne]; simp [hi]
  have v4 : ∀ d, d < 2 + 2 * m → d ≠ 1 → valD lv iv' (fun i => if i = m then x else D i) (fun i => if i = m then l else L i) d = valD lv iv D L d := fun d hl hne => by
    unfold valD
    by_cases e0 : d = 0
    · rw [if_pos e0, if_pos e0]
    · have hi : (d - 2) / 2 ≠ m := by omega
      rw [if_neg e0, if_neg hne, if_neg e0, if_neg hne]; simp [hi]
  have hcase : ∀ d, d < 2 + 2 * (m + 1) → (d < 2 + 2 * m ∧ d ≠ 1) ∨ d = 1 ∨ d = 2 + 2 * m ∨ d = 3 + 2 * m := fun d hl => by omega
  have hnl : ∀ b, (Value.slice l.nA x.nn l.nc).ownBlock = some b → W.heap.size ≤ b ∧ b < W1.heap.size := fun b e => owns_block hN.names e
  have hkl : ∀ b, (Value.slice l.kA x.kn l.kc).ownBlock = some b → W.heap.size ≤ b ∧ b < W1.heap.size := fun b e => owns_block hN.kids e
  refine ⟨⟨fun d hl => ?_, fun d1 d2 g1 g2 hne b p1 p2 => ?_⟩⟩
  · rcases hcase d hl with ⟨h2, h3⟩ | rfl | rfl | rfl
    · rw [e4 d h2 h3, v4 d h2 h3]
      exact owns_kept (h1.rows.own d h2) hg fun b hb => (key d h2 h3 b hb).2
    · rw [e1, v1]; exact hown
    · rw [e2, v2]
      exact owns_kept (owns_lower hN.names hB) hg fun b hb e => by have h4 := hnl b hb; have h5 := hib b e; omega
    · rw [e3, v3]
      exact owns_kept (owns_lower hN.kids hB) hg fun b hb e => by have h4 := hkl b hb; have h5 := hib b e; omega
  · have cl : ∀ d, d < 2 + 2 * (m + 1) → (valD lv iv' (fun i => if i = m then x else D i) (fun i => if i = m then l else L i) d).ownBlock = some b → (d < 2 + 2 * m ∧ d ≠ 1 ∧ (valD lv iv D L d).ownBlock = some b ∧ b < W.heap.size ∧ iv.ownBlock ≠ some b) ∨ (d = 1 ∧ (iv.ownBlock = some b ∧ b < W.heap.size ∨ W1.heap.size ≤ b)) ∨ (d = 2 + 2 * m ∧ (Value.slice l.nA x.nn l.nc).ownBlock = some b ∧ W.heap.size ≤ b ∧ b < W1.heap.size) ∨ (d = 3 + 2 * m ∧ (Value.slice l.kA x.kn l.kc).ownBlock = some b ∧ W.heap.size ≤ b ∧ b < W1.heap.size) := fun d hl hv => by
      rcases hcase d hl with ⟨h2, h3⟩ | rfl | rfl | rfl
      · rw [v4 d h2 h3] at hv
        exact Or.inl ⟨h2, h3, hv, key d h2 h3 b hv⟩
      · rw [v1] at hv
        exact Or.inr (Or.inl ⟨rfl, (hb b hv).imp (fun e => ⟨e, hib b e⟩) id⟩)
      · rw [v2] at hv
        exact Or.inr (Or.inr (Or.inl ⟨rfl, hv, hnl b hv⟩))
      · rw [v3] at hv
        exact Or.inr (Or.inr (Or.inr ⟨rfl, hv, hkl b hv⟩))
    rcases cl d1 g1 p1 with ⟨a1, a2, a3, a4, a5⟩ | ⟨a1, a2⟩ | ⟨a1, a2, a3, a4⟩ | ⟨a1, a2, a3, a4⟩ <;> rcases cl d2 g2 p2 with ⟨z1, z2, z3, z4, z5⟩ | ⟨z1, z2⟩ | ⟨z1, z2, z3, z4⟩ | ⟨z1, z2, z3, z4⟩
    · exact h.rows.apart d1 d2 a1 z1 hne b a3 z3
    · rcases z2 with ⟨e, _⟩ | e
      · exact a5 e
      · omega
    · omega
    · omega
    · rcases a2 with ⟨e, _⟩ | e
      · exact z5 e
      · omega
    · omega
    · rcases a2 with ⟨_, e⟩ | e <;> omega
    · rcases a2 with ⟨_, e⟩ | e <;> omega
    · omega
    · rcases z2 with ⟨_, e⟩ | e <;> omega
    · omega
    · exact hN.apart b a2 z2
    · omega
    · rcases z2 with ⟨_, e⟩ | e <;> omega
    · exact hN.apart b z2 a2
    · omega
end
end Go.Proofs.YtakifcobofkheabGreatDoor

/-
  What the helpers that mark a list do at a row of one's own, and that it is told to hold its marks.
-/
namespace Go.Proofs.YtakifcobofkheabGreatDoor
open Go.RowKit Go.Deep
set_option linter.unusedVariables false
set_option linter.unusedSimpArgs false

theorem intv0_set (n m : Nat) (Z : Nat → Int) (z : Int) : (intv0 n Z).set m (.int .i64 z) = intv0 n (fun i => if i = m then z else Z i) := by
  apply List.ext_getElem?
  intro j
  rw [List.getElem?_set]
  by_cases e : m = j
  · subst e
    by_cases h : m < n <;> simp [intv0, h]
  · by_cases h : j < n <;> simp [intv0, h, e, Ne.symm e]

theorem boolv_set (n m : Nat) (Z : Nat → Bool) (z : Bool) : (boolv n Z).set m (.bool z) = boolv n (fun i => if i = m then z else Z i) := by
  apply List.ext_getElem?
  intro j
  rw [List.getElem?_set]
  by_cases e : m = j
  · subst e
    by_cases h : m < n <;> simp [boolv, h]
  · by_cases h : j < n <;> simp [boolv, h, e, Ne.symm e]

theorem intv0_ext {n : Nat} {Z Y : Nat → Int} (h : ∀ i, i < n → Z i = Y i) : intv0 n Z = intv0 n Y := by
  unfold intv0
  exact List.map_congr_left fun i hi => by rw [h i (by simpa using hi)]
theorem boolv_ext {n : Nat} {Z Y : Nat → Bool} (h : ∀ i, i < n → Z i = Y i) : boolv n Z = boolv n Y := by
  unfold boolv
  exact List.map_congr_left fun i hi => by rw [h i (by simpa using hi)]

theorem owns_addr {w : World} {B : Nat} {e : TypeId} {size n c : Nat} {a : Option Addr} {xs : List Value} (h : w.ownsRow B e size (.slice a n c) n xs) (hn : 0 < n) : ∃ g, a = some ⟨g, 0, none⟩ ∧ g < w.heap.size := by
  rcases h.2 with ⟨h0, hz⟩ | ⟨g, cap, cur, hv, _, hg, _⟩
  · omega
  · cases hv
    exact ⟨g, rfl, (Array.getElem?_eq_some_iff.1 hg).1⟩

set_option maxHeartbeats 1000000 in
theorem markIntS_own (a : Option Addr) (n c k B : Nat) (Z : Nat → Int) (w : World) (h : w.ownsRow B 3 1 (.slice a n c) n (intv0 n Z)) (hn : n ≤ 1048576) (hk : k ≤ 100000000) :
    Calls Tryz.prog 39 #[.slice a n c, .int .i64 k] w fun e w' => e = .returned (.int .i64 ((k + n : Nat) : Int)) ∧ w'.ownsRow B 3 1 (.slice a n c) n (intv0 n (fun i => ((k + i : Nat) : Int))) ∧ w.grownBy w' (Value.slice a n c).ownBlock := by
  go_enter Tryz.func39, Tryz.ntmps39
  go_wp2
  go_loopw [1, 5] (fun kk i wr => ∃ m : Nat, m ≤ n ∧ i = .int .i64 m ∧ kk = .int .i64 ((k + m : Nat) : Int) ∧ wr.ownsRow B 3 1 (.slice a n c) n (intv0 n (fun i => if i < m then ((k + i : Nat) : Int) else Z i)) ∧ w.grownBy wr (Value.slice a n c).ownBlock) (fun _ i _ => n - (intOf i).toNat)
  case atStart => exact ⟨0, Nat.zero_le _, rfl, rfl, by simpa using h, World.grownBy.refl _ _⟩
  case round =>
    obtain ⟨m, hm, rfl, rfl, hrow, hg⟩ := hrel
    by_cases hlt : m < n
    · obtain ⟨g, rfl, hgl⟩ := owns_addr hrow (by omega)
      have hlti : (m : Int) < (n : Int) := by omega
      have hcm := hrow.cellAt m (by omega)
      have hfm := hrow.frozenAt m
      rw [show (intv0 n (fun i => if i < m then ((k + i : Nat) : Int) else Z i))[m]? = some (.int .i64 (Z m)) from by simp [intv0, hlt]] at hcm
      have HR : Hid _ := hrow.stored m (.int .i64 ((k + m : Nat) : Int))
      have HG : Hid (w.grownBy wr (Value.slice (some ⟨g, 0, none⟩) n c).ownBlock) := hg
      clear hrow hg
      go_wp2
      go_roundw
      case rel => exact ⟨m + 1, by omega, by go_num, by go_num, by
        have := HR.out.1
        rw [intv0_set] at this
        rw [intv0_ext (Y := fun i => if i = m then ((k + m : Nat) : Int) else if i < m then ((k + i : Nat) : Int) else Z i) (fun i hi => by
          by_cases e : i = m
          · subst e; simp
          · by_cases e2 : i < m
            · simp [e, e2, show i < m + 1 by omega]
            · simp [e, e2, show ¬ i < m + 1 by omega])]
        exact this, HG.out.trans HR.out.2⟩
      case measure => simp [intOf]; omega
    · obtain rfl : m = n := by omega
      have HR : Hid _ := And.intro hrow hg
      clear hrow hg
      go_wp2
      go_ret
      refine ⟨rfl, ?_, HR.out.2⟩
      rw [intv0_ext (Y := fun i => if i < m then ((k + i : Nat) : Int) else Z i) (fun i hi => by simp [hi])]
      exact HR.out.1

set_option maxHeartbeats 1000000 in
theorem heldIntS_own (a : Option Addr) (n c k : Nat) (w : World) (h : IsInts w a n (fun i => ((k + i : Nat) : Int))) (hn : n ≤ 1048576) (hk : k ≤ 100000000) :
    Calls Tryz.prog 41 #[.slice a n c, .int .i64 k] w fun e w' => e = .returned (.int .i64 ((k + n : Nat) : Int)) ∧ w' = w := by
  go_enter Tryz.func41, Tryz.ntmps41
  go_wp2
  go_loopw [1, 5] (fun kk i wr => ∃ m : Nat, m ≤ n ∧ i = .int .i64 m ∧ kk = .int .i64 ((k + m : Nat) : Int) ∧ wr = w) (fun _ i _ => n - (intOf i).toNat)
  case atStart => exact ⟨0, Nat.zero_le _, rfl, rfl, rfl⟩
  case round =>
    obtain ⟨m, hm, rfl, rfl, rfl⟩ := hrel
    by_cases hlt : m < n
    · obtain ⟨b, off, rfl, hlt2, hc⟩ := h.at hlt
      have g0 := hc m hlt
      have hlti : (m : Int) < (n : Int) := by omega
      clear hc
      go_wp2
      go_roundw
      case rel => exact ⟨m + 1, by omega, by go_num, by go_num, trivial⟩
      case measure => simp [intOf]; omega
    · obtain rfl : m = n := by omega
      go_wp2
      go_ret
      exact ⟨rfl, rfl⟩

/-- The marks of truth values. -/
def markB (k : Nat) : Nat → Bool := fun i => decide ((k + i) % 3 = 0)

theorem mod3 (k m : Nat) : (((k : Int) + (m : Int)) % 3 == 0) = markB k m := by
  unfold markB
  by_cases e : (k + m) % 3 = 0
  · rw [decide_eq_true e]
    have : ((k : Int) + (m : Int)) % 3 = 0 := by omega
    simp [this]
  · rw [decide_eq_false e]
    have : ¬ ((k : Int) + (m : Int)) % 3 = 0 := by omega
    simp [this]

set_option maxHeartbeats 1000000 in
theorem markBoolS_own (a : Option Addr) (n c k B : Nat) (Z : Nat → Bool) (w : World) (h : w.ownsRow B 4 1 (.slice a n c) n (boolv n Z)) (hn : n ≤ 1048576) (hk : k ≤ 100000000) :
    Calls Tryz.prog 36 #[.slice a n c, .int .i64 k] w fun e w' => e = .returned (.int .i64 ((k + n : Nat) : Int)) ∧ w'.ownsRow B 4 1 (.slice a n c) n (boolv n (markB k)) ∧ w.grownBy w' (Value.slice a n c).ownBlock := by
  go_enter Tryz.func36, Tryz.ntmps36
  go_wp2
  go_loopw [1, 5] (fun kk i wr => ∃ m : Nat, m ≤ n ∧ i = .int .i64 m ∧ kk = .int .i64 ((k + m : Nat) : Int) ∧ wr.ownsRow B 4 1 (.slice a n c) n (boolv n (fun i => if i < m then markB k i else Z i)) ∧ w.grownBy wr (Value.slice a n c).ownBlock) (fun _ i _ => n - (intOf i).toNat)
  case atStart => exact ⟨0, Nat.zero_le _, rfl, rfl, by simpa using h, World.grownBy.refl _ _⟩
  case round =>
    obtain ⟨m, hm, rfl, rfl, hrow, hg⟩ := hrel
    by_cases hlt : m < n
    · obtain ⟨g, rfl, hgl⟩ := owns_addr hrow (by omega)
      have hlti : (m : Int) < (n : Int) := by omega
      have hcm := hrow.cellAt m (by omega)
      have hfm := hrow.frozenAt m
      rw [show (boolv n (fun i => if i < m then markB k i else Z i))[m]? = some (.bool (Z m)) from by simp [boolv, hlt]] at hcm
      have hmod : (((k : Int) + (m : Int)) % 3 == 0) = markB k m := mod3 k m
      have HR : Hid _ := hrow.stored m (.bool (markB k m))
      have HG : Hid (w.grownBy wr (Value.slice (some ⟨g, 0, none⟩) n c).ownBlock) := hg
      have HM : Hid _ := hmod
      clear hrow hg hmod
      go_wp2
      go_roundw
      case rel => exact ⟨m + 1, by omega, by go_num, by go_num, by
        have := HR.out.1
        rw [boolv_set] at this
        rw [HM.out, boolv_ext (Y := fun i => if i = m then markB k m else if i < m then markB k i else Z i) (fun i hi => by
          by_cases e : i = m
          · subst e; simp
          · by_cases e2 : i < m
            · simp [e, e2, show i < m + 1 by omega]
            · simp [e, e2, show ¬ i < m + 1 by omega])]
        exact this, by rw [HM.out]; exact HG.out.trans HR.out.2⟩
      case measure => simp [intOf]; omega
    · obtain rfl : m = n := by omega
      have HR : Hid _ := And.intro hrow hg
      clear hrow hg
      go_wp2
      go_ret
      refine ⟨rfl, ?_, HR.out.2⟩
      rw [boolv_ext (Y := fun i => if i < m then markB k i else Z i) (fun i hi => by simp [hi])]
      exact HR.out.1

theorem strv_set (n m : Nat) (S : Nat → ByteArray) (s : ByteArray) : (strv (lst n S)).set m (.string s) = strv (lst n (fun i => if i = m then s else S i)) := by
  apply List.ext_getElem?
  intro j
  rw [List.getElem?_set]
  by_cases e : m = j
  · subst e
    by_cases h : m < n <;> simp [strv, lst, h]
  · by_cases h : j < n <;> simp [strv, lst, h, e, Ne.symm e]

theorem strv_ext {n : Nat} {S T : Nat → ByteArray} (h : ∀ i, i < n → S i = T i) : strv (lst n S) = strv (lst n T) := by
  unfold lst
  congr 1
  exact List.map_congr_left fun i hi => h i (by simpa using hi)

theorem grown_of_below {w w' : World} (h : Below w.heap.size w w') (r : Option Nat) : w.grownBy w' r := ⟨h.os, h.tape, h.output, h.size, fun k hk _ => h.block k hk⟩

set_option maxHeartbeats 1000000 in
theorem markStringS_own (a : Option Addr) (n c k B : Nat) (S : Nat → ByteArray) (w : World) (h : w.ownsRow B 9 1 (.slice a n c) n (strv (lst n S))) (hn : n ≤ 1048576) (hk1 : 1 ≤ k) (hk : k ≤ 100000000) :
    Calls Tryz.prog 15 #[.slice a n c, .int .i64 k] w fun e w' => e = .returned (.int .i64 ((k + n : Nat) : Int)) ∧ w'.ownsRow B 9 1 (.slice a n c) n (strv (lst n (marks k))) ∧ w.grownBy w' (Value.slice a n c).ownBlock := by
  go_enter Tryz.func15, Tryz.ntmps15
  go_wp2
  go_loopw [1, 5] (fun kk i wr => ∃ m : Nat, m ≤ n ∧ i = .int .i64 m ∧ kk = .int .i64 ((k + m : Nat) : Int) ∧ wr.ownsRow B 9 1 (.slice a n c) n (strv (lst n (fun i => if i < m then marks k i else S i))) ∧ w.grownBy wr (Value.slice a n c).ownBlock) (fun _ i _ => n - (intOf i).toNat)
  case atStart => exact ⟨0, Nat.zero_le _, rfl, rfl, by simpa using h, World.grownBy.refl _ _⟩
  case round =>
    obtain ⟨m, hm, rfl, rfl, hrow, hg⟩ := hrel
    by_cases hlt : m < n
    · obtain ⟨g, rfl, hgl⟩ := owns_addr hrow (by omega)
      have hlti : (m : Int) < (n : Int) := by omega
      have HRow : Hid _ := hrow
      have HG : Hid (w.grownBy wr (Value.slice (some ⟨g, 0, none⟩) n c).ownBlock) := hg
      clear hrow hg
      go_wp2_with fail
      refine (markText_any (k + m) _ (by omega) (by omega)).mono ?_
      rintro e w1 ⟨rfl, hb1⟩
      have hrow1 := owns_same HRow.out (w' := w1) (fun b hb => hb1.block b (owns_block HRow.out hb).2)
      have hcm := hrow1.cellAt m (by omega)
      have hfm := hrow1.frozenAt m
      rw [show (strv (lst n (fun i => if i < m then marks k i else S i)))[m]? = some (.string (S m)) from by simp [strv, lst, hlt]] at hcm
      have HR : Hid _ := hrow1.stored m (.string ⟨(markOf (k + m)).toArray⟩)
      have HG1 : Hid (w.grownBy w1 (Value.slice (some ⟨g, 0, none⟩) n c).ownBlock) := HG.out.trans (grown_of_below hb1 _)
      clear hrow1 hb1 HG HRow
      go_wp2
      go_roundw
      case rel => exact ⟨m + 1, by omega, by go_num, by go_num, by
        have := HR.out.1
        rw [strv_set] at this
        rw [strv_ext (T := fun i => if i = m then (⟨(markOf (k + m)).toArray⟩ : ByteArray) else if i < m then marks k i else S i) (fun i hi => by
          by_cases e : i = m
          · subst e; simp [marks]
          · by_cases e2 : i < m
            · simp [e, e2, show i < m + 1 by omega]
            · simp [e, e2, show ¬ i < m + 1 by omega])]
        exact this, HG1.out.trans HR.out.2⟩
      case measure => simp [intOf]; omega
    · obtain rfl : m = n := by omega
      have HR : Hid _ := And.intro hrow hg
      clear hrow hg
      go_wp2
      go_ret
      refine ⟨rfl, ?_, HR.out.2⟩
      rw [strv_ext (T := fun i => if i < m then marks k i else S i) (fun i hi => by simp [hi])]
      exact HR.out.1
end Go.Proofs.YtakifcobofkheabGreatDoor

/-
  What is kept, in memory of one's own, when one of its lists is written into. Plain facts.
-/
namespace Go.Proofs.YtakifcobofkheabGreatDoor
open Go.RowKit Go.Deep
set_option linter.unusedVariables false
set_option linter.unusedSimpArgs false

section
variable {W W' : World} {B k : Nat} {Z Z' : Nat → Bool} {m : Nat} {O O' : Nat → Int} {D D' : Nat → Nd} {L : Nat → Loc} {lv iv : Value}

theorem OD.turn (h : OD W B k Z m O D L lv iv) {d0 : Nat} (hd0 : d0 < 2 + 2 * m) (hg : W.grownBy W' (valD lv iv D L d0).ownBlock) (hrow : ∀ d, d < 2 + 2 * m → d ≠ d0 → rowD k Z' m O' D' L d = rowD k Z m O D L d) (hval : ∀ d, d < 2 + 2 * m → valD lv iv D' L d = valD lv iv D L d)
    (hown : W'.ownsRow B (rowD k Z' m O' D' L d0).e (rowD k Z' m O' D' L d0).size (valD lv iv D L d0) (rowD k Z' m O' D' L d0).n (rowD k Z' m O' D' L d0).xs) : OD W' B k Z' m O' D' L lv iv := by
  refine ⟨⟨fun d hl => ?_, fun d1 d2 g1 g2 hne b h1 h2 => ?_⟩⟩
  · rw [hval d hl]
    by_cases e : d = d0
    · subst e; exact hown
    · rw [hrow d hl e]
      exact owns_kept (h.rows.own d hl) hg fun b hb => Ne.symm (Ne.symm (h.rows.apart d d0 hl hd0 e b hb))
  · rw [hval d1 g1] at h1
    rw [hval d2 g2] at h2
    exact h.rows.apart d1 d2 g1 g2 hne b h1 h2

/-- The same lengths everywhere: the same addresses. -/
theorem val_same (hl : ∀ i, i < m → (D' i).nn = (D i).nn ∧ (D' i).kn = (D i).kn) : ∀ d, d < 2 + 2 * m → valD lv iv D' L d = valD lv iv D L d := fun d hd => by
  unfold valD
  by_cases e0 : d = 0
  · rw [if_pos e0, if_pos e0]
  · by_cases e1 : d = 1
    · rw [if_neg e0, if_pos e1, if_neg e0, if_pos e1]
    · rw [if_neg e0, if_neg e1, if_neg e0, if_neg e1, (hl ((d - 2) / 2) (by omega)).1, (hl ((d - 2) / 2) (by omega)).2]

/-- The truth values are others. -/
theorem OD.turnLive (h : OD W B k Z m O D L lv iv) (hg : W.grownBy W' lv.ownBlock) (hown : W'.ownsRow B 4 1 lv k (boolv k Z')) : OD W' B k Z' m O D L lv iv :=
  h.turn (d0 := 0) (by omega) (by simpa [valD] using hg) (fun d hl hne => rowD_rest hne) (fun d hl => rfl) (by simpa [rowD, valD] using hown)

/-- The list of places holds others, of the same lists. -/
theorem OD.turnItems (h : OD W B k Z m O D L lv iv) (hl : ∀ i, i < m → (D' i).nn = (D i).nn ∧ (D' i).kn = (D i).kn ∧ (D' i).names = (D i).names ∧ (D' i).kids = (D i).kids) (hg : W.grownBy W' iv.ownBlock) (hown : W'.ownsRow B 100 6 iv m (rowsI O' D' L m)) : OD W' B k Z m O' D' L lv iv :=
  h.turn (d0 := 1) (by omega) (by simpa [valD] using hg) (fun d hd hne => by
    unfold rowD
    by_cases e0 : d = 0
    · rw [if_pos e0, if_pos e0]
    · obtain ⟨a1, a2, a3, a4⟩ := hl ((d - 2) / 2) (by omega)
      rw [if_neg e0, if_neg hne, if_neg e0, if_neg hne, a1, a2, a3, a4]) (val_same fun i hi => ⟨(hl i hi).1, (hl i hi).2.1⟩) (by simpa [rowD, valD] using hown)

/-- The names of a place are others. -/
theorem OD.turnNames (h : OD W B k Z m O D L lv iv) {i : Nat} (hi : i < m) (S : Nat → ByteArray) (hg : W.grownBy W' (Value.slice (L i).nA (D i).nn (L i).nc).ownBlock) (hown : W'.ownsRow B 9 1 (.slice (L i).nA (D i).nn (L i).nc) (D i).nn (strv (lst (D i).nn S))) :
    OD W' B k Z m O (fun j => if j = i then { D i with names := S } else D j) L lv iv := by
  have hd : (2 + 2 * i - 2) / 2 = i := by omega
  have hv : valD lv iv D L (2 + 2 * i) = .slice (L i).nA (D i).nn (L i).nc := by unfold valD; rw [if_neg (by omega), if_neg (by omega), if_pos (by omega), hd]
  refine h.turn (d0 := 2 + 2 * i) (by omega) (by rw [hv]; exact hg) (fun d hdl hne => ?_) (val_same fun j hj => by by_cases e : j = i <;> simp [e]) ?_
  · have hrows : rowsI O (fun j => if j = i then { D i with names := S } else D j) L m = rowsI O D L m := by
      have key : ∀ q, rowsI O (fun j => if j = i then { D i with names := S } else D j) L q = rowsI O D L q := fun q => by
        induction q with
        | zero => rfl
        | succ q ih =>
          rw [rowsI, rowsI, ih]
          by_cases e : q = i
          · subst e; simp [it6]
          · simp [e]
      exact key m
    unfold rowD
    by_cases e0 : d = 0
    · rw [if_pos e0, if_pos e0]
    · by_cases e1 : d = 1
      · rw [if_neg e0, if_pos e1, if_neg e0, if_pos e1, hrows]
      · rw [if_neg e0, if_neg e1, if_neg e0, if_neg e1]
        by_cases e : (d - 2) / 2 = i
        · have : d % 2 ≠ 0 := by omega
          rw [if_neg this, if_neg this]
          simp [e]
        · simp [e]
  · rw [hv]
    unfold rowD
    rw [if_neg (by omega), if_neg (by omega), if_pos (by omega), hd]
    simpa using hown

/-- The places in a directory are others. -/
theorem OD.turnKids (h : OD W B k Z m O D L lv iv) {i : Nat} (hi : i < m) (K : Nat → Int) (hg : W.grownBy W' (Value.slice (L i).kA (D i).kn (L i).kc).ownBlock) (hown : W'.ownsRow B 3 1 (.slice (L i).kA (D i).kn (L i).kc) (D i).kn (intv0 (D i).kn K)) :
    OD W' B k Z m O (fun j => if j = i then { D i with kids := K } else D j) L lv iv := by
  have hd : (3 + 2 * i - 2) / 2 = i := by omega
  have hv : valD lv iv D L (3 + 2 * i) = .slice (L i).kA (D i).kn (L i).kc := by unfold valD; rw [if_neg (by omega), if_neg (by omega), if_neg (by omega), hd]
  refine h.turn (d0 := 3 + 2 * i) (by omega) (by rw [hv]; exact hg) (fun d hdl hne => ?_) (val_same fun j hj => by by_cases e : j = i <;> simp [e]) ?_
  · have hrows : rowsI O (fun j => if j = i then { D i with kids := K } else D j) L m = rowsI O D L m := by
      have key : ∀ q, rowsI O (fun j => if j = i then { D i with kids := K } else D j) L q = rowsI O D L q := fun q => by
        induction q with
        | zero => rfl
        | succ q ih =>
          rw [rowsI, rowsI, ih]
          by_cases e : q = i
          · subst e; simp [it6]
          · simp [e]
      exact key m
    unfold rowD
    by_cases e0 : d = 0
    · rw [if_pos e0, if_pos e0]
    · by_cases e1 : d = 1
      · rw [if_neg e0, if_pos e1, if_neg e0, if_pos e1, hrows]
      · rw [if_neg e0, if_neg e1, if_neg e0, if_neg e1]
        by_cases e : (d - 2) / 2 = i
        · have : d % 2 = 0 := by omega
          rw [if_pos this, if_pos this]
          simp [e]
        · simp [e]
  · rw [hv]
    unfold rowD
    rw [if_neg (by omega), if_neg (by omega), if_neg (by omega), hd]
    simpa using hown
end
end Go.Proofs.YtakifcobofkheabGreatDoor

/-
  A tree in memory of one's own: its list of places, and the lists of each place; no two share a block. Plain facts.
-/
namespace Go.Proofs.YtakifcobofkheabGreatDoor
open Go.RowKit Go.Deep
set_option linter.unusedVariables false
set_option linter.unusedSimpArgs false

/-- The cells of a place that was turned. -/
def nt5 (o : Int) (d : Nd) (l : Loc) : List Value := [.int .i64 d.kind, .string d.text, .slice l.nA d.nn l.nc, .slice l.kA d.kn l.kc, .int .i64 d.turn]
/-- The cells of the first m. -/
def rowsT (O : Nat → Int) (D : Nat → Nd) (L : Nat → Loc) : Nat → List Value | 0 => [] | m + 1 => rowsT O D L m ++ nt5 (O m) (D m) (L m)

section
variable {O O' : Nat → Int} {D D' : Nat → Nd} {L L' : Nat → Loc}

theorem rowsT_len : ∀ m, (rowsT O D L m).length = m * 5
  | 0 => rfl
  | m + 1 => by rw [rowsT, List.length_append, rowsT_len m]; simp [nt5]; omega

theorem nt5_one (o : Int) (d : Nd) (l : Loc) : ∀ u ∈ nt5 o d l, u.oneCell' = true := by intro u hu; simp [nt5] at hu; rcases hu with rfl | rfl | rfl | rfl | rfl <;> rfl

theorem rowsT_get : ∀ m i, i < m → ∀ r, r < 5 → (rowsT O D L m)[i * 5 + r]? = (nt5 (O i) (D i) (L i))[r]?
  | 0, i, h, r, hr => by omega
  | m + 1, i, h, r, hr => by
    rw [rowsT]
    by_cases e : i < m
    · rw [List.getElem?_append_left (by rw [rowsT_len]; omega)]; exact rowsT_get m i e r hr
    · obtain rfl : i = m := by omega
      rw [List.getElem?_append_right (by rw [rowsT_len]; omega), rowsT_len, show i * 5 + r - i * 5 = r by omega]

theorem rowsT_ext : ∀ m, (∀ i, i < m → O' i = O i ∧ D' i = D i ∧ L' i = L i) → rowsT O' D' L' m = rowsT O D L m
  | 0, _ => rfl
  | m + 1, h => by rw [rowsT, rowsT, rowsT_ext m (fun i hi => h i (by omega)), (h m (by omega)).1, (h m (by omega)).2.1, (h m (by omega)).2.2]
end

/-- The rows of what is kept: 0 the truth values, 1 the places that were turned, then two for each of these. -/
def rowT (k : Nat) (Z : Nat → Bool) (m : Nat) (O : Nat → Int) (D : Nat → Nd) (L : Nat → Loc) (d : Nat) : Rw :=
  if d = 0 then ⟨4, 1, k, boolv k Z⟩ else if d = 1 then ⟨28, 5, m, rowsT O D L m⟩
  else if d % 2 = 0 then ⟨9, 1, (D ((d - 2) / 2)).nn, strv (lst (D ((d - 2) / 2)).nn (D ((d - 2) / 2)).names)⟩ else ⟨3, 1, (D ((d - 2) / 2)).kn, intv0 (D ((d - 2) / 2)).kn (D ((d - 2) / 2)).kids⟩
def valT (lv iv : Value) (D : Nat → Nd) (L : Nat → Loc) (d : Nat) : Value :=
  if d = 0 then lv else if d = 1 then iv else if d % 2 = 0 then .slice (L ((d - 2) / 2)).nA (D ((d - 2) / 2)).nn (L ((d - 2) / 2)).nc else .slice (L ((d - 2) / 2)).kA (D ((d - 2) / 2)).kn (L ((d - 2) / 2)).kc

structure OT (W : World) (B k : Nat) (Z : Nat → Bool) (m : Nat) (O : Nat → Int) (D : Nat → Nd) (L : Nat → Loc) (lv iv : Value) : Prop where
  rows : Rwn B (rowT k Z m O D L) (fun d => d < 2 + 2 * m) (valT lv iv D L) W

section
variable {W W' : World} {B k : Nat} {Z : Nat → Bool} {m : Nat} {O : Nat → Int} {D : Nat → Nd} {L : Nat → Loc} {lv iv lv' iv' : Value}

theorem OT.start (W : World) (B : Nat) (Z : Nat → Bool) (O : Nat → Int) (D : Nat → Nd) (L : Nat → Loc) : OT W B 0 Z 0 O D L (.slice none 0 0) (.slice none 0 0) :=
  ⟨⟨fun d hl => by
    have hd : d = 0 ∨ d = 1 := by omega
    rcases hd with rfl | rfl
    · exact World.ownsRow_nil _ _ _ _
    · exact World.ownsRow_nil _ _ _ _, fun d d' hl _ _ b hb => by
    have hd : d = 0 ∨ d = 1 := by omega
    rcases hd with rfl | rfl <;> simp [valT, Value.ownBlock] at hb⟩⟩

theorem OT.same (h : OT W B k Z m O D L lv iv) (hw : ∀ b, B ≤ b → b < W.heap.size → W'.heap[b]? = W.heap[b]?) : OT W' B k Z m O D L lv iv :=
  ⟨⟨fun d hl => owns_same (h.rows.own d hl) fun b hb => hw b (owns_block (h.rows.own d hl) hb).1 (owns_block (h.rows.own d hl) hb).2, h.rows.apart⟩⟩

theorem OT.below (h : OT W B k Z m O D L lv iv) (hb : Below W.heap.size W W') : OT W' B k Z m O D L lv iv := h.same fun b _ hlt => hb.block b hlt

theorem OT.off (h : OT W B k Z m O D L lv iv) {V i : Nat} (v : Value) (hV : V < B) : OT (W.setCell ⟨V, i, none⟩ v) B k Z m O D L lv iv := h.same fun b hB _ => blk_setCell_other _ _ _ _ (by show b ≠ V; omega)

theorem OT.lower {B' : Nat} (h : OT W B k Z m O D L lv iv) (hB : B' ≤ B) : OT W B' k Z m O D L lv iv := ⟨⟨fun d hl => owns_lower (h.rows.own d hl) hB, h.rows.apart⟩⟩

theorem OT.ownL (h : OT W B k Z m O D L lv iv) : W.ownsRow B 4 1 lv k (boolv k Z) := by
  have := h.rows.own 0 (by omega)
  simpa [rowT, valT] using this

theorem OT.ownI (h : OT W B k Z m O D L lv iv) : W.ownsRow B 28 5 iv m (rowsT O D L m) := by
  have := h.rows.own 1 (by omega)
  simpa [rowT, valT] using this

theorem rowT_rest {k k' m : Nat} {Z Z' : Nat → Bool} {d : Nat} (h : d ≠ 0) : rowT k' Z' m O D L d = rowT k Z m O D L d := by unfold rowT; rw [if_neg h, if_neg h]
theorem valT_rest {d : Nat} (h : d ≠ 0) : valT lv' iv D L d = valT lv iv D L d := by unfold valT; rw [if_neg h, if_neg h]

/-- One truth value more. -/
theorem OT.live (h : OT W B k Z m O D L lv iv) (hg : W.grownBy W' lv.ownBlock) (hown : W'.ownsRow B 4 1 lv' (k + 1) (boolv (k + 1) Z)) (hb : ∀ b, lv'.ownBlock = some b → lv.ownBlock = some b ∨ W.heap.size ≤ b) : OT W' B (k + 1) Z m O D L lv' iv := by
  have key : ∀ d, d < 2 + 2 * m → d ≠ 0 → ∀ b, (valT lv iv D L d).ownBlock = some b → b < W.heap.size ∧ lv.ownBlock ≠ some b := fun d hl hne b hb => ⟨(owns_block (h.rows.own d hl) hb).2, fun e => h.rows.apart d 0 hl (by omega) hne b hb (by simpa [valT] using e)⟩
  refine ⟨⟨fun d hl => ?_, fun d1 d2 g1 g2 hne b h1 h2 => ?_⟩⟩
  · by_cases e : d = 0
    · subst e; simpa [rowT, valT] using hown
    · rw [rowT_rest (k := k) (Z := Z) e, valT_rest (lv := lv) e]
      exact owns_kept (h.rows.own d hl) hg fun b hb => (key d hl e b hb).2
  · by_cases e1 : d1 = 0
    · have e2 : d2 ≠ 0 := fun e => hne (e1.trans e.symm)
      subst e1
      rw [valT_rest (lv := lv) e2] at h2
      have h1' : lv'.ownBlock = some b := by simpa [valT] using h1
      have := key d2 g2 e2 b h2
      rcases hb b h1' with e | e
      · exact this.2 e
      · omega
    · by_cases e2 : d2 = 0
      · subst e2
        rw [valT_rest (lv := lv) e1] at h1
        have h2' : lv'.ownBlock = some b := by simpa [valT] using h2
        have := key d1 g1 e1 b h1
        rcases hb b h2' with e | e
        · exact this.2 e
        · omega
      · rw [valT_rest (lv := lv) e1] at h1
        rw [valT_rest (lv := lv) e2] at h2
        exact h.rows.apart d1 d2 g1 g2 hne b h1 h2

/-- One place that was turned more: its lists are new, the list of them has grown. -/
theorem OT.item (h : OT W B k Z m O D L lv iv) {W1 : World} {o : Int} {x : Nd} {l : Loc} (hN : NewNn W x l W1) (hB : B ≤ W.heap.size) (hg : W1.grownBy W' iv.ownBlock) (hown : W'.ownsRow B 28 5 iv' (m + 1) (rowsT O D L m ++ nt5 o x l)) (hb : ∀ b, iv'.ownBlock = some b → iv.ownBlock = some b ∨ W1.heap.size ≤ b) :
    OT W' B k Z (m + 1) (fun i => if i = m then o else O i) (fun i => if i = m then x else D i) (fun i => if i = m then l else L i) lv iv' := by
  have h1 := h.below hN.bel
  have hsz := hN.bel.size
  have hrow : rowsT (fun i => if i = m then o else O i) (fun i => if i = m then x else D i) (fun i => if i = m then l else L i) (m + 1) = rowsT O D L m ++ nt5 o x l := by
    rw [rowsT, rowsT_ext (O := O) (D := D) (L := L) m (fun i hi => by simp [show i ≠ m by omega])]
    simp
  have hib : ∀ b, iv.ownBlock = some b → b < W.heap.size := fun b e => (owns_block h.ownI e).2
  have key : ∀ d, d < 2 + 2 * m → d ≠ 1 → ∀ b, (valT lv iv D L d).ownBlock = some b → b < W.heap.size ∧ iv.ownBlock ≠ some b := fun d hl hne b hb => ⟨(owns_block (h.rows.own d hl) hb).2, fun e => h.rows.apart d 1 hl (by omega) hne b hb (by simpa [valT] using e)⟩
  have e1 : rowT k Z (m + 1) (fun i => if i = m then o else O i) (fun i => if i = m then x else D i) (fun i => if i = m then l else L i) 1 = ⟨28, 5, m + 1, rowsT O D L m ++ nt5 o x l⟩ := by unfold rowT; rw [hrow]; simp
  have v1 : valT lv iv' (fun i => if i = m then x else D i) (fun i => if i = m then l else L i) 1 = iv' := by simp [valT]
  have e2 : rowT k Z (m + 1) (fun i => if i = m then o else O i) (fun i => if i = m then x else D i) (fun i => if i = m then l else L i) (2 + 2 * m) = ⟨9, 1, x.nn, strv (lst x.nn x.names)⟩ := by
    have hi : (2 + 2 * m - 2) / 2 = m := by omega
    unfold rowT; rw [if_neg (by omega), if_neg (by omega), if_pos (by omega)]; simp [hi]
  have v2 : valT lv iv' (fun i => if i = m then x else D i) (fun i => if i = m then l else L i) (2 + 2 * m) = .slice l.nA x.nn l.nc := by
    have hi : (2 + 2 * m - 2) / 2 = m := by omega
    unfold valT; rw [if_neg (by omega), if_neg (by omega), if_pos (by omega)]; simp [hi]
  have e3 : rowT k Z (m + 1) (fun i => if i = m then o else O i) (fun i => if i = m then x else D i) (fun i => if i = m then l else L i) (3 + 2 * m) = ⟨3, 1, x.kn, intv0 x.kn x.kids⟩ := by
    have hi : (3 + 2 * m - 2) / 2 = m := by omega
    unfold rowT; rw [if_neg (by omega), if_neg (by omega), if_neg (by omega)]; simp [hi]
  have v3 : valT lv iv' (fun i => if i = m then x else D i) (fun i => if i = m then l else L i) (3 + 2 * m) = .slice l.kA x.kn l.kc := by
    have hi : (3 + 2 * m - 2) / 2 = m := by omega
    unfold valT; rw [if_neg (by omega), if_neg (by omega), if_neg (by omega)]; simp [hi]
  have e4 : ∀ d, d < 2 + 2 * m → d ≠ 1 → rowT k Z (m + 1) (fun i => if i = m then o else O i) (fun i => if i = m then x else D i) (fun i => if i = m then l else L i) d = rowT k Z m O D L d := fun d hl hne => by
    unfold rowT
    by_cases e0 : d = 0
    · rw [if_pos e0, if_pos e0]
    · have hi : (d - 2) / 2 ≠ m := by omega
      rw [if_neg e0, if_neg hne, if_neg e0, if_neg hne]; simp [hi]
  have v4 : ∀ d, d < 2 + 2 * m → d ≠ 1 → valT lv iv' (fun i => if i = m then x else D i) (fun i => if i = m then l else L i) d = valT lv iv D L d := fun d hl hne => by
    unfold valT
    by_cases e0 : d = 0
    · rw [if_pos e0, if_pos e0]
    · have hi : (d - 2) / 2 ≠ m := by omega
      rw [if_neg e0, if_neg hne, if_neg e0, if_neg hne]; simp [hi]
  have hcase : ∀ d, d < 2 + 2 * (m + 1) → (d < 2 + 2 * m ∧ d ≠ 1) ∨ d = 1 ∨ d = 2 + 2 * m ∨ d = 3 + 2 * m := fun d hl => by omega
  have hnl : ∀ b, (Value.slice l.nA x.nn l.nc).ownBlock = some b → W.heap.size ≤ b ∧ b < W1.heap.size := fun b e => owns_block hN.names e
  have hkl : ∀ b, (Value.slice l.kA x.kn l.kc).ownBlock = some b → W.heap.size ≤ b ∧ b < W1.heap.size := fun b e => owns_block hN.kids e
  refine ⟨⟨fun d hl => ?_, fun d1 d2 g1 g2 hne b p1 p2 => ?_⟩⟩
  · rcases hcase d hl with ⟨h2, h3⟩ | rfl | rfl | rfl
    · rw [e4 d h2 h3, v4 d h2 h3]
      exact owns_kept (h1.rows.own d h2) hg fun b hb => (key d h2 h3 b hb).2
    · rw [e1, v1]; exact hown
    · rw [e2, v2]
      exact owns_kept (owns_lower hN.names hB) hg fun b hb e => by have h4 := hnl b hb; have h5 := hib b e; omega
    · rw [e3, v3]
      exact owns_kept (owns_lower hN.kids hB) hg fun b hb e => by have h4 := hkl b hb; have h5 := hib b e; omega
  · have cl : ∀ d, d < 2 + 2 * (m + 1) → (valT lv iv' (fun i => if i = m then x else D i) (fun i => if i = m then l else L i) d).ownBlock = some b → (d < 2 + 2 * m ∧ d ≠ 1 ∧ (valT lv iv D L d).ownBlock = some b ∧ b < W.heap.size ∧ iv.ownBlock ≠ some b) ∨ (d = 1 ∧ (iv.ownBlock = some b ∧ b < W.heap.size ∨ W1.heap.size ≤ b)) ∨ (d = 2 + 2 * m ∧ (Value.slice l.nA x.nn l.nc).ownBlock = some b ∧ W.heap.size ≤ b ∧ b < W1.heap.size) ∨ (d = 3 + 2 * m ∧ (Value.slice l.kA x.kn l.kc).ownBlock = some b ∧ W.heap.size ≤ b ∧ b < W1.heap.size) := fun d hl hv => by
      rcases hcase d hl with ⟨h2, h3⟩ | rfl | rfl | rfl
      · rw [v4 d h2 h3] at hv
        exact Or.inl ⟨h2, h3, hv, key d h2 h3 b hv⟩
      · rw [v1] at hv
        exact Or.inr (Or.inl ⟨rfl, (hb b hv).imp (fun e => ⟨e, hib b e⟩) id⟩)
      · rw [v2] at hv
        exact Or.inr (Or.inr (Or.inl ⟨rfl, hv, hnl b hv⟩))
      · rw [v3] at hv
        exact Or.inr (Or.inr (Or.inr ⟨rfl, hv, hkl b hv⟩))
    rcases cl d1 g1 p1 with ⟨a1, a2, a3, a4, a5⟩ | ⟨a1, a2⟩ | ⟨a1, a2, a3, a4⟩ | ⟨a1, a2, a3, a4⟩ <;> rcases cl d2 g2 p2 with ⟨z1, z2, z3, z4, z5⟩ | ⟨z1, z2⟩ | ⟨z1, z2, z3, z4⟩ | ⟨z1, z2, z3, z4⟩
    · exact h.rows.apart d1 d2 a1 z1 hne b a3 z3
    · rcases z2 with ⟨e, _⟩ | e
      · exact a5 e
      · omega
    · omega
    · omega
    · rcases a2 with ⟨e, _⟩ | e
      · exact z5 e
      · omega
    · omega
    · rcases a2 with ⟨_, e⟩ | e <;> omega
    · rcases a2 with ⟨_, e⟩ | e <;> omega
    · omega
    · rcases z2 with ⟨_, e⟩ | e <;> omega
    · omega
    · exact hN.apart b a2 z2
    · omega
    · rcases z2 with ⟨_, e⟩ | e <;> omega
    · exact hN.apart b z2 a2
    · omega
end

section
variable {W W' : World} {B k : Nat} {Z Z' : Nat → Bool} {m : Nat} {O O' : Nat → Int} {D D' : Nat → Nd} {L : Nat → Loc} {lv iv : Value}

theorem OT.turn (h : OT W B k Z m O D L lv iv) {d0 : Nat} (hd0 : d0 < 2 + 2 * m) (hg : W.grownBy W' (valT lv iv D L d0).ownBlock) (hrow : ∀ d, d < 2 + 2 * m → d ≠ d0 → rowT k Z' m O' D' L d = rowT k Z m O D L d) (hval : ∀ d, d < 2 + 2 * m → valT lv iv D' L d = valT lv iv D L d)
    (hown : W'.ownsRow B (rowT k Z' m O' D' L d0).e (rowT k Z' m O' D' L d0).size (valT lv iv D L d0) (rowT k Z' m O' D' L d0).n (rowT k Z' m O' D' L d0).xs) : OT W' B k Z' m O' D' L lv iv := by
  refine ⟨⟨fun d hl => ?_, fun d1 d2 g1 g2 hne b h1 h2 => ?_⟩⟩
  · rw [hval d hl]
    by_cases e : d = d0
    · subst e; exact hown
    · rw [hrow d hl e]
      exact owns_kept (h.rows.own d hl) hg fun b hb => Ne.symm (Ne.symm (h.rows.apart d d0 hl hd0 e b hb))
  · rw [hval d1 g1] at h1
    rw [hval d2 g2] at h2
    exact h.rows.apart d1 d2 g1 g2 hne b h1 h2

/-- The same lengths everywhere: the same addresses. -/
theorem valT_same (hl : ∀ i, i < m → (D' i).nn = (D i).nn ∧ (D' i).kn = (D i).kn) : ∀ d, d < 2 + 2 * m → valT lv iv D' L d = valT lv iv D L d := fun d hd => by
  unfold valT
  by_cases e0 : d = 0
  · rw [if_pos e0, if_pos e0]
  · by_cases e1 : d = 1
    · rw [if_neg e0, if_pos e1, if_neg e0, if_pos e1]
    · rw [if_neg e0, if_neg e1, if_neg e0, if_neg e1, (hl ((d - 2) / 2) (by omega)).1, (hl ((d - 2) / 2) (by omega)).2]

/-- The truth values are others. -/
theorem OT.turnLive (h : OT W B k Z m O D L lv iv) (hg : W.grownBy W' lv.ownBlock) (hown : W'.ownsRow B 4 1 lv k (boolv k Z')) : OT W' B k Z' m O D L lv iv :=
  h.turn (d0 := 0) (by omega) (by simpa [valT] using hg) (fun d hl hne => rowT_rest hne) (fun d hl => rfl) (by simpa [rowT, valT] using hown)

/-- The list of places holds others, of the same lists. -/
theorem OT.turnItems (h : OT W B k Z m O D L lv iv) (hl : ∀ i, i < m → (D' i).nn = (D i).nn ∧ (D' i).kn = (D i).kn ∧ (D' i).names = (D i).names ∧ (D' i).kids = (D i).kids) (hg : W.grownBy W' iv.ownBlock) (hown : W'.ownsRow B 28 5 iv m (rowsT O' D' L m)) : OT W' B k Z m O' D' L lv iv :=
  h.turn (d0 := 1) (by omega) (by simpa [valT] using hg) (fun d hd hne => by
    unfold rowT
    by_cases e0 : d = 0
    · rw [if_pos e0, if_pos e0]
    · obtain ⟨a1, a2, a3, a4⟩ := hl ((d - 2) / 2) (by omega)
      rw [if_neg e0, if_neg hne, if_neg e0, if_neg hne, a1, a2, a3, a4]) (valT_same fun i hi => ⟨(hl i hi).1, (hl i hi).2.1⟩) (by simpa [rowT, valT] using hown)

/-- The names of a place are others. -/
theorem OT.turnNames (h : OT W B k Z m O D L lv iv) {i : Nat} (hi : i < m) (S : Nat → ByteArray) (hg : W.grownBy W' (Value.slice (L i).nA (D i).nn (L i).nc).ownBlock) (hown : W'.ownsRow B 9 1 (.slice (L i).nA (D i).nn (L i).nc) (D i).nn (strv (lst (D i).nn S))) :
    OT W' B k Z m O (fun j => if j = i then { D i with names := S } else D j) L lv iv := by
  have hd : (2 + 2 * i - 2) / 2 = i := by omega
  have hv : valT lv iv D L (2 + 2 * i) = .slice (L i).nA (D i).nn (L i).nc := by unfold valT; rw [if_neg (by omega), if_neg (by omega), if_pos (by omega), hd]
  refine h.turn (d0 := 2 + 2 * i) (by omega) (by rw [hv]; exact hg) (fun d hdl hne => ?_) (valT_same fun j hj => by by_cases e : j = i <;> simp [e]) ?_
  · have hrows : rowsT O (fun j => if j = i then { D i with names := S } else D j) L m = rowsT O D L m := by
      have key : ∀ q, rowsT O (fun j => if j = i then { D i with names := S } else D j) L q = rowsT O D L q := fun q => by
        induction q with
        | zero => rfl
        | succ q ih =>
          rw [rowsT, rowsT, ih]
          by_cases e : q = i
          · subst e; simp [nt5]
          · simp [e]
      exact key m
    unfold rowT
    by_cases e0 : d = 0
    · rw [if_pos e0, if_pos e0]
    · by_cases e1 : d = 1
      · rw [if_neg e0, if_pos e1, if_neg e0, if_pos e1, hrows]
      · rw [if_neg e0, if_neg e1, if_neg e0, if_neg e1]
        by_cases e : (d - 2) / 2 = i
        · have : d % 2 ≠ 0 := by omega
          rw [if_neg this, if_neg this]
          simp [e]
        · simp [e]
  · rw [hv]
    unfold rowT
    rw [if_neg (by omega), if_neg (by omega), if_pos (by omega), hd]
    simpa using hown

/-- The places in a directory are others. -/
theorem OT.turnKids (h : OT W B k Z m O D L lv iv) {i : Nat} (hi : i < m) (K : Nat → Int) (hg : W.grownBy W' (Value.slice (L i).kA (D i).kn (L i).kc).ownBlock) (hown : W'.ownsRow B 3 1 (.slice (L i).kA (D i).kn (L i).kc) (D i).kn (intv0 (D i).kn K)) :
    OT W' B k Z m O (fun j => if j = i then { D i with kids := K } else D j) L lv iv := by
  have hd : (3 + 2 * i - 2) / 2 = i := by omega
  have hv : valT lv iv D L (3 + 2 * i) = .slice (L i).kA (D i).kn (L i).kc := by unfold valT; rw [if_neg (by omega), if_neg (by omega), if_neg (by omega), hd]
  refine h.turn (d0 := 3 + 2 * i) (by omega) (by rw [hv]; exact hg) (fun d hdl hne => ?_) (valT_same fun j hj => by by_cases e : j = i <;> simp [e]) ?_
  · have hrows : rowsT O (fun j => if j = i then { D i with kids := K } else D j) L m = rowsT O D L m := by
      have key : ∀ q, rowsT O (fun j => if j = i then { D i with kids := K } else D j) L q = rowsT O D L q := fun q => by
        induction q with
        | zero => rfl
        | succ q ih =>
          rw [rowsT, rowsT, ih]
          by_cases e : q = i
          · subst e; simp [nt5]
          · simp [e]
      exact key m
    unfold rowT
    by_cases e0 : d = 0
    · rw [if_pos e0, if_pos e0]
    · by_cases e1 : d = 1
      · rw [if_neg e0, if_pos e1, if_neg e0, if_pos e1, hrows]
      · rw [if_neg e0, if_neg e1, if_neg e0, if_neg e1]
        by_cases e : (d - 2) / 2 = i
        · have : d % 2 = 0 := by omega
          rw [if_pos this, if_pos this]
          simp [e]
        · simp [e]
  · rw [hv]
    unfold rowT
    rw [if_neg (by omega), if_neg (by omega), if_neg (by omega), hd]
    simpa using hown
end

section
variable {O O' : Nat → Int} {D D' : Nat → Nd} {L : Nat → Loc}

theorem rowsT_set {m i r : Nat} {u : Value} (hi : i < m) (hr : r < 5) (hx : nt5 (O' i) (D' i) (L i) = (nt5 (O i) (D i) (L i)).set r u) (ho : ∀ j, j < m → j ≠ i → O' j = O j ∧ D' j = D j) : (rowsT O D L m).set (i * 5 + r) u = rowsT O' D' L m := by
  apply List.ext_getElem?
  intro q
  by_cases hq : q < m * 5
  · have h1 := rowsT_get (O := O') (D := D') (L := L) m (q / 5) (by omega) (q % 5) (by omega)
    have h2 := rowsT_get (O := O) (D := D) (L := L) m (q / 5) (by omega) (q % 5) (by omega)
    rw [show q / 5 * 5 + q % 5 = q by omega] at h1 h2
    rw [h1, List.getElem?_set]
    by_cases e : q / 5 = i
    · rw [e, hx, List.getElem?_set]
      by_cases e2 : i * 5 + r = q
      · have e3 : r = q % 5 := by omega
        rw [if_pos e2, if_pos (by rw [rowsT_len]; omega), if_pos e3, if_pos (by simp [nt5]; omega)]
      · have e3 : r ≠ q % 5 := by omega
        rw [if_neg e2, if_neg e3, h2, e]
    · obtain ⟨a1, a2⟩ := ho (q / 5) (by omega) e
      rw [if_neg (by omega), h2, a1, a2]
  · rw [List.getElem?_eq_none (by rw [List.length_set, rowsT_len]; omega), List.getElem?_eq_none (by rw [rowsT_len]; omega)]
end

section
variable {W : World} {B k : Nat} {Z : Nat → Bool} {m : Nat} {O : Nat → Int} {D : Nat → Nd} {L : Nat → Loc} {lv iv : Value} {g ic : Nat}

/-- The cells of a place that was turned. -/
theorem OT.cells (h : OT W B k Z m O D L lv (.slice (some ⟨g, 0, none⟩) m ic)) {i : Nat} (hi : i < m) : W.cell? ⟨g, i * 5, none⟩ = some (.int .i64 (D i).kind) ∧ W.cell? ⟨g, i * 5 + 1, none⟩ = some (.string (D i).text) ∧
    W.cell? ⟨g, i * 5 + 2, none⟩ = some (.slice (L i).nA (D i).nn (L i).nc) ∧ W.cell? ⟨g, i * 5 + 3, none⟩ = some (.slice (L i).kA (D i).kn (L i).kc) ∧ W.cell? ⟨g, i * 5 + 4, none⟩ = some (.int .i64 (D i).turn) := by
  have key : ∀ r, r < 5 → W.cell? ⟨g, i * 5 + r, none⟩ = (nt5 (O i) (D i) (L i))[r]? := fun r hr => by
    rw [h.ownI.cellAt (i * 5 + r) (by omega), rowsT_get m i hi r hr]
  exact ⟨key 0 (by omega), key 1 (by omega), key 2 (by omega), key 3 (by omega), key 4 (by omega)⟩

theorem OT.free (h : OT W B k Z m O D L lv (.slice (some ⟨g, 0, none⟩) m ic)) (j : Nat) : W.frozen? ⟨g, j, none⟩ = false := h.ownI.frozenAt j

theorem OT.putKind (h : OT W B k Z m O D L lv (.slice (some ⟨g, 0, none⟩) m ic)) {i : Nat} (hi : i < m) (z : Int) : OT (W.setCell ⟨g, i * 5, none⟩ (.int .i64 z)) B k Z m O (fun j => if j = i then { D i with kind := z } else D j) L lv (.slice (some ⟨g, 0, none⟩) m ic) := by
  obtain ⟨h1, h2⟩ := h.ownI.stored (i * 5 + 0) (.int .i64 z)
  rw [rowsT_set (O' := O) (D' := fun j => if j = i then { D i with kind := z } else D j) hi (by omega) (by simp [nt5]) (fun j hj e => by simp [e])] at h1
  exact h.turnItems (fun j hj => by by_cases e : j = i <;> simp [e]) h2 h1

theorem OT.putText (h : OT W B k Z m O D L lv (.slice (some ⟨g, 0, none⟩) m ic)) {i : Nat} (hi : i < m) (s : ByteArray) : OT (W.setCell ⟨g, i * 5 + 1, none⟩ (.string s)) B k Z m O (fun j => if j = i then { D i with text := s } else D j) L lv (.slice (some ⟨g, 0, none⟩) m ic) := by
  obtain ⟨h1, h2⟩ := h.ownI.stored (i * 5 + 1) (.string s)
  rw [rowsT_set (O' := O) (D' := fun j => if j = i then { D i with text := s } else D j) hi (by omega) (by simp [nt5]) (fun j hj e => by simp [e])] at h1
  exact h.turnItems (fun j hj => by by_cases e : j = i <;> simp [e]) h2 h1

theorem OT.putTurn (h : OT W B k Z m O D L lv (.slice (some ⟨g, 0, none⟩) m ic)) {i : Nat} (hi : i < m) (z : Int) : OT (W.setCell ⟨g, i * 5 + 4, none⟩ (.int .i64 z)) B k Z m O (fun j => if j = i then { D i with turn := z } else D j) L lv (.slice (some ⟨g, 0, none⟩) m ic) := by
  obtain ⟨h1, h2⟩ := h.ownI.stored (i * 5 + 4) (.int .i64 z)
  rw [rowsT_set (O' := O) (D' := fun j => if j = i then { D i with turn := z } else D j) hi (by omega) (by simp [nt5]) (fun j hj e => by simp [e])] at h1
  exact h.turnItems (fun j hj => by by_cases e : j = i <;> simp [e]) h2 h1

theorem OT.ownN (h : OT W B k Z m O D L lv iv) {i : Nat} (hi : i < m) : W.ownsRow B 9 1 (.slice (L i).nA (D i).nn (L i).nc) (D i).nn (strv (lst (D i).nn (D i).names)) := by
  have hd : (2 + 2 * i - 2) / 2 = i := by omega
  have := h.rows.own (2 + 2 * i) (by omega)
  unfold rowT valT at this
  rw [if_neg (by omega), if_neg (by omega), if_pos (by omega), if_neg (by omega), if_neg (by omega), if_pos (by omega), hd] at this
  exact this

theorem OT.ownK (h : OT W B k Z m O D L lv iv) {i : Nat} (hi : i < m) : W.ownsRow B 3 1 (.slice (L i).kA (D i).kn (L i).kc) (D i).kn (intv0 (D i).kn (D i).kids) := by
  have hd : (3 + 2 * i - 2) / 2 = i := by omega
  have := h.rows.own (3 + 2 * i) (by omega)
  unfold rowT valT at this
  rw [if_neg (by omega), if_neg (by omega), if_neg (by omega), if_neg (by omega), if_neg (by omega), if_neg (by omega), hd] at this
  exact this
end


end Go.Proofs.YtakifcobofkheabGreatDoor

/-
  What the small helpers of the exact laws do at a list of texts that lies in memory: szStringS counts it, toStringS makes a copy of it, eqStringS holds two of them against each other.
-/
namespace Go.Proofs.YtakifcobofkheabGreatDoor
open Go.RowKit
set_option linter.unusedVariables false

set_option maxHeartbeats 400000 in
theorem szStringS_any (a : Option Addr) (n c : Nat) (S : Nat → ByteArray) (left : Int) (w : World) (hS : IsStrs w a n S) (hm : Small n S) (hn : n ≤ maxLen) (h0 : 0 ≤ left) (h1 : left ≤ 1048576) :
    Calls Tryz.prog 6 #[.slice a n c, .int .i64 left] w fun e w' => w = w' ∧ ∃ r : Int, e = .returned (.int .i64 r) ∧ r ≤ left ∧ (0 ≤ r → r + n + sumTo S n ≤ left) := by
  unfold maxLen at hn
  by_cases hbig : left < n
  · go_enter Tryz.func6, Tryz.ntmps6
    go_wp2
    go_ret
    exact ⟨rfl, -1, rfl, by omega, fun h => by omega⟩
  · go_enter Tryz.func6, Tryz.ntmps6
    go_wp2
    go_loop [1, 5] (fun l i => ∃ (k : Nat) (r : Int), k ≤ n ∧ 0 ≤ r ∧ i = .int .i64 k ∧ l = .int .i64 r ∧ r + n + sumTo S k = left) (fun _ i => n - (intOf i).toNat)
    case atStart => exact ⟨0, left - n, Nat.zero_le _, by omega, rfl, rfl, by simp [sumTo]⟩
    case round =>
      obtain ⟨k, r, hk, hr, rfl, rfl, hsum⟩ := hrel
      by_cases hlt : k < n
      · obtain ⟨b, off, rfl, hlt2, hc⟩ := hS.at hlt
        have hck := hc k hlt
        have hmk := hm k hlt
        have hss := sumTo_succ S k
        have HS : Hid (sumTo S (k + 1) = sumTo S k + (S k).size) := hss
        have HM : Hid (r + n + sumTo S k = left) := hsum
        unfold maxLen at hmk
        have hr2 : r ≤ 1048576 := by omega
        clear hc hss hsum
        go_wp2
        · go_ret
          exact ⟨rfl, -1, rfl, by omega, fun h => by omega⟩
        · go_round
          case rel => exact ⟨k + 1, r - (S k).size, by omega, by omega, by go_num, by go_num, by have e1 := HS.out; have e2 := HM.out; omega⟩
          case measure => simp [intOf]; omega
      · go_wp2
        go_ret
        exact ⟨rfl, r, rfl, by omega, fun _ => by have : k = n := by omega
                                                  subst this; omega⟩


theorem copy_step (S : Nat → ByteArray) (i k : Nat) : (if i = k then Value.string (S k) else if i < k then .string (S i) else .string ByteArray.empty) = if i < k + 1 then .string (S i) else .string ByteArray.empty := by
  by_cases h : i = k
  · subst h; simp
  · by_cases h2 : i < k
    · simp [h, h2, show i < k + 1 by omega]
    · simp [h, h2, show ¬ i < k + 1 by omega]

set_option maxHeartbeats 400000 in
theorem toStringS_any (a : Option Addr) (n c : Nat) (S : Nat → ByteArray) (w : World) (hS : IsStrs w a n S) (hn : n ≤ 1048576) :
    Calls Tryz.prog 9 #[.slice a n c] w fun e w' => e = .returned (.slice (some ⟨w.heap.size, 0, none⟩) n n) ∧ Below w.heap.size w w' ∧ w'.rowIs w.heap.size 9 n (fun i => .string (S i)) := by
  have hmk := fun w => run_make_row' (P := Tryz.prog) 23 9 (.string ByteArray.empty) 16 Tryz.underlying23 infoStr rfl .i64 .i64 n (by omega) (by omega) w
  go_enter Tryz.func9, Tryz.ntmps9
  go_wp2
  go_loopw [4] (fun i wr => ∃ k : Nat, k ≤ n ∧ i = .int .i64 k ∧ Below w.heap.size w wr ∧ wr.rowIs w.heap.size 9 n (fun j => if j < k then .string (S j) else .string ByteArray.empty)) (fun i _ => n - (intOf i).toNat)
  case atStart => exact ⟨0, Nat.zero_le _, rfl, (Below.refl _ _).alloc (Nat.le_refl _) _, (World.rowIs_made w (.string ByteArray.empty) n 9).congr (fun i _ => by simp)⟩
  case round =>
    obtain ⟨k, hk, rfl, hb, hrow⟩ := hrel
    by_cases hlt : k < n
    · obtain ⟨b, off, rfl, hlt2, hc⟩ := hS.at hlt
      have hck : wr.cell? ⟨b, off + k, none⟩ = some (.string (S k)) := by rw [hb.cell (p := ⟨b, off + k, none⟩) hlt2]; exact hc k hlt
      have hcr := hrow.cell hlt
      have hfr := hrow.frozen k
      have HB : Hid (Below w.heap.size w wr) := hb
      have HR : Hid (wr.rowIs w.heap.size 9 n (fun j => if j < k then .string (S j) else .string ByteArray.empty)) := hrow
      clear hc hb hrow
      go_wp2
      go_roundw
      case rel => exact ⟨k + 1, by omega, by go_num, HB.out.setCell (Nat.le_refl _) _, (HR.out.set k (.string (S k))).congr (fun i _ => copy_step S i k)⟩
      case measure => simp [intOf]; omega
    · have HB : Hid (Below w.heap.size w wr) := hb
      have HR : Hid (wr.rowIs w.heap.size 9 n (fun j => if j < k then .string (S j) else .string ByteArray.empty)) := hrow
      clear hb hrow
      go_wp2
      go_ret
      exact ⟨rfl, HB.out, HR.out.congr (fun i hi => by simp [show i < k by omega])⟩

set_option maxHeartbeats 400000 in
theorem eqStringS_any (a a' : Option Addr) (n c m c' : Nat) (S T : Nat → ByteArray) (w : World) (hS : IsStrs w a n S) (hT : IsStrs w a' m T) (hn : n ≤ maxLen) (hm : m ≤ maxLen) :
    Calls Tryz.prog 13 #[.slice a n c, .slice a' m c'] w fun e w' => (∃ q, w' = w.drewN q) ∧ e = .returned (.bool (decide (n = m) && eqS n S T)) := by
  unfold maxLen at hn hm
  by_cases hne : n = m
  · subst hne
    have hb : ((n : Int) != (n : Int)) = false := by simp
    go_enter Tryz.func13, Tryz.ntmps13
    go_wp2
    go_loopw [5] (fun i wr => ∃ k q : Nat, k ≤ n ∧ i = .int .i64 k ∧ wr = w.drewN q ∧ eqS k S T = true) (fun i _ => n - (intOf i).toNat)
    case atStart => exact ⟨0, 0, Nat.zero_le _, rfl, rfl, rfl⟩
    case round =>
      obtain ⟨k, q, hk, rfl, rfl, heq⟩ := hrel
      have HE : Hid (eqS k S T = true) := heq
      clear heq
      by_cases hlt : k < n
      · obtain ⟨b, off, rfl, hlt2, hc⟩ := hS.at hlt
        obtain ⟨b', off', rfl, hlt2', hc'⟩ := hT.at hlt
        have h1 := hc k hlt
        have h2 := hc' k hlt
        have hlti : (k : Int) < (n : Int) := by omega
        clear hc hc'
        go_wp2
        go_quiet (fail)
        go_wp2
        · go_ret
          exact ⟨⟨q + nq, by simp⟩, ret_bool (by rw [← eqS_not n k S T hlt ‹_›]; simp)⟩
        · go_roundw
          case rel => exact ⟨k + 1, q + nq, by omega, by go_num, rfl, eqS_succ k S T HE.out ‹_›⟩
          case measure => simp [intOf]; omega
      · have hkn : k = n := by omega
        have HK : Hid (k = n) := hkn
        clear hkn
        go_wp2
        go_ret
        exact ⟨⟨q, rfl⟩, ret_bool (by rw [← HK.out, HE.out]; simp)⟩
  · have hb : ((n : Int) != (m : Int)) = true := by simp; omega
    go_enter Tryz.func13, Tryz.ntmps13
    go_wp2
    go_ret
    exact ⟨⟨0, rfl⟩, ret_bool (by simp [hne])⟩

end Go.Proofs.YtakifcobofkheabGreatDoor

/-
  What the small helpers of the exact laws do at a list of numbers that lies in memory: szIntS counts it, toIntS makes a copy of it, eqIntS holds two of them against each other.
-/
namespace Go.Proofs.YtakifcobofkheabGreatDoor
open Go.RowKit
set_option linter.unusedVariables false

set_option maxHeartbeats 400000 in
theorem szIntS_any (a : Option Addr) (n c : Nat) (left : Int) (w : World) (hn : n ≤ maxLen) (h0 : 0 ≤ left) (h1 : left ≤ 1048576) :
    Calls Tryz.prog 109 #[.slice a n c, .int .i64 left] w fun e w' => w = w' ∧ ∃ r : Int, e = .returned (.int .i64 r) ∧ r ≤ left ∧ (0 ≤ r → r + n ≤ left) := by
  unfold maxLen at hn
  go_enter Tryz.func109, Tryz.ntmps109
  go_wp2
  · go_ret
    exact ⟨rfl, -1, rfl, by omega, fun h => by omega⟩
  · go_ret
    exact ⟨rfl, left - n, rfl, by omega, fun h => by omega⟩

theorem copyZ_step (Z : Nat → Int) (i k : Nat) : (if i = k then Value.int .i64 (Z k) else if i < k then .int .i64 (Z i) else .int .i64 0) = if i < k + 1 then .int .i64 (Z i) else .int .i64 0 := by
  by_cases h : i = k
  · subst h; simp
  · by_cases h2 : i < k
    · simp [h, h2, show i < k + 1 by omega]
    · simp [h, h2, show ¬ i < k + 1 by omega]

set_option maxHeartbeats 400000 in
theorem toIntS_any (a : Option Addr) (n c : Nat) (Z : Nat → Int) (w : World) (hS : IsInts w a n Z) (hn : n ≤ 1048576) :
    Calls Tryz.prog 111 #[.slice a n c] w fun e w' => e = .returned (.slice (some ⟨w.heap.size, 0, none⟩) n n) ∧ Below w.heap.size w w' ∧ w'.rowIs w.heap.size 3 n (fun i => .int .i64 (Z i)) := by
  have hmk := fun w => run_make_row' (P := Tryz.prog) 26 3 (.int .i64 0) 8 Tryz.underlying26 infoInt rfl .i64 .i64 n (by omega) (by omega) w
  go_enter Tryz.func111, Tryz.ntmps111
  go_wp2
  go_loopw [4] (fun i wr => ∃ k : Nat, k ≤ n ∧ i = .int .i64 k ∧ Below w.heap.size w wr ∧ wr.rowIs w.heap.size 3 n (fun j => if j < k then .int .i64 (Z j) else .int .i64 0)) (fun i _ => n - (intOf i).toNat)
  case atStart => exact ⟨0, Nat.zero_le _, rfl, (Below.refl _ _).alloc (Nat.le_refl _) _, (World.rowIs_made w (.int .i64 0) n 3).congr (fun i _ => by simp)⟩
  case round =>
    obtain ⟨k, hk, rfl, hb, hrow⟩ := hrel
    by_cases hlt : k < n
    · obtain ⟨b, off, rfl, hlt2, hc⟩ := hS.at hlt
      have hck : wr.cell? ⟨b, off + k, none⟩ = some (.int .i64 (Z k)) := by rw [hb.cell (p := ⟨b, off + k, none⟩) hlt2]; exact hc k hlt
      have hcr := hrow.cell hlt
      have hfr := hrow.frozen k
      have HB : Hid (Below w.heap.size w wr) := hb
      have HR : Hid (wr.rowIs w.heap.size 3 n (fun j => if j < k then .int .i64 (Z j) else .int .i64 0)) := hrow
      clear hc hb hrow
      go_wp2
      go_roundw
      case rel => exact ⟨k + 1, by omega, by go_num, HB.out.setCell (Nat.le_refl _) _, (HR.out.set k (.int .i64 (Z k))).congr (fun i _ => copyZ_step Z i k)⟩
      case measure => simp [intOf]; omega
    · have HB : Hid (Below w.heap.size w wr) := hb
      have HR : Hid (wr.rowIs w.heap.size 3 n (fun j => if j < k then .int .i64 (Z j) else .int .i64 0)) := hrow
      clear hb hrow
      go_wp2
      go_ret
      exact ⟨rfl, HB.out, HR.out.congr (fun i hi => by simp [show i < k by omega])⟩

set_option maxHeartbeats 400000 in
theorem eqIntS_any (a a' : Option Addr) (n c m c' : Nat) (Z Y : Nat → Int) (w : World) (hS : IsInts w a n Z) (hT : IsInts w a' m Y) (hn : n ≤ maxLen) (hm : m ≤ maxLen) :
    Calls Tryz.prog 34 #[.slice a n c, .slice a' m c'] w fun e w' => (∃ q, w' = w.drewN q) ∧ e = .returned (.bool (decide (n = m) && eqZ n Z Y)) := by
  unfold maxLen at hn hm
  by_cases hne : n = m
  · subst hne
    have hb : ((n : Int) != (n : Int)) = false := by simp
    go_enter Tryz.func34, Tryz.ntmps34
    go_wp2
    go_loopw [5] (fun i wr => ∃ k q : Nat, k ≤ n ∧ i = .int .i64 k ∧ wr = w.drewN q ∧ eqZ k Z Y = true) (fun i _ => n - (intOf i).toNat)
    case atStart => exact ⟨0, 0, Nat.zero_le _, rfl, rfl, rfl⟩
    case round =>
      obtain ⟨k, q, hk, rfl, rfl, heq⟩ := hrel
      have HE : Hid (eqZ k Z Y = true) := heq
      clear heq
      by_cases hlt : k < n
      · obtain ⟨b, off, rfl, hlt2, hc⟩ := hS.at hlt
        obtain ⟨b', off', rfl, hlt2', hc'⟩ := hT.at hlt
        have h1 := hc k hlt
        have h2 := hc' k hlt
        have hlti : (k : Int) < (n : Int) := by omega
        clear hc hc'
        by_cases hzy : Z k = Y k
        · have hzb : (Z k != Y k) = false := by simp [hzy]
          have HZ : Hid (Z k = Y k) := hzy
          clear hzy
          go_wp2
          go_quiet (fail)
          go_wp2
          go_roundw
          case rel => exact ⟨k + 1, q + nq, by omega, by go_num, rfl, eqZ_succ k Z Y HE.out HZ.out⟩
          case measure => simp [intOf]; omega
        · have hzb : (Z k != Y k) = true := by simp [hzy]
          have HZ : Hid (¬ Z k = Y k) := hzy
          clear hzy
          go_wp2
          go_quiet (fail)
          go_wp2
          go_ret
          exact ⟨⟨q + nq, by simp⟩, ret_bool (by rw [← eqZ_not n k Z Y hlt HZ.out]; simp)⟩
      · have hkn : k = n := by omega
        have HK : Hid (k = n) := hkn
        clear hkn
        go_wp2
        go_ret
        exact ⟨⟨q, rfl⟩, ret_bool (by rw [← HK.out, HE.out]; simp)⟩
  · have hb : ((n : Int) != (m : Int)) = true := by simp; omega
    go_enter Tryz.func34, Tryz.ntmps34
    go_wp2
    go_ret
    exact ⟨⟨0, rfl⟩, ret_bool (by simp [hne])⟩

end Go.Proofs.YtakifcobofkheabGreatDoor

/-
  What the small helpers of the exact laws do at a place of a tree and at a list of them.
-/
namespace Go.Proofs.YtakifcobofkheabGreatDoor
open Go.RowKit
set_option linter.unusedVariables false

set_option maxHeartbeats 400000 in
theorem szNode_any (d : Nd) (l : Loc) (left : Int) (w : World) (hI : NdIn w d l) (hf : d.Fits) (h0 : 0 ≤ left) (h1 : left ≤ 1048576) :
    Calls Tryz.prog 85 #[ndV d l, .int .i64 left] w fun e w' => Below w.heap.size w w' ∧ ∃ r : Int, e = .returned (.int .i64 r) ∧ r ≤ left ∧ (0 ≤ r → r + d.size ≤ left) := by
  unfold ndV Nd.size
  have ht := hf.text
  unfold maxLen at ht
  by_cases hbig : left < d.text.size
  · go_enter Tryz.func85, Tryz.ntmps85
    go_wp2
    go_ret
    exact ⟨(Below.refl _ _).alloc (Nat.le_refl _) _, -1, rfl, by omega, fun h => by omega⟩
  · go_enter Tryz.func85, Tryz.ntmps85
    go_wp2_with fail
    refine (szStringS_any l.nA d.nn l.nc d.names _ _ (hI.1.below (Nat.le_refl _) ((Below.refl _ _).alloc (Nat.le_refl _) _)) hf.names hf.nn (by omega) (by omega)).mono ?_
    rintro e w0 ⟨rfl, r, rfl, hr1, hr2⟩
    by_cases hr : r < 0
    · go_wp2
      go_ret
      exact ⟨(Below.refl _ _).alloc (Nat.le_refl _) _, -1, rfl, by omega, fun h => by omega⟩
    · have hr' : decide (r < 0) = false := by simp; omega
      have HR := hr2 (by omega)
      clear hr2
      go_wp2_with fail
      refine (szIntS_any l.kA d.kn l.kc _ _ hf.kn (by omega) (by omega)).mono ?_
      rintro e w0 ⟨rfl, r', rfl, hr1', hr2'⟩
      by_cases hr3 : r' < 0
      · go_wp2
        go_ret
        exact ⟨(Below.refl _ _).alloc (Nat.le_refl _) _, -1, rfl, by omega, fun h => by omega⟩
      · have hr3' : decide (r' < 0) = false := by simp; omega
        have HR' := hr2' (by omega)
        clear hr2'
        go_wp2
        go_ret
        exact ⟨(Below.refl _ _).alloc (Nat.le_refl _) _, r', rfl, by omega, fun h => by omega⟩

theorem toStringS_at (a : Option Addr) (n c : Nat) (S : Nat → ByteArray) (w : World) (hS : IsStrs w a n S) (hn : n ≤ 1048576) :
    Calls Tryz.prog 9 #[.slice a n c] w fun e w' => ∃ b, e = .returned (.slice (some ⟨b, 0, none⟩) n n) ∧ w.heap.size ≤ b ∧ b < w'.heap.size ∧ Below w.heap.size w w' ∧ IsStrs w' (some ⟨b, 0, none⟩) n S :=
  (toStringS_any a n c S w hS hn).mono fun e w' ⟨he, hb, hr⟩ => ⟨_, he, Nat.le_refl _, hr.lt, hb, IsStrs.row hr⟩

theorem toIntS_at (a : Option Addr) (n c : Nat) (Z : Nat → Int) (w : World) (hS : IsInts w a n Z) (hn : n ≤ 1048576) :
    Calls Tryz.prog 111 #[.slice a n c] w fun e w' => ∃ b, e = .returned (.slice (some ⟨b, 0, none⟩) n n) ∧ w.heap.size ≤ b ∧ b < w'.heap.size ∧ Below w.heap.size w w' ∧ IsInts w' (some ⟨b, 0, none⟩) n Z :=
  (toIntS_any a n c Z w hS hn).mono fun e w' ⟨he, hb, hr⟩ => ⟨_, he, Nat.le_refl _, hr.lt, hb, IsInts.row hr⟩

/-- What is known within toNode, the names being copied. -/
structure Node2 (w : World) (d : Nd) (l : Loc) (b : Nat) (W : World) : Prop where
  p : Blk W w.heap.size #[.int .i64 d.kind, .string d.text, .slice l.nA d.nn l.nc, .slice l.kA d.kn l.kc, .int .i64 d.turn] 103
  r : Blk W (w.heap.size + 1) #[.int .i64 0, .string ByteArray.empty, .slice none 0 0, .slice none 0 0, .int .i64 0] 28
  o : Blk W (w.heap.size + 1 + 1) #[.int .i64 d.kind, .string d.text, .slice (some ⟨b, 0, none⟩) d.nn d.nn, .slice none 0 0, .int .i64 0] 28
  bel : Below w.heap.size w W
  size : w.heap.size + 3 ≤ W.heap.size
  le : w.heap.size + 3 ≤ b
  lt : b < W.heap.size
  names : IsStrs W (some ⟨b, 0, none⟩) d.nn d.names

/-- What is known at toNode's end. -/
structure NodeEnd (w : World) (d : Nd) (b b' : Nat) (W : World) : Prop where
  r : Blk W (w.heap.size + 1) #[.int .i64 d.kind, .string d.text, .slice (some ⟨b, 0, none⟩) d.nn d.nn, .slice (some ⟨b', 0, none⟩) d.kn d.kn, .int .i64 d.turn] 28
  bel : Below w.heap.size w W
  names : IsStrs W (some ⟨b, 0, none⟩) d.nn d.names
  kids : IsInts W (some ⟨b', 0, none⟩) d.kn d.kids

set_option maxHeartbeats 1000000 in
theorem toNode_any (d : Nd) (l : Loc) (w : World) (hI : NdIn w d l) (hn : d.nn ≤ 1048576) (hk : d.kn ≤ 1048576) :
    Calls Tryz.prog 91 #[ndV d l] w fun e w' => ∃ l', e = .returned (ndV d l') ∧ Below w.heap.size w w' ∧ NdIn w' d l' ∧ l'.Past w.heap.size := by
  unfold ndV
  go_enter Tryz.func91, Tryz.ntmps91
  go_wp2_with fail
  refine at_world (F := New3 w _ _ _ _ _ _) (new3 w _ _ _ _ _ _) ?_
  rintro W ⟨hp, hr, ho, hb0, hs0⟩
  refine (toStringS_at l.nA d.nn l.nc d.names _ (hI.1.below (Nat.le_refl _) hb0) hn).mono ?_
  rintro e w1 ⟨b, rfl, hge, hlt, hb1, hS1⟩
  have hp1 := hp.below hb1 (by omega)
  have hr1 := hr.below hb1 (by omega)
  have ho1 := ho.below hb1 (by omega)
  have hk1 := (hI.2.below (Nat.le_refl _) hb0).below (Nat.le_refl _) hb1
  have hB1 := hb0.trans (hb1.mono (by omega))
  have o2 : w1.cell? ⟨w.heap.size + 1 + 1, 2, none⟩ = some (.slice none 0 0) := ho1.cell 2
  have f2 := ho1.frozen 2
  have p3 : w1.cell? ⟨w.heap.size, 3, none⟩ = some (.slice l.kA d.kn l.kc) := hp1.cell 3
  have hsz1 := hb1.size
  have F2 : Hid (Node2 w d l b _) := ⟨hp1.off (b' := w.heap.size + 1 + 1) (i := 2) (.slice (some ⟨b, 0, none⟩) d.nn d.nn) (by omega), hr1.off _ (by omega), ho1.set 2 _, bel_put hB1 _ (by omega), by simp; omega, by omega, by simp; omega, hS1.off _ (by omega)⟩
  clear hp hr ho hb0 hb1 hp1 hr1 ho1 hk1 hB1 hS1
  go_wp2_with fail
  refine at_world (F := Node2 w d l b) F2.out ?_
  clear F2 hge hlt f2 o2 p3 hs0 hsz1
  rintro W ⟨hp, hr, ho, hb0, hs0, hlb, hbl, hS⟩
  refine (toIntS_at l.kA d.kn l.kc d.kids _ (hI.2.below (Nat.le_refl _) hb0) hk).mono ?_
  rintro e w2 ⟨b', rfl, hge, hlt, hb1, hZ⟩
  have hp1 := hp.below hb1 (by omega)
  have hr1 := hr.below hb1 (by omega)
  have ho1 := ho.below hb1 (by omega)
  have hB1 := hb0.trans (hb1.mono (by omega))
  have hS1 := hS.below (Nat.le_refl _) hb1
  have hsz := hb1.size
  have o0 : w2.cell? ⟨w.heap.size + 1 + 1, 0, none⟩ = some (.int .i64 d.kind) := ho1.cell 0
  have o1 : w2.cell? ⟨w.heap.size + 1 + 1, 1, none⟩ = some (.string d.text) := ho1.cell 1
  have o2 : w2.cell? ⟨w.heap.size + 1 + 1, 2, none⟩ = some (.slice (some ⟨b, 0, none⟩) d.nn d.nn) := ho1.cell 2
  have o3 : w2.cell? ⟨w.heap.size + 1 + 1, 3, none⟩ = some (.slice none 0 0) := ho1.cell 3
  have o4 : w2.cell? ⟨w.heap.size + 1 + 1, 4, none⟩ = some (.int .i64 0) := ho1.cell 4
  have f3 := ho1.frozen 3
  have f4 := ho1.frozen 4
  have p4 : w2.cell? ⟨w.heap.size, 4, none⟩ = some (.int .i64 d.turn) := hp1.cell 4
  have r0 : w2.cell? ⟨w.heap.size + 1, 0, none⟩ = some (.int .i64 0) := hr1.cell 0
  have r1 : w2.cell? ⟨w.heap.size + 1, 1, none⟩ = some (.string ByteArray.empty) := hr1.cell 1
  have r2 : w2.cell? ⟨w.heap.size + 1, 2, none⟩ = some (.slice none 0 0) := hr1.cell 2
  have r3 : w2.cell? ⟨w.heap.size + 1, 3, none⟩ = some (.slice none 0 0) := hr1.cell 3
  have r4 : w2.cell? ⟨w.heap.size + 1, 4, none⟩ = some (.int .i64 0) := hr1.cell 4
  have g0 := hr1.frozen 0
  have g1 := hr1.frozen 1
  have g2 := hr1.frozen 2
  have g3 := hr1.frozen 3
  have g4 := hr1.frozen 4
  have FB : Hid (Blk w2 (w.heap.size + 1) _ _ ∧ Below w.heap.size w w2 ∧ IsStrs w2 (some ⟨b, 0, none⟩) d.nn d.names ∧ IsInts w2 (some ⟨b', 0, none⟩) d.kn d.kids) := ⟨hr1, hB1, hS1, hZ⟩
  clear hp hr ho hb0 hb1 hp1 hr1 ho1 hB1 hS1 hZ hS
  go_wp2_with fail
  obtain ⟨hr, hB, hS, hZ⟩ := FB.out
  refine end_world (F := NodeEnd w d b b')
    ⟨((((((hr.off _ (by omega)).off _ (by omega)).set 0 _).set 1 _).set 2 _).set 3 _).set 4 _,
     bel_put (bel_put (bel_put (bel_put (bel_put (bel_put (bel_put hB _ (by omega)) _ (by omega)) _ (by omega)) _ (by omega)) _ (by omega)) _ (by omega)) _ (by omega),
     ((((((hS.off _ (by omega)).off _ (by omega)).off _ (by omega)).off _ (by omega)).off _ (by omega)).off _ (by omega)).off _ (by omega),
     ((((((hZ.off _ (by omega)).off _ (by omega)).off _ (by omega)).off _ (by omega)).off _ (by omega)).off _ (by omega)).off _ (by omega)⟩ ?_
  clear hr hB hS hZ FB o0 o1 o2 o3 o4 f3 f4 p4 r0 r1 r2 r3 r4 g0 g1 g2 g3 g4
  rintro W ⟨hr, hB, hS, hZ⟩
  have r0 : W.cell? ⟨w.heap.size + 1, 0, none⟩ = some (.int .i64 d.kind) := hr.cell 0
  have r1 : W.cell? ⟨w.heap.size + 1, 1, none⟩ = some (.string d.text) := hr.cell 1
  have r2 : W.cell? ⟨w.heap.size + 1, 2, none⟩ = some (.slice (some ⟨b, 0, none⟩) d.nn d.nn) := hr.cell 2
  have r3 : W.cell? ⟨w.heap.size + 1, 3, none⟩ = some (.slice (some ⟨b', 0, none⟩) d.kn d.kn) := hr.cell 3
  have r4 : W.cell? ⟨w.heap.size + 1, 4, none⟩ = some (.int .i64 d.turn) := hr.cell 4
  exact bodyPost_ret (v := .agg #[.int .i64 d.kind, .string d.text, .slice (some ⟨b, 0, none⟩) d.nn d.nn, .slice (some ⟨b', 0, none⟩) d.kn d.kn, .int .i64 d.turn]) (by simp [results, Tryz.results91, go_sem, r0, r1, r2, r3, r4]) rfl ⟨⟨some ⟨b, 0, none⟩, d.nn, some ⟨b', 0, none⟩, d.kn⟩, rfl, hB, ⟨hS, hZ⟩, ⟨b, 0, rfl, by omega⟩, b', 0, rfl, by omega⟩
end Go.Proofs.YtakifcobofkheabGreatDoor

/-
  What the small helpers of the exact laws do at a list of places.
-/
namespace Go.Proofs.YtakifcobofkheabGreatDoor
open Go.RowKit
set_option linter.unusedVariables false
set_option linter.unusedSimpArgs false

/-- n places lie in a block of their own, so many of them laid. -/
structure NdRow (w : World) (b n k : Nat) (D : Nat → Nd) (L : Nat → Loc) : Prop where
  row : ∃ g, w.rowIs b 28 (n * 5) g ∧ ∀ i, i < k → g (i * 5) = .int .i64 (D i).kind ∧ g (i * 5 + 1) = .string (D i).text ∧ g (i * 5 + 2) = .slice (L i).nA (D i).nn (L i).nc ∧ g (i * 5 + 3) = .slice (L i).kA (D i).kn (L i).kc ∧ g (i * 5 + 4) = .int .i64 (D i).turn
  lists : ∀ i, i < k → NdIn w (D i) (L i) ∧ (L i).Past (b + 1)

theorem NdRow.nds {w : World} {b n : Nat} {D : Nat → Nd} {L : Nat → Loc} (h : NdRow w b n n D L) : IsNds w (some ⟨b, 0, none⟩) n D L := by
  obtain ⟨⟨g, hr, hg⟩, hl⟩ := h
  refine Or.inr ⟨b, 0, rfl, hr.lt, fun i hi => ?_⟩
  obtain ⟨g0, g1, g2, g3, g4⟩ := hg i hi
  rw [Nat.zero_add, ← g0, ← g1, ← g2, ← g3, ← g4]
  exact ⟨hr.cell (by omega), hr.cell (by omega), hr.cell (by omega), hr.cell (by omega), hr.cell (by omega), (hl i hi).1⟩

theorem NdRow.below {w w' : World} {b n k : Nat} {D : Nat → Nd} {L : Nat → Loc} (h : NdRow w b n k D L) {B : Nat} (hB : w.heap.size ≤ B) (hb : Below B w w') : NdRow w' b n k D L := by
  obtain ⟨⟨g, hr, hg⟩, hl⟩ := h
  have := hr.lt
  exact ⟨⟨g, rowIs_below hr hb (by omega), hg⟩, fun i hi => ⟨(hl i hi).1.below hB hb, (hl i hi).2⟩⟩

theorem NdRow.step {w : World} {b n k : Nat} {D : Nat → Nd} {L : Nat → Loc} (h : NdRow w b n k D L) {l : Loc} (hI : NdIn w (D k) l) (hp : l.Past (b + 1)) :
    NdRow (((((w.setCell ⟨b, k * 5, none⟩ (.int .i64 (D k).kind)).setCell ⟨b, k * 5 + 1, none⟩ (.string (D k).text)).setCell ⟨b, k * 5 + 2, none⟩ (.slice l.nA (D k).nn l.nc)).setCell ⟨b, k * 5 + 3, none⟩ (.slice l.kA (D k).kn l.kc)).setCell ⟨b, k * 5 + 4, none⟩ (.int .i64 (D k).turn)) b n (k + 1) D (fun i => if i = k then l else L i) := by
  obtain ⟨⟨g, hr, hg⟩, hl⟩ := h
  refine ⟨⟨_, ((((hr.set _ _).set _ _).set _ _).set _ _).set _ _, fun i hi => ?_⟩, fun i hi => ?_⟩
  · by_cases e : i = k
    · subst e
      simp
    · have := hg i (by omega)
      simp only [if_neg e]
      simp [show ¬ i * 5 = k * 5 by omega, show ¬ i * 5 = k * 5 + 1 by omega, show ¬ i * 5 = k * 5 + 2 by omega, show ¬ i * 5 = k * 5 + 3 by omega, show ¬ i * 5 = k * 5 + 4 by omega,
        show ¬ i * 5 + 1 = k * 5 by omega, show ¬ i * 5 + 1 = k * 5 + 2 by omega, show ¬ i * 5 + 1 = k * 5 + 3 by omega, show ¬ i * 5 + 1 = k * 5 + 4 by omega,
        show ¬ i * 5 + 2 = k * 5 by omega, show ¬ i * 5 + 2 = k * 5 + 1 by omega, show ¬ i * 5 + 2 = k * 5 + 3 by omega, show ¬ i * 5 + 2 = k * 5 + 4 by omega,
        show ¬ i * 5 + 3 = k * 5 by omega, show ¬ i * 5 + 3 = k * 5 + 1 by omega, show ¬ i * 5 + 3 = k * 5 + 2 by omega, show ¬ i * 5 + 3 = k * 5 + 4 by omega,
        show ¬ i * 5 + 4 = k * 5 by omega, show ¬ i * 5 + 4 = k * 5 + 1 by omega, show ¬ i * 5 + 4 = k * 5 + 2 by omega, show ¬ i * 5 + 4 = k * 5 + 3 by omega, e]
      exact this
  · by_cases e : i = k
    · subst e
      simp only [if_true]
      exact ⟨((((hI.off _ hp).off _ hp).off _ hp).off _ hp).off _ hp, hp⟩
    · obtain ⟨h1, h2⟩ := hl i (by omega)
      simp only [if_neg e]
      exact ⟨((((h1.off _ h2).off _ h2).off _ h2).off _ h2).off _ h2, h2⟩
end Go.Proofs.YtakifcobofkheabGreatDoor

/-
  What the exact laws' helpers answer that hold two places, two lists of places and two trees against each other.
-/
namespace Go.Proofs.YtakifcobofkheabGreatDoor
open Go.RowKit
set_option linter.unusedVariables false

set_option maxHeartbeats 1000000 in
theorem eqNode_any (d d' : Nd) (l l' : Loc) (w : World) (hI : NdIn w d l) (hI' : NdIn w d' l') (hf : d.Fits) (hf' : d'.Fits) :
    Calls Tryz.prog 11 #[ndV d l, ndV d' l'] w fun e w' => Below w.heap.size w w' ∧ e = .returned (.bool (d.same d')) := by
  have hn := hf.nn
  have hn' := hf'.nn
  have hk := hf.kn
  have hk' := hf'.kn
  unfold ndV
  go_enter Tryz.func11, Tryz.ntmps11
  go_wp2_with fail
  · go_ret
    exact ⟨((Below.refl _ _).alloc (Nat.le_refl _) _).alloc (by simp) _, ret_bool (same_kind ‹_›)⟩
  · go_ret
    exact ⟨((Below.refl _ _).alloc (Nat.le_refl _) _).alloc (by simp) _, ret_bool (same_text ‹_›)⟩
  have HK : Hid ((d.kind != d'.kind) = false ∧ (!d.text.toList == d'.text.toList) = false) := ⟨‹_›, ‹_›⟩
  refine at_world (F := New2 w _ _ _ _) (new2 w _ _ _ _) ?_
  rintro W ⟨hp, hp', hb, hs⟩
  have hI1 := hI.below (Nat.le_refl _) hb
  have hI1' := hI'.below (Nat.le_refl _) hb
  refine (eqStringS_any l.nA l'.nA d.nn l.nc d'.nn l'.nc d.names d'.names W hI1.1 hI1'.1 hn hn').mono ?_
  rintro e w1 ⟨⟨q, rfl⟩, rfl⟩
  have p3 : W.cell? ⟨w.heap.size, 3, none⟩ = some (.slice l.kA d.kn l.kc) := hp.cell 3
  have p4 : W.cell? ⟨w.heap.size, 4, none⟩ = some (.int .i64 d.turn) := hp.cell 4
  have q3 : W.cell? ⟨w.heap.size + 1, 3, none⟩ = some (.slice l'.kA d'.kn l'.kc) := hp'.cell 3
  have q4 : W.cell? ⟨w.heap.size + 1, 4, none⟩ = some (.int .i64 d'.turn) := hp'.cell 4
  have HI : Hid (IsInts W l.kA d.kn d.kids ∧ IsInts W l'.kA d'.kn d'.kids) := ⟨hI1.2, hI1'.2⟩
  have HB : Hid (Below w.heap.size w W) := hb
  clear hI1 hI1' hI hI' hp hp' hb hs hf hf'
  cases hq1 : (decide (d.nn = d'.nn) && eqS d.nn d.names d'.names) with
  | false =>
    have HQ : Hid ((decide (d.nn = d'.nn) && eqS d.nn d.names d'.names) = false) := hq1
    clear hq1
    go_wp2
    go_ret
    exact ⟨below_drewN HB.out _, ret_bool (same_names HQ.out)⟩
  | true =>
    have HQ : Hid ((decide (d.nn = d'.nn) && eqS d.nn d.names d'.names) = true) := hq1
    clear hq1
    go_wp2_with fail
    refine (eqIntS_any l.kA l'.kA d.kn l.kc d'.kn l'.kc d.kids d'.kids (W.drewN q) (HI.out.1.below (Nat.le_refl _) (below_drewN (Below.refl _ _) _)) (HI.out.2.below (Nat.le_refl _) (below_drewN (Below.refl _ _) _)) hk hk').mono ?_
    rintro e w1 ⟨⟨q', rfl⟩, rfl⟩
    cases hq1 : (decide (d.kn = d'.kn) && eqZ d.kn d.kids d'.kids) with
    | false =>
      have HZ : Hid ((decide (d.kn = d'.kn) && eqZ d.kn d.kids d'.kids) = false) := hq1
      clear hq1
      go_wp2
      go_ret
      exact ⟨below_drewN HB.out _, ret_bool (same_kids HZ.out)⟩
    | true =>
      have HZ : Hid ((decide (d.kn = d'.kn) && eqZ d.kn d.kids d'.kids) = true) := hq1
      clear hq1
      go_wp2
      · go_ret
        exact ⟨below_drewN HB.out _, ret_bool (same_turn ‹_›)⟩
      · go_ret
        exact ⟨below_drewN HB.out _, ret_bool (same_yes HK.out.1 HK.out.2 HQ.out HZ.out ‹_›)⟩

set_option maxHeartbeats 1000000 in
theorem eqNodeS_any (a a' : Option Addr) (n c m c' : Nat) (D E : Nat → Nd) (L M : Nat → Loc) (w : World) (hS : IsNds w a n D L) (hT : IsNds w a' m E M) (hf : FitAll n D) (hf' : FitAll m E) (hn : n ≤ maxLen) (hm : m ≤ maxLen) :
    Calls Tryz.prog 46 #[.slice a n c, .slice a' m c'] w fun e w' => Below w.heap.size w w' ∧ e = .returned (.bool (decide (n = m) && sameAll n D E)) := by
  unfold maxLen at hn hm
  by_cases hne : n = m
  · subst hne
    have hb : ((n : Int) != (n : Int)) = false := by simp
    go_enter Tryz.func46, Tryz.ntmps46
    go_wp2
    go_loopw [5] (fun i wr => ∃ k : Nat, k ≤ n ∧ i = .int .i64 k ∧ Below w.heap.size w wr ∧ sameAll k D E = true) (fun i _ => n - (intOf i).toNat)
    case atStart => exact ⟨0, Nat.zero_le _, rfl, Below.refl _ _, rfl⟩
    case round =>
      obtain ⟨k, hk, rfl, hbel, heq⟩ := hrel
      have HE : Hid (sameAll k D E = true) := heq
      clear heq
      by_cases hlt : k < n
      · have hSr := hS.below (Nat.le_refl _) hbel
        have hTr := hT.below (Nat.le_refl _) hbel
        obtain ⟨b, off, rfl, hlt2, hc⟩ := hSr.at hlt
        obtain ⟨b', off', rfl, hlt2', hc'⟩ := hTr.at hlt
        obtain ⟨c0, c1, c2, c3, c4, hI⟩ := hc k hlt
        obtain ⟨d0, d1, d2, d3, d4, hI'⟩ := hc' k hlt
        have hlti : (k : Int) < (n : Int) := by omega
        have C0 := Lat.cell (B := wr.heap.size) c0 hlt2
        have C1 := Lat.cell (B := wr.heap.size) c1 hlt2
        have C2 := Lat.cell (B := wr.heap.size) c2 hlt2
        have C3 := Lat.cell (B := wr.heap.size) c3 hlt2
        have C4 := Lat.cell (B := wr.heap.size) c4 hlt2
        have D0 := Lat.cell (B := wr.heap.size) d0 hlt2'
        have D1 := Lat.cell (B := wr.heap.size) d1 hlt2'
        have D2 := Lat.cell (B := wr.heap.size) d2 hlt2'
        have D3 := Lat.cell (B := wr.heap.size) d3 hlt2'
        have D4 := Lat.cell (B := wr.heap.size) d4 hlt2'
        have hcall : Hid (∀ n : Lat wr.heap.size wr, Calls Tryz.prog 11 #[ndV (D k) (L k), ndV (E k) (M k)] n.val fun e w'' => e = .returned (.bool ((D k).same (E k))) ∧ ∃ m : Lat wr.heap.size wr, w'' = m.val) := fun n =>
          Calls.lat_of (eqNode_any (D k) (E k) (L k) (M k) n.val (hI.below (Nat.le_refl _) n.bel) (hI'.below (Nat.le_refl _) n.bel) (hf k hlt) (hf' k hlt)) (fun e w' h => ⟨h.2, h.1.mono n.bel.size⟩)
        clear hc hc' hSr hTr c0 c1 c2 c3 c4 d0 d1 d2 d3 d4 hI hI'
        have HBL : Hid (Below w.heap.size w wr) := hbel
        clear hbel
        go_wp2_with fail
        refine wp_region_lat (B := wr.heap.size) (w0 := wr) (by kernel_rfl) (by kernel_rfl) (Below.refl _ _) ?_
        repeat (go_big_quiet_step (exact hcall.out _))
        refine wpQuiet_nil ?_
        rintro _ ⟨nq, rfl⟩
        have hB : Hid (Below w.heap.size w nq.val) := HBL.out.trans (nq.bel.mono HBL.out.size)
        clear hcall C0 C1 C2 C3 C4 D0 D1 D2 D3 D4
        cases hq : (D k).same (E k) with
        | false =>
          have HQ : Hid ((D k).same (E k) = false) := hq
          clear hq
          go_wp2
          go_ret
          exact ⟨hB.out, ret_bool (by rw [← sameAll_not n k D E hlt HQ.out]; simp)⟩
        | true =>
          have HQ : Hid ((D k).same (E k) = true) := hq
          clear hq
          go_wp2
          go_roundw
          case rel => exact ⟨k + 1, by omega, by go_num, hB.out, sameAll_succ k D E HE.out HQ.out⟩
          case measure => simp [intOf]; omega
      · have hkn : k = n := by omega
        have HK : Hid (k = n ∧ Below w.heap.size w wr) := ⟨hkn, hbel⟩
        clear hkn hbel
        go_wp2
        go_ret
        exact ⟨HK.out.2, ret_bool (by rw [← HK.out.1, HE.out]; simp)⟩
  · have hb : ((n : Int) != (m : Int)) = true := by simp; omega
    go_enter Tryz.func46, Tryz.ntmps46
    go_wp2
    go_ret
    exact ⟨Below.refl _ _, ret_bool (by simp [hne])⟩

/-- What is known at toTree's end. -/
structure TreeEnd (w : World) (n : Nat) (now : Int) (D : Nat → Nd) (b : Nat) (W : World) : Prop where
  r : Blk W (w.heap.size + 1) #[.slice (some ⟨b, 0, none⟩) n n, .int .i64 now] 44
  bel : Below w.heap.size w W
  row : ∃ L', NdRow W b n n D L'

theorem NdRow.off {w : World} {b n k : Nat} {D : Nat → Nd} {L : Nat → Loc} (h : NdRow w b n k D L) {b' i : Nat} (v : Value) (hb : b' < b) : NdRow (w.setCell ⟨b', i, none⟩ v) b n k D L := by
  obtain ⟨⟨g, hr, hg⟩, hl⟩ := h
  exact ⟨⟨g, hr.setOther (a := ⟨b', i, none⟩) (show b ≠ b' by omega) v, hg⟩, fun i hi => ⟨(hl i hi).1.off v ((hl i hi).2.mono (by omega)), (hl i hi).2⟩⟩

set_option maxHeartbeats 1000000 in
theorem eqTree_any (a a' : Option Addr) (n c m c' : Nat) (now now' : Int) (D E : Nat → Nd) (L M : Nat → Loc) (w : World) (hS : IsNds w a n D L) (hT : IsNds w a' m E M) (hf : FitAll n D) (hf' : FitAll m E) (hn : n ≤ maxLen) (hm : m ≤ maxLen) :
    Calls Tryz.prog 22 #[trV a n c now, trV a' m c' now'] w fun e w' => Below w.heap.size w w' ∧ e = .returned (.bool ((decide (n = m) && sameAll n D E) && (now == now'))) := by
  unfold trV
  go_enter Tryz.func22, Tryz.ntmps22
  go_wp2_with fail
  refine at_world (F := New2 w _ _ _ _) (new2 w _ _ _ _) ?_
  rintro W ⟨hp, hp', hb, hs⟩
  refine (eqNodeS_any a a' n c m c' D E L M W (hS.below (Nat.le_refl _) hb) (hT.below (Nat.le_refl _) hb) hf hf' hn hm).mono ?_
  rintro e w1 ⟨hb1, rfl⟩
  have hB := hb.trans (hb1.mono (by omega))
  have p1 : w1.cell? ⟨w.heap.size, 1, none⟩ = some (.int .i64 now) := (hp.below hb1 (by omega)).cell 1
  have q1 : w1.cell? ⟨w.heap.size + 1, 1, none⟩ = some (.int .i64 now') := (hp'.below hb1 (by omega)).cell 1
  have HB : Hid (Below w.heap.size w w1) := hB
  clear hS hT hf hf' hp hp' hb hs hb1 hB
  cases hq : (decide (n = m) && sameAll n D E) with
  | false =>
    have HQ : Hid ((decide (n = m) && sameAll n D E) = false) := hq
    clear hq
    go_wp2
    go_ret
    exact ⟨HB.out, ret_bool (by rw [HQ.out]; rfl)⟩
  | true =>
    have HQ : Hid ((decide (n = m) && sameAll n D E) = true) := hq
    clear hq
    cases hnc : (now == now') with
    | true =>
      have hnb : (now != now') = false := by simpa [bne] using hnc
      have HN : Hid ((now == now') = true) := hnc
      clear hnc
      go_wp2
      go_ret
      exact ⟨HB.out, ret_bool (by rw [HQ.out, HN.out]; rfl)⟩
    | false =>
      have hnb : (now != now') = true := by simp only [bne, hnc]; rfl
      have HN : Hid ((now == now') = false) := hnc
      clear hnc
      go_wp2
      go_ret
      exact ⟨HB.out, ret_bool (by rw [HQ.out, HN.out]; rfl)⟩
end Go.Proofs.YtakifcobofkheabGreatDoor

/-
  What toTree answers: a tree in memory of its own.
-/
namespace Go.Proofs.YtakifcobofkheabGreatDoor
open Go.RowKit Go.Deep
set_option linter.unusedVariables false
set_option linter.unusedSimpArgs false

theorem row_below {W W' : World} {b n : Nat} {t : TypeId} {f : Nat → Value} (h : W.rowIs b t n f) (hb : Below W.heap.size W W') : W'.rowIs b t n f := by
  obtain ⟨c, h1, h2⟩ := h
  exact ⟨c, (hb.block b (Array.getElem?_eq_some_iff.1 h1).1).trans h1, h2⟩

theorem row_off {W : World} {b n : Nat} {t : TypeId} {f : Nat → Value} (h : W.rowIs b t n f) {b' i : Nat} (v : Value) (hb : b ≠ b') : (W.setCell ⟨b', i, none⟩ v).rowIs b t n f := h.setOther (a := ⟨b', i, none⟩) hb v

theorem row_own {W : World} {B b n : Nat} {t : TypeId} {f : Nat → Value} (h : W.rowIs b t n f) (hB : B ≤ b) (hn : n ≤ maxLen) : W.ownsRow B t 1 (.slice (some ⟨b, 0, none⟩) n n) n ((List.range n).map f) := by
  obtain ⟨cur, h1, h2, h3⟩ := h
  refine ⟨by simp, Or.inr ⟨b, n, cur, rfl, hB, h1, Nat.le_refl _, hn, by omega, ?_⟩⟩
  apply List.ext_getElem?
  intro i
  rw [List.getElem?_take]
  by_cases hi : i < n
  · rw [if_pos (by omega), Array.getElem?_toList, h3 i hi]
    simp [hi]
  · rw [if_neg (by omega)]
    simp [hi]

theorem row_ownS {W : World} {B b n : Nat} {S : Nat → ByteArray} (h : W.rowIs b 9 n (fun i => .string (S i))) (hB : B ≤ b) (hn : n ≤ maxLen) : W.ownsRow B 9 1 (.slice (some ⟨b, 0, none⟩) n n) n (strv (lst n S)) := by
  have := row_own h hB hn
  rw [show strv (lst n S) = (List.range n).map (fun i => .string (S i)) from by simp [strv, lst]]
  exact this

theorem row_ownI {W : World} {B b n : Nat} {Z : Nat → Int} (h : W.rowIs b 3 n (fun i => .int .i64 (Z i))) (hB : B ≤ b) (hn : n ≤ maxLen) : W.ownsRow B 3 1 (.slice (some ⟨b, 0, none⟩) n n) n (intv0 n Z) := row_own h hB hn

theorem toStringS_row (a : Option Addr) (n c : Nat) (S : Nat → ByteArray) (w : World) (hS : IsStrs w a n S) (hn : n ≤ 1048576) :
    Calls Tryz.prog 9 #[.slice a n c] w fun e w' => ∃ b, e = .returned (.slice (some ⟨b, 0, none⟩) n n) ∧ w.heap.size ≤ b ∧ b < w'.heap.size ∧ Below w.heap.size w w' ∧ w'.rowIs b 9 n (fun i => .string (S i)) :=
  (toStringS_any a n c S w hS hn).mono fun e w' ⟨he, hb, hr⟩ => ⟨_, he, Nat.le_refl _, hr.lt, hb, hr⟩

theorem toIntS_row (a : Option Addr) (n c : Nat) (Z : Nat → Int) (w : World) (hS : IsInts w a n Z) (hn : n ≤ 1048576) :
    Calls Tryz.prog 111 #[.slice a n c] w fun e w' => ∃ b, e = .returned (.slice (some ⟨b, 0, none⟩) n n) ∧ w.heap.size ≤ b ∧ b < w'.heap.size ∧ Below w.heap.size w w' ∧ w'.rowIs b 3 n (fun i => .int .i64 (Z i)) :=
  (toIntS_any a n c Z w hS hn).mono fun e w' ⟨he, hb, hr⟩ => ⟨_, he, Nat.le_refl _, hr.lt, hb, hr⟩

/-- What is known within toNode, the names being copied. -/
structure Node2o (w : World) (d : Nd) (l : Loc) (b : Nat) (W : World) : Prop where
  p : Blk W w.heap.size #[.int .i64 d.kind, .string d.text, .slice l.nA d.nn l.nc, .slice l.kA d.kn l.kc, .int .i64 d.turn] 103
  r : Blk W (w.heap.size + 1) #[.int .i64 0, .string ByteArray.empty, .slice none 0 0, .slice none 0 0, .int .i64 0] 28
  o : Blk W (w.heap.size + 1 + 1) #[.int .i64 d.kind, .string d.text, .slice (some ⟨b, 0, none⟩) d.nn d.nn, .slice none 0 0, .int .i64 0] 28
  bel : Below w.heap.size w W
  size : w.heap.size + 3 ≤ W.heap.size
  le : w.heap.size + 3 ≤ b
  lt : b < W.heap.size
  names : W.rowIs b 9 d.nn (fun i => .string (d.names i))

/-- What is known at toNode's end. -/
structure NodeEndo (w : World) (d : Nd) (b b' : Nat) (W : World) : Prop where
  r : Blk W (w.heap.size + 1) #[.int .i64 d.kind, .string d.text, .slice (some ⟨b, 0, none⟩) d.nn d.nn, .slice (some ⟨b', 0, none⟩) d.kn d.kn, .int .i64 d.turn] 28
  bel : Below w.heap.size w W
  names : W.rowIs b 9 d.nn (fun i => .string (d.names i))
  kids : W.rowIs b' 3 d.kn (fun i => .int .i64 (d.kids i))

set_option maxHeartbeats 1000000 in
theorem toNode_new (d : Nd) (l : Loc) (w : World) (hI : NdIn w d l) (hn : d.nn ≤ 1048576) (hk : d.kn ≤ 1048576) :
    Calls Tryz.prog 91 #[ndV d l] w fun e w' => ∃ l', e = .returned (ndV d l') ∧ NewNn w d l' w' := by
  unfold ndV
  go_enter Tryz.func91, Tryz.ntmps91
  go_wp2_with fail
  refine at_world (F := New3 w _ _ _ _ _ _) (new3 w _ _ _ _ _ _) ?_
  rintro W ⟨hp, hr, ho, hb0, hs0⟩
  refine (toStringS_row l.nA d.nn l.nc d.names _ (hI.1.below (Nat.le_refl _) hb0) hn).mono ?_
  rintro e w1 ⟨b, rfl, hge, hlt, hb1, hS1⟩
  have hp1 := hp.below hb1 (by omega)
  have hr1 := hr.below hb1 (by omega)
  have ho1 := ho.below hb1 (by omega)
  have hk1 := (hI.2.below (Nat.le_refl _) hb0).below (Nat.le_refl _) hb1
  have hB1 := hb0.trans (hb1.mono (by omega))
  have o2 : w1.cell? ⟨w.heap.size + 1 + 1, 2, none⟩ = some (.slice none 0 0) := ho1.cell 2
  have f2 := ho1.frozen 2
  have p3 : w1.cell? ⟨w.heap.size, 3, none⟩ = some (.slice l.kA d.kn l.kc) := hp1.cell 3
  have hsz1 := hb1.size
  have F2 : Hid (Node2o w d l b _) := ⟨hp1.off (b' := w.heap.size + 1 + 1) (i := 2) (.slice (some ⟨b, 0, none⟩) d.nn d.nn) (by omega), hr1.off _ (by omega), ho1.set 2 _, bel_put hB1 _ (by omega), by simp; omega, by omega, by simp; omega, row_off hS1 _ (by omega)⟩
  clear hp hr ho hb0 hb1 hp1 hr1 ho1 hk1 hB1 hS1
  go_wp2_with fail
  refine at_world (F := Node2o w d l b) F2.out ?_
  clear F2 hge hlt f2 o2 p3 hs0 hsz1
  rintro W ⟨hp, hr, ho, hb0, hs0, hlb, hbl, hS⟩
  refine (toIntS_row l.kA d.kn l.kc d.kids _ (hI.2.below (Nat.le_refl _) hb0) hk).mono ?_
  rintro e w2 ⟨b', rfl, hge, hlt, hb1, hZ⟩
  have hp1 := hp.below hb1 (by omega)
  have hr1 := hr.below hb1 (by omega)
  have ho1 := ho.below hb1 (by omega)
  have hB1 := hb0.trans (hb1.mono (by omega))
  have hS1 := row_below hS hb1
  have hsz := hb1.size
  have o0 : w2.cell? ⟨w.heap.size + 1 + 1, 0, none⟩ = some (.int .i64 d.kind) := ho1.cell 0
  have o1 : w2.cell? ⟨w.heap.size + 1 + 1, 1, none⟩ = some (.string d.text) := ho1.cell 1
  have o2 : w2.cell? ⟨w.heap.size + 1 + 1, 2, none⟩ = some (.slice (some ⟨b, 0, none⟩) d.nn d.nn) := ho1.cell 2
  have o3 : w2.cell? ⟨w.heap.size + 1 + 1, 3, none⟩ = some (.slice none 0 0) := ho1.cell 3
  have o4 : w2.cell? ⟨w.heap.size + 1 + 1, 4, none⟩ = some (.int .i64 0) := ho1.cell 4
  have f3 := ho1.frozen 3
  have f4 := ho1.frozen 4
  have p4 : w2.cell? ⟨w.heap.size, 4, none⟩ = some (.int .i64 d.turn) := hp1.cell 4
  have r0 : w2.cell? ⟨w.heap.size + 1, 0, none⟩ = some (.int .i64 0) := hr1.cell 0
  have r1 : w2.cell? ⟨w.heap.size + 1, 1, none⟩ = some (.string ByteArray.empty) := hr1.cell 1
  have r2 : w2.cell? ⟨w.heap.size + 1, 2, none⟩ = some (.slice none 0 0) := hr1.cell 2
  have r3 : w2.cell? ⟨w.heap.size + 1, 3, none⟩ = some (.slice none 0 0) := hr1.cell 3
  have r4 : w2.cell? ⟨w.heap.size + 1, 4, none⟩ = some (.int .i64 0) := hr1.cell 4
  have g0 := hr1.frozen 0
  have g1 := hr1.frozen 1
  have g2 := hr1.frozen 2
  have g3 := hr1.frozen 3
  have g4 := hr1.frozen 4
  have FB : Hid (Blk w2 (w.heap.size + 1) _ _ ∧ Below w.heap.size w w2 ∧ w2.rowIs b 9 d.nn (fun i => .string (d.names i)) ∧ w2.rowIs b' 3 d.kn (fun i => .int .i64 (d.kids i))) := ⟨hr1, hB1, hS1, hZ⟩
  clear hp hr ho hb0 hb1 hp1 hr1 ho1 hB1 hS1 hZ hS
  go_wp2_with fail
  obtain ⟨hr, hB, hS, hZ⟩ := FB.out
  refine end_world (F := NodeEndo w d b b')
    ⟨((((((hr.off _ (by omega)).off _ (by omega)).set 0 _).set 1 _).set 2 _).set 3 _).set 4 _,
     bel_put (bel_put (bel_put (bel_put (bel_put (bel_put (bel_put hB _ (by omega)) _ (by omega)) _ (by omega)) _ (by omega)) _ (by omega)) _ (by omega)) _ (by omega),
     (row_off (row_off (row_off (row_off (row_off (row_off (row_off hS _ (by omega)) _ (by omega)) _ (by omega)) _ (by omega)) _ (by omega)) _ (by omega)) _ (by omega)),
     (row_off (row_off (row_off (row_off (row_off (row_off (row_off hZ _ (by omega)) _ (by omega)) _ (by omega)) _ (by omega)) _ (by omega)) _ (by omega)) _ (by omega))⟩ ?_
  clear hr hB hS hZ FB o0 o1 o2 o3 o4 f3 f4 p4 r0 r1 r2 r3 r4 g0 g1 g2 g3 g4
  rintro W ⟨hr, hB, hS, hZ⟩
  have r0 : W.cell? ⟨w.heap.size + 1, 0, none⟩ = some (.int .i64 d.kind) := hr.cell 0
  have r1 : W.cell? ⟨w.heap.size + 1, 1, none⟩ = some (.string d.text) := hr.cell 1
  have r2 : W.cell? ⟨w.heap.size + 1, 2, none⟩ = some (.slice (some ⟨b, 0, none⟩) d.nn d.nn) := hr.cell 2
  have r3 : W.cell? ⟨w.heap.size + 1, 3, none⟩ = some (.slice (some ⟨b', 0, none⟩) d.kn d.kn) := hr.cell 3
  have r4 : W.cell? ⟨w.heap.size + 1, 4, none⟩ = some (.int .i64 d.turn) := hr.cell 4
  exact bodyPost_ret (v := .agg #[.int .i64 d.kind, .string d.text, .slice (some ⟨b, 0, none⟩) d.nn d.nn, .slice (some ⟨b', 0, none⟩) d.kn d.kn, .int .i64 d.turn]) (by simp [results, Tryz.results91, go_sem, r0, r1, r2, r3, r4]) rfl ⟨⟨some ⟨b, 0, none⟩, d.nn, some ⟨b', 0, none⟩, d.kn⟩, rfl, hB, row_ownS hS (by omega) (by unfold maxLen; omega), row_ownI hZ (by omega) (by unfold maxLen; omega), fun j e1 e2 => by
      have e3 : b = j := by simpa [Value.ownBlock] using e1
      have e4 : b' = j := by simpa [Value.ownBlock] using e2
      omega⟩

/-- A place more is laid behind the first ones, within the row's room. -/
theorem owns_fill {W : World} {B : Nat} {e : TypeId} {g k cap : Nat} {xs : List Value} {v0 v1 v2 v3 v4 : Value} (h : W.ownsRow B e 5 (.slice (some ⟨g, 0, none⟩) k cap) k xs) (hk : k < cap) :
    (((((W.setCell ⟨g, k * 5, none⟩ v0).setCell ⟨g, k * 5 + 1, none⟩ v1).setCell ⟨g, k * 5 + 2, none⟩ v2).setCell ⟨g, k * 5 + 3, none⟩ v3).setCell ⟨g, k * 5 + 4, none⟩ v4).ownsRow B e 5 (.slice (some ⟨g, 0, none⟩) (k + 1) cap) (k + 1) (xs ++ [v0, v1, v2, v3, v4]) := by
  obtain ⟨hl, h0 | ⟨g', cap', cur, hv, hB, hg, hc, hm, hs, ht⟩⟩ := h
  · simp at h0
  simp at hv
  obtain ⟨rfl, rfl⟩ := hv
  have hb : Blk W g cur e := hg
  have hb' := ((((hb.set (k * 5) v0).set (k * 5 + 1) v1).set (k * 5 + 2) v2).set (k * 5 + 3) v3).set (k * 5 + 4) v4
  refine ⟨by simp [hl]; omega, Or.inr ⟨g, cap, _, rfl, hB, hb', by omega, hm, by simp [hs], ?_⟩⟩
  apply List.ext_getElem?
  intro i
  rw [List.getElem?_take]
  by_cases hi : i < (k + 1) * 5
  · rw [if_pos hi, Array.getElem?_toList]
    simp only [Array.getElem?_setIfInBounds]
    by_cases h1 : i < k * 5
    · rw [List.getElem?_append_left (by omega)]
      have : xs[i]? = cur[i]? := by rw [← ht, List.getElem?_take, if_pos h1, Array.getElem?_toList]
      rw [this]
      simp only [show ¬ k * 5 + 4 = i by omega, show ¬ k * 5 + 3 = i by omega, show ¬ k * 5 + 2 = i by omega, show ¬ k * 5 + 1 = i by omega, show ¬ k * 5 = i by omega, if_false]
    · rw [List.getElem?_append_right (by omega), hl]
      obtain ⟨r, rfl⟩ : ∃ r, i = k * 5 + r := ⟨i - k * 5, by omega⟩
      have hr : r < 5 := by omega
      have hsz : ∀ q, q < 5 → k * 5 + q < cur.size := fun q hq => by omega
      rw [show k * 5 + r - k * 5 = r by omega]
      have hr5 : r = 0 ∨ r = 1 ∨ r = 2 ∨ r = 3 ∨ r = 4 := by omega
      rcases hr5 with rfl | rfl | rfl | rfl | rfl <;> simp [hsz 0 (by omega), hsz 1 (by omega), hsz 2 (by omega), hsz 3 (by omega), hsz 4 (by omega)] <;> (try (have := hsz 0 (by omega); omega))
  · rw [if_neg hi, List.getElem?_eq_none (by simp [hl]; omega)]

theorem OT.fill {W W1 : World} {B k : Nat} {O : Nat → Int} {D : Nat → Nd} {L : Nat → Loc} {g cap : Nat} {x : Nd} {l : Loc} (h : OT W B 0 (fun _ => false) k O D L (.slice none 0 0) (.slice (some ⟨g, 0, none⟩) k cap)) (hN : NewNn W x l W1) (hB : B ≤ W.heap.size) (hk : k < cap) :
    OT (((((W1.setCell ⟨g, k * 5, none⟩ (.int .i64 x.kind)).setCell ⟨g, k * 5 + 1, none⟩ (.string x.text)).setCell ⟨g, k * 5 + 2, none⟩ (.slice l.nA x.nn l.nc)).setCell ⟨g, k * 5 + 3, none⟩ (.slice l.kA x.kn l.kc)).setCell ⟨g, k * 5 + 4, none⟩ (.int .i64 x.turn)) B 0 (fun _ => false) (k + 1) (fun i => if i = k then 0 else O i) (fun i => if i = k then x else D i) (fun i => if i = k then l else L i) (.slice none 0 0) (.slice (some ⟨g, 0, none⟩) (k + 1) cap) := by
  refine h.item (o := 0) hN hB ?_ ?_ (fun b e => Or.inl e)
  · have hst : ∀ (i : Nat) (v : Value) (U : World), U.grownBy (U.setCell ⟨g, i, none⟩ v) (some g) := fun i v U => ⟨rfl, rfl, rfl, by simp, fun b _ hb => blk_setCell_other _ _ _ _ (show b ≠ g from fun e => hb (by rw [e]))⟩
    have tr : ∀ {A C E : World}, A.grownBy C (some g) → C.grownBy E (some g) → A.grownBy E (some g) := fun {A C E} h1 h2 => ⟨h2.os.trans h1.os, h2.tape.trans h1.tape, h2.output.trans h1.output, Nat.le_trans h1.size h2.size, fun b hb hne => (h2.block b (Nat.lt_of_lt_of_le hb h1.size) hne).trans (h1.block b hb hne)⟩
    exact tr (tr (tr (tr (hst _ _ _) (hst _ _ _)) (hst _ _ _)) (hst _ _ _)) (hst _ _ _)
  · exact owns_fill (owns_same h.ownI (fun b hb => hN.bel.block b (owns_block h.ownI hb).2)) hk

theorem OT.ext {W : World} {B k n : Nat} {Z : Nat → Bool} {O O' : Nat → Int} {D D' : Nat → Nd} {L L' : Nat → Loc} {lv iv : Value} (h : OT W B k Z n O D L lv iv) (he : ∀ i, i < n → D' i = D i ∧ L' i = L i) : OT W B k Z n O' D' L' lv iv := by
  have hr : ∀ d, d < 2 + 2 * n → rowT k Z n O' D' L' d = rowT k Z n O D L d := fun d hd => by
    unfold rowT
    by_cases e0 : d = 0
    · rw [if_pos e0, if_pos e0]
    · by_cases e1 : d = 1
      · rw [if_neg e0, if_pos e1, if_neg e0, if_pos e1]
        have key : ∀ m, m ≤ n → rowsT O' D' L' m = rowsT O D L m := fun m => by
          induction m with
          | zero => intro _; rfl
          | succ m ih => intro hm; rw [rowsT, rowsT, ih (by omega), (he m (by omega)).1, (he m (by omega)).2]; rfl
        rw [key n (Nat.le_refl _)]
      · rw [if_neg e0, if_neg e1, if_neg e0, if_neg e1, (he ((d - 2) / 2) (by omega)).1]
  have hv : ∀ d, d < 2 + 2 * n → valT lv iv D' L' d = valT lv iv D L d := fun d hd => by
    unfold valT
    by_cases e0 : d = 0
    · rw [if_pos e0, if_pos e0]
    · by_cases e1 : d = 1
      · rw [if_neg e0, if_pos e1, if_neg e0, if_pos e1]
      · rw [if_neg e0, if_neg e1, if_neg e0, if_neg e1, (he ((d - 2) / 2) (by omega)).1, (he ((d - 2) / 2) (by omega)).2]
  exact ⟨⟨fun d hd => by rw [hr d hd, hv d hd]; exact h.rows.own d hd, fun d1 d2 g1 g2 hne b e1 e2 => by rw [hv d1 g1] at e1; rw [hv d2 g2] at e2; exact h.rows.apart d1 d2 g1 g2 hne b e1 e2⟩⟩

theorem ot_strs {w : World} {B n c : Nat} {a : Option Addr} {S : Nat → ByteArray} (h : w.ownsRow B 9 1 (.slice a n c) n (strv (lst n S))) : IsStrs w a n S := by
  by_cases hn : n = 0
  · exact Or.inl hn
  · obtain ⟨g, rfl, hg⟩ := owns_addr h (by omega)
    exact Or.inr ⟨g, 0, rfl, hg, fun i hi => by rw [Nat.zero_add, h.cellAt i (by omega)]; simp [strv, lst, hi]⟩

theorem ot_ints {w : World} {B n c : Nat} {a : Option Addr} {Z : Nat → Int} (h : w.ownsRow B 3 1 (.slice a n c) n (intv0 n Z)) : IsInts w a n Z := by
  by_cases hn : n = 0
  · exact Or.inl hn
  · obtain ⟨g, rfl, hg⟩ := owns_addr h (by omega)
    exact Or.inr ⟨g, 0, rfl, hg, fun i hi => by rw [Nat.zero_add, h.cellAt i (by omega)]; simp [intv0, hi]⟩

theorem OT.nds {W : World} {B k n c : Nat} {Z : Nat → Bool} {O : Nat → Int} {D : Nat → Nd} {L : Nat → Loc} {lv : Value} {a : Option Addr} (h : OT W B k Z n O D L lv (.slice a n c)) : IsNds W a n D L := by
  by_cases hn : n = 0
  · exact Or.inl hn
  · obtain ⟨g, rfl, hg⟩ := owns_addr h.ownI (by omega)
    refine Or.inr ⟨g, 0, rfl, hg, fun i hi => ?_⟩
    obtain ⟨c0, c1, c2, c3, c4⟩ := h.cells hi
    rw [Nat.zero_add]
    exact ⟨c0, c1, c2, c3, c4, ot_strs (h.ownN hi), ot_ints (h.ownK hi)⟩

/-- What is known at toTree's end. -/
structure TreeEndo (w : World) (n : Nat) (now : Int) (D : Nat → Nd) (b : Nat) (W : World) : Prop where
  r : Blk W (w.heap.size + 1) #[.slice (some ⟨b, 0, none⟩) n n, .int .i64 now] 44
  bel : Below w.heap.size w W
  row : ∃ L', OT W b 0 (fun _ => false) n (fun _ => 0) D L' (.slice none 0 0) (.slice (some ⟨b, 0, none⟩) n n)

end Go.Proofs.YtakifcobofkheabGreatDoor

/-
  What markItemS does at what is kept, in memory of one's own: every list holds its own marks afterwards.
-/
namespace Go.Proofs.YtakifcobofkheabGreatDoor
open Go.RowKit Go.Deep
set_option linter.unusedVariables false
set_option linter.unusedSimpArgs false

section
variable {O O' : Nat → Int} {D D' : Nat → Nd} {L : Nat → Loc}

theorem rowsI_set {m i r : Nat} {u : Value} (hi : i < m) (hr : r < 6) (hx : it6 (O' i) (D' i) (L i) = (it6 (O i) (D i) (L i)).set r u) (ho : ∀ j, j < m → j ≠ i → O' j = O j ∧ D' j = D j) : (rowsI O D L m).set (i * 6 + r) u = rowsI O' D' L m := by
  apply List.ext_getElem?
  intro q
  by_cases hq : q < m * 6
  · have h1 := rowsI_get (O := O') (D := D') (L := L) m (q / 6) (by omega) (q % 6) (by omega)
    have h2 := rowsI_get (O := O) (D := D) (L := L) m (q / 6) (by omega) (q % 6) (by omega)
    rw [show q / 6 * 6 + q % 6 = q by omega] at h1 h2
    rw [h1, List.getElem?_set]
    by_cases e : q / 6 = i
    · rw [e, hx, List.getElem?_set]
      by_cases e2 : i * 6 + r = q
      · have e3 : r = q % 6 := by omega
        rw [if_pos e2, if_pos (by rw [rowsI_len]; omega), if_pos e3, if_pos (by simp [it6]; omega)]
      · have e3 : r ≠ q % 6 := by omega
        rw [if_neg e2, if_neg e3, h2, e]
    · obtain ⟨a1, a2⟩ := ho (q / 6) (by omega) e
      rw [if_neg (by omega), h2, a1, a2]
  · rw [List.getElem?_eq_none (by rw [List.length_set, rowsI_len]; omega), List.getElem?_eq_none (by rw [rowsI_len]; omega)]
end

section
variable {W : World} {B k : Nat} {Z : Nat → Bool} {m : Nat} {O : Nat → Int} {D : Nat → Nd} {L : Nat → Loc} {lv iv : Value} {g ic : Nat}

/-- The cells of a place that was turned. -/
theorem OD.cells (h : OD W B k Z m O D L lv (.slice (some ⟨g, 0, none⟩) m ic)) {i : Nat} (hi : i < m) : W.cell? ⟨g, i * 6, none⟩ = some (.int .i64 (O i)) ∧ W.cell? ⟨g, i * 6 + 1, none⟩ = some (.int .i64 (D i).kind) ∧ W.cell? ⟨g, i * 6 + 2, none⟩ = some (.string (D i).text) ∧
    W.cell? ⟨g, i * 6 + 3, none⟩ = some (.slice (L i).nA (D i).nn (L i).nc) ∧ W.cell? ⟨g, i * 6 + 4, none⟩ = some (.slice (L i).kA (D i).kn (L i).kc) ∧ W.cell? ⟨g, i * 6 + 5, none⟩ = some (.int .i64 (D i).turn) := by
  have key : ∀ r, r < 6 → W.cell? ⟨g, i * 6 + r, none⟩ = (it6 (O i) (D i) (L i))[r]? := fun r hr => by
    rw [h.ownI.cellAt (i * 6 + r) (by omega), rowsI_get m i hi r hr]
  exact ⟨key 0 (by omega), key 1 (by omega), key 2 (by omega), key 3 (by omega), key 4 (by omega), key 5 (by omega)⟩

theorem OD.free (h : OD W B k Z m O D L lv (.slice (some ⟨g, 0, none⟩) m ic)) (j : Nat) : W.frozen? ⟨g, j, none⟩ = false := h.ownI.frozenAt j

theorem OD.putIno (h : OD W B k Z m O D L lv (.slice (some ⟨g, 0, none⟩) m ic)) {i : Nat} (hi : i < m) (z : Int) : OD (W.setCell ⟨g, i * 6, none⟩ (.int .i64 z)) B k Z m (fun j => if j = i then z else O j) D L lv (.slice (some ⟨g, 0, none⟩) m ic) := by
  obtain ⟨h1, h2⟩ := h.ownI.stored (i * 6 + 0) (.int .i64 z)
  rw [rowsI_set (O' := fun j => if j = i then z else O j) (D' := D) hi (by omega) (by simp [it6]) (fun j hj e => by simp [e])] at h1
  exact h.turnItems (fun j hj => ⟨rfl, rfl, rfl, rfl⟩) h2 h1

theorem OD.putKind (h : OD W B k Z m O D L lv (.slice (some ⟨g, 0, none⟩) m ic)) {i : Nat} (hi : i < m) (z : Int) : OD (W.setCell ⟨g, i * 6 + 1, none⟩ (.int .i64 z)) B k Z m O (fun j => if j = i then { D i with kind := z } else D j) L lv (.slice (some ⟨g, 0, none⟩) m ic) := by
  obtain ⟨h1, h2⟩ := h.ownI.stored (i * 6 + 1) (.int .i64 z)
  rw [rowsI_set (O' := O) (D' := fun j => if j = i then { D i with kind := z } else D j) hi (by omega) (by simp [it6]) (fun j hj e => by simp [e])] at h1
  exact h.turnItems (fun j hj => by by_cases e : j = i <;> simp [e]) h2 h1

theorem OD.putText (h : OD W B k Z m O D L lv (.slice (some ⟨g, 0, none⟩) m ic)) {i : Nat} (hi : i < m) (s : ByteArray) : OD (W.setCell ⟨g, i * 6 + 2, none⟩ (.string s)) B k Z m O (fun j => if j = i then { D i with text := s } else D j) L lv (.slice (some ⟨g, 0, none⟩) m ic) := by
  obtain ⟨h1, h2⟩ := h.ownI.stored (i * 6 + 2) (.string s)
  rw [rowsI_set (O' := O) (D' := fun j => if j = i then { D i with text := s } else D j) hi (by omega) (by simp [it6]) (fun j hj e => by simp [e])] at h1
  exact h.turnItems (fun j hj => by by_cases e : j = i <;> simp [e]) h2 h1

theorem OD.putTurn (h : OD W B k Z m O D L lv (.slice (some ⟨g, 0, none⟩) m ic)) {i : Nat} (hi : i < m) (z : Int) : OD (W.setCell ⟨g, i * 6 + 5, none⟩ (.int .i64 z)) B k Z m O (fun j => if j = i then { D i with turn := z } else D j) L lv (.slice (some ⟨g, 0, none⟩) m ic) := by
  obtain ⟨h1, h2⟩ := h.ownI.stored (i * 6 + 5) (.int .i64 z)
  rw [rowsI_set (O' := O) (D' := fun j => if j = i then { D i with turn := z } else D j) hi (by omega) (by simp [it6]) (fun j hj e => by simp [e])] at h1
  exact h.turnItems (fun j hj => by by_cases e : j = i <;> simp [e]) h2 h1

theorem OD.ownN (h : OD W B k Z m O D L lv iv) {i : Nat} (hi : i < m) : W.ownsRow B 9 1 (.slice (L i).nA (D i).nn (L i).nc) (D i).nn (strv (lst (D i).nn (D i).names)) := by
  have hd : (2 + 2 * i - 2) / 2 = i := by omega
  have := h.rows.own (2 + 2 * i) (by omega)
  unfold rowD valD at this
  rw [if_neg (by omega), if_neg (by omega), if_pos (by omega), if_neg (by omega), if_neg (by omega), if_pos (by omega), hd] at this
  exact this

theorem OD.ownK (h : OD W B k Z m O D L lv iv) {i : Nat} (hi : i < m) : W.ownsRow B 3 1 (.slice (L i).kA (D i).kn (L i).kc) (D i).kn (intv0 (D i).kn (D i).kids) := by
  have hd : (3 + 2 * i - 2) / 2 = i := by omega
  have := h.rows.own (3 + 2 * i) (by omega)
  unfold rowD valD at this
  rw [if_neg (by omega), if_neg (by omega), if_neg (by omega), if_neg (by omega), if_neg (by omega), if_neg (by omega), hd] at this
  exact this
end

/-- Blocks below B, and those from H on, are kept. -/
structure Fr (B H : Nat) (w w' : World) : Prop where
  bel : Below B w w'
  far : ∀ b, H ≤ b → b < w.heap.size → w'.heap[b]? = w.heap[b]?

theorem Fr.refl (B H : Nat) (w : World) : Fr B H w w := ⟨Below.refl _ _, fun _ _ _ => rfl⟩
theorem Fr.put {B H : Nat} {a w : World} (h : Fr B H a w) {b i : Nat} (v : Value) (hb : B ≤ b) (hH : b < H) : Fr B H a (w.setCell ⟨b, i, none⟩ v) := ⟨bel_put h.bel v hb, fun j hj hl => (blk_setCell_other _ _ _ _ (show j ≠ b by omega)).trans (h.far j hj hl)⟩
theorem Fr.below {B H : Nat} {a w w' : World} (h : Fr B H a w) (hB : B ≤ w.heap.size) (hb : Below w.heap.size w w') : Fr B H a w' := ⟨h.bel.trans (hb.mono hB), fun j hj hl => (hb.block j (Nat.lt_of_lt_of_le hl h.bel.size)).trans (h.far j hj hl)⟩
theorem Fr.grow {B H : Nat} {a w w' : World} {r : Option Nat} (h : Fr B H a w) (hg : w.grownBy w' r) (hB : B ≤ w.heap.size) (hr : ∀ b, r = some b → B ≤ b ∧ b < H) : Fr B H a w' := ⟨h.bel.grown hg hB (fun b e => (hr b e).1), fun j hj hl => (hg.block j (Nat.lt_of_lt_of_le hl h.bel.size) (fun e => by have := (hr j e.symm).2; omega)).trans (h.far j hj hl)⟩

theorem Fr.trans {B H : Nat} {a b c : World} (h : Fr B H a b) (_hB : B ≤ b.heap.size) (k : Fr B H b c) : Fr B H a c := ⟨h.bel.trans k.bel, fun j hj hl => (k.far j hj (Nat.lt_of_lt_of_le hl h.bel.size)).trans (h.far j hj hl)⟩

/-- Blocks below B, and those that are none of X, are kept. -/
structure FrS (B : Nat) (X : Nat → Prop) (w w' : World) : Prop where
  bel : Below B w w'
  far : ∀ b, ¬ X b → b < w.heap.size → w'.heap[b]? = w.heap[b]?

theorem FrS.refl (B : Nat) (X : Nat → Prop) (w : World) : FrS B X w w := ⟨Below.refl _ _, fun _ _ _ => rfl⟩
theorem FrS.put {B : Nat} {X : Nat → Prop} {a w : World} (h : FrS B X a w) {b i : Nat} (v : Value) (hb : B ≤ b) (hH : X b) : FrS B X a (w.setCell ⟨b, i, none⟩ v) := ⟨bel_put h.bel v hb, fun j hj hl => (blk_setCell_other _ _ _ _ (show j ≠ b from fun e => hj (e ▸ hH))).trans (h.far j hj hl)⟩
theorem FrS.below {B : Nat} {X : Nat → Prop} {a w w' : World} (h : FrS B X a w) (hB : B ≤ w.heap.size) (hb : Below w.heap.size w w') : FrS B X a w' := ⟨h.bel.trans (hb.mono hB), fun j hj hl => (hb.block j (Nat.lt_of_lt_of_le hl h.bel.size)).trans (h.far j hj hl)⟩
theorem FrS.grow {B : Nat} {X : Nat → Prop} {a w w' : World} {r : Option Nat} (h : FrS B X a w) (hg : w.grownBy w' r) (hB : B ≤ w.heap.size) (hr : ∀ b, r = some b → B ≤ b ∧ X b) : FrS B X a w' := ⟨h.bel.grown hg hB (fun b e => (hr b e).1), fun j hj hl => (hg.block j (Nat.lt_of_lt_of_le hl h.bel.size) (fun e => hj (hr j e.symm).2)).trans (h.far j hj hl)⟩
theorem FrS.trans {B : Nat} {X : Nat → Prop} {a b c : World} (h : FrS B X a b) (_hB : B ≤ b.heap.size) (k : FrS B X b c) : FrS B X a c := ⟨h.bel.trans k.bel, fun j hj hl => (k.far j hj (Nat.lt_of_lt_of_le hl h.bel.size)).trans (h.far j hj hl)⟩
theorem FrS.more {B : Nat} {X Y : Nat → Prop} {a b : World} (h : FrS B X a b) (hX : ∀ b, X b → Y b) : FrS B Y a b := ⟨h.bel, fun j hj hl => h.far j (fun e => hj (hX j e)) hl⟩
theorem FrS.fr {B H : Nat} {X : Nat → Prop} {a b : World} (h : FrS B X a b) (hX : ∀ b, X b → b < H) : Fr B H a b := ⟨h.bel, fun j hj hl => h.far j (fun e => by have := hX j e; omega) hl⟩

theorem valD_n {lv iv : Value} {D : Nat → Nd} {L : Nat → Loc} {j : Nat} : valD lv iv D L (2 + 2 * j) = .slice (L j).nA (D j).nn (L j).nc := by unfold valD; rw [if_neg (by omega), if_neg (by omega), if_pos (by omega), show (2 + 2 * j - 2) / 2 = j by omega]
theorem valD_k {lv iv : Value} {D : Nat → Nd} {L : Nat → Loc} {j : Nat} : valD lv iv D L (3 + 2 * j) = .slice (L j).kA (D j).kn (L j).kc := by unfold valD; rw [if_neg (by omega), if_neg (by omega), if_neg (by omega), show (3 + 2 * j - 2) / 2 = j by omega]

/-- The first mark of place j. -/
def kap (D : Nat → Nd) (k0 : Nat) : Nat → Nat | 0 => k0 | j + 1 => kap D k0 j + (4 + (D j).nn + (D j).kn)
/-- A place, marked from q on. -/
def markNd (d : Nd) (q : Nat) : Nd := ⟨((q + 1 : Nat) : Int), ⟨(markOf (q + 2)).toArray⟩, d.nn, marks (q + 3), d.kn, fun i => ((q + 3 + d.nn + i : Nat) : Int), ((q + 3 + d.nn + d.kn : Nat) : Int)⟩
def markO (D : Nat → Nd) (k0 : Nat) (O : Nat → Int) (j : Nat) : Nat → Int := fun i => if i < j then ((kap D k0 i : Nat) : Int) else O i
def markD (D : Nat → Nd) (k0 j : Nat) : Nat → Nd := fun i => if i < j then markNd (D i) (kap D k0 i) else D i

theorem kap_mono (D : Nat → Nd) (k0 : Nat) {i j : Nat} (h : i ≤ j) : kap D k0 i ≤ kap D k0 j := by
  induction h with
  | refl => exact Nat.le_refl _
  | step _ ih => rw [kap]; omega

theorem kap_ge (D : Nat → Nd) (k0 i : Nat) : k0 ≤ kap D k0 i := kap_mono D k0 (Nat.zero_le i)

set_option maxRecDepth 100000 in
set_option maxHeartbeats 4000000 in
theorem markItemS_ownS (X : Nat → Prop) (ia : Option Addr) (m ic k0 B k : Nat) (Z : Nat → Bool) (O : Nat → Int) (D : Nat → Nd) (L : Nat → Loc) (lv : Value) (w : World) (h : OD w B k Z m O D L lv (.slice ia m ic)) (hm : m ≤ 1048576) (hk1 : 1 ≤ k0) (hH : ∀ d b, d < 2 + 2 * m → (valD lv (.slice ia m ic) D L d).ownBlock = some b → X b) (hkap : kap D k0 m ≤ 90000000) (hsz : ∀ i, i < m → (D i).nn ≤ 1048576 ∧ (D i).kn ≤ 1048576) :
    Calls Tryz.prog 37 #[.slice ia m ic, .int .i64 k0] w fun e w' => e = .returned (.int .i64 (kap D k0 m : Nat)) ∧ FrS B X w w' ∧ OD w' B k Z m (markO D k0 O m) (markD D k0 m) L lv (.slice ia m ic) := by
  go_enter Tryz.func37, Tryz.ntmps37
  go_wp2
  go_loopw [1, 5] (fun kk i wr => ∃ j : Nat, j ≤ m ∧ i = .int .i64 j ∧ kk = .int .i64 (kap D k0 j : Nat) ∧ FrS B X w wr ∧ OD wr B k Z m (markO D k0 O j) (markD D k0 j) L lv (.slice ia m ic)) (fun _ i _ => m - (intOf i).toNat)
  case atStart => exact ⟨0, Nat.zero_le _, rfl, rfl, FrS.refl _ _ _, by rw [show markO D k0 O 0 = O from by funext i; simp [markO], show markD D k0 0 = D from by funext i; simp [markD]]; exact h⟩
  case round =>
    obtain ⟨j, hj, rfl, rfl, hb, hod⟩ := hrel
    by_cases hlt : j < m
    · obtain ⟨g, rfl, hgl⟩ := owns_addr hod.ownI (by omega)
      have hBg : B ≤ g := (owns_block hod.ownI rfl).1
      have hgH : X g := hH 1 g (by omega) rfl
      have hlti : (j : Int) < (m : Int) := by omega
      have hq1 := kap_ge D k0 j
      have hq2 := kap_mono D k0 (show j + 1 ≤ m by omega)
      have hq3 : kap D k0 (j + 1) = kap D k0 j + (4 + (D j).nn + (D j).kn) := rfl
      obtain ⟨hs1, hs2⟩ := hsz j hlt
      generalize hq : kap D k0 j = q at *
      have HQ : Hid (kap D k0 j = q) := hq
      clear hq
      have hqb : q ≤ 90000000 := by omega
      have hDj : markD D k0 j j = D j := by simp [markD]
      obtain ⟨c0, c1, c2, c3, c4, c5⟩ := hod.cells hlt
      have f0 := hod.free (j * 6)
      have f1 := hod.free (j * 6 + 1)
      have f2 := hod.free (j * 6 + 2)
      have f5 := hod.free (j * 6 + 5)
      rw [hDj] at c1 c2 c3 c4 c5
      have H0 : Hid (FrS B X w wr ∧ OD wr B k Z m (markO D k0 O j) (markD D k0 j) L lv (.slice (some ⟨g, 0, none⟩) m ic)) := ⟨hb, hod⟩
      have H2 : Hid (FrS B X w ((wr.setCell ⟨g, j * 6, none⟩ (.int .i64 q)).setCell ⟨g, j * 6 + 1, none⟩ (.int .i64 ((q : Int) + 1))) ∧ OD ((wr.setCell ⟨g, j * 6, none⟩ (.int .i64 q)).setCell ⟨g, j * 6 + 1, none⟩ (.int .i64 ((q : Int) + 1))) B k Z m (fun i => if i = j then (q : Int) else markO D k0 O j i) (fun i => if i = j then { D j with kind := (q : Int) + 1 } else markD D k0 j i) L lv (.slice (some ⟨g, 0, none⟩) m ic)) := ⟨(hb.put _ hBg hgH).put _ hBg hgH, by have := (hod.putIno hlt (q : Int)).putKind hlt ((q : Int) + 1); rw [hDj] at this; exact this⟩
      clear hb hod H0
      go_wp2_with fail
      have e2 : (q : Int) + 1 + 1 = ((q + 2 : Nat) : Int) := by omega
      rw [e2]
      clear e2
      refine at_world (F := fun W => FrS B X w W ∧ OD W B k Z m (fun i => if i = j then (q : Int) else markO D k0 O j i) (fun i => if i = j then { D j with kind := (q : Int) + 1 } else markD D k0 j i) L lv (.slice (some ⟨g, 0, none⟩) m ic)) H2.out ?_
      clear H2 c0 c1 c2 c3 c4 c5 f0 f1 f2 f5
      rintro W2 ⟨hb2, hod2⟩
      refine (markText_any (q + 2) W2 (by omega) (by omega)).mono ?_
      rintro e W3 ⟨rfl, hb3⟩
      have hod3 := hod2.below hb3
      have hgl2 : g < W2.heap.size := (owns_block hod2.ownI rfl).2
      have hb3' : FrS B X w W3 := hb2.below (by omega) hb3
      obtain ⟨_, _, c2, _, _, _⟩ := hod3.cells hlt
      have f2 := hod3.free (j * 6 + 2)
      have c2' : W3.cell? ⟨g, j * 6 + 2, none⟩ = some (.string (D j).text) := by rw [c2]; simp
      have H4 : Hid (FrS B X w (W3.setCell ⟨g, j * 6 + 2, none⟩ (.string ⟨(markOf (q + 2)).toArray⟩)) ∧ OD (W3.setCell ⟨g, j * 6 + 2, none⟩ (.string ⟨(markOf (q + 2)).toArray⟩)) B k Z m (fun i => if i = j then (q : Int) else markO D k0 O j i) (fun i => if i = j then { D j with kind := (q : Int) + 1, text := ⟨(markOf (q + 2)).toArray⟩ } else markD D k0 j i) L lv (.slice (some ⟨g, 0, none⟩) m ic)) := ⟨hb3'.put _ hBg hgH, by
        have := hod3.putText hlt ⟨(markOf (q + 2)).toArray⟩
        rw [show (fun i => if i = j then { D j with kind := (q : Int) + 1, text := ⟨(markOf (q + 2)).toArray⟩ } else markD D k0 j i) = (fun i => if i = j then { (fun i => if i = j then { D j with kind := (q : Int) + 1 } else markD D k0 j i) j with text := ⟨(markOf (q + 2)).toArray⟩ } else (fun i => if i = j then { D j with kind := (q : Int) + 1 } else markD D k0 j i) i) from by
          funext i
          by_cases e : i = j <;> simp [e]]
        exact this⟩
      obtain ⟨_, _, _, c3, c4, _⟩ := H4.out.2.cells hlt
      have c3' : (W3.setCell ⟨g, j * 6 + 2, none⟩ (.string ⟨(markOf (q + 2)).toArray⟩)).cell? ⟨g, j * 6 + 3, none⟩ = some (.slice (L j).nA (D j).nn (L j).nc) := by rw [c3]; simp
      have d3 : W3.cell? ⟨g, j * 6 + 3, none⟩ = some (.slice (L j).nA (D j).nn (L j).nc) := by
        obtain ⟨_, _, _, c3, _, _⟩ := hod3.cells hlt
        rw [c3]; simp
      clear c2 c3 c4 c3' hod2 hod3 hb2 hb3 hb3'
      go_wp2_with fail
      have e3 : (q : Int) + 2 + 1 = ((q + 3 : Nat) : Int) := by omega
      rw [e3]
      clear e3
      refine at_world (F := fun W => FrS B X w W ∧ OD W B k Z m (fun i => if i = j then (q : Int) else markO D k0 O j i) (fun i => if i = j then { D j with kind := (q : Int) + 1, text := ⟨(markOf (q + 2)).toArray⟩ } else markD D k0 j i) L lv (.slice (some ⟨g, 0, none⟩) m ic)) H4.out ?_
      clear H4 c2' d3 f2
      rintro W4 ⟨hb4, hod4⟩
      have hN4 : W4.ownsRow B 9 1 (.slice (L j).nA (D j).nn (L j).nc) (D j).nn (strv (lst (D j).nn (D j).names)) := by simpa using hod4.ownN hlt
      have hgl4 : g < W4.heap.size := (owns_block hod4.ownI rfl).2
      refine (markStringS_own (L j).nA (D j).nn (L j).nc (q + 3) B (D j).names W4 hN4 hs1 (by omega) (by omega)).mono ?_
      rintro e W5 ⟨rfl, hown5, hg5⟩
      have hb5 : FrS B X w W5 := hb4.grow hg5 (by omega) (fun b e => ⟨(owns_block hN4 e).1, hH (2 + 2 * j) b (by omega) (by rw [valD_n]; exact e)⟩)
      have hod5 : OD W5 B k Z m (fun i => if i = j then (q : Int) else markO D k0 O j i) (fun i => if i = j then { D j with kind := (q : Int) + 1, text := ⟨(markOf (q + 2)).toArray⟩, names := marks (q + 3) } else markD D k0 j i) L lv (.slice (some ⟨g, 0, none⟩) m ic) := by
        have := hod4.turnNames hlt (marks (q + 3)) (by simpa using hg5) (by simpa using hown5)
        rw [show (fun i => if i = j then { D j with kind := (q : Int) + 1, text := ⟨(markOf (q + 2)).toArray⟩, names := marks (q + 3) } else markD D k0 j i) = (fun i => if i = j then { (fun i => if i = j then { D j with kind := (q : Int) + 1, text := ⟨(markOf (q + 2)).toArray⟩ } else markD D k0 j i) j with names := marks (q + 3) } else (fun i => if i = j then { D j with kind := (q : Int) + 1, text := ⟨(markOf (q + 2)).toArray⟩ } else markD D k0 j i) i) from by
          funext i
          by_cases e : i = j <;> simp [e]]
        exact this
      obtain ⟨_, _, _, _, c4, _⟩ := hod5.cells hlt
      have c4' : W5.cell? ⟨g, j * 6 + 4, none⟩ = some (.slice (L j).kA (D j).kn (L j).kc) := by rw [c4]; simp
      have hK5 : W5.ownsRow B 3 1 (.slice (L j).kA (D j).kn (L j).kc) (D j).kn (intv0 (D j).kn (D j).kids) := by simpa using hod5.ownK hlt
      have hgl5 : g < W5.heap.size := (owns_block hod5.ownI rfl).2
      have H5 : Hid (FrS B X w W5 ∧ OD W5 B k Z m (fun i => if i = j then (q : Int) else markO D k0 O j i) (fun i => if i = j then { D j with kind := (q : Int) + 1, text := ⟨(markOf (q + 2)).toArray⟩, names := marks (q + 3) } else markD D k0 j i) L lv (.slice (some ⟨g, 0, none⟩) m ic)) := ⟨hb5, hod5⟩
      have HK5 : Hid _ := hK5
      clear hb4 hod4 hN4 hown5 hg5 hb5 hod5 c4 hK5
      go_wp2_with fail
      refine (markIntS_own (L j).kA (D j).kn (L j).kc (q + 3 + (D j).nn) B (D j).kids W5 HK5.out hs2 (by omega)).mono ?_
      rintro e W6 ⟨rfl, hown6, hg6⟩
      have hb6 : FrS B X w W6 := H5.out.1.grow hg6 (by omega) (fun b e => ⟨(owns_block HK5.out e).1, hH (3 + 2 * j) b (by omega) (by rw [valD_k]; exact e)⟩)
      have hod6 : OD W6 B k Z m (fun i => if i = j then (q : Int) else markO D k0 O j i) (fun i => if i = j then { D j with kind := (q : Int) + 1, text := ⟨(markOf (q + 2)).toArray⟩, names := marks (q + 3), kids := fun i => ((q + 3 + (D j).nn + i : Nat) : Int) } else markD D k0 j i) L lv (.slice (some ⟨g, 0, none⟩) m ic) := by
        have := H5.out.2.turnKids hlt (fun i => ((q + 3 + (D j).nn + i : Nat) : Int)) (by simpa using hg6) (by simpa using hown6)
        rw [show (fun i => if i = j then { D j with kind := (q : Int) + 1, text := ⟨(markOf (q + 2)).toArray⟩, names := marks (q + 3), kids := fun i => ((q + 3 + (D j).nn + i : Nat) : Int) } else markD D k0 j i) = (fun i => if i = j then { (fun i => if i = j then { D j with kind := (q : Int) + 1, text := ⟨(markOf (q + 2)).toArray⟩, names := marks (q + 3) } else markD D k0 j i) j with kids := fun i => ((q + 3 + (D j).nn + i : Nat) : Int) } else (fun i => if i = j then { D j with kind := (q : Int) + 1, text := ⟨(markOf (q + 2)).toArray⟩, names := marks (q + 3) } else markD D k0 j i) i) from by
          funext i
          by_cases e : i = j <;> simp [e]]
        exact this
      obtain ⟨_, _, _, _, _, c5⟩ := hod6.cells hlt
      have c5' : W6.cell? ⟨g, j * 6 + 5, none⟩ = some (.int .i64 (D j).turn) := by rw [c5]; simp
      have f5 := hod6.free (j * 6 + 5)
      have H7 : Hid (FrS B X w (W6.setCell ⟨g, j * 6 + 5, none⟩ (.int .i64 ((q + 3 + (D j).nn + (D j).kn : Nat) : Int))) ∧ OD (W6.setCell ⟨g, j * 6 + 5, none⟩ (.int .i64 ((q + 3 + (D j).nn + (D j).kn : Nat) : Int))) B k Z m (markO D k0 O (j + 1)) (markD D k0 (j + 1)) L lv (.slice (some ⟨g, 0, none⟩) m ic)) := ⟨hb6.put _ hBg hgH, by
        have := hod6.putTurn hlt ((q + 3 + (D j).nn + (D j).kn : Nat) : Int)
        rw [show markO D k0 O (j + 1) = (fun i => if i = j then (q : Int) else markO D k0 O j i) from by
          funext i
          by_cases e : i = j
          · subst e; simp [markO, HQ.out]
          · by_cases e2 : i < j
            · simp [markO, e, e2, show i < j + 1 by omega]
            · simp [markO, e, e2, show ¬ i < j + 1 by omega], show markD D k0 (j + 1) = (fun i => if i = j then { (fun i => if i = j then { D j with kind := (q : Int) + 1, text := ⟨(markOf (q + 2)).toArray⟩, names := marks (q + 3), kids := fun i => ((q + 3 + (D j).nn + i : Nat) : Int) } else markD D k0 j i) j with turn := ((q + 3 + (D j).nn + (D j).kn : Nat) : Int) } else (fun i => if i = j then { D j with kind := (q : Int) + 1, text := ⟨(markOf (q + 2)).toArray⟩, names := marks (q + 3), kids := fun i => ((q + 3 + (D j).nn + i : Nat) : Int) } else markD D k0 j i) i) from by
          funext i
          by_cases e : i = j
          · subst e; simp [markD, markNd, HQ.out]
          · by_cases e2 : i < j
            · simp [markD, e, e2, show i < j + 1 by omega]
            · simp [markD, e, e2, show ¬ i < j + 1 by omega]]
        exact this⟩
      have HQ3 : Hid (kap D k0 (j + 1) = q + (4 + (D j).nn + (D j).kn)) := by show _ = _; rw [kap, HQ.out]
      clear hown6 hg6 hb6 hod6 c5 H5 HK5 c4' hq1 hq2 hq3
      go_wp2_with fail
      go_roundw
      case rel =>
        have h7 := H7.out
        rw [show ((q + 3 + (D j).nn + (D j).kn : Nat) : Int) = (q : Int) + 3 + ((D j).nn : Int) + ((D j).kn : Int) from by omega] at h7
        exact ⟨j + 1, by omega, by go_num, by rw [HQ3.out]; go_num, h7.1, h7.2⟩
      case measure => simp [intOf]; omega
    · obtain rfl : j = m := by omega
      have HR : Hid _ := And.intro hb hod
      clear hb hod
      go_wp2
      go_ret
      exact ⟨rfl, HR.out.1, HR.out.2⟩

theorem markItemS_own (H : Nat) (ia : Option Addr) (m ic k0 B k : Nat) (Z : Nat → Bool) (O : Nat → Int) (D : Nat → Nd) (L : Nat → Loc) (lv : Value) (w : World) (h : OD w B k Z m O D L lv (.slice ia m ic)) (hm : m ≤ 1048576) (hk1 : 1 ≤ k0) (hH : ∀ d b, d < 2 + 2 * m → (valD lv (.slice ia m ic) D L d).ownBlock = some b → b < H) (hkap : kap D k0 m ≤ 90000000) (hsz : ∀ i, i < m → (D i).nn ≤ 1048576 ∧ (D i).kn ≤ 1048576) :
    Calls Tryz.prog 37 #[.slice ia m ic, .int .i64 k0] w fun e w' => e = .returned (.int .i64 (kap D k0 m : Nat)) ∧ Fr B H w w' ∧ OD w' B k Z m (markO D k0 O m) (markD D k0 m) L lv (.slice ia m ic) :=
  (markItemS_ownS (fun b => b < H) ia m ic k0 B k Z O D L lv w h hm hk1 hH hkap hsz).mono fun e w' ⟨h1, h2, h3⟩ => ⟨h1, h2.fr fun _ e => e, h3⟩
end Go.Proofs.YtakifcobofkheabGreatDoor

/-
  What is kept and holds its marks is told to.
-/
namespace Go.Proofs.YtakifcobofkheabGreatDoor
open Go.RowKit Go.Deep
set_option linter.unusedVariables false
set_option linter.unusedSimpArgs false

theorem ownd_strs {w : World} {B n c : Nat} {a : Option Addr} {S : Nat → ByteArray} (h : w.ownsRow B 9 1 (.slice a n c) n (strv (lst n S))) : IsStrs w a n S := by
  by_cases hn : n = 0
  · exact Or.inl hn
  · obtain ⟨g, rfl, hg⟩ := owns_addr h (by omega)
    exact Or.inr ⟨g, 0, rfl, hg, fun i hi => by rw [Nat.zero_add, h.cellAt i (by omega)]; simp [strv, lst, hi]⟩

theorem ownd_ints {w : World} {B n c : Nat} {a : Option Addr} {Z : Nat → Int} (h : w.ownsRow B 3 1 (.slice a n c) n (intv0 n Z)) : IsInts w a n Z := by
  by_cases hn : n = 0
  · exact Or.inl hn
  · obtain ⟨g, rfl, hg⟩ := owns_addr h (by omega)
    exact Or.inr ⟨g, 0, rfl, hg, fun i hi => by rw [Nat.zero_add, h.cellAt i (by omega)]; simp [intv0, hi]⟩

theorem ownd_bools {w : World} {B n c : Nat} {a : Option Addr} {Z : Nat → Bool} (h : w.ownsRow B 4 1 (.slice a n c) n (boolv n Z)) : IsBools w a n Z := by
  by_cases hn : n = 0
  · exact Or.inl hn
  · obtain ⟨g, rfl, hg⟩ := owns_addr h (by omega)
    exact Or.inr ⟨g, 0, rfl, hg, fun i hi => by rw [Nat.zero_add, h.cellAt i (by omega)]; simp [boolv, hi]⟩
end Go.Proofs.YtakifcobofkheabGreatDoor

/-
  What markTree does at a tree in memory of one's own, and what heldTree tells of it.
-/
namespace Go.Proofs.YtakifcobofkheabGreatDoor
open Go.RowKit Go.Deep
set_option linter.unusedVariables false
set_option linter.unusedSimpArgs false

/-- The first mark of place j. -/
def kaT (D : Nat → Nd) (k0 : Nat) : Nat → Nat | 0 => k0 | j + 1 => kaT D k0 j + (3 + (D j).nn + (D j).kn)
/-- A place, marked from q on. -/
def markNt (d : Nd) (q : Nat) : Nd := ⟨((q : Nat) : Int), ⟨(markOf (q + 1)).toArray⟩, d.nn, marks (q + 2), d.kn, fun i => ((q + 2 + d.nn + i : Nat) : Int), ((q + 2 + d.nn + d.kn : Nat) : Int)⟩
def markT (D : Nat → Nd) (k0 j : Nat) : Nat → Nd := fun i => if i < j then markNt (D i) (kaT D k0 i) else D i

theorem kaT_mono (D : Nat → Nd) (k0 : Nat) {i j : Nat} (h : i ≤ j) : kaT D k0 i ≤ kaT D k0 j := by
  induction h with
  | refl => exact Nat.le_refl _
  | step _ ih => rw [kaT]; omega

theorem valT_n {lv iv : Value} {D : Nat → Nd} {L : Nat → Loc} {j : Nat} : valT lv iv D L (2 + 2 * j) = .slice (L j).nA (D j).nn (L j).nc := by unfold valT; rw [if_neg (by omega), if_neg (by omega), if_pos (by omega), show (2 + 2 * j - 2) / 2 = j by omega]
theorem valT_k {lv iv : Value} {D : Nat → Nd} {L : Nat → Loc} {j : Nat} : valT lv iv D L (3 + 2 * j) = .slice (L j).kA (D j).kn (L j).kc := by unfold valT; rw [if_neg (by omega), if_neg (by omega), if_neg (by omega), show (3 + 2 * j - 2) / 2 = j by omega]

theorem kaT_ge (D : Nat → Nd) (k0 i : Nat) : k0 ≤ kaT D k0 i := kaT_mono D k0 (Nat.zero_le i)

set_option maxRecDepth 100000 in
set_option maxHeartbeats 4000000 in
theorem markNodeS_ownS (X : Nat → Prop) (ia : Option Addr) (m ic k0 B k : Nat) (Z : Nat → Bool) (O : Nat → Int) (D : Nat → Nd) (L : Nat → Loc) (lv : Value) (w : World) (h : OT w B k Z m O D L lv (.slice ia m ic)) (hm : m ≤ 1048576) (hk1 : 1 ≤ k0) (hH : ∀ d b, d < 2 + 2 * m → (valT lv (.slice ia m ic) D L d).ownBlock = some b → X b) (hkaT : kaT D k0 m ≤ 90000000) (hsz : ∀ i, i < m → (D i).nn ≤ 1048576 ∧ (D i).kn ≤ 1048576) :
    Calls Tryz.prog 48 #[.slice ia m ic, .int .i64 k0] w fun e w' => e = .returned (.int .i64 (kaT D k0 m : Nat)) ∧ FrS B X w w' ∧ OT w' B k Z m O (markT D k0 m) L lv (.slice ia m ic) := by
  go_enter Tryz.func48, Tryz.ntmps48
  go_wp2
  go_loopw [1, 5] (fun kk i wr => ∃ j : Nat, j ≤ m ∧ i = .int .i64 j ∧ kk = .int .i64 (kaT D k0 j : Nat) ∧ FrS B X w wr ∧ OT wr B k Z m O (markT D k0 j) L lv (.slice ia m ic)) (fun _ i _ => m - (intOf i).toNat)
  case atStart => exact ⟨0, Nat.zero_le _, rfl, rfl, FrS.refl _ _ _, by rw [show markT D k0 0 = D from by funext i; simp [markT]]; exact h⟩
  case round =>
    obtain ⟨j, hj, rfl, rfl, hb, hod⟩ := hrel
    by_cases hlt : j < m
    · obtain ⟨g, rfl, hgl⟩ := owns_addr hod.ownI (by omega)
      have hBg : B ≤ g := (owns_block hod.ownI rfl).1
      have hgH : X g := hH 1 g (by omega) rfl
      have hlti : (j : Int) < (m : Int) := by omega
      have hq1 := kaT_ge D k0 j
      have hq2 := kaT_mono D k0 (show j + 1 ≤ m by omega)
      have hq3 : kaT D k0 (j + 1) = kaT D k0 j + (3 + (D j).nn + (D j).kn) := rfl
      obtain ⟨hs1, hs2⟩ := hsz j hlt
      generalize hq : kaT D k0 j = q at *
      have HQ : Hid (kaT D k0 j = q) := hq
      clear hq
      have hqb : q ≤ 90000000 := by omega
      have hDj : markT D k0 j j = D j := by simp [markT]
      obtain ⟨c1, c2, c3, c4, c5⟩ := hod.cells hlt
      have f1 := hod.free (j * 5)
      have f2 := hod.free (j * 5 + 1)
      have f5 := hod.free (j * 5 + 4)
      rw [hDj] at c1 c2 c3 c4 c5
      have H0 : Hid (FrS B X w wr ∧ OT wr B k Z m O (markT D k0 j) L lv (.slice (some ⟨g, 0, none⟩) m ic)) := ⟨hb, hod⟩
      have H2 : Hid (FrS B X w (wr.setCell ⟨g, j * 5, none⟩ (.int .i64 (q : Int))) ∧ OT (wr.setCell ⟨g, j * 5, none⟩ (.int .i64 (q : Int))) B k Z m O (fun i => if i = j then { D j with kind := (q : Int) } else markT D k0 j i) L lv (.slice (some ⟨g, 0, none⟩) m ic)) := ⟨hb.put _ hBg hgH, by have := hod.putKind hlt (q : Int); rw [hDj] at this; exact this⟩
      clear hb hod H0
      go_wp2_with fail
      have e2 : (q : Int) + 1 = ((q + 1 : Nat) : Int) := by omega
      rw [e2]
      clear e2
      refine at_world (F := fun W => FrS B X w W ∧ OT W B k Z m O (fun i => if i = j then { D j with kind := (q : Int) } else markT D k0 j i) L lv (.slice (some ⟨g, 0, none⟩) m ic)) H2.out ?_
      clear H2 c1 c2 c3 c4 c5 f1 f2 f5
      rintro W2 ⟨hb2, hod2⟩
      refine (markText_any (q + 1) W2 (by omega) (by omega)).mono ?_
      rintro e W3 ⟨rfl, hb3⟩
      have hod3 := hod2.below hb3
      have hgl2 : g < W2.heap.size := (owns_block hod2.ownI rfl).2
      have hb3' : FrS B X w W3 := hb2.below (by omega) hb3
      obtain ⟨_, c2, _, _, _⟩ := hod3.cells hlt
      have f2 := hod3.free (j * 5 + 1)
      have c2' : W3.cell? ⟨g, j * 5 + 1, none⟩ = some (.string (D j).text) := by rw [c2]; simp
      have H4 : Hid (FrS B X w (W3.setCell ⟨g, j * 5 + 1, none⟩ (.string ⟨(markOf (q + 1)).toArray⟩)) ∧ OT (W3.setCell ⟨g, j * 5 + 1, none⟩ (.string ⟨(markOf (q + 1)).toArray⟩)) B k Z m O (fun i => if i = j then { D j with kind := (q : Int), text := ⟨(markOf (q + 1)).toArray⟩ } else markT D k0 j i) L lv (.slice (some ⟨g, 0, none⟩) m ic)) := ⟨hb3'.put _ hBg hgH, by
        have := hod3.putText hlt ⟨(markOf (q + 1)).toArray⟩
        rw [show (fun i => if i = j then { D j with kind := (q : Int), text := ⟨(markOf (q + 1)).toArray⟩ } else markT D k0 j i) = (fun i => if i = j then { (fun i => if i = j then { D j with kind := (q : Int) } else markT D k0 j i) j with text := ⟨(markOf (q + 1)).toArray⟩ } else (fun i => if i = j then { D j with kind := (q : Int) } else markT D k0 j i) i) from by
          funext i
          by_cases e : i = j <;> simp [e]]
        exact this⟩
      obtain ⟨_, _, c3, c4, _⟩ := H4.out.2.cells hlt
      have c3' : (W3.setCell ⟨g, j * 5 + 1, none⟩ (.string ⟨(markOf (q + 1)).toArray⟩)).cell? ⟨g, j * 5 + 2, none⟩ = some (.slice (L j).nA (D j).nn (L j).nc) := by rw [c3]; simp
      have d3 : W3.cell? ⟨g, j * 5 + 2, none⟩ = some (.slice (L j).nA (D j).nn (L j).nc) := by
        obtain ⟨_, _, c3, _, _⟩ := hod3.cells hlt
        rw [c3]; simp
      clear c2 c3 c4 c3' hod2 hod3 hb2 hb3 hb3'
      go_wp2_with fail
      have e3 : (q : Int) + 1 + 1 = ((q + 2 : Nat) : Int) := by omega
      rw [e3]
      clear e3
      refine at_world (F := fun W => FrS B X w W ∧ OT W B k Z m O (fun i => if i = j then { D j with kind := (q : Int), text := ⟨(markOf (q + 1)).toArray⟩ } else markT D k0 j i) L lv (.slice (some ⟨g, 0, none⟩) m ic)) H4.out ?_
      clear H4 c2' d3 f2
      rintro W4 ⟨hb4, hod4⟩
      have hN4 : W4.ownsRow B 9 1 (.slice (L j).nA (D j).nn (L j).nc) (D j).nn (strv (lst (D j).nn (D j).names)) := by simpa using hod4.ownN hlt
      have hgl4 : g < W4.heap.size := (owns_block hod4.ownI rfl).2
      refine (markStringS_own (L j).nA (D j).nn (L j).nc (q + 2) B (D j).names W4 hN4 hs1 (by omega) (by omega)).mono ?_
      rintro e W5 ⟨rfl, hown5, hg5⟩
      have hb5 : FrS B X w W5 := hb4.grow hg5 (by omega) (fun b e => ⟨(owns_block hN4 e).1, hH (2 + 2 * j) b (by omega) (by rw [valT_n]; exact e)⟩)
      have hod5 : OT W5 B k Z m O (fun i => if i = j then { D j with kind := (q : Int), text := ⟨(markOf (q + 1)).toArray⟩, names := marks (q + 2) } else markT D k0 j i) L lv (.slice (some ⟨g, 0, none⟩) m ic) := by
        have := hod4.turnNames hlt (marks (q + 2)) (by simpa using hg5) (by simpa using hown5)
        rw [show (fun i => if i = j then { D j with kind := (q : Int), text := ⟨(markOf (q + 1)).toArray⟩, names := marks (q + 2) } else markT D k0 j i) = (fun i => if i = j then { (fun i => if i = j then { D j with kind := (q : Int), text := ⟨(markOf (q + 1)).toArray⟩ } else markT D k0 j i) j with names := marks (q + 2) } else (fun i => if i = j then { D j with kind := (q : Int), text := ⟨(markOf (q + 1)).toArray⟩ } else markT D k0 j i) i) from by
          funext i
          by_cases e : i = j <;> simp [e]]
        exact this
      obtain ⟨_, _, _, c4, _⟩ := hod5.cells hlt
      have c4' : W5.cell? ⟨g, j * 5 + 3, none⟩ = some (.slice (L j).kA (D j).kn (L j).kc) := by rw [c4]; simp
      have hK5 : W5.ownsRow B 3 1 (.slice (L j).kA (D j).kn (L j).kc) (D j).kn (intv0 (D j).kn (D j).kids) := by simpa using hod5.ownK hlt
      have hgl5 : g < W5.heap.size := (owns_block hod5.ownI rfl).2
      have H5 : Hid (FrS B X w W5 ∧ OT W5 B k Z m O (fun i => if i = j then { D j with kind := (q : Int), text := ⟨(markOf (q + 1)).toArray⟩, names := marks (q + 2) } else markT D k0 j i) L lv (.slice (some ⟨g, 0, none⟩) m ic)) := ⟨hb5, hod5⟩
      have HK5 : Hid _ := hK5
      clear hb4 hod4 hN4 hown5 hg5 hb5 hod5 c4 hK5
      go_wp2_with fail
      refine (markIntS_own (L j).kA (D j).kn (L j).kc (q + 2 + (D j).nn) B (D j).kids W5 HK5.out hs2 (by omega)).mono ?_
      rintro e W6 ⟨rfl, hown6, hg6⟩
      have hb6 : FrS B X w W6 := H5.out.1.grow hg6 (by omega) (fun b e => ⟨(owns_block HK5.out e).1, hH (3 + 2 * j) b (by omega) (by rw [valT_k]; exact e)⟩)
      have hod6 : OT W6 B k Z m O (fun i => if i = j then { D j with kind := (q : Int), text := ⟨(markOf (q + 1)).toArray⟩, names := marks (q + 2), kids := fun i => ((q + 2 + (D j).nn + i : Nat) : Int) } else markT D k0 j i) L lv (.slice (some ⟨g, 0, none⟩) m ic) := by
        have := H5.out.2.turnKids hlt (fun i => ((q + 2 + (D j).nn + i : Nat) : Int)) (by simpa using hg6) (by simpa using hown6)
        rw [show (fun i => if i = j then { D j with kind := (q : Int), text := ⟨(markOf (q + 1)).toArray⟩, names := marks (q + 2), kids := fun i => ((q + 2 + (D j).nn + i : Nat) : Int) } else markT D k0 j i) = (fun i => if i = j then { (fun i => if i = j then { D j with kind := (q : Int), text := ⟨(markOf (q + 1)).toArray⟩, names := marks (q + 2) } else markT D k0 j i) j with kids := fun i => ((q + 2 + (D j).nn + i : Nat) : Int) } else (fun i => if i = j then { D j with kind := (q : Int), text := ⟨(markOf (q + 1)).toArray⟩, names := marks (q + 2) } else markT D k0 j i) i) from by
          funext i
          by_cases e : i = j <;> simp [e]]
        exact this
      obtain ⟨_, _, _, _, c5⟩ := hod6.cells hlt
      have c5' : W6.cell? ⟨g, j * 5 + 4, none⟩ = some (.int .i64 (D j).turn) := by rw [c5]; simp
      have f5 := hod6.free (j * 5 + 4)
      have H7 : Hid (FrS B X w (W6.setCell ⟨g, j * 5 + 4, none⟩ (.int .i64 ((q + 2 + (D j).nn + (D j).kn : Nat) : Int))) ∧ OT (W6.setCell ⟨g, j * 5 + 4, none⟩ (.int .i64 ((q + 2 + (D j).nn + (D j).kn : Nat) : Int))) B k Z m O (markT D k0 (j + 1)) L lv (.slice (some ⟨g, 0, none⟩) m ic)) := ⟨hb6.put _ hBg hgH, by
        have := hod6.putTurn hlt ((q + 2 + (D j).nn + (D j).kn : Nat) : Int)
        rw [show markT D k0 (j + 1) = (fun i => if i = j then { (fun i => if i = j then { D j with kind := (q : Int), text := ⟨(markOf (q + 1)).toArray⟩, names := marks (q + 2), kids := fun i => ((q + 2 + (D j).nn + i : Nat) : Int) } else markT D k0 j i) j with turn := ((q + 2 + (D j).nn + (D j).kn : Nat) : Int) } else (fun i => if i = j then { D j with kind := (q : Int), text := ⟨(markOf (q + 1)).toArray⟩, names := marks (q + 2), kids := fun i => ((q + 2 + (D j).nn + i : Nat) : Int) } else markT D k0 j i) i) from by
          funext i
          by_cases e : i = j
          · subst e; simp [markT, markNt, HQ.out]
          · by_cases e2 : i < j
            · simp [markT, e, e2, show i < j + 1 by omega]
            · simp [markT, e, e2, show ¬ i < j + 1 by omega]]
        exact this⟩
      have HQ3 : Hid (kaT D k0 (j + 1) = q + (3 + (D j).nn + (D j).kn)) := by show _ = _; rw [kaT, HQ.out]
      clear hown6 hg6 hb6 hod6 c5 H5 HK5 c4' hq1 hq2 hq3
      go_wp2_with fail
      go_roundw
      case rel =>
        have h7 := H7.out
        rw [show ((q + 2 + (D j).nn + (D j).kn : Nat) : Int) = (q : Int) + 2 + ((D j).nn : Int) + ((D j).kn : Int) from by omega] at h7
        exact ⟨j + 1, by omega, by go_num, by rw [HQ3.out]; go_num, h7.1, h7.2⟩
      case measure => simp [intOf]; omega
    · obtain rfl : j = m := by omega
      have HR : Hid _ := And.intro hb hod
      clear hb hod
      go_wp2
      go_ret
      exact ⟨rfl, HR.out.1, HR.out.2⟩

theorem markNodeS_own (H : Nat) (ia : Option Addr) (m ic k0 B k : Nat) (Z : Nat → Bool) (O : Nat → Int) (D : Nat → Nd) (L : Nat → Loc) (lv : Value) (w : World) (h : OT w B k Z m O D L lv (.slice ia m ic)) (hm : m ≤ 1048576) (hk1 : 1 ≤ k0) (hH : ∀ d b, d < 2 + 2 * m → (valT lv (.slice ia m ic) D L d).ownBlock = some b → b < H) (hkaT : kaT D k0 m ≤ 90000000) (hsz : ∀ i, i < m → (D i).nn ≤ 1048576 ∧ (D i).kn ≤ 1048576) :
    Calls Tryz.prog 48 #[.slice ia m ic, .int .i64 k0] w fun e w' => e = .returned (.int .i64 (kaT D k0 m : Nat)) ∧ Fr B H w w' ∧ OT w' B k Z m O (markT D k0 m) L lv (.slice ia m ic) :=
  (markNodeS_ownS (fun b => b < H) ia m ic k0 B k Z O D L lv w h hm hk1 hH hkaT hsz).mono fun e w' ⟨h1, h2, h3⟩ => ⟨h1, h2.fr fun _ e => e, h3⟩

set_option maxRecDepth 100000 in
set_option maxHeartbeats 4000000 in
theorem heldNodeS_own (ia : Option Addr) (m ic k0 B k : Nat) (Z : Nat → Bool) (O : Nat → Int) (D : Nat → Nd) (L : Nat → Loc) (lv : Value) (w : World) (h : OT w B k Z m O (markT D k0 m) L lv (.slice ia m ic)) (hm : m ≤ 1048576) (hk1 : 1 ≤ k0) (hkaT : kaT D k0 m ≤ 90000000) (hsz : ∀ i, i < m → (D i).nn ≤ 1000000 ∧ (D i).kn ≤ 1000000) :
    Calls Tryz.prog 49 #[.slice ia m ic, .int .i64 k0] w fun e w' => e = .returned (.int .i64 (kaT D k0 m : Nat)) ∧ Below w.heap.size w w' := by
  go_enter Tryz.func49, Tryz.ntmps49
  go_wp2
  go_loopw [1, 5] (fun kk i wr => ∃ j : Nat, j ≤ m ∧ i = .int .i64 j ∧ kk = .int .i64 (kaT D k0 j : Nat) ∧ Below w.heap.size w wr) (fun _ i _ => m - (intOf i).toNat)
  case atStart => exact ⟨0, Nat.zero_le _, rfl, rfl, Below.refl _ _⟩
  case round =>
    obtain ⟨j, hj, rfl, rfl, hb⟩ := hrel
    by_cases hlt : j < m
    · have hod := h.below hb
      obtain ⟨g, rfl, hgl⟩ := owns_addr hod.ownI (by omega)
      have hlti : (j : Int) < (m : Int) := by omega
      have hq1 := kaT_ge D k0 j
      have hq2 := kaT_mono D k0 (show j + 1 ≤ m by omega)
      have hq3 : kaT D k0 (j + 1) = kaT D k0 j + (3 + (D j).nn + (D j).kn) := rfl
      obtain ⟨hs1, hs2⟩ := hsz j hlt
      have hDj : markT D k0 m j = markNt (D j) (kaT D k0 j) := by simp [markT, hlt]
      generalize hq : kaT D k0 j = q at *
      have HQ : Hid (kaT D k0 j = q) := hq
      clear hq
      have hqb : q ≤ 90000000 := by omega
      have HQ3 : Hid (kaT D k0 (j + 1) = q + (3 + (D j).nn + (D j).kn)) := hq3
      have HC : Hid (∀ W, Below wr.heap.size wr W → W.cell? ⟨g, j * 5, none⟩ = some (.int .i64 ((q : Int))) ∧ W.cell? ⟨g, j * 5 + 1, none⟩ = some (.string ⟨(markOf (q + 1)).toArray⟩) ∧
        W.cell? ⟨g, j * 5 + 2, none⟩ = some (.slice (L j).nA (D j).nn (L j).nc) ∧ W.cell? ⟨g, j * 5 + 3, none⟩ = some (.slice (L j).kA (D j).kn (L j).kc) ∧ W.cell? ⟨g, j * 5 + 4, none⟩ = some (.int .i64 ((q : Int) + 2 + ((D j).nn : Int) + ((D j).kn : Int))) ∧
        IsStrs W (L j).nA (D j).nn (marks (q + 2)) ∧ IsInts W (L j).kA (D j).kn (fun i => ((q + 2 + (D j).nn + i : Nat) : Int)) ∧ Below w.heap.size w W) := fun W hW => by
        have hod2 := hod.below hW
        obtain ⟨c1, c2, c3, c4, c5⟩ := hod2.cells hlt
        have hn := hod2.ownN hlt
        have hk := hod2.ownK hlt
        rw [hDj] at c1 c2 c3 c4 c5 hn hk
        refine ⟨?_, c2, c3, c4, ?_, ownd_strs hn, ownd_ints hk, hb.trans (hW.mono hb.size)⟩
        · rw [c1]; simp [markNt]
        · rw [c5]; simp [markNt]
      clear hod hb hDj hq1 hq2 hq3
      obtain ⟨c1, c2, c3, c4, c5, _, _, _⟩ := HC.out wr (Below.refl _ _)
      have z1 : ((q : Int) != (q : Int)) = false := by simp
      have C2 := Lat.cell (B := wr.heap.size) c2 hgl
      have hcall : Hid (∀ nq : Lat wr.heap.size wr, Calls Tryz.prog 38 #[.int .i64 ((q : Int) + 1)] nq.val fun e w'' => e = .returned (.string ⟨(markOf (q + 1)).toArray⟩) ∧ ∃ m : Lat wr.heap.size wr, w'' = m.val) := fun nq => by
        have := Calls.lat_of (markText_any (q + 1) nq.val (by omega) (by omega)) (B := wr.heap.size) (w0 := wr) (fun e w' h => ⟨h.1, h.2.mono nq.bel.size⟩)
        rw [show ((q : Int) + 1) = ((q + 1 : Nat) : Int) from by omega]
        exact this
      have z2 : (!((⟨(markOf (q + 1)).toArray⟩ : ByteArray).toList == (⟨(markOf (q + 1)).toArray⟩ : ByteArray).toList)) = false := by simp
      go_wp2_with fail
      refine wp_region_lat (B := wr.heap.size) (w0 := wr) (by kernel_rfl) (by kernel_rfl) (Below.refl _ _) ?_
      repeat (go_big_quiet_step (exact hcall.out _))
      refine wpQuiet_nil ?_
      rintro _ ⟨nq, rfl⟩
      clear hcall C2 c1 c2 c3 c4 c5
      obtain ⟨_, _, c3, c4, c5, hs3, _, _⟩ := HC.out nq.val nq.bel
      go_wp2_with fail
      rw [show (q : Int) + 1 + 1 = ((q + 2 : Nat) : Int) from by omega]
      refine (heldStringS_any (L j).nA (D j).nn (L j).nc (q + 2) nq.val hs3 (by omega) (by omega) (by omega)).mono ?_
      rintro e W4 ⟨rfl, hb4⟩
      have hb4' : Below wr.heap.size wr W4 := nq.bel.trans (hb4.mono nq.bel.size)
      clear c3 c4 c5 hs3 hb4
      obtain ⟨_, _, _, c4, c5, _, hi4, hbw⟩ := HC.out W4 hb4'
      have y1 : decide (((q + 2 + (D j).nn : Nat) : Int) < 0) = false := by simp; omega
      have HB4 : Hid (Below w.heap.size w W4) := hbw
      clear hbw hb4' HC
      go_wp2_with fail
      refine (heldIntS_own (L j).kA (D j).kn (L j).kc (q + 2 + (D j).nn) W4 hi4 (by omega) (by omega)).mono ?_
      rintro e W5 ⟨rfl, rfl⟩
      have y2 : decide (((q + 2 + (D j).nn + (D j).kn : Nat) : Int) < 0) = false := by simp; omega
      have y3 : ((q : Int) + 2 + ((D j).nn : Int) + ((D j).kn : Int) != (q : Int) + 2 + ((D j).nn : Int) + ((D j).kn : Int)) = false := by simp
      clear hi4 y1
      go_wp2_with fail
      go_roundw
      case rel => exact ⟨j + 1, by omega, by go_num, by rw [HQ3.out]; go_num, HB4.out⟩
      case measure => simp [intOf]; omega
    · obtain rfl : j = m := by omega
      have HR : Hid _ := hb
      clear hb
      go_wp2
      go_ret
      exact ⟨rfl, HR.out⟩


set_option maxHeartbeats 2000000 in
theorem markTree_ownS (a : Option Addr) (n c k0 B : Nat) (now : Int) (O : Nat → Int) (D : Nat → Nd) (L : Nat → Loc) (w : World) (h : OT w B 0 (fun _ => false) n O D L (.slice none 0 0) (.slice a n c)) (hn : n ≤ 1048576) (hk1 : 1 ≤ k0) (hkap : kaT D k0 n ≤ 90000000) (hsz : ∀ i, i < n → (D i).nn ≤ 1048576 ∧ (D i).kn ≤ 1048576) (hB : B ≤ w.heap.size) (X : Nat → Prop) (hH : ∀ d b, d < 2 + 2 * n → (valT (.slice none 0 0) (.slice a n c) D L d).ownBlock = some b → X b) :
    Calls Tryz.prog 25 #[trV a n c now, .int .i64 k0] w fun e w' => e = .returned (.int .i64 (kaT D k0 n : Nat)) ∧ FrS B X w w' ∧ OT w' B 0 (fun _ => false) n O (markT D k0 n) L (.slice none 0 0) (.slice a n c) := by
  unfold trV
  go_enter Tryz.func25, Tryz.ntmps25
  go_wp2_with fail
  refine at_world (F := New1 w _ _) (new1 w _ _) ?_
  rintro W ⟨hp, hb, hs⟩
  refine (markNodeS_ownS X a n c k0 B 0 (fun _ => false) O D L (.slice none 0 0) W (h.below hb) hn hk1 hH hkap hsz).mono ?_
  rintro e W3 ⟨rfl, hb3, hod3⟩
  have H3 : Hid (FrS B X w W3 ∧ OT W3 B 0 (fun _ => false) n O (markT D k0 n) L (.slice none 0 0) (.slice a n c)) := ⟨⟨(hb.mono hB).trans hb3.bel, fun j hj hl => (hb3.far j hj (by omega)).trans (hb.block j hl)⟩, hod3⟩
  clear hb3 hod3 hp hb hs
  go_wp2
  go_ret
  exact ⟨rfl, H3.out.1, H3.out.2⟩

theorem markTree_own (a : Option Addr) (n c k0 B : Nat) (now : Int) (O : Nat → Int) (D : Nat → Nd) (L : Nat → Loc) (w : World) (h : OT w B 0 (fun _ => false) n O D L (.slice none 0 0) (.slice a n c)) (hn : n ≤ 1048576) (hk1 : 1 ≤ k0) (hkap : kaT D k0 n ≤ 90000000) (hsz : ∀ i, i < n → (D i).nn ≤ 1048576 ∧ (D i).kn ≤ 1048576) (hB : B ≤ w.heap.size) (H : Nat) (hH : ∀ d b, d < 2 + 2 * n → (valT (.slice none 0 0) (.slice a n c) D L d).ownBlock = some b → b < H) :
    Calls Tryz.prog 25 #[trV a n c now, .int .i64 k0] w fun e w' => e = .returned (.int .i64 (kaT D k0 n : Nat)) ∧ Fr B H w w' ∧ OT w' B 0 (fun _ => false) n O (markT D k0 n) L (.slice none 0 0) (.slice a n c) :=
  (markTree_ownS a n c k0 B now O D L w h hn hk1 hkap hsz hB (fun b => b < H) hH).mono fun e w' ⟨h1, h2, h3⟩ => ⟨h1, h2.fr fun _ e => e, h3⟩

set_option maxHeartbeats 2000000 in
theorem heldTree_own (a : Option Addr) (n c k0 B : Nat) (now : Int) (O : Nat → Int) (D : Nat → Nd) (L : Nat → Loc) (w : World) (h : OT w B 0 (fun _ => false) n O (markT D k0 n) L (.slice none 0 0) (.slice a n c)) (hn : n ≤ 1048576) (hk1 : 1 ≤ k0) (hkap : kaT D k0 n ≤ 90000000) (hsz : ∀ i, i < n → (D i).nn ≤ 1000000 ∧ (D i).kn ≤ 1000000) :
    Calls Tryz.prog 26 #[trV a n c now, .int .i64 k0] w fun e w' => e = .returned (.int .i64 (kaT D k0 n : Nat)) ∧ Below w.heap.size w w' := by
  unfold trV
  go_enter Tryz.func26, Tryz.ntmps26
  go_wp2_with fail
  refine at_world (F := New1 w _ _) (new1 w _ _) ?_
  rintro W ⟨hp, hb, hs⟩
  refine (heldNodeS_own a n c k0 B 0 (fun _ => false) O D L (.slice none 0 0) W (h.below hb) hn hk1 hkap hsz).mono ?_
  rintro e W3 ⟨rfl, hb3⟩
  have y2 : decide (((kaT D k0 n : Nat) : Int) < 0) = false := by simp
  have H3 : Hid (Below w.heap.size w W3) := hb.trans (hb3.mono hb.size)
  clear hb3 hp hb hs
  go_wp2
  go_ret
  exact ⟨rfl, H3.out⟩

end Go.Proofs.YtakifcobofkheabGreatDoor

/-
  Trees, as the laws hand them about: counted, copied, held against each other, marked and looked at.
-/
namespace Go.Proofs.YtakifcobofkheabGreatDoor
open Go.RowKit Go.Deep
set_option linter.unusedVariables false
set_option linter.unusedSimpArgs false

/-- A tree. -/
structure Tr where
  n : Nat
  D : Nat → Nd
  now : Int

/-- Where it lies. -/
structure TLoc where
  a : Option Addr
  c : Nat
  L : Nat → Loc

def tV (t : Tr) (l : TLoc) : Value := .agg #[.slice l.a t.n l.c, .int .i64 t.now]
def tC (t : Tr) (l : TLoc) : Array Value := #[.slice l.a t.n l.c, .int .i64 t.now]
def TIn (w : World) (t : Tr) (l : TLoc) : Prop := IsNds w l.a t.n t.D l.L
def Tr.size (t : Tr) : Nat := t.n + sizeTo t.D t.n
def Tr.same (t u : Tr) : Bool := (decide (t.n = u.n) && sameAll t.n t.D u.D) && (t.now == u.now)
structure Tr.Fits (t : Tr) : Prop where
  n : t.n ≤ maxLen
  nds : FitAll t.n t.D
  now : In64 t.now

theorem Tr.same_self (t : Tr) : t.same t = true := by unfold Tr.same; rw [sameAll_self]; simp

theorem TIn.below {w w' : World} {t : Tr} {l : TLoc} (h : TIn w t l) {B : Nat} (hB : w.heap.size ≤ B) (hb : Below B w w') : TIn w' t l := IsNds.below h hB hb

theorem tC_cells {W : World} {b : Nat} {t : Tr} {l : TLoc} {ty : TypeId} (h : Blk W b (tC t l) ty) : W.cell? ⟨b, 0, none⟩ = some (.slice l.a t.n l.c) ∧ W.cell? ⟨b, 1, none⟩ = some (.int .i64 t.now) := ⟨h.cell 0, h.cell 1⟩

/-- A tree in memory of its own. -/
def OwnTr (W : World) (B : Nat) (t : Tr) (l : TLoc) : Prop := OT W B 0 (fun _ => false) t.n (fun _ => 0) t.D l.L (.slice none 0 0) (.slice l.a t.n l.c)
def TopTr (t : Tr) (l : TLoc) (H : Nat) : Prop := ∀ d b, d < 2 + 2 * t.n → (valT (.slice none 0 0) (.slice l.a t.n l.c) t.D l.L d).ownBlock = some b → b < H
def MarkedTr (W : World) (B : Nat) (t : Tr) (l : TLoc) (k0 : Nat) : Prop := OT W B 0 (fun _ => false) t.n (fun _ => 0) (markT t.D k0 t.n) l.L (.slice none 0 0) (.slice l.a t.n l.c)
def kTr (t : Tr) (k0 : Nat) : Nat := kaT t.D k0 t.n

theorem OwnTr.tIn {W : World} {B : Nat} {t : Tr} {l : TLoc} (h : OwnTr W B t l) : TIn W t l := OT.nds h
theorem OwnTr.top {W : World} {B : Nat} {t : Tr} {l : TLoc} (h : OwnTr W B t l) : TopTr t l W.heap.size := fun d b hd e => (owns_block (h.rows.own d hd) e).2
theorem OwnTr.below {W W' : World} {B : Nat} {t : Tr} {l : TLoc} (h : OwnTr W B t l) (hb : Below W.heap.size W W') : OwnTr W' B t l := OT.below h hb
theorem OwnTr.far {W W' : World} {B B0 H0 : Nat} {t : Tr} {l : TLoc} (h : OwnTr W B t l) (hf : Fr B0 H0 W W') (hH : H0 ≤ B) : OwnTr W' B t l := OT.same h fun b hb hl => hf.far b (by omega) hl
theorem OwnTr.lower {W : World} {B B' : Nat} {t : Tr} {l : TLoc} (h : OwnTr W B t l) (hB : B' ≤ B) : OwnTr W B' t l := OT.lower h hB
theorem OwnTr.put {W : World} {B V i : Nat} {t : Tr} {l : TLoc} (h : OwnTr W B t l) (v : Value) (hV : V < B) : OwnTr (W.setCell ⟨V, i, none⟩ v) B t l := OT.off h v hV
theorem MarkedTr.below {W W' : World} {B : Nat} {t : Tr} {l : TLoc} {k0 : Nat} (h : MarkedTr W B t l k0) (hb : Below W.heap.size W W') : MarkedTr W' B t l k0 := OT.below h hb

theorem kaT_le (D : Nat → Nd) (k0 : Nat) : ∀ m, kaT D k0 m ≤ k0 + 3 * m + sizeTo D m
  | 0 => by simp [kaT, sizeTo]
  | m + 1 => by
    have h1 := kaT_le D k0 m
    rw [kaT, sizeTo_succ]
    unfold Nd.size
    omega

theorem kTr_le {t : Tr} (h : t.size ≤ 1048576) (k0 : Nat) : kTr t k0 ≤ k0 + 4194304 := by
  have h1 := kaT_le t.D k0 t.n
  unfold Tr.size at h
  unfold kTr
  omega

theorem kTr_ge (t : Tr) (k0 : Nat) : k0 ≤ kTr t k0 := kaT_ge _ _ _

theorem eqTr (t u : Tr) (l k : TLoc) (w : World) (hI : TIn w t l) (hI' : TIn w u k) (hf : t.Fits) (hf' : u.Fits) :
    Calls Tryz.prog 22 #[tV t l, tV u k] w fun e w' => Below w.heap.size w w' ∧ e = .returned (.bool (t.same u)) :=
  eqTree_any l.a k.a t.n l.c u.n k.c t.now u.now t.D u.D l.L k.L w hI hI' hf.nds hf'.nds hf.n hf'.n

theorem markTr (t : Tr) (l : TLoc) (k0 B H : Nat) (w : World) (h : OwnTr w B t l) (hH : TopTr t l H) (hB : B ≤ w.heap.size) (hs : t.size ≤ 1048576) (hk1 : 1 ≤ k0) (hk2 : k0 ≤ 50000000) :
    Calls Tryz.prog 25 #[tV t l, .int .i64 (k0 : Int)] w fun e w' => e = .returned (.int .i64 (kTr t k0 : Nat)) ∧ Fr B H w w' ∧ MarkedTr w' B t l k0 := by
  have hk := kTr_le hs k0
  unfold Tr.size at hs
  exact markTree_own l.a t.n l.c k0 B t.now (fun _ => 0) t.D l.L w h (by omega) hk1 (by unfold kTr at hk; omega) (fun i hi => by have := tr_small (show sizeTo t.D t.n ≤ 1048576 by omega) i hi; omega) hB H hH

theorem heldTr (t : Tr) (l : TLoc) (k0 B : Nat) (w : World) (h : MarkedTr w B t l k0) (hs : t.size ≤ 1048576) (hsm : ∀ i, i < t.n → (t.D i).nn ≤ 1000000 ∧ (t.D i).kn ≤ 1000000) (hk1 : 1 ≤ k0) (hk2 : k0 ≤ 50000000) :
    Calls Tryz.prog 26 #[tV t l, .int .i64 (k0 : Int)] w fun e w' => e = .returned (.int .i64 (kTr t k0 : Nat)) ∧ Below w.heap.size w w' := by
  have hk := kTr_le hs k0
  unfold Tr.size at hs
  exact heldTree_own l.a t.n l.c k0 B t.now (fun _ => 0) t.D l.L w h (by omega) hk1 (by unfold kTr at hk; omega) hsm

/-- The bounds that an answer keeps. -/
structure SmTr (t : Tr) : Prop where
  fits : t.Fits
  size : t.size ≤ 1048576
  nds : ∀ i, i < t.n → (t.D i).nn ≤ 1000000 ∧ (t.D i).kn ≤ 1000000

def trNone : Tr := ⟨0, fun _ => ndZero, 0⟩
theorem trNone_small : SmTr trNone := ⟨⟨by unfold trNone maxLen; simp, fun i hi => absurd hi (Nat.not_lt_zero _), by unfold trNone In64; simp⟩, by unfold trNone Tr.size; simp [sizeTo], fun i hi => absurd hi (Nat.not_lt_zero _)⟩

theorem ndOk_kn {n : Nat} {D : Nat → Nd} {now : Int} {d : Nd} (h : ndOk n D now d = true) : d.kn = d.nn := by
  unfold ndOk at h
  split at h
  · unfold freeOk at h; simp at h; omega
  · split at h
    · unfold fileOk at h; simp at h; omega
    · split at h
      · unfold dirOk at h; simp at h; exact h.1.1.2.2
      · cases h

theorem good_small {t : Tr} (hg : TreeGood t.n t.D t.now) (hf : FitAll t.n t.D) (hs : t.n + sizeTo t.D t.n ≤ 1048576) : SmTr t := by
  have h1 := hg.few
  have h2 := hg.begun
  have h3 := hg.soon
  refine ⟨⟨by unfold maxLen; omega, hf, by unfold In64; omega⟩, hs, fun i hi => ?_⟩
  have e := ndOk_kn (hg.nodes i hi)
  have hz := size_le_sizeTo t.D t.n i hi
  unfold Nd.size at hz
  omega
end Go.Proofs.YtakifcobofkheabGreatDoor

/-
  Bounds of a tree that is not too great.
-/
namespace Go.Proofs.YtakifcobofkheabGreatDoor
set_option linter.unusedVariables false

theorem small_of_size {D : Nat → Nd} {n : Nat} (h : sizeTo D n ≤ 1048576) : ∀ i, i < n → (D i).nn ≤ 1048576 ∧ (D i).kn ≤ 1048576 := fun i hi => by
  have := size_le_sizeTo D n i hi
  unfold Nd.size at this
  omega
end Go.Proofs.YtakifcobofkheabGreatDoor

/-
  What DumpOf of the specification answers.
-/
namespace Go.Proofs.YtakifcobofkheabGreatDoor
open Go.RowKit Go.Deep
set_option linter.unusedVariables false
set_option linter.unusedSimpArgs false

/-- A place that was turned since. -/
def turnedB (D : Nat → Nd) (since : Int) (i : Nat) : Bool := (D i).kind != 0 && decide (since < (D i).turn)
/-- Those of the first k. -/
def selTo (D : Nat → Nd) (since : Int) (k : Nat) : List Nat := (List.range k).filter (turnedB D since)

theorem selTo_yes {D : Nat → Nd} {since : Int} {k : Nat} (h : turnedB D since k = true) : selTo D since (k + 1) = selTo D since k ++ [k] := by simp [selTo, List.range_succ, List.filter_append, h]
theorem selTo_no {D : Nat → Nd} {since : Int} {k : Nat} (h : turnedB D since k = false) : selTo D since (k + 1) = selTo D since k := by simp [selTo, List.range_succ, List.filter_append, h]
theorem selTo_len (D : Nat → Nd) (since : Int) (k : Nat) : (selTo D since k).length ≤ k := by
  have := List.length_filter_le (turnedB D since) (List.range k)
  simpa [selTo] using this

/-- m places are the ones. -/
structure Sel (D : Nat → Nd) (since : Int) (k m : Nat) (O : Nat → Int) (E : Nat → Nd) : Prop where
  len : m = (selTo D since k).length
  each : ∀ i, i < m → O i = ((selTo D since k).getD i 0 : Nat) ∧ E i = D ((selTo D since k).getD i 0)

theorem Sel.no {D : Nat → Nd} {since : Int} {k m : Nat} {O : Nat → Int} {E : Nat → Nd} (h : Sel D since k m O E) (hk : turnedB D since k = false) : Sel D since (k + 1) m O E := by
  refine ⟨by rw [selTo_no hk]; exact h.len, by rw [selTo_no hk]; exact h.each⟩

theorem Sel.yes {D : Nat → Nd} {since : Int} {k m : Nat} {O : Nat → Int} {E : Nat → Nd} (h : Sel D since k m O E) (hk : turnedB D since k = true) : Sel D since (k + 1) (m + 1) (fun i => if i = m then (k : Int) else O i) (fun i => if i = m then D k else E i) := by
  have hl := h.len
  refine ⟨by rw [selTo_yes hk]; simp [hl], fun i hi => ?_⟩
  rw [selTo_yes hk]
  by_cases e : i = m
  · subst e
    simp [hl]
  · have hi' : i < m := by omega
    have := h.each i hi'
    simp only [if_neg e]
    rw [this.1, this.2]
    simp [List.getElem?_append_left (show i < (selTo D since k).length by omega)]

/-- What is known within DumpOf. -/
structure DOf (w : World) (a : Option Addr) (n c : Nat) (now since : Int) (D : Nat → Nd) (V k ks : Nat) (la : Option Addr) (lc : Nat) (m : Nat) (ia : Option Addr) (ic : Nat) (O : Nat → Int) (E : Nat → Nd) (M : Nat → Loc) (W : World) : Prop where
  p : Blk W w.heap.size #[.slice a n c, .int .i64 now] 44
  r : Blk W (w.heap.size + 1) #[.int .i64 0, .int .i64 0, .slice none 0 0, .slice none 0 0] 64
  v : Blk W V #[.int .i64 since, .int .i64 now, .slice la k lc, .slice ia m ic] 64
  bel : Below w.heap.size w W
  far : w.heap.size + 2 ≤ V
  od : OD W (V + 1) k (fun i => (D i).kind != 0) m O E M (.slice la k lc) (.slice ia m ic)
  sel : Sel D since ks m O E

theorem DOf.below {w : World} {a : Option Addr} {n c : Nat} {now since : Int} {D : Nat → Nd} {V k ks : Nat} {la : Option Addr} {lc m : Nat} {ia : Option Addr} {ic : Nat} {O : Nat → Int} {E : Nat → Nd} {M : Nat → Loc} {W W' : World} (h : DOf w a n c now since D V k ks la lc m ia ic O E M W) (hb : Below W.heap.size W W') : DOf w a n c now since D V k ks la lc m ia ic O E M W' :=
  ⟨h.p.below hb h.p.lt, h.r.below hb h.r.lt, h.v.below hb h.v.lt, h.bel.trans (hb.mono (by have := h.p.lt; omega)), h.far, h.od.below hb, h.sel⟩

theorem src_item (W : World) (o : Int) (d : Nd) (l : Loc) : Src (W.alloc (.cells #[.int .i64 o, .int .i64 d.kind, .string d.text, .slice l.nA d.nn l.nc, .slice l.kA d.kn l.kc, .int .i64 d.turn] 100)) 6 (.slice (some ⟨W.heap.size, 0, none⟩) 1 1) 1 (it6 o d l) :=
  ⟨rfl, it6_one o d l, Or.inr ⟨⟨W.heap.size, 0, none⟩, 1, rfl, fun j u hu => by
    rw [addr_add, Nat.zero_add]
    have := (Blk.new W #[.int .i64 o, .int .i64 d.kind, .string d.text, .slice l.nA d.nn l.nc, .slice l.kA d.kn l.kc, .int .i64 d.turn] 100).cell j
    rw [this]
    simpa [it6] using hu⟩⟩

theorem blk_grown {w w' : World} {b : Nat} {cs : Array Value} {t : TypeId} {r : Option Nat} (h : Blk w b cs t) (hg : w.grownBy w' r) (hr : r ≠ some b) : Blk w' b cs t := h.of_block (hg.block b h.lt (fun e => hr e.symm))

/-- One truth value more, stored. -/
theorem DOf.live {w : World} {a : Option Addr} {n c : Nat} {now since : Int} {D : Nat → Nd} {V k ks : Nat} {la : Option Addr} {lc m : Nat} {ia : Option Addr} {ic : Nat} {O : Nat → Int} {E : Nat → Nd} {M : Nat → Loc} {W W' : World} (h : DOf w a n c now since D V k ks la lc m ia ic O E M W) {b c' : Nat} (hg : W.grownBy W' (Value.slice la k lc).ownBlock)
    (hown : W'.ownsRow (V + 1) 4 1 (.slice (some ⟨b, 0, none⟩) (k + 1) c') (k + 1) (boolv k (fun i => (D i).kind != 0) ++ [.bool ((D k).kind != 0)])) (hb : (Value.slice la k lc).ownBlock = some b ∨ W.heap.size ≤ b) :
    DOf w a n c now since D V (k + 1) ks (some ⟨b, 0, none⟩) c' m ia ic O E M (W'.setCell ⟨V, 2, none⟩ (.slice (some ⟨b, 0, none⟩) (k + 1) c')) := by
  have hfar := h.far
  have hne : ∀ j, j ≤ V → (Value.slice la k lc).ownBlock ≠ some j := fun j hj e => by
    have := (owns_block h.od.ownL e).1
    omega
  have hVl := h.v.lt
  have hbel : Below w.heap.size w W' := h.bel.grown hg (by have := h.bel.size; omega) (fun j e => by have := (owns_block h.od.ownL e).1; omega)
  refine ⟨(blk_grown h.p hg (hne _ (by omega))).off _ (by omega), (blk_grown h.r hg (hne _ (by omega))).off _ (by omega), (blk_grown h.v hg (hne _ (Nat.le_refl _))).set 2 _, bel_put hbel _ (by omega), hfar, ?_, h.sel⟩
  exact (h.od.live hg (by rw [boolv_snoc]; exact hown) (fun b' e => by simp [Value.ownBlock] at e; rw [← e]; exact hb)).off _ (by omega)

/-- One place that was turned more, stored. -/
theorem DOf.item {w : World} {a : Option Addr} {n c : Nat} {now since : Int} {D : Nat → Nd} {V k ks : Nat} {la : Option Addr} {lc m : Nat} {ia : Option Addr} {ic : Nat} {O : Nat → Int} {E : Nat → Nd} {M : Nat → Loc} {W W1 W' : World} (h : DOf w a n c now since D V k ks la lc m ia ic O E M W) {l : Loc} (hN : NewNn W (D ks) l W1) {b c' : Nat} (hg : W1.grownBy W' (Value.slice ia m ic).ownBlock)
    (hown : W'.ownsRow (V + 1) 100 6 (.slice (some ⟨b, 0, none⟩) (m + 1) c') (m + 1) (rowsI O E M m ++ it6 (ks : Int) (D ks) l)) (hb : (Value.slice ia m ic).ownBlock = some b ∨ W1.heap.size ≤ b) (ht : turnedB D since ks = true) :
    DOf w a n c now since D V k (ks + 1) la lc (m + 1) (some ⟨b, 0, none⟩) c' (fun i => if i = m then (ks : Int) else O i) (fun i => if i = m then D ks else E i) (fun i => if i = m then l else M i) (W'.setCell ⟨V, 3, none⟩ (.slice (some ⟨b, 0, none⟩) (m + 1) c')) := by
  have h1 := h.below hN.bel
  have hfar := h.far
  have hne : ∀ j, j ≤ V → (Value.slice ia m ic).ownBlock ≠ some j := fun j hj e => by
    have := (owns_block h.od.ownI e).1
    omega
  have hVl := h.v.lt
  have hbel : Below w.heap.size w W' := h1.bel.grown hg (by have := h1.bel.size; omega) (fun j e => by have := (owns_block h.od.ownI e).1; omega)
  refine ⟨(blk_grown h1.p hg (hne _ (by omega))).off _ (by omega), (blk_grown h1.r hg (hne _ (by omega))).off _ (by omega), (blk_grown h1.v hg (hne _ (Nat.le_refl _))).set 3 _, bel_put hbel _ (by omega), hfar, ?_, h.sel.yes ht⟩
  exact (h.od.item hN (by omega) hg hown (fun b' e => by simp [Value.ownBlock] at e; rw [← e]; exact hb)).off _ (by omega)

/-- What it answers. -/
def DumpOfPost (w : World) (n : Nat) (D : Nat → Nd) (now since : Int) (e : Ending) (w' : World) : Prop :=
  Below w.heap.size w w' ∧ ((¬ (TreeGood n D now ∧ 0 ≤ since ∧ since ≤ now) ∧ e = .returned (.tuple #[.agg #[.int .i64 0, .int .i64 0, .slice none 0 0, .slice none 0 0], .bool false])) ∨
    (TreeGood n D now ∧ 0 ≤ since ∧ since ≤ now ∧ ∃ la lc m ia ic O E M, e = .returned (.tuple #[.agg #[.int .i64 since, .int .i64 now, .slice la n lc, .slice ia m ic], .bool true]) ∧ OD w' w.heap.size n (fun i => (D i).kind != 0) m O E M (.slice la n lc) (.slice ia m ic) ∧ Sel D since n m O E))

/-- A list of operations is walked at a world of which no more is said than this. -/
theorem wpList_at {P : Program} {ops : Array Oper} {l : List Oper} {a : Act} {Q : Exit → Act → World → Prop} {F : World → Prop} {w : World} (h : F w) (g : ∀ W, F W → wpList P ops Q l a W) : wpList P ops Q l a w := g w h

end Go.Proofs.YtakifcobofkheabGreatDoor

/-
  What DumpOf answers, said once for the specification and the program: one thing kept, in memory of its own.
-/
namespace Go.Proofs.YtakifcobofkheabGreatDoor
open Go.RowKit Go.Deep
set_option linter.unusedVariables false
set_option linter.unusedSimpArgs false

theorem OD.ext {W : World} {B k n : Nat} {Z : Nat → Bool} {O O' : Nat → Int} {D D' : Nat → Nd} {L : Nat → Loc} {lv iv : Value} (h : OD W B k Z n O D L lv iv) (he : ∀ i, i < n → O' i = O i ∧ D' i = D i) : OD W B k Z n O' D' L lv iv := by
  have hr : ∀ d, d < 2 + 2 * n → rowD k Z n O' D' L d = rowD k Z n O D L d := fun d hd => by
    unfold rowD
    by_cases e0 : d = 0
    · rw [if_pos e0, if_pos e0]
    · by_cases e1 : d = 1
      · rw [if_neg e0, if_pos e1, if_neg e0, if_pos e1, rowsI_ext n (fun i hi => ⟨(he i hi).1, (he i hi).2, rfl⟩)]
      · rw [if_neg e0, if_neg e1, if_neg e0, if_neg e1, (he ((d - 2) / 2) (by omega)).2]
  have hv : ∀ d, d < 2 + 2 * n → valD lv iv D' L d = valD lv iv D L d := fun d hd => by
    unfold valD
    by_cases e0 : d = 0
    · rw [if_pos e0, if_pos e0]
    · by_cases e1 : d = 1
      · rw [if_neg e0, if_pos e1, if_neg e0, if_pos e1]
      · rw [if_neg e0, if_neg e1, if_neg e0, if_neg e1, (he ((d - 2) / 2) (by omega)).2]
  exact ⟨⟨fun d hd => by rw [hr d hd, hv d hd]; exact h.rows.own d hd, fun d1 d2 g1 g2 hne b e1 e2 => by rw [hv d1 g1] at e1; rw [hv d2 g2] at e2; exact h.rows.apart d1 d2 g1 g2 hne b e1 e2⟩⟩

/-- Something kept, in memory of its own. -/
def OwnDp (W : World) (B : Nat) (d : Dp) (l : DLoc) : Prop := OD W B d.ln d.live d.m d.ino d.nd l.L (.slice l.lA d.ln l.lc) (.slice l.iA d.m l.ic)

theorem OwnDp.dpIn {W : World} {B : Nat} {d : Dp} {l : DLoc} (h : OwnDp W B d l) : DpIn W d l := by
  refine ⟨ownd_bools h.ownL, ?_⟩
  by_cases hm : d.m = 0
  · exact Or.inl hm
  · obtain ⟨g, hg, hgl⟩ := owns_addr h.ownI (by omega)
    refine Or.inr ⟨g, 0, hg, hgl, fun i hi => ?_⟩
    have h' : OD W B d.ln d.live d.m d.ino d.nd l.L (.slice l.lA d.ln l.lc) (.slice (some ⟨g, 0, none⟩) d.m l.ic) := by rw [← hg]; exact h
    obtain ⟨c0, c1, c2, c3, c4, c5⟩ := h'.cells hi
    rw [Nat.zero_add]
    exact ⟨c0, c1, c2, c3, c4, c5, ownd_strs (h.ownN hi), ownd_ints (h.ownK hi)⟩

/-- What is kept of a tree that is ok. -/
def dpOf (n : Nat) (D : Nat → Nd) (now since : Int) : Dp := ⟨since, now, n, fun i => (D i).kind != 0, (selTo D since n).length, fun i => ((selTo D since n).getD i 0 : Nat), fun i => D ((selTo D since n).getD i 0)⟩
/-- Nothing. -/
def dpNone : Dp := ⟨0, 0, 0, fun _ => false, 0, fun _ => 0, fun _ => ⟨0, ByteArray.empty, 0, fun _ => ByteArray.empty, 0, fun _ => 0, 0⟩⟩

theorem selTo_lt {D : Nat → Nd} {since : Int} {n i : Nat} (h : i < (selTo D since n).length) : (selTo D since n).getD i 0 < n := by
  have hm : (selTo D since n).getD i 0 ∈ selTo D since n := by
    rw [List.getD_eq_getElem?_getD, List.getElem?_eq_getElem h]
    exact List.getElem_mem h
  have := List.mem_filter.1 hm
  simpa using this.1

theorem ndOk_same {n : Nat} {D : Nat → Nd} {now : Int} {d : Nd} (h : ndOk n D now d = true) : d.kn = d.nn := by
  unfold ndOk at h
  split at h
  · unfold freeOk at h; simp at h; omega
  · split at h
    · unfold fileOk at h; simp at h; omega
    · split at h
      · unfold dirOk at h; simp at h; exact h.1.1.2.2
      · cases h

theorem kap_le {D : Nat → Nd} {k0 c : Nat} : ∀ m, (∀ i, i < m → (D i).nn + (D i).kn ≤ c) → kap D k0 m ≤ k0 + m * (4 + c)
  | 0, _ => by simp [kap]
  | m + 1, h => by
    have h1 := kap_le (D := D) (k0 := k0) m (fun i hi => h i (by omega))
    have h2 := h m (by omega)
    rw [kap, Nat.succ_mul]
    omega

/-- The bounds that an answer keeps. -/
structure DpSmall (d : Dp) : Prop where
  fits : d.Fits
  ln : d.ln ≤ 10
  m : d.m ≤ 10
  kap : kap d.nd (1 + d.ln) d.m ≤ 90000000
  nds : ∀ i, i < d.m → (d.nd i).nn ≤ 1000000 ∧ (d.nd i).kn ≤ 1000000

theorem dpNone_small : DpSmall dpNone :=
  ⟨⟨by unfold In64 dpNone; simp, by unfold In64 dpNone; simp, by unfold maxLen dpNone; simp, by unfold maxLen dpNone; simp, fun i hi => absurd hi (Nat.not_lt_zero _), fun i hi => absurd hi (Nat.not_lt_zero _)⟩, by simp [dpNone], by simp [dpNone], by simp [dpNone, kap], fun i hi => absurd hi (Nat.not_lt_zero _)⟩

theorem dpOf_small {n : Nat} {D : Nat → Nd} {now since : Int} (hg : TreeGood n D now) (hf : FitAll n D) (hsz : sizeTo D n ≤ 1048576) (h0 : 0 ≤ since) (h1 : since ≤ now) : DpSmall (dpOf n D now since) := by
  have hl := selTo_len D since n
  have hfew := hg.few
  have hsoon := hg.soon
  have hnd : ∀ i, i < (selTo D since n).length → ((D ((selTo D since n).getD i 0)).nn + (D ((selTo D since n).getD i 0)).kn ≤ 1048576) ∧ (D ((selTo D since n).getD i 0)).kn = (D ((selTo D since n).getD i 0)).nn := fun i hi => by
    have h2 := selTo_lt hi
    have h3 := size_le_sizeTo D n _ h2
    unfold Nd.size at h3
    exact ⟨by omega, ndOk_same (hg.nodes _ h2)⟩
  refine ⟨⟨?_, ?_, ?_, ?_, fun i hi => ?_, fun i hi => hf _ (selTo_lt hi)⟩, hfew, by show (selTo D since n).length ≤ 10; omega, ?_, fun i hi => ?_⟩
  · show In64 since; unfold In64; omega
  · show In64 now; unfold In64; omega
  · show n ≤ maxLen; unfold maxLen; omega
  · show (selTo D since n).length ≤ maxLen; unfold maxLen; omega
  · have := selTo_lt hi
    show In64 (((selTo D since n).getD i 0 : Nat) : Int)
    unfold In64
    omega
  · have h2 := kap_le (D := fun i => D ((selTo D since n).getD i 0)) (k0 := 1 + n) (c := 1048576) (selTo D since n).length (fun i hi => (hnd i hi).1)
    have h3 : (selTo D since n).length * (4 + 1048576) ≤ 10 * (4 + 1048576) := Nat.mul_le_mul_right _ (by omega)
    show kap (fun i => D ((selTo D since n).getD i 0)) (1 + n) (selTo D since n).length ≤ 90000000
    omega
  · have := hnd i hi
    exact ⟨by show (D ((selTo D since n).getD i 0)).nn ≤ 1000000; omega, by show (D ((selTo D since n).getD i 0)).kn ≤ 1000000; omega⟩

/-- One answer, whoever is asked. -/
theorem dump_ans (n : Nat) (D : Nat → Nd) (now since : Int) (hf : FitAll n D) (hsz : sizeTo D n ≤ 1048576) : ∃ (d : Dp) (ok : Bool), DpSmall d ∧ ∀ w e w', DumpOfPost w n D now since e w' → Below w.heap.size w w' ∧ ∃ l, e = .returned (.tuple #[dpV d l, .bool ok]) ∧ OwnDp w' w.heap.size d l := by
  by_cases hgo : TreeGood n D now ∧ 0 ≤ since ∧ since ≤ now
  · refine ⟨dpOf n D now since, true, dpOf_small hgo.1 hf hsz hgo.2.1 hgo.2.2, fun w e w' h => ⟨h.1, ?_⟩⟩
    rcases h.2 with ⟨hno, _⟩ | ⟨_, _, _, la, lc, m, ia, ic, O, E, M, he, hod, hsel⟩
    · exact absurd hgo hno
    · have hm := hsel.len
      subst hm
      exact ⟨⟨la, lc, ia, ic, M⟩, he, hod.ext (fun i hi => ⟨((hsel.each i hi).1).symm, ((hsel.each i hi).2).symm⟩)⟩
  · refine ⟨dpNone, false, dpNone_small, fun w e w' h => ⟨h.1, ?_⟩⟩
    rcases h.2 with ⟨_, he⟩ | ⟨h1, h2, h3, _⟩
    · exact ⟨⟨none, 0, none, 0, fun _ => ⟨none, 0, none, 0⟩⟩, he, OD.start _ _ _ _ _ _⟩
    · exact absurd ⟨h1, h2, h3⟩ hgo
end Go.Proofs.YtakifcobofkheabGreatDoor

/-
  What the small helpers of the exact laws do at a list of truth values that lies in memory: szBoolS counts it, toBoolS makes a copy of it, eqBoolS holds two of them against each other.
-/
namespace Go.Proofs.YtakifcobofkheabGreatDoor
open Go.RowKit
set_option linter.unusedVariables false

set_option maxHeartbeats 400000 in
theorem szBoolS_any (a : Option Addr) (n c : Nat) (left : Int) (w : World) (hn : n ≤ maxLen) (h0 : 0 ≤ left) (h1 : left ≤ 1048576) :
    Calls Tryz.prog 50 #[.slice a n c, .int .i64 left] w fun e w' => w = w' ∧ ∃ r : Int, e = .returned (.int .i64 r) ∧ r ≤ left ∧ (0 ≤ r → r + n ≤ left) := by
  unfold maxLen at hn
  go_enter Tryz.func50, Tryz.ntmps50
  go_wp2
  · go_ret
    exact ⟨rfl, -1, rfl, by omega, fun h => by omega⟩
  · go_ret
    exact ⟨rfl, left - n, rfl, by omega, fun h => by omega⟩

theorem copyB_step (Z : Nat → Bool) (i k : Nat) : (if i = k then Value.bool (Z k) else if i < k then .bool (Z i) else .bool false) = if i < k + 1 then .bool (Z i) else .bool false := by
  by_cases h : i = k
  · subst h; simp
  · by_cases h2 : i < k
    · simp [h, h2, show i < k + 1 by omega]
    · simp [h, h2, show ¬ i < k + 1 by omega]

set_option maxHeartbeats 400000 in
theorem toBoolS_any (a : Option Addr) (n c : Nat) (Z : Nat → Bool) (w : World) (hS : IsBools w a n Z) (hn : n ≤ 1048576) :
    Calls Tryz.prog 56 #[.slice a n c] w fun e w' => e = .returned (.slice (some ⟨w.heap.size, 0, none⟩) n n) ∧ Below w.heap.size w w' ∧ w'.rowIs w.heap.size 4 n (fun i => .bool (Z i)) := by
  have hmk := fun w => run_make_row' (P := Tryz.prog) 55 4 (.bool false) 1 Tryz.underlying55 infoBool rfl .i64 .i64 n (by omega) (by omega) w
  go_enter Tryz.func56, Tryz.ntmps56
  go_wp2
  go_loopw [4] (fun i wr => ∃ k : Nat, k ≤ n ∧ i = .int .i64 k ∧ Below w.heap.size w wr ∧ wr.rowIs w.heap.size 4 n (fun j => if j < k then .bool (Z j) else .bool false)) (fun i _ => n - (intOf i).toNat)
  case atStart => exact ⟨0, Nat.zero_le _, rfl, (Below.refl _ _).alloc (Nat.le_refl _) _, (World.rowIs_made w (.bool false) n 4).congr (fun i _ => by simp)⟩
  case round =>
    obtain ⟨k, hk, rfl, hb, hrow⟩ := hrel
    by_cases hlt : k < n
    · obtain ⟨b, off, rfl, hlt2, hc⟩ := hS.at hlt
      have hck : wr.cell? ⟨b, off + k, none⟩ = some (.bool (Z k)) := by rw [hb.cell (p := ⟨b, off + k, none⟩) hlt2]; exact hc k hlt
      have hcr := hrow.cell hlt
      have hfr := hrow.frozen k
      have HB : Hid (Below w.heap.size w wr) := hb
      have HR : Hid (wr.rowIs w.heap.size 4 n (fun j => if j < k then .bool (Z j) else .bool false)) := hrow
      clear hc hb hrow
      go_wp2
      go_roundw
      case rel => exact ⟨k + 1, by omega, by go_num, HB.out.setCell (Nat.le_refl _) _, (HR.out.set k (.bool (Z k))).congr (fun i _ => copyB_step Z i k)⟩
      case measure => simp [intOf]; omega
    · have HB : Hid (Below w.heap.size w wr) := hb
      have HR : Hid (wr.rowIs w.heap.size 4 n (fun j => if j < k then .bool (Z j) else .bool false)) := hrow
      clear hb hrow
      go_wp2
      go_ret
      exact ⟨rfl, HB.out, HR.out.congr (fun i hi => by simp [show i < k by omega])⟩

set_option maxHeartbeats 400000 in
theorem eqBoolS_any (a a' : Option Addr) (n c m c' : Nat) (Z Y : Nat → Bool) (w : World) (hS : IsBools w a n Z) (hT : IsBools w a' m Y) (hn : n ≤ maxLen) (hm : m ≤ maxLen) :
    Calls Tryz.prog 63 #[.slice a n c, .slice a' m c'] w fun e w' => (∃ q, w' = w.drewN q) ∧ e = .returned (.bool (decide (n = m) && eqB n Z Y)) := by
  unfold maxLen at hn hm
  by_cases hne : n = m
  · subst hne
    have hb : ((n : Int) != (n : Int)) = false := by simp
    go_enter Tryz.func63, Tryz.ntmps63
    go_wp2
    go_loopw [5] (fun i wr => ∃ k q : Nat, k ≤ n ∧ i = .int .i64 k ∧ wr = w.drewN q ∧ eqB k Z Y = true) (fun i _ => n - (intOf i).toNat)
    case atStart => exact ⟨0, 0, Nat.zero_le _, rfl, rfl, rfl⟩
    case round =>
      obtain ⟨k, q, hk, rfl, rfl, heq⟩ := hrel
      have HE : Hid (eqB k Z Y = true) := heq
      clear heq
      by_cases hlt : k < n
      · obtain ⟨b, off, rfl, hlt2, hc⟩ := hS.at hlt
        obtain ⟨b', off', rfl, hlt2', hc'⟩ := hT.at hlt
        have h1 := hc k hlt
        have h2 := hc' k hlt
        have hlti : (k : Int) < (n : Int) := by omega
        clear hc hc'
        by_cases hzy : Z k = Y k
        · have hzb : (!(Z k == Y k)) = false := by simp [hzy]
          have HZ : Hid (Z k = Y k) := hzy
          clear hzy
          go_wp2
          go_quiet (fail)
          go_wp2
          go_roundw
          case rel => exact ⟨k + 1, q + nq, by omega, by go_num, rfl, eqB_succ k Z Y HE.out HZ.out⟩
          case measure => simp [intOf]; omega
        · have hzb : (!(Z k == Y k)) = true := by simp [hzy]
          have HZ : Hid (¬ Z k = Y k) := hzy
          clear hzy
          go_wp2
          go_quiet (fail)
          go_wp2
          go_ret
          exact ⟨⟨q + nq, by simp⟩, ret_bool (by rw [← eqB_not n k Z Y hlt HZ.out]; simp)⟩
      · have hkn : k = n := by omega
        have HK : Hid (k = n) := hkn
        clear hkn
        go_wp2
        go_ret
        exact ⟨⟨q, rfl⟩, ret_bool (by rw [← HK.out, HE.out]; simp)⟩
  · have hb : ((n : Int) != (m : Int)) = true := by simp; omega
    go_enter Tryz.func63, Tryz.ntmps63
    go_wp2
    go_ret
    exact ⟨⟨0, rfl⟩, ret_bool (by simp [hne])⟩

end Go.Proofs.YtakifcobofkheabGreatDoor

/-
  What the small helpers of the exact laws do at places that were turned, and at lists of them.
-/
namespace Go.Proofs.YtakifcobofkheabGreatDoor
open Go.RowKit
set_option linter.unusedVariables false
set_option linter.unusedSimpArgs false

set_option maxHeartbeats 400000 in
theorem szItem_any (o : Int) (d : Nd) (l : Loc) (left : Int) (w : World) (hI : NdIn w d l) (hf : d.Fits) (h0 : 0 ≤ left) (h1 : left ≤ 1048576) :
    Calls Tryz.prog 66 #[itV o d l, .int .i64 left] w fun e w' => Below w.heap.size w w' ∧ ∃ r : Int, e = .returned (.int .i64 r) ∧ r ≤ left ∧ (0 ≤ r → r + d.size ≤ left) := by
  unfold itV
  go_enter Tryz.func66, Tryz.ntmps66
  go_wp2_with fail
  refine at_world (F := New1 w _ _) (new1 w _ _) ?_
  rintro W ⟨hp, hb, hs⟩
  refine (szNode_any d l left W (hI.below (Nat.le_refl _) hb) hf h0 h1).mono ?_
  rintro e w1 ⟨hb1, r, rfl, hr1, hr2⟩
  have hB := hb.trans (hb1.mono (by omega))
  by_cases hr3 : r < 0
  · have hr3' : decide (r < 0) = true := by simp; omega
    have HB : Hid (Below w.heap.size w w1) := hB
    clear hB hb1 hb hp hr2
    go_wp2
    go_ret
    exact ⟨HB.out, -1, rfl, by omega, fun h => by omega⟩
  · have hr3' : decide (r < 0) = false := by simp; omega
    have HB : Hid (Below w.heap.size w w1 ∧ (0 ≤ r → r + d.size ≤ left)) := ⟨hB, hr2⟩
    clear hB hb1 hb hp hr2
    go_wp2
    go_ret
    exact ⟨HB.out.1, r, rfl, by omega, HB.out.2⟩

set_option maxHeartbeats 400000 in
theorem szItemS_any (a : Option Addr) (n c : Nat) (O : Nat → Int) (D : Nat → Nd) (L : Nat → Loc) (left : Int) (w : World) (hS : IsIts w a n O D L) (hf : FitAll n D) (hn : n ≤ maxLen) (h0 : 0 ≤ left) (h1 : left ≤ 1048576) :
    Calls Tryz.prog 51 #[.slice a n c, .int .i64 left] w fun e w' => Below w.heap.size w w' ∧ ∃ r : Int, e = .returned (.int .i64 r) ∧ r ≤ left ∧ (0 ≤ r → r + n + sizeTo D n ≤ left) := by
  unfold maxLen at hn
  by_cases hbig : left < n
  · go_enter Tryz.func51, Tryz.ntmps51
    go_wp2
    go_ret
    exact ⟨Below.refl _ _, -1, rfl, by omega, fun h => by omega⟩
  · go_enter Tryz.func51, Tryz.ntmps51
    go_wp2
    go_loopw [1, 5] (fun l i wr => ∃ (k : Nat) (r : Int), k ≤ n ∧ 0 ≤ r ∧ i = .int .i64 k ∧ l = .int .i64 r ∧ r + n + sizeTo D k ≤ left ∧ Below w.heap.size w wr) (fun _ i _ => n - (intOf i).toNat)
    case atStart => exact ⟨0, left - n, Nat.zero_le _, by omega, rfl, rfl, by simp [sizeTo], Below.refl _ _⟩
    case round =>
      obtain ⟨k, r, hk, hr, rfl, rfl, hsum, hbel⟩ := hrel
      by_cases hlt : k < n
      · obtain ⟨b, off, rfl, hlt2, hc⟩ := (hS.below (Nat.le_refl _) hbel).at hlt
        obtain ⟨c0, c1, c2, c3, c4, c5, hI⟩ := hc k hlt
        clear hc
        go_wp2_with fail
        refine (szItem_any (O k) (D k) (L k) r wr hI (hf k hlt) hr (by omega)).mono ?_
        rintro e w1 ⟨hb1, r', rfl, hr1, hr2⟩
        have hB := hbel.trans (hb1.mono hbel.size)
        by_cases hr3 : r' < 0
        · have hr3' : decide (r' < 0) = true := by simp; omega
          have HB : Hid (Below w.heap.size w w1) := hB
          clear hB hb1 hbel c0 c1 c2 c3 c4 c5 hI hr2
          go_wp2
          go_ret
          exact ⟨HB.out, -1, rfl, by omega, fun h => by omega⟩
        · have hr3' : decide (r' < 0) = false := by simp; omega
          have HS : Hid (r' + n + sizeTo D (k + 1) ≤ left ∧ Below w.heap.size w w1) := ⟨by have := hr2 (by omega); rw [sizeTo_succ]; omega, hB⟩
          clear hB hb1 hbel c0 c1 c2 c3 c4 c5 hI hr2 hsum
          go_wp2
          go_roundw
          case rel => exact ⟨k + 1, r', by omega, by omega, by go_num, by go_num, HS.out.1, HS.out.2⟩
          case measure => simp [intOf]; omega
      · go_wp2
        go_ret
        exact ⟨hbel, r, rfl, by omega, fun _ => by have : k = n := by omega
                                                   subst this; omega⟩

/-- What is known at toItem's end. -/
structure ItemEnd (w : World) (o : Int) (d : Nd) (l : Loc) (W : World) : Prop where
  r : Blk W (w.heap.size + 1) #[.int .i64 o, .int .i64 d.kind, .string d.text, .slice l.nA d.nn l.nc, .slice l.kA d.kn l.kc, .int .i64 d.turn] 100
  bel : Below w.heap.size w W
  nd : NdIn W d l

set_option maxHeartbeats 1000000 in
theorem toItem_any (o : Int) (d : Nd) (l : Loc) (w : World) (hI : NdIn w d l) (hn : d.nn ≤ 1048576) (hk : d.kn ≤ 1048576) :
    Calls Tryz.prog 74 #[itV o d l] w fun e w' => ∃ l', e = .returned (itV o d l') ∧ Below w.heap.size w w' ∧ NdIn w' d l' ∧ l'.Past w.heap.size := by
  unfold itV
  go_enter Tryz.func74, Tryz.ntmps74
  go_wp2_with fail
  refine at_world (F := New3 w _ _ _ _ _ _) (new3 w _ _ _ _ _ _) ?_
  rintro W ⟨hp, hr, ho, hb0, hs0⟩
  refine (toNode_any d l W (hI.below (Nat.le_refl _) hb0) hn hk).mono ?_
  rintro e w1 ⟨l', rfl, hb1, hI1, hp1⟩
  unfold ndV
  have hr1 := hr.below hb1 (by omega)
  have ho1 := ho.below hb1 (by omega)
  have hB1 := hb0.trans (hb1.mono (by omega))
  have hsz := hb1.size
  have o0 : w1.cell? ⟨w.heap.size + 1 + 1, 0, none⟩ = some (.int .i64 o) := ho1.cell 0
  have o1 : w1.cell? ⟨w.heap.size + 1 + 1, 1, none⟩ = some (.int .i64 0) := ho1.cell 1
  have o2 : w1.cell? ⟨w.heap.size + 1 + 1, 2, none⟩ = some (.string ByteArray.empty) := ho1.cell 2
  have o3 : w1.cell? ⟨w.heap.size + 1 + 1, 3, none⟩ = some (.slice none 0 0) := ho1.cell 3
  have o4 : w1.cell? ⟨w.heap.size + 1 + 1, 4, none⟩ = some (.slice none 0 0) := ho1.cell 4
  have o5 : w1.cell? ⟨w.heap.size + 1 + 1, 5, none⟩ = some (.int .i64 0) := ho1.cell 5
  have f0 := ho1.frozen 0
  have f1 := ho1.frozen 1
  have f2 := ho1.frozen 2
  have f3 := ho1.frozen 3
  have f4 := ho1.frozen 4
  have f5 := ho1.frozen 5
  have r0 : w1.cell? ⟨w.heap.size + 1, 0, none⟩ = some (.int .i64 0) := hr1.cell 0
  have r1 : w1.cell? ⟨w.heap.size + 1, 1, none⟩ = some (.int .i64 0) := hr1.cell 1
  have r2 : w1.cell? ⟨w.heap.size + 1, 2, none⟩ = some (.string ByteArray.empty) := hr1.cell 2
  have r3 : w1.cell? ⟨w.heap.size + 1, 3, none⟩ = some (.slice none 0 0) := hr1.cell 3
  have r4 : w1.cell? ⟨w.heap.size + 1, 4, none⟩ = some (.slice none 0 0) := hr1.cell 4
  have r5 : w1.cell? ⟨w.heap.size + 1, 5, none⟩ = some (.int .i64 0) := hr1.cell 5
  have g0 := hr1.frozen 0
  have g1 := hr1.frozen 1
  have g2 := hr1.frozen 2
  have g3 := hr1.frozen 3
  have g4 := hr1.frozen 4
  have g5 := hr1.frozen 5
  have hpp := hp1.mono (show w.heap.size + 3 ≤ W.heap.size by omega)
  have FB : Hid (Blk w1 (w.heap.size + 1) _ _ ∧ Below w.heap.size w w1 ∧ NdIn w1 d l' ∧ l'.Past (w.heap.size + 3)) := ⟨hr1, hB1, hI1, hpp⟩
  clear hp hr ho hb0 hb1 hr1 ho1 hB1 hI1 hp1 hpp hs0 hsz
  go_wp2_with fail
  obtain ⟨hr, hB, hN, hP⟩ := FB.out
  have hP1 : l'.Past (w.heap.size + 1 + 1) := hP.mono (by omega)
  have hP2 : l'.Past (w.heap.size + 1 + 1 + 1) := hP
  refine end_world (F := ItemEnd w o d l')
    ⟨(((((((((((hr.off _ (by omega)).off _ (by omega)).off _ (by omega)).off _ (by omega)).off _ (by omega)).set 0 _).set 1 _).set 2 _).set 3 _).set 4 _).set 5 _),
     bel_put (bel_put (bel_put (bel_put (bel_put (bel_put (bel_put (bel_put (bel_put (bel_put (bel_put hB _ (by omega)) _ (by omega)) _ (by omega)) _ (by omega)) _ (by omega)) _ (by omega)) _ (by omega)) _ (by omega)) _ (by omega)) _ (by omega)) _ (by omega),
     ((((((((((hN.off _ hP2).off _ hP2).off _ hP2).off _ hP2).off _ hP2).off _ hP1).off _ hP1).off _ hP1).off _ hP1).off _ hP1).off _ hP1⟩ ?_
  clear hr hB hN FB o0 o1 o2 o3 o4 o5 f0 f1 f2 f3 f4 f5 r0 r1 r2 r3 r4 r5 g0 g1 g2 g3 g4 g5
  rintro W ⟨hr, hB, hN⟩
  have r0 : W.cell? ⟨w.heap.size + 1, 0, none⟩ = some (.int .i64 o) := hr.cell 0
  have r1 : W.cell? ⟨w.heap.size + 1, 1, none⟩ = some (.int .i64 d.kind) := hr.cell 1
  have r2 : W.cell? ⟨w.heap.size + 1, 2, none⟩ = some (.string d.text) := hr.cell 2
  have r3 : W.cell? ⟨w.heap.size + 1, 3, none⟩ = some (.slice l'.nA d.nn l'.nc) := hr.cell 3
  have r4 : W.cell? ⟨w.heap.size + 1, 4, none⟩ = some (.slice l'.kA d.kn l'.kc) := hr.cell 4
  have r5 : W.cell? ⟨w.heap.size + 1, 5, none⟩ = some (.int .i64 d.turn) := hr.cell 5
  exact bodyPost_ret (v := .agg #[.int .i64 o, .int .i64 d.kind, .string d.text, .slice l'.nA d.nn l'.nc, .slice l'.kA d.kn l'.kc, .int .i64 d.turn]) (by simp [results, Tryz.results74, go_sem, r0, r1, r2, r3, r4, r5]) rfl ⟨l', rfl, hB, hN, hP.mono (by omega)⟩

set_option maxHeartbeats 1000000 in
theorem toItemS_any (a : Option Addr) (n c : Nat) (O : Nat → Int) (D : Nat → Nd) (L : Nat → Loc) (w : World) (hS : IsIts w a n O D L) (hn : n ≤ 1048576) (hsm : ∀ i, i < n → (D i).nn ≤ 1048576 ∧ (D i).kn ≤ 1048576) :
    Calls Tryz.prog 57 #[.slice a n c] w fun e w' => e = .returned (.slice (some ⟨w.heap.size, 0, none⟩) n n) ∧ Below w.heap.size w w' ∧ ∃ L', ItRow w' w.heap.size n n O D L' := by
  have hmk := fun w => run_make_wide (P := Tryz.prog) 62 100 _ 88 6 Tryz.underlying62 infoItem .i64 .i64 n (by omega) (by omega) w
  go_enter Tryz.func57, Tryz.ntmps57
  go_wp2
  go_loopw [4] (fun i wr => ∃ (k : Nat) (L' : Nat → Loc), k ≤ n ∧ i = .int .i64 k ∧ Below w.heap.size w wr ∧ ItRow wr w.heap.size n k O D L') (fun i _ => n - (intOf i).toNat)
  case atStart =>
    obtain ⟨g, hg⟩ := rowIs_wide w #[.int .i64 0, .int .i64 0, .string ByteArray.empty, .slice none 0 0, .slice none 0 0, .int .i64 0] (n * 6) 100
    exact ⟨0, L, Nat.zero_le _, rfl, (Below.refl _ _).alloc (Nat.le_refl _) _, ⟨g, hg, fun i hi => by omega⟩, fun i hi => by omega⟩
  case round =>
    obtain ⟨k, L', hk, rfl, hb, hrow⟩ := hrel
    by_cases hlt : k < n
    · obtain ⟨b, off, rfl, hlt2, hc⟩ := (hS.below (Nat.le_refl _) hb).at hlt
      obtain ⟨c0, c1, c2, c3, c4, c5, hI⟩ := hc k hlt
      clear hc
      go_wp2_with fail
      refine (toItem_any (O k) (D k) (L k) wr hI (hsm k hlt).1 (hsm k hlt).2).mono ?_
      rintro e w1 ⟨l', rfl, hb1, hI1, hp1⟩
      unfold itV
      have hrow1 := hrow.below (Nat.le_refl _) hb1
      have hB := hb.trans (hb1.mono hb.size)
      have hwl : w.heap.size < wr.heap.size := by obtain ⟨⟨g, hr, _⟩, _⟩ := hrow; exact hr.lt
      have hpp := hp1.mono (show w.heap.size + 1 ≤ wr.heap.size by omega)
      have HR : Hid (ItRow w1 w.heap.size n k O D L' ∧ NdIn w1 (D k) l' ∧ l'.Past (w.heap.size + 1) ∧ Below w.heap.size w w1) := ⟨hrow1, hI1, hpp, hB⟩
      obtain ⟨⟨g, hr, _⟩, _⟩ := hrow1
      have d0 := hr.cell (show k * 6 < n * 6 by omega)
      have d1 := hr.cell (show k * 6 + 1 < n * 6 by omega)
      have d2 := hr.cell (show k * 6 + 2 < n * 6 by omega)
      have d3 := hr.cell (show k * 6 + 3 < n * 6 by omega)
      have d4 := hr.cell (show k * 6 + 4 < n * 6 by omega)
      have d5 := hr.cell (show k * 6 + 5 < n * 6 by omega)
      have e0 := hr.frozen (k * 6)
      have e1 := hr.frozen (k * 6 + 1)
      have e2 := hr.frozen (k * 6 + 2)
      have e3 := hr.frozen (k * 6 + 3)
      have e4 := hr.frozen (k * 6 + 4)
      have e5 := hr.frozen (k * 6 + 5)
      clear hb hrow hr hB hb1 hI1 hp1 hpp hI c0 c1 c2 c3 c4 c5
      go_wp2
      go_roundw
      case rel => exact ⟨k + 1, _, by omega, by go_num, bel_put (bel_put (bel_put (bel_put (bel_put (bel_put HR.out.2.2.2 _ (Nat.le_refl _)) _ (Nat.le_refl _)) _ (Nat.le_refl _)) _ (Nat.le_refl _)) _ (Nat.le_refl _)) _ (Nat.le_refl _), HR.out.1.step HR.out.2.1 HR.out.2.2.1⟩
      case measure => simp [intOf]; omega
    · have hkn : k = n := by omega
      have HR : Hid (Below w.heap.size w wr ∧ ∃ L', ItRow wr w.heap.size n n O D L') := ⟨hb, L', hkn ▸ hrow⟩
      clear hb hrow hkn
      go_wp2
      go_ret
      exact ⟨rfl, HR.out.1, HR.out.2⟩

set_option maxHeartbeats 1000000 in
theorem eqItem_any (o o' : Int) (d d' : Nd) (l l' : Loc) (w : World) (hI : NdIn w d l) (hI' : NdIn w d' l') (hf : d.Fits) (hf' : d'.Fits) :
    Calls Tryz.prog 82 #[itV o d l, itV o' d' l'] w fun e w' => Below w.heap.size w w' ∧ e = .returned (.bool (sameIt o o' d d')) := by
  unfold itV
  cases hoo : (o == o') with
  | false =>
    have hnb : (o != o') = true := by simp only [bne, hoo]; rfl
    have HX : Hid (false = sameIt o o' d d') := by show _ = _; unfold sameIt; rw [hoo]; rfl
    clear hoo
    go_enter Tryz.func82, Tryz.ntmps82
    go_wp2_with fail
    go_ret
    exact ⟨((Below.refl _ _).alloc (Nat.le_refl _) _).alloc (by simp) _, ret_bool HX.out⟩
  | true =>
    have hnb : (o != o') = false := by simpa [bne] using hoo
    have HX : Hid (d.same d' = sameIt o o' d d') := by show _ = _; unfold sameIt; rw [hoo]; rfl
    clear hoo
    go_enter Tryz.func82, Tryz.ntmps82
    go_wp2_with fail
    refine at_world (F := New2 w _ _ _ _) (new2 w _ _ _ _) ?_
    rintro W ⟨hp, hp', hb, hs⟩
    refine (eqNode_any d d' l l' W (hI.below (Nat.le_refl _) hb) (hI'.below (Nat.le_refl _) hb) hf hf').mono ?_
    rintro e w1 ⟨hb1, rfl⟩
    have HB : Hid (Below w.heap.size w w1) := hb.trans (hb1.mono (by omega))
    clear hp hp' hb hs hb1
    cases hq : d.same d' with
    | false =>
      have HQ : Hid (d.same d' = false) := hq
      clear hq
      go_wp2
      go_ret
      exact ⟨HB.out, ret_bool (by rw [← HX.out, HQ.out])⟩
    | true =>
      have HQ : Hid (d.same d' = true) := hq
      clear hq
      go_wp2
      go_ret
      exact ⟨HB.out, ret_bool (by rw [← HX.out, HQ.out])⟩

set_option maxHeartbeats 1000000 in
theorem eqItemS_any (a a' : Option Addr) (n c m c' : Nat) (O P : Nat → Int) (D E : Nat → Nd) (L M : Nat → Loc) (w : World) (hS : IsIts w a n O D L) (hT : IsIts w a' m P E M) (hf : FitAll n D) (hf' : FitAll m E) (hn : n ≤ maxLen) (hm : m ≤ maxLen) :
    Calls Tryz.prog 64 #[.slice a n c, .slice a' m c'] w fun e w' => Below w.heap.size w w' ∧ e = .returned (.bool (decide (n = m) && sameIts n O P D E)) := by
  unfold maxLen at hn hm
  by_cases hne : n = m
  · subst hne
    have hb : ((n : Int) != (n : Int)) = false := by simp
    go_enter Tryz.func64, Tryz.ntmps64
    go_wp2
    go_loopw [5] (fun i wr => ∃ k : Nat, k ≤ n ∧ i = .int .i64 k ∧ Below w.heap.size w wr ∧ sameIts k O P D E = true) (fun i _ => n - (intOf i).toNat)
    case atStart => exact ⟨0, Nat.zero_le _, rfl, Below.refl _ _, rfl⟩
    case round =>
      obtain ⟨k, hk, rfl, hbel, heq⟩ := hrel
      have HE : Hid (sameIts k O P D E = true) := heq
      clear heq
      by_cases hlt : k < n
      · have hSr := hS.below (Nat.le_refl _) hbel
        have hTr := hT.below (Nat.le_refl _) hbel
        obtain ⟨b, off, rfl, hlt2, hc⟩ := hSr.at hlt
        obtain ⟨b', off', rfl, hlt2', hc'⟩ := hTr.at hlt
        obtain ⟨c0, c1, c2, c3, c4, c5, hI⟩ := hc k hlt
        obtain ⟨d0, d1, d2, d3, d4, d5, hI'⟩ := hc' k hlt
        have hlti : (k : Int) < (n : Int) := by omega
        have C0 := Lat.cell (B := wr.heap.size) c0 hlt2
        have C1 := Lat.cell (B := wr.heap.size) c1 hlt2
        have C2 := Lat.cell (B := wr.heap.size) c2 hlt2
        have C3 := Lat.cell (B := wr.heap.size) c3 hlt2
        have C4 := Lat.cell (B := wr.heap.size) c4 hlt2
        have C5 := Lat.cell (B := wr.heap.size) c5 hlt2
        have D0 := Lat.cell (B := wr.heap.size) d0 hlt2'
        have D1 := Lat.cell (B := wr.heap.size) d1 hlt2'
        have D2 := Lat.cell (B := wr.heap.size) d2 hlt2'
        have D3 := Lat.cell (B := wr.heap.size) d3 hlt2'
        have D4 := Lat.cell (B := wr.heap.size) d4 hlt2'
        have D5 := Lat.cell (B := wr.heap.size) d5 hlt2'
        have hcall : Hid (∀ n : Lat wr.heap.size wr, Calls Tryz.prog 82 #[itV (O k) (D k) (L k), itV (P k) (E k) (M k)] n.val fun e w'' => e = .returned (.bool (sameIt (O k) (P k) (D k) (E k))) ∧ ∃ m : Lat wr.heap.size wr, w'' = m.val) := fun n =>
          Calls.lat_of (eqItem_any (O k) (P k) (D k) (E k) (L k) (M k) n.val (hI.below (Nat.le_refl _) n.bel) (hI'.below (Nat.le_refl _) n.bel) (hf k hlt) (hf' k hlt)) (fun e w' h => ⟨h.2, h.1.mono n.bel.size⟩)
        clear hc hc' hSr hTr c0 c1 c2 c3 c4 c5 d0 d1 d2 d3 d4 d5 hI hI'
        have HBL : Hid (Below w.heap.size w wr) := hbel
        clear hbel
        go_wp2_with fail
        refine wp_region_lat (B := wr.heap.size) (w0 := wr) (by kernel_rfl) (by kernel_rfl) (Below.refl _ _) ?_
        repeat (go_big_quiet_step (exact hcall.out _))
        refine wpQuiet_nil ?_
        rintro _ ⟨nq, rfl⟩
        have hB : Hid (Below w.heap.size w nq.val) := HBL.out.trans (nq.bel.mono HBL.out.size)
        clear hcall C0 C1 C2 C3 C4 C5 D0 D1 D2 D3 D4 D5
        cases hq : sameIt (O k) (P k) (D k) (E k) with
        | false =>
          have HQ : Hid (sameIt (O k) (P k) (D k) (E k) = false) := hq
          clear hq
          go_wp2
          go_ret
          exact ⟨hB.out, ret_bool (by rw [← sameIts_not n k O P D E hlt HQ.out]; simp)⟩
        | true =>
          have HQ : Hid (sameIt (O k) (P k) (D k) (E k) = true) := hq
          clear hq
          go_wp2
          go_roundw
          case rel => exact ⟨k + 1, by omega, by go_num, hB.out, sameIts_succ k O P D E HE.out HQ.out⟩
          case measure => simp [intOf]; omega
      · have hkn : k = n := by omega
        have HK : Hid (k = n ∧ Below w.heap.size w wr) := ⟨hkn, hbel⟩
        clear hkn hbel
        go_wp2
        go_ret
        exact ⟨HK.out.2, ret_bool (by rw [← HK.out.1, HE.out]; simp)⟩
  · have hb : ((n : Int) != (m : Int)) = true := by simp; omega
    go_enter Tryz.func64, Tryz.ntmps64
    go_wp2
    go_ret
    exact ⟨Below.refl _ _, ret_bool (by simp [hne])⟩
end Go.Proofs.YtakifcobofkheabGreatDoor

/-
  What the helpers of the exact laws do at what is kept of a tree.
-/
namespace Go.Proofs.YtakifcobofkheabGreatDoor
open Go.RowKit
set_option linter.unusedVariables false
set_option linter.unusedSimpArgs false

set_option maxHeartbeats 1000000 in
theorem szDump_any (d : Dp) (l : DLoc) (left : Int) (w : World) (hI : DpIn w d l) (hf : d.Fits) (h0 : 0 ≤ left) (h1 : left ≤ 1048576) :
    Calls Tryz.prog 27 #[dpV d l, .int .i64 left] w fun e w' => Below w.heap.size w w' ∧ ∃ r : Int, e = .returned (.int .i64 r) ∧ r ≤ left ∧ (0 ≤ r → r + d.size ≤ left) := by
  unfold dpV Dp.size
  have hn := hf.ln
  go_enter Tryz.func27, Tryz.ntmps27
  go_wp2_with fail
  refine at_world (F := New1 w _ _) (new1 w _ _) ?_
  rintro W ⟨hp, hb, hs⟩
  refine (szBoolS_any l.lA d.ln l.lc left W hn h0 h1).mono ?_
  rintro e w1 ⟨rfl, r, rfl, hr1, hr2⟩
  by_cases hr3 : r < 0
  · have hr3' : decide (r < 0) = true := by simp; omega
    have HB : Hid (Below w.heap.size w W) := hb
    clear hb hp hr2
    go_wp2
    go_ret
    exact ⟨HB.out, -1, rfl, by omega, fun h => by omega⟩
  · have hr3' : decide (r < 0) = false := by simp; omega
    have p3 : W.cell? ⟨w.heap.size, 3, none⟩ = some (.slice l.iA d.m l.ic) := hp.cell 3
    have hr4 := hr2 (by omega)
    clear hr2 hp
    go_wp2_with fail
    refine (szItemS_any l.iA d.m l.ic d.ino d.nd l.L r W (hI.items.below (Nat.le_refl _) hb) hf.nds hf.m (by omega) (by omega)).mono ?_
    rintro e w2 ⟨hb2, r', rfl, hr1', hr2'⟩
    have HB : Hid (Below w.heap.size w w2 ∧ (0 ≤ r' → r' + d.m + sizeTo d.nd d.m ≤ r)) := ⟨hb.trans (hb2.mono (by omega)), hr2'⟩
    clear hb hb2 hr2' p3
    by_cases hr5 : r' < 0
    · have hr5' : decide (r' < 0) = true := by simp; omega
      go_wp2
      go_ret
      exact ⟨HB.out.1, -1, rfl, by omega, fun h => by omega⟩
    · have hr5' : decide (r' < 0) = false := by simp; omega
      go_wp2
      go_ret
      exact ⟨HB.out.1, r', rfl, by omega, fun h => by have := HB.out.2 h; omega⟩

theorem toBoolS_at (a : Option Addr) (n c : Nat) (Z : Nat → Bool) (w : World) (hS : IsBools w a n Z) (hn : n ≤ 1048576) :
    Calls Tryz.prog 56 #[.slice a n c] w fun e w' => ∃ b, e = .returned (.slice (some ⟨b, 0, none⟩) n n) ∧ w.heap.size ≤ b ∧ b < w'.heap.size ∧ Below w.heap.size w w' ∧ IsBools w' (some ⟨b, 0, none⟩) n Z :=
  (toBoolS_any a n c Z w hS hn).mono fun e w' ⟨he, hb, hr⟩ => ⟨_, he, Nat.le_refl _, hr.lt, hb, IsBools.row hr⟩

/-- What is known within toDump, the truth values being copied. -/
structure Dump2 (w : World) (d : Dp) (l : DLoc) (b : Nat) (W : World) : Prop where
  p : Blk W w.heap.size #[.int .i64 d.since, .int .i64 d.date, .slice l.lA d.ln l.lc, .slice l.iA d.m l.ic] 58
  r : Blk W (w.heap.size + 1) #[.int .i64 0, .int .i64 0, .slice none 0 0, .slice none 0 0] 64
  o : Blk W (w.heap.size + 1 + 1) #[.int .i64 d.since, .int .i64 d.date, .slice (some ⟨b, 0, none⟩) d.ln d.ln, .slice none 0 0] 64
  bel : Below w.heap.size w W
  size : w.heap.size + 3 ≤ W.heap.size
  le : w.heap.size + 3 ≤ b
  lt : b < W.heap.size
  live : IsBools W (some ⟨b, 0, none⟩) d.ln d.live

/-- What is known at toDump's end. -/
structure DumpEnd (w : World) (d : Dp) (b b' : Nat) (W : World) : Prop where
  r : Blk W (w.heap.size + 1) #[.int .i64 d.since, .int .i64 d.date, .slice (some ⟨b, 0, none⟩) d.ln d.ln, .slice (some ⟨b', 0, none⟩) d.m d.m] 64
  bel : Below w.heap.size w W
  live : IsBools W (some ⟨b, 0, none⟩) d.ln d.live
  items : ∃ L', ItRow W b' d.m d.m d.ino d.nd L'

set_option maxHeartbeats 1000000 in
theorem toDump_any (d : Dp) (l : DLoc) (w : World) (hI : DpIn w d l) (hsz : d.size ≤ 1048576) :
    Calls Tryz.prog 31 #[dpV d l] w fun e w' => ∃ l', e = .returned (dpV d l') ∧ Below w.heap.size w w' ∧ DpIn w' d l' := by
  unfold dpV
  have hln : d.ln ≤ 1048576 := by unfold Dp.size at hsz; omega
  have hm : d.m ≤ 1048576 := by unfold Dp.size at hsz; omega
  have HSM : Hid (∀ i, i < d.m → (d.nd i).nn ≤ 1048576 ∧ (d.nd i).kn ≤ 1048576) := small_of_size (by unfold Dp.size at hsz; omega)
  go_enter Tryz.func31, Tryz.ntmps31
  go_wp2_with fail
  refine at_world (F := New3 w _ _ _ _ _ _) (new3 w _ _ _ _ _ _) ?_
  rintro W ⟨hp, hr, ho, hb0, hs0⟩
  refine (toBoolS_at l.lA d.ln l.lc d.live _ (hI.live.below (Nat.le_refl _) hb0) hln).mono ?_
  rintro e w1 ⟨b, rfl, hge, hlt, hb1, hS1⟩
  have hp1 := hp.below hb1 (by omega)
  have hr1 := hr.below hb1 (by omega)
  have ho1 := ho.below hb1 (by omega)
  have hB1 := hb0.trans (hb1.mono (by omega))
  have o2 : w1.cell? ⟨w.heap.size + 1 + 1, 2, none⟩ = some (.slice none 0 0) := ho1.cell 2
  have f2 := ho1.frozen 2
  have p3 : w1.cell? ⟨w.heap.size, 3, none⟩ = some (.slice l.iA d.m l.ic) := hp1.cell 3
  have hsz1 := hb1.size
  have F2 : Hid (Dump2 w d l b _) := ⟨hp1.off (b' := w.heap.size + 1 + 1) (i := 2) (.slice (some ⟨b, 0, none⟩) d.ln d.ln) (by omega), hr1.off _ (by omega), ho1.set 2 _, bel_put hB1 _ (by omega), by simp; omega, by omega, by simp; omega, hS1.off _ (by omega)⟩
  clear hp hr ho hb0 hb1 hp1 hr1 ho1 hB1 hS1
  go_wp2_with fail
  refine at_world (F := Dump2 w d l b) F2.out ?_
  clear F2 hge hlt f2 o2 p3 hs0 hsz1
  rintro W ⟨hp, hr, ho, hb0, hs0, hlb, hbl, hS⟩
  refine (toItemS_any l.iA d.m l.ic d.ino d.nd l.L _ (hI.items.below (Nat.le_refl _) hb0) hm HSM.out).mono ?_
  rintro e w2 ⟨rfl, hb1, hrow⟩
  have hp1 := hp.below hb1 (by omega)
  have hr1 := hr.below hb1 (by omega)
  have ho1 := ho.below hb1 (by omega)
  have hB1 := hb0.trans (hb1.mono (by omega))
  have hS1 := hS.below (Nat.le_refl _) hb1
  have hsz := hb1.size
  have o0 : w2.cell? ⟨w.heap.size + 1 + 1, 0, none⟩ = some (.int .i64 d.since) := ho1.cell 0
  have o1 : w2.cell? ⟨w.heap.size + 1 + 1, 1, none⟩ = some (.int .i64 d.date) := ho1.cell 1
  have o2 : w2.cell? ⟨w.heap.size + 1 + 1, 2, none⟩ = some (.slice (some ⟨b, 0, none⟩) d.ln d.ln) := ho1.cell 2
  have o3 : w2.cell? ⟨w.heap.size + 1 + 1, 3, none⟩ = some (.slice none 0 0) := ho1.cell 3
  have f3 := ho1.frozen 3
  have r0 : w2.cell? ⟨w.heap.size + 1, 0, none⟩ = some (.int .i64 0) := hr1.cell 0
  have r1 : w2.cell? ⟨w.heap.size + 1, 1, none⟩ = some (.int .i64 0) := hr1.cell 1
  have r2 : w2.cell? ⟨w.heap.size + 1, 2, none⟩ = some (.slice none 0 0) := hr1.cell 2
  have r3 : w2.cell? ⟨w.heap.size + 1, 3, none⟩ = some (.slice none 0 0) := hr1.cell 3
  have g0 := hr1.frozen 0
  have g1 := hr1.frozen 1
  have g2 := hr1.frozen 2
  have g3 := hr1.frozen 3
  have FB : Hid (Blk w2 (w.heap.size + 1) _ _ ∧ Below w.heap.size w w2 ∧ IsBools w2 (some ⟨b, 0, none⟩) d.ln d.live ∧ ∃ L', ItRow w2 W.heap.size d.m d.m d.ino d.nd L') := ⟨hr1, hB1, hS1, hrow⟩
  have hs1 : w.heap.size + 3 ≤ W.heap.size := by omega
  have hbw : b < W.heap.size := hbl
  generalize W.heap.size = bW at *
  clear hp hr ho hb0 hb1 hp1 hr1 ho1 hB1 hS1 hrow hS hs0
  go_wp2_with fail
  obtain ⟨hr, hB, hS, L', hrow⟩ := FB.out
  refine end_world (F := DumpEnd w d b bW)
    ⟨((((hr.off _ (by omega)).set 0 _).set 1 _).set 2 _).set 3 _,
     bel_put (bel_put (bel_put (bel_put (bel_put hB _ (by omega)) _ (by omega)) _ (by omega)) _ (by omega)) _ (by omega),
     ((((hS.off _ (by omega)).off _ (by omega)).off _ (by omega)).off _ (by omega)).off _ (by omega),
     L', ((((hrow.off _ (by omega)).off _ (by omega)).off _ (by omega)).off _ (by omega)).off _ (by omega)⟩ ?_
  clear hr hB hS hrow FB o0 o1 o2 o3 f3 r0 r1 r2 r3 g0 g1 g2 g3
  rintro W ⟨hr, hB, hS, L2, hrow⟩
  have r0 : W.cell? ⟨w.heap.size + 1, 0, none⟩ = some (.int .i64 d.since) := hr.cell 0
  have r1 : W.cell? ⟨w.heap.size + 1, 1, none⟩ = some (.int .i64 d.date) := hr.cell 1
  have r2 : W.cell? ⟨w.heap.size + 1, 2, none⟩ = some (.slice (some ⟨b, 0, none⟩) d.ln d.ln) := hr.cell 2
  have r3 : W.cell? ⟨w.heap.size + 1, 3, none⟩ = some (.slice (some ⟨bW, 0, none⟩) d.m d.m) := hr.cell 3
  exact bodyPost_ret (v := .agg #[.int .i64 d.since, .int .i64 d.date, .slice (some ⟨b, 0, none⟩) d.ln d.ln, .slice (some ⟨bW, 0, none⟩) d.m d.m]) (by simp [results, Tryz.results31, go_sem, r0, r1, r2, r3]) rfl ⟨⟨some ⟨b, 0, none⟩, d.ln, some ⟨bW, 0, none⟩, d.m, L2⟩, rfl, hB, hS, hrow.its⟩

set_option maxHeartbeats 1000000 in
theorem eqDump_any (d e : Dp) (l k : DLoc) (w : World) (hI : DpIn w d l) (hI' : DpIn w e k) (hf : d.Fits) (hf' : e.Fits) :
    Calls Tryz.prog 35 #[dpV d l, dpV e k] w fun r w' => Below w.heap.size w w' ∧ r = .returned (.bool (d.same e)) := by
  unfold dpV
  have hl := hf.ln
  have hl' := hf'.ln
  cases h1 : (d.since == e.since) with
  | false =>
    have hnb : (d.since != e.since) = true := by simp only [bne, h1]; rfl
    have HX : Hid (false = d.same e) := by show _ = _; unfold Dp.same; rw [h1]; rfl
    clear h1
    go_enter Tryz.func35, Tryz.ntmps35
    go_wp2_with fail
    go_ret
    exact ⟨((Below.refl _ _).alloc (Nat.le_refl _) _).alloc (by simp) _, ret_bool HX.out⟩
  | true =>
  have hnb : (d.since != e.since) = false := by simpa [bne] using h1
  cases h2 : (d.date == e.date) with
  | false =>
    have hnc : (d.date != e.date) = true := by simp only [bne, h2]; rfl
    have HX : Hid (false = d.same e) := by show _ = _; unfold Dp.same; rw [h1, h2]; rfl
    clear h1 h2
    go_enter Tryz.func35, Tryz.ntmps35
    go_wp2_with fail
    go_ret
    exact ⟨((Below.refl _ _).alloc (Nat.le_refl _) _).alloc (by simp) _, ret_bool HX.out⟩
  | true =>
  have hnc : (d.date != e.date) = false := by simpa [bne] using h2
  have HX : Hid (((decide (d.ln = e.ln) && eqB d.ln d.live e.live) && (decide (d.m = e.m) && sameIts d.m d.ino e.ino d.nd e.nd)) = d.same e) := by show _ = _; unfold Dp.same; rw [h1, h2]; rfl
  clear h1 h2
  go_enter Tryz.func35, Tryz.ntmps35
  go_wp2_with fail
  refine at_world (F := New2 w _ _ _ _) (new2 w _ _ _ _) ?_
  rintro W ⟨hp, hp', hb, hs⟩
  refine (eqBoolS_any l.lA k.lA d.ln l.lc e.ln k.lc d.live e.live W (hI.live.below (Nat.le_refl _) hb) (hI'.live.below (Nat.le_refl _) hb) hl hl').mono ?_
  rintro r w1 ⟨⟨q, rfl⟩, rfl⟩
  have p3 : W.cell? ⟨w.heap.size, 3, none⟩ = some (.slice l.iA d.m l.ic) := hp.cell 3
  have q3 : W.cell? ⟨w.heap.size + 1, 3, none⟩ = some (.slice k.iA e.m k.ic) := hp'.cell 3
  have HB : Hid (Below w.heap.size w W) := hb
  clear hp hp' hb
  cases hq1 : (decide (d.ln = e.ln) && eqB d.ln d.live e.live) with
  | false =>
    have HQ : Hid ((decide (d.ln = e.ln) && eqB d.ln d.live e.live) = false) := hq1
    clear hq1
    go_wp2
    go_ret
    exact ⟨below_drewN HB.out _, ret_bool (by rw [← HX.out, HQ.out]; rfl)⟩
  | true =>
    have HQ : Hid ((decide (d.ln = e.ln) && eqB d.ln d.live e.live) = true) := hq1
    clear hq1
    go_wp2_with fail
    have hB2 := below_drewN HB.out q
    refine (eqItemS_any l.iA k.iA d.m l.ic e.m k.ic d.ino e.ino d.nd e.nd l.L k.L (W.drewN q) (hI.items.below (Nat.le_refl _) hB2) (hI'.items.below (Nat.le_refl _) hB2) hf.nds hf'.nds hf.m hf'.m).mono ?_
    rintro r w2 ⟨hb2, rfl⟩
    have HB2 : Hid (Below w.heap.size w w2) := hB2.trans (hb2.mono hB2.size)
    clear hb2 hB2 HB p3 q3
    cases hq1 : (decide (d.m = e.m) && sameIts d.m d.ino e.ino d.nd e.nd) with
    | false =>
      have HZ : Hid ((decide (d.m = e.m) && sameIts d.m d.ino e.ino d.nd e.nd) = false) := hq1
      clear hq1
      go_wp2
      go_ret
      exact ⟨HB2.out, ret_bool (by rw [← HX.out, HQ.out, HZ.out]; rfl)⟩
    | true =>
      have HZ : Hid ((decide (d.m = e.m) && sameIts d.m d.ino e.ino d.nd e.nd) = true) := hq1
      clear hq1
      go_wp2
      go_ret
      exact ⟨HB2.out, ret_bool (by rw [← HX.out, HQ.out, HZ.out]; rfl)⟩
end Go.Proofs.YtakifcobofkheabGreatDoor

/-
  What toDump answers: something kept in memory of its own.
-/
namespace Go.Proofs.YtakifcobofkheabGreatDoor
open Go.RowKit Go.Deep
set_option linter.unusedVariables false
set_option linter.unusedSimpArgs false

theorem own_off {W : World} {B : Nat} {e : TypeId} {size n : Nat} {xs : List Value} {v : Value} (h : W.ownsRow B e size v n xs) {V i : Nat} {u : Value} (hV : V < B) : (W.setCell ⟨V, i, none⟩ u).ownsRow B e size v n xs :=
  owns_same h fun b hb => blk_setCell_other _ _ _ _ (show b ≠ V by have := (owns_block h hb).1; omega)

theorem OD.ext2 {W : World} {B k n : Nat} {Z : Nat → Bool} {O O' : Nat → Int} {D D' : Nat → Nd} {L L' : Nat → Loc} {lv iv : Value} (h : OD W B k Z n O D L lv iv) (he : ∀ i, i < n → O' i = O i ∧ D' i = D i ∧ L' i = L i) : OD W B k Z n O' D' L' lv iv := by
  have hr : ∀ d, d < 2 + 2 * n → rowD k Z n O' D' L' d = rowD k Z n O D L d := fun d hd => by
    unfold rowD
    by_cases e0 : d = 0
    · rw [if_pos e0, if_pos e0]
    · by_cases e1 : d = 1
      · rw [if_neg e0, if_pos e1, if_neg e0, if_pos e1, rowsI_ext n he]
      · rw [if_neg e0, if_neg e1, if_neg e0, if_neg e1, (he ((d - 2) / 2) (by omega)).2.1]
  have hv : ∀ d, d < 2 + 2 * n → valD lv iv D' L' d = valD lv iv D L d := fun d hd => by
    unfold valD
    by_cases e0 : d = 0
    · rw [if_pos e0, if_pos e0]
    · by_cases e1 : d = 1
      · rw [if_neg e0, if_pos e1, if_neg e0, if_pos e1]
      · rw [if_neg e0, if_neg e1, if_neg e0, if_neg e1, (he ((d - 2) / 2) (by omega)).2.1, (he ((d - 2) / 2) (by omega)).2.2]
  exact ⟨⟨fun d hd => by rw [hr d hd, hv d hd]; exact h.rows.own d hd, fun d1 d2 g1 g2 hne b e1 e2 => by rw [hv d1 g1] at e1; rw [hv d2 g2] at e2; exact h.rows.apart d1 d2 g1 g2 hne b e1 e2⟩⟩

/-- The truth values come to it: their list lies below. -/
theorem OD.withLive {W : World} {B B' k : Nat} {Z : Nat → Bool} {n : Nat} {O : Nat → Int} {D : Nat → Nd} {L : Nat → Loc} {lv iv : Value} (h : OD W B 0 (fun _ => false) n O D L (.slice none 0 0) iv) (hown : W.ownsRow B' 4 1 lv k (boolv k Z)) (hB : B' ≤ B) (hl : ∀ b, lv.ownBlock = some b → b < B) : OD W B' k Z n O D L lv iv := by
  have key : ∀ d, d < 2 + 2 * n → d ≠ 0 → ∀ b, (valD (.slice none 0 0) iv D L d).ownBlock = some b → B ≤ b := fun d hd _ b hb => (owns_block (h.rows.own d hd) hb).1
  refine ⟨⟨fun d hd => ?_, fun d1 d2 g1 g2 hne b e1 e2 => ?_⟩⟩
  · by_cases e : d = 0
    · subst e; simpa [rowD, valD] using hown
    · rw [rowD_rest (k := 0) (Z := fun _ => false) e, valD_rest (lv := .slice none 0 0) e]
      exact owns_lower (h.rows.own d hd) hB
  · by_cases h1 : d1 = 0
    · have h2 : d2 ≠ 0 := fun e => hne (h1.trans e.symm)
      subst h1
      rw [valD_rest (lv := .slice none 0 0) h2] at e2
      have e1' : lv.ownBlock = some b := by simpa [valD] using e1
      have := key d2 g2 h2 b e2
      have := hl b e1'
      omega
    · by_cases h2 : d2 = 0
      · subst h2
        rw [valD_rest (lv := .slice none 0 0) h1] at e1
        have e2' : lv.ownBlock = some b := by simpa [valD] using e2
        have := key d1 g1 h1 b e1
        have := hl b e2'
        omega
      · rw [valD_rest (lv := .slice none 0 0) h1] at e1
        rw [valD_rest (lv := .slice none 0 0) h2] at e2
        exact h.rows.apart d1 d2 g1 g2 hne b e1 e2

theorem row_ownB {W : World} {B b n : Nat} {Z : Nat → Bool} (h : W.rowIs b 4 n (fun i => .bool (Z i))) (hB : B ≤ b) (hn : n ≤ maxLen) : W.ownsRow B 4 1 (.slice (some ⟨b, 0, none⟩) n n) n (boolv n Z) := row_own h hB hn

/-- What is known at toItem's end. -/
structure ItemEndo (w : World) (o : Int) (d : Nd) (l : Loc) (W : World) : Prop where
  r : Blk W (w.heap.size + 1) #[.int .i64 o, .int .i64 d.kind, .string d.text, .slice l.nA d.nn l.nc, .slice l.kA d.kn l.kc, .int .i64 d.turn] 100
  bel : Below w.heap.size w W
  names : W.ownsRow (w.heap.size + 3) 9 1 (.slice l.nA d.nn l.nc) d.nn (strv (lst d.nn d.names))
  kids : W.ownsRow (w.heap.size + 3) 3 1 (.slice l.kA d.kn l.kc) d.kn (intv0 d.kn d.kids)

set_option maxHeartbeats 1000000 in
theorem toItem_new (o : Int) (d : Nd) (l : Loc) (w : World) (hI : NdIn w d l) (hn : d.nn ≤ 1048576) (hk : d.kn ≤ 1048576) :
    Calls Tryz.prog 74 #[itV o d l] w fun e w' => ∃ l', e = .returned (itV o d l') ∧ NewNn w d l' w' := by
  unfold itV
  go_enter Tryz.func74, Tryz.ntmps74
  go_wp2_with fail
  refine at_world (F := New3 w _ _ _ _ _ _) (new3 w _ _ _ _ _ _) ?_
  rintro W ⟨hp, hr, ho, hb0, hs0⟩
  refine (toNode_new d l W (hI.below (Nat.le_refl _) hb0) hn hk).mono ?_
  rintro e w1 ⟨l', rfl, hN1⟩
  have hb1 := hN1.bel
  have HAP : Hid (∀ b, (Value.slice l'.nA d.nn l'.nc).ownBlock = some b → (Value.slice l'.kA d.kn l'.kc).ownBlock ≠ some b) := hN1.apart
  unfold ndV
  have hr1 := hr.below hb1 (by omega)
  have ho1 := ho.below hb1 (by omega)
  have hB1 := hb0.trans (hb1.mono (by omega))
  have hsz := hb1.size
  have o0 : w1.cell? ⟨w.heap.size + 1 + 1, 0, none⟩ = some (.int .i64 o) := ho1.cell 0
  have o1 : w1.cell? ⟨w.heap.size + 1 + 1, 1, none⟩ = some (.int .i64 0) := ho1.cell 1
  have o2 : w1.cell? ⟨w.heap.size + 1 + 1, 2, none⟩ = some (.string ByteArray.empty) := ho1.cell 2
  have o3 : w1.cell? ⟨w.heap.size + 1 + 1, 3, none⟩ = some (.slice none 0 0) := ho1.cell 3
  have o4 : w1.cell? ⟨w.heap.size + 1 + 1, 4, none⟩ = some (.slice none 0 0) := ho1.cell 4
  have o5 : w1.cell? ⟨w.heap.size + 1 + 1, 5, none⟩ = some (.int .i64 0) := ho1.cell 5
  have f0 := ho1.frozen 0
  have f1 := ho1.frozen 1
  have f2 := ho1.frozen 2
  have f3 := ho1.frozen 3
  have f4 := ho1.frozen 4
  have f5 := ho1.frozen 5
  have r0 : w1.cell? ⟨w.heap.size + 1, 0, none⟩ = some (.int .i64 0) := hr1.cell 0
  have r1 : w1.cell? ⟨w.heap.size + 1, 1, none⟩ = some (.int .i64 0) := hr1.cell 1
  have r2 : w1.cell? ⟨w.heap.size + 1, 2, none⟩ = some (.string ByteArray.empty) := hr1.cell 2
  have r3 : w1.cell? ⟨w.heap.size + 1, 3, none⟩ = some (.slice none 0 0) := hr1.cell 3
  have r4 : w1.cell? ⟨w.heap.size + 1, 4, none⟩ = some (.slice none 0 0) := hr1.cell 4
  have r5 : w1.cell? ⟨w.heap.size + 1, 5, none⟩ = some (.int .i64 0) := hr1.cell 5
  have g0 := hr1.frozen 0
  have g1 := hr1.frozen 1
  have g2 := hr1.frozen 2
  have g3 := hr1.frozen 3
  have g4 := hr1.frozen 4
  have g5 := hr1.frozen 5
  have FB : Hid (Blk w1 (w.heap.size + 1) _ _ ∧ Below w.heap.size w w1 ∧ w1.ownsRow (w.heap.size + 3) 9 1 (.slice l'.nA d.nn l'.nc) d.nn (strv (lst d.nn d.names)) ∧ w1.ownsRow (w.heap.size + 3) 3 1 (.slice l'.kA d.kn l'.kc) d.kn (intv0 d.kn d.kids)) := ⟨hr1, hB1, owns_lower hN1.names (by omega), owns_lower hN1.kids (by omega)⟩
  clear hp hr ho hb0 hb1 hr1 ho1 hB1 hN1 hs0 hsz
  go_wp2_with fail
  obtain ⟨hr, hB, hN, hP⟩ := FB.out
  refine end_world (F := ItemEndo w o d l')
    ⟨(((((((((((hr.off _ (by omega)).off _ (by omega)).off _ (by omega)).off _ (by omega)).off _ (by omega)).set 0 _).set 1 _).set 2 _).set 3 _).set 4 _).set 5 _),
     bel_put (bel_put (bel_put (bel_put (bel_put (bel_put (bel_put (bel_put (bel_put (bel_put (bel_put hB _ (by omega)) _ (by omega)) _ (by omega)) _ (by omega)) _ (by omega)) _ (by omega)) _ (by omega)) _ (by omega)) _ (by omega)) _ (by omega)) _ (by omega),
     (own_off (own_off (own_off (own_off (own_off (own_off (own_off (own_off (own_off (own_off (own_off hN (by omega)) (by omega)) (by omega)) (by omega)) (by omega)) (by omega)) (by omega)) (by omega)) (by omega)) (by omega)) (by omega)), (own_off (own_off (own_off (own_off (own_off (own_off (own_off (own_off (own_off (own_off (own_off hP (by omega)) (by omega)) (by omega)) (by omega)) (by omega)) (by omega)) (by omega)) (by omega)) (by omega)) (by omega)) (by omega))⟩ ?_
  clear hr hB hN FB o0 o1 o2 o3 o4 o5 f0 f1 f2 f3 f4 f5 r0 r1 r2 r3 r4 r5 g0 g1 g2 g3 g4 g5
  rintro W ⟨hr, hB, hN, hP⟩
  have r0 : W.cell? ⟨w.heap.size + 1, 0, none⟩ = some (.int .i64 o) := hr.cell 0
  have r1 : W.cell? ⟨w.heap.size + 1, 1, none⟩ = some (.int .i64 d.kind) := hr.cell 1
  have r2 : W.cell? ⟨w.heap.size + 1, 2, none⟩ = some (.string d.text) := hr.cell 2
  have r3 : W.cell? ⟨w.heap.size + 1, 3, none⟩ = some (.slice l'.nA d.nn l'.nc) := hr.cell 3
  have r4 : W.cell? ⟨w.heap.size + 1, 4, none⟩ = some (.slice l'.kA d.kn l'.kc) := hr.cell 4
  have r5 : W.cell? ⟨w.heap.size + 1, 5, none⟩ = some (.int .i64 d.turn) := hr.cell 5
  exact bodyPost_ret (v := .agg #[.int .i64 o, .int .i64 d.kind, .string d.text, .slice l'.nA d.nn l'.nc, .slice l'.kA d.kn l'.kc, .int .i64 d.turn]) (by simp [results, Tryz.results74, go_sem, r0, r1, r2, r3, r4, r5]) rfl ⟨l', rfl, hB, owns_lower hN (by omega), owns_lower hP (by omega), HAP.out⟩

/-- A place more is laid behind the first ones, within the row's room. -/
theorem owns_fill6 {W : World} {B : Nat} {e : TypeId} {g k cap : Nat} {xs : List Value} {v0 v1 v2 v3 v4 v5 : Value} (h : W.ownsRow B e 6 (.slice (some ⟨g, 0, none⟩) k cap) k xs) (hk : k < cap) :
    ((((((W.setCell ⟨g, k * 6, none⟩ v0).setCell ⟨g, k * 6 + 1, none⟩ v1).setCell ⟨g, k * 6 + 2, none⟩ v2).setCell ⟨g, k * 6 + 3, none⟩ v3).setCell ⟨g, k * 6 + 4, none⟩ v4).setCell ⟨g, k * 6 + 5, none⟩ v5).ownsRow B e 6 (.slice (some ⟨g, 0, none⟩) (k + 1) cap) (k + 1) (xs ++ [v0, v1, v2, v3, v4, v5]) := by
  obtain ⟨hl, h0 | ⟨g', cap', cur, hv, hB, hg, hc, hm, hs, ht⟩⟩ := h
  · simp at h0
  simp at hv
  obtain ⟨rfl, rfl⟩ := hv
  have hb : Blk W g cur e := hg
  have hb' := (((((hb.set (k * 6) v0).set (k * 6 + 1) v1).set (k * 6 + 2) v2).set (k * 6 + 3) v3).set (k * 6 + 4) v4).set (k * 6 + 5) v5
  refine ⟨by simp [hl]; omega, Or.inr ⟨g, cap, _, rfl, hB, hb', by omega, hm, by simp [hs], ?_⟩⟩
  apply List.ext_getElem?
  intro i
  rw [List.getElem?_take]
  by_cases hi : i < (k + 1) * 6
  · rw [if_pos hi, Array.getElem?_toList]
    simp only [Array.getElem?_setIfInBounds]
    by_cases h1 : i < k * 6
    · rw [List.getElem?_append_left (by omega)]
      have : xs[i]? = cur[i]? := by rw [← ht, List.getElem?_take, if_pos h1, Array.getElem?_toList]
      rw [this]
      simp only [show ¬ k * 6 + 5 = i by omega, show ¬ k * 6 + 4 = i by omega, show ¬ k * 6 + 3 = i by omega, show ¬ k * 6 + 2 = i by omega, show ¬ k * 6 + 1 = i by omega, show ¬ k * 6 = i by omega, if_false]
    · rw [List.getElem?_append_right (by omega), hl]
      obtain ⟨r, rfl⟩ : ∃ r, i = k * 6 + r := ⟨i - k * 6, by omega⟩
      have hr : r < 6 := by omega
      have hsz : ∀ q, q < 6 → k * 6 + q < cur.size := fun q hq => by omega
      rw [show k * 6 + r - k * 6 = r by omega]
      have hr5 : r = 0 ∨ r = 1 ∨ r = 2 ∨ r = 3 ∨ r = 4 ∨ r = 5 := by omega
      rcases hr5 with rfl | rfl | rfl | rfl | rfl | rfl <;> simp [hsz 0 (by omega), hsz 1 (by omega), hsz 2 (by omega), hsz 3 (by omega), hsz 4 (by omega), hsz 5 (by omega)] <;> (try (have := hsz 0 (by omega); omega))
  · rw [if_neg hi, List.getElem?_eq_none (by simp [hl]; omega)]

theorem OD.fill6 {W W1 : World} {B k : Nat} {O : Nat → Int} {D : Nat → Nd} {L : Nat → Loc} {g cap : Nat} {o : Int} {x : Nd} {l : Loc} (h : OD W B 0 (fun _ => false) k O D L (.slice none 0 0) (.slice (some ⟨g, 0, none⟩) k cap)) (hN : NewNn W x l W1) (hB : B ≤ W.heap.size) (hk : k < cap) :
    OD ((((((W1.setCell ⟨g, k * 6, none⟩ (.int .i64 o)).setCell ⟨g, k * 6 + 1, none⟩ (.int .i64 x.kind)).setCell ⟨g, k * 6 + 2, none⟩ (.string x.text)).setCell ⟨g, k * 6 + 3, none⟩ (.slice l.nA x.nn l.nc)).setCell ⟨g, k * 6 + 4, none⟩ (.slice l.kA x.kn l.kc)).setCell ⟨g, k * 6 + 5, none⟩ (.int .i64 x.turn)) B 0 (fun _ => false) (k + 1) (fun i => if i = k then o else O i) (fun i => if i = k then x else D i) (fun i => if i = k then l else L i) (.slice none 0 0) (.slice (some ⟨g, 0, none⟩) (k + 1) cap) := by
  refine h.item (o := o) hN hB ?_ ?_ (fun b e => Or.inl e)
  · have hst : ∀ (i : Nat) (v : Value) (U : World), U.grownBy (U.setCell ⟨g, i, none⟩ v) (some g) := fun i v U => ⟨rfl, rfl, rfl, by simp, fun b _ hb => blk_setCell_other _ _ _ _ (show b ≠ g from fun e => hb (by rw [e]))⟩
    have tr : ∀ {A C E : World}, A.grownBy C (some g) → C.grownBy E (some g) → A.grownBy E (some g) := fun {A C E} h1 h2 => ⟨h2.os.trans h1.os, h2.tape.trans h1.tape, h2.output.trans h1.output, Nat.le_trans h1.size h2.size, fun b hb hne => (h2.block b (Nat.lt_of_lt_of_le hb h1.size) hne).trans (h1.block b hb hne)⟩
    exact tr (tr (tr (tr (tr (hst _ _ _) (hst _ _ _)) (hst _ _ _)) (hst _ _ _)) (hst _ _ _)) (hst _ _ _)
  · exact owns_fill6 (owns_same h.ownI (fun b hb => hN.bel.block b (owns_block h.ownI hb).2)) hk

set_option maxHeartbeats 1000000 in
theorem toItemS_own (a : Option Addr) (n c : Nat) (O : Nat → Int) (D : Nat → Nd) (L : Nat → Loc) (w : World) (hS : IsIts w a n O D L) (hn : n ≤ 1048576) (hsm : ∀ i, i < n → (D i).nn ≤ 1048576 ∧ (D i).kn ≤ 1048576) :
    Calls Tryz.prog 57 #[.slice a n c] w fun e w' => e = .returned (.slice (some ⟨w.heap.size, 0, none⟩) n n) ∧ Below w.heap.size w w' ∧ ∃ L', OD w' w.heap.size 0 (fun _ => false) n O D L' (.slice none 0 0) (.slice (some ⟨w.heap.size, 0, none⟩) n n) := by
  have hmk := fun w => run_make_wide (P := Tryz.prog) 62 100 _ 88 6 Tryz.underlying62 infoItem .i64 .i64 n (by omega) (by omega) w
  go_enter Tryz.func57, Tryz.ntmps57
  go_wp2
  go_loopw [4] (fun i wr => ∃ (k : Nat) (L' : Nat → Loc), k ≤ n ∧ i = .int .i64 k ∧ Below w.heap.size w wr ∧ OD wr w.heap.size 0 (fun _ => false) k O D L' (.slice none 0 0) (.slice (some ⟨w.heap.size, 0, none⟩) k n) ∧ ∃ g, wr.rowIs w.heap.size 100 (n * 6) g) (fun i _ => n - (intOf i).toNat)
  case atStart =>
    obtain ⟨g, hg⟩ := rowIs_wide w #[.int .i64 0, .int .i64 0, .string ByteArray.empty, .slice none 0 0, .slice none 0 0, .int .i64 0] (n * 6) 100
    refine ⟨0, L, Nat.zero_le _, rfl, (Below.refl _ _).alloc (Nat.le_refl _) _, ?_, g, hg⟩
    obtain ⟨cur, h1, h2, _⟩ := hg
    refine ⟨⟨fun d hd => ?_, fun d1 d2 g1 g2 hne b e1 e2 => ?_⟩⟩
    · have hd' : d = 0 ∨ d = 1 := by omega
      rcases hd' with rfl | rfl
      · exact World.ownsRow_nil _ _ _ _
      · exact ⟨by simp [rowD, rowsI], Or.inr ⟨w.heap.size, n, cur, rfl, Nat.le_refl _, h1, by simp [rowD], by unfold maxLen; omega, by simpa [rowD] using h2, by simp [rowD, rowsI]⟩⟩
    · have hd1 : d1 = 0 ∨ d1 = 1 := by omega
      have hd2 : d2 = 0 ∨ d2 = 1 := by omega
      rcases hd1 with rfl | rfl
      · simp [valD, Value.ownBlock] at e1
      · rcases hd2 with rfl | rfl
        · simp [valD, Value.ownBlock] at e2
        · exact hne rfl
  case round =>
    obtain ⟨k, L', hk, rfl, hb, hot, g, hrow⟩ := hrel
    by_cases hlt : k < n
    · obtain ⟨b, off, rfl, hlt2, hc⟩ := (hS.below (Nat.le_refl _) hb).at hlt
      obtain ⟨c0, c1, c2, c3, c4, c5, hI⟩ := hc k hlt
      clear hc
      go_wp2_with fail
      refine (toItem_new (O k) (D k) (L k) wr hI (hsm k hlt).1 (hsm k hlt).2).mono ?_
      rintro e w1 ⟨l', rfl, hN⟩
      unfold itV
      have hB := hb.trans (hN.bel.mono hb.size)
      have hrow1 := row_below hrow hN.bel
      have HR : Hid (OD wr w.heap.size 0 (fun _ => false) k O D L' (.slice none 0 0) (.slice (some ⟨w.heap.size, 0, none⟩) k n) ∧ NewNn wr (D k) l' w1 ∧ Below w.heap.size w w1 ∧ w.heap.size ≤ wr.heap.size ∧ w1.rowIs w.heap.size 100 (n * 6) g) := ⟨hot, hN, hB, hb.size, hrow1⟩
      have d0 := hrow1.cell (show k * 6 < n * 6 by omega)
      have d1 := hrow1.cell (show k * 6 + 1 < n * 6 by omega)
      have d2 := hrow1.cell (show k * 6 + 2 < n * 6 by omega)
      have d3 := hrow1.cell (show k * 6 + 3 < n * 6 by omega)
      have d4 := hrow1.cell (show k * 6 + 4 < n * 6 by omega)
      have d5 := hrow1.cell (show k * 6 + 5 < n * 6 by omega)
      have e5 := hrow1.frozen (k * 6 + 5)
      have e0 := hrow1.frozen (k * 6)
      have e1 := hrow1.frozen (k * 6 + 1)
      have e2 := hrow1.frozen (k * 6 + 2)
      have e3 := hrow1.frozen (k * 6 + 3)
      have e4 := hrow1.frozen (k * 6 + 4)
      clear hb hot hrow hB hrow1 hN hI c0 c1 c2 c3 c4 c5
      go_wp2
      go_roundw
      case rel => exact ⟨k + 1, fun i => if i = k then l' else L' i, by omega, by go_num, bel_put (bel_put (bel_put (bel_put (bel_put (bel_put HR.out.2.2.1 _ (Nat.le_refl _)) _ (Nat.le_refl _)) _ (Nat.le_refl _)) _ (Nat.le_refl _)) _ (Nat.le_refl _)) _ (Nat.le_refl _), (HR.out.1.fill6 (o := O k) HR.out.2.1 HR.out.2.2.2.1 hlt).ext2 (fun i hi => by by_cases e : i = k <;> simp [e]), _, (((((HR.out.2.2.2.2.set _ _).set _ _).set _ _).set _ _).set _ _).set _ _⟩
      case measure => simp [intOf]; omega
    · have hkn : k = n := by omega
      subst hkn
      have HR : Hid (Below w.heap.size w wr ∧ ∃ L', OD wr w.heap.size 0 (fun _ => false) k O D L' (.slice none 0 0) (.slice (some ⟨w.heap.size, 0, none⟩) k k)) := ⟨hb, L', hot⟩
      clear hb hrow hot
      go_wp2
      go_ret
      exact ⟨rfl, HR.out.1, HR.out.2⟩

theorem toBoolS_row (a : Option Addr) (n c : Nat) (Z : Nat → Bool) (w : World) (hS : IsBools w a n Z) (hn : n ≤ 1048576) :
    Calls Tryz.prog 56 #[.slice a n c] w fun e w' => ∃ b, e = .returned (.slice (some ⟨b, 0, none⟩) n n) ∧ w.heap.size ≤ b ∧ b < w'.heap.size ∧ Below w.heap.size w w' ∧ w'.rowIs b 4 n (fun i => .bool (Z i)) :=
  (toBoolS_any a n c Z w hS hn).mono fun e w' ⟨he, hb, hr⟩ => ⟨_, he, Nat.le_refl _, hr.lt, hb, hr⟩

/-- What is known within toDump, the truth values being copied. -/
structure Dump2o (w : World) (d : Dp) (l : DLoc) (b : Nat) (W : World) : Prop where
  p : Blk W w.heap.size #[.int .i64 d.since, .int .i64 d.date, .slice l.lA d.ln l.lc, .slice l.iA d.m l.ic] 58
  r : Blk W (w.heap.size + 1) #[.int .i64 0, .int .i64 0, .slice none 0 0, .slice none 0 0] 64
  o : Blk W (w.heap.size + 1 + 1) #[.int .i64 d.since, .int .i64 d.date, .slice (some ⟨b, 0, none⟩) d.ln d.ln, .slice none 0 0] 64
  bel : Below w.heap.size w W
  size : w.heap.size + 3 ≤ W.heap.size
  le : w.heap.size + 3 ≤ b
  lt : b < W.heap.size
  live : W.rowIs b 4 d.ln (fun i => .bool (d.live i))

/-- What is known at toDump's end. -/
structure DumpEndo (w : World) (d : Dp) (b b' : Nat) (W : World) : Prop where
  r : Blk W (w.heap.size + 1) #[.int .i64 d.since, .int .i64 d.date, .slice (some ⟨b, 0, none⟩) d.ln d.ln, .slice (some ⟨b', 0, none⟩) d.m d.m] 64
  bel : Below w.heap.size w W
  live : W.rowIs b 4 d.ln (fun i => .bool (d.live i))
  items : ∃ L', OD W b' 0 (fun _ => false) d.m d.ino d.nd L' (.slice none 0 0) (.slice (some ⟨b', 0, none⟩) d.m d.m)

set_option maxHeartbeats 1000000 in
theorem toDump_own (d : Dp) (l : DLoc) (w : World) (hI : DpIn w d l) (hsz : d.size ≤ 1048576) :
    Calls Tryz.prog 31 #[dpV d l] w fun e w' => ∃ l', e = .returned (dpV d l') ∧ Below w.heap.size w w' ∧ OwnDp w' w.heap.size d l' := by
  unfold dpV
  have hln : d.ln ≤ 1048576 := by unfold Dp.size at hsz; omega
  have hm : d.m ≤ 1048576 := by unfold Dp.size at hsz; omega
  have HSM : Hid (∀ i, i < d.m → (d.nd i).nn ≤ 1048576 ∧ (d.nd i).kn ≤ 1048576) := small_of_size (by unfold Dp.size at hsz; omega)
  go_enter Tryz.func31, Tryz.ntmps31
  go_wp2_with fail
  refine at_world (F := New3 w _ _ _ _ _ _) (new3 w _ _ _ _ _ _) ?_
  rintro W ⟨hp, hr, ho, hb0, hs0⟩
  refine (toBoolS_row l.lA d.ln l.lc d.live _ (hI.live.below (Nat.le_refl _) hb0) hln).mono ?_
  rintro e w1 ⟨b, rfl, hge, hlt, hb1, hS1⟩
  have hp1 := hp.below hb1 (by omega)
  have hr1 := hr.below hb1 (by omega)
  have ho1 := ho.below hb1 (by omega)
  have hB1 := hb0.trans (hb1.mono (by omega))
  have o2 : w1.cell? ⟨w.heap.size + 1 + 1, 2, none⟩ = some (.slice none 0 0) := ho1.cell 2
  have f2 := ho1.frozen 2
  have p3 : w1.cell? ⟨w.heap.size, 3, none⟩ = some (.slice l.iA d.m l.ic) := hp1.cell 3
  have hsz1 := hb1.size
  have F2 : Hid (Dump2o w d l b _) := ⟨hp1.off (b' := w.heap.size + 1 + 1) (i := 2) (.slice (some ⟨b, 0, none⟩) d.ln d.ln) (by omega), hr1.off _ (by omega), ho1.set 2 _, bel_put hB1 _ (by omega), by simp; omega, by omega, by simp; omega, row_off hS1 _ (by omega)⟩
  clear hp hr ho hb0 hb1 hp1 hr1 ho1 hB1 hS1
  go_wp2_with fail
  refine at_world (F := Dump2o w d l b) F2.out ?_
  clear F2 hge hlt f2 o2 p3 hs0 hsz1
  rintro W ⟨hp, hr, ho, hb0, hs0, hlb, hbl, hS⟩
  refine (toItemS_own l.iA d.m l.ic d.ino d.nd l.L _ (hI.items.below (Nat.le_refl _) hb0) hm HSM.out).mono ?_
  rintro e w2 ⟨rfl, hb1, hrow⟩
  have hp1 := hp.below hb1 (by omega)
  have hr1 := hr.below hb1 (by omega)
  have ho1 := ho.below hb1 (by omega)
  have hB1 := hb0.trans (hb1.mono (by omega))
  have hS1 := row_below hS hb1
  have hsz := hb1.size
  have o0 : w2.cell? ⟨w.heap.size + 1 + 1, 0, none⟩ = some (.int .i64 d.since) := ho1.cell 0
  have o1 : w2.cell? ⟨w.heap.size + 1 + 1, 1, none⟩ = some (.int .i64 d.date) := ho1.cell 1
  have o2 : w2.cell? ⟨w.heap.size + 1 + 1, 2, none⟩ = some (.slice (some ⟨b, 0, none⟩) d.ln d.ln) := ho1.cell 2
  have o3 : w2.cell? ⟨w.heap.size + 1 + 1, 3, none⟩ = some (.slice none 0 0) := ho1.cell 3
  have f3 := ho1.frozen 3
  have r0 : w2.cell? ⟨w.heap.size + 1, 0, none⟩ = some (.int .i64 0) := hr1.cell 0
  have r1 : w2.cell? ⟨w.heap.size + 1, 1, none⟩ = some (.int .i64 0) := hr1.cell 1
  have r2 : w2.cell? ⟨w.heap.size + 1, 2, none⟩ = some (.slice none 0 0) := hr1.cell 2
  have r3 : w2.cell? ⟨w.heap.size + 1, 3, none⟩ = some (.slice none 0 0) := hr1.cell 3
  have g0 := hr1.frozen 0
  have g1 := hr1.frozen 1
  have g2 := hr1.frozen 2
  have g3 := hr1.frozen 3
  have FB : Hid (Blk w2 (w.heap.size + 1) _ _ ∧ Below w.heap.size w w2 ∧ w2.rowIs b 4 d.ln (fun i => .bool (d.live i)) ∧ ∃ L', OD w2 W.heap.size 0 (fun _ => false) d.m d.ino d.nd L' (.slice none 0 0) (.slice (some ⟨W.heap.size, 0, none⟩) d.m d.m)) := ⟨hr1, hB1, hS1, hrow⟩
  have hs1 : w.heap.size + 3 ≤ W.heap.size := by omega
  have hbw : b < W.heap.size := hbl
  generalize W.heap.size = bW at *
  clear hp hr ho hb0 hb1 hp1 hr1 ho1 hB1 hS1 hrow hS hs0
  go_wp2_with fail
  obtain ⟨hr, hB, hS, L', hrow⟩ := FB.out
  refine end_world (F := DumpEndo w d b bW)
    ⟨((((hr.off _ (by omega)).set 0 _).set 1 _).set 2 _).set 3 _,
     bel_put (bel_put (bel_put (bel_put (bel_put hB _ (by omega)) _ (by omega)) _ (by omega)) _ (by omega)) _ (by omega),
     (row_off (row_off (row_off (row_off (row_off hS _ (by omega)) _ (by omega)) _ (by omega)) _ (by omega)) _ (by omega)),
     L', ((((hrow.off _ (by omega)).off _ (by omega)).off _ (by omega)).off _ (by omega)).off _ (by omega)⟩ ?_
  clear hr hB hS hrow FB o0 o1 o2 o3 f3 r0 r1 r2 r3 g0 g1 g2 g3
  rintro W ⟨hr, hB, hS, L2, hrow⟩
  have r0 : W.cell? ⟨w.heap.size + 1, 0, none⟩ = some (.int .i64 d.since) := hr.cell 0
  have r1 : W.cell? ⟨w.heap.size + 1, 1, none⟩ = some (.int .i64 d.date) := hr.cell 1
  have r2 : W.cell? ⟨w.heap.size + 1, 2, none⟩ = some (.slice (some ⟨b, 0, none⟩) d.ln d.ln) := hr.cell 2
  have r3 : W.cell? ⟨w.heap.size + 1, 3, none⟩ = some (.slice (some ⟨bW, 0, none⟩) d.m d.m) := hr.cell 3
  exact bodyPost_ret (v := .agg #[.int .i64 d.since, .int .i64 d.date, .slice (some ⟨b, 0, none⟩) d.ln d.ln, .slice (some ⟨bW, 0, none⟩) d.m d.m]) (by simp [results, Tryz.results31, go_sem, r0, r1, r2, r3]) rfl ⟨⟨some ⟨b, 0, none⟩, d.ln, some ⟨bW, 0, none⟩, d.m, L2⟩, rfl, hB, OD.withLive hrow (row_ownB hS (by omega) (by unfold maxLen; omega)) (by omega) (fun x e => by simp [Value.ownBlock] at e; omega)⟩

end Go.Proofs.YtakifcobofkheabGreatDoor
