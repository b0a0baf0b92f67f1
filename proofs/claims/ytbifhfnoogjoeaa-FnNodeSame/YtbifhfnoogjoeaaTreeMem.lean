/-
  A tree that a draw has made, as it lies in memory: its places in a row of their own, their lists elsewhere; what writing into the row leaves. Plain facts.
-/
import Derived.Test.YtbifhfnoogjoeaaNodesDef
import Derived.Test.YtbifhfnoogjoeaaOwns
namespace Go.Proofs.Ytbifhfnoogjoeaa
open Go.RowKit Go.Deep
set_option linter.unusedVariables false

/-- An address, if it is one, is of a block that was there, not below B and not g. -/
def Off (W : World) (B g : Nat) (a : Option Addr) : Prop := ∀ b o x, a = some ⟨b, o, x⟩ → B ≤ b ∧ b ≠ g ∧ b < W.heap.size

/-- n places lie in block g, which is one's own from B on, with room for cap of them; their lists lie in other blocks. -/
structure OwnT (W : World) (B g cap n : Nat) (D : Nat → Nd) (L : Nat → Loc) : Prop where
  blk : ∃ cur : Array Value, W.heap[g]? = some (.cells cur 36 (0, 0)) ∧ cur.size = cap * 5
  base : B ≤ g
  room : n ≤ cap
  most : cap ≤ maxLen
  cells : ∀ i, i < n → W.cell? ⟨g, i * 5, none⟩ = some (.int .i64 (D i).kind) ∧ W.cell? ⟨g, i * 5 + 1, none⟩ = some (.string (D i).text) ∧
    W.cell? ⟨g, i * 5 + 2, none⟩ = some (.slice (L i).nA (D i).nn (L i).nc) ∧ W.cell? ⟨g, i * 5 + 3, none⟩ = some (.slice (L i).kA (D i).kn (L i).kc) ∧ W.cell? ⟨g, i * 5 + 4, none⟩ = some (.int .i64 (D i).turn)
  lists : ∀ i, i < n → NdIn W (D i) (L i) ∧ Off W B g (L i).nA ∧ Off W B g (L i).kA

section
variable {W W' : World} {B g cap n : Nat} {D D' : Nat → Nd} {L L' : Nat → Loc}

theorem OwnT.lt (h : OwnT W B g cap n D L) : g < W.heap.size := by
  obtain ⟨cur, hb, _⟩ := h.blk
  exact (Array.getElem?_eq_some_iff.1 hb).1

theorem OwnT.frozen (h : OwnT W B g cap n D L) (k : Nat) : W.frozen? ⟨g, k, none⟩ = false := by
  obtain ⟨cur, hb, _⟩ := h.blk
  simp [World.frozen?, hb]

theorem OwnT.nds (h : OwnT W B g cap n D L) : IsNds W (some ⟨g, 0, none⟩) n D L :=
  Or.inr ⟨g, 0, rfl, h.lt, fun i hi => by
    obtain ⟨h0, h1, h2, h3, h4⟩ := h.cells i hi
    rw [Nat.zero_add]
    exact ⟨h0, h1, h2, h3, h4, (h.lists i hi).1⟩⟩

theorem Off.grow {a : Option Addr} (h : Off W B g a) (hs : W.heap.size ≤ W'.heap.size) : Off W' B g a := fun b o x e => by
  obtain ⟨h1, h2, h3⟩ := h b o x e
  exact ⟨h1, h2, by omega⟩

theorem IsStrs.of_blocks {a : Option Addr} {k : Nat} {S : Nat → ByteArray} (h : IsStrs W a k S) (hs : W.heap.size ≤ W'.heap.size) (hb : ∀ b o x, a = some ⟨b, o, x⟩ → W'.heap[b]? = W.heap[b]?) : IsStrs W' a k S := by
  rcases h with h | ⟨b, off, rfl, hlt, hc⟩
  · exact Or.inl h
  · exact Or.inr ⟨b, off, rfl, by omega, fun i hi => by rw [← hc i hi]; exact World.cell?_of_block (hb b off none rfl)⟩

theorem IsInts.of_blocks {a : Option Addr} {k : Nat} {Z : Nat → Int} (h : IsInts W a k Z) (hs : W.heap.size ≤ W'.heap.size) (hb : ∀ b o x, a = some ⟨b, o, x⟩ → W'.heap[b]? = W.heap[b]?) : IsInts W' a k Z := by
  rcases h with h | ⟨b, off, rfl, hlt, hc⟩
  · exact Or.inl h
  · exact Or.inr ⟨b, off, rfl, by omega, fun i hi => by rw [← hc i hi]; exact World.cell?_of_block (hb b off none rfl)⟩

/-- What turns nothing but a block below B leaves it. -/
theorem OwnT.grown {r : Nat} (h : OwnT W B g cap n D L) (hg : W.grownBy W' (some r)) (hr : r < B) : OwnT W' B g cap n D L := by
  have hb : ∀ b, B ≤ b → b < W.heap.size → W'.heap[b]? = W.heap[b]? := fun b h1 h2 => hg.block b h2 (by simp; omega)
  have hgb := hb g h.base h.lt
  have hc : ∀ k, W'.cell? ⟨g, k, none⟩ = W.cell? ⟨g, k, none⟩ := fun k => World.cell?_of_block hgb
  refine ⟨?_, h.base, h.room, h.most, fun i hi => ?_, fun i hi => ?_⟩
  · rw [hgb]; exact h.blk
  · rw [hc, hc, hc, hc, hc]; exact h.cells i hi
  · obtain ⟨⟨h1, h2⟩, h3, h4⟩ := h.lists i hi
    exact ⟨⟨h1.of_blocks hg.size (fun b o x e => hb b (h3 b o x e).1 (h3 b o x e).2.2), h2.of_blocks hg.size (fun b o x e => hb b (h4 b o x e).1 (h4 b o x e).2.2)⟩, h3.grow hg.size, h4.grow hg.size⟩

theorem OwnT.below (h : OwnT W B g cap n D L) (hb : Below W.heap.size W W') : OwnT W' B g cap n D L := by
  have hgb : W'.heap[g]? = W.heap[g]? := hb.block g h.lt
  have hc : ∀ k, W'.cell? ⟨g, k, none⟩ = W.cell? ⟨g, k, none⟩ := fun k => World.cell?_of_block hgb
  refine ⟨?_, h.base, h.room, h.most, fun i hi => ?_, fun i hi => ?_⟩
  · rw [hgb]; exact h.blk
  · rw [hc, hc, hc, hc, hc]; exact h.cells i hi
  · obtain ⟨h1, h3, h4⟩ := h.lists i hi
    exact ⟨h1.below (Nat.le_refl _) hb, h3.grow hb.size, h4.grow hb.size⟩

/-- A cell of the row is written. -/
theorem OwnT.set (h : OwnT W B g cap n D L) {k : Nat} {v : Value}
    (hc : ∀ i, i < n → (if i * 5 = k then some v else W.cell? ⟨g, i * 5, none⟩) = some (.int .i64 (D' i).kind) ∧ (if i * 5 + 1 = k then some v else W.cell? ⟨g, i * 5 + 1, none⟩) = some (.string (D' i).text) ∧
      (if i * 5 + 2 = k then some v else W.cell? ⟨g, i * 5 + 2, none⟩) = some (.slice (L' i).nA (D' i).nn (L' i).nc) ∧ (if i * 5 + 3 = k then some v else W.cell? ⟨g, i * 5 + 3, none⟩) = some (.slice (L' i).kA (D' i).kn (L' i).kc) ∧ (if i * 5 + 4 = k then some v else W.cell? ⟨g, i * 5 + 4, none⟩) = some (.int .i64 (D' i).turn))
    (hl : ∀ i, i < n → NdIn W (D' i) (L' i) ∧ Off W B g (L' i).nA ∧ Off W B g (L' i).kA) : OwnT (W.setCell ⟨g, k, none⟩ v) B g cap n D' L' := by
  obtain ⟨cur, hb, hcs⟩ := h.blk
  have hs : (W.setCell ⟨g, k, none⟩ v).heap.size = W.heap.size := by simp [World.setCell]
  have hcell : ∀ j, j < cap * 5 → (W.setCell ⟨g, k, none⟩ v).cell? ⟨g, j, none⟩ = if j = k then some v else W.cell? ⟨g, j, none⟩ := fun j hj => by
    have hset : (W.setCell ⟨g, k, none⟩ v).heap[g]? = some (.cells (cur.setIfInBounds k v) 36 (0, 0)) := by simp [World.setCell, Array.getElem?_modify, hb]
    simp only [World.cell?, hset, hb]
    by_cases e : j = k
    · subst e; simp [hcs, hj]
    · simp [e, Ne.symm e]
  have hoth : ∀ b, b ≠ g → (W.setCell ⟨g, k, none⟩ v).heap[b]? = W.heap[b]? := fun b hbg => blk_setCell_other _ _ _ _ hbg
  have hroom := h.room
  refine ⟨⟨cur.setIfInBounds k v, by simp [World.setCell, Array.getElem?_modify, hb], by simp [hcs]⟩, h.base, h.room, h.most, fun i hi => ?_, fun i hi => ?_⟩
  · rw [hcell _ (by omega), hcell _ (by omega), hcell _ (by omega), hcell _ (by omega), hcell _ (by omega)]
    exact hc i hi
  · obtain ⟨⟨h1, h2⟩, h3, h4⟩ := hl i hi
    exact ⟨⟨h1.of_blocks (by omega) (fun b o x e => hoth b (h3 b o x e).2.1), h2.of_blocks (by omega) (fun b o x e => hoth b (h4 b o x e).2.1)⟩, h3.grow (by omega), h4.grow (by omega)⟩
end
end Go.Proofs.Ytbifhfnoogjoeaa
