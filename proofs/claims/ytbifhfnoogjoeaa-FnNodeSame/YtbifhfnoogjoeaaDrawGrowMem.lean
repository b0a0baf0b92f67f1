/-
  What is known within l2Grow, and what its steps leave. Plain facts.
-/
import Derived.Test.YtbifhfnoogjoeaaDrawTreeMem
namespace Go.Proofs.Ytbifhfnoogjoeaa
open Go.RowKit Go.Deep
set_option linter.unusedVariables false

/-- The row and the lists of a tree lie in none of these blocks. -/
structure Away (X : Nat → Prop) (g n : Nat) (L : Nat → Loc) : Prop where
  row : ¬ X g
  lists : ∀ i, i < n → (∀ b o x, (L i).nA = some ⟨b, o, x⟩ → ¬ X b) ∧ (∀ b o x, (L i).kA = some ⟨b, o, x⟩ → ¬ X b)

section
variable {W W' : World} {B g cap n : Nat} {D : Nat → Nd} {L : Nat → Loc} {X : Nat → Prop}

theorem OwnT.other (h : OwnT W B g cap n D L) (ha : Away X g n L) (hs : W.heap.size ≤ W'.heap.size) (hb : ∀ b, B ≤ b → b < W.heap.size → ¬ X b → W'.heap[b]? = W.heap[b]?) : OwnT W' B g cap n D L := by
  have hgb := hb g h.base h.lt ha.row
  have hc : ∀ k, W'.cell? ⟨g, k, none⟩ = W.cell? ⟨g, k, none⟩ := fun k => World.cell?_of_block hgb
  refine ⟨?_, h.base, h.room, h.most, fun i hi => ?_, fun i hi => ?_⟩
  · rw [hgb]; exact h.blk
  · rw [hc, hc, hc, hc, hc]; exact h.cells i hi
  · obtain ⟨⟨h1, h2⟩, h3, h4⟩ := h.lists i hi
    have a := ha.lists i hi
    exact ⟨⟨h1.of_blocks hs (fun b o x e => hb b (h3 b o x e).1 (h3 b o x e).2.2 (a.1 b o x e)), h2.of_blocks hs (fun b o x e => hb b (h4 b o x e).1 (h4 b o x e).2.2 (a.2 b o x e))⟩, h3.grow hs, h4.grow hs⟩

theorem OwnT.setOther (h : OwnT W B g cap n D L) (ha : Away X g n L) {b : Nat} (hb : X b) (k : Nat) (v : Value) : OwnT (W.setCell ⟨b, k, none⟩ v) B g cap n D L :=
  h.other ha (by simp [World.setCell]) (fun b' _ _ hx => blk_setCell_other _ _ _ _ (by show b' ≠ b; intro e; subst e; exact hx hb))

theorem away_low (h : OwnT W B g cap n D L) {m : Nat} (hm : W.heap.size ≤ m) : Away (fun b => b = m ∨ b = m + 1) g n L :=
  ⟨by have := h.lt; omega, fun i hi => ⟨fun b o x e => by have := ((h.lists i hi).2.1 b o x e).2.2; omega, fun b o x e => by have := ((h.lists i hi).2.2 b o x e).2.2; omega⟩⟩

/-- The names of a place are written. -/
theorem OwnT.setNames (h : OwnT W B g cap n D L) {i : Nat} (hi : i < n) (k c : Nat) (S : Nat → ByteArray) (a : Option Addr) (hS : IsStrs W a k S) (ho : Off W B g a) :
    OwnT (W.setCell ⟨g, i * 5 + 2, none⟩ (.slice a k c)) B g cap n (putNd D i { D i with nn := k, names := S }) (putLoc L i { L i with nA := a, nc := c }) := by
  refine h.set (fun j hj => ?_) (fun j hj => ?_)
  · obtain ⟨h0, h1, h2, h3, h4⟩ := h.cells j hj
    by_cases e : j = i
    · subst e
      rw [putNd_same]
      simp [h0, h1, h3, h4, putLoc]
    · rw [putNd_ne D _ e]
      rw [if_neg (by omega), if_neg (by omega), if_neg (by omega), if_neg (by omega), if_neg (by omega)]
      simp only [putLoc, if_neg e]
      exact ⟨h0, h1, h2, h3, h4⟩
  · by_cases e : j = i
    · subst e
      rw [putNd_same]
      simp only [putLoc, if_true]
      obtain ⟨⟨_, h2⟩, _, h4⟩ := h.lists j hj
      exact ⟨⟨hS, h2⟩, ho, h4⟩
    · rw [putNd_ne D _ e]
      simp only [putLoc, if_neg e]
      exact h.lists j hj

/-- The places of a place are written. -/
theorem OwnT.setKids (h : OwnT W B g cap n D L) {i : Nat} (hi : i < n) (k c : Nat) (Z : Nat → Int) (a : Option Addr) (hZ : IsInts W a k Z) (ho : Off W B g a) :
    OwnT (W.setCell ⟨g, i * 5 + 3, none⟩ (.slice a k c)) B g cap n (putNd D i { D i with kn := k, kids := Z }) (putLoc L i { L i with kA := a, kc := c }) := by
  refine h.set (fun j hj => ?_) (fun j hj => ?_)
  · obtain ⟨h0, h1, h2, h3, h4⟩ := h.cells j hj
    by_cases e : j = i
    · subst e
      rw [putNd_same]
      simp [h0, h1, h2, h4, putLoc]
    · rw [putNd_ne D _ e]
      rw [if_neg (by omega), if_neg (by omega), if_neg (by omega), if_neg (by omega), if_neg (by omega)]
      simp only [putLoc, if_neg e]
      exact ⟨h0, h1, h2, h3, h4⟩
  · by_cases e : j = i
    · subst e
      rw [putNd_same]
      simp only [putLoc, if_true]
      obtain ⟨⟨h1, _⟩, h3, _⟩ := h.lists j hj
      exact ⟨⟨h1, hZ⟩, h3, ho⟩
    · rw [putNd_ne D _ e]
      simp only [putLoc, if_neg e]
      exact h.lists j hj

/-- The kind of a place is written. -/
theorem OwnT.setKind (h : OwnT W B g cap n D L) {i : Nat} (hi : i < n) (z : Int) : OwnT (W.setCell ⟨g, i * 5, none⟩ (.int .i64 z)) B g cap n (putNd D i { D i with kind := z }) L := by
  refine h.set (fun j hj => ?_) (fun j hj => ?_)
  · obtain ⟨h0, h1, h2, h3, h4⟩ := h.cells j hj
    by_cases e : j = i
    · subst e
      rw [putNd_same]
      simp [h1, h2, h3, h4]
    · rw [putNd_ne D _ e]
      rw [if_neg (by omega), if_neg (by omega), if_neg (by omega), if_neg (by omega), if_neg (by omega)]
      exact ⟨h0, h1, h2, h3, h4⟩
  · by_cases e : j = i
    · subst e; rw [putNd_same]; exact h.lists j hj
    · rw [putNd_ne D _ e]; exact h.lists j hj

theorem put_put (D : Nat → Nd) (i : Nat) (d e : Nd) : putNd (putNd D i d) i e = putNd D i e := by
  funext j; by_cases h : j = i <;> simp [putNd, h]
theorem putL_putL (L : Nat → Loc) (i : Nat) (l m : Loc) : putLoc (putLoc L i l) i m = putLoc L i m := by
  funext j; by_cases h : j = i <;> simp [putLoc, h]

/-- A place is written whole. -/
theorem OwnT.setNode (h : OwnT W B g cap n D L) {i : Nat} (hi : i < n) (d : Nd) (l : Loc) (hd : NdIn W d l) (hn : Off W B g l.nA) (hk : Off W B g l.kA) :
    OwnT (((((W.setCell ⟨g, i * 5, none⟩ (.int .i64 d.kind)).setCell ⟨g, i * 5 + 1, none⟩ (.string d.text)).setCell ⟨g, i * 5 + 2, none⟩ (.slice l.nA d.nn l.nc)).setCell ⟨g, i * 5 + 3, none⟩ (.slice l.kA d.kn l.kc)).setCell ⟨g, i * 5 + 4, none⟩ (.int .i64 d.turn)) B g cap n (putNd D i d) (putLoc L i l) := by
  have hsz : ∀ (X : World) (k : Nat) (v : Value), (X.setCell ⟨g, k, none⟩ v).heap.size = X.heap.size := fun X k v => by simp [World.setCell]
  have oth : ∀ (X : World) (k : Nat) (v : Value) (b : Nat), b ≠ g → (X.setCell ⟨g, k, none⟩ v).heap[b]? = X.heap[b]? := fun X k v b hb => blk_setCell_other _ _ _ _ hb
  have h1 := h.setKind hi d.kind
  have h2 := h1.setText hi d.text
  have s2 : IsStrs ((W.setCell ⟨g, i * 5, none⟩ (.int .i64 d.kind)).setCell ⟨g, i * 5 + 1, none⟩ (.string d.text)) l.nA d.nn d.names := hd.1.of_blocks (by simp only [hsz]; exact Nat.le_refl _) (fun b o x e => by rw [oth _ _ _ b (hn b o x e).2.1, oth _ _ _ b (hn b o x e).2.1])
  have h3 := h2.setNames hi d.nn l.nc d.names l.nA s2 (hn.grow (by simp only [hsz]; exact Nat.le_refl _))
  have s3 : IsInts (((W.setCell ⟨g, i * 5, none⟩ (.int .i64 d.kind)).setCell ⟨g, i * 5 + 1, none⟩ (.string d.text)).setCell ⟨g, i * 5 + 2, none⟩ (.slice l.nA d.nn l.nc)) l.kA d.kn d.kids := hd.2.of_blocks (by simp only [hsz]; exact Nat.le_refl _) (fun b o x e => by rw [oth _ _ _ b (hk b o x e).2.1, oth _ _ _ b (hk b o x e).2.1, oth _ _ _ b (hk b o x e).2.1])
  have h4 := h3.setKids hi d.kn l.kc d.kids l.kA s3 (hk.grow (by simp only [hsz]; exact Nat.le_refl _))
  have h5 := h4.setTurn hi d.turn
  simp only [put_put, putL_putL, putNd_same] at h5
  have e : putLoc L i { (putLoc L i { L i with nA := l.nA, nc := l.nc }) i with kA := l.kA, kc := l.kc } = putLoc L i l := by
    congr 1
    simp [putLoc]
  rw [e] at h5
  exact h5
end
end Go.Proofs.Ytbifhfnoogjoeaa
