/-
  A place more in a tree that is being drawn; what is known within l2Grow. Plain facts.
-/
import Derived.Test.YtbifhfnoogjoeaaTreeRoom
namespace Go.Proofs.Ytbifhfnoogjoeaa
open Go.RowKit Go.Deep
set_option linter.unusedVariables false

def loc00 : Loc := ⟨none, 0, none, 0⟩
/-- A place with nothing but a kind. -/
def kindNd (k : Int) : Nd := ⟨k, ByteArray.empty, 0, fun _ => ByteArray.empty, 0, fun _ => 0, 0⟩
def kindCells (k : Int) : List Value := [.int .i64 k, .string ByteArray.empty, .slice none 0 0, .slice none 0 0, .int .i64 0]
/-- A place with nothing but a kind and a turn. -/
def leafNd (k z : Int) : Nd := ⟨k, ByteArray.empty, 0, fun _ => ByteArray.empty, 0, fun _ => 0, z⟩
def leafCells (k z : Int) : List Value := [.int .i64 k, .string ByteArray.empty, .slice none 0 0, .slice none 0 0, .int .i64 z]

section
variable {W W' : World} {B g cap n : Nat} {D : Nat → Nd} {L : Nat → Loc} {X : Nat → Prop}

/-- The row as one's own. -/
theorem OwnT.owns (h : OwnT W B g cap n D L) {cur : Array Value} (hc : W.heap[g]? = some (.cells cur 36 (0, 0))) (hs : cur.size = cap * 5) :
    W.ownsRow B 36 5 (.slice (some ⟨g, 0, none⟩) n cap) n (cur.toList.take (n * 5)) := by
  have hr := h.room
  refine ⟨by simp [hs]; omega, Or.inr ⟨g, cap, cur, rfl, h.base, hc, h.room, h.most, hs, rfl⟩⟩

/-- A place more, behind all. -/
theorem OwnT.appL (h : OwnT W B g cap n D L) {cur : Array Value} (hc : W.heap[g]? = some (.cells cur 36 (0, 0))) (hs : cur.size = cap * 5) {g' cap' : Nat} {k z : Int}
    (hown : W'.ownsRow B 36 5 (.slice (some ⟨g', 0, none⟩) (n + 1) cap') (n + 1) (cur.toList.take (n * 5) ++ leafCells k z)) (hgrow : W.grownBy W' (some g)) (hat : g = g' ∨ W.heap.size ≤ g') :
    OwnT W' B g' cap' (n + 1) (putNd D n (leafNd k z)) (putLoc L n loc00) := by
  have hr := h.room
  rcases hown.2 with ⟨h0, _⟩ | ⟨g2, cap2, cur2, hv, hb2, hblk2, hn2, hm2, hs2, ht2⟩
  · cases h0
  cases hv
  have hl : (cur.toList.take (n * 5)).length = n * 5 := by simp [hs]; omega
  have cell2 : ∀ j, j < (n + 1) * 5 → W'.cell? ⟨g', j, none⟩ = (cur.toList.take (n * 5) ++ leafCells k z)[j]? := fun j hj => by
    rw [← ht2, List.getElem?_take_of_lt hj]
    simp [World.cell?, hblk2]
  have old : ∀ j, j < n * 5 → W'.cell? ⟨g', j, none⟩ = W.cell? ⟨g, j, none⟩ := fun j hj => by
    rw [cell2 j (by omega), List.getElem?_append_left (by omega), List.getElem?_take_of_lt hj]
    simp [World.cell?, hc]
  have new : ∀ j, j < 5 → W'.cell? ⟨g', n * 5 + j, none⟩ = (leafCells k z)[j]? := fun j hj => by
    rw [cell2 _ (by omega), List.getElem?_append_right (by omega), hl]
    congr 1
    omega
  have hoff : ∀ a, Off W B g a → Off W' B g' a := fun a ha b o x e => by
    obtain ⟨h1, h2, h3⟩ := ha b o x e
    exact ⟨h1, by rcases hat with rfl | hat <;> omega, by have := hgrow.size; omega⟩
  have hblk : ∀ a, Off W B g a → ∀ b o x, a = some ⟨b, o, x⟩ → W'.heap[b]? = W.heap[b]? := fun a ha b o x e => by
    obtain ⟨h1, h2, h3⟩ := ha b o x e
    exact hgrow.block b h3 (by simpa using h2)
  refine ⟨⟨cur2, hblk2, hs2⟩, hb2, hn2, hm2, fun i hi => ?_, fun i hi => ?_⟩
  · by_cases e : i = n
    · subst e
      rw [putNd_same]
      have n0 := new 0 (by omega)
      have n1 := new 1 (by omega)
      have n2 := new 2 (by omega)
      have n3 := new 3 (by omega)
      have n4 := new 4 (by omega)
      simp only [putLoc, if_true]
      exact ⟨n0, n1, n2, n3, n4⟩
    · rw [putNd_ne D _ e]
      simp only [putLoc, if_neg e]
      rw [old _ (by omega), old _ (by omega), old _ (by omega), old _ (by omega), old _ (by omega)]
      exact h.cells i (by omega)
  · by_cases e : i = n
    · subst e
      rw [putNd_same]
      simp only [putLoc, if_true]
      exact ⟨⟨Or.inl rfl, Or.inl rfl⟩, fun b o x e => by simp [loc00] at e, fun b o x e => by simp [loc00] at e⟩
    · rw [putNd_ne D _ e]
      simp only [putLoc, if_neg e]
      obtain ⟨⟨h1, h2⟩, h3, h4⟩ := h.lists i (by omega)
      exact ⟨⟨h1.of_blocks hgrow.size (hblk _ h3), h2.of_blocks hgrow.size (hblk _ h4)⟩, hoff _ h3, hoff _ h4⟩

theorem OwnT.app (h : OwnT W B g cap n D L) {cur : Array Value} (hc : W.heap[g]? = some (.cells cur 36 (0, 0))) (hs : cur.size = cap * 5) {g' cap' : Nat} {k : Int}
    (hown : W'.ownsRow B 36 5 (.slice (some ⟨g', 0, none⟩) (n + 1) cap') (n + 1) (cur.toList.take (n * 5) ++ kindCells k)) (hgrow : W.grownBy W' (some g)) (hat : g = g' ∨ W.heap.size ≤ g') :
    OwnT W' B g' cap' (n + 1) (putNd D n (kindNd k)) (putLoc L n loc00) := OwnT.appL (k := k) (z := 0) h hc hs hown hgrow hat
end

/-- What is known within l2Grow. -/
structure GI (w : World) (X : Nat → Prop) (r : Nat) (a : Option Addr) (len cp : Nat) (zs : Nat → Int) (q g cap n : Nat) (D : Nat → Nd) (L : Nat → Loc) (now : Int) (W : World) : Prop where
  rd : IsRd W r a len cp zs q
  t : Blk W w.heap.size #[.slice (some ⟨g, 0, none⟩) n cap, .int .i64 now] 25
  res : Blk W (w.heap.size + 1) #[.slice none 0 0, .int .i64 0] 25
  own : OwnT W (r + 1) g cap n D L
  away : Away (fun b => b = w.heap.size ∨ b = w.heap.size + 1) g n L
  bel : Below r w W
  rlt : r < w.heap.size
  awX : Away X g n L
  kept : ∀ b, X b → W.heap[b]? = w.heap[b]?
  hX : ∀ b, X b → b < w.heap.size ∧ b ≠ r
  kids : KidsOwn W n D L

section
variable {w : World} {X : Nat → Prop} {r : Nat} {a : Option Addr} {len cp : Nat} {zs : Nat → Int} {q g cap n : Nat} {D : Nat → Nd} {L : Nat → Loc} {now : Int} {W W' : World}

theorem GI.size (h : GI w X r a len cp zs q g cap n D L now W) : w.heap.size + 2 ≤ W.heap.size := by have := h.res.lt; omega

/-- The reader goes on. -/
theorem GI.read (h : GI w X r a len cp zs q g cap n D L now W) (hg : W.grownBy W' (some r)) {q' : Nat} (hr : IsRd W' r a len cp zs q') : GI w X r a len cp zs q' g cap n D L now W' := by
  have hs := h.size
  have hl := h.rlt
  exact ⟨hr, h.t.of_block (hg.block _ (by omega) (by simp; omega)), h.res.of_block (hg.block _ (by omega) (by simp; omega)), h.own.grown hg (by omega), h.away, h.bel.grown hg (by omega) (fun k e => by simp at e; omega), h.rlt, h.awX, fun b hb => (hg.block b (by have := h.hX b hb; omega) (by have := h.hX b hb; simp; omega)).trans (h.kept b hb), h.hX, h.kids.of_blocks (fun i hi b o x e => by have h1 := (h.own.lists i hi).2.2 b o x e; have h2 := (h.away.lists i hi).2 b o x e; exact hg.block b (by omega) (by simp; omega))⟩

/-- Nothing that was there turns. -/
theorem GI.below (h : GI w X r a len cp zs q g cap n D L now W) (hb : Below W.heap.size W W') : GI w X r a len cp zs q g cap n D L now W' := by
  have hs := h.size
  have hl := h.rlt
  exact ⟨h.rd.kept (fun k hk => hb.block k (by omega)), h.t.below hb h.t.lt, h.res.below hb h.res.lt, h.own.below hb, h.away, h.bel.trans (hb.mono (by omega)), h.rlt, h.awX, fun b hx => (hb.block b (by have := h.hX b hx; omega)).trans (h.kept b hx), h.hX, h.kids.of_blocks (fun i hi b o x e => by have h1 := (h.own.lists i hi).2.2 b o x e; have h2 := (h.away.lists i hi).2 b o x e; exact hb.block b (by omega))⟩
theorem GI.drew (h : GI w X r a len cp zs q g cap n D L now W) (k : Nat) : GI w X r a len cp zs q g cap n D L now (W.drewN k) := h.below (below_drewN (Below.refl _ _) k)
theorem GI.alloc (h : GI w X r a len cp zs q g cap n D L now W) (o : Obj) : GI w X r a len cp zs q g cap n D L now (W.alloc o) := h.below ((Below.refl _ _).alloc (Nat.le_refl _) _)

/-- Now is written. -/
theorem GI.setNow (h : GI w X r a len cp zs q g cap n D L now W) (z : Int) : GI w X r a len cp zs q g cap n D L z (W.setCell ⟨w.heap.size, 1, none⟩ (.int .i64 z)) := by
  have hl := h.rlt
  exact ⟨h.rd.kept (fun k hk => blk_setCell_other _ _ _ _ (by show k ≠ w.heap.size; omega)), h.t.set 1 _, h.res.off _ (by omega), h.own.setOther h.away (Or.inl rfl) _ _, h.away, bel_put h.bel _ (by omega), h.rlt, h.awX, fun b hx => (blk_setCell_other _ _ _ _ (by show b ≠ w.heap.size; have := h.hX b hx; omega)).trans (h.kept b hx), h.hX, h.kids.of_blocks (fun i hi b o x e => by have h1 := (h.own.lists i hi).2.2 b o x e; have h2 := (h.away.lists i hi).2 b o x e; exact blk_setCell_other _ _ _ _ (by show b ≠ w.heap.size; omega))⟩

/-- A cell of the row is written. -/
theorem GI.put (h : GI w X r a len cp zs q g cap n D L now W) {k : Nat} {v : Value} {D' : Nat → Nd} (hkn : ∀ i, i < n → (D' i).kn = (D i).kn) (ho : OwnT (W.setCell ⟨g, k, none⟩ v) (r + 1) g cap n D' L) : GI w X r a len cp zs q g cap n D' L now (W.setCell ⟨g, k, none⟩ v) := by
  have hb := h.own.base
  have hr := h.away.row
  exact ⟨h.rd.kept (fun j hj => blk_setCell_other _ _ _ _ (by show j ≠ g; omega)), h.t.off _ (by omega), h.res.off _ (by omega), ho, h.away, bel_put h.bel _ (by omega), h.rlt, h.awX, fun b hx => (blk_setCell_other _ _ _ _ (by show b ≠ g; intro e; subst e; exact h.awX.row hx)).trans (h.kept b hx), h.hX, (h.kids.of_blocks (fun i hi b o x e => by have h1 := (h.own.lists i hi).2.2 b o x e; have h2 := (h.away.lists i hi).2 b o x e; exact blk_setCell_other _ _ _ _ (by show b ≠ g; omega))).same hkn⟩

/-- A place is written whole. -/
theorem GI.putNode (h : GI w X r a len cp zs q g cap n D L now W) {i : Nat} (hi : i < n) (d : Nd) (l : Loc) (hd : NdIn W d l) (hrm : RoomK W l.kA d.kn l.kc) (hap : Apart l.kA l.nA) (hfar : ∀ j, j < n → j ≠ i → Apart l.kA (L j).kA ∧ Apart l.kA (L j).nA ∧ Apart (L j).kA l.nA) (hn : ∀ b o x, l.nA = some ⟨b, o, x⟩ → w.heap.size + 2 ≤ b ∧ b ≠ g ∧ b < W.heap.size) (hk : ∀ b o x, l.kA = some ⟨b, o, x⟩ → w.heap.size + 2 ≤ b ∧ b ≠ g ∧ b < W.heap.size) :
    GI w X r a len cp zs q g cap n (putNd D i d) (putLoc L i l) now (((((W.setCell ⟨g, i * 5, none⟩ (.int .i64 d.kind)).setCell ⟨g, i * 5 + 1, none⟩ (.string d.text)).setCell ⟨g, i * 5 + 2, none⟩ (.slice l.nA d.nn l.nc)).setCell ⟨g, i * 5 + 3, none⟩ (.slice l.kA d.kn l.kc)).setCell ⟨g, i * 5 + 4, none⟩ (.int .i64 d.turn)) := by
  have hl := h.rlt
  have hb := h.own.base
  have hr := h.away.row
  have ho := h.own.setNode hi d l hd (fun b o x e => by have := hn b o x e; omega) (fun b o x e => by have := hk b o x e; omega)
  have oth : ∀ (X : World) (k : Nat) (v : Value) (b : Nat), b ≠ g → (X.setCell ⟨g, k, none⟩ v).heap[b]? = X.heap[b]? := fun X k v b hb => blk_setCell_other _ _ _ _ hb
  have all : ∀ b, b ≠ g → (((((W.setCell ⟨g, i * 5, none⟩ (.int .i64 d.kind)).setCell ⟨g, i * 5 + 1, none⟩ (.string d.text)).setCell ⟨g, i * 5 + 2, none⟩ (.slice l.nA d.nn l.nc)).setCell ⟨g, i * 5 + 3, none⟩ (.slice l.kA d.kn l.kc)).setCell ⟨g, i * 5 + 4, none⟩ (.int .i64 d.turn)).heap[b]? = W.heap[b]? := fun b hb => by
    rw [oth _ _ _ b hb, oth _ _ _ b hb, oth _ _ _ b hb, oth _ _ _ b hb, oth _ _ _ b hb]
  refine ⟨h.rd.kept (fun j hj => all j (by omega)), h.t.of_block (all _ (by omega)), h.res.of_block (all _ (by omega)), ho, ⟨hr, fun j hj => ?_⟩, bel_put (bel_put (bel_put (bel_put (bel_put h.bel (b := g) _ (by omega)) (b := g) _ (by omega)) (b := g) _ (by omega)) (b := g) _ (by omega)) (b := g) _ (by omega), h.rlt, ⟨h.awX.row, fun j hj => ?_⟩, fun b hx => (all b (fun e => by subst e; exact h.awX.row hx)).trans (h.kept b hx), h.hX, ?_⟩
  · by_cases e : j = i
    · subst e
      simp only [putLoc, if_true]
      exact ⟨fun b o x e => by have := hn b o x e; omega, fun b o x e => by have := hk b o x e; omega⟩
    · simp only [putLoc, if_neg e]
      exact h.away.lists j hj
  · by_cases e : j = i
    · subst e
      simp only [putLoc, if_true]
      exact ⟨fun b o x e => by intro hx; have := hn b o x e; have := h.hX b hx; omega, fun b o x e => by intro hx; have := hk b o x e; have := h.hX b hx; omega⟩
    · simp only [putLoc, if_neg e]
      exact h.awX.lists j hj
  · refine KidsOwn.put (h.kids.of_blocks (fun i hi b o x e => by have h1 := (h.own.lists i hi).2.2 b o x e; exact all b (by omega))) d l (hrm.of_blocks (fun b o x e => all b (hk b o x e).2.1)) hap (fun j hj e => (hfar j hj e).1) (fun j hj e => (hfar j hj e).2.1) (fun j hj e => (hfar j hj e).2.2)

/-- What l2With makes of a place of a tree that is being drawn. -/
theorem nice_with {n m : Nat} {d : Nd} {NL : List ByteArray} {KL : List Int} (h : NiceNd n m d) (hw : WL (fun z => 0 ≤ z ∧ z < (n : Int)) d.nn true NL KL) : NiceNd n (m + 1) (withNd d NL KL) := by
  have h1 := hw.len
  have h2 := hw.same
  simp at h1
  refine ⟨h2, by show NL.length ≤ m + 1; have := h.few; omega, fun j hj => ?_, fun j hj => ?_, by show ByteArray.empty.size ≤ 10; simp, h.kind, h.turn⟩
  · have hj' : j < NL.length := hj
    have : (withNd d NL KL).names j = NL[j] := by simp [withNd, hj']
    rw [this]
    exact hw.short _ (List.getElem_mem hj')
  · have hj' : j < KL.length := by have : j < NL.length := hj; omega
    have : (withNd d NL KL).kids j = KL[j] := by simp [withNd, hj']
    rw [this]
    exact hw.right _ (List.getElem_mem hj')
end
end Go.Proofs.Ytbifhfnoogjoeaa
