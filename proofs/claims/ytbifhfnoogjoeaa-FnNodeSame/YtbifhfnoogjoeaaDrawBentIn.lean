/-
  What is known within l2Bent, and what its steps leave. Plain facts.
-/
import Derived.Test.YtbifhfnoogjoeaaDrawSome
import Derived.Test.YtbifhfnoogjoeaaDrawNew
namespace Go.Proofs.Ytbifhfnoogjoeaa
open Go.RowKit Go.Deep
set_option linter.unusedVariables false

/-- A place of a drawn tree, bent or not. -/
structure FairNd (d : Nd) : Prop where
  nn : d.nn ≤ 11
  kn : d.kn ≤ 11
  names : ∀ j, j < d.nn → Nm (d.names j)
  kids : ∀ j, j < d.kn → 0 ≤ d.kids j ∧ d.kids j ≤ 99
  text : d.text.size ≤ 10
  kind : 0 ≤ d.kind ∧ d.kind ≤ 3
  turn : -1 ≤ d.turn ∧ d.turn ≤ 1001

/-- A drawn tree, bent or not. -/
structure Fair (n : Nat) (D : Nat → Nd) : Prop where
  some : 1 ≤ n
  few : n ≤ 11
  each : ∀ i, i < n → FairNd (D i)

theorem FairNd.fits {d : Nd} (h : FairNd d) : d.Fits := by
  have h1 := h.nn
  have h2 := h.kn
  have h3 := h.text
  have h4 := h.kind
  have h5 := h.turn
  refine ⟨⟨by omega, by omega⟩, ⟨by omega, by omega⟩, by unfold maxLen; omega, fun i hi => by have := (h.names i hi).size; unfold maxLen; omega, by unfold maxLen; omega, by unfold maxLen; omega, fun i hi => by have := h.kids i hi; exact ⟨by omega, by omega⟩⟩

theorem Fair.fits {n : Nat} {D : Nat → Nd} (h : Fair n D) : FitAll n D := fun i hi => (h.each i hi).fits

theorem NiceNd.fair {n m : Nat} {d : Nd} (h : NiceNd n m d) (hn : n ≤ 10) (hm : m ≤ 10) : FairNd d := by
  have h1 := h.same
  have h2 := h.few
  have h3 := h.kind
  have h4 := h.turn
  exact ⟨by omega, by omega, h.short, fun j hj => by have := h.kids j (by omega); omega, h.text, by omega, by omega⟩

theorem Nice.fair {n m : Nat} {D : Nat → Nd} (h : Nice n m D) (hm : m ≤ 10) : Fair n D := ⟨h.some, by have := h.few; omega, fun i hi => (h.each i hi).fair h.few hm⟩

theorem Fair.put {n : Nat} {D : Nat → Nd} (h : Fair n D) {i : Nat} {d : Nd} (hd : FairNd d) : Fair n (putNd D i d) :=
  ⟨h.some, h.few, fun j hj => by
    by_cases e : j = i
    · subst e; rw [putNd_same]; exact hd
    · rw [putNd_ne D d e]; exact h.each j hj⟩

theorem Fair.app {n : Nat} {D : Nat → Nd} (h : Fair n D) (hn : n ≤ 10) {d : Nd} (hd : FairNd d) : Fair (n + 1) (putNd D n d) :=
  ⟨by omega, by omega, fun j hj => by
    by_cases e : j = n
    · subst e; rw [putNd_same]; exact hd
    · rw [putNd_ne D d e]; exact h.each j (by omega)⟩

theorem leaf_fair : FairNd (leafNd 1 1) := ⟨Nat.zero_le _, Nat.zero_le _, fun j hj => absurd hj (Nat.not_lt_zero _), fun j hj => absurd hj (Nat.not_lt_zero _), by simp [leafNd], by simp [leafNd], by simp [leafNd]⟩

theorem with_fair {d : Nd} {NL : List ByteArray} {KL : List Int} (h : FairNd d) (hn : d.nn ≤ 10) (hw : WL (fun z => 0 ≤ z ∧ z ≤ 99) d.nn true NL KL) : FairNd (withNd d NL KL) := by
  have h1 := hw.len
  have h2 := hw.same
  simp at h1
  refine ⟨by show NL.length ≤ 11; omega, by show KL.length ≤ 11; omega, fun j hj => ?_, fun j hj => ?_, by show ByteArray.empty.size ≤ 10; simp, h.kind, h.turn⟩
  · have hj' : j < NL.length := hj
    have : (withNd d NL KL).names j = NL[j] := by simp [withNd, hj']
    rw [this]
    exact hw.short _ (List.getElem_mem hj')
  · have hj' : j < KL.length := hj
    have : (withNd d NL KL).kids j = KL[j] := by simp [withNd, hj']
    rw [this]
    exact hw.right _ (List.getElem_mem hj')

/-- A place with one of Kids more. -/
def kidNd (d : Nd) (z : Int) : Nd := { d with kn := d.kn + 1, kids := fun j => if j < d.kn then d.kids j else z }

theorem kid_fair {d : Nd} {z : Int} (h : FairNd d) (hk : d.kn ≤ 10) (h0 : 0 ≤ z) (h1 : z ≤ 99) : FairNd (kidNd d z) :=
  ⟨h.nn, by show d.kn + 1 ≤ 11; omega, h.names, fun j hj => by
    by_cases e : j < d.kn
    · have : (kidNd d z).kids j = d.kids j := by simp [kidNd, e]
      rw [this]; exact h.kids j e
    · have : (kidNd d z).kids j = z := by simp [kidNd, e]
      rw [this]; exact ⟨h0, h1⟩, h.text, h.kind, h.turn⟩

/-- What is known within l2Bent: its answer lies in block w.heap.size, t in block T. -/
structure BI (w : World) (T r : Nat) (a : Option Addr) (len cp : Nat) (zs : Nat → Int) (q g cap n : Nat) (D : Nat → Nd) (L : Nat → Loc) (now : Int) (W : World) : Prop where
  rd : IsRd W r a len cp zs q
  res : Blk W w.heap.size #[.slice none 0 0, .int .i64 0] 25
  t : Blk W T #[.slice (some ⟨g, 0, none⟩) n cap, .int .i64 now] 25
  own : OwnT W (w.heap.size + 1) g cap n D L
  away : Away (fun b => b = T) g n L
  above : w.heap.size < T
  grown : w.grownBy W (some r)
  rlt : r < w.heap.size

/-- A tree has been drawn, bent or not. -/
structure BentD (w : World) (r : Nat) (a : Option Addr) (len cp : Nat) (zs : Nat → Int) (q g cap n : Nat) (D : Nat → Nd) (L : Nat → Loc) (W : World) : Prop where
  rd : IsRd W r a len cp zs q
  own : OwnT W w.heap.size g cap n D L
  fair : Fair n D
  grown : w.grownBy W (some r)

/-- .. and is written into the answer. -/
structure BEnd (w : World) (r : Nat) (a : Option Addr) (len cp : Nat) (zs : Nat → Int) (q g cap n : Nat) (D : Nat → Nd) (L : Nat → Loc) (now : Int) (W : World) : Prop where
  ans : Blk W w.heap.size #[.slice (some ⟨g, 0, none⟩) n cap, .int .i64 now] 25
  drew : BentD w r a len cp zs q g cap n D L W

section
variable {w : World} {T r : Nat} {a : Option Addr} {len cp : Nat} {zs : Nat → Int} {q g cap n m : Nat} {D D' : Nat → Nd} {L L' : Nat → Loc} {now : Int} {W W' : World}

theorem BI.base (h : BI w T r a len cp zs q g cap n D L now W) : w.heap.size + 1 ≤ g ∧ g ≠ T ∧ w.heap.size < W.heap.size := ⟨h.own.base, h.away.row, h.res.lt⟩

theorem BI.start {w1 : World} {p : Nat} (hd : Drew (w.alloc (.cells #[.slice none 0 0, .int .i64 0] 25)) r a len cp zs q g cap n D L w1) (hrl : r < w.heap.size) :
    BI w w1.heap.size r a len cp zs q g cap n D L now (w1.alloc (.cells #[.slice (some ⟨g, 0, none⟩) n cap, .int .i64 now] 25)) := by
  have hs := hd.grown.size
  have hs' : w.heap.size + 1 ≤ w1.heap.size := by simpa using hs
  have ho := hd.own
  have e : (w.alloc (.cells #[.slice none 0 0, .int .i64 0] 25)).heap.size = w.heap.size + 1 := by simp
  rw [e] at ho
  have hl := ho.lt
  refine ⟨hd.rd.alloc _, ((Blk.new w _ _).of_block (hd.grown.block _ (by simp) (by simp; omega))).alloc _, Blk.new w1 _ _, ho.below ((Below.refl _ _).alloc (Nat.le_refl _) _), ⟨by omega, fun i hi => ⟨fun b o x e => by have := ((ho.lists i hi).2.1 b o x e).2.2; omega, fun b o x e => by have := ((ho.lists i hi).2.2 b o x e).2.2; omega⟩⟩, by omega, ?_, hrl⟩
  exact ⟨hd.grown.os, hd.grown.tape, hd.grown.output, by simp; omega, fun k h1 h2 => ((blk_alloc_lt _ _ _ (by omega)).trans (hd.grown.block k (by simp; omega) h2)).trans (blk_alloc_lt _ _ _ h1)⟩

theorem Drew.kids2 {w0 w1 : World} (hd : Drew w0 r a len cp zs q g cap n D L w1) (o : Obj) : KidsOwn (w1.alloc o) n D L :=
  hd.kids.of_blocks (fun i hi b o' x e => blk_alloc_lt _ _ _ ((hd.own.lists i hi).2.2 b o' x e).2.2)

/-- The reader goes on. -/
theorem BI.read (h : BI w T r a len cp zs q g cap n D L now W) (hg : W.grownBy W' (some r)) {q' : Nat} (hr : IsRd W' r a len cp zs q') : BI w T r a len cp zs q' g cap n D L now W' := by
  have h3 := h.above
  have h4 := h.rlt
  have h5 := h.grown.size
  have h6 := h.res.lt
  have h7 := h.t.lt
  exact ⟨hr, h.res.of_block (hg.block _ h6 (by simp; omega)), h.t.of_block (hg.block _ h7 (by simp; omega)), h.own.grown hg (by omega), h.away, h3, grown_trans h.grown hg, h4⟩

theorem BI.readKids (h : BI w T r a len cp zs q g cap n D L now W) (hk : KidsOwn W n D L) (hg : W.grownBy W' (some r)) : KidsOwn W' n D L :=
  hk.of_blocks (fun i hi b o x e => by have h1 := (h.own.lists i hi).2.2 b o x e; have h2 := h.rlt; exact hg.block b (by omega) (by simp; omega))

/-- Nothing that was there turns. -/
theorem BI.below (h : BI w T r a len cp zs q g cap n D L now W) (hb : Below W.heap.size W W') : BI w T r a len cp zs q g cap n D L now W' := by
  have h4 := h.rlt
  have h5 := h.grown.size
  have hs := hb.size
  exact ⟨h.rd.kept (fun k hk => hb.block k (by omega)), h.res.below hb h.res.lt, h.t.below hb h.t.lt, h.own.below hb, h.away, h.above, ⟨hb.os.trans h.grown.os, hb.tape.trans h.grown.tape, hb.output.trans h.grown.output, by omega, fun k h1 h2 => (hb.block k (by omega)).trans (h.grown.block k h1 h2)⟩, h.rlt⟩
theorem BI.drew (h : BI w T r a len cp zs q g cap n D L now W) (k : Nat) : BI w T r a len cp zs q g cap n D L now (W.drewN k) := h.below (below_drewN (Below.refl _ _) k)
theorem BI.alloc (h : BI w T r a len cp zs q g cap n D L now W) (o : Obj) : BI w T r a len cp zs q g cap n D L now (W.alloc o) := h.below ((Below.refl _ _).alloc (Nat.le_refl _) _)
theorem BI.belowKids (h : BI w T r a len cp zs q g cap n D L now W) (hk : KidsOwn W n D L) (hb : Below W.heap.size W W') : KidsOwn W' n D L :=
  hk.of_blocks (fun i hi b o x e => hb.block b ((h.own.lists i hi).2.2 b o x e).2.2)

theorem grown_put {w W : World} {r b k : Nat} {v : Value} (h : w.grownBy W (some r)) (hb : w.heap.size ≤ b) : w.grownBy (W.setCell ⟨b, k, none⟩ v) (some r) :=
  ⟨h.os, h.tape, h.output, by have := h.size; simpa [World.setCell] using this, fun j h1 h2 => (blk_setCell_other _ _ _ _ (by show j ≠ b; omega)).trans (h.block j h1 h2)⟩

/-- Some block of one's own is written, and nothing else. -/
theorem BI.grownSet (h : BI w T r a len cp zs q g cap n D L now W) {b k : Nat} {v : Value} (hb : w.heap.size ≤ b) : w.grownBy (W.setCell ⟨b, k, none⟩ v) (some r) :=
  ⟨h.grown.os, h.grown.tape, h.grown.output, by have := h.grown.size; simpa [World.setCell] using this, fun j h1 h2 => (blk_setCell_other _ _ _ _ (by show j ≠ b; omega)).trans (h.grown.block j h1 h2)⟩

/-- Now is written. -/
theorem BI.setNow (h : BI w T r a len cp zs q g cap n D L now W) (z : Int) : BI w T r a len cp zs q g cap n D L z (W.setCell ⟨T, 1, none⟩ (.int .i64 z)) := by
  have h3 := h.above
  have h4 := h.rlt
  exact ⟨h.rd.kept (fun k hk => blk_setCell_other _ _ _ _ (by show k ≠ T; omega)), h.res.off _ (by omega), h.t.set 1 _, h.own.setOther h.away rfl _ _, h.away, h3, h.grownSet (by omega), h4⟩

/-- A cell of the row is written. -/
theorem BI.put (h : BI w T r a len cp zs q g cap n D L now W) {k : Nat} {v : Value} (ho : OwnT (W.setCell ⟨g, k, none⟩ v) (w.heap.size + 1) g cap n D' L) : BI w T r a len cp zs q g cap n D' L now (W.setCell ⟨g, k, none⟩ v) := by
  have h3 := h.above
  have h4 := h.rlt
  have hb := h.base
  exact ⟨h.rd.kept (fun k hk => blk_setCell_other _ _ _ _ (by show k ≠ g; omega)), h.res.off _ (by omega), h.t.off _ (by omega), ho, h.away, h3, h.grownSet (by omega), h4⟩

/-- A place is written whole. -/
theorem BI.putNode (h : BI w T r a len cp zs q g cap n D L now W) {i : Nat} (hi : i < n) (d : Nd) (l : Loc) (hd : NdIn W d l) (hn : ∀ b o x, l.nA = some ⟨b, o, x⟩ → w.heap.size + 1 ≤ b ∧ b ≠ g ∧ b ≠ T ∧ b < W.heap.size) (hk : ∀ b o x, l.kA = some ⟨b, o, x⟩ → w.heap.size + 1 ≤ b ∧ b ≠ g ∧ b ≠ T ∧ b < W.heap.size) :
    BI w T r a len cp zs q g cap n (putNd D i d) (putLoc L i l) now (((((W.setCell ⟨g, i * 5, none⟩ (.int .i64 d.kind)).setCell ⟨g, i * 5 + 1, none⟩ (.string d.text)).setCell ⟨g, i * 5 + 2, none⟩ (.slice l.nA d.nn l.nc)).setCell ⟨g, i * 5 + 3, none⟩ (.slice l.kA d.kn l.kc)).setCell ⟨g, i * 5 + 4, none⟩ (.int .i64 d.turn)) := by
  have h3 := h.above
  have h4 := h.rlt
  have hb := h.base
  have ho := h.own.setNode hi d l hd (fun b o x e => by have := hn b o x e; omega) (fun b o x e => by have := hk b o x e; omega)
  have oth : ∀ (X : World) (k : Nat) (v : Value) (b : Nat), b ≠ g → (X.setCell ⟨g, k, none⟩ v).heap[b]? = X.heap[b]? := fun X k v b hb => blk_setCell_other _ _ _ _ hb
  have all : ∀ b, b ≠ g → (((((W.setCell ⟨g, i * 5, none⟩ (.int .i64 d.kind)).setCell ⟨g, i * 5 + 1, none⟩ (.string d.text)).setCell ⟨g, i * 5 + 2, none⟩ (.slice l.nA d.nn l.nc)).setCell ⟨g, i * 5 + 3, none⟩ (.slice l.kA d.kn l.kc)).setCell ⟨g, i * 5 + 4, none⟩ (.int .i64 d.turn)).heap[b]? = W.heap[b]? := fun b hb => by
    rw [oth _ _ _ b hb, oth _ _ _ b hb, oth _ _ _ b hb, oth _ _ _ b hb, oth _ _ _ b hb]
  refine ⟨h.rd.kept (fun j hj => all j (by omega)), h.res.of_block (all _ (by omega)), h.t.of_block (all _ (by omega)), ho, ⟨h.away.row, fun j hj => ?_⟩, h3, grown_put (grown_put (grown_put (grown_put (grown_put h.grown (by omega)) (by omega)) (by omega)) (by omega)) (by omega), h4⟩
  by_cases e : j = i
  · subst e
    simp only [putLoc, if_true]
    exact ⟨fun b o x e => by have := hn b o x e; omega, fun b o x e => by have := hk b o x e; omega⟩
  · simp only [putLoc, if_neg e]
    exact h.away.lists j hj

/-- A place is appended, and t.Nodes written. -/
theorem BI.append (h : BI w T r a len cp zs q g cap n D L now W) {cur : Array Value} (hc : W.heap[g]? = some (.cells cur 36 (0, 0))) (hs : cur.size = cap * 5) {g' cap' : Nat} {k z : Int}
    (hown : W'.ownsRow (w.heap.size + 1) 36 5 (.slice (some ⟨g', 0, none⟩) (n + 1) cap') (n + 1) (cur.toList.take (n * 5) ++ leafCells k z)) (hgrow : W.grownBy W' (some g)) (hat : g = g' ∨ W.heap.size ≤ g') :
    BI w T r a len cp zs q g' cap' (n + 1) (putNd D n (leafNd k z)) (putLoc L n loc00) now (W'.setCell ⟨T, 0, none⟩ (.slice (some ⟨g', 0, none⟩) (n + 1) cap')) := by
  have h3 := h.above
  have h4 := h.rlt
  have hb := h.base
  have h5 := h.t.lt
  have h6 := h.grown.size
  have ho := h.own.appL hc hs hown hgrow hat
  have ha : Away (fun b => b = T) g' (n + 1) (putLoc L n loc00) := by
    refine ⟨by rcases hat with rfl | hat <;> omega, fun j hj => ?_⟩
    by_cases e : j = n
    · subst e
      simp only [putLoc, if_true]
      exact ⟨fun b o x e => by simp [loc00] at e, fun b o x e => by simp [loc00] at e⟩
    · simp only [putLoc, if_neg e]
      exact h.away.lists j (by omega)
  have hblk : ∀ b, b < W.heap.size → b ≠ g → W'.heap[b]? = W.heap[b]? := fun b h1 h2 => hgrow.block b h1 (by simpa using h2)
  refine ⟨h.rd.kept (fun j hj => (blk_setCell_other _ _ _ _ (by show j ≠ T; omega)).trans (hblk j (by omega) (by omega))), (h.res.of_block (hblk _ (by omega) (by omega))).off _ (by omega), (h.t.of_block (hblk _ (by omega) (by omega))).set 0 _, ho.setOther ha rfl _ _, ha, h3, ?_, h4⟩
  exact ⟨hgrow.os.trans h.grown.os, hgrow.tape.trans h.grown.tape, hgrow.output.trans h.grown.output, by have := hgrow.size; simp [World.setCell]; omega, fun j h1 h2 => (blk_setCell_other _ _ _ _ (by show j ≠ T; omega)).trans ((hblk j (by omega) (by omega)).trans (h.grown.block j h1 h2))⟩

/-- A cell of the row is written, in a world where lists have changed. -/
theorem OwnT.setIn {B : Nat} (h : OwnT W B g cap n D L) (hgb : W'.heap[g]? = W.heap[g]?) {k : Nat} {v : Value}
    (hc : ∀ i, i < n → (if i * 5 = k then some v else W.cell? ⟨g, i * 5, none⟩) = some (.int .i64 (D' i).kind) ∧ (if i * 5 + 1 = k then some v else W.cell? ⟨g, i * 5 + 1, none⟩) = some (.string (D' i).text) ∧
      (if i * 5 + 2 = k then some v else W.cell? ⟨g, i * 5 + 2, none⟩) = some (.slice (L' i).nA (D' i).nn (L' i).nc) ∧ (if i * 5 + 3 = k then some v else W.cell? ⟨g, i * 5 + 3, none⟩) = some (.slice (L' i).kA (D' i).kn (L' i).kc) ∧ (if i * 5 + 4 = k then some v else W.cell? ⟨g, i * 5 + 4, none⟩) = some (.int .i64 (D' i).turn))
    (hl : ∀ i, i < n → NdIn W' (D' i) (L' i) ∧ Off W' B g (L' i).nA ∧ Off W' B g (L' i).kA) : OwnT (W'.setCell ⟨g, k, none⟩ v) B g cap n D' L' := by
  obtain ⟨cur, hb0, hcs⟩ := h.blk
  have hb : W'.heap[g]? = some (.cells cur 36 (0, 0)) := hgb.trans hb0
  have hs : (W'.setCell ⟨g, k, none⟩ v).heap.size = W'.heap.size := by simp [World.setCell]
  have hcell : ∀ j, j < cap * 5 → (W'.setCell ⟨g, k, none⟩ v).cell? ⟨g, j, none⟩ = if j = k then some v else W.cell? ⟨g, j, none⟩ := fun j hj => by
    have hset : (W'.setCell ⟨g, k, none⟩ v).heap[g]? = some (.cells (cur.setIfInBounds k v) 36 (0, 0)) := by simp [World.setCell, Array.getElem?_modify, hb]
    simp only [World.cell?, hset, hb0]
    by_cases e : j = k
    · subst e; simp [hcs, hj]
    · simp [e, Ne.symm e]
  have hoth : ∀ b, b ≠ g → (W'.setCell ⟨g, k, none⟩ v).heap[b]? = W'.heap[b]? := fun b hbg => blk_setCell_other _ _ _ _ hbg
  have hroom := h.room
  refine ⟨⟨cur.setIfInBounds k v, by simp [World.setCell, Array.getElem?_modify, hb], by simp [hcs]⟩, h.base, h.room, h.most, fun i hi => ?_, fun i hi => ?_⟩
  · rw [hcell _ (by omega), hcell _ (by omega), hcell _ (by omega), hcell _ (by omega), hcell _ (by omega)]
    exact hc i hi
  · obtain ⟨⟨h1, h2⟩, h3, h4⟩ := hl i hi
    exact ⟨⟨h1.of_blocks (by omega) (fun b o x e => hoth b (h3 b o x e).2.1), h2.of_blocks (by omega) (fun b o x e => hoth b (h4 b o x e).2.1)⟩, h3.grow (by omega), h4.grow (by omega)⟩

/-- One of Kids is appended, and written. -/
theorem BI.kidApp (h : BI w T r a len cp zs q g cap n D L now W) (hk : KidsOwn W n D L) {i : Nat} (hi : i < n) {z : Int} {g' c' : Nat}
    (hown : W'.ownsRow (w.heap.size + 1) 3 1 (.slice (some ⟨g', 0, none⟩) ((D i).kn + 1) c') ((D i).kn + 1) (intv ((List.range (D i).kn).map (D i).kids) ++ intv [z])) (hgrow : W.grownBy W' (Value.slice (L i).kA (D i).kn (L i).kc).ownBlock) (hat : (Value.slice (L i).kA (D i).kn (L i).kc).ownBlock = some g' ∨ W.heap.size ≤ g') :
    BI w T r a len cp zs q g cap n (putNd D i (kidNd (D i) z)) (putLoc L i { L i with kA := some ⟨g', 0, none⟩, kc := c' }) now (W'.setCell ⟨g, i * 5 + 3, none⟩ (.slice (some ⟨g', 0, none⟩) ((D i).kn + 1) c')) := by
  have h3 := h.above
  have h4 := h.rlt
  have hb := h.base
  have h5 := h.t.lt
  have h6 := h.grown.size
  have h7 := h.own.lt
  have hob : ∀ b, (Value.slice (L i).kA (D i).kn (L i).kc).ownBlock = some b → ∃ o x, (L i).kA = some ⟨b, o, x⟩ := fun b e => by
    rcases hk.room i hi with ⟨e1, e2, e3⟩ | ⟨b', cur, e1, _⟩
    · rw [e1, e2, e3] at e; simp [Value.ownBlock] at e
    · rw [e1] at e; simp [Value.ownBlock] at e; subst e; exact ⟨0, none, e1⟩
  have hblk : ∀ b, b < W.heap.size → (∀ o x, (L i).kA ≠ some ⟨b, o, x⟩) → W'.heap[b]? = W.heap[b]? := fun b h1 h2 => hgrow.block b h1 (fun e => by obtain ⟨o, x, e'⟩ := hob b e.symm; exact h2 o x e')
  have kof := (h.own.lists i hi).2.2
  have kaw := (h.away.lists i hi).2
  have hgb : W'.heap[g]? = W.heap[g]? := hblk g h7 (fun o x e => (kof g o x e).2.1 rfl)
  have hg' : w.heap.size + 1 ≤ g' ∧ g' ≠ g ∧ g' ≠ T := by
    rcases hat with e | e
    · obtain ⟨o, x, e'⟩ := hob g' e
      have h1 := kof g' o x e'
      have h2 := kaw g' o x e'
      exact ⟨h1.1, h1.2.1, h2⟩
    · omega
  have hs' := hgrow.size
  have hg'lt : g' < W'.heap.size := by
    rcases hown.2 with ⟨h0, _⟩ | ⟨g2, cap2, cur2, hv, hb2, hblk2, _⟩
    · cases h0
    · cases hv; exact (Array.getElem?_eq_some_iff.1 hblk2).1
  have hZ : IsInts W' (some ⟨g', 0, none⟩) ((D i).kn + 1) (kidNd (D i) z).kids := by
    rcases hown.2 with ⟨h0, _⟩ | ⟨g2, cap2, cur2, hv, hb2, hblk2, hn2, hm2, hs2, ht2⟩
    · cases h0
    cases hv
    refine Or.inr ⟨g', 0, rfl, hg'lt, fun j hj => ?_⟩
    have e1 : W'.cell? ⟨g', 0 + j, none⟩ = (intv ((List.range (D i).kn).map (D i).kids) ++ intv [z])[j]? := by
      rw [← ht2, List.getElem?_take_of_lt (by omega)]
      simp [World.cell?, hblk2]
    rw [e1]
    by_cases e : j < (D i).kn
    · rw [List.getElem?_append_left (by simpa [intv] using e)]
      simp [intv, kidNd, e]
    · have : j = (D i).kn := by omega
      subst this
      rw [List.getElem?_append_right (by simp [intv])]
      simp [intv, kidNd]
  refine ⟨h.rd.kept (fun j hj => (blk_setCell_other _ _ _ _ (by show j ≠ g; omega)).trans (hblk j (by omega) (fun o x e => by have := (kof j o x e).1; omega))), (h.res.of_block (hblk _ (by omega) (fun o x e => by have := (kof _ o x e).1; omega))).off _ (by omega), (h.t.of_block (hblk _ (by omega) (fun o x e => kaw _ o x e rfl))).off _ (by omega), ?_, ⟨h.away.row, fun j hj => ?_⟩, h3, ?_, h4⟩
  · refine h.own.setIn hgb (fun j hj => ?_) (fun j hj => ?_)
    · obtain ⟨c0, c1, c2, c3, c4⟩ := h.own.cells j hj
      by_cases e : j = i
      · subst e
        rw [putNd_same]
        simp [c0, c1, c2, c4, putLoc, kidNd]
      · rw [putNd_ne D _ e]
        rw [if_neg (by omega), if_neg (by omega), if_neg (by omega), if_neg (by omega), if_neg (by omega)]
        simp only [putLoc, if_neg e]
        exact ⟨c0, c1, c2, c3, c4⟩
    · obtain ⟨⟨s1, s2⟩, o1, o2⟩ := h.own.lists j hj
      have hn : IsStrs W' (L j).nA (D j).nn (D j).names := s1.of_blocks hs' (fun b o x e => hblk b (o1 b o x e).2.2 (fun o' x' e' => hk.names i j hi hj b o' x' b o x e' e rfl))
      by_cases e : j = i
      · subst e
        rw [putNd_same]
        simp only [putLoc, if_true]
        exact ⟨⟨hn, hZ⟩, o1.grow hs', fun b o x e => by cases e; exact ⟨hg'.1, hg'.2.1, hg'lt⟩⟩
      · rw [putNd_ne D _ e]
        simp only [putLoc, if_neg e]
        exact ⟨⟨hn, s2.of_blocks hs' (fun b o x e2 => hblk b (o2 b o x e2).2.2 (fun o' x' e' => hk.kids i j hi hj (Ne.symm e) b o' x' b o x e' e2 rfl))⟩, o1.grow hs', o2.grow hs'⟩
  · by_cases e : j = i
    · subst e
      simp only [putLoc, if_true]
      exact ⟨(h.away.lists j hj).1, fun b o x e => by cases e; exact hg'.2.2⟩
    · simp only [putLoc, if_neg e]
      exact h.away.lists j hj
  · exact ⟨hgrow.os.trans h.grown.os, hgrow.tape.trans h.grown.tape, hgrow.output.trans h.grown.output, by simp [World.setCell]; omega, fun j h1 h2 => (blk_setCell_other _ _ _ _ (by show j ≠ g; omega)).trans ((hblk j (by omega) (fun o x e => by have := (kof j o x e).1; omega)).trans (h.grown.block j h1 h2))⟩

/-- The answer is written. -/
theorem BI.fin (h : BI w T r a len cp zs q g cap n D L now W) (hf : Fair n D) : BEnd w r a len cp zs q g cap n D L now ((W.setCell ⟨w.heap.size, 0, none⟩ (.slice (some ⟨g, 0, none⟩) n cap)).setCell ⟨w.heap.size, 1, none⟩ (.int .i64 now)) := by
  have h3 := h.above
  have h4 := h.rlt
  have h5 := h.grown.size
  have hb := h.own.base
  have ha : Away (fun b => b = w.heap.size) g n L := ⟨by omega, fun i hi => ⟨fun b o x e => by have := ((h.own.lists i hi).2.1 b o x e).1; omega, fun b o x e => by have := ((h.own.lists i hi).2.2 b o x e).1; omega⟩⟩
  have hs : ∀ b, b ≠ w.heap.size → ((W.setCell ⟨w.heap.size, 0, none⟩ (.slice (some ⟨g, 0, none⟩) n cap)).setCell ⟨w.heap.size, 1, none⟩ (.int .i64 now)).heap[b]? = W.heap[b]? := fun b hb => (blk_setCell_other _ _ _ _ hb).trans (blk_setCell_other _ _ _ _ hb)
  refine ⟨(h.res.set 0 _).set 1 _, h.rd.kept (fun k hk => hs k (by omega)), ((h.own.setOther ha rfl _ _).setOther ha rfl _ _).lower (by omega), hf, ⟨h.grown.os, h.grown.tape, h.grown.output, ?_, fun k h1 h2 => (hs k (by omega)).trans (h.grown.block k h1 h2)⟩⟩
  simp [World.setCell]; omega
end
end Go.Proofs.Ytbifhfnoogjoeaa
