/-
  For every code, FnDump answers true: of a drawn tree just the places that were turned since are kept, as they are, and which places there are; since its last turn nothing is; and the code reads afterwards as it read before. No condition.
-/
import Derived.Test.YtoblndhmkehoaaaFnDumpB3

/-
  What is known within l2Bent, and what its steps leave. Plain facts.
-/
namespace Go.Proofs.Ytoblndhmkehoaaa
open Go.RowKit Go.Deep
set_option linter.unusedVariables false

/-- A place of a drawn tree, bent or not. -/
structure FairNd (d : Nd) : Prop where
  nn : d.nn ≤ 11
  kn : d.kn ≤ 11
  names : ∀ j, j < d.nn → Nm (d.names j)
  kids : ∀ j, j < d.kn → 0 ≤ d.kids j ∧ d.kids j ≤ 99
  text : d.text.size ≤ 10
  kind : 0 ≤ d.kind ∧ d.kind ≤ 3
  turn : -1 ≤ d.turn ∧ d.turn ≤ 1001

/-- A drawn tree, bent or not. -/
structure Fair (n : Nat) (D : Nat → Nd) : Prop where
  some : 1 ≤ n
  few : n ≤ 11
  each : ∀ i, i < n → FairNd (D i)

theorem FairNd.fits {d : Nd} (h : FairNd d) : d.Fits := by
  have h1 := h.nn
  have h2 := h.kn
  have h3 := h.text
  have h4 := h.kind
  have h5 := h.turn
  refine ⟨⟨by omega, by omega⟩, ⟨by omega, by omega⟩, by unfold maxLen; omega, fun i hi => by have := (h.names i hi).size; unfold maxLen; omega, by unfold maxLen; omega, by unfold maxLen; omega, fun i hi => by have := h.kids i hi; exact ⟨by omega, by omega⟩⟩

theorem Fair.fits {n : Nat} {D : Nat → Nd} (h : Fair n D) : FitAll n D := fun i hi => (h.each i hi).fits

theorem NiceNd.fair {n m : Nat} {d : Nd} (h : NiceNd n m d) (hn : n ≤ 10) (hm : m ≤ 10) : FairNd d := by
  have h1 := h.same
  have h2 := h.few
  have h3 := h.kind
  have h4 := h.turn
  exact ⟨by omega, by omega, h.short, fun j hj => by have := h.kids j (by omega); omega, h.text, by omega, by omega⟩

theorem Nice.fair {n m : Nat} {D : Nat → Nd} (h : Nice n m D) (hm : m ≤ 10) : Fair n D := ⟨h.some, by have := h.few; omega, fun i hi => (h.each i hi).fair h.few hm⟩

theorem Fair.put {n : Nat} {D : Nat → Nd} (h : Fair n D) {i : Nat} {d : Nd} (hd : FairNd d) : Fair n (putNd D i d) :=
  ⟨h.some, h.few, fun j hj => by
    by_cases e : j = i
    · subst e; rw [putNd_same]; exact hd
    · rw [putNd_ne D d e]; exact h.each j hj⟩

theorem Fair.app {n : Nat} {D : Nat → Nd} (h : Fair n D) (hn : n ≤ 10) {d : Nd} (hd : FairNd d) : Fair (n + 1) (putNd D n d) :=
  ⟨by omega, by omega, fun j hj => by
    by_cases e : j = n
    · subst e; rw [putNd_same]; exact hd
    · rw [putNd_ne D d e]; exact h.each j (by omega)⟩

theorem leaf_fair : FairNd (leafNd 1 1) := ⟨Nat.zero_le _, Nat.zero_le _, fun j hj => absurd hj (Nat.not_lt_zero _), fun j hj => absurd hj (Nat.not_lt_zero _), by simp [leafNd], by simp [leafNd], by simp [leafNd]⟩

theorem with_fair {d : Nd} {NL : List ByteArray} {KL : List Int} (h : FairNd d) (hn : d.nn ≤ 10) (hw : WL (fun z => 0 ≤ z ∧ z ≤ 99) d.nn true NL KL) : FairNd (withNd d NL KL) := by
  have h1 := hw.len
  have h2 := hw.same
  simp at h1
  refine ⟨by show NL.length ≤ 11; omega, by show KL.length ≤ 11; omega, fun j hj => ?_, fun j hj => ?_, by show ByteArray.empty.size ≤ 10; simp, h.kind, h.turn⟩
  · have hj' : j < NL.length := hj
    have : (withNd d NL KL).names j = NL[j] := by simp [withNd, hj']
    rw [this]
    exact hw.short _ (List.getElem_mem hj')
  · have hj' : j < KL.length := hj
    have : (withNd d NL KL).kids j = KL[j] := by simp [withNd, hj']
    rw [this]
    exact hw.right _ (List.getElem_mem hj')

/-- A place with one of Kids more. -/
def kidNd (d : Nd) (z : Int) : Nd := { d with kn := d.kn + 1, kids := fun j => if j < d.kn then d.kids j else z }

theorem kid_fair {d : Nd} {z : Int} (h : FairNd d) (hk : d.kn ≤ 10) (h0 : 0 ≤ z) (h1 : z ≤ 99) : FairNd (kidNd d z) :=
  ⟨h.nn, by show d.kn + 1 ≤ 11; omega, h.names, fun j hj => by
    by_cases e : j < d.kn
    · have : (kidNd d z).kids j = d.kids j := by simp [kidNd, e]
      rw [this]; exact h.kids j e
    · have : (kidNd d z).kids j = z := by simp [kidNd, e]
      rw [this]; exact ⟨h0, h1⟩, h.text, h.kind, h.turn⟩

/-- What is known within l2Bent: its answer lies in block w.heap.size, t in block T. -/
structure BI (w : World) (T r : Nat) (a : Option Addr) (len cp : Nat) (zs : Nat → Int) (q g cap n : Nat) (D : Nat → Nd) (L : Nat → Loc) (now : Int) (W : World) : Prop where
  rd : IsRd W r a len cp zs q
  res : Blk W w.heap.size #[.slice none 0 0, .int .i64 0] 25
  t : Blk W T #[.slice (some ⟨g, 0, none⟩) n cap, .int .i64 now] 25
  own : OwnT W (w.heap.size + 1) g cap n D L
  away : Away (fun b => b = T) g n L
  above : w.heap.size < T
  grown : w.grownBy W (some r)
  rlt : r < w.heap.size

/-- A tree has been drawn, bent or not. -/
structure BentD (w : World) (r : Nat) (a : Option Addr) (len cp : Nat) (zs : Nat → Int) (q g cap n : Nat) (D : Nat → Nd) (L : Nat → Loc) (W : World) : Prop where
  rd : IsRd W r a len cp zs q
  own : OwnT W w.heap.size g cap n D L
  fair : Fair n D
  grown : w.grownBy W (some r)

/-- .. and is written into the answer. -/
structure BEnd (w : World) (r : Nat) (a : Option Addr) (len cp : Nat) (zs : Nat → Int) (q g cap n : Nat) (D : Nat → Nd) (L : Nat → Loc) (now : Int) (W : World) : Prop where
  ans : Blk W w.heap.size #[.slice (some ⟨g, 0, none⟩) n cap, .int .i64 now] 25
  drew : BentD w r a len cp zs q g cap n D L W

section
variable {w : World} {T r : Nat} {a : Option Addr} {len cp : Nat} {zs : Nat → Int} {q g cap n m : Nat} {D D' : Nat → Nd} {L L' : Nat → Loc} {now : Int} {W W' : World}

theorem BI.base (h : BI w T r a len cp zs q g cap n D L now W) : w.heap.size + 1 ≤ g ∧ g ≠ T ∧ w.heap.size < W.heap.size := ⟨h.own.base, h.away.row, h.res.lt⟩

theorem BI.start {w1 : World} {p : Nat} (hd : Drew (w.alloc (.cells #[.slice none 0 0, .int .i64 0] 25)) r a len cp zs q g cap n D L w1) (hrl : r < w.heap.size) :
    BI w w1.heap.size r a len cp zs q g cap n D L now (w1.alloc (.cells #[.slice (some ⟨g, 0, none⟩) n cap, .int .i64 now] 25)) := by
  have hs := hd.grown.size
  have hs' : w.heap.size + 1 ≤ w1.heap.size := by simpa using hs
  have ho := hd.own
  have e : (w.alloc (.cells #[.slice none 0 0, .int .i64 0] 25)).heap.size = w.heap.size + 1 := by simp
  rw [e] at ho
  have hl := ho.lt
  refine ⟨hd.rd.alloc _, ((Blk.new w _ _).of_block (hd.grown.block _ (by simp) (by simp; omega))).alloc _, Blk.new w1 _ _, ho.below ((Below.refl _ _).alloc (Nat.le_refl _) _), ⟨by omega, fun i hi => ⟨fun b o x e => by have := ((ho.lists i hi).2.1 b o x e).2.2; omega, fun b o x e => by have := ((ho.lists i hi).2.2 b o x e).2.2; omega⟩⟩, by omega, ?_, hrl⟩
  exact ⟨hd.grown.os, hd.grown.tape, hd.grown.output, by simp; omega, fun k h1 h2 => ((blk_alloc_lt _ _ _ (by omega)).trans (hd.grown.block k (by simp; omega) h2)).trans (blk_alloc_lt _ _ _ h1)⟩

theorem Drew.kids2 {w0 w1 : World} (hd : Drew w0 r a len cp zs q g cap n D L w1) (o : Obj) : KidsOwn (w1.alloc o) n D L :=
  hd.kids.of_blocks (fun i hi b o' x e => blk_alloc_lt _ _ _ ((hd.own.lists i hi).2.2 b o' x e).2.2)

/-- The reader goes on. -/
theorem BI.read (h : BI w T r a len cp zs q g cap n D L now W) (hg : W.grownBy W' (some r)) {q' : Nat} (hr : IsRd W' r a len cp zs q') : BI w T r a len cp zs q' g cap n D L now W' := by
  have h3 := h.above
  have h4 := h.rlt
  have h5 := h.grown.size
  have h6 := h.res.lt
  have h7 := h.t.lt
  exact ⟨hr, h.res.of_block (hg.block _ h6 (by simp; omega)), h.t.of_block (hg.block _ h7 (by simp; omega)), h.own.grown hg (by omega), h.away, h3, grown_trans h.grown hg, h4⟩

theorem BI.readKids (h : BI w T r a len cp zs q g cap n D L now W) (hk : KidsOwn W n D L) (hg : W.grownBy W' (some r)) : KidsOwn W' n D L :=
  hk.of_blocks (fun i hi b o x e => by have h1 := (h.own.lists i hi).2.2 b o x e; have h2 := h.rlt; exact hg.block b (by omega) (by simp; omega))

/-- Nothing that was there turns. -/
theorem BI.below (h : BI w T r a len cp zs q g cap n D L now W) (hb : Below W.heap.size W W') : BI w T r a len cp zs q g cap n D L now W' := by
  have h4 := h.rlt
  have h5 := h.grown.size
  have hs := hb.size
  exact ⟨h.rd.kept (fun k hk => hb.block k (by omega)), h.res.below hb h.res.lt, h.t.below hb h.t.lt, h.own.below hb, h.away, h.above, ⟨hb.os.trans h.grown.os, hb.tape.trans h.grown.tape, hb.output.trans h.grown.output, by omega, fun k h1 h2 => (hb.block k (by omega)).trans (h.grown.block k h1 h2)⟩, h.rlt⟩
theorem BI.drew (h : BI w T r a len cp zs q g cap n D L now W) (k : Nat) : BI w T r a len cp zs q g cap n D L now (W.drewN k) := h.below (below_drewN (Below.refl _ _) k)
theorem BI.alloc (h : BI w T r a len cp zs q g cap n D L now W) (o : Obj) : BI w T r a len cp zs q g cap n D L now (W.alloc o) := h.below ((Below.refl _ _).alloc (Nat.le_refl _) _)
theorem BI.belowKids (h : BI w T r a len cp zs q g cap n D L now W) (hk : KidsOwn W n D L) (hb : Below W.heap.size W W') : KidsOwn W' n D L :=
  hk.of_blocks (fun i hi b o x e => hb.block b ((h.own.lists i hi).2.2 b o x e).2.2)

theorem grown_put {w W : World} {r b k : Nat} {v : Value} (h : w.grownBy W (some r)) (hb : w.heap.size ≤ b) : w.grownBy (W.setCell ⟨b, k, none⟩ v) (some r) :=
  ⟨h.os, h.tape, h.output, by have := h.size; simpa [World.setCell] using this, fun j h1 h2 => (blk_setCell_other _ _ _ _ (by show j ≠ b; omega)).trans (h.block j h1 h2)⟩

/-- Some block of one's own is written, and nothing else. -/
theorem BI.grownSet (h : BI w T r a len cp zs q g cap n D L now W) {b k : Nat} {v : Value} (hb : w.heap.size ≤ b) : w.grownBy (W.setCell ⟨b, k, none⟩ v) (some r) :=
  ⟨h.grown.os, h.grown.tape, h.grown.output, by have := h.grown.size; simpa [World.setCell] using this, fun j h1 h2 => (blk_setCell_other _ _ _ _ (by show j ≠ b; omega)).trans (h.grown.block j h1 h2)⟩

/-- Now is written. -/
theorem BI.setNow (h : BI w T r a len cp zs q g cap n D L now W) (z : Int) : BI w T r a len cp zs q g cap n D L z (W.setCell ⟨T, 1, none⟩ (.int .i64 z)) := by
  have h3 := h.above
  have h4 := h.rlt
  exact ⟨h.rd.kept (fun k hk => blk_setCell_other _ _ _ _ (by show k ≠ T; omega)), h.res.off _ (by omega), h.t.set 1 _, h.own.setOther h.away rfl _ _, h.away, h3, h.grownSet (by omega), h4⟩

/-- A cell of the row is written. -/
theorem BI.put (h : BI w T r a len cp zs q g cap n D L now W) {k : Nat} {v : Value} (ho : OwnT (W.setCell ⟨g, k, none⟩ v) (w.heap.size + 1) g cap n D' L) : BI w T r a len cp zs q g cap n D' L now (W.setCell ⟨g, k, none⟩ v) := by
  have h3 := h.above
  have h4 := h.rlt
  have hb := h.base
  exact ⟨h.rd.kept (fun k hk => blk_setCell_other _ _ _ _ (by show k ≠ g; omega)), h.res.off _ (by omega), h.t.off _ (by omega), ho, h.away, h3, h.grownSet (by omega), h4⟩

/-- A place is written whole. -/
theorem BI.putNode (h : BI w T r a len cp zs q g cap n D L now W) {i : Nat} (hi : i < n) (d : Nd) (l : Loc) (hd : NdIn W d l) (hn : ∀ b o x, l.nA = some ⟨b, o, x⟩ → w.heap.size + 1 ≤ b ∧ b ≠ g ∧ b ≠ T ∧ b < W.heap.size) (hk : ∀ b o x, l.kA = some ⟨b, o, x⟩ → w.heap.size + 1 ≤ b ∧ b ≠ g ∧ b ≠ T ∧ b < W.heap.size) :
    BI w T r a len cp zs q g cap n (putNd D i d) (putLoc L i l) now (((((W.setCell ⟨g, i * 5, none⟩ (.int .i64 d.kind)).setCell ⟨g, i * 5 + 1, none⟩ (.string d.text)).setCell ⟨g, i * 5 + 2, none⟩ (.slice l.nA d.nn l.nc)).setCell ⟨g, i * 5 + 3, none⟩ (.slice l.kA d.kn l.kc)).setCell ⟨g, i * 5 + 4, none⟩ (.int .i64 d.turn)) := by
  have h3 := h.above
  have h4 := h.rlt
  have hb := h.base
  have ho := h.own.setNode hi d l hd (fun b o x e => by have := hn b o x e; omega) (fun b o x e => by have := hk b o x e; omega)
  have oth : ∀ (X : World) (k : Nat) (v : Value) (b : Nat), b ≠ g → (X.setCell ⟨g, k, none⟩ v).heap[b]? = X.heap[b]? := fun X k v b hb => blk_setCell_other _ _ _ _ hb
  have all : ∀ b, b ≠ g → (((((W.setCell ⟨g, i * 5, none⟩ (.int .i64 d.kind)).setCell ⟨g, i * 5 + 1, none⟩ (.string d.text)).setCell ⟨g, i * 5 + 2, none⟩ (.slice l.nA d.nn l.nc)).setCell ⟨g, i * 5 + 3, none⟩ (.slice l.kA d.kn l.kc)).setCell ⟨g, i * 5 + 4, none⟩ (.int .i64 d.turn)).heap[b]? = W.heap[b]? := fun b hb => by
    rw [oth _ _ _ b hb, oth _ _ _ b hb, oth _ _ _ b hb, oth _ _ _ b hb, oth _ _ _ b hb]
  refine ⟨h.rd.kept (fun j hj => all j (by omega)), h.res.of_block (all _ (by omega)), h.t.of_block (all _ (by omega)), ho, ⟨h.away.row, fun j hj => ?_⟩, h3, grown_put (grown_put (grown_put (grown_put (grown_put h.grown (by omega)) (by omega)) (by omega)) (by omega)) (by omega), h4⟩
  by_cases e : j = i
  · subst e
    simp only [putLoc, if_true]
    exact ⟨fun b o x e => by have := hn b o x e; omega, fun b o x e => by have := hk b o x e; omega⟩
  · simp only [putLoc, if_neg e]
    exact h.away.lists j hj

/-- A place is appended, and t.Nodes written. -/
theorem BI.append (h : BI w T r a len cp zs q g cap n D L now W) {cur : Array Value} (hc : W.heap[g]? = some (.cells cur 38 (0, 0))) (hs : cur.size = cap * 5) {g' cap' : Nat} {k z : Int}
    (hown : W'.ownsRow (w.heap.size + 1) 38 5 (.slice (some ⟨g', 0, none⟩) (n + 1) cap') (n + 1) (cur.toList.take (n * 5) ++ leafCells k z)) (hgrow : W.grownBy W' (some g)) (hat : g = g' ∨ W.heap.size ≤ g') :
    BI w T r a len cp zs q g' cap' (n + 1) (putNd D n (leafNd k z)) (putLoc L n loc00) now (W'.setCell ⟨T, 0, none⟩ (.slice (some ⟨g', 0, none⟩) (n + 1) cap')) := by
  have h3 := h.above
  have h4 := h.rlt
  have hb := h.base
  have h5 := h.t.lt
  have h6 := h.grown.size
  have ho := h.own.appL hc hs hown hgrow hat
  have ha : Away (fun b => b = T) g' (n + 1) (putLoc L n loc00) := by
    refine ⟨by rcases hat with rfl | hat <;> omega, fun j hj => ?_⟩
    by_cases e : j = n
    · subst e
      simp only [putLoc, if_true]
      exact ⟨fun b o x e => by simp [loc00] at e, fun b o x e => by simp [loc00] at e⟩
    · simp only [putLoc, if_neg e]
      exact h.away.lists j (by omega)
  have hblk : ∀ b, b < W.heap.size → b ≠ g → W'.heap[b]? = W.heap[b]? := fun b h1 h2 => hgrow.block b h1 (by simpa using h2)
  refine ⟨h.rd.kept (fun j hj => (blk_setCell_other _ _ _ _ (by show j ≠ T; omega)).trans (hblk j (by omega) (by omega))), (h.res.of_block (hblk _ (by omega) (by omega))).off _ (by omega), (h.t.of_block (hblk _ (by omega) (by omega))).set 0 _, ho.setOther ha rfl _ _, ha, h3, ?_, h4⟩
  exact ⟨hgrow.os.trans h.grown.os, hgrow.tape.trans h.grown.tape, hgrow.output.trans h.grown.output, by have := hgrow.size; simp [World.setCell]; omega, fun j h1 h2 => (blk_setCell_other _ _ _ _ (by show j ≠ T; omega)).trans ((hblk j (by omega) (by omega)).trans (h.grown.block j h1 h2))⟩

/-- A cell of the row is written, in a world where lists have changed. -/
theorem OwnT.setIn {B : Nat} (h : OwnT W B g cap n D L) (hgb : W'.heap[g]? = W.heap[g]?) {k : Nat} {v : Value}
    (hc : ∀ i, i < n → (if i * 5 = k then some v else W.cell? ⟨g, i * 5, none⟩) = some (.int .i64 (D' i).kind) ∧ (if i * 5 + 1 = k then some v else W.cell? ⟨g, i * 5 + 1, none⟩) = some (.string (D' i).text) ∧
      (if i * 5 + 2 = k then some v else W.cell? ⟨g, i * 5 + 2, none⟩) = some (.slice (L' i).nA (D' i).nn (L' i).nc) ∧ (if i * 5 + 3 = k then some v else W.cell? ⟨g, i * 5 + 3, none⟩) = some (.slice (L' i).kA (D' i).kn (L' i).kc) ∧ (if i * 5 + 4 = k then some v else W.cell? ⟨g, i * 5 + 4, none⟩) = some (.int .i64 (D' i).turn))
    (hl : ∀ i, i < n → NdIn W' (D' i) (L' i) ∧ Off W' B g (L' i).nA ∧ Off W' B g (L' i).kA) : OwnT (W'.setCell ⟨g, k, none⟩ v) B g cap n D' L' := by
  obtain ⟨cur, hb0, hcs⟩ := h.blk
  have hb : W'.heap[g]? = some (.cells cur 38 (0, 0)) := hgb.trans hb0
  have hs : (W'.setCell ⟨g, k, none⟩ v).heap.size = W'.heap.size := by simp [World.setCell]
  have hcell : ∀ j, j < cap * 5 → (W'.setCell ⟨g, k, none⟩ v).cell? ⟨g, j, none⟩ = if j = k then some v else W.cell? ⟨g, j, none⟩ := fun j hj => by
    have hset : (W'.setCell ⟨g, k, none⟩ v).heap[g]? = some (.cells (cur.setIfInBounds k v) 38 (0, 0)) := by simp [World.setCell, Array.getElem?_modify, hb]
    simp only [World.cell?, hset, hb0]
    by_cases e : j = k
    · subst e; simp [hcs, hj]
    · simp [e, Ne.symm e]
  have hoth : ∀ b, b ≠ g → (W'.setCell ⟨g, k, none⟩ v).heap[b]? = W'.heap[b]? := fun b hbg => blk_setCell_other _ _ _ _ hbg
  have hroom := h.room
  refine ⟨⟨cur.setIfInBounds k v, by simp [World.setCell, Array.getElem?_modify, hb], by simp [hcs]⟩, h.base, h.room, h.most, fun i hi => ?_, fun i hi => ?_⟩
  · rw [hcell _ (by omega), hcell _ (by omega), hcell _ (by omega), hcell _ (by omega), hcell _ (by omega)]
    exact hc i hi
  · obtain ⟨⟨h1, h2⟩, h3, h4⟩ := hl i hi
    exact ⟨⟨h1.of_blocks (by omega) (fun b o x e => hoth b (h3 b o x e).2.1), h2.of_blocks (by omega) (fun b o x e => hoth b (h4 b o x e).2.1)⟩, h3.grow (by omega), h4.grow (by omega)⟩

/-- One of Kids is appended, and written. -/
theorem BI.kidApp (h : BI w T r a len cp zs q g cap n D L now W) (hk : KidsOwn W n D L) {i : Nat} (hi : i < n) {z : Int} {g' c' : Nat}
    (hown : W'.ownsRow (w.heap.size + 1) 3 1 (.slice (some ⟨g', 0, none⟩) ((D i).kn + 1) c') ((D i).kn + 1) (intv ((List.range (D i).kn).map (D i).kids) ++ intv [z])) (hgrow : W.grownBy W' (Value.slice (L i).kA (D i).kn (L i).kc).ownBlock) (hat : (Value.slice (L i).kA (D i).kn (L i).kc).ownBlock = some g' ∨ W.heap.size ≤ g') :
    BI w T r a len cp zs q g cap n (putNd D i (kidNd (D i) z)) (putLoc L i { L i with kA := some ⟨g', 0, none⟩, kc := c' }) now (W'.setCell ⟨g, i * 5 + 3, none⟩ (.slice (some ⟨g', 0, none⟩) ((D i).kn + 1) c')) := by
  have h3 := h.above
  have h4 := h.rlt
  have hb := h.base
  have h5 := h.t.lt
  have h6 := h.grown.size
  have h7 := h.own.lt
  have hob : ∀ b, (Value.slice (L i).kA (D i).kn (L i).kc).ownBlock = some b → ∃ o x, (L i).kA = some ⟨b, o, x⟩ := fun b e => by
    rcases hk.room i hi with ⟨e1, e2, e3⟩ | ⟨b', cur, e1, _⟩
    · rw [e1, e2, e3] at e; simp [Value.ownBlock] at e
    · rw [e1] at e; simp [Value.ownBlock] at e; subst e; exact ⟨0, none, e1⟩
  have hblk : ∀ b, b < W.heap.size → (∀ o x, (L i).kA ≠ some ⟨b, o, x⟩) → W'.heap[b]? = W.heap[b]? := fun b h1 h2 => hgrow.block b h1 (fun e => by obtain ⟨o, x, e'⟩ := hob b e.symm; exact h2 o x e')
  have kof := (h.own.lists i hi).2.2
  have kaw := (h.away.lists i hi).2
  have hgb : W'.heap[g]? = W.heap[g]? := hblk g h7 (fun o x e => (kof g o x e).2.1 rfl)
  have hg' : w.heap.size + 1 ≤ g' ∧ g' ≠ g ∧ g' ≠ T := by
    rcases hat with e | e
    · obtain ⟨o, x, e'⟩ := hob g' e
      have h1 := kof g' o x e'
      have h2 := kaw g' o x e'
      exact ⟨h1.1, h1.2.1, h2⟩
    · omega
  have hs' := hgrow.size
  have hg'lt : g' < W'.heap.size := by
    rcases hown.2 with ⟨h0, _⟩ | ⟨g2, cap2, cur2, hv, hb2, hblk2, _⟩
    · cases h0
    · cases hv; exact (Array.getElem?_eq_some_iff.1 hblk2).1
  have hZ : IsInts W' (some ⟨g', 0, none⟩) ((D i).kn + 1) (kidNd (D i) z).kids := by
    rcases hown.2 with ⟨h0, _⟩ | ⟨g2, cap2, cur2, hv, hb2, hblk2, hn2, hm2, hs2, ht2⟩
    · cases h0
    cases hv
    refine Or.inr ⟨g', 0, rfl, hg'lt, fun j hj => ?_⟩
    have e1 : W'.cell? ⟨g', 0 + j, none⟩ = (intv ((List.range (D i).kn).map (D i).kids) ++ intv [z])[j]? := by
      rw [← ht2, List.getElem?_take_of_lt (by omega)]
      simp [World.cell?, hblk2]
    rw [e1]
    by_cases e : j < (D i).kn
    · rw [List.getElem?_append_left (by simpa [intv] using e)]
      simp [intv, kidNd, e]
    · have : j = (D i).kn := by omega
      subst this
      rw [List.getElem?_append_right (by simp [intv])]
      simp [intv, kidNd]
  refine ⟨h.rd.kept (fun j hj => (blk_setCell_other _ _ _ _ (by show j ≠ g; omega)).trans (hblk j (by omega) (fun o x e => by have := (kof j o x e).1; omega))), (h.res.of_block (hblk _ (by omega) (fun o x e => by have := (kof _ o x e).1; omega))).off _ (by omega), (h.t.of_block (hblk _ (by omega) (fun o x e => kaw _ o x e rfl))).off _ (by omega), ?_, ⟨h.away.row, fun j hj => ?_⟩, h3, ?_, h4⟩
  · refine h.own.setIn hgb (fun j hj => ?_) (fun j hj => ?_)
    · obtain ⟨c0, c1, c2, c3, c4⟩ := h.own.cells j hj
      by_cases e : j = i
      · subst e
        rw [putNd_same]
        simp [c0, c1, c2, c4, putLoc, kidNd]
      · rw [putNd_ne D _ e]
        rw [if_neg (by omega), if_neg (by omega), if_neg (by omega), if_neg (by omega), if_neg (by omega)]
        simp only [putLoc, if_neg e]
        exact ⟨c0, c1, c2, c3, c4⟩
    · obtain ⟨⟨s1, s2⟩, o1, o2⟩ := h.own.lists j hj
      have hn : IsStrs W' (L j).nA (D j).nn (D j).names := s1.of_blocks hs' (fun b o x e => hblk b (o1 b o x e).2.2 (fun o' x' e' => hk.names i j hi hj b o' x' b o x e' e rfl))
      by_cases e : j = i
      · subst e
        rw [putNd_same]
        simp only [putLoc, if_true]
        exact ⟨⟨hn, hZ⟩, o1.grow hs', fun b o x e => by cases e; exact ⟨hg'.1, hg'.2.1, hg'lt⟩⟩
      · rw [putNd_ne D _ e]
        simp only [putLoc, if_neg e]
        exact ⟨⟨hn, s2.of_blocks hs' (fun b o x e2 => hblk b (o2 b o x e2).2.2 (fun o' x' e' => hk.kids i j hi hj (Ne.symm e) b o' x' b o x e' e2 rfl))⟩, o1.grow hs', o2.grow hs'⟩
  · by_cases e : j = i
    · subst e
      simp only [putLoc, if_true]
      exact ⟨(h.away.lists j hj).1, fun b o x e => by cases e; exact hg'.2.2⟩
    · simp only [putLoc, if_neg e]
      exact h.away.lists j hj
  · exact ⟨hgrow.os.trans h.grown.os, hgrow.tape.trans h.grown.tape, hgrow.output.trans h.grown.output, by simp [World.setCell]; omega, fun j h1 h2 => (blk_setCell_other _ _ _ _ (by show j ≠ g; omega)).trans ((hblk j (by omega) (fun o x e => by have := (kof j o x e).1; omega)).trans (h.grown.block j h1 h2))⟩

/-- The answer is written. -/
theorem BI.fin (h : BI w T r a len cp zs q g cap n D L now W) (hf : Fair n D) : BEnd w r a len cp zs q g cap n D L now ((W.setCell ⟨w.heap.size, 0, none⟩ (.slice (some ⟨g, 0, none⟩) n cap)).setCell ⟨w.heap.size, 1, none⟩ (.int .i64 now)) := by
  have h3 := h.above
  have h4 := h.rlt
  have h5 := h.grown.size
  have hb := h.own.base
  have ha : Away (fun b => b = w.heap.size) g n L := ⟨by omega, fun i hi => ⟨fun b o x e => by have := ((h.own.lists i hi).2.1 b o x e).1; omega, fun b o x e => by have := ((h.own.lists i hi).2.2 b o x e).1; omega⟩⟩
  have hs : ∀ b, b ≠ w.heap.size → ((W.setCell ⟨w.heap.size, 0, none⟩ (.slice (some ⟨g, 0, none⟩) n cap)).setCell ⟨w.heap.size, 1, none⟩ (.int .i64 now)).heap[b]? = W.heap[b]? := fun b hb => (blk_setCell_other _ _ _ _ hb).trans (blk_setCell_other _ _ _ _ hb)
  refine ⟨(h.res.set 0 _).set 1 _, h.rd.kept (fun k hk => hs k (by omega)), ((h.own.setOther ha rfl _ _).setOther ha rfl _ _).lower (by omega), hf, ⟨h.grown.os, h.grown.tape, h.grown.output, ?_, fun k h1 h2 => (hs k (by omega)).trans (h.grown.block k h1 h2)⟩⟩
  simp [World.setCell]; omega
end
end Go.Proofs.Ytoblndhmkehoaaa

/-
  What l2Bent gives: a tree in new memory, bent or not.
-/
namespace Go.Proofs.Ytoblndhmkehoaaa
open Go.RowKit Go.Deep
set_option linter.unusedVariables false

theorem new_ints (w : World) (L : List Int) : ∀ i, i < L.length → (w.alloc (.cells (intv L).toArray 3)).cell? ⟨w.heap.size, 0 + i, none⟩ = some (.int .i64 (L.getD i 0)) := by
  intro i hi
  simp only [World.cell?, new_block]
  simp [intv, hi]

theorem getD_in {L : List Int} {lo hi : Int} (h : ∀ z ∈ L, lo ≤ z ∧ z ≤ hi) (i : Nat) (hi' : i < L.length) : lo ≤ L.getD i 0 ∧ L.getD i 0 ≤ hi := by
  have := h (L[i]) (List.getElem_mem hi')
  simpa [hi'] using this

theorem wp_cutq3 {X Y Z : Type} (F : X → Y → Z → World → Prop) {P : Program} {c : Code} {Q : Exit → Act → World → Prop} {a : Act} {w : World} (A : X → Y → Z → Act)
    (leaf : (∀ x y z W, F x y z W → Q .normal (A x y z) W) → c.wp P Q a w) (k : ∀ x y z W, F x y z W → Q .normal (A x y z) W) : c.wp P Q a w := leaf k

theorem wp_cutq4 {X Y Z U : Type} (F : X → Y → Z → U → World → Prop) {P : Program} {c : Code} {Q : Exit → Act → World → Prop} {a : Act} {w : World} (A : X → Y → Z → U → Act)
    (leaf : (∀ x y z u W, F x y z u W → Q .normal (A x y z u) W) → c.wp P Q a w) (k : ∀ x y z u W, F x y z u W → Q .normal (A x y z u) W) : c.wp P Q a w := leaf k

def bent3 : List ByteArray := [⟨#[65]⟩, ⟨#[97, 98, 99, 100, 101, 102, 103]⟩, ⟨#[120]⟩]

/-- What l2Bent leaves. -/
def BentPost (w : World) (r : Nat) (a : Option Addr) (len cp : Nat) (zs : Nat → Int) (p : Nat) (e : Ending) (w' : World) : Prop :=
  ∃ g cap n D L now q, e = .returned (trV (some ⟨g, 0, none⟩) n cap now) ∧ 0 ≤ now ∧ now ≤ 1001 ∧ q ≤ p + 210 ∧ BentD w r a len cp zs q g cap n D L w'

theorem bentPost_mk {w : World} {r : Nat} {a : Option Addr} {len cp : Nat} {zs : Nat → Int} {p q g cap n : Nat} {D : Nat → Nd} {L : Nat → Loc} {now : Int} {W : World} (h0 : 0 ≤ now) (h1 : now ≤ 1001) (hq : q ≤ p + 210) (h : BentD w r a len cp zs q g cap n D L W) : BentPost w r a len cp zs p (.returned (.agg #[.slice (some ⟨g, 0, none⟩) n cap, .int .i64 now])) W :=
  ⟨g, cap, n, D, L, now, q, rfl, h0, h1, hq, h⟩

theorem kid_block {w : World} {T r : Nat} {a : Option Addr} {len cp : Nat} {zs : Nat → Int} {q g cap n : Nat} {D : Nat → Nd} {L : Nat → Loc} {now : Int} {W : World} (h : BI w T r a len cp zs q g cap n D L now W) (hk : KidsOwn W n D L) {k : Nat} (hi : k < n) :
    ∀ b, (Value.slice (L k).kA (D k).kn (L k).kc).ownBlock = some b → b ≠ g ∧ b ≠ T := fun b e => by
  rcases hk.room k hi with ⟨e1, e2, e3⟩ | ⟨b', cur, e1, _⟩
  · rw [e1, e2, e3] at e; simp [Value.ownBlock] at e
  · have e' := e
    rw [e1] at e'; simp [Value.ownBlock] at e'; subst e'
    exact ⟨((h.own.lists k hi).2.2 b' 0 none e1).2.1, (h.away.lists k hi).2 b' 0 none e1⟩

set_option maxRecDepth 100000 in
set_option maxHeartbeats 8000000 in
theorem l2Bent_any (w : World) (r : Nat) (a : Option Addr) (len cp : Nat) (zs : Nat → Int) (p : Nat) (hR : IsRd w r a len cp zs p) (hp : p ≤ 400) :
    Calls Try.prog 20 #[.pointer (some ⟨r, 0, none⟩)] w (BentPost w r a len cp zs p) := by
  have hrl := hR.lt
  obtain ⟨j0, hj, hy0, hy1, hy2⟩ := info_parts infoInt
  obtain ⟨i0, hi0, hz0, hz1, hz2⟩ := info_parts infoNode
  go_enter Try.func20, Try.ntmps20
  go_wp2_with fail
  refine (l2Some_any _ r a len cp zs p (hR.alloc _) (by omega)).mono ?_
  rintro e w1 ⟨g, cap, n, D, L, now, q, rfl, hnow0, hnow1, hq, hd⟩
  unfold trV
  have hN := hd.nice
  have hn1 := hN.some
  have hn10 := hN.few
  have HF : Hid (BI w w1.heap.size r a len cp zs q g cap n D L now (w1.alloc (.cells #[.slice (some ⟨g, 0, none⟩) n cap, .int .i64 now] 25))) := BI.start (p := p) hd hrl
  have HK : Hid (KidsOwn (w1.alloc (.cells #[.slice (some ⟨g, 0, none⟩) n cap, .int .i64 now] 25)) n D L) := hd.kids2 _
  have hw1 : w.heap.size < w1.heap.size := HF.out.above
  clear hd hR
  go_wp2_with fail
  obtain ⟨T, hT⟩ : ∃ T, T = w1.heap.size := ⟨_, rfl⟩
  refine (pick_any _ r a len cp zs q n HF.out.rd (by omega) (by omega) (by omega)).mono ?_
  rintro e w2 ⟨x, rfl, hx0, hx1, hg2, hR2⟩
  obtain ⟨k, rfl⟩ := Int.eq_ofNat_of_zero_le hx0
  have hkn : k < n := by omega
  have HK2 : Hid _ := HF.out.readKids HK.out hg2
  have HF2 : Hid _ := HF.out.read hg2 hR2
  clear hg2 hR2 HF HK hx0
  rw [← hT] at HF2 hw1 ⊢
  clear hT
  go_wp2_with fail
  refine (pick_any _ r a len cp zs (q + 1) 56 HF2.out.rd (by omega) (by omega) (by omega)).mono ?_
  rintro e w3 ⟨x, rfl, hxa, hx56, hg3, hR3⟩
  have HK : Hid _ := HF2.out.readKids HK2.out hg3
  have HF : Hid _ := HF2.out.read hg3 hR3
  clear hg3 hR3 HF2 HK2
  have hgT : g ≠ T := HF.out.base.2.1
  have hTg : T ≠ g := Ne.symm hgT
  have hki : (k : Int) < (n : Int) := by omega
  have hwT : w.heap.size < T := HF.out.above
  have hTlt : T < w3.heap.size := HF.out.t.lt
  have hglt : g < w3.heap.size := HF.out.own.lt
  have hfk := (hN.fair (Nat.le_refl _)).each k hkn
  have t0 : w3.cell? ⟨T, 0, none⟩ = some (.slice (some ⟨g, 0, none⟩) n cap) := HF.out.t.cell 0
  have t1 : w3.cell? ⟨T, 1, none⟩ = some (.int .i64 now) := HF.out.t.cell 1
  by_cases hx0 : x = 0
  · subst hx0
    go_wp2_with fail
    clear HK
    have hwr : IntKind.i64.wrap (now + 1) = now + 1 := wrap_i64 (now + 1) (by omega) (by omega)
    apply wp_cutq1 (X := Int) (fun z W => BI w T r a len cp zs (q + 1 + 1 + 1) g cap n (putNd D k { D k with turn := z }) L now W ∧ -1 ≤ z ∧ z ≤ 1001)
    · intro key
      have KEY : Hid _ := key
      clear key
      go_region_with (
        go_at_call 45
        refine (num_any ((w3.drewN 1).alloc _) r a len cp zs (q + 1 + 1) ((HF.out.drew 1).alloc _).rd (by omega) w3.heap.size 0 3 3 (fun i => [0, -1, now + 1].getD i 0) (by omega) (by omega) (by omega) (new_ints (w3.drewN 1) [0, -1, now + 1])).mono ?_
        rintro e w6 ⟨i, hi3, rfl, hg6, hR6⟩
        have hs6 : -1 ≤ [0, -1, now + 1].getD i 0 ∧ [0, -1, now + 1].getD i 0 ≤ 1001 := getD_in (by simp; omega) i hi3
        have hG6 := ((HF.out.drew 1).alloc _).read hg6 hR6
        have T0 : w6.cell? ⟨T, 0, none⟩ = some (.slice (some ⟨g, 0, none⟩) n cap) := hG6.t.cell 0
        have E4 := (hG6.own.cells k hkn).2.2.2.2
        have EF4 := hG6.own.frozen (k * 5 + 4)
        generalize hsd : [0, -1, now + 1].getD i 0 = z at hs6)
      all_goals exact KEY.out z _ ⟨hG6.put (hG6.own.setTurn hkn z), hs6⟩
    · intro z W7 hF7
      have hf : Fair n (putNd D k { D k with turn := z }) := (hN.fair (Nat.le_refl _)).put ⟨hfk.nn, hfk.kn, hfk.names, hfk.kids, hfk.text, hfk.kind, hF7.2⟩
      have HF7 : Hid _ := hF7.1
      have HE : Hid _ := hF7.1.fin hf
      clear hf hF7 t0 t1 HF
      have t0 : W7.cell? ⟨T, 0, none⟩ = some (.slice (some ⟨g, 0, none⟩) (n) cap) := HF7.out.t.cell 0
      have t1 : W7.cell? ⟨T, 1, none⟩ = some (.int .i64 (now)) := HF7.out.t.cell 1
      have rs0 : W7.cell? ⟨w.heap.size, 0, none⟩ = some (.slice none 0 0) := HF7.out.res.cell 0
      have rs1 : W7.cell? ⟨w.heap.size, 1, none⟩ = some (.int .i64 0) := HF7.out.res.cell 1
      have rf0 := HF7.out.res.frozen 0
      have rf1 := HF7.out.res.frozen 1
      clear HF7
      go_wp2
      refine end_world (F := BEnd w r a len cp zs (q + 1 + 1 + 1) g cap (n) _ L (now)) HE.out ?_
      clear HE
      rintro WF ⟨hr, hgr⟩
      have r0 := hr.cell 0
      have r1 := hr.cell 1
      simp at r0 r1
      exact bodyPost_ret (v := .agg #[.slice (some ⟨g, 0, none⟩) (n) cap, .int .i64 (now)]) (by simp [results, Try.results20, go_sem, r0, r1]) rfl (bentPost_mk (by omega) (by omega) (by omega) hgr)
  have hb0 : (x == 0) = false := by simp; exact hx0
  by_cases hx1 : x = 1
  · subst hx1
    go_wp2_with fail
    clear HK
    apply wp_cutq1 (X := Int) (fun z W => BI w T r a len cp zs (q + 1 + 1 + 1) g cap n (putNd D k { D k with kind := z }) L now W ∧ 0 ≤ z ∧ z < 4)
    · intro key
      have KEY : Hid _ := key
      clear key
      go_region_with (
        go_at_call 21
        refine (pick_any (w3.drewN 1) r a len cp zs (q + 1 + 1) 4 (HF.out.drew 1).rd (by omega) (by omega) (by omega)).mono ?_
        rintro e w6 ⟨z, rfl, hzz0, hzz1, hg6, hR6⟩
        have hG6 := (HF.out.drew 1).read hg6 hR6
        have T0 : w6.cell? ⟨T, 0, none⟩ = some (.slice (some ⟨g, 0, none⟩) n cap) := hG6.t.cell 0
        have E0 := (hG6.own.cells k hkn).1
        have EF0 := hG6.own.frozen (k * 5))
      all_goals exact KEY.out z _ ⟨hG6.put (hG6.own.setKind hkn z), hzz0, hzz1⟩
    · intro z W7 hF7
      have hf : Fair n (putNd D k { D k with kind := z }) := (hN.fair (Nat.le_refl _)).put ⟨hfk.nn, hfk.kn, hfk.names, hfk.kids, hfk.text, ⟨hF7.2.1, by have := hF7.2.2; show z ≤ 3; omega⟩, hfk.turn⟩
      have HF7 : Hid _ := hF7.1
      have HE : Hid _ := hF7.1.fin hf
      clear hf hF7 t0 t1 HF
      have t0 : W7.cell? ⟨T, 0, none⟩ = some (.slice (some ⟨g, 0, none⟩) (n) cap) := HF7.out.t.cell 0
      have t1 : W7.cell? ⟨T, 1, none⟩ = some (.int .i64 (now)) := HF7.out.t.cell 1
      have rs0 : W7.cell? ⟨w.heap.size, 0, none⟩ = some (.slice none 0 0) := HF7.out.res.cell 0
      have rs1 : W7.cell? ⟨w.heap.size, 1, none⟩ = some (.int .i64 0) := HF7.out.res.cell 1
      have rf0 := HF7.out.res.frozen 0
      have rf1 := HF7.out.res.frozen 1
      clear HF7
      go_wp2
      refine end_world (F := BEnd w r a len cp zs (q + 1 + 1 + 1) g cap (n) _ L (now)) HE.out ?_
      clear HE
      rintro WF ⟨hr, hgr⟩
      have r0 := hr.cell 0
      have r1 := hr.cell 1
      simp at r0 r1
      exact bodyPost_ret (v := .agg #[.slice (some ⟨g, 0, none⟩) (n) cap, .int .i64 (now)]) (by simp [results, Try.results20, go_sem, r0, r1]) rfl (bentPost_mk (by omega) (by omega) (by omega) hgr)
  have hb1 : (x == 1) = false := by simp; exact hx1
  by_cases hx2 : x = 2
  · subst hx2
    go_wp2_with fail
    have c3 := (HF.out.own.cells k hkn).2.2.2.1
    have hk10 : (D k).kn ≤ 10 := by have h1 := (hN.each k hkn).same; have h2 := (hN.each k hkn).few; omega
    have hnum : ∀ i, i < 4 → (0 : Int) ≤ [0, 1, (k : Int), 99].getD i 0 ∧ [0, 1, (k : Int), 99].getD i 0 ≤ 99 := fun i hi => getD_in (L := [0, 1, (k : Int), 99]) (by simp; omega) i hi
    apply wp_cutq4 (X := Nat) (Y := Nat) (Z := Int) (U := Nat) (fun g' c' z _ W => BI w T r a len cp zs (q + 1 + 1 + 1) g cap n (putNd D k (kidNd (D k) z)) (putLoc L k { L k with kA := some ⟨g', 0, none⟩, kc := c' }) now W ∧ 0 ≤ z ∧ z ≤ 99)
    · intro key
      have KEY : Hid _ := key
      clear key
      refine wp_region_noPanic ?_
      refine wp_region_peel (fun W' => W'.cell? ⟨T, 0, none⟩ = some (.slice (some ⟨g, 0, none⟩) n cap) ∧ W'.cell? ⟨g, k * 5 + 3, none⟩ = some (.slice (L k).kA (D k).kn (L k).kc)) _ (by kernel_rfl) rfl (by kernel_rfl) ?_ (fun hHeld => ?_)
      · exact ⟨t0, c3⟩
      simp only [List.pop_toArray, List.dropLast, List.size_toArray, List.length_cons, List.length_nil, Nat.reduceAdd, Nat.reduceSub, List.getElem_toArray, List.getElem_cons_succ, List.getElem_cons_zero]
      refine peel_take (i := 0) (oi := ?oi0b) (v := ?v0b) (fun _ _ _ _ _ h => h) hHeld ?hi0b (by kernel_rfl) (by kernel_rfl) (by kernel_rfl) ?hw0b ?hy0b ?rest0b
      case hi0b =>
        simp only [List.getElem?_toArray, List.getElem?_cons_zero]
        rfl
      case hw0b => rfl
      case hy0b =>
        intro w hSw
        obtain ⟨s0, s1⟩ := hSw
        go_simp
        try with_reducible rfl
      try simp only [Act.put, List.setIfInBounds_toArray, List.set_cons_zero, List.set_cons_succ]
      refine peel_take (i := 1) (oi := ?oi1b) (v := ?v1b) (fun _ _ _ _ _ h => h) hHeld ?hi1b (by kernel_rfl) (by kernel_rfl) (by kernel_rfl) ?hw1b ?hy1b ?rest1b
      case hi1b =>
        simp only [List.getElem?_toArray, List.getElem?_cons_succ, List.getElem?_cons_zero]
        rfl
      case hw1b => rfl
      case hy1b =>
        intro w hSw
        obtain ⟨s0, s1⟩ := hSw
        go_simp
        try with_reducible rfl
      try simp only [Act.put, List.setIfInBounds_toArray, List.set_cons_zero, List.set_cons_succ]
      refine peel_take (i := 2) (oi := ?oi2b) (v := ?v2b) (fun _ _ _ _ _ h => h) hHeld ?hi2b (by kernel_rfl) (by kernel_rfl) (by kernel_rfl) ?hw2b ?hy2b ?rest2b
      case hi2b =>
        simp only [List.getElem?_toArray, List.getElem?_cons_succ, List.getElem?_cons_zero]
        rfl
      case hw2b => rfl
      case hy2b =>
        intro w hSw
        obtain ⟨s0, s1⟩ := hSw
        go_simp
        try with_reducible rfl
      try simp only [Act.put, List.setIfInBounds_toArray, List.set_cons_zero, List.set_cons_succ]
      refine peel_take (i := 3) (oi := ?oi3b) (v := ?v3b) (fun _ _ _ _ _ h => h) hHeld ?hi3b (by kernel_rfl) (by kernel_rfl) (by kernel_rfl) ?hw3b ?hy3b ?rest3b
      case hi3b =>
        simp only [List.getElem?_toArray, List.getElem?_cons_succ, List.getElem?_cons_zero]
        rfl
      case hw3b => rfl
      case hy3b =>
        intro w hSw
        obtain ⟨s0, s1⟩ := hSw
        go_simp
        try with_reducible rfl
      try simp only [Act.put, List.setIfInBounds_toArray, List.set_cons_zero, List.set_cons_succ]
      refine peel_take (i := 4) (oi := ?oi4b) (v := ?v4b) (fun _ _ _ _ _ h => h) hHeld ?hi4b (by kernel_rfl) (by kernel_rfl) (by kernel_rfl) ?hw4b ?hy4b ?rest4b
      case hi4b =>
        simp only [List.getElem?_toArray, List.getElem?_cons_succ, List.getElem?_cons_zero]
        rfl
      case hw4b => rfl
      case hy4b =>
        intro w hSw
        obtain ⟨s0, s1⟩ := hSw
        go_simp
        try with_reducible rfl
      try simp only [Act.put, List.setIfInBounds_toArray, List.set_cons_zero, List.set_cons_succ]
      refine peel_take (i := 5) (oi := ?oi5b) (v := ?v5b) (fun _ _ _ _ _ h => h) hHeld ?hi5b (by kernel_rfl) (by kernel_rfl) (by kernel_rfl) ?hw5b ?hy5b ?rest5b
      case hi5b =>
        simp only [List.getElem?_toArray, List.getElem?_cons_succ, List.getElem?_cons_zero]
        rfl
      case hw5b => rfl
      case hy5b =>
        intro w hSw
        obtain ⟨s0, s1⟩ := hSw
        go_simp
        try with_reducible rfl
      try simp only [Act.put, List.setIfInBounds_toArray, List.set_cons_zero, List.set_cons_succ]
      refine peel_take (i := 6) (oi := ?oi6b) (v := ?v6b) (fun _ _ _ _ _ h => h) hHeld ?hi6b (by kernel_rfl) (by kernel_rfl) (by kernel_rfl) ?hw6b ?hy6b ?rest6b
      case hi6b =>
        simp only [List.getElem?_toArray, List.getElem?_cons_succ, List.getElem?_cons_zero]
        rfl
      case hw6b => rfl
      case hy6b =>
        intro w hSw
        obtain ⟨s0, s1⟩ := hSw
        go_simp
        try with_reducible rfl
      try simp only [Act.put, List.setIfInBounds_toArray, List.set_cons_zero, List.set_cons_succ]
      refine peel_take (i := 7) (oi := ?oi7b) (v := ?v7b) (fun _ _ _ _ _ h => h) hHeld ?hi7b (by kernel_rfl) (by kernel_rfl) (by kernel_rfl) ?hw7b ?hy7b ?rest7b
      case hi7b =>
        simp only [List.getElem?_toArray, List.getElem?_cons_succ, List.getElem?_cons_zero]
        rfl
      case hw7b => rfl
      case hy7b =>
        intro w hSw
        obtain ⟨s0, s1⟩ := hSw
        go_simp
        try with_reducible rfl
      try simp only [Act.put, List.setIfInBounds_toArray, List.set_cons_zero, List.set_cons_succ]
      refine peel_take (i := 8) (oi := ?oi8b) (v := ?v8b) (fun _ _ _ _ _ h => h) hHeld ?hi8b (by kernel_rfl) (by kernel_rfl) (by kernel_rfl) ?hw8b ?hy8b ?rest8b
      case hi8b =>
        simp only [List.getElem?_toArray, List.getElem?_cons_succ, List.getElem?_cons_zero]
        rfl
      case hw8b => rfl
      case hy8b =>
        intro w hSw
        obtain ⟨s0, s1⟩ := hSw
        go_simp
        try with_reducible rfl
      try simp only [Act.put, List.setIfInBounds_toArray, List.set_cons_zero, List.set_cons_succ]
      refine peel_take (i := 9) (oi := ?oi9b) (v := ?v9b) (fun _ _ _ _ _ h => h) hHeld ?hi9b (by kernel_rfl) (by kernel_rfl) (by kernel_rfl) ?hw9b ?hy9b ?rest9b
      case hi9b =>
        simp only [List.getElem?_toArray, List.getElem?_cons_succ, List.getElem?_cons_zero]
        rfl
      case hw9b => rfl
      case hy9b =>
        intro w hSw
        obtain ⟨s0, s1⟩ := hSw
        go_simp
        try with_reducible rfl
      try simp only [Act.put, List.setIfInBounds_toArray, List.set_cons_zero, List.set_cons_succ]
      refine peel_take (i := 10) (oi := ?oi10b) (v := ?v10b) (fun _ _ _ _ _ h => h) hHeld ?hi10b (by kernel_rfl) (by kernel_rfl) (by kernel_rfl) ?hw10b ?hy10b ?rest10b
      case hi10b =>
        simp only [List.getElem?_toArray, List.getElem?_cons_succ, List.getElem?_cons_zero]
        rfl
      case hw10b => rfl
      case hy10b =>
        intro w hSw
        obtain ⟨s0, s1⟩ := hSw
        go_simp
        try with_reducible rfl
      try simp only [Act.put, List.setIfInBounds_toArray, List.set_cons_zero, List.set_cons_succ]
      refine wpAnyH_ready (rs := [11]) (by kernel_rfl) (by simp) ?_
      refine AllReadyH.cons (o := ?o11b) ?ho11b (fun K hK => ?st11b) AllReadyH.nil
      case ho11b =>
        simp only [List.getElem?_toArray, List.getElem?_cons_succ, List.getElem?_cons_zero]
        rfl
      go_simp
      refine hK.out _ _ ?hs11b (fun hHeld => ?re11b)
      case hs11b =>
        have hG5 := (HF.out.drew 1).alloc (.cells #[.int .i64 0, .int .i64 1, .int .i64 k, .int .i64 99] 3)
        exact ⟨hG5.t.cell 0, (hG5.own.cells k hkn).2.2.2.1⟩
      clear hK K
      try simp only [Act.put, List.setIfInBounds_toArray, List.set_cons_zero, List.set_cons_succ]
      refine wpAnyH_ready (rs := [12]) (by kernel_rfl) (by simp) ?_
      refine AllReadyH.cons (o := ?o12b) ?ho12b (fun K hK => ?st12b) AllReadyH.nil
      case ho12b =>
        simp only [List.getElem?_toArray, List.getElem?_cons_succ, List.getElem?_cons_zero]
        rfl
      go_simp
      refine (num_any ((w3.drewN 1).alloc _) r a len cp zs (q + 1 + 1) ((HF.out.drew 1).alloc _).rd (by omega) w3.heap.size 0 4 4 (fun i => [0, 1, (k : Int), 99].getD i 0) (by omega) (by omega) (by omega) (new_ints (w3.drewN 1) [0, 1, (k : Int), 99])).mono ?_
      rintro e w6 ⟨i, hi4, rfl, hg6, hR6⟩
      have hs6 := hnum i hi4
      have hG6 := ((HF.out.drew 1).alloc _).read hg6 hR6
      have hK6 := ((HF.out.drew 1).alloc _).readKids ((HF.out.drew 1).belowKids (HF.out.belowKids HK.out (below_drewN (Below.refl _ _) 1)) ((Below.refl _ _).alloc (Nat.le_refl _) _)) hg6
      have hOw6 : w6.ownsRow (w.heap.size + 1) 3 1 (.slice (L k).kA (D k).kn (L k).kc) (D k).kn (intv ((List.range (D k).kn).map (D k).kids)) := (hK6.room k hkn).owns (hG6.own.lists k hkn).1.2 (fun b o x e => ((hG6.own.lists k hkn).2.2 b o x e).1)
      have hl6 := hG6.t.lt
      have hl6g := hG6.own.lt
      have hl6w := hG6.res.lt
      have hob6 : ∀ b, (Value.slice (L k).kA (D k).kn (L k).kc).ownBlock = some b → b ≠ g ∧ b ≠ T := kid_block hG6 hK6 hkn
      have hnT : some T ≠ (Value.slice (L k).kA (D k).kn (L k).kc).ownBlock := fun e => (hob6 T e.symm).2 rfl
      have hnG : some g ≠ (Value.slice (L k).kA (D k).kn (L k).kc).ownBlock := fun e => (hob6 g e.symm).1 rfl
      generalize hsd : [0, 1, (k : Int), 99].getD i 0 = z at hs6
      refine hK.out _ _ ⟨hG6.t.cell 0, (hG6.own.cells k hkn).2.2.2.1⟩ (fun hHeld => ?re12b)
      clear hK K
      try simp only [Act.put, List.setIfInBounds_toArray, List.set_cons_zero, List.set_cons_succ]
      refine wpAnyH_ready (rs := [13]) (by kernel_rfl) (by simp) ?_
      refine AllReadyH.cons (o := ?o13b) ?ho13b (fun K hK => ?st13b) AllReadyH.nil
      case ho13b =>
        simp only [List.getElem?_toArray, List.getElem?_cons_succ, List.getElem?_cons_zero]
        rfl
      go_simp
      have hG7 := hG6.alloc (.cells #[.int .i64 z] 3)
      refine hK.out _ _ ⟨hG7.t.cell 0, (hG7.own.cells k hkn).2.2.2.1⟩ (fun hHeld => ?re13b)
      clear hK K
      try simp only [Act.put, List.setIfInBounds_toArray, List.set_cons_zero, List.set_cons_succ]
      refine wpAnyH_ready (rs := [14]) (by kernel_rfl) (by simp) ?_
      refine AllReadyH.cons (o := ?o14b) ?ho14b (fun K hK => ?st14b) AllReadyH.nil
      case ho14b =>
        simp only [List.getElem?_toArray, List.getElem?_cons_succ, List.getElem?_cons_zero]
        rfl
      refine step_append_lies _ (by rfl) _ _ _ (by rfl) (w.heap.size + 1) 3 j0 (.int .i64 0) 1 8 Try.underlying36 hj hy0 hy1 hy2 rfl (by decide) (.slice (L k).kA (D k).kn (L k).kc) (D k).kn (intv ((List.range (D k).kn).map (D k).kids)) (by rfl) (hOw6.alloc _) ⟨w6.heap.size, 0, none⟩ 1 1 (intv [z]) (by rfl) (by rfl) (intv_at w6 _) (intv_one _) (by decide) (by unfold maxLen; omega) (by omega) (by simp; omega) (w6.heap.size + 1) (by simp) ?_
      intro g' c' w7 hown hgrow hat hlt7
      have q0 : w7.cell? ⟨T, 0, none⟩ = some (.slice (some ⟨g, 0, none⟩) n cap) := (hgrow.cell_far _ (by simp; omega) hnT).trans (hG7.t.cell 0)
      have q3 : w7.cell? ⟨g, k * 5 + 3, none⟩ = some (.slice (L k).kA (D k).kn (L k).kc) := (hgrow.cell_far _ (by simp; omega) hnG).trans (hG7.own.cells k hkn).2.2.2.1
      have q3f : w7.frozen? ⟨g, k * 5 + 3, none⟩ = false := (hgrow.frozen_far _ (by simp; omega) hnG).trans (hG7.own.frozen (k * 5 + 3))
      refine hK.out _ _ ⟨q0, q3⟩ (fun hHeld => ?re14b)
      clear hK K
      try simp only [Act.put, List.setIfInBounds_toArray, List.set_cons_zero, List.set_cons_succ]
      refine peel_take (i := 15) (oi := ?oi15b) (v := ?v15b) (fun _ _ _ _ _ h => h) hHeld ?hi15b (by kernel_rfl) (by kernel_rfl) (by kernel_rfl) ?hw15b ?hy15b ?rest15b
      case hi15b =>
        simp only [List.getElem?_toArray, List.getElem?_cons_succ, List.getElem?_cons_zero]
        rfl
      case hw15b => rfl
      case hy15b =>
        intro w hSw
        obtain ⟨s0, s1⟩ := hSw
        go_simp
        try with_reducible rfl
      try simp only [Act.put, List.setIfInBounds_toArray, List.set_cons_zero, List.set_cons_succ]
      refine peel_take (i := 16) (oi := ?oi16b) (v := ?v16b) (fun _ _ _ _ _ h => h) hHeld ?hi16b (by kernel_rfl) (by kernel_rfl) (by kernel_rfl) ?hw16b ?hy16b ?rest16b
      case hi16b =>
        simp only [List.getElem?_toArray, List.getElem?_cons_succ, List.getElem?_cons_zero]
        rfl
      case hw16b => rfl
      case hy16b =>
        intro w hSw
        obtain ⟨s0, s1⟩ := hSw
        go_simp
        try with_reducible rfl
      try simp only [Act.put, List.setIfInBounds_toArray, List.set_cons_zero, List.set_cons_succ]
      refine wpAnyH_done (by kernel_rfl) ?_ _
      show Oper.wp _ _ _ _ _ _
      go_simp
      generalize w6.heap.size = b6
      exact NoPanic.normal (KEY.out g' c' z b6 _ ⟨hG7.kidApp (hG6.belowKids hK6 ((Below.refl _ _).alloc (Nat.le_refl _) _)) hkn hown hgrow (hat.elim Or.inl (fun e => Or.inr (by rw [e]; simp))), hs6⟩)
    · intro g' c' z b6 W7 hF7
      have hf : Fair n (putNd D k (kidNd (D k) z)) := (hN.fair (Nat.le_refl _)).put (kid_fair hfk hk10 hF7.2.1 hF7.2.2)
      have HF7 : Hid _ := hF7.1
      have HE : Hid _ := hF7.1.fin hf
      clear hf hF7 t0 t1 HF HK c3
      have t0 : W7.cell? ⟨T, 0, none⟩ = some (.slice (some ⟨g, 0, none⟩) (n) cap) := HF7.out.t.cell 0
      have t1 : W7.cell? ⟨T, 1, none⟩ = some (.int .i64 (now)) := HF7.out.t.cell 1
      have rs0 : W7.cell? ⟨w.heap.size, 0, none⟩ = some (.slice none 0 0) := HF7.out.res.cell 0
      have rs1 : W7.cell? ⟨w.heap.size, 1, none⟩ = some (.int .i64 0) := HF7.out.res.cell 1
      have rf0 := HF7.out.res.frozen 0
      have rf1 := HF7.out.res.frozen 1
      clear HF7
      go_wp2
      refine end_world (F := BEnd w r a len cp zs (q + 1 + 1 + 1) g cap (n) _ _ (now)) HE.out ?_
      clear HE
      rintro WF ⟨hr, hgr⟩
      have r0 := hr.cell 0
      have r1 := hr.cell 1
      simp at r0 r1
      exact bodyPost_ret (v := .agg #[.slice (some ⟨g, 0, none⟩) (n) cap, .int .i64 (now)]) (by simp [results, Try.results20, go_sem, r0, r1]) rfl (bentPost_mk (by omega) (by omega) (by omega) hgr)
  have hb2 : (x == 2) = false := by simp; exact hx2
  by_cases hx3 : x = 3
  · subst hx3
    go_wp2_with fail
    obtain ⟨c0, c1, c2, c3, c4⟩ := HF.out.own.cells 0 hn1
    have hn8 := hN.each 0 hn1
    have hf8 := (hN.fair (Nat.le_refl _)).each 0 hn1
    have hn0i : (0 : Int) < (n : Int) := by omega
    have hn00 : 0 < n := hn1
    have hnum : ∀ i, i < 3 → (0 : Int) ≤ [0, (k : Int), (n : Int)].getD i 0 ∧ [0, (k : Int), (n : Int)].getD i 0 ≤ 99 := fun i hi => getD_in (L := [0, (k : Int), (n : Int)]) (by simp; omega) i hi
    apply wp_cutq4 (X := List ByteArray) (Y := List Int) (Z := Loc) (U := Int) (fun NL KL l' _ W => BI w T r a len cp zs (q + 1 + 1 + 1) g cap n (putNd D 0 (withNd (D 0) NL KL)) (putLoc L 0 l') now W ∧ WL (fun z => 0 ≤ z ∧ z ≤ 99) (D 0).nn true NL KL)
    · intro key
      have KEY : Hid _ := key
      clear key
      refine wp_region_noPanic ?_
      refine wp_region_peel (fun W' => W'.cell? ⟨T, 0, none⟩ = some (.slice (some ⟨g, 0, none⟩) n cap) ∧ W'.cell? ⟨g, 0, none⟩ = some (.int .i64 (D 0).kind) ∧ W'.cell? ⟨g, 1, none⟩ = some (.string (D 0).text) ∧ W'.cell? ⟨g, 2, none⟩ = some (.slice (L 0).nA (D 0).nn (L 0).nc) ∧ W'.cell? ⟨g, 3, none⟩ = some (.slice (L 0).kA (D 0).kn (L 0).kc) ∧ W'.cell? ⟨g, 4, none⟩ = some (.int .i64 (D 0).turn)) _ (by kernel_rfl) rfl (by kernel_rfl) ?_ (fun hHeld => ?_)
      · exact ⟨t0, c0, c1, c2, c3, c4⟩
      simp only [List.pop_toArray, List.dropLast, List.size_toArray, List.length_cons, List.length_nil, Nat.reduceAdd, Nat.reduceSub, List.getElem_toArray, List.getElem_cons_succ, List.getElem_cons_zero]
      refine peel_take (i := 0) (oi := ?oi0) (v := ?v0) (fun _ _ _ _ _ h => h) hHeld ?hi0 (by kernel_rfl) (by kernel_rfl) (by kernel_rfl) ?hw0 ?hy0 ?rest0
      case hi0 =>
        simp only [List.getElem?_toArray, List.getElem?_cons_zero]
        rfl
      case hw0 => rfl
      case hy0 =>
        intro w hSw
        obtain ⟨s0, s1, s2, s3, s4, s5⟩ := hSw
        go_simp
        try with_reducible rfl
      try simp only [Act.put, List.setIfInBounds_toArray, List.set_cons_zero, List.set_cons_succ]
      refine peel_take (i := 1) (oi := ?oi1) (v := ?v1) (fun _ _ _ _ _ h => h) hHeld ?hi1 (by kernel_rfl) (by kernel_rfl) (by kernel_rfl) ?hw1 ?hy1 ?rest1
      case hi1 =>
        simp only [List.getElem?_toArray, List.getElem?_cons_succ, List.getElem?_cons_zero]
        rfl
      case hw1 => rfl
      case hy1 =>
        intro w hSw
        obtain ⟨s0, s1, s2, s3, s4, s5⟩ := hSw
        go_simp
        try with_reducible rfl
      try simp only [Act.put, List.setIfInBounds_toArray, List.set_cons_zero, List.set_cons_succ]
      refine peel_take (i := 2) (oi := ?oi2) (v := ?v2) (fun _ _ _ _ _ h => h) hHeld ?hi2 (by kernel_rfl) (by kernel_rfl) (by kernel_rfl) ?hw2 ?hy2 ?rest2
      case hi2 =>
        simp only [List.getElem?_toArray, List.getElem?_cons_succ, List.getElem?_cons_zero]
        rfl
      case hw2 => rfl
      case hy2 =>
        intro w hSw
        obtain ⟨s0, s1, s2, s3, s4, s5⟩ := hSw
        go_simp
        try with_reducible rfl
      try simp only [Act.put, List.setIfInBounds_toArray, List.set_cons_zero, List.set_cons_succ]
      refine peel_take (i := 3) (oi := ?oi3) (v := ?v3) (fun _ _ _ _ _ h => h) hHeld ?hi3 (by kernel_rfl) (by kernel_rfl) (by kernel_rfl) ?hw3 ?hy3 ?rest3
      case hi3 =>
        simp only [List.getElem?_toArray, List.getElem?_cons_succ, List.getElem?_cons_zero]
        rfl
      case hw3 => rfl
      case hy3 =>
        intro w hSw
        obtain ⟨s0, s1, s2, s3, s4, s5⟩ := hSw
        go_simp
        try with_reducible rfl
      try simp only [Act.put, List.setIfInBounds_toArray, List.set_cons_zero, List.set_cons_succ]
      refine peel_take (i := 4) (oi := ?oi4) (v := ?v4) (fun _ _ _ _ _ h => h) hHeld ?hi4 (by kernel_rfl) (by kernel_rfl) (by kernel_rfl) ?hw4 ?hy4 ?rest4
      case hi4 =>
        simp only [List.getElem?_toArray, List.getElem?_cons_succ, List.getElem?_cons_zero]
        rfl
      case hw4 => rfl
      case hy4 =>
        intro w hSw
        obtain ⟨s0, s1, s2, s3, s4, s5⟩ := hSw
        go_simp
        try with_reducible rfl
      try simp only [Act.put, List.setIfInBounds_toArray, List.set_cons_zero, List.set_cons_succ]
      refine peel_take (i := 5) (oi := ?oi5) (v := ?v5) (fun _ _ _ _ _ h => h) hHeld ?hi5 (by kernel_rfl) (by kernel_rfl) (by kernel_rfl) ?hw5 ?hy5 ?rest5
      case hi5 =>
        simp only [List.getElem?_toArray, List.getElem?_cons_succ, List.getElem?_cons_zero]
        rfl
      case hw5 => rfl
      case hy5 =>
        intro w hSw
        obtain ⟨s0, s1, s2, s3, s4, s5⟩ := hSw
        go_simp
        try with_reducible rfl
      try simp only [Act.put, List.setIfInBounds_toArray, List.set_cons_zero, List.set_cons_succ]
      refine peel_take (i := 6) (oi := ?oi6) (v := ?v6) (fun _ _ _ _ _ h => h) hHeld ?hi6 (by kernel_rfl) (by kernel_rfl) (by kernel_rfl) ?hw6 ?hy6 ?rest6
      case hi6 =>
        simp only [List.getElem?_toArray, List.getElem?_cons_succ, List.getElem?_cons_zero]
        rfl
      case hw6 => rfl
      case hy6 =>
        intro w hSw
        obtain ⟨s0, s1, s2, s3, s4, s5⟩ := hSw
        go_simp
        try with_reducible rfl
      try simp only [Act.put, List.setIfInBounds_toArray, List.set_cons_zero, List.set_cons_succ]
      refine peel_take (i := 7) (oi := ?oi7) (v := ?v7) (fun _ _ _ _ _ h => h) hHeld ?hi7 (by kernel_rfl) (by kernel_rfl) (by kernel_rfl) ?hw7 ?hy7 ?rest7
      case hi7 =>
        simp only [List.getElem?_toArray, List.getElem?_cons_succ, List.getElem?_cons_zero]
        rfl
      case hw7 => rfl
      case hy7 =>
        intro w hSw
        obtain ⟨s0, s1, s2, s3, s4, s5⟩ := hSw
        go_simp
        try with_reducible rfl
      try simp only [Act.put, List.setIfInBounds_toArray, List.set_cons_zero, List.set_cons_succ]
      refine peel_take (i := 8) (oi := ?oi8) (v := ?v8) (fun _ _ _ _ _ h => h) hHeld ?hi8 (by kernel_rfl) (by kernel_rfl) (by kernel_rfl) ?hw8 ?hy8 ?rest8
      case hi8 =>
        simp only [List.getElem?_toArray, List.getElem?_cons_succ, List.getElem?_cons_zero]
        rfl
      case hw8 => rfl
      case hy8 =>
        intro w hSw
        obtain ⟨s0, s1, s2, s3, s4, s5⟩ := hSw
        go_simp
        try with_reducible rfl
      try simp only [Act.put, List.setIfInBounds_toArray, List.set_cons_zero, List.set_cons_succ]
      refine peel_take (i := 9) (oi := ?oi9) (v := ?v9) (fun _ _ _ _ _ h => h) hHeld ?hi9 (by kernel_rfl) (by kernel_rfl) (by kernel_rfl) ?hw9 ?hy9 ?rest9
      case hi9 =>
        simp only [List.getElem?_toArray, List.getElem?_cons_succ, List.getElem?_cons_zero]
        rfl
      case hw9 => rfl
      case hy9 =>
        intro w hSw
        obtain ⟨s0, s1, s2, s3, s4, s5⟩ := hSw
        go_simp
        try with_reducible rfl
      try simp only [Act.put, List.setIfInBounds_toArray, List.set_cons_zero, List.set_cons_succ]
      refine peel_take (i := 10) (oi := ?oi10) (v := ?v10) (fun _ _ _ _ _ h => h) hHeld ?hi10 (by kernel_rfl) (by kernel_rfl) (by kernel_rfl) ?hw10 ?hy10 ?rest10
      case hi10 =>
        simp only [List.getElem?_toArray, List.getElem?_cons_succ, List.getElem?_cons_zero]
        rfl
      case hw10 => rfl
      case hy10 =>
        intro w hSw
        obtain ⟨s0, s1, s2, s3, s4, s5⟩ := hSw
        go_simp
        try with_reducible rfl
      try simp only [Act.put, List.setIfInBounds_toArray, List.set_cons_zero, List.set_cons_succ]
      refine wpAnyH_ready (rs := [11]) (by kernel_rfl) (by simp) ?_
      refine AllReadyH.cons (o := ?o11) ?ho11 (fun K hK => ?st11) AllReadyH.nil
      case ho11 =>
        simp only [List.getElem?_toArray, List.getElem?_cons_succ, List.getElem?_cons_zero]
        rfl
      go_simp
      refine hK.out _ _ ?hs11 (fun hHeld => ?re11)
      case hs11 =>
        have hG5 := (HF.out.drew 1).alloc (.cells #[.int .i64 0, .int .i64 k, .int .i64 n] 3)
        obtain ⟨C0, C1, C2, C3, C4⟩ := hG5.own.cells 0 hn1
        exact ⟨hG5.t.cell 0, C0, C1, C2, C3, C4⟩
      clear hK K
      try simp only [Act.put, List.setIfInBounds_toArray, List.set_cons_zero, List.set_cons_succ]
      refine wpAnyH_ready (rs := [12]) (by kernel_rfl) (by simp) ?_
      refine AllReadyH.cons (o := ?o12) ?ho12 (fun K hK => ?st12) AllReadyH.nil
      case ho12 =>
        simp only [List.getElem?_toArray, List.getElem?_cons_succ, List.getElem?_cons_zero]
        rfl
      go_simp
      refine (num_any ((w3.drewN 1).alloc _) r a len cp zs (q + 1 + 1) ((HF.out.drew 1).alloc _).rd (by omega) w3.heap.size 0 3 3 (fun i => [0, (k : Int), (n : Int)].getD i 0) (by omega) (by omega) (by omega) (new_ints (w3.drewN 1) [0, (k : Int), (n : Int)])).mono ?_
      rintro e w6 ⟨i, hi3, rfl, hg6, hR6⟩
      have hs6 := hnum i hi3
      have hG6 := ((HF.out.drew 1).alloc _).read hg6 hR6
      obtain ⟨C0, C1, C2, C3, C4⟩ := hG6.own.cells 0 hn1
      have hl6 := hG6.t.lt
      have hl6g := hG6.own.lt
      generalize hsd : [0, (k : Int), (n : Int)].getD i 0 = z at hs6
      refine hK.out _ _ ⟨hG6.t.cell 0, C0, C1, C2, C3, C4⟩ (fun hHeld => ?re12)
      clear hK K
      try simp only [Act.put, List.setIfInBounds_toArray, List.set_cons_zero, List.set_cons_succ]
      refine wpAnyH_ready (rs := [13]) (by kernel_rfl) (by simp) ?_
      refine AllReadyH.cons (o := ?o13) ?ho13 (fun K hK => ?st13) AllReadyH.nil
      case ho13 =>
        simp only [List.getElem?_toArray, List.getElem?_cons_succ, List.getElem?_cons_zero]
        rfl
      go_simp
      refine (l2With_any (fun z => 0 ≤ z ∧ z ≤ 99) (D 0) (L 0) ⟨#[122, 122]⟩ z w6 (hG6.own.lists 0 hn1).1 hn8.same (by have := hn8.few; omega) hn8.short (by simp [Nm, nmL]) (fun i hi => by have h1 := hn8.kids i hi; omega) hs6).mono ?_
      rintro e w9 ⟨NL, KL, l', rfl, hmade, hwl⟩
      unfold ndV
      have hG9 := hG6.below hmade.bel
      obtain ⟨E0, E1, E2, E3, E4⟩ := hG9.own.cells 0 hn1
      refine hK.out _ _ ⟨hG9.t.cell 0, E0, E1, E2, E3, E4⟩ (fun hHeld => ?re13)
      clear hK K
      try simp only [Act.put, List.setIfInBounds_toArray, List.set_cons_zero, List.set_cons_succ]
      refine peel_take (i := 14) (oi := ?oi14) (v := ?v14) (fun _ _ _ _ _ h => h) hHeld ?hi14 (by kernel_rfl) (by kernel_rfl) (by kernel_rfl) ?hw14 ?hy14 ?rest14
      case hi14 =>
        simp only [List.getElem?_toArray, List.getElem?_cons_succ, List.getElem?_cons_zero]
        rfl
      case hw14 => rfl
      case hy14 =>
        intro w hSw
        obtain ⟨s0, s1, s2, s3, s4, s5⟩ := hSw
        go_simp
        try with_reducible rfl
      try simp only [Act.put, List.setIfInBounds_toArray, List.set_cons_zero, List.set_cons_succ]
      refine wpAnyH_done (by kernel_rfl) ?_ _
      have F0 := hG9.own.frozen (0 * 5)
      have F1 := hG9.own.frozen (0 * 5 + 1)
      have F2 := hG9.own.frozen (0 * 5 + 2)
      have F3 := hG9.own.frozen (0 * 5 + 3)
      have F4 := hG9.own.frozen (0 * 5 + 4)
      obtain ⟨S0, S1, S2, S3, S4, S5⟩ := hHeld
      show Oper.wp _ _ _ _ _ _
      go_simp
      exact NoPanic.normal (KEY.out NL KL l' z _ ⟨hG9.putNode hn1 (withNd (D 0) NL KL) l' hmade.lies (fun b o x e => by have := hmade.nA b o x e; omega) (fun b o x e => by have := hmade.kA b o x e; omega), hwl⟩)
    · intro NL KL l' z W7 hF7
      have hf : Fair n (putNd D 0 (withNd (D 0) NL KL)) := (hN.fair (Nat.le_refl _)).put (with_fair hf8 (by have := hn8.few; omega) hF7.2)
      have HF7 : Hid _ := hF7.1
      have HE : Hid _ := hF7.1.fin hf
      clear hf hF7 t0 t1 HF c0 c1 c2 c3 c4
      have t0 : W7.cell? ⟨T, 0, none⟩ = some (.slice (some ⟨g, 0, none⟩) (n) cap) := HF7.out.t.cell 0
      have t1 : W7.cell? ⟨T, 1, none⟩ = some (.int .i64 (now)) := HF7.out.t.cell 1
      have rs0 : W7.cell? ⟨w.heap.size, 0, none⟩ = some (.slice none 0 0) := HF7.out.res.cell 0
      have rs1 : W7.cell? ⟨w.heap.size, 1, none⟩ = some (.int .i64 0) := HF7.out.res.cell 1
      have rf0 := HF7.out.res.frozen 0
      have rf1 := HF7.out.res.frozen 1
      clear HF7
      go_wp2
      refine end_world (F := BEnd w r a len cp zs (q + 1 + 1 + 1) g cap (n) _ _ (now)) HE.out ?_
      clear HE
      rintro WF ⟨hr, hgr⟩
      have r0 := hr.cell 0
      have r1 := hr.cell 1
      simp at r0 r1
      exact bodyPost_ret (v := .agg #[.slice (some ⟨g, 0, none⟩) (n) cap, .int .i64 (now)]) (by simp [results, Try.results20, go_sem, r0, r1]) rfl (bentPost_mk (by omega) (by omega) (by omega) hgr)
  have hb3 : (x == 3) = false := by simp; exact hx3
  by_cases hx4 : x = 4
  · subst hx4
    go_wp2_with fail
    clear HK
    apply wp_cutq1 (X := ByteArray) (fun s W => BI w T r a len cp zs (q + 1 + 1 + 1) g cap n (putNd D k { D k with text := s }) L now W ∧ s.size ≤ 10)
    · intro key
      have KEY : Hid _ := key
      clear key
      go_region_with (
        go_at_call 47
        refine (of_any ((w3.drewN 1).alloc _) r a len cp zs (q + 1 + 1) ((HF.out.drew 1).alloc _).rd (by omega) w3.heap.size 0 3 3 (fun i => bent3.getD i ByteArray.empty) (by omega) (by omega) (by omega) (new_strs (w3.drewN 1) bent3)).mono ?_
        rintro e w6 ⟨i, hi3, rfl, hg6, hR6⟩
        have hs6 : (bent3.getD i ByteArray.empty).size ≤ 10 := getD_size rfl i
        have hG6 := ((HF.out.drew 1).alloc _).read hg6 hR6
        have T0 : w6.cell? ⟨T, 0, none⟩ = some (.slice (some ⟨g, 0, none⟩) n cap) := hG6.t.cell 0
        have E1 := (hG6.own.cells k hkn).2.1
        have EF1 := hG6.own.frozen (k * 5 + 1)
        generalize hsd : bent3.getD i ByteArray.empty = s at hs6)
      all_goals exact KEY.out s _ ⟨hG6.put (hG6.own.setText hkn s), hs6⟩
    · intro s W7 hF7
      have hf : Fair n (putNd D k { D k with text := s }) := (hN.fair (Nat.le_refl _)).put ⟨hfk.nn, hfk.kn, hfk.names, hfk.kids, hF7.2, hfk.kind, hfk.turn⟩
      have HF7 : Hid _ := hF7.1
      have HE : Hid _ := hF7.1.fin hf
      clear hf hF7 t0 t1 HF
      have t0 : W7.cell? ⟨T, 0, none⟩ = some (.slice (some ⟨g, 0, none⟩) (n) cap) := HF7.out.t.cell 0
      have t1 : W7.cell? ⟨T, 1, none⟩ = some (.int .i64 (now)) := HF7.out.t.cell 1
      have rs0 : W7.cell? ⟨w.heap.size, 0, none⟩ = some (.slice none 0 0) := HF7.out.res.cell 0
      have rs1 : W7.cell? ⟨w.heap.size, 1, none⟩ = some (.int .i64 0) := HF7.out.res.cell 1
      have rf0 := HF7.out.res.frozen 0
      have rf1 := HF7.out.res.frozen 1
      clear HF7
      go_wp2
      refine end_world (F := BEnd w r a len cp zs (q + 1 + 1 + 1) g cap (n) _ L (now)) HE.out ?_
      clear HE
      rintro WF ⟨hr, hgr⟩
      have r0 := hr.cell 0
      have r1 := hr.cell 1
      simp at r0 r1
      exact bodyPost_ret (v := .agg #[.slice (some ⟨g, 0, none⟩) (n) cap, .int .i64 (now)]) (by simp [results, Try.results20, go_sem, r0, r1]) rfl (bentPost_mk (by omega) (by omega) (by omega) hgr)
  have hb4 : (x == 4) = false := by simp; exact hx4
  by_cases hx5 : x = 5
  · subst hx5
    clear HK
    obtain ⟨cur6, hc6, hs6⟩ := (HF.out.alloc (.cells #[.int .i64 1, .string ⟨#[]⟩, .slice none 0 0, .slice none 0 0, .int .i64 1] 38)).own.blk
    go_wp2_with (at_builtin; refine wpList_append_lies _ rfl _ _ 23 rfl (w.heap.size + 1) 38 i0 _ 5 80 Try.underlying23 hi0 hz0 hz1 hz2 rfl (by decide) (.slice (some ⟨g, 0, none⟩) n cap) n (cur6.toList.take (n * 5)) rfl ((HF.out.alloc _).own.owns hc6 hs6) ⟨w3.heap.size, 0, none⟩ 1 1 (leafCells 1 1) rfl rfl (World.news_of_block (cs := #[.int .i64 1, .string ⟨#[]⟩, .slice none 0 0, .slice none 0 0, .int .i64 1]) (t := 38) (fr := (0, 0)) (heap_alloc_new w3 _)) (by simp [leafCells, Value.oneCell']) (by decide) (by unfold maxLen; omega) (by omega) (by simp; omega) (w3.heap.size + 1) (by simp) ?_)
    intro g' c' w7 hown hgrow hat hlt7
    have q0 : w7.cell? ⟨T, 0, none⟩ = some (.slice (some ⟨g, 0, none⟩) n cap) := (hgrow.cell_far _ (by simp; omega) (by simp [Value.ownBlock]; omega)).trans ((HF.out.alloc _).t.cell 0)
    have q1 : w7.cell? ⟨T, 1, none⟩ = some (.int .i64 now) := (hgrow.cell_far _ (by simp; omega) (by simp [Value.ownBlock]; omega)).trans ((HF.out.alloc _).t.cell 1)
    have q0f : w7.frozen? ⟨T, 0, none⟩ = false := (hgrow.frozen_far _ (by simp; omega) (by simp [Value.ownBlock]; omega)).trans ((HF.out.alloc _).t.frozen 0)
    have hgw : g ≠ w.heap.size := by have := HF.out.base.1; omega
    have rs0 : w7.cell? ⟨w.heap.size, 0, none⟩ = some (.slice none 0 0) := (hgrow.cell_far _ (by simp; omega) (by simp [Value.ownBlock]; omega)).trans ((HF.out.alloc _).res.cell 0)
    have rs1 : w7.cell? ⟨w.heap.size, 1, none⟩ = some (.int .i64 0) := (hgrow.cell_far _ (by simp; omega) (by simp [Value.ownBlock]; omega)).trans ((HF.out.alloc _).res.cell 1)
    have rf0 : w7.frozen? ⟨w.heap.size, 0, none⟩ = false := (hgrow.frozen_far _ (by simp; omega) (by simp [Value.ownBlock]; omega)).trans ((HF.out.alloc _).res.frozen 0)
    have rf1 : w7.frozen? ⟨w.heap.size, 1, none⟩ = false := (hgrow.frozen_far _ (by simp; omega) (by simp [Value.ownBlock]; omega)).trans ((HF.out.alloc _).res.frozen 1)
    have hF7 := (HF.out.alloc _).append hc6 hs6 hown (by simpa [Value.ownBlock] using hgrow) (hat.elim (fun e => Or.inl (by simpa [Value.ownBlock] using e)) (fun e => Or.inr (by rw [e]; simp)))
    have HE : Hid _ := hF7.fin ((hN.fair (Nat.le_refl _)).app (by omega) leaf_fair)
    clear hF7 hown hgrow hat hlt7 t0 t1 HF hc6 hs6
    go_wp2
    refine end_world (F := BEnd w r a len cp zs (q + 1 + 1) g' c' (n + 1) _ _ (now)) HE.out ?_
    clear HE
    rintro WF ⟨hr, hgr⟩
    have r0 := hr.cell 0
    have r1 := hr.cell 1
    simp at r0 r1
    exact bodyPost_ret (v := .agg #[.slice (some ⟨g', 0, none⟩) (n + 1) c', .int .i64 (now)]) (by simp [results, Try.results20, go_sem, r0, r1]) rfl (bentPost_mk (by omega) (by omega) (by omega) hgr)
  have hb5 : (x == 5) = false := by simp; exact hx5
  by_cases hx6 : x = 6
  · subst hx6
    go_wp2_with fail
    clear HK
    refine (num_any (w3.alloc _) r a len cp zs (q + 1 + 1) (HF.out.alloc _).rd (by omega) w3.heap.size 0 2 2 (fun i => [(0 : Int), 1001].getD i 0) (by omega) (by omega) (by omega) (new_ints w3 [0, 1001])).mono ?_
    rintro e w6 ⟨i, hi3, rfl, hg6, hR6⟩
    have hs6 : 0 ≤ [(0 : Int), 1001].getD i 0 ∧ [(0 : Int), 1001].getD i 0 ≤ 1001 := getD_in (by simp) i hi3
    have HF6 : Hid _ := (HF.out.alloc _).read hg6 hR6
    generalize [(0 : Int), 1001].getD i 0 = z at hs6 ⊢
    have HE : Hid _ := (HF6.out.setNow z).fin (hN.fair (Nat.le_refl _))
    clear hg6 hR6 t0 t1 HF
    have t0 : w6.cell? ⟨T, 0, none⟩ = some (.slice (some ⟨g, 0, none⟩) n cap) := HF6.out.t.cell 0
    have t1 : w6.cell? ⟨T, 1, none⟩ = some (.int .i64 now) := HF6.out.t.cell 1
    have tf1 := HF6.out.t.frozen 1
    have rs0 : w6.cell? ⟨w.heap.size, 0, none⟩ = some (.slice none 0 0) := HF6.out.res.cell 0
    have rs1 : w6.cell? ⟨w.heap.size, 1, none⟩ = some (.int .i64 0) := HF6.out.res.cell 1
    have rf0 := HF6.out.res.frozen 0
    have rf1 := HF6.out.res.frozen 1
    clear HF6
    go_wp2
    refine end_world (F := BEnd w r a len cp zs (q + 1 + 1 + 1) g cap (n) D L (z)) HE.out ?_
    clear HE
    rintro WF ⟨hr, hgr⟩
    have r0 := hr.cell 0
    have r1 := hr.cell 1
    simp at r0 r1
    exact bodyPost_ret (v := .agg #[.slice (some ⟨g, 0, none⟩) (n) cap, .int .i64 (z)]) (by simp [results, Try.results20, go_sem, r0, r1]) rfl (bentPost_mk (by omega) (by omega) (by omega) hgr)
  have hb6 : (x == 6) = false := by simp; exact hx6
  have HE : Hid _ := HF.out.fin (hN.fair (Nat.le_refl _))
  have rs0 : w3.cell? ⟨w.heap.size, 0, none⟩ = some (.slice none 0 0) := HF.out.res.cell 0
  have rs1 : w3.cell? ⟨w.heap.size, 1, none⟩ = some (.int .i64 0) := HF.out.res.cell 1
  have rf0 := HF.out.res.frozen 0
  have rf1 := HF.out.res.frozen 1
  clear HF HK hx0 hx1 hx2 hx3 hx4 hx5 hx6
  go_wp2
  refine end_world (F := BEnd w r a len cp zs (q + 1 + 1) g cap (n) D L (now)) HE.out ?_
  clear HE
  rintro WF ⟨hr, hgr⟩
  have r0 := hr.cell 0
  have r1 := hr.cell 1
  simp at r0 r1
  exact bodyPost_ret (v := .agg #[.slice (some ⟨g, 0, none⟩) (n) cap, .int .i64 (now)]) (by simp [results, Try.results20, go_sem, r0, r1]) rfl (bentPost_mk (by omega) (by omega) (by omega) hgr)
end Go.Proofs.Ytoblndhmkehoaaa

/-
  What the draws of trees give: a tree in new memory, bent or not.
-/
namespace Go.Proofs.Ytoblndhmkehoaaa
open Go.RowKit Go.Deep
set_option linter.unusedVariables false

/-- A drawn tree lies in new memory. -/
structure DrawnT (w : World) (g c n : Nat) (D : Nat → Nd) (L : Nat → Loc) (now : Int) (w' : World) : Prop where
  own : OwnT w' w.heap.size g c n D L
  fair : Fair n D
  now0 : 0 ≤ now
  now1 : now ≤ 1001
  bel : Below w.heap.size w w'

theorem sizeTo_le {n : Nat} {D : Nat → Nd} (k : Nat) (h : ∀ i, i < n → (D i).size ≤ k) : ∀ m, m ≤ n → sizeTo D m ≤ m * k
  | 0, _ => by simp [sizeTo]
  | m + 1, hm => by
    have h1 := sizeTo_le k h m (by omega)
    have h2 := h m (by omega)
    rw [sizeTo_succ, Nat.add_mul]
    omega

theorem sumTo_le {n : Nat} {S : Nat → ByteArray} (k : Nat) (h : ∀ i, i < n → (S i).size ≤ k) : ∀ m, m ≤ n → sumTo S m ≤ m * k
  | 0, _ => by simp [sumTo]
  | m + 1, hm => by
    have h1 := sumTo_le k h m (by omega)
    have h2 := h m (by omega)
    rw [sumTo_succ, Nat.add_mul]
    omega

theorem FairNd.small {d : Nd} (h : FairNd d) : d.size ≤ 100 := by
  have h1 := h.nn
  have h2 := h.kn
  have h3 := h.text
  have h4 := sumTo_le 4 (fun i hi => (h.names i hi).size) d.nn (Nat.le_refl _)
  unfold Nd.size
  omega

theorem Fair.size {n : Nat} {D : Nat → Nd} (h : Fair n D) : sizeTo D n ≤ 1048576 := by
  have h1 := sizeTo_le 100 (fun i hi => (h.each i hi).small) n (Nat.le_refl _)
  have h2 := h.few
  omega

theorem Fair.len {n : Nat} {D : Nat → Nd} (h : Fair n D) : n ≤ maxLen := by have := h.few; unfold maxLen; omega

section
variable {w : World} {g c n : Nat} {D : Nat → Nd} {L : Nat → Loc} {now : Int} {w' w'' : World}

theorem DrawnT.nds (h : DrawnT w g c n D L now w') : IsNds w' (some ⟨g, 0, none⟩) n D L := h.own.nds

theorem DrawnT.below (h : DrawnT w g c n D L now w') (hb : Below w'.heap.size w' w'') : DrawnT w g c n D L now w'' :=
  ⟨h.own.below hb, h.fair, h.now0, h.now1, h.bel.trans (hb.mono h.bel.size)⟩
end

/-- .. and in a variable of the law's. -/
structure InT (w : World) (T g c n : Nat) (D : Nat → Nd) (L : Nat → Loc) (now : Int) (W : World) : Prop where
  drawn : DrawnT w g c n D L now W
  t : Blk W T #[.slice (some ⟨g, 0, none⟩) n c, .int .i64 now] 25

section
variable {w : World} {T g c n : Nat} {D : Nat → Nd} {L : Nat → Loc} {now : Int} {W W' : World}
theorem InT.below (h : InT w T g c n D L now W) (hb : Below W.heap.size W W') : InT w T g c n D L now W' := ⟨h.drawn.below hb, h.t.below hb h.t.lt⟩
theorem InT.drew (h : InT w T g c n D L now W) (k : Nat) : InT w T g c n D L now (W.drewN k) := h.below (below_drewN (Below.refl _ _) k)
theorem InT.alloc (h : InT w T g c n D L now W) (o : Obj) : InT w T g c n D L now (W.alloc o) := h.below ((Below.refl _ _).alloc (Nat.le_refl _) _)
theorem InT.start (h : DrawnT w g c n D L now W) : InT w W.heap.size g c n D L now (W.alloc (.cells #[.slice (some ⟨g, 0, none⟩) n c, .int .i64 now] 25)) := ⟨h.below ((Below.refl _ _).alloc (Nat.le_refl _) _), Blk.new W _ _⟩
theorem InT.in64 (h : InT w T g c n D L now W) : In64 now := by have h0 := h.drawn.now0; have h1 := h.drawn.now1; unfold In64; omega
end

/-- The answer of a draw is written into its block. -/
structure DEnd (w : World) (B g c n : Nat) (D : Nat → Nd) (L : Nat → Loc) (now : Int) (W : World) : Prop where
  ans : Blk W B #[.slice (some ⟨g, 0, none⟩) n c, .int .i64 now] 25
  drawn : DrawnT w g c n D L now W

/-- What is known of a drawn tree behind a reader of one's own: the answer's block is w.heap.size, the reader's the next one. -/
structure RT (w : World) (a : Option Addr) (len cp : Nat) (zs : Nat → Int) (q g c n : Nat) (D : Nat → Nd) (L : Nat → Loc) (now : Int) (W : World) : Prop where
  rd : IsRd W (w.heap.size + 1) a len cp zs q
  res : Blk W w.heap.size #[.slice none 0 0, .int .i64 0] 25
  own : OwnT W (w.heap.size + 2) g c n D L
  fair : Fair n D
  now0 : 0 ≤ now
  now1 : now ≤ 1001
  bel : Below w.heap.size w W

theorem RT.start {w w1 w2 : World} {a : Option Addr} {len cp : Nat} {zs : Nat → Int} {q g c n : Nat} {D : Nat → Nd} {L : Nat → Loc} {now : Int} (h1 : Below (w.heap.size + 1) (w.alloc (.cells #[.slice none 0 0, .int .i64 0] 25)) w1) (hl : w.heap.size + 2 ≤ w1.heap.size)
    (h : BentD w1 (w.heap.size + 1) a len cp zs q g c n D L w2) (h0 : 0 ≤ now) (h1' : now ≤ 1001) : RT w a len cp zs q g c n D L now w2 := by
  have hs := h.grown.size
  have b1 : Blk w1 w.heap.size #[.slice none 0 0, .int .i64 0] 25 := (Blk.new w _ _).below h1 (by omega)
  refine ⟨h.rd, b1.of_block (h.grown.block _ (by omega) (by simp)), h.own.lower (by omega), h.fair, h0, h1', ?_⟩
  refine ⟨h.grown.os.trans h1.os, h.grown.tape.trans h1.tape, h.grown.output.trans h1.output, by omega, fun k hk => ?_⟩
  exact (h.grown.block k (by omega) (by simp; omega)).trans ((h1.block k (by omega)).trans (blk_alloc_lt _ _ _ hk))

theorem RT.fin {w : World} {a : Option Addr} {len cp : Nat} {zs : Nat → Int} {q g c n : Nat} {D : Nat → Nd} {L : Nat → Loc} {now : Int} {W : World} (h : RT w a len cp zs q g c n D L now W) :
    DEnd w w.heap.size g c n D L now ((W.setCell ⟨w.heap.size, 0, none⟩ (.slice (some ⟨g, 0, none⟩) n c)).setCell ⟨w.heap.size, 1, none⟩ (.int .i64 now)) := by
  have hb := h.own.base
  have ha : Away (fun b => b = w.heap.size) g n L := ⟨by omega, fun i hi => ⟨fun b o x e => by have := ((h.own.lists i hi).2.1 b o x e).1; omega, fun b o x e => by have := ((h.own.lists i hi).2.2 b o x e).1; omega⟩⟩
  exact ⟨(h.res.set 0 _).set 1 _, ((h.own.setOther ha rfl _ _).setOther ha rfl _ _).lower (by omega), h.fair, h.now0, h.now1, bel_put (bel_put h.bel _ (Nat.le_refl _)) _ (Nat.le_refl _)⟩

def DrawTPost (w : World) (e : Ending) (w' : World) : Prop := ∃ g c n D L now, e = .returned (trV (some ⟨g, 0, none⟩) n c now) ∧ DrawnT w g c n D L now w'
theorem drawTPost_mk {w : World} {g c n : Nat} {D : Nat → Nd} {L : Nat → Loc} {now : Int} {W : World} (h : DrawnT w g c n D L now W) : DrawTPost w (.returned (.agg #[.slice (some ⟨g, 0, none⟩) n c, .int .i64 now])) W := ⟨g, c, n, D, L, now, rfl, h⟩

theorem RT.below {w : World} {a : Option Addr} {len cp : Nat} {zs : Nat → Int} {q g c n : Nat} {D : Nat → Nd} {L : Nat → Loc} {now : Int} {W W' : World} (h : RT w a len cp zs q g c n D L now W) (hb : Below W.heap.size W W') : RT w a len cp zs q g c n D L now W' := by
  have h1 := h.rd.lt
  have h2 := h.bel.size
  exact ⟨h.rd.kept (fun k hk => hb.block k (by omega)), h.res.below hb h.res.lt, h.own.below hb, h.fair, h.now0, h.now1, h.bel.trans (hb.mono h2)⟩

theorem RT.read {w : World} {a : Option Addr} {len cp : Nat} {zs : Nat → Int} {q q' g c n : Nat} {D : Nat → Nd} {L : Nat → Loc} {now : Int} {W W' : World} (h : RT w a len cp zs q g c n D L now W) (hg : W.grownBy W' (some (w.heap.size + 1))) (hr : IsRd W' (w.heap.size + 1) a len cp zs q') : RT w a len cp zs q' g c n D L now W' := by
  have h1 := h.res.lt
  exact ⟨hr, h.res.of_block (hg.block _ h1 (by simp)), h.own.grown hg (by omega), h.fair, h.now0, h.now1, h.bel.grown hg (Nat.le_of_lt h1) (fun k e => by simp at e; omega)⟩

/-- .. and the tree lies in a variable. -/
structure RTB (w : World) (T : Nat) (a : Option Addr) (len cp : Nat) (zs : Nat → Int) (q g c n : Nat) (D : Nat → Nd) (L : Nat → Loc) (now : Int) (W : World) : Prop where
  rt : RT w a len cp zs q g c n D L now W
  t : Blk W T #[.slice (some ⟨g, 0, none⟩) n c, .int .i64 now] 25
  far : w.heap.size + 1 < T

section
variable {w : World} {T : Nat} {a : Option Addr} {len cp : Nat} {zs : Nat → Int} {q q' g c n : Nat} {D : Nat → Nd} {L : Nat → Loc} {now : Int} {W W' : World}
theorem RTB.below (h : RTB w T a len cp zs q g c n D L now W) (hb : Below W.heap.size W W') : RTB w T a len cp zs q g c n D L now W' := ⟨h.rt.below hb, h.t.below hb h.t.lt, h.far⟩
theorem RTB.drew (h : RTB w T a len cp zs q g c n D L now W) (k : Nat) : RTB w T a len cp zs q g c n D L now (W.drewN k) := h.below (below_drewN (Below.refl _ _) k)
theorem RTB.alloc (h : RTB w T a len cp zs q g c n D L now W) (o : Obj) : RTB w T a len cp zs q g c n D L now (W.alloc o) := h.below ((Below.refl _ _).alloc (Nat.le_refl _) _)
theorem RTB.read (h : RTB w T a len cp zs q g c n D L now W) (hg : W.grownBy W' (some (w.heap.size + 1))) (hr : IsRd W' (w.heap.size + 1) a len cp zs q') : RTB w T a len cp zs q' g c n D L now W' :=
  ⟨h.rt.read hg hr, h.t.of_block (hg.block T h.t.lt (by have := h.far; simp; omega)), h.far⟩
end

theorem IsCode.alloc {w : World} {a : Option Addr} {len : Nat} {zs : Nat → Int} (h : IsCode w a len zs) (o : Obj) : IsCode (w.alloc o) a len zs := h.below ((Below.refl _ _).alloc (Nat.le_refl _) _)


theorem pick_back {x y : Int} {n : Nat} (hx0 : 0 ≤ x) (hx1 : x < (n : Int) + 1) (hn : n ≤ 11) (hy0 : 0 ≤ y) (hy1 : y < 9) : -1 ≤ IntKind.i64.wrap (x - IntKind.i64.wrap (y.tdiv 8)) ∧ IntKind.i64.wrap (x - IntKind.i64.wrap (y.tdiv 8)) ≤ n := by
  have hd : y.tdiv 8 = y / 8 := by rw [Int.tdiv_eq_ediv_of_nonneg hy0]
  rw [hd, wrap_i64 (y / 8) (by omega) (by omega)]
  by_cases h : 0 ≤ x - y / 8
  · rw [wrap_i64 _ h (by omega)]; omega
  · have : x - y / 8 = -1 := by omega
    rw [this]
    have e : IntKind.i64.wrap (-1) = -1 := by decide
    rw [e]; omega

def DrawRPost (w : World) (e : Ending) (w' : World) : Prop := ∃ g c n D L now ino, e = .returned (.tuple #[trV (some ⟨g, 0, none⟩) n c now, .int .i64 ino]) ∧ DrawnT w g c n D L now w' ∧ -1 ≤ ino ∧ ino ≤ n
theorem drawRPost_mk {w : World} {g c n : Nat} {D : Nat → Nd} {L : Nat → Loc} {now ino : Int} {W : World} (h : DrawnT w g c n D L now W) (h0 : -1 ≤ ino) (h1 : ino ≤ n) : DrawRPost w (.returned (.tuple #[.agg #[.slice (some ⟨g, 0, none⟩) n c, .int .i64 now], .int .i64 ino])) W := ⟨g, c, n, D, L, now, ino, rfl, h, h0, h1⟩

end Go.Proofs.Ytoblndhmkehoaaa

/-
  What DrawDumpOf gives: a tree in new memory, bent or not, and a turn.
-/
namespace Go.Proofs.Ytoblndhmkehoaaa
open Go.RowKit Go.Deep
set_option linter.unusedVariables false

theorem l1Min_any (x y : Int) (w : World) : Calls Try.prog 23 #[.int .i64 x, .int .i64 y] w fun e w' => e = .returned (.int .i64 (if x < y then x else y)) ∧ w' = w := by
  by_cases h : x < y
  · have hb : decide (x < y) = true := by simp; omega
    go_enter Try.func23, Try.ntmps23
    go_wp2
    go_ret
    first | exact ⟨rfl, rfl⟩ | exact ⟨by simp [h], rfl⟩
  · have hb : decide (x < y) = false := by simp; omega
    go_enter Try.func23, Try.ntmps23
    go_wp2
    go_ret
    first | exact ⟨rfl, rfl⟩ | exact ⟨by simp [h], rfl⟩

theorem l1Max_any (x y : Int) (w : World) : Calls Try.prog 22 #[.int .i64 x, .int .i64 y] w fun e w' => e = .returned (.int .i64 (if x > y then x else y)) ∧ w' = w := by
  by_cases h : y < x
  · have hb : decide (y < x) = true := by simp; omega
    go_enter Try.func22, Try.ntmps22
    go_wp2
    go_ret
    first | exact ⟨rfl, rfl⟩ | exact ⟨by simp [h], rfl⟩
  · have hb : decide (y < x) = false := by simp; omega
    go_enter Try.func22, Try.ntmps22
    go_wp2
    go_ret
    first | exact ⟨rfl, rfl⟩ | exact ⟨by simp [h], rfl⟩

def DrawDPost (w : World) (e : Ending) (w' : World) : Prop := ∃ g c n D L now since, e = .returned (.tuple #[trV (some ⟨g, 0, none⟩) n c now, .int .i64 since]) ∧ DrawnT w g c n D L now w' ∧ -1 ≤ since ∧ since ≤ 21
theorem drawDPost_mk {w : World} {g c n : Nat} {D : Nat → Nd} {L : Nat → Loc} {now since : Int} {W : World} (h : DrawnT w g c n D L now W) (h0 : -1 ≤ since) (h1 : since ≤ 21) : DrawDPost w (.returned (.tuple #[.agg #[.slice (some ⟨g, 0, none⟩) n c, .int .i64 now], .int .i64 since])) W := ⟨g, c, n, D, L, now, since, rfl, h, h0, h1⟩

set_option maxRecDepth 100000 in
set_option maxHeartbeats 1000000 in
theorem drawDumpOf_any (w : World) (a : Option Addr) (len cap : Nat) (zs : Nat → Int) (hc : IsCode w a len zs) (hlen : len ≤ maxLen) (hcap : len ≤ cap) :
    Calls Try.prog 7 #[.slice a len cap] w (DrawDPost w) := by
  go_enter Try.func7, Try.ntmps7
  go_wp2_with fail
  refine (l11Open_any _ a len cap zs hlen hcap (hc.alloc _)).mono ?_
  rintro e w1 ⟨rfl, hb, len', hR⟩
  have es : (w.alloc (.cells #[.slice none 0 0, .int .i64 0] 25)).heap.size = w.heap.size + 1 := by simp
  rw [es] at hb hR ⊢
  have hl := hR.lt
  go_wp2_with fail
  refine (l2Bent_any w1 (w.heap.size + 1) a len' cap zs 0 hR (by omega)).mono ?_
  rintro e w2 ⟨g, c, n, D, L, now, q, rfl, hn0, hn1, hq, hd⟩
  have hTw : w.heap.size + 1 < w2.heap.size := by have := hd.grown.size; omega
  unfold trV
  have HF : Hid (RTB w w2.heap.size a len' cap zs q g c n D L now (w2.alloc (.cells #[.slice (some ⟨g, 0, none⟩) n c, .int .i64 now] 25))) := ⟨(RT.start hb hl hd hn0 hn1).below ((Below.refl _ _).alloc (Nat.le_refl _) _), Blk.new w2 _ _, hTw⟩
  clear hd hR hb
  go_wp2_with fail
  obtain ⟨T, hT⟩ : ∃ T, T = w2.heap.size := ⟨_, rfl⟩
  rw [← hT] at HF hTw ⊢
  refine wp_world (F := RTB w T a len' cap zs q g c n D L now) HF.out ?_
  clear HF hT w2
  intro W hW
  have hn11 := hW.rt.fair.few
  have hTl := hW.t.lt
  have t0 : W.cell? ⟨T, 0, none⟩ = some (.slice (some ⟨g, 0, none⟩) n c) := hW.t.cell 0
  have t1 : W.cell? ⟨T, 1, none⟩ = some (.int .i64 now) := hW.t.cell 1
  have hne : T ≠ w.heap.size := by omega
  have hne2 : w.heap.size ≠ T := by omega
  have hnw0 := hW.rt.now0
  have hnw1 := hW.rt.now1
  obtain ⟨m1, hm1⟩ : ∃ m1 : Int, m1 = if (20 : Int) < now then 20 else now := ⟨_, rfl⟩
  obtain ⟨m2, hm2⟩ : ∃ m2 : Int, m2 = if (0 : Int) > m1 then 0 else m1 := ⟨_, rfl⟩
  have hm20 : 0 ≤ m2 ∧ m2 ≤ 20 := by
    rw [hm2, hm1]
    split <;> split <;> omega
  have hwr : IntKind.i64.wrap (m2 + 3) = m2 + 3 := wrap_i64 _ (by omega) (by omega)
  have HM1 : Hid (∀ W', Calls Try.prog 23 #[.int .i64 20, .int .i64 now] W' fun e w' => e = .returned (.int .i64 m1) ∧ w' = W') := fun W' => by rw [hm1]; exact l1Min_any 20 now W'
  have HM2 : Hid (∀ W', Calls Try.prog 22 #[.int .i64 0, .int .i64 m1] W' fun e w' => e = .returned (.int .i64 m2) ∧ w' = W') := fun W' => by rw [hm2]; exact l1Max_any 0 m1 W'
  have HW : Hid _ := hW
  clear hW hm1 hm2
  go_region_held3 (fun W' => W'.cell? ⟨T, 0, none⟩ = some (.slice (some ⟨g, 0, none⟩) n c) ∧ W'.cell? ⟨T, 1, none⟩ = some (.int .i64 now)) (go_keep) (first
    | (go_at_call 23
       refine (HM1.out _).mono ?_
       rintro e w4 ⟨rfl, rfl⟩)
    | (go_at_call 22
       refine (HM2.out _).mono ?_
       rintro e w4 ⟨rfl, rfl⟩)
    | (go_at_call 21
       refine (pick_any (W.drewN 1) (w.heap.size + 1) a len' cap zs q (m2 + 3) (HW.out.drew 1).rt.rd (by omega) (by omega) (by omega)).mono ?_
       rintro e w5 ⟨x, rfl, hx0, hx1, hg5, hR5⟩
       have hW5 := (HW.out.drew 1).read hg5 hR5
       have V0 : w5.cell? ⟨T, 0, none⟩ = some (.slice (some ⟨g, 0, none⟩) n c) := hW5.t.cell 0
       have V1 : w5.cell? ⟨T, 1, none⟩ = some (.int .i64 now) := hW5.t.cell 1
       have rs0 : w5.cell? ⟨w.heap.size, 0, none⟩ = some (.slice none 0 0) := hW5.rt.res.cell 0
       have rs1 : w5.cell? ⟨w.heap.size, 1, none⟩ = some (.int .i64 0) := hW5.rt.res.cell 1
       have rf0 := hW5.rt.res.frozen 0
       have rf1 := hW5.rt.res.frozen 1))
  have hino : -1 ≤ IntKind.i64.wrap (x - 1) ∧ IntKind.i64.wrap (x - 1) ≤ 21 := by
    by_cases h : 0 ≤ x - 1
    · rw [wrap_i64 _ h (by omega)]; omega
    · have : x - 1 = -1 := by omega
      rw [this]
      have e : IntKind.i64.wrap (-1) = -1 := by decide
      rw [e]; omega
  generalize IntKind.i64.wrap (x - 1) = ino at hino ⊢
  have HE : Hid _ := hW5.rt.fin
  clear t0 t1 HW hg5 hR5 hW5 V0 V1 rs0 rs1 rf0 rf1
  go_wp2
  refine end_world (F := DEnd w w.heap.size g c n D L now) HE.out ?_
  clear HE
  rintro WF ⟨hr, hgr⟩
  have r0 := hr.cell 0
  have r1 := hr.cell 1
  simp at r0 r1
  exact bodyPost_ret (v := .tuple #[.agg #[.slice (some ⟨g, 0, none⟩) n c, .int .i64 now], .int .i64 ino]) (by simp [results, Try.results7, go_sem, r0, r1]) rfl (drawDPost_mk hgr hino.1 hino.2)
end Go.Proofs.Ytoblndhmkehoaaa

/-
  What DumpSame of the program answers.
-/
namespace Go.Proofs.Ytoblndhmkehoaaa
open Go.RowKit
set_option linter.unusedVariables false

set_option maxHeartbeats 1000000 in
theorem implItemSame_any (o o' : Int) (d d' : Nd) (l l' : Loc) (w : World) (hI : NdIn w d l) (hI' : NdIn w d' l') (hf : d.Fits) (hf' : d'.Fits) :
    Calls Try.prog 33 #[itV o d l, itV o' d' l'] w fun e w' => Below w.heap.size w w' ∧ e = .returned (.bool (sameIt o o' d d')) := by
  unfold itV
  cases hoo : (o == o') with
  | false =>
    have HX : Hid (false = sameIt o o' d d') := by show _ = _; unfold sameIt; rw [hoo]; rfl
    go_enter Try.func33, Try.ntmps33
    go_wp2_with fail
    go_ret
    exact ⟨((Below.refl _ _).alloc (Nat.le_refl _) _).alloc (by simp) _, ret_bool HX.out⟩
  | true =>
    have HX : Hid (d.same d' = sameIt o o' d d') := by show _ = _; unfold sameIt; rw [hoo]; rfl
    go_enter Try.func33, Try.ntmps33
    go_wp2_with fail
    refine at_world (F := New2 w _ _ _ _) (new2 w _ _ _ _) ?_
    rintro W ⟨hp, hp', hb, hs⟩
    refine (implNodeSame_any d d' l l' W (hI.below (Nat.le_refl _) hb) (hI'.below (Nat.le_refl _) hb) hf hf').mono ?_
    rintro e w1 ⟨hb1, rfl⟩
    have HB : Hid (Below w.heap.size w w1) := hb.trans (hb1.mono (by omega))
    clear hp hp' hb hs hb1
    rw [HX.out]
    go_wp2
    go_ret
    exact ⟨HB.out, rfl⟩

set_option maxHeartbeats 2000000 in
theorem equalItems_any (a a' : Option Addr) (n c m c' : Nat) (O P : Nat → Int) (D E : Nat → Nd) (L M : Nat → Loc) (w : World) (hS : IsIts w a n O D L) (hT : IsIts w a' m P E M) (hf : FitAll n D) (hf' : FitAll m E) (hn : n ≤ maxLen) (hm : m ≤ maxLen) :
    Calls Try.prog 32 #[.slice a n c, .slice a' m c', .func (Fn.func 33) #[] #[]] w fun e w' => Below w.heap.size w w' ∧ e = .returned (.bool (decide (n = m) && sameIts n O P D E)) := by
  unfold maxLen at hn hm
  by_cases hne : n = m
  · subst hne
    have hb : ((n : Int) != (n : Int)) = false := by simp
    go_enter Try.func32, Try.ntmps32
    go_wp2
    go_loopw [17] (fun i wr => ∃ k : Nat, k ≤ n ∧ i = .int .i64 k ∧ Below w.heap.size w wr ∧ sameIts k O P D E = true) (fun i _ => n - (intOf i).toNat)
    case atStart => exact ⟨0, Nat.zero_le _, rfl, Below.refl _ _, rfl⟩
    case round =>
      obtain ⟨k, hk, rfl, hbel, heq⟩ := hrel
      by_cases hlt : k < n
      · have hSr := hS.below (Nat.le_refl _) hbel
        have hTr := hT.below (Nat.le_refl _) hbel
        obtain ⟨b, off, rfl, hlt2, hc⟩ := hSr.at hlt
        obtain ⟨b', off', rfl, hlt2', hc'⟩ := hTr.at hlt
        obtain ⟨c0, c1, c2, c3, c4, c5, hI⟩ := hc k hlt
        obtain ⟨d0, d1, d2, d3, d4, d5, hI'⟩ := hc' k hlt
        have hlti : (k : Int) < (n : Int) := by omega
        have HE : Hid (sameIts k O P D E = true ∧ Below w.heap.size w wr ∧ NdIn wr (D k) (L k) ∧ NdIn wr (E k) (M k)) := ⟨heq, hbel, hI, hI'⟩
        clear hc hc' hSr hTr hbel heq hI hI'
        go_wp2_with fail
        refine at_world (F := New2 wr _ _ _ _) (new2 wr _ _ _ _) ?_
        rintro W ⟨hp, hp', hb', hs⟩
        refine (implItemSame_any (O k) (P k) (D k) (E k) (L k) (M k) W (HE.out.2.2.1.below (Nat.le_refl _) hb') (HE.out.2.2.2.below (Nat.le_refl _) hb') (hf k hlt) (hf' k hlt)).mono ?_
        rintro e w1 ⟨hb1, rfl⟩
        have HB : Hid (Below w.heap.size w w1) := HE.out.2.1.trans ((hb'.trans (hb1.mono (by omega))).mono HE.out.2.1.size)
        clear hp hp' hb' hs hb1 c0 c1 c2 c3 c4 c5 d0 d1 d2 d3 d4 d5
        cases hq : sameIt (O k) (P k) (D k) (E k) with
        | false =>
          have HQ : Hid (sameIt (O k) (P k) (D k) (E k) = false) := hq
          clear hq
          go_wp2
          go_ret
          exact ⟨HB.out, ret_bool (by rw [← sameIts_not n k O P D E hlt HQ.out]; simp)⟩
        | true =>
          have HQ : Hid (sameIt (O k) (P k) (D k) (E k) = true) := hq
          clear hq
          go_wp2
          go_roundw
          case rel => exact ⟨k + 1, by omega, by go_num, HB.out, sameIts_succ k O P D E HE.out.1 HQ.out⟩
          case measure => simp [intOf]; omega
      · have hkn : k = n := by omega
        have HK : Hid (k = n ∧ Below w.heap.size w wr ∧ sameIts k O P D E = true) := ⟨hkn, hbel, heq⟩
        clear hkn hbel heq
        go_wp2
        go_ret
        exact ⟨HK.out.2.1, ret_bool (by have := HK.out.2.2; rw [HK.out.1] at this; rw [this]; simp)⟩
  · have hb : ((n : Int) != (m : Int)) = true := by simp; omega
    go_enter Try.func32, Try.ntmps32
    go_wp2
    go_ret
    exact ⟨Below.refl _ _, ret_bool (by simp [hne])⟩

set_option maxHeartbeats 400000 in
theorem equalBools_any (a a' : Option Addr) (n c m c' : Nat) (Z Y : Nat → Bool) (w : World) (hS : IsBools w a n Z) (hT : IsBools w a' m Y) (hn : n ≤ maxLen) (hm : m ≤ maxLen) :
    Calls Try.prog 31 #[.slice a n c, .slice a' m c'] w fun e w' => (∃ q, w' = w.drewN q) ∧ e = .returned (.bool (decide (n = m) && eqB n Z Y)) := by
  unfold maxLen at hn hm
  by_cases hne : n = m
  · subst hne
    have hb : ((n : Int) != (n : Int)) = false := by simp
    go_enter Try.func31, Try.ntmps31
    go_wp2
    go_loopw [13] (fun i wr => ∃ k q : Nat, k ≤ n ∧ i = .int .i64 k ∧ wr = w.drewN q ∧ eqB k Z Y = true) (fun i _ => n - (intOf i).toNat)
    case atStart => exact ⟨0, 0, Nat.zero_le _, rfl, rfl, rfl⟩
    case round =>
      obtain ⟨k, q, hk, rfl, rfl, heq⟩ := hrel
      have HE : Hid (eqB k Z Y = true) := heq
      clear heq
      by_cases hlt : k < n
      · obtain ⟨b, off, rfl, hlt2, hc⟩ := hS.at hlt
        obtain ⟨b', off', rfl, hlt2', hc'⟩ := hT.at hlt
        have h1 := hc k hlt
        have h2 := hc' k hlt
        have hlti : (k : Int) < (n : Int) := by omega
        clear hc hc'
        by_cases hzy : Z k = Y k
        · have hzb : (!(Z k == Y k)) = false := by simp [hzy]
          have HZ : Hid (Z k = Y k) := hzy
          clear hzy
          go_wp2
          go_quiet (fail)
          go_wp2
          go_roundw
          case rel => exact ⟨k + 1, q + nq, by omega, by go_num, rfl, eqB_succ k Z Y HE.out HZ.out⟩
          case measure => simp [intOf]; omega
        · have hzb : (!(Z k == Y k)) = true := by simp [hzy]
          have HZ : Hid (¬ Z k = Y k) := hzy
          clear hzy
          go_wp2
          go_quiet (fail)
          go_wp2
          go_ret
          exact ⟨⟨q + nq, by simp⟩, ret_bool (by rw [← eqB_not n k Z Y hlt HZ.out]; simp)⟩
      · have hkn : k = n := by omega
        have HK : Hid (k = n) := hkn
        clear hkn
        go_wp2
        go_ret
        exact ⟨⟨q, rfl⟩, ret_bool (by rw [← HK.out, HE.out]; simp)⟩
  · have hb : ((n : Int) != (m : Int)) = true := by simp; omega
    go_enter Try.func31, Try.ntmps31
    go_wp2
    go_ret
    exact ⟨⟨0, rfl⟩, ret_bool (by simp [hne])⟩

set_option maxHeartbeats 2000000 in
theorem implDumpSame_any (d e : Dp) (l k : DLoc) (w : World) (hI : DpIn w d l) (hI' : DpIn w e k) (hf : d.Fits) (hf' : e.Fits) :
    Calls Try.prog 10 #[dpV d l, dpV e k] w fun r w' => Below w.heap.size w w' ∧ r = .returned (.bool (d.same e)) := by
  have hln := hf.ln
  have hln' := hf'.ln
  unfold dpV
  cases h1 : (d.since == e.since) with
  | false =>
    have HX : Hid (false = d.same e) := same_since h1
    go_enter Try.func10, Try.ntmps10
    go_wp2_with fail
    go_ret
    exact ⟨((Below.refl _ _).alloc (Nat.le_refl _) _).alloc (by simp) _, ret_bool HX.out⟩
  | true =>
  cases h2 : (d.date == e.date) with
  | false =>
    have HX : Hid (false = d.same e) := same_date h2
    go_enter Try.func10, Try.ntmps10
    go_wp2_with fail
    go_ret
    exact ⟨((Below.refl _ _).alloc (Nat.le_refl _) _).alloc (by simp) _, ret_bool HX.out⟩
  | true =>
  have HX : Hid (((decide (d.ln = e.ln) && eqB d.ln d.live e.live) && (decide (d.m = e.m) && sameIts d.m d.ino e.ino d.nd e.nd)) = d.same e) := by show _ = _; unfold Dp.same; rw [h1, h2]; rfl
  go_enter Try.func10, Try.ntmps10
  go_wp2_with fail
  refine at_world (F := New2 w _ _ _ _) (new2 w _ _ _ _) ?_
  rintro W ⟨hp, hp', hb, hs⟩
  refine (equalBools_any l.lA k.lA d.ln l.lc e.ln k.lc d.live e.live W (hI.live.below (Nat.le_refl _) hb) (hI'.live.below (Nat.le_refl _) hb) hln hln').mono ?_
  rintro r w1 ⟨⟨q, rfl⟩, rfl⟩
  have p3 : W.cell? ⟨w.heap.size, 3, none⟩ = some (.slice l.iA d.m l.ic) := hp.cell 3
  have q3 : W.cell? ⟨w.heap.size + 1, 3, none⟩ = some (.slice k.iA e.m k.ic) := hp'.cell 3
  have HB : Hid (Below w.heap.size w W) := hb
  clear hp hp' hb
  cases hq1 : (decide (d.ln = e.ln) && eqB d.ln d.live e.live) with
  | false =>
    have HQ : Hid ((decide (d.ln = e.ln) && eqB d.ln d.live e.live) = false) := hq1
    clear hq1
    go_wp2
    go_ret
    exact ⟨below_drewN HB.out _, ret_bool (by rw [← HX.out, HQ.out]; rfl)⟩
  | true =>
    have HQ : Hid ((decide (d.ln = e.ln) && eqB d.ln d.live e.live) = true) := hq1
    clear hq1
    go_wp2_with fail
    have hB2 := below_drewN HB.out q
    refine (equalItems_any l.iA k.iA d.m l.ic e.m k.ic d.ino e.ino d.nd e.nd l.L k.L (W.drewN q) (hI.items.below (Nat.le_refl _) hB2) (hI'.items.below (Nat.le_refl _) hB2) hf.nds hf'.nds hf.m hf'.m).mono ?_
    rintro r w2 ⟨hb2, rfl⟩
    have HB2 : Hid (Below w.heap.size w w2 ∧ (decide (d.m = e.m) && sameIts d.m d.ino e.ino d.nd e.nd) = d.same e) := ⟨hB2.trans (hb2.mono hB2.size), by rw [← HX.out, HQ.out]; rfl⟩
    clear hb2 hB2 HB p3 q3
    rw [HB2.out.2]
    go_wp2
    go_ret
    exact ⟨HB2.out.1, rfl⟩
end Go.Proofs.Ytoblndhmkehoaaa

/-
  For every code, FnDump answers true: of a drawn tree just the places that were turned since are kept, as they are, and which places there are; since its last turn nothing is; and the code reads afterwards as it read before. No condition.
-/
namespace Go.Proofs.Ytoblndhmkehoaaa.fnDump
open Go.ChangeShapes Go.WideShapes Go.ChangeAt Go.RowKit Go.Deep
set_option linter.unusedVariables false
set_option linter.unusedSimpArgs false

/-- All variables that hold trees and what is kept. -/
structure Vars (w : World) (XA X5 X7 : Nat) (a : Option Addr) (n c : Nat) (now : Int) (D : Nat → Nd) (L : Nat → Loc) (dA : Dp) (l5 l7 : DLoc) (W : World) : Prop where
  a : TVar XA a n c now D L W
  dv : DVar X5 dA l5 W
  wv : DVar X7 dA l7 W
  bel : Below w.heap.size w W

theorem Vars.below {w : World} {XA X5 X7 : Nat} {a : Option Addr} {n c : Nat} {now : Int} {D : Nat → Nd} {L : Nat → Loc} {dA : Dp} {l5 l7 : DLoc} {W W' : World} (h : Vars w XA X5 X7 a n c now D L dA l5 l7 W) (hb : Below W.heap.size W W') : Vars w XA X5 X7 a n c now D L dA l5 l7 W' :=
  ⟨h.a.below hb, h.dv.below hb, h.wv.below hb, h.bel.trans (hb.mono h.bel.size)⟩

set_option maxRecDepth 100000 in
set_option maxHeartbeats 8000000 in
theorem walk (a0 : Option Addr) (len0 cap0 : Nat) (zs0 : Nat → Int) (w : World) (hC : IsCode w a0 len0 zs0) (hl : len0 ≤ maxLen) (hp : len0 ≤ cap0) :
    Calls Try.prog 3 #[.slice a0 len0 cap0] w fun e w' => e = .returned (.bool true) ∧ Below w.heap.size w w' := by
  have hl' := hl
  unfold maxLen at hl'
  by_cases hbig : (1048576 : Int) < len0
  · go_enter Try.func3, Try.ntmps3
    go_wp2
    go_ret
    exact ⟨rfl, Below.refl _ _⟩
  · go_enter Try.func3, Try.ntmps3
    go_wp2_with fail
    refine (drawDumpOf_any w a0 len0 cap0 zs0 hC hl hp).mono ?_
    rintro e w1 ⟨g, c, n, D, L, now, since, rfl, hd, hs0, hs1⟩
    unfold trV
    obtain ⟨dA, okA, hsA, hiA, hvA, hnA, hanA⟩ := dump_ans2 n D now since hd.fair.fits hd.fair.size
    have HNO : Hid (okA = false → dA.ln = 0) := fun h => by rw [hnA h]; rfl
    have HA : Hid (DpSmall dA ∧ (okA = true ↔ TreeGood n D now ∧ 0 ≤ since ∧ since ≤ now) ∧ (okA = true → dA = dpOf n D now since)) := ⟨hsA, hiA, hvA⟩
    have HAA : Hid _ := hanA
    have HFT : Hid (Fair n D ∧ (0 ≤ now ∧ now ≤ 1001)) := ⟨hd.fair, hd.now0, hd.now1⟩
    have HD : Hid _ := hd
    clear hd hsA hiA hvA hanA hnA
    go_wp2_with fail
    obtain ⟨XA, hXA⟩ : ∃ X, X = w1.heap.size := ⟨_, rfl⟩
    rw [← hXA]
    have h2 : TVar XA (some ⟨g, 0, none⟩) n c now D L (w1.alloc (.cells #[.slice (some ⟨g, 0, none⟩) n c, .int .i64 now] 25)) ∧ Below w.heap.size w (w1.alloc (.cells #[.slice (some ⟨g, 0, none⟩) n c, .int .i64 now] 25)) := by
      obtain ⟨n0, n2, n3⟩ := new1 w1 #[.slice (some ⟨g, 0, none⟩) n c, .int .i64 now] 25
      rw [← hXA] at n0
      have h3 := HD.out.below n2
      exact ⟨⟨n0, h3.nds⟩, h3.bel⟩
    refine at_world (F := fun W => TVar XA (some ⟨g, 0, none⟩) n c now D L W ∧ Below w.heap.size w W) h2 ?_
    clear h2 hXA HD w1
    rintro W2 ⟨ha2, hB2⟩
    have hn64 : In64 now := by have := HFT.out.2; unfold In64; omega
    refine (implDumpOf_any (some ⟨g, 0, none⟩) n c now since D L W2 ha2.i HFT.out.1.fits HFT.out.1.len HFT.out.1.size hn64).mono ?_
    intro e w3 hpost
    obtain ⟨hb3, l5, rfl, hod3⟩ := HAA.out _ _ _ hpost
    unfold dpV
    have ha3 := ha2.below hb3
    have hlA := ha3.v.lt
    have hneA : XA ≠ w3.heap.size := by omega
    obtain ⟨a0', a1'⟩ := ha3.cells
    have H3 : Hid (TVar XA (some ⟨g, 0, none⟩) n c now D L w3 ∧ Below w.heap.size w w3 ∧ DpIn w3 dA l5) := ⟨ha3, hB2.trans (hb3.mono hB2.size), hod3.dpIn⟩
    clear ha2 hB2 hpost hb3 hod3 ha3
    go_wp2_with fail
    refine at_world (F := New1 w3 (dV dA l5) 31) (new1 w3 _ _) ?_
    rintro W4 ⟨hv4, hb4, hs4⟩
    refine (specDumpOf_any (some ⟨g, 0, none⟩) n c now since D L W4 (H3.out.1.below hb4).i HFT.out.1.fits HFT.out.1.len HFT.out.1.size).mono ?_
    intro e w5 hpost
    obtain ⟨hb5, l7, rfl, hod5⟩ := HAA.out _ _ _ hpost
    unfold dpV
    have hb35 : Below w3.heap.size w3 w5 := hb4.trans (hb5.mono (by omega))
    have h5d := (DVar.new H3.out.2.2 hv4 hb4).below hb5
    have H5 : Hid (TVar XA (some ⟨g, 0, none⟩) n c now D L w5 ∧ Below w.heap.size w w5 ∧ DVar w3.heap.size dA l5 w5 ∧ DpIn w5 dA l7) := ⟨H3.out.1.below hb35, H3.out.2.1.trans (hb35.mono H3.out.2.1.size), h5d, hod5.dpIn⟩
    obtain ⟨u0, u1, u2, u3⟩ := h5d.cells
    have hl5 := h5d.v.lt
    have hne5 : w3.heap.size ≠ w5.heap.size := by omega
    clear H3 hv4 hb4 hs4 hb5 hb35 hod5 hpost h5d a0' a1' hlA hneA
    generalize w3.heap.size = X5 at *
    have hok : (!(okA == okA)) = false := by cases okA <;> rfl
    have hok2 : (okA == okA) = true := by cases okA <;> rfl
    go_wp2_with fail
    obtain ⟨X7, hX7⟩ : ∃ X, X = w5.heap.size := ⟨_, rfl⟩
    have H8 : Hid (Vars w XA X5 X7 (some ⟨g, 0, none⟩) n c now D L dA l5 l7 (w5.alloc (.cells (dV dA l7) 31))) := by
      obtain ⟨hv8, hb8, hs8⟩ := new1 w5 (dV dA l7) 31
      exact ⟨H5.out.1.below hb8, H5.out.2.2.1.below hb8, by rw [hX7]; exact DVar.new H5.out.2.2.2 hv8 hb8, H5.out.2.1.trans (hb8.mono H5.out.2.1.size)⟩
    rw [← hX7]
    refine at_world (F := Vars w XA X5 X7 (some ⟨g, 0, none⟩) n c now D L dA l5 l7) H8.out ?_
    clear H8 H5 hX7 u0 u1 u2 u3 hl5 hne5 W2 W4
    clear w3 w5
    intro W8 hV8
    refine (implDumpSame_any dA dA l5 l7 W8 hV8.dv.i hV8.wv.i HA.out.1.fits HA.out.1.fits).mono ?_
    rintro e w9 ⟨hb9, rfl⟩
    rw [Dp.same_self]
    have HV9 : Hid (Vars w XA X5 X7 (some ⟨g, 0, none⟩) n c now D L dA l5 l7 w9) := hV8.below hb9
    clear hV8 hb9
    obtain ⟨u0, u1, u2, u3⟩ := HV9.out.dv.cells
    obtain ⟨v0, v1, v2, v3⟩ := HV9.out.wv.cells
    cases okA with
    | false =>
      have z1 : ((dA.ln : Int) == 0) = true := by rw [HNO.out rfl]; rfl
      have HE : Hid (Below w.heap.size w w9) := HV9.out.bel
      clear HA HAA HNO HV9
      go_wp2
      go_ret
      exact ⟨by simp, HE.out⟩
    | true =>
      have HG : Hid (TreeGood n D now ∧ dA = dpOf n D now since ∧ 0 ≤ since ∧ since ≤ now) := ⟨(HA.out.2.1.1 rfl).1, HA.out.2.2 rfl, (HA.out.2.1.1 rfl).2⟩
      have hm10 : dA.m ≤ 10 := HA.out.1.m
      have hln : Hid (dA.ln = n) := by show _ = _; rw [HG.out.2.1]; rfl
      have HM : Hid (dA.m = (selTo D since n).length) := by show _ = _; rw [HG.out.2.1]; rfl
      have HN : Hid (∀ i, dA.nd i = D ((selTo D since n).getD i 0) ∧ dA.ino i = (((selTo D since n).getD i 0 : Nat) : Int)) := fun i => by rw [HG.out.2.1]; exact ⟨rfl, rfl⟩
      have HLV : Hid (dA.live = fun i => (D i).kind != 0) := by show _ = _; rw [HG.out.2.1]; rfl
      have HAF : Hid dA.Fits := HA.out.1.fits
      have hn11 : n ≤ 11 := HFT.out.1.few
      clear HA HAA hok hok2 v0 v1 v2 v3 HNO
      go_wp2_with fail
      clear u0 u1 u2 u3
      go_loopw [9, 10] (fun kk i wr => ∃ j : Nat, j ≤ n ∧ i = .int .i64 j ∧ kk = .int .i64 ((selTo D since j).length : Nat) ∧ Vars w XA X5 X7 (some ⟨g, 0, none⟩) n c now D L dA l5 l7 wr) (fun _ i _ => n - (intOf i).toNat)
      case atStart => exact ⟨0, Nat.zero_le _, rfl, rfl, HV9.out⟩
      case round =>
        obtain ⟨j, hj, rfl, rfl, hV⟩ := hrel
        have hkl := selTo_len D since j
        obtain ⟨kq, hkq⟩ : ∃ kq, kq = (selTo D since j).length := ⟨_, rfl⟩
        rw [← hkq] at hkl ⊢
        obtain ⟨_, p1, p2, p3⟩ := hV.dv.cells
        obtain ⟨a0', a1'⟩ := hV.a.cells
        have HV : Hid (Vars w XA X5 X7 (some ⟨g, 0, none⟩) n c now D L dA l5 l7 wr) := hV
        have HKQ : Hid (kq = (selTo D since j).length) := hkq
        clear hkq
        by_cases hlt : j < n
        · have hlti : (j : Int) < (n : Int) := by omega
          obtain ⟨b, off, hA, hbl, hc⟩ := hV.a.i.at hlt
          obtain ⟨rfl, rfl⟩ : g = b ∧ 0 = off := by simpa using hA
          obtain ⟨c0, c1, c2, c3, c4, hNd⟩ := hc j hlt
          rw [Nat.zero_add] at c0 c1 c2 c3 c4
          obtain ⟨b2, off2, hA2, hbl2, hc2⟩ := hV.dv.i.live.at (show j < dA.ln by rw [hln.out]; exact hlt)
          have e2 := hc2 j (by rw [hln.out]; exact hlt)
          rw [HLV.out] at e2
          rw [hA2] at p2
          have hljn : (j : Int) < (dA.ln : Int) := by rw [hln.out]; omega
          clear hc hA hc2 hA2
          by_cases hk : (D j).kind = 0
          · have hk1 : ((D j).kind == 0) = true := by simp [hk]
            have hk2 : ((D j).kind != 0) = false := by simp [hk]
            simp only [hk2] at e2
            have HS : Hid (selTo D since (j + 1) = selTo D since j) := selTo_no (by unfold turnedB; rw [hk2]; rfl)
            clear hk hk2 hV hNd p3
            go_wp2
            go_roundw
            case rel => exact ⟨j + 1, by omega, by go_num, by rw [HS.out, ← HKQ.out], HV.out⟩
            case measure => simp [intOf]; omega
          · have hk1 : ((D j).kind == 0) = false := by simp [hk]
            have hk2 : ((D j).kind != 0) = true := by simp [hk]
            simp only [hk2] at e2
            by_cases ht : (D j).turn ≤ since
            · have ht1 : decide ((D j).turn ≤ since) = true := by simp; omega
              have HS : Hid (selTo D since (j + 1) = selTo D since j) := selTo_no (by unfold turnedB; rw [decide_eq_false (by omega)]; simp)
              clear hk hk2 hV hNd p3 ht
              go_wp2
              go_roundw
              case rel => exact ⟨j + 1, by omega, by go_num, by rw [HS.out, ← HKQ.out], HV.out⟩
              case measure => simp [intOf]; omega
            · have ht1 : decide ((D j).turn ≤ since) = false := by simp; omega
              have htb : turnedB D since j = true := by unfold turnedB; rw [hk2, decide_eq_true (by omega)]; rfl
              have HS : Hid (selTo D since (j + 1) = selTo D since j ++ [j]) := selTo_yes htb
              obtain ⟨hs1', hs2'⟩ := sel_at (D := D) (since := since) hlt htb
              rw [← HKQ.out] at hs1' hs2'
              have hkm : kq < dA.m := by rw [HM.out]; exact hs1'
              obtain ⟨b6, off6, hA6, hbl6, hc6⟩ := hV.dv.i.items.at hkm
              obtain ⟨d0, d1, d2, d3, d4, d5, hNd6⟩ := hc6 kq hkm
              have hnk := HN.out kq
              rw [hs2'] at hnk
              rw [hnk.2] at d0
              rw [hnk.1] at d1 d2 d3 d4 d5 hNd6
              rw [hA6] at p3
              have hkmi : (kq : Int) < (dA.m : Int) := by omega
              have hge : decide ((dA.m : Int) ≤ (kq : Int)) = false := by simp; omega
              have hge2 : decide (dA.m ≤ kq) = false := by simp; omega
              have hFj : (D j).Fits := HFT.out.1.fits j hlt
              have I1 : Hid (∀ q : Lat wr.heap.size wr, Calls Try.prog 11 #[.agg #[.int .i64 (D j).kind, .string (D j).text, .slice (l5.L kq).nA (D j).nn (l5.L kq).nc, .slice (l5.L kq).kA (D j).kn (l5.L kq).kc, .int .i64 (D j).turn], .agg #[.int .i64 (D j).kind, .string (D j).text, .slice (L j).nA (D j).nn (L j).nc, .slice (L j).kA (D j).kn (L j).kc, .int .i64 (D j).turn]] q.val fun e w'' => e = .returned (.bool true) ∧ ∃ m : Lat wr.heap.size wr, w'' = m.val) := fun q =>
                Calls.lat_of (implNodeSame_any (D j) (D j) (l5.L kq) (L j) q.val (hNd6.below (Nat.le_refl _) q.bel) (hNd.below (Nat.le_refl _) q.bel) hFj hFj) (fun e w' h => ⟨by rw [h.2, Nd.same_self], h.1.mono q.bel.size⟩)
              have TA0 := Lat.cell (B := wr.heap.size) a0' HV.out.a.v.lt
              have TP3 := Lat.cell (B := wr.heap.size) p3 HV.out.dv.v.lt
              have TC0 := Lat.cell (B := wr.heap.size) c0 hbl
              have TC1 := Lat.cell (B := wr.heap.size) c1 hbl
              have TC2 := Lat.cell (B := wr.heap.size) c2 hbl
              have TC3 := Lat.cell (B := wr.heap.size) c3 hbl
              have TC4 := Lat.cell (B := wr.heap.size) c4 hbl
              have TD0 := Lat.cell (B := wr.heap.size) d0 hbl6
              have TD1 := Lat.cell (B := wr.heap.size) d1 hbl6
              have TD2 := Lat.cell (B := wr.heap.size) d2 hbl6
              have TD3 := Lat.cell (B := wr.heap.size) d3 hbl6
              have TD4 := Lat.cell (B := wr.heap.size) d4 hbl6
              have TD5 := Lat.cell (B := wr.heap.size) d5 hbl6
              have zz : ((j : Int) != (j : Int)) = false := by simp
              clear hk hk2 hV hNd ht htb hs1' hs2' hc6 hA6 hnk hNd6 hFj
              go_wp2_with fail
              refine wp_region_lat (B := wr.heap.size) (w0 := wr) (by kernel_rfl) (by kernel_rfl) (Below.refl _ _) ?_
              repeat (go_big_quiet_step (first | with_reducible exact I1.out _))
              refine wpQuiet_nil ?_
              rintro _ ⟨nq, rfl⟩
              have HN2 : Hid (Vars w XA X5 X7 (some ⟨g, 0, none⟩) n c now D L dA l5 l7 nq.val) := HV.out.below nq.bel
              clear I1 TA0 TP3 TC0 TC1 TC2 TC3 TC4 TD0 TD1 TD2 TD3 TD4 TD5 c0 c1 c2 c3 c4 d0 d1 d2 d3 d4 d5 e2 p1 p2 p3 a0' a1'
              go_wp2
              go_roundw
              case rel => exact ⟨j + 1, by omega, by go_num, by rw [HS.out, List.length_append, ← HKQ.out]; go_num, HN2.out⟩
              case measure => simp [intOf]; omega
        · have hje : ¬ (j : Int) < (n : Int) := by omega
          obtain ⟨dL, okL, hsL, hiL, hvL, hnL, hanL⟩ := dump_ans2 n D now now HFT.out.1.fits HFT.out.1.size
          obtain rfl : okL = true := hiL.2 ⟨HG.out.1, by have := HG.out.1.begun; omega, Int.le_refl _⟩
          have HLm : Hid (dL.m = 0) := by show _ = _; rw [hvL rfl]; show (selTo D now n).length = 0; rw [sel_now HG.out.1]; rfl
          have HAL : Hid _ := hanL
          have HKM : Hid (kq = dA.m) := by show _ = _; rw [HM.out, HKQ.out, show j = n by omega]
          clear hsL hiL hvL hnL hanL hlt hV p1 p2 p3
          go_wp2_with fail
          refine (implDumpOf_any (some ⟨g, 0, none⟩) n c now now D L wr HV.out.a.i HFT.out.1.fits HFT.out.1.len HFT.out.1.size hn64).mono ?_
          intro e w10 hpost
          obtain ⟨hb10, lL, rfl, hodL⟩ := HAL.out _ _ _ hpost
          unfold dpV
          have hV10 := HV.out.below hb10
          obtain ⟨q0, q1, q2, q3⟩ := hV10.dv.cells
          have hdl := hV10.dv.v.lt
          have hne : X5 ≠ w10.heap.size := by omega
          have H10 : Hid (Vars w XA X5 X7 (some ⟨g, 0, none⟩) n c now D L dA l5 l7 w10 ∧ DpIn w10 dL lL) := ⟨hV10, hodL.dpIn⟩
          have z1 : ((kq : Int) == (dA.m : Int)) = true := by rw [HKM.out]; simp
          have z2 : ((dL.m : Int) == 0) = true := by rw [HLm.out]; rfl
          have HOK : Hid (dA.ok = true) := by show _ = _; rw [HG.out.2.1]; exact dpOf_ok HG.out.1 HG.out.2.2.1 HG.out.2.2.2
          clear hV10 hb10 hodL hpost a0' a1'
          go_wp2_with fail
          refine at_world (F := New1 w10 (dV dL lL) 31) (new1 w10 _ _) ?_
          rintro W11 ⟨hv11, hb11, hs11⟩
          have hV11 := H10.out.1.below hb11
          have hL11 := DVar.new H10.out.2 hv11 hb11
          refine (implDumpOk_any dA l5 W11 hV11.dv.i HAF.out).mono ?_
          rintro e w12 ⟨hb12, rfl⟩
          rw [HOK.out]
          obtain ⟨_, _, _, y3⟩ := (hL11.below hb12).cells
          have HE : Hid (Below w.heap.size w w12) := (hV11.below hb12).bel
          clear hV11 hL11 hb12 hv11 hb11 hs11 H10 q0 q1 q2 q3
          go_wp2
          go_ret
          exact ⟨by simp, HE.out⟩

set_option maxRecDepth 100000 in
theorem lifted (os : Os) (started : os.Started) (H : Type) (enc : TypeId × Value → H) :
    ReturnsInHanded {} Try.checked os 3 .any (Rows.fnDumpSpec.pre6 enc Try.prog Try.f3 Rows.fnDumpRow.domain false) (Rows.fnDumpSpec.post enc Try.prog Try.f3 false true false false) := by
  refine returnsInHanded_of_change (C := Try.checked) own started (by kernel_rfl) Try.func3
    (ChangeSpec.witness6 (enc := enc) (C := Try.checked) false ⟨#[], #[.slice none 0 0], []⟩ 8 (by kernel_rfl) (by kernel_rfl) (by kernel_rfl) (by kernel_rfl)) ?_
  intro W base args ds gs before hval0 hW hcnd _
  have hval : ∀ (j : Nat) t v, Try.f3.params[j]? = some t → args[j]? = some v → Value.okWide Try.prog W .any base t v := hval0
  have hW' := hW
  obtain ⟨p, q, hA0, hV, rfl, hfz, hnd⟩ := hW
  have hA : DataW.TrodAll enc Try.prog W 0 (fun _ => true) true Try.f3.params.toList args.toList ds p := hA0
  rw [Try.params3] at hA hval
  obtain ⟨v0, vs0, d0, ds0, p0, q0, hargs, rfl, rfl, h0, r0⟩ := trodAll_cons hA
  obtain ⟨rfl, rfl, rfl⟩ := trodAll_nil r0
  obtain rfl : args = #[v0] := by cases args; simp_all
  obtain ⟨rfl, rfl⟩ := trodVars_none hV
  obtain ⟨a0, len0, cap0, rfl⟩ := okWide_slice Try.underlying22 (hval 0 22 v0 rfl rfl)
  have k0 := h0
  have lt0 : ∀ x ∈ p0, x.block < W.heap.size := by obtain ⟨m, hm⟩ := k0; exact DataW.trod_lt m _ _ _ hm
  obtain ⟨zs0, hC0, hl0, hp0⟩ := openCode h0
  clear hA0 hval0
  refine (walk a0 len0 cap0 zs0 W hC0 hl0 hp0).mono fun e W' ⟨he, bel⟩ => ?_
  subst he
  exact ⟨_, rfl, _, _, _, [], _, [], hW', trodAll_mk1 (shut_bool Try.underlying4 _), (trodAll_cons_mk (Below.trod laidOut (by kernel_rfl) (of_decide_eq_true (by kernel_rfl)) k0 bel lt0) trodAll_mk0), rfl, bel.frame _, fun h => by cases h⟩

theorem over : Rows.fnDumpRow.holds Try.pinned (OpenSpec.ofChange Rows.fnDumpSpec) :=
  OpenClaim.holds_of_wide 3 Try.f3 rfl rfl rfl rfl rfl rfl rfl ⟨rfl, rfl, rfl, rfl, rfl⟩ rfl rfl rfl rfl rfl (by kernel_rfl) Try.func3 (by kernel_rfl)
    (of_decide_eq_true (by kernel_rfl)) (by unfold Func.isWrapper; first | (rw [if_pos (by decide +kernel)]; kernel_rfl) | (rw [if_neg (by decide +kernel)]; exact ⟨rfl, rfl⟩))
    (fun os started H enc _ => lifted os started H enc)
end Go.Proofs.Ytoblndhmkehoaaa.fnDump

namespace Go.Proofs.Ytoblndhmkehoaaa
theorem fnDump_holds : Rows.FnDumpSaid := fnDump.over
end Go.Proofs.Ytoblndhmkehoaaa
