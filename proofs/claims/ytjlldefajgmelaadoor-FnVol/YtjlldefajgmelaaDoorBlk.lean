/-
  A block of memory and what it holds, cell by cell: plain facts.
-/
import Derived.Test.YtjlldefajgmelaaDoorIntsBase
namespace Go.Proofs.YtjlldefajgmelaaDoor
open Go.RowKit Go.Deep
set_option linter.unusedVariables false

/-- Block b holds these cells, none frozen. -/
def Blk (w : World) (b : Nat) (c : Array Value) (t : TypeId) : Prop := w.heap[b]? = some (.cells c t (0, 0))

theorem Blk.cell {w : World} {b : Nat} {c : Array Value} {t : TypeId} (h : Blk w b c t) (i : Nat) : w.cell? ⟨b, i, none⟩ = c[i]? := by
  unfold Blk at h
  simp [World.cell?, h]

theorem Blk.frozen {w : World} {b : Nat} {c : Array Value} {t : TypeId} (h : Blk w b c t) (i : Nat) : w.frozen? ⟨b, i, none⟩ = false := by
  unfold Blk at h
  simp [World.frozen?, h]

theorem Blk.lt {w : World} {b : Nat} {c : Array Value} {t : TypeId} (h : Blk w b c t) : b < w.heap.size := (Array.getElem?_eq_some_iff.1 h).1

theorem Blk.of_block {w w' : World} {b : Nat} {c : Array Value} {t : TypeId} (h : Blk w b c t) (e : w'.heap[b]? = w.heap[b]?) : Blk w' b c t := e.trans h

theorem Blk.new (w : World) (c : Array Value) (t : TypeId) : Blk (w.alloc (.cells c t)) w.heap.size c t := blk_alloc_new _ _

theorem Blk.alloc {w : World} {b : Nat} {c : Array Value} {t : TypeId} (h : Blk w b c t) (o : Obj) : Blk (w.alloc o) b c t := h.of_block (blk_alloc_lt _ _ _ h.lt)

theorem Blk.below {w w' : World} {b : Nat} {c : Array Value} {t : TypeId} (h : Blk w b c t) {B : Nat} (hb : Below B w w') (hB : b < B) : Blk w' b c t := h.of_block (hb.block b hB)

theorem Blk.set {w : World} {b : Nat} {c : Array Value} {t : TypeId} (h : Blk w b c t) (i : Nat) (v : Value) : Blk (w.setCell ⟨b, i, none⟩ v) b (c.setIfInBounds i v) t := by
  unfold Blk at *
  simp [World.setCell, Array.getElem?_modify, h]

theorem Blk.setOther {w : World} {b : Nat} {c : Array Value} {t : TypeId} (h : Blk w b c t) {a : Addr} (ha : b ≠ a.block) (v : Value) : Blk (w.setCell a v) b c t := h.of_block (blk_setCell_other _ _ _ _ ha)

theorem Blk.off {w : World} {b : Nat} {c : Array Value} {t : TypeId} (h : Blk w b c t) {b' i : Nat} (v : Value) (hb : b ≠ b') : Blk (w.setCell ⟨b', i, none⟩ v) b c t := h.setOther (a := ⟨b', i, none⟩) hb v

theorem bel_put {B : Nat} {a w : World} (h : Below B a w) {b i : Nat} (v : Value) (hb : B ≤ b) : Below B a (w.setCell ⟨b, i, none⟩ v) := h.setCell (p := ⟨b, i, none⟩) hb v

theorem IsInts.off {w : World} {b' off' n : Nat} {Z : Nat → Int} (h : IsInts w (some ⟨b', off', none⟩) n Z) {b i : Nat} (v : Value) (hb : b' ≠ b) : IsInts (w.setCell ⟨b, i, none⟩ v) (some ⟨b', off', none⟩) n Z := by
  rcases h with h | ⟨b0, o0, ha, hlt, hc⟩
  · exact Or.inl h
  · cases ha
    exact Or.inr ⟨b', off', rfl, by simpa [World.setCell] using hlt, fun i hi => by rw [← hc i hi]; exact World.cell?_of_block (blk_setCell_other _ _ _ _ hb)⟩

theorem IsStrs.off {w : World} {b' off' n : Nat} {S : Nat → ByteArray} (h : IsStrs w (some ⟨b', off', none⟩) n S) {b i : Nat} (v : Value) (hb : b' ≠ b) : IsStrs (w.setCell ⟨b, i, none⟩ v) (some ⟨b', off', none⟩) n S := by
  rcases h with h | ⟨b0, o0, ha, hlt, hc⟩
  · exact Or.inl h
  · cases ha
    exact Or.inr ⟨b', off', rfl, by simpa [World.setCell] using hlt, fun i hi => by rw [← hc i hi]; exact World.cell?_of_block (blk_setCell_other _ _ _ _ hb)⟩

/-- A call is walked at a world of which no more is said than this. -/
theorem at_world {P : Program} {f : FuncId} {args : Array Value} {K : Ending → World → Prop} {F : World → Prop} {w : World} (h : F w) (g : ∀ W, F W → Calls P f args W K) : Calls P f args w K := g w h

/-- .. and so is a body's end. -/
theorem end_world {P : Program} {fn : Func} {R : Ending → World → Prop} {e : Exit} {a : Act} {F : World → Prop} {w : World} (h : F w) (g : ∀ W, F W → bodyPost P fn R e a W) : bodyPost P fn R e a w := g w h

/-- One new block. -/
structure New1 (w : World) (c0 : Array Value) (t0 : TypeId) (W : World) : Prop where
  b0 : Blk W w.heap.size c0 t0
  bel : Below w.heap.size w W
  size : W.heap.size = w.heap.size + 1

/-- Two new blocks. -/
structure New2 (w : World) (c0 : Array Value) (t0 : TypeId) (c1 : Array Value) (t1 : TypeId) (W : World) : Prop where
  b0 : Blk W w.heap.size c0 t0
  b1 : Blk W (w.heap.size + 1) c1 t1
  bel : Below w.heap.size w W
  size : W.heap.size = w.heap.size + 2

/-- Three new blocks. -/
structure New3 (w : World) (c0 : Array Value) (t0 : TypeId) (c1 : Array Value) (t1 : TypeId) (c2 : Array Value) (t2 : TypeId) (W : World) : Prop where
  b0 : Blk W w.heap.size c0 t0
  b1 : Blk W (w.heap.size + 1) c1 t1
  b2 : Blk W (w.heap.size + 1 + 1) c2 t2
  bel : Below w.heap.size w W
  size : W.heap.size = w.heap.size + 3

theorem new1 (w : World) (c0 : Array Value) (t0 : TypeId) : New1 w c0 t0 (w.alloc (.cells c0 t0)) := ⟨Blk.new w c0 t0, (Below.refl _ _).alloc (Nat.le_refl _) _, by simp⟩

theorem new2 (w : World) (c0 : Array Value) (t0 : TypeId) (c1 : Array Value) (t1 : TypeId) : New2 w c0 t0 c1 t1 ((w.alloc (.cells c0 t0)).alloc (.cells c1 t1)) := by
  have h1 : (w.alloc (.cells c0 t0)).heap.size = w.heap.size + 1 := by simp
  refine ⟨(Blk.new w c0 t0).alloc _, ?_, ((Below.refl _ _).alloc (Nat.le_refl _) _).alloc (by omega) _, by simp⟩
  have := Blk.new (w.alloc (.cells c0 t0)) c1 t1
  rwa [h1] at this

theorem new3 (w : World) (c0 : Array Value) (t0 : TypeId) (c1 : Array Value) (t1 : TypeId) (c2 : Array Value) (t2 : TypeId) : New3 w c0 t0 c1 t1 c2 t2 (((w.alloc (.cells c0 t0)).alloc (.cells c1 t1)).alloc (.cells c2 t2)) := by
  obtain ⟨h0, h1, hb, hs⟩ := new2 w c0 t0 c1 t1
  refine ⟨h0.alloc _, h1.alloc _, ?_, hb.alloc (by omega) _, by simp⟩
  have := Blk.new ((w.alloc (.cells c0 t0)).alloc (.cells c1 t1)) c2 t2
  rwa [hs] at this
end Go.Proofs.YtjlldefajgmelaaDoor
