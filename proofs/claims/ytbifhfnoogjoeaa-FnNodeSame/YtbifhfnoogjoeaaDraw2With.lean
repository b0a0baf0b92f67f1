/-
  What l2With does: a directory with a name more, in new memory.
-/
import Derived.Test.YtbifhfnoogjoeaaTreeMem
import Derived.Deep.RegionHeld3
import Derived.Deep.AppendLies
import Derived.Laws.Cover1
namespace Go.Proofs.Ytbifhfnoogjoeaa
open Go.RowKit Go.Deep
set_option linter.unusedVariables false

/-- Numbers, as cells. -/
def intv (L : List Int) : List Value := L.map (Value.int .i64)
theorem intv_length (L : List Int) : (intv L).length = L.length := by simp [intv]
theorem intv_append (L M : List Int) : intv L ++ intv M = intv (L ++ M) := by simp [intv]
theorem intv_one (L : List Int) : ∀ u ∈ intv L, u.oneCell' = true := by
  intro u hu
  simp only [intv, List.mem_map] at hu
  obtain ⟨s, _, rfl⟩ := hu
  rfl

/-- The cells of a place. -/
def ndA (d : Nd) (l : Loc) : Array Value := #[.int .i64 d.kind, .string d.text, .slice l.nA d.nn l.nc, .slice l.kA d.kn l.kc, .int .i64 d.turn]
/-- The cells of a directory that is being made. -/
def outA (kind turn : Int) (vN vK : Value) : Array Value := #[.int .i64 kind, .string ByteArray.empty, vN, vK, .int .i64 turn]

/-- What is known within l2With. -/
structure WI (w : World) (d : Nd) (l : Loc) (NL : List ByteArray) (KL : List Int) (vN vK : Value) (W : World) : Prop where
  p : Blk W w.heap.size (ndA d l) 36
  r : Blk W (w.heap.size + 1) (outA 0 0 (.slice none 0 0) (.slice none 0 0)) 36
  o : Blk W (w.heap.size + 2) (outA d.kind d.turn vN vK) 36
  names : W.ownsRow (w.heap.size + 3) 9 1 vN NL.length (strv NL)
  kids : W.ownsRow (w.heap.size + 3) 3 1 vK KL.length (intv KL)
  apart : ∀ b, vN.ownBlock = some b → vK.ownBlock ≠ some b
  bel : Below w.heap.size w W
  size : w.heap.size + 3 ≤ W.heap.size

section
variable {w : World} {d : Nd} {l : Loc} {NL : List ByteArray} {KL : List Int} {vN vK : Value} {W W' : World}

theorem own_ge {B e n : Nat} {v : Value} {xs : List Value} (h : W.ownsRow B e 1 v n xs) : ∀ b, v.ownBlock = some b → B ≤ b ∧ b < W.heap.size := fun b hb => h.lt b hb

theorem WI.grow (h : WI w d l NL KL vN vK W) (hg : W.grownBy W' none) : WI w d l NL KL vN vK W' := by
  have hb : ∀ b, b < W.heap.size → W'.heap[b]? = W.heap[b]? := fun b hb => hg.block b hb (by simp)
  have hs := h.size
  exact ⟨h.p.of_block (hb _ (by omega)), h.r.of_block (hb _ (by omega)), h.o.of_block (hb _ (by omega)), h.names.kept hg (by cases hx : vN.ownBlock <;> simp), h.kids.kept hg (by cases hx : vK.ownBlock <;> simp), h.apart, h.bel.grown hg (by omega) (fun g hg => by cases hg), Nat.le_trans hs hg.size⟩

theorem WI.alloc (h : WI w d l NL KL vN vK W) (o : Obj) : WI w d l NL KL vN vK (W.alloc o) := h.grow (World.grownBy_alloc W o none)
theorem grown_drew (W : World) (q : Nat) : W.grownBy (W.drewN q) none := ⟨rfl, rfl, rfl, Nat.le_refl _, fun _ _ _ => rfl⟩
theorem WI.drew (h : WI w d l NL KL vN vK W) (q : Nat) : WI w d l NL KL vN vK (W.drewN q) := h.grow (grown_drew W q)

/-- A name more. -/
theorem WI.nameApp (h : WI w d l NL KL vN vK W) {s : ByteArray} {g cap : Nat} (hown : W'.ownsRow (w.heap.size + 3) 9 1 (.slice (some ⟨g, 0, none⟩) (NL.length + 1) cap) (NL.length + 1) (strv NL ++ strv [s])) (hgrow : W.grownBy W' vN.ownBlock) (hat : vN.ownBlock = some g ∨ g = W.heap.size) :
    WI w d l (NL ++ [s]) KL (.slice (some ⟨g, 0, none⟩) (NL.length + 1) cap) vK (W'.setCell ⟨w.heap.size + 2, 2, none⟩ (.slice (some ⟨g, 0, none⟩) (NL.length + 1) cap)) := by
  have hs := h.size
  have hb : ∀ b, b < w.heap.size + 3 → W'.heap[b]? = W.heap[b]? := fun b hb => hgrow.block b (by omega) (fun e => by have := own_ge h.names b e.symm; omega)
  have hkb : W'.ownsRow (w.heap.size + 3) 3 1 vK KL.length (intv KL) := h.kids.kept hgrow (by
    cases hv : vK.ownBlock with
    | none => exact Or.inl rfl
    | some b => exact Or.inr (fun e => h.apart b e.symm hv))
  have put : ∀ {e n v xs}, W'.ownsRow (w.heap.size + 3) e 1 v n xs → (W'.setCell ⟨w.heap.size + 2, 2, none⟩ (.slice (some ⟨g, 0, none⟩) (NL.length + 1) cap)).ownsRow (w.heap.size + 3) e 1 v n xs := fun hr => ⟨hr.1, by
    rcases hr.2 with h2 | ⟨g', cap', cur, hv, hb', hblk, rest⟩
    · exact Or.inl h2
    · exact Or.inr ⟨g', cap', cur, hv, hb', (blk_setCell_other _ _ _ _ (by show g' ≠ w.heap.size + 2; omega)).trans hblk, rest⟩⟩
  refine ⟨(h.p.of_block (hb _ (by omega))).off _ (by omega), (h.r.of_block (hb _ (by omega))).off _ (by omega), ?_, ?_, put hkb, ?_, bel_put (h.bel.grown hgrow (by omega) (fun b e => by have := own_ge h.names b e; omega)) _ (by omega), by have := hgrow.size; simp [World.setCell]; omega⟩
  · exact (h.o.of_block (hb _ (by omega))).set 2 _
  · rw [List.length_append, ← strv_append]; exact put hown
  · intro b e
    have : g = b := by simpa [Value.ownBlock] using e
    subst this
    rcases hat with hat | hat
    · exact h.apart _ hat
    · intro e2
      have := own_ge h.kids _ e2
      omega

/-- A place more. -/
theorem WI.kidApp (h : WI w d l NL KL vN vK W) {z : Int} {g cap : Nat} (hown : W'.ownsRow (w.heap.size + 3) 3 1 (.slice (some ⟨g, 0, none⟩) (KL.length + 1) cap) (KL.length + 1) (intv KL ++ intv [z])) (hgrow : W.grownBy W' vK.ownBlock) (hat : vK.ownBlock = some g ∨ g = W.heap.size) :
    WI w d l NL (KL ++ [z]) vN (.slice (some ⟨g, 0, none⟩) (KL.length + 1) cap) (W'.setCell ⟨w.heap.size + 2, 3, none⟩ (.slice (some ⟨g, 0, none⟩) (KL.length + 1) cap)) := by
  have hs := h.size
  have hb : ∀ b, b < w.heap.size + 3 → W'.heap[b]? = W.heap[b]? := fun b hb => hgrow.block b (by omega) (fun e => by have := own_ge h.kids b e.symm; omega)
  have hkb : W'.ownsRow (w.heap.size + 3) 9 1 vN NL.length (strv NL) := h.names.kept hgrow (by
    cases hv : vN.ownBlock with
    | none => exact Or.inl rfl
    | some b => exact Or.inr (fun e => h.apart b hv e.symm))
  have put : ∀ {e n v xs}, W'.ownsRow (w.heap.size + 3) e 1 v n xs → (W'.setCell ⟨w.heap.size + 2, 3, none⟩ (.slice (some ⟨g, 0, none⟩) (KL.length + 1) cap)).ownsRow (w.heap.size + 3) e 1 v n xs := fun hr => ⟨hr.1, by
    rcases hr.2 with h2 | ⟨g', cap', cur, hv, hb', hblk, rest⟩
    · exact Or.inl h2
    · exact Or.inr ⟨g', cap', cur, hv, hb', (blk_setCell_other _ _ _ _ (by show g' ≠ w.heap.size + 2; omega)).trans hblk, rest⟩⟩
  refine ⟨(h.p.of_block (hb _ (by omega))).off _ (by omega), (h.r.of_block (hb _ (by omega))).off _ (by omega), ?_, put hkb, ?_, ?_, bel_put (h.bel.grown hgrow (by omega) (fun b e => by have := own_ge h.kids b e; omega)) _ (by omega), by have := hgrow.size; simp [World.setCell]; omega⟩
  · exact (h.o.of_block (hb _ (by omega))).set 3 _
  · rw [List.length_append, ← intv_append]; exact put hown
  · intro b e e2
    have : g = b := by simpa [Value.ownBlock] using e2
    subst this
    rcases hat with hat | hat
    · exact h.apart _ e hat
    · have := own_ge h.names _ e
      omega
end

theorem strv_at (w : World) (s : ByteArray) : ∀ j u, (strv [s])[j]? = some u → (w.alloc (.cells #[.string s] 9)).cell? ((⟨w.heap.size, 0, none⟩ : Addr).add j) = some u := strv_cells w [s]
theorem intv_at (w : World) (z : Int) : ∀ j u, (intv [z])[j]? = some u → (w.alloc (.cells #[.int .i64 z] 3)).cell? ((⟨w.heap.size, 0, none⟩ : Addr).add j) = some u := fun j u h =>
  World.news_of_block (cs := #[.int .i64 z]) (t := 3) (fr := (0, 0)) (heap_alloc_new w _) j u (by simpa [intv] using h)
end Go.Proofs.Ytbifhfnoogjoeaa
