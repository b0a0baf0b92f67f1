/-
  What DrawNodeSame gives: two places in new memory.
-/
import Derived.Test.YtbifhfnoogjoeaaSpecCopy
import Derived.Test.YtbifhfnoogjoeaaDrawTree
namespace Go.Proofs.Ytbifhfnoogjoeaa
open Go.RowKit Go.Deep
set_option linter.unusedVariables false

/-- A place in a variable, block X; its lists lie in blocks from B on below M. -/
structure NdAt (W : World) (B M X : Nat) (d : Nd) (l : Loc) : Prop where
  blk : Blk W X #[.int .i64 d.kind, .string d.text, .slice l.nA d.nn l.nc, .slice l.kA d.kn l.kc, .int .i64 d.turn] 36
  lies : NdIn W d l
  x : B ≤ X ∧ X < M
  ns : ∀ b o y, l.nA = some ⟨b, o, y⟩ → B ≤ b ∧ b < M ∧ b ≠ X
  ks : ∀ b o y, l.kA = some ⟨b, o, y⟩ → B ≤ b ∧ b < M ∧ b ≠ X
  m : M ≤ W.heap.size

section
variable {W W' : World} {B M X : Nat} {d d' : Nd} {l l' : Loc}

theorem NdAt.of_blocks (h : NdAt W B M X d l) (hs : W.heap.size ≤ W'.heap.size) (hb : ∀ b, B ≤ b → b < M → W'.heap[b]? = W.heap[b]?) : NdAt W' B M X d l :=
  ⟨h.blk.of_block (hb X h.x.1 h.x.2), ⟨h.lies.1.of_blocks hs (fun b o y e => hb b (h.ns b o y e).1 (h.ns b o y e).2.1), h.lies.2.of_blocks hs (fun b o y e => hb b (h.ks b o y e).1 (h.ks b o y e).2.1)⟩, h.x, h.ns, h.ks, Nat.le_trans h.m hs⟩

theorem NdAt.below (h : NdAt W B M X d l) (hb : Below W.heap.size W W') : NdAt W' B M X d l := h.of_blocks hb.size (fun b _ h2 => hb.block b (by have := h.m; omega))

theorem NdAt.grown (h : NdAt W B M X d l) {r : Nat} (hg : W.grownBy W' (some r)) (hr : r < B) : NdAt W' B M X d l := h.of_blocks hg.size (fun b h1 h2 => hg.block b (by have := h.m; omega) (by simp; omega))

theorem NdAt.off (h : NdAt W B M X d l) {q k : Nat} (v : Value) (hq : q < B ∨ M ≤ q) : NdAt (W.setCell ⟨q, k, none⟩ v) B M X d l := h.of_blocks (by simp [World.setCell]) (fun b h1 h2 => blk_setCell_other _ _ _ _ (by show b ≠ q; omega))

theorem NdIn.put (h : NdIn W d l) {q k : Nat} (v : Value) (hn : ∀ b o y, l.nA = some ⟨b, o, y⟩ → b ≠ q) (hk : ∀ b o y, l.kA = some ⟨b, o, y⟩ → b ≠ q) : NdIn (W.setCell ⟨q, k, none⟩ v) d l :=
  ⟨h.1.of_blocks (by simp [World.setCell]) (fun b o y e => blk_setCell_other _ _ _ _ (hn b o y e)), h.2.of_blocks (by simp [World.setCell]) (fun b o y e => blk_setCell_other _ _ _ _ (hk b o y e))⟩

theorem NdAt.turn (h : NdAt W B M X d l) (z : Int) : NdAt (W.setCell ⟨X, 4, none⟩ (.int .i64 z)) B M X { d with turn := z } l :=
  ⟨h.blk.set 4 _, h.lies.put (d := d) _ (fun b o y e => (h.ns b o y e).2.2) (fun b o y e => (h.ks b o y e).2.2), h.x, h.ns, h.ks, by have := h.m; simpa [World.setCell] using this⟩

/-- It is written whole. -/
theorem NdAt.all (h : NdAt W B M X d l) (hI : NdIn W d' l') (hM : M ≤ W.heap.size) (hn : ∀ b o y, l'.nA = some ⟨b, o, y⟩ → B ≤ b ∧ b < W.heap.size ∧ b ≠ X) (hk : ∀ b o y, l'.kA = some ⟨b, o, y⟩ → B ≤ b ∧ b < W.heap.size ∧ b ≠ X) :
    NdAt (((((W.setCell ⟨X, 0, none⟩ (.int .i64 d'.kind)).setCell ⟨X, 1, none⟩ (.string d'.text)).setCell ⟨X, 2, none⟩ (.slice l'.nA d'.nn l'.nc)).setCell ⟨X, 3, none⟩ (.slice l'.kA d'.kn l'.kc)).setCell ⟨X, 4, none⟩ (.int .i64 d'.turn)) B W.heap.size X d' l' := by
  have h1 : ∀ b o y, l'.nA = some ⟨b, o, y⟩ → b ≠ X := fun b o y e => (hn b o y e).2.2
  have h2 : ∀ b o y, l'.kA = some ⟨b, o, y⟩ → b ≠ X := fun b o y e => (hk b o y e).2.2
  refine ⟨((((h.blk.set 0 _).set 1 _).set 2 _).set 3 _).set 4 _, ((((hI.put _ h1 h2).put _ h1 h2).put _ h1 h2).put _ h1 h2).put _ h1 h2, ⟨h.x.1, by have := h.x.2; omega⟩, hn, hk, by simp [World.setCell]⟩

/-- A copy is laid into a new variable. -/
theorem NdAt.new {w0 : World} (h : NewNd w0 d l W) (hB : B ≤ w0.heap.size) : NdAt (W.alloc (.cells #[.int .i64 d.kind, .string d.text, .slice l.nA d.nn l.nc, .slice l.kA d.kn l.kc, .int .i64 d.turn] 36)) B (W.heap.size + 1) W.heap.size d l := by
  have hs := h.bel.size
  refine ⟨Blk.new W _ _, h.lies.below (Nat.le_refl _) ((Below.refl _ _).alloc (Nat.le_refl _) _), ⟨by omega, by omega⟩, fun b o y e => ?_, fun b o y e => ?_, by simp⟩
  · obtain ⟨b', e', h1, h2⟩ := h.nA
    rw [e'] at e; cases e
    exact ⟨by omega, by omega, by omega⟩
  · obtain ⟨b', e', h1, h2⟩ := h.kA
    rw [e'] at e; cases e
    exact ⟨by omega, by omega, by omega⟩

theorem NdAt.cells (h : NdAt W B M X d l) : W.cell? ⟨X, 0, none⟩ = some (.int .i64 d.kind) ∧ W.cell? ⟨X, 1, none⟩ = some (.string d.text) ∧ W.cell? ⟨X, 2, none⟩ = some (.slice l.nA d.nn l.nc) ∧ W.cell? ⟨X, 3, none⟩ = some (.slice l.kA d.kn l.kc) ∧ W.cell? ⟨X, 4, none⟩ = some (.int .i64 d.turn) :=
  ⟨h.blk.cell 0, h.blk.cell 1, h.blk.cell 2, h.blk.cell 3, h.blk.cell 4⟩
end

def zeroNd : Array Value := #[.int .i64 0, .string ⟨#[]⟩, .slice none 0 0, .slice none 0 0, .int .i64 0]

/-- What is known within DrawNodeSame. -/
structure DN (w : World) (a : Option Addr) (len cp : Nat) (zs : Nat → Int) (q T g c n : Nat) (D : Nat → Nd) (L : Nat → Loc) (now : Int) (W : World) : Prop where
  rd : IsRd W (w.heap.size + 2) a len cp zs q
  r0 : Blk W w.heap.size zeroNd 36
  r1 : Blk W (w.heap.size + 1) zeroNd 36
  own : OwnT W (w.heap.size + 3) g c n D L
  fair : Fair n D
  t : Blk W T #[.slice (some ⟨g, 0, none⟩) n c, .int .i64 now] 25
  far : w.heap.size + 2 < T
  bel : Below w.heap.size w W

section
variable {w : World} {a : Option Addr} {len cp : Nat} {zs : Nat → Int} {q q' T g c n : Nat} {D : Nat → Nd} {L : Nat → Loc} {now : Int} {W W' : World}
theorem DN.below (h : DN w a len cp zs q T g c n D L now W) (hb : Below W.heap.size W W') : DN w a len cp zs q T g c n D L now W' := by
  have h1 := h.rd.lt
  exact ⟨h.rd.kept (fun k hk => hb.block k (by omega)), h.r0.below hb h.r0.lt, h.r1.below hb h.r1.lt, h.own.below hb, h.fair, h.t.below hb h.t.lt, h.far, h.bel.trans (hb.mono h.bel.size)⟩
theorem DN.read (h : DN w a len cp zs q T g c n D L now W) (hg : W.grownBy W' (some (w.heap.size + 2))) (hr : IsRd W' (w.heap.size + 2) a len cp zs q') : DN w a len cp zs q' T g c n D L now W' := by
  have hf := h.far
  exact ⟨hr, h.r0.of_block (hg.block _ h.r0.lt (by simp)), h.r1.of_block (hg.block _ h.r1.lt (by simp)), h.own.grown hg (by omega), h.fair, h.t.of_block (hg.block T h.t.lt (by simp; omega)), h.far, h.bel.grown hg h.bel.size (fun k e => by simp at e; omega)⟩
theorem DN.drew (h : DN w a len cp zs q T g c n D L now W) (k : Nat) : DN w a len cp zs q T g c n D L now (W.drewN k) := h.below (below_drewN (Below.refl _ _) k)
end

/-- What DrawNodeSame leaves. -/
structure DrawnN (w : World) (d d' : Nd) (l l' : Loc) (W : World) : Prop where
  lies : NdIn W d l
  lies' : NdIn W d' l'
  fair : d.nn ≤ 11 ∧ d.kn ≤ 11 ∧ d.Fits ∧ -1 ≤ d.turn ∧ d.turn ≤ 1002 ∧ 0 ≤ d.kind ∧ d.kind ≤ 3
  fits' : d'.Fits
  bel : Below w.heap.size w W

def DrawNPost (w : World) (e : Ending) (W : World) : Prop := ∃ d d' l l', e = .returned (.tuple #[ndV d l, ndV d' l']) ∧ DrawnN w d d' l l' W

/-- Two places in variables, ahead of the answer. -/
structure DNN (w : World) (a : Option Addr) (len cp : Nat) (zs : Nat → Int) (q T g c n : Nat) (D : Nat → Nd) (L : Nat → Loc) (now : Int) (M XA XB : Nat) (d d' : Nd) (l l' : Loc) (W : World) : Prop where
  dn : DN w a len cp zs q T g c n D L now W
  na : NdAt W (w.heap.size + 3) XB XA d l
  nb : NdAt W (w.heap.size + 3) M XB d' l'
  far : XB ≠ T ∧ Away (fun b => b = XB) g n L
end Go.Proofs.Ytbifhfnoogjoeaa
