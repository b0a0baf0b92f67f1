/-
  For every code, FnDumpWhole answers true: what is kept whole of two drawn trees is one just if the trees are; of a tree of one turn more, another date is kept; and the code reads afterwards as it read before. No condition.
-/
import Derived.Test.YtoblndhmkehoaaaFnDumpWholeB3
import Derived.BigRegion
import Derived.Test.YtoblndhmkehoaaaRows

/-
  What the draws of trees give: a tree in new memory, bent or not.
-/
namespace Go.Proofs.Ytoblndhmkehoaaa
open Go.RowKit Go.Deep
set_option linter.unusedVariables false

/-- A drawn tree lies in new memory. -/
structure DrawnT (w : World) (g c n : Nat) (D : Nat → Nd) (L : Nat → Loc) (now : Int) (w' : World) : Prop where
  own : OwnT w' w.heap.size g c n D L
  fair : Fair n D
  now0 : 0 ≤ now
  now1 : now ≤ 1001
  bel : Below w.heap.size w w'

theorem sizeTo_le {n : Nat} {D : Nat → Nd} (k : Nat) (h : ∀ i, i < n → (D i).size ≤ k) : ∀ m, m ≤ n → sizeTo D m ≤ m * k
  | 0, _ => by simp [sizeTo]
  | m + 1, hm => by
    have h1 := sizeTo_le k h m (by omega)
    have h2 := h m (by omega)
    rw [sizeTo_succ, Nat.add_mul]
    omega

theorem sumTo_le {n : Nat} {S : Nat → ByteArray} (k : Nat) (h : ∀ i, i < n → (S i).size ≤ k) : ∀ m, m ≤ n → sumTo S m ≤ m * k
  | 0, _ => by simp [sumTo]
  | m + 1, hm => by
    have h1 := sumTo_le k h m (by omega)
    have h2 := h m (by omega)
    rw [sumTo_succ, Nat.add_mul]
    omega

theorem FairNd.small {d : Nd} (h : FairNd d) : d.size ≤ 100 := by
  have h1 := h.nn
  have h2 := h.kn
  have h3 := h.text
  have h4 := sumTo_le 4 (fun i hi => (h.names i hi).size) d.nn (Nat.le_refl _)
  unfold Nd.size
  omega

theorem Fair.size {n : Nat} {D : Nat → Nd} (h : Fair n D) : sizeTo D n ≤ 1048576 := by
  have h1 := sizeTo_le 100 (fun i hi => (h.each i hi).small) n (Nat.le_refl _)
  have h2 := h.few
  omega

theorem Fair.len {n : Nat} {D : Nat → Nd} (h : Fair n D) : n ≤ maxLen := by have := h.few; unfold maxLen; omega

section
variable {w : World} {g c n : Nat} {D : Nat → Nd} {L : Nat → Loc} {now : Int} {w' w'' : World}

theorem DrawnT.nds (h : DrawnT w g c n D L now w') : IsNds w' (some ⟨g, 0, none⟩) n D L := h.own.nds

theorem DrawnT.below (h : DrawnT w g c n D L now w') (hb : Below w'.heap.size w' w'') : DrawnT w g c n D L now w'' :=
  ⟨h.own.below hb, h.fair, h.now0, h.now1, h.bel.trans (hb.mono h.bel.size)⟩
end

/-- .. and in a variable of the law's. -/
structure InT (w : World) (T g c n : Nat) (D : Nat → Nd) (L : Nat → Loc) (now : Int) (W : World) : Prop where
  drawn : DrawnT w g c n D L now W
  t : Blk W T #[.slice (some ⟨g, 0, none⟩) n c, .int .i64 now] 25

section
variable {w : World} {T g c n : Nat} {D : Nat → Nd} {L : Nat → Loc} {now : Int} {W W' : World}
theorem InT.below (h : InT w T g c n D L now W) (hb : Below W.heap.size W W') : InT w T g c n D L now W' := ⟨h.drawn.below hb, h.t.below hb h.t.lt⟩
theorem InT.drew (h : InT w T g c n D L now W) (k : Nat) : InT w T g c n D L now (W.drewN k) := h.below (below_drewN (Below.refl _ _) k)
theorem InT.alloc (h : InT w T g c n D L now W) (o : Obj) : InT w T g c n D L now (W.alloc o) := h.below ((Below.refl _ _).alloc (Nat.le_refl _) _)
theorem InT.start (h : DrawnT w g c n D L now W) : InT w W.heap.size g c n D L now (W.alloc (.cells #[.slice (some ⟨g, 0, none⟩) n c, .int .i64 now] 25)) := ⟨h.below ((Below.refl _ _).alloc (Nat.le_refl _) _), Blk.new W _ _⟩
theorem InT.in64 (h : InT w T g c n D L now W) : In64 now := by have h0 := h.drawn.now0; have h1 := h.drawn.now1; unfold In64; omega
end

/-- The answer of a draw is written into its block. -/
structure DEnd (w : World) (B g c n : Nat) (D : Nat → Nd) (L : Nat → Loc) (now : Int) (W : World) : Prop where
  ans : Blk W B #[.slice (some ⟨g, 0, none⟩) n c, .int .i64 now] 25
  drawn : DrawnT w g c n D L now W

/-- What is known of a drawn tree behind a reader of one's own: the answer's block is w.heap.size, the reader's the next one. -/
structure RT (w : World) (a : Option Addr) (len cp : Nat) (zs : Nat → Int) (q g c n : Nat) (D : Nat → Nd) (L : Nat → Loc) (now : Int) (W : World) : Prop where
  rd : IsRd W (w.heap.size + 1) a len cp zs q
  res : Blk W w.heap.size #[.slice none 0 0, .int .i64 0] 25
  own : OwnT W (w.heap.size + 2) g c n D L
  fair : Fair n D
  now0 : 0 ≤ now
  now1 : now ≤ 1001
  bel : Below w.heap.size w W

theorem RT.start {w w1 w2 : World} {a : Option Addr} {len cp : Nat} {zs : Nat → Int} {q g c n : Nat} {D : Nat → Nd} {L : Nat → Loc} {now : Int} (h1 : Below (w.heap.size + 1) (w.alloc (.cells #[.slice none 0 0, .int .i64 0] 25)) w1) (hl : w.heap.size + 2 ≤ w1.heap.size)
    (h : BentD w1 (w.heap.size + 1) a len cp zs q g c n D L w2) (h0 : 0 ≤ now) (h1' : now ≤ 1001) : RT w a len cp zs q g c n D L now w2 := by
  have hs := h.grown.size
  have b1 : Blk w1 w.heap.size #[.slice none 0 0, .int .i64 0] 25 := (Blk.new w _ _).below h1 (by omega)
  refine ⟨h.rd, b1.of_block (h.grown.block _ (by omega) (by simp)), h.own.lower (by omega), h.fair, h0, h1', ?_⟩
  refine ⟨h.grown.os.trans h1.os, h.grown.tape.trans h1.tape, h.grown.output.trans h1.output, by omega, fun k hk => ?_⟩
  exact (h.grown.block k (by omega) (by simp; omega)).trans ((h1.block k (by omega)).trans (blk_alloc_lt _ _ _ hk))

theorem RT.fin {w : World} {a : Option Addr} {len cp : Nat} {zs : Nat → Int} {q g c n : Nat} {D : Nat → Nd} {L : Nat → Loc} {now : Int} {W : World} (h : RT w a len cp zs q g c n D L now W) :
    DEnd w w.heap.size g c n D L now ((W.setCell ⟨w.heap.size, 0, none⟩ (.slice (some ⟨g, 0, none⟩) n c)).setCell ⟨w.heap.size, 1, none⟩ (.int .i64 now)) := by
  have hb := h.own.base
  have ha : Away (fun b => b = w.heap.size) g n L := ⟨by omega, fun i hi => ⟨fun b o x e => by have := ((h.own.lists i hi).2.1 b o x e).1; omega, fun b o x e => by have := ((h.own.lists i hi).2.2 b o x e).1; omega⟩⟩
  exact ⟨(h.res.set 0 _).set 1 _, ((h.own.setOther ha rfl _ _).setOther ha rfl _ _).lower (by omega), h.fair, h.now0, h.now1, bel_put (bel_put h.bel _ (Nat.le_refl _)) _ (Nat.le_refl _)⟩

def DrawTPost (w : World) (e : Ending) (w' : World) : Prop := ∃ g c n D L now, e = .returned (trV (some ⟨g, 0, none⟩) n c now) ∧ DrawnT w g c n D L now w'
theorem drawTPost_mk {w : World} {g c n : Nat} {D : Nat → Nd} {L : Nat → Loc} {now : Int} {W : World} (h : DrawnT w g c n D L now W) : DrawTPost w (.returned (.agg #[.slice (some ⟨g, 0, none⟩) n c, .int .i64 now])) W := ⟨g, c, n, D, L, now, rfl, h⟩

theorem RT.below {w : World} {a : Option Addr} {len cp : Nat} {zs : Nat → Int} {q g c n : Nat} {D : Nat → Nd} {L : Nat → Loc} {now : Int} {W W' : World} (h : RT w a len cp zs q g c n D L now W) (hb : Below W.heap.size W W') : RT w a len cp zs q g c n D L now W' := by
  have h1 := h.rd.lt
  have h2 := h.bel.size
  exact ⟨h.rd.kept (fun k hk => hb.block k (by omega)), h.res.below hb h.res.lt, h.own.below hb, h.fair, h.now0, h.now1, h.bel.trans (hb.mono h2)⟩

theorem RT.read {w : World} {a : Option Addr} {len cp : Nat} {zs : Nat → Int} {q q' g c n : Nat} {D : Nat → Nd} {L : Nat → Loc} {now : Int} {W W' : World} (h : RT w a len cp zs q g c n D L now W) (hg : W.grownBy W' (some (w.heap.size + 1))) (hr : IsRd W' (w.heap.size + 1) a len cp zs q') : RT w a len cp zs q' g c n D L now W' := by
  have h1 := h.res.lt
  exact ⟨hr, h.res.of_block (hg.block _ h1 (by simp)), h.own.grown hg (by omega), h.fair, h.now0, h.now1, h.bel.grown hg (Nat.le_of_lt h1) (fun k e => by simp at e; omega)⟩

/-- .. and the tree lies in a variable. -/
structure RTB (w : World) (T : Nat) (a : Option Addr) (len cp : Nat) (zs : Nat → Int) (q g c n : Nat) (D : Nat → Nd) (L : Nat → Loc) (now : Int) (W : World) : Prop where
  rt : RT w a len cp zs q g c n D L now W
  t : Blk W T #[.slice (some ⟨g, 0, none⟩) n c, .int .i64 now] 25
  far : w.heap.size + 1 < T

section
variable {w : World} {T : Nat} {a : Option Addr} {len cp : Nat} {zs : Nat → Int} {q q' g c n : Nat} {D : Nat → Nd} {L : Nat → Loc} {now : Int} {W W' : World}
theorem RTB.below (h : RTB w T a len cp zs q g c n D L now W) (hb : Below W.heap.size W W') : RTB w T a len cp zs q g c n D L now W' := ⟨h.rt.below hb, h.t.below hb h.t.lt, h.far⟩
theorem RTB.drew (h : RTB w T a len cp zs q g c n D L now W) (k : Nat) : RTB w T a len cp zs q g c n D L now (W.drewN k) := h.below (below_drewN (Below.refl _ _) k)
theorem RTB.alloc (h : RTB w T a len cp zs q g c n D L now W) (o : Obj) : RTB w T a len cp zs q g c n D L now (W.alloc o) := h.below ((Below.refl _ _).alloc (Nat.le_refl _) _)
theorem RTB.read (h : RTB w T a len cp zs q g c n D L now W) (hg : W.grownBy W' (some (w.heap.size + 1))) (hr : IsRd W' (w.heap.size + 1) a len cp zs q') : RTB w T a len cp zs q' g c n D L now W' :=
  ⟨h.rt.read hg hr, h.t.of_block (hg.block T h.t.lt (by have := h.far; simp; omega)), h.far⟩
end

theorem IsCode.alloc {w : World} {a : Option Addr} {len : Nat} {zs : Nat → Int} (h : IsCode w a len zs) (o : Obj) : IsCode (w.alloc o) a len zs := h.below ((Below.refl _ _).alloc (Nat.le_refl _) _)


theorem pick_back {x y : Int} {n : Nat} (hx0 : 0 ≤ x) (hx1 : x < (n : Int) + 1) (hn : n ≤ 11) (hy0 : 0 ≤ y) (hy1 : y < 9) : -1 ≤ IntKind.i64.wrap (x - IntKind.i64.wrap (y.tdiv 8)) ∧ IntKind.i64.wrap (x - IntKind.i64.wrap (y.tdiv 8)) ≤ n := by
  have hd : y.tdiv 8 = y / 8 := by rw [Int.tdiv_eq_ediv_of_nonneg hy0]
  rw [hd, wrap_i64 (y / 8) (by omega) (by omega)]
  by_cases h : 0 ≤ x - y / 8
  · rw [wrap_i64 _ h (by omega)]; omega
  · have : x - y / 8 = -1 := by omega
    rw [this]
    have e : IntKind.i64.wrap (-1) = -1 := by decide
    rw [e]; omega

def DrawRPost (w : World) (e : Ending) (w' : World) : Prop := ∃ g c n D L now ino, e = .returned (.tuple #[trV (some ⟨g, 0, none⟩) n c now, .int .i64 ino]) ∧ DrawnT w g c n D L now w' ∧ -1 ≤ ino ∧ ino ≤ n
theorem drawRPost_mk {w : World} {g c n : Nat} {D : Nat → Nd} {L : Nat → Loc} {now ino : Int} {W : World} (h : DrawnT w g c n D L now W) (h0 : -1 ≤ ino) (h1 : ino ≤ n) : DrawRPost w (.returned (.tuple #[.agg #[.slice (some ⟨g, 0, none⟩) n c, .int .i64 now], .int .i64 ino])) W := ⟨g, c, n, D, L, now, ino, rfl, h, h0, h1⟩

end Go.Proofs.Ytoblndhmkehoaaa

/-
  What DrawTreeSame gives: two trees in new memory.
-/
namespace Go.Proofs.Ytoblndhmkehoaaa
open Go.RowKit Go.Deep
set_option linter.unusedVariables false

/-- Two drawn trees in new memory. -/
structure TwoT (w : World) (g c n : Nat) (D : Nat → Nd) (L : Nat → Loc) (now : Int) (g' c' n' : Nat) (D' : Nat → Nd) (L' : Nat → Loc) (now' : Int) (W : World) : Prop where
  own : OwnT W (w.heap.size + 2) g c n D L
  own' : OwnT W (w.heap.size + 2) g' c' n' D' L'
  fair : Fair n D
  fair' : Fair n' D'
  now0 : 0 ≤ now ∧ now ≤ 1001
  now1 : 0 ≤ now' ∧ now' ≤ 1002
  bel : Below w.heap.size w W

def DrawTwoPost (w : World) (e : Ending) (W : World) : Prop := ∃ g c n D L now g' c' n' D' L' now', e = .returned (.tuple #[trV (some ⟨g, 0, none⟩) n c now, trV (some ⟨g', 0, none⟩) n' c' now']) ∧ TwoT w g c n D L now g' c' n' D' L' now' W

section
variable {w : World} {XA XB g c n : Nat} {D : Nat → Nd} {L : Nat → Loc} {now : Int} {g' c' n' : Nat} {D' : Nat → Nd} {L' : Nat → Loc} {now' : Int} {W W' : World}
theorem TwoT.below (h : TwoT w g c n D L now g' c' n' D' L' now' W) (hb : Below W.heap.size W W') : TwoT w g c n D L now g' c' n' D' L' now' W' := ⟨h.own.below hb, h.own'.below hb, h.fair, h.fair', h.now0, h.now1, h.bel.trans (hb.mono h.bel.size)⟩

/-- A cell of a block that is none of the trees' is written. -/
theorem TwoT.set (h : TwoT w g c n D L now g' c' n' D' L' now' W) {q k : Nat} (v : Value) (hq : w.heap.size ≤ q) (h1 : Away (fun b => b = q) g n L) (h2 : Away (fun b => b = q) g' n' L') : TwoT w g c n D L now g' c' n' D' L' now' (W.setCell ⟨q, k, none⟩ v) :=
  ⟨h.own.setOther h1 rfl k v, h.own'.setOther h2 rfl k v, h.fair, h.fair', h.now0, h.now1, bel_put h.bel v hq⟩
end

theorem OwnT.away {W : World} {B g c n : Nat} {D : Nat → Nd} {L : Nat → Loc} (h : OwnT W B g c n D L) {q : Nat} (hq : q < B ∨ W.heap.size ≤ q) : Away (fun b => b = q) g n L := by
  have h1 := h.base
  have h2 := h.lt
  exact ⟨by show ¬ g = q; omega, fun i hi => ⟨fun b o y e => by have := (h.lists i hi).2.1 b o y e; show ¬ b = q; omega, fun b o y e => by have := (h.lists i hi).2.2 b o y e; show ¬ b = q; omega⟩⟩

/-- .. and in variables, ahead of the answer. -/
structure TS (w : World) (XA XB g c n : Nat) (D : Nat → Nd) (L : Nat → Loc) (now : Int) (g' c' n' : Nat) (D' : Nat → Nd) (L' : Nat → Loc) (now' : Int) (W : World) : Prop where
  tw : TwoT w g c n D L now g' c' n' D' L' now' W
  r0 : Blk W w.heap.size #[.slice none 0 0, .int .i64 0] 25
  r1 : Blk W (w.heap.size + 1) #[.slice none 0 0, .int .i64 0] 25
  a : Blk W XA #[.slice (some ⟨g, 0, none⟩) n c, .int .i64 now] 25
  b : Blk W XB #[.slice (some ⟨g', 0, none⟩) n' c', .int .i64 now'] 25
  lt : w.heap.size + 2 ≤ XA ∧ XA < XB
  aw : Away (fun b => b = XB) g n L ∧ Away (fun b => b = XB) g' n' L'

/-- The answer has been written. -/
structure TSEnd (w : World) (g c n : Nat) (D : Nat → Nd) (L : Nat → Loc) (now : Int) (g' c' n' : Nat) (D' : Nat → Nd) (L' : Nat → Loc) (now' : Int) (W : World) : Prop where
  r0 : Blk W w.heap.size #[.slice (some ⟨g, 0, none⟩) n c, .int .i64 now] 25
  r1 : Blk W (w.heap.size + 1) #[.slice (some ⟨g', 0, none⟩) n' c', .int .i64 now'] 25
  tw : TwoT w g c n D L now g' c' n' D' L' now' W

section
variable {w : World} {XA XB g c n : Nat} {D : Nat → Nd} {L : Nat → Loc} {now : Int} {g' c' n' : Nat} {D' : Nat → Nd} {L' : Nat → Loc} {now' : Int} {W W' : World}
theorem TS.fin1 (h : TS w XA XB g c n D L now g' c' n' D' L' now' W) : TSEnd w g c n D L now g' c' n' D' L' now' ((((W.setCell ⟨w.heap.size, 0, none⟩ (.slice (some ⟨g, 0, none⟩) n c)).setCell ⟨w.heap.size, 1, none⟩ (.int .i64 now)).setCell ⟨w.heap.size + 1, 0, none⟩ (.slice (some ⟨g', 0, none⟩) n' c')).setCell ⟨w.heap.size + 1, 1, none⟩ (.int .i64 now')) := by
  have p1 : Away (fun b => b = w.heap.size) g n L := h.tw.own.away (Or.inl (by omega))
  have p2 : Away (fun b => b = w.heap.size) g' n' L' := h.tw.own'.away (Or.inl (by omega))
  have q1 : Away (fun b => b = w.heap.size + 1) g n L := h.tw.own.away (Or.inl (by omega))
  have q2 : Away (fun b => b = w.heap.size + 1) g' n' L' := h.tw.own'.away (Or.inl (by omega))
  exact ⟨(((h.r0.set 0 _).set 1 _).off _ (by omega)).off _ (by omega), (((h.r1.off _ (by omega)).off _ (by omega)).set 0 _).set 1 _, (((h.tw.set _ (Nat.le_refl _) p1 p2).set _ (Nat.le_refl _) p1 p2).set _ (by omega) q1 q2).set _ (by omega) q1 q2⟩
theorem TS.fin2 (h : TS w XA XB g c n D L now g' c' n' D' L' now' W) : TSEnd w g c n D L now g' c' n' D' L' now' ((((W.setCell ⟨w.heap.size + 1, 0, none⟩ (.slice (some ⟨g', 0, none⟩) n' c')).setCell ⟨w.heap.size + 1, 1, none⟩ (.int .i64 now')).setCell ⟨w.heap.size, 0, none⟩ (.slice (some ⟨g, 0, none⟩) n c)).setCell ⟨w.heap.size, 1, none⟩ (.int .i64 now)) := by
  have p1 : Away (fun b => b = w.heap.size) g n L := h.tw.own.away (Or.inl (by omega))
  have p2 : Away (fun b => b = w.heap.size) g' n' L' := h.tw.own'.away (Or.inl (by omega))
  have q1 : Away (fun b => b = w.heap.size + 1) g n L := h.tw.own.away (Or.inl (by omega))
  have q2 : Away (fun b => b = w.heap.size + 1) g' n' L' := h.tw.own'.away (Or.inl (by omega))
  exact ⟨(((h.r0.off _ (by omega)).off _ (by omega)).set 0 _).set 1 _, (((h.r1.set 0 _).set 1 _).off _ (by omega)).off _ (by omega), (((h.tw.set _ (by omega) q1 q2).set _ (by omega) q1 q2).set _ (Nat.le_refl _) p1 p2).set _ (Nat.le_refl _) p1 p2⟩
theorem TSEnd.drew (h : TSEnd w g c n D L now g' c' n' D' L' now' W) : TSEnd w g c n D L now g' c' n' D' L' now' W.drew :=
  have hb : Below W.heap.size W W.drew := below_drewN (Below.refl _ _) 1
  ⟨h.r0.below hb h.r0.lt, h.r1.below hb h.r1.lt, h.tw.below hb⟩
/-- The second one's turn is written. -/
theorem TS.turn (h : TS w XA XB g c n D L now g' c' n' D' L' now' W) (z : Int) (hz : 0 ≤ z ∧ z ≤ 1002) : TS w XA XB g c n D L now g' c' n' D' L' z (W.setCell ⟨XB, 1, none⟩ (.int .i64 z)) := by
  have hl := h.lt
  have ht := h.tw.set (k := 1) (.int .i64 z) (q := XB) (by omega) h.aw.1 h.aw.2
  exact ⟨⟨ht.own, ht.own', ht.fair, ht.fair', ht.now0, hz, ht.bel⟩, h.r0.off _ (by omega), h.r1.off _ (by omega), h.a.off _ (by omega), h.b.set 1 _, h.lt, h.aw⟩
end

/-- The first tree has been drawn, and lies in a variable. -/
structure TS1 (w : World) (XA g c n : Nat) (D : Nat → Nd) (L : Nat → Loc) (now : Int) (W : World) : Prop where
  r0 : Blk W w.heap.size #[.slice none 0 0, .int .i64 0] 25
  r1 : Blk W (w.heap.size + 1) #[.slice none 0 0, .int .i64 0] 25
  a : Blk W XA #[.slice (some ⟨g, 0, none⟩) n c, .int .i64 now] 25
  own : OwnT W (w.heap.size + 2) g c n D L
  fair : Fair n D
  lt : w.heap.size + 2 ≤ XA
  bel : Below w.heap.size w W

theorem TS1.below {w : World} {XA g c n : Nat} {D : Nat → Nd} {L : Nat → Loc} {now : Int} {W W' : World} (h : TS1 w XA g c n D L now W) (hb : Below W.heap.size W W') : TS1 w XA g c n D L now W' :=
  ⟨h.r0.below hb h.r0.lt, h.r1.below hb h.r1.lt, h.a.below hb h.a.lt, h.own.below hb, h.fair, h.lt, h.bel.trans (hb.mono h.bel.size)⟩

theorem TS1.start {w w1 w2 : World} {a : Option Addr} {len cp : Nat} {zs : Nat → Int} {q g c n : Nat} {D : Nat → Nd} {L : Nat → Loc} {now : Int} (h1 : Below (w.heap.size + 2) ((w.alloc (.cells #[.slice none 0 0, .int .i64 0] 25)).alloc (.cells #[.slice none 0 0, .int .i64 0] 25)) w1) (hl : w.heap.size + 3 ≤ w1.heap.size)
    (h : BentD w1 (w.heap.size + 2) a len cp zs q g c n D L w2) : TS1 w w2.heap.size g c n D L now (w2.alloc (.cells #[.slice (some ⟨g, 0, none⟩) n c, .int .i64 now] 25)) := by
  have hs := h.grown.size
  obtain ⟨n0, n1, n2, n3⟩ := new2 w #[.slice none 0 0, .int .i64 0] 25 #[.slice none 0 0, .int .i64 0] 25
  have b0 := (n0.below h1 (by omega)).of_block (h.grown.block _ (by omega) (by simp))
  have b1 := (n1.below h1 (by omega)).of_block (h.grown.block _ (by omega) (by simp))
  have hbel : Below w.heap.size w w2 := ⟨h.grown.os.trans (h1.os.trans n2.os), h.grown.tape.trans (h1.tape.trans n2.tape), h.grown.output.trans (h1.output.trans n2.output), by omega, fun k hk => (h.grown.block k (by omega) (by simp; omega)).trans ((h1.block k (by omega)).trans (n2.block k hk))⟩
  have hb2 : Below w2.heap.size w2 (w2.alloc (.cells #[.slice (some ⟨g, 0, none⟩) n c, .int .i64 now] 25)) := (Below.refl _ _).alloc (Nat.le_refl _) _
  exact ⟨b0.alloc _, b1.alloc _, Blk.new w2 _ _, (h.own.lower (by omega)).below hb2, h.fair, by omega, hbel.trans (hb2.mono hbel.size)⟩

set_option maxRecDepth 100000 in
set_option maxHeartbeats 4000000 in
theorem drawTreeSame_any (w : World) (a : Option Addr) (len cap : Nat) (zs : Nat → Int) (hc : IsCode w a len zs) (hlen : len ≤ maxLen) (hcap : len ≤ cap) :
    Calls Try.prog 16 #[.slice a len cap] w (DrawTwoPost w) := by
  have hlen' := hlen
  unfold maxLen at hlen'
  go_enter Try.func16, Try.ntmps16
  go_wp2_with fail
  refine (l11Open_any _ a len cap zs hlen hcap ((hc.alloc _).alloc _)).mono ?_
  rintro e w1 ⟨rfl, hb, len', hR⟩
  have es : ((w.alloc (.cells #[.slice none 0 0, .int .i64 0] 25)).alloc (.cells #[.slice none 0 0, .int .i64 0] 25)).heap.size = w.heap.size + 2 := by simp
  rw [es] at hb hR ⊢
  have hl := hR.lt
  go_wp2_with fail
  refine (l2Bent_any w1 (w.heap.size + 2) a len' cap zs 0 hR (by omega)).mono ?_
  rintro e w2 ⟨g, c, n, D, L, now, q, rfl, hn0, hn1, hq, hd⟩
  unfold trV
  have HF : Hid (TS1 w w2.heap.size g c n D L now (w2.alloc (.cells #[.slice (some ⟨g, 0, none⟩) n c, .int .i64 now] 25))) := TS1.start hb hl hd
  clear hd hR hb hl es
  go_wp2_with fail
  obtain ⟨XA, hXA⟩ : ∃ X, X = w2.heap.size := ⟨_, rfl⟩
  rw [← hXA] at HF ⊢
  refine at_world (F := TS1 w XA g c n D L now) HF.out ?_
  clear HF hXA w2 w1
  intro W3 h3
  refine (l11Open_any W3 a len cap zs hlen hcap (hc.below h3.bel)).mono ?_
  rintro e w4 ⟨rfl, hb4, len2, hR4⟩
  have hl4 := hR4.lt
  have H3 : Hid (TS1 w XA g c n D L now W3 ∧ Below W3.heap.size W3 w4) := ⟨h3, hb4⟩
  clear h3 hb4
  go_wp2_with fail
  refine (l2Bent_any w4 W3.heap.size a len2 cap zs 0 hR4 (by omega)).mono ?_
  rintro e w5 ⟨g', c', n', D', L', now', q2, rfl, hn0', hn1', hq2, hd5⟩
  unfold trV
  have H5 : Hid (∀ z : Int, 0 ≤ z → z ≤ 1002 → TS w XA w5.heap.size g c n D L now g' c' n' D' L' z (w5.alloc (.cells #[.slice (some ⟨g', 0, none⟩) n' c', .int .i64 z] 25))) := by
    intro z hz0 hz1
    obtain ⟨h3, hb4⟩ := H3.out
    have hb5 : Below W3.heap.size W3 w5 := hb4.grown hd5.grown hb4.size (fun b e => by cases e; exact Nat.le_refl _)
    have hb6 : Below w5.heap.size w5 (w5.alloc (.cells #[.slice (some ⟨g', 0, none⟩) n' c', .int .i64 z] 25)) := (Below.refl _ _).alloc (Nat.le_refl _) _
    have h5 := h3.below hb5
    have h6 := h5.below hb6
    have hl3 := h3.a.lt
    have hs5 := hb5.size
    have hs4 := hb4.size
    have hlt := h3.lt
    have ho' : OwnT w5 (w.heap.size + 2) g' c' n' D' L' := hd5.own.lower (by omega)
    exact ⟨⟨h6.own, ho'.below hb6, h6.fair, hd5.fair, ⟨hn0, hn1⟩, ⟨hz0, hz1⟩, h6.bel⟩, h6.r0, h6.r1, h6.a, Blk.new w5 _ _, ⟨h3.lt, by omega⟩, h5.own.away (Or.inr (Nat.le_refl _)), ho'.away (Or.inr (Nat.le_refl _))⟩
  have hcode : IsCode w5 a len zs := by
    obtain ⟨h3, hb4⟩ := H3.out
    exact ((hc.below h3.bel).below (hb4.grown hd5.grown hb4.size (fun b e => by cases e; exact Nat.le_refl _)))
  have hwr : IntKind.i64.wrap (now' + 1) = now' + 1 := wrap_i64 _ (by omega) (by omega)
  clear hd5 hR4 H3 hl4 hc
  by_cases h0 : 0 < len
  · have h0i : (0 : Int) < (len : Int) := by omega
    have h0b : decide ((0 : Int) < (len : Int)) = true := by simp; omega
    obtain ⟨b, off, rfl, hbl, hcc⟩ := hcode.resolve_left (by omega)
    obtain ⟨hz, hz0, hz1⟩ := hcc 0 h0
    rw [Nat.add_zero] at hz
    have hbn : b ≠ w5.heap.size := by omega
    have hbm : w5.heap.size ≠ b := by omega
    clear hcc
    go_wp2_with fail
    · obtain ⟨XB, hXB⟩ : ∃ X, X = w5.heap.size := ⟨_, rfl⟩
      rw [← hXB] at H5 ⊢
      refine wp_world (F := TS w XA XB g c n D L now g' c' n' D' L' (now' + 1)) (H5.out (now' + 1) (by omega) (by omega)) ?_
      clear H5 hXB hz hbn hbm
      intro W9 h9
      have H9 : Hid _ := h9
      clear h9
      have ya0 : W9.cell? ⟨XA, 0, none⟩ = some (.slice (some ⟨g, 0, none⟩) n c) := H9.out.a.cell 0
      have yb0 : W9.cell? ⟨XB, 0, none⟩ = some (.slice (some ⟨g', 0, none⟩) n' c') := H9.out.b.cell 0
      have rs0 : W9.cell? ⟨w.heap.size, 0, none⟩ = some (.slice none 0 0) := H9.out.r0.cell 0
      have sf0 := H9.out.r0.frozen 0
      have rt0 : W9.cell? ⟨w.heap.size + 1, 0, none⟩ = some (.slice none 0 0) := H9.out.r1.cell 0
      have tf0 := H9.out.r1.frozen 0
      have ya1 : W9.cell? ⟨XA, 1, none⟩ = some (.int .i64 now) := H9.out.a.cell 1
      have yb1 : W9.cell? ⟨XB, 1, none⟩ = some (.int .i64 (now' + 1)) := H9.out.b.cell 1
      have rs1 : W9.cell? ⟨w.heap.size, 1, none⟩ = some (.int .i64 0) := H9.out.r0.cell 1
      have sf1 := H9.out.r0.frozen 1
      have rt1 : W9.cell? ⟨w.heap.size + 1, 1, none⟩ = some (.int .i64 0) := H9.out.r1.cell 1
      have tf1 := H9.out.r1.frozen 1
      have hxl := H9.out.lt
      have m1 : XA ≠ w.heap.size := by omega
      have m2 : XA ≠ w.heap.size + 1 := by omega
      have m3 : XB ≠ w.heap.size := by omega
      have m4 : XB ≠ w.heap.size + 1 := by omega
      have m5 : w.heap.size ≠ XA := by omega
      have m6 : w.heap.size + 1 ≠ XA := by omega
      have m7 : w.heap.size ≠ XB := by omega
      have m8 : w.heap.size + 1 ≠ XB := by omega
      have HE1 : Hid _ := H9.out.fin1.drew
      have HE2 : Hid _ := H9.out.fin2.drew
      clear H9
      go_region_held3 (fun W' => (W'.cell? ⟨XA, 0, none⟩ = some (.slice (some ⟨g, 0, none⟩) n c) ∧ W'.cell? ⟨XA, 1, none⟩ = some (.int .i64 now)) ∧ (W'.cell? ⟨XB, 0, none⟩ = some (.slice (some ⟨g', 0, none⟩) n' c') ∧ W'.cell? ⟨XB, 1, none⟩ = some (.int .i64 (now' + 1)))) (go_keep) (fail)
      all_goals
        go_wp2
        refine end_world (F := TSEnd w g c n D L now g' c' n' D' L' (now' + 1)) (by first | with_reducible exact HE1.out | with_reducible exact HE2.out) ?_
        rintro WF ⟨e0, e1, hN⟩
        have r0 := e0.cell 0
        have r1 := e0.cell 1
        have u0 := e1.cell 0
        have u1 := e1.cell 1
        simp at r0 r1 u0 u1
        exact bodyPost_ret (v := .tuple #[trV (some ⟨g, 0, none⟩) n c now, trV (some ⟨g', 0, none⟩) n' c' (now' + 1)]) (by simp [results, Try.results16, go_sem, r0, r1, u0, u1, trV]) rfl ⟨_, _, _, _, _, _, _, _, _, _, _, _, rfl, hN⟩
    · obtain ⟨XB, hXB⟩ : ∃ X, X = w5.heap.size := ⟨_, rfl⟩
      rw [← hXB] at H5 ⊢
      refine wp_world (F := TS w XA XB g c n D L now g' c' n' D' L' (now')) (H5.out (now') hn0' (by omega)) ?_
      clear H5 hXB hz hbn hbm
      intro W9 h9
      have H9 : Hid _ := h9
      clear h9
      have ya0 : W9.cell? ⟨XA, 0, none⟩ = some (.slice (some ⟨g, 0, none⟩) n c) := H9.out.a.cell 0
      have yb0 : W9.cell? ⟨XB, 0, none⟩ = some (.slice (some ⟨g', 0, none⟩) n' c') := H9.out.b.cell 0
      have rs0 : W9.cell? ⟨w.heap.size, 0, none⟩ = some (.slice none 0 0) := H9.out.r0.cell 0
      have sf0 := H9.out.r0.frozen 0
      have rt0 : W9.cell? ⟨w.heap.size + 1, 0, none⟩ = some (.slice none 0 0) := H9.out.r1.cell 0
      have tf0 := H9.out.r1.frozen 0
      have ya1 : W9.cell? ⟨XA, 1, none⟩ = some (.int .i64 now) := H9.out.a.cell 1
      have yb1 : W9.cell? ⟨XB, 1, none⟩ = some (.int .i64 now') := H9.out.b.cell 1
      have rs1 : W9.cell? ⟨w.heap.size, 1, none⟩ = some (.int .i64 0) := H9.out.r0.cell 1
      have sf1 := H9.out.r0.frozen 1
      have rt1 : W9.cell? ⟨w.heap.size + 1, 1, none⟩ = some (.int .i64 0) := H9.out.r1.cell 1
      have tf1 := H9.out.r1.frozen 1
      have hxl := H9.out.lt
      have m1 : XA ≠ w.heap.size := by omega
      have m2 : XA ≠ w.heap.size + 1 := by omega
      have m3 : XB ≠ w.heap.size := by omega
      have m4 : XB ≠ w.heap.size + 1 := by omega
      have m5 : w.heap.size ≠ XA := by omega
      have m6 : w.heap.size + 1 ≠ XA := by omega
      have m7 : w.heap.size ≠ XB := by omega
      have m8 : w.heap.size + 1 ≠ XB := by omega
      have HE1 : Hid _ := H9.out.fin1.drew
      have HE2 : Hid _ := H9.out.fin2.drew
      clear H9
      go_region_held3 (fun W' => (W'.cell? ⟨XA, 0, none⟩ = some (.slice (some ⟨g, 0, none⟩) n c) ∧ W'.cell? ⟨XA, 1, none⟩ = some (.int .i64 now)) ∧ (W'.cell? ⟨XB, 0, none⟩ = some (.slice (some ⟨g', 0, none⟩) n' c') ∧ W'.cell? ⟨XB, 1, none⟩ = some (.int .i64 now'))) (go_keep) (fail)
      all_goals
        go_wp2
        refine end_world (F := TSEnd w g c n D L now g' c' n' D' L' now') (by first | with_reducible exact HE1.out | with_reducible exact HE2.out) ?_
        rintro WF ⟨e0, e1, hN⟩
        have r0 := e0.cell 0
        have r1 := e0.cell 1
        have u0 := e1.cell 0
        have u1 := e1.cell 1
        simp at r0 r1 u0 u1
        exact bodyPost_ret (v := .tuple #[trV (some ⟨g, 0, none⟩) n c now, trV (some ⟨g', 0, none⟩) n' c' now']) (by simp [results, Try.results16, go_sem, r0, r1, u0, u1, trV]) rfl ⟨_, _, _, _, _, _, _, _, _, _, _, _, rfl, hN⟩
  · have h0b : decide ((0 : Int) < (len : Int)) = false := by simp; omega
    go_wp2_with fail
    obtain ⟨XB, hXB⟩ : ∃ X, X = w5.heap.size := ⟨_, rfl⟩
    rw [← hXB] at H5 ⊢
    refine wp_world (F := TS w XA XB g c n D L now g' c' n' D' L' now') (H5.out now' hn0' (by omega)) ?_
    clear H5 hXB
    intro W9 h9
    have H9 : Hid _ := h9
    clear h9
    have ya0 : W9.cell? ⟨XA, 0, none⟩ = some (.slice (some ⟨g, 0, none⟩) n c) := H9.out.a.cell 0
    have yb0 : W9.cell? ⟨XB, 0, none⟩ = some (.slice (some ⟨g', 0, none⟩) n' c') := H9.out.b.cell 0
    have rs0 : W9.cell? ⟨w.heap.size, 0, none⟩ = some (.slice none 0 0) := H9.out.r0.cell 0
    have sf0 := H9.out.r0.frozen 0
    have rt0 : W9.cell? ⟨w.heap.size + 1, 0, none⟩ = some (.slice none 0 0) := H9.out.r1.cell 0
    have tf0 := H9.out.r1.frozen 0
    have ya1 : W9.cell? ⟨XA, 1, none⟩ = some (.int .i64 now) := H9.out.a.cell 1
    have yb1 : W9.cell? ⟨XB, 1, none⟩ = some (.int .i64 now') := H9.out.b.cell 1
    have rs1 : W9.cell? ⟨w.heap.size, 1, none⟩ = some (.int .i64 0) := H9.out.r0.cell 1
    have sf1 := H9.out.r0.frozen 1
    have rt1 : W9.cell? ⟨w.heap.size + 1, 1, none⟩ = some (.int .i64 0) := H9.out.r1.cell 1
    have tf1 := H9.out.r1.frozen 1
    have hxl := H9.out.lt
    have m1 : XA ≠ w.heap.size := by omega
    have m2 : XA ≠ w.heap.size + 1 := by omega
    have m3 : XB ≠ w.heap.size := by omega
    have m4 : XB ≠ w.heap.size + 1 := by omega
    have m5 : w.heap.size ≠ XA := by omega
    have m6 : w.heap.size + 1 ≠ XA := by omega
    have m7 : w.heap.size ≠ XB := by omega
    have m8 : w.heap.size + 1 ≠ XB := by omega
    have HE1 : Hid _ := H9.out.fin1.drew
    have HE2 : Hid _ := H9.out.fin2.drew
    clear H9
    go_region_held3 (fun W' => (W'.cell? ⟨XA, 0, none⟩ = some (.slice (some ⟨g, 0, none⟩) n c) ∧ W'.cell? ⟨XA, 1, none⟩ = some (.int .i64 now)) ∧ (W'.cell? ⟨XB, 0, none⟩ = some (.slice (some ⟨g', 0, none⟩) n' c') ∧ W'.cell? ⟨XB, 1, none⟩ = some (.int .i64 now'))) (go_keep) (fail)
    all_goals
      go_wp2
      refine end_world (F := TSEnd w g c n D L now g' c' n' D' L' now') (by first | with_reducible exact HE1.out | with_reducible exact HE2.out) ?_
      rintro WF ⟨e0, e1, hN⟩
      have r0 := e0.cell 0
      have r1 := e0.cell 1
      have u0 := e1.cell 0
      have u1 := e1.cell 1
      simp at r0 r1 u0 u1
      exact bodyPost_ret (v := .tuple #[trV (some ⟨g, 0, none⟩) n c now, trV (some ⟨g', 0, none⟩) n' c' now']) (by simp [results, Try.results16, go_sem, r0, r1, u0, u1, trV]) rfl ⟨_, _, _, _, _, _, _, _, _, _, _, _, rfl, hN⟩
end Go.Proofs.Ytoblndhmkehoaaa

/-
  What DumpSame of the specification answers.
-/
namespace Go.Proofs.Ytoblndhmkehoaaa
open Go.RowKit
set_option linter.unusedVariables false

/-- What is known within DumpSame. -/
structure DSIn (w : World) (d e : Dp) (l k : DLoc) (t : TypeId) (W : World) : Prop where
  p : Blk W w.heap.size #[.int .i64 d.since, .int .i64 d.date, .slice l.lA d.ln l.lc, .slice l.iA d.m l.ic] t
  p' : Blk W (w.heap.size + 1) #[.int .i64 e.since, .int .i64 e.date, .slice k.lA e.ln k.lc, .slice k.iA e.m k.ic] t
  bel : Below w.heap.size w W

theorem DSIn.below {w : World} {d e : Dp} {l k : DLoc} {t : TypeId} {W W' : World} (h : DSIn w d e l k t W) (hb : Below W.heap.size W W') : DSIn w d e l k t W' :=
  ⟨h.p.below hb h.p.lt, h.p'.below hb h.p'.lt, h.bel.trans (hb.mono (by have := h.p.lt; omega))⟩

theorem DSIn.drew {w : World} {d e : Dp} {l k : DLoc} {t : TypeId} {W : World} (h : DSIn w d e l k t W) (q : Nat) : DSIn w d e l k t (W.drewN q) := h.below (below_drewN (Below.refl _ _) q)

theorem same_since {d e : Dp} (h : (d.since == e.since) = false) : false = d.same e := by unfold Dp.same; rw [h]; rfl
theorem same_date {d e : Dp} (h : (d.date == e.date) = false) : false = d.same e := by unfold Dp.same; rw [h]; simp
theorem same_ln {d e : Dp} (h : ¬ d.ln = e.ln) : false = d.same e := by unfold Dp.same; simp [h]
theorem same_m {d e : Dp} (h : ¬ d.m = e.m) : false = d.same e := by unfold Dp.same; simp [h]
theorem same_live {d e : Dp} (h : false = eqB d.ln d.live e.live) : false = d.same e := by unfold Dp.same; rw [← h]; simp
theorem same_items {d e : Dp} (h : false = sameIts d.m d.ino e.ino d.nd e.nd) : false = d.same e := by unfold Dp.same; rw [← h]; simp
theorem same_all {d e : Dp} (h1 : (d.since == e.since) = true) (h2 : (d.date == e.date) = true) (h3 : d.ln = e.ln) (h4 : eqB d.ln d.live e.live = true) (h5 : d.m = e.m) (h6 : sameIts d.m d.ino e.ino d.nd e.nd = true) : true = d.same e := by
  unfold Dp.same; rw [h1, h2, h4, h6]; simp [h3, h5]

end Go.Proofs.Ytoblndhmkehoaaa

/-
  What DumpSame of the program answers.
-/
namespace Go.Proofs.Ytoblndhmkehoaaa
open Go.RowKit
set_option linter.unusedVariables false

set_option maxHeartbeats 1000000 in
theorem implItemSame_any (o o' : Int) (d d' : Nd) (l l' : Loc) (w : World) (hI : NdIn w d l) (hI' : NdIn w d' l') (hf : d.Fits) (hf' : d'.Fits) :
    Calls Try.prog 33 #[itV o d l, itV o' d' l'] w fun e w' => Below w.heap.size w w' ∧ e = .returned (.bool (sameIt o o' d d')) := by
  unfold itV
  cases hoo : (o == o') with
  | false =>
    have HX : Hid (false = sameIt o o' d d') := by show _ = _; unfold sameIt; rw [hoo]; rfl
    go_enter Try.func33, Try.ntmps33
    go_wp2_with fail
    go_ret
    exact ⟨((Below.refl _ _).alloc (Nat.le_refl _) _).alloc (by simp) _, ret_bool HX.out⟩
  | true =>
    have HX : Hid (d.same d' = sameIt o o' d d') := by show _ = _; unfold sameIt; rw [hoo]; rfl
    go_enter Try.func33, Try.ntmps33
    go_wp2_with fail
    refine at_world (F := New2 w _ _ _ _) (new2 w _ _ _ _) ?_
    rintro W ⟨hp, hp', hb, hs⟩
    refine (implNodeSame_any d d' l l' W (hI.below (Nat.le_refl _) hb) (hI'.below (Nat.le_refl _) hb) hf hf').mono ?_
    rintro e w1 ⟨hb1, rfl⟩
    have HB : Hid (Below w.heap.size w w1) := hb.trans (hb1.mono (by omega))
    clear hp hp' hb hs hb1
    rw [HX.out]
    go_wp2
    go_ret
    exact ⟨HB.out, rfl⟩

set_option maxHeartbeats 2000000 in
theorem equalItems_any (a a' : Option Addr) (n c m c' : Nat) (O P : Nat → Int) (D E : Nat → Nd) (L M : Nat → Loc) (w : World) (hS : IsIts w a n O D L) (hT : IsIts w a' m P E M) (hf : FitAll n D) (hf' : FitAll m E) (hn : n ≤ maxLen) (hm : m ≤ maxLen) :
    Calls Try.prog 32 #[.slice a n c, .slice a' m c', .func (Fn.func 33) #[] #[]] w fun e w' => Below w.heap.size w w' ∧ e = .returned (.bool (decide (n = m) && sameIts n O P D E)) := by
  unfold maxLen at hn hm
  by_cases hne : n = m
  · subst hne
    have hb : ((n : Int) != (n : Int)) = false := by simp
    go_enter Try.func32, Try.ntmps32
    go_wp2
    go_loopw [17] (fun i wr => ∃ k : Nat, k ≤ n ∧ i = .int .i64 k ∧ Below w.heap.size w wr ∧ sameIts k O P D E = true) (fun i _ => n - (intOf i).toNat)
    case atStart => exact ⟨0, Nat.zero_le _, rfl, Below.refl _ _, rfl⟩
    case round =>
      obtain ⟨k, hk, rfl, hbel, heq⟩ := hrel
      by_cases hlt : k < n
      · have hSr := hS.below (Nat.le_refl _) hbel
        have hTr := hT.below (Nat.le_refl _) hbel
        obtain ⟨b, off, rfl, hlt2, hc⟩ := hSr.at hlt
        obtain ⟨b', off', rfl, hlt2', hc'⟩ := hTr.at hlt
        obtain ⟨c0, c1, c2, c3, c4, c5, hI⟩ := hc k hlt
        obtain ⟨d0, d1, d2, d3, d4, d5, hI'⟩ := hc' k hlt
        have hlti : (k : Int) < (n : Int) := by omega
        have HE : Hid (sameIts k O P D E = true ∧ Below w.heap.size w wr ∧ NdIn wr (D k) (L k) ∧ NdIn wr (E k) (M k)) := ⟨heq, hbel, hI, hI'⟩
        clear hc hc' hSr hTr hbel heq hI hI'
        go_wp2_with fail
        refine at_world (F := New2 wr _ _ _ _) (new2 wr _ _ _ _) ?_
        rintro W ⟨hp, hp', hb', hs⟩
        refine (implItemSame_any (O k) (P k) (D k) (E k) (L k) (M k) W (HE.out.2.2.1.below (Nat.le_refl _) hb') (HE.out.2.2.2.below (Nat.le_refl _) hb') (hf k hlt) (hf' k hlt)).mono ?_
        rintro e w1 ⟨hb1, rfl⟩
        have HB : Hid (Below w.heap.size w w1) := HE.out.2.1.trans ((hb'.trans (hb1.mono (by omega))).mono HE.out.2.1.size)
        clear hp hp' hb' hs hb1 c0 c1 c2 c3 c4 c5 d0 d1 d2 d3 d4 d5
        cases hq : sameIt (O k) (P k) (D k) (E k) with
        | false =>
          have HQ : Hid (sameIt (O k) (P k) (D k) (E k) = false) := hq
          clear hq
          go_wp2
          go_ret
          exact ⟨HB.out, ret_bool (by rw [← sameIts_not n k O P D E hlt HQ.out]; simp)⟩
        | true =>
          have HQ : Hid (sameIt (O k) (P k) (D k) (E k) = true) := hq
          clear hq
          go_wp2
          go_roundw
          case rel => exact ⟨k + 1, by omega, by go_num, HB.out, sameIts_succ k O P D E HE.out.1 HQ.out⟩
          case measure => simp [intOf]; omega
      · have hkn : k = n := by omega
        have HK : Hid (k = n ∧ Below w.heap.size w wr ∧ sameIts k O P D E = true) := ⟨hkn, hbel, heq⟩
        clear hkn hbel heq
        go_wp2
        go_ret
        exact ⟨HK.out.2.1, ret_bool (by have := HK.out.2.2; rw [HK.out.1] at this; rw [this]; simp)⟩
  · have hb : ((n : Int) != (m : Int)) = true := by simp; omega
    go_enter Try.func32, Try.ntmps32
    go_wp2
    go_ret
    exact ⟨Below.refl _ _, ret_bool (by simp [hne])⟩

set_option maxHeartbeats 400000 in
theorem equalBools_any (a a' : Option Addr) (n c m c' : Nat) (Z Y : Nat → Bool) (w : World) (hS : IsBools w a n Z) (hT : IsBools w a' m Y) (hn : n ≤ maxLen) (hm : m ≤ maxLen) :
    Calls Try.prog 31 #[.slice a n c, .slice a' m c'] w fun e w' => (∃ q, w' = w.drewN q) ∧ e = .returned (.bool (decide (n = m) && eqB n Z Y)) := by
  unfold maxLen at hn hm
  by_cases hne : n = m
  · subst hne
    have hb : ((n : Int) != (n : Int)) = false := by simp
    go_enter Try.func31, Try.ntmps31
    go_wp2
    go_loopw [13] (fun i wr => ∃ k q : Nat, k ≤ n ∧ i = .int .i64 k ∧ wr = w.drewN q ∧ eqB k Z Y = true) (fun i _ => n - (intOf i).toNat)
    case atStart => exact ⟨0, 0, Nat.zero_le _, rfl, rfl, rfl⟩
    case round =>
      obtain ⟨k, q, hk, rfl, rfl, heq⟩ := hrel
      have HE : Hid (eqB k Z Y = true) := heq
      clear heq
      by_cases hlt : k < n
      · obtain ⟨b, off, rfl, hlt2, hc⟩ := hS.at hlt
        obtain ⟨b', off', rfl, hlt2', hc'⟩ := hT.at hlt
        have h1 := hc k hlt
        have h2 := hc' k hlt
        have hlti : (k : Int) < (n : Int) := by omega
        clear hc hc'
        by_cases hzy : Z k = Y k
        · have hzb : (!(Z k == Y k)) = false := by simp [hzy]
          have HZ : Hid (Z k = Y k) := hzy
          clear hzy
          go_wp2
          go_quiet (fail)
          go_wp2
          go_roundw
          case rel => exact ⟨k + 1, q + nq, by omega, by go_num, rfl, eqB_succ k Z Y HE.out HZ.out⟩
          case measure => simp [intOf]; omega
        · have hzb : (!(Z k == Y k)) = true := by simp [hzy]
          have HZ : Hid (¬ Z k = Y k) := hzy
          clear hzy
          go_wp2
          go_quiet (fail)
          go_wp2
          go_ret
          exact ⟨⟨q + nq, by simp⟩, ret_bool (by rw [← eqB_not n k Z Y hlt HZ.out]; simp)⟩
      · have hkn : k = n := by omega
        have HK : Hid (k = n) := hkn
        clear hkn
        go_wp2
        go_ret
        exact ⟨⟨q, rfl⟩, ret_bool (by rw [← HK.out, HE.out]; simp)⟩
  · have hb : ((n : Int) != (m : Int)) = true := by simp; omega
    go_enter Try.func31, Try.ntmps31
    go_wp2
    go_ret
    exact ⟨⟨0, rfl⟩, ret_bool (by simp [hne])⟩

set_option maxHeartbeats 2000000 in
theorem implDumpSame_any (d e : Dp) (l k : DLoc) (w : World) (hI : DpIn w d l) (hI' : DpIn w e k) (hf : d.Fits) (hf' : e.Fits) :
    Calls Try.prog 10 #[dpV d l, dpV e k] w fun r w' => Below w.heap.size w w' ∧ r = .returned (.bool (d.same e)) := by
  have hln := hf.ln
  have hln' := hf'.ln
  unfold dpV
  cases h1 : (d.since == e.since) with
  | false =>
    have HX : Hid (false = d.same e) := same_since h1
    go_enter Try.func10, Try.ntmps10
    go_wp2_with fail
    go_ret
    exact ⟨((Below.refl _ _).alloc (Nat.le_refl _) _).alloc (by simp) _, ret_bool HX.out⟩
  | true =>
  cases h2 : (d.date == e.date) with
  | false =>
    have HX : Hid (false = d.same e) := same_date h2
    go_enter Try.func10, Try.ntmps10
    go_wp2_with fail
    go_ret
    exact ⟨((Below.refl _ _).alloc (Nat.le_refl _) _).alloc (by simp) _, ret_bool HX.out⟩
  | true =>
  have HX : Hid (((decide (d.ln = e.ln) && eqB d.ln d.live e.live) && (decide (d.m = e.m) && sameIts d.m d.ino e.ino d.nd e.nd)) = d.same e) := by show _ = _; unfold Dp.same; rw [h1, h2]; rfl
  go_enter Try.func10, Try.ntmps10
  go_wp2_with fail
  refine at_world (F := New2 w _ _ _ _) (new2 w _ _ _ _) ?_
  rintro W ⟨hp, hp', hb, hs⟩
  refine (equalBools_any l.lA k.lA d.ln l.lc e.ln k.lc d.live e.live W (hI.live.below (Nat.le_refl _) hb) (hI'.live.below (Nat.le_refl _) hb) hln hln').mono ?_
  rintro r w1 ⟨⟨q, rfl⟩, rfl⟩
  have p3 : W.cell? ⟨w.heap.size, 3, none⟩ = some (.slice l.iA d.m l.ic) := hp.cell 3
  have q3 : W.cell? ⟨w.heap.size + 1, 3, none⟩ = some (.slice k.iA e.m k.ic) := hp'.cell 3
  have HB : Hid (Below w.heap.size w W) := hb
  clear hp hp' hb
  cases hq1 : (decide (d.ln = e.ln) && eqB d.ln d.live e.live) with
  | false =>
    have HQ : Hid ((decide (d.ln = e.ln) && eqB d.ln d.live e.live) = false) := hq1
    clear hq1
    go_wp2
    go_ret
    exact ⟨below_drewN HB.out _, ret_bool (by rw [← HX.out, HQ.out]; rfl)⟩
  | true =>
    have HQ : Hid ((decide (d.ln = e.ln) && eqB d.ln d.live e.live) = true) := hq1
    clear hq1
    go_wp2_with fail
    have hB2 := below_drewN HB.out q
    refine (equalItems_any l.iA k.iA d.m l.ic e.m k.ic d.ino e.ino d.nd e.nd l.L k.L (W.drewN q) (hI.items.below (Nat.le_refl _) hB2) (hI'.items.below (Nat.le_refl _) hB2) hf.nds hf'.nds hf.m hf'.m).mono ?_
    rintro r w2 ⟨hb2, rfl⟩
    have HB2 : Hid (Below w.heap.size w w2 ∧ (decide (d.m = e.m) && sameIts d.m d.ino e.ino d.nd e.nd) = d.same e) := ⟨hB2.trans (hb2.mono hB2.size), by rw [← HX.out, HQ.out]; rfl⟩
    clear hb2 hB2 HB p3 q3
    rw [HB2.out.2]
    go_wp2
    go_ret
    exact ⟨HB2.out.1, rfl⟩
end Go.Proofs.Ytoblndhmkehoaaa

/-
  What TreeSame of the program answers at two trees.
-/
namespace Go.Proofs.Ytoblndhmkehoaaa
open Go.RowKit
set_option linter.unusedVariables false

set_option maxHeartbeats 2000000 in
theorem equalFunc_any (a a' : Option Addr) (n c m c' : Nat) (D E : Nat → Nd) (L M : Nat → Loc) (w : World) (hS : IsNds w a n D L) (hT : IsNds w a' m E M) (hf : FitAll n D) (hf' : FitAll m E) (hn : n ≤ maxLen) (hm : m ≤ maxLen) :
    Calls Try.prog 42 #[.slice a n c, .slice a' m c', .func (Fn.func 11) #[] #[]] w fun e w' => Below w.heap.size w w' ∧ e = .returned (.bool (decide (n = m) && sameAll n D E)) := by
  unfold maxLen at hn hm
  by_cases hne : n = m
  · subst hne
    have hb : ((n : Int) != (n : Int)) = false := by simp
    go_enter Try.func42, Try.ntmps42
    go_wp2
    go_loopw [17] (fun i wr => ∃ k : Nat, k ≤ n ∧ i = .int .i64 k ∧ Below w.heap.size w wr ∧ sameAll k D E = true) (fun i _ => n - (intOf i).toNat)
    case atStart => exact ⟨0, Nat.zero_le _, rfl, Below.refl _ _, rfl⟩
    case round =>
      obtain ⟨k, hk, rfl, hbel, heq⟩ := hrel
      by_cases hlt : k < n
      · have hSr := hS.below (Nat.le_refl _) hbel
        have hTr := hT.below (Nat.le_refl _) hbel
        obtain ⟨b, off, rfl, hlt2, hc⟩ := hSr.at hlt
        obtain ⟨b', off', rfl, hlt2', hc'⟩ := hTr.at hlt
        obtain ⟨c0, c1, c2, c3, c4, hI⟩ := hc k hlt
        obtain ⟨d0, d1, d2, d3, d4, hI'⟩ := hc' k hlt
        have hlti : (k : Int) < (n : Int) := by omega
        have HE : Hid (sameAll k D E = true ∧ Below w.heap.size w wr ∧ NdIn wr (D k) (L k) ∧ NdIn wr (E k) (M k)) := ⟨heq, hbel, hI, hI'⟩
        clear hc hc' hSr hTr hbel heq hI hI'
        go_wp2_with fail
        refine at_world (F := New2 wr _ _ _ _) (new2 wr _ _ _ _) ?_
        rintro W ⟨hp, hp', hb', hs⟩
        refine (implNodeSame_any (D k) (E k) (L k) (M k) W (HE.out.2.2.1.below (Nat.le_refl _) hb') (HE.out.2.2.2.below (Nat.le_refl _) hb') (hf k hlt) (hf' k hlt)).mono ?_
        rintro e w1 ⟨hb1, rfl⟩
        have HB : Hid (Below w.heap.size w w1) := HE.out.2.1.trans ((hb'.trans (hb1.mono (by omega))).mono HE.out.2.1.size)
        clear hp hp' hb' hs hb1 c0 c1 c2 c3 c4 d0 d1 d2 d3 d4
        cases hq : (D k).same (E k) with
        | false =>
          have HQ : Hid ((D k).same (E k) = false) := hq
          clear hq
          go_wp2
          go_ret
          exact ⟨HB.out, ret_bool (by rw [← sameAll_not n k D E hlt HQ.out]; simp)⟩
        | true =>
          have HQ : Hid ((D k).same (E k) = true) := hq
          clear hq
          go_wp2
          go_roundw
          case rel => exact ⟨k + 1, by omega, by go_num, HB.out, sameAll_succ k D E HE.out.1 HQ.out⟩
          case measure => simp [intOf]; omega
      · have hkn : k = n := by omega
        have HK : Hid (k = n ∧ Below w.heap.size w wr ∧ sameAll k D E = true) := ⟨hkn, hbel, heq⟩
        clear hkn hbel heq
        go_wp2
        go_ret
        exact ⟨HK.out.2.1, ret_bool (by have := HK.out.2.2; rw [HK.out.1] at this; rw [this]; simp)⟩
  · have hb : ((n : Int) != (m : Int)) = true := by simp; omega
    go_enter Try.func42, Try.ntmps42
    go_wp2
    go_ret
    exact ⟨Below.refl _ _, ret_bool (by simp [hne])⟩

set_option maxHeartbeats 2000000 in
theorem implTreeSame_any (a a' : Option Addr) (n c m c' : Nat) (now now' : Int) (D E : Nat → Nd) (L M : Nat → Loc) (w : World) (hS : IsNds w a n D L) (hT : IsNds w a' m E M) (hf : FitAll n D) (hf' : FitAll m E) (hn : n ≤ maxLen) (hm : m ≤ maxLen) :
    Calls Try.prog 17 #[trV a n c now, trV a' m c' now'] w fun e w' => Below w.heap.size w w' ∧ e = .returned (.bool (treeSame n m D E now now')) := by
  have hn' := hn
  have hm' := hm
  unfold maxLen at hn' hm'
  unfold trV
  cases hnc : (now == now') with
  | false =>
    have HN : Hid (false = treeSame n m D E now now') := by show _ = _; unfold treeSame; rw [hnc, Bool.and_false]
    go_enter Try.func17, Try.ntmps17
    go_wp2_with fail
    go_ret
    exact ⟨((Below.refl _ _).alloc (Nat.le_refl _) _).alloc (by simp) _, ret_bool HN.out⟩
  | true =>
    go_enter Try.func17, Try.ntmps17
    go_wp2_with fail
    refine at_world (F := New2 w _ _ _ _) (new2 w _ _ _ _) ?_
    rintro W ⟨hp, hp', hb, hs⟩
    refine (equalFunc_any a a' n c m c' D E L M W (hS.below (Nat.le_refl _) hb) (hT.below (Nat.le_refl _) hb) hf hf' hn hm).mono ?_
    rintro e w1 ⟨hb1, rfl⟩
    have HB : Hid (Below w.heap.size w w1 ∧ (decide (n = m) && sameAll n D E) = treeSame n m D E now now') := ⟨hb.trans (hb1.mono (by omega)), by unfold treeSame; rw [hnc, Bool.and_true]⟩
    clear hp hp' hb hs hb1
    rw [HB.out.2]
    go_wp2
    go_ret
    exact ⟨HB.out.1, rfl⟩
end Go.Proofs.Ytoblndhmkehoaaa

/-
  For every code, FnDumpWhole answers true: what is kept whole of two drawn trees is one just if the trees are; of a tree of one turn more, another date is kept; and the code reads afterwards as it read before. No condition.
-/
namespace Go.Proofs.Ytoblndhmkehoaaa.fnDumpWhole
open Go.ChangeShapes Go.WideShapes Go.ChangeAt Go.RowKit Go.Deep
set_option linter.unusedVariables false
set_option linter.unusedSimpArgs false

theorem two_bools (a b : Bool) (h : ¬ (a = true ∧ b = true)) : a = false ∨ (a = true ∧ b = false) := by cases a <;> cases b <;> simp_all

/-- All variables that hold trees and what is kept. -/
structure Vars (w : World) (XA XB X5 X7 X9 : Nat) (a b : Option Addr) (n c n' c' : Nat) (now now' : Int) (D D' : Nat → Nd) (L L' : Nat → Loc) (dA dB : Dp) (l5 l7 l9 : DLoc) (W : World) : Prop where
  a : TVar XA a n c now D L W
  b : TVar XB b n' c' now' D' L' W
  dv : DVar X5 dA l5 W
  wv : DVar X7 dA l7 W
  ev : DVar X9 dB l9 W
  bel : Below w.heap.size w W

theorem Vars.below {w : World} {XA XB X5 X7 X9 : Nat} {a b : Option Addr} {n c n' c' : Nat} {now now' : Int} {D D' : Nat → Nd} {L L' : Nat → Loc} {dA dB : Dp} {l5 l7 l9 : DLoc} {W W' : World} (h : Vars w XA XB X5 X7 X9 a b n c n' c' now now' D D' L L' dA dB l5 l7 l9 W) (hb : Below W.heap.size W W') : Vars w XA XB X5 X7 X9 a b n c n' c' now now' D D' L L' dA dB l5 l7 l9 W' :=
  ⟨h.a.below hb, h.b.below hb, h.dv.below hb, h.wv.below hb, h.ev.below hb, h.bel.trans (hb.mono h.bel.size)⟩

set_option maxRecDepth 100000 in
set_option maxHeartbeats 8000000 in
theorem walk (a0 : Option Addr) (len0 cap0 : Nat) (zs0 : Nat → Int) (w : World) (hC : IsCode w a0 len0 zs0) (hl : len0 ≤ maxLen) (hp : len0 ≤ cap0) :
    Calls Try.prog 5 #[.slice a0 len0 cap0] w fun e w' => e = .returned (.bool true) ∧ Below w.heap.size w w' := by
  have hl' := hl
  unfold maxLen at hl'
  by_cases hbig : (1048576 : Int) < len0
  · go_enter Try.func5, Try.ntmps5
    go_wp2
    go_ret
    exact ⟨rfl, Below.refl _ _⟩
  · go_enter Try.func5, Try.ntmps5
    go_wp2_with fail
    refine (drawTreeSame_any w a0 len0 cap0 zs0 hC hl hp).mono ?_
    rintro e w1 ⟨g, c, n, D, L, now, g', c', n', D', L', now', rfl, hd⟩
    unfold trV
    obtain ⟨dA, okA, hsA, hiA, hvA, hnA, hanA⟩ := dump_ans2 n D now 0 hd.fair.fits hd.fair.size
    obtain ⟨dB, okB, hsB, hiB, hvB, hnB, hanB⟩ := dump_ans2 n' D' now' 0 hd.fair'.fits hd.fair'.size
    have HA : Hid (DpSmall dA ∧ (okA = true ↔ TreeGood n D now ∧ 0 ≤ (0 : Int) ∧ 0 ≤ now) ∧ (okA = true → dA = dpOf n D now 0)) := ⟨hsA, hiA, hvA⟩
    have HB : Hid (DpSmall dB ∧ (okB = true ↔ TreeGood n' D' now' ∧ 0 ≤ (0 : Int) ∧ 0 ≤ now') ∧ (okB = true → dB = dpOf n' D' now' 0)) := ⟨hsB, hiB, hvB⟩
    have HAA : Hid _ := hanA
    have HAB : Hid _ := hanB
    have HFT : Hid (Fair n D ∧ Fair n' D' ∧ (0 ≤ now ∧ now ≤ 1001) ∧ (0 ≤ now' ∧ now' ≤ 1002)) := ⟨hd.fair, hd.fair', hd.now0, hd.now1⟩
    have HD : Hid _ := hd
    clear hd hsA hiA hvA hanA hsB hiB hvB hanB hnA hnB
    go_wp2_with fail
    obtain ⟨XB, hXB⟩ : ∃ X, X = w1.heap.size + 1 := ⟨_, rfl⟩
    rw [← hXB]
    obtain ⟨XA, hXA⟩ : ∃ X, X = w1.heap.size := ⟨_, rfl⟩
    rw [← hXA]
    have h2 : TVar XA (some ⟨g, 0, none⟩) n c now D L ((w1.alloc (.cells #[.slice (some ⟨g, 0, none⟩) n c, .int .i64 now] 25)).alloc (.cells #[.slice (some ⟨g', 0, none⟩) n' c', .int .i64 now'] 25)) ∧ TVar XB (some ⟨g', 0, none⟩) n' c' now' D' L' ((w1.alloc (.cells #[.slice (some ⟨g, 0, none⟩) n c, .int .i64 now] 25)).alloc (.cells #[.slice (some ⟨g', 0, none⟩) n' c', .int .i64 now'] 25)) ∧ Below w.heap.size w ((w1.alloc (.cells #[.slice (some ⟨g, 0, none⟩) n c, .int .i64 now] 25)).alloc (.cells #[.slice (some ⟨g', 0, none⟩) n' c', .int .i64 now'] 25)) := by
      obtain ⟨n0, n1, n2, n3⟩ := new2 w1 #[.slice (some ⟨g, 0, none⟩) n c, .int .i64 now] 25 #[.slice (some ⟨g', 0, none⟩) n' c', .int .i64 now'] 25
      rw [← hXB] at n1
      rw [← hXA] at n0
      have h3 := HD.out.below n2
      exact ⟨⟨n0, h3.own.nds⟩, ⟨n1, h3.own'.nds⟩, h3.bel⟩
    refine at_world (F := fun W => TVar XA (some ⟨g, 0, none⟩) n c now D L W ∧ TVar XB (some ⟨g', 0, none⟩) n' c' now' D' L' W ∧ Below w.heap.size w W) h2 ?_
    clear h2 hXA hXB HD w1
    rintro W2 ⟨ha2, hb2, hB2⟩
    have hn64 : In64 now := by have := HFT.out.2.2.1; unfold In64; omega
    have hn64' : In64 now' := by have := HFT.out.2.2.2; unfold In64; omega
    refine (implDumpOf_any (some ⟨g, 0, none⟩) n c now 0 D L W2 ha2.i HFT.out.1.fits HFT.out.1.len HFT.out.1.size hn64).mono ?_
    intro e w3 hpost
    obtain ⟨hb3, l5, rfl, hod3⟩ := HAA.out _ _ _ hpost
    unfold dpV
    have ha3 := ha2.below hb3
    have hlA := ha3.v.lt
    have hneA : XA ≠ w3.heap.size := by omega
    obtain ⟨a0', a1'⟩ := ha3.cells
    have H3 : Hid (TVar XA (some ⟨g, 0, none⟩) n c now D L w3 ∧ TVar XB (some ⟨g', 0, none⟩) n' c' now' D' L' w3 ∧ Below w.heap.size w w3 ∧ DpIn w3 dA l5) := ⟨ha3, hb2.below hb3, hB2.trans (hb3.mono hB2.size), hod3.dpIn⟩
    clear ha2 hb2 hB2 hpost hb3 hod3 ha3
    go_wp2_with fail
    refine at_world (F := New1 w3 (dV dA l5) 31) (new1 w3 _ _) ?_
    rintro W4 ⟨hv4, hb4, hs4⟩
    refine (specDumpOf_any (some ⟨g, 0, none⟩) n c now 0 D L W4 (H3.out.1.below hb4).i HFT.out.1.fits HFT.out.1.len HFT.out.1.size).mono ?_
    intro e w5 hpost
    obtain ⟨hb5, l7, rfl, hod5⟩ := HAA.out _ _ _ hpost
    unfold dpV
    have hb35 : Below w3.heap.size w3 w5 := hb4.trans (hb5.mono (by omega))
    have h5b := H3.out.2.1.below hb35
    have hlB := h5b.v.lt
    have hneB : XB ≠ w5.heap.size := by omega
    obtain ⟨b0', b1'⟩ := h5b.cells
    have H5 : Hid (TVar XA (some ⟨g, 0, none⟩) n c now D L w5 ∧ TVar XB (some ⟨g', 0, none⟩) n' c' now' D' L' w5 ∧ Below w.heap.size w w5 ∧ DVar w3.heap.size dA l5 w5 ∧ DpIn w5 dA l7) := ⟨H3.out.1.below hb35, h5b, H3.out.2.2.1.trans (hb35.mono H3.out.2.2.1.size), (DVar.new H3.out.2.2.2 hv4 hb4).below hb5, hod5.dpIn⟩
    clear H3 hv4 hb4 hs4 hb5 hb35 hod5 hpost h5b a0' a1' hlA hneA
    go_wp2_with fail
    refine at_world (F := New1 w5 (dV dA l7) 31) (new1 w5 _ _) ?_
    rintro W6 ⟨hv6, hb6, hs6⟩
    refine (implDumpOf_any (some ⟨g', 0, none⟩) n' c' now' 0 D' L' W6 (H5.out.2.1.below hb6).i HFT.out.2.1.fits HFT.out.2.1.len HFT.out.2.1.size hn64').mono ?_
    intro e w7 hpost
    obtain ⟨hb7, l9, rfl, hod7⟩ := HAB.out _ _ _ hpost
    unfold dpV
    have hb57 : Below w5.heap.size w5 w7 := hb6.trans (hb7.mono (by omega))
    have H7 : Hid (TVar XA (some ⟨g, 0, none⟩) n c now D L w7 ∧ TVar XB (some ⟨g', 0, none⟩) n' c' now' D' L' w7 ∧ Below w.heap.size w w7 ∧ DVar w3.heap.size dA l5 w7 ∧ DVar w5.heap.size dA l7 w7 ∧ DpIn w7 dB l9) := ⟨H5.out.1.below hb57, H5.out.2.1.below hb57, H5.out.2.2.1.trans (hb57.mono H5.out.2.2.1.size), H5.out.2.2.2.1.below hb57, (DVar.new H5.out.2.2.2.2 hv6 hb6).below hb7, hod7.dpIn⟩
    clear H5 hv6 hb6 hs6 hb7 hb57 hod7 hpost b0' b1' hlB hneB
    generalize w3.heap.size = X5 at H7 ⊢
    generalize w5.heap.size = X7 at H7 ⊢
    have hl5 := H7.out.2.2.2.1.v.lt
    have hl7 := H7.out.2.2.2.2.1.v.lt
    have hne5 : X5 ≠ w7.heap.size := by omega
    have hne7 : X7 ≠ w7.heap.size := by omega
    obtain ⟨u0, u1, u2, u3⟩ := H7.out.2.2.2.1.cells
    obtain ⟨v0, v1, v2, v3⟩ := H7.out.2.2.2.2.1.cells
    have hok : (!(okA == okA)) = false := by cases okA <;> rfl
    have hok2 : (okA == okA) = true := by cases okA <;> rfl
    go_wp2_with fail
    obtain ⟨X9, hX9⟩ : ∃ X, X = w7.heap.size := ⟨_, rfl⟩
    have H8 : Hid (Vars w XA XB X5 X7 X9 (some ⟨g, 0, none⟩) (some ⟨g', 0, none⟩) n c n' c' now now' D D' L L' dA dB l5 l7 l9 (w7.alloc (.cells (dV dB l9) 31))) := by
      obtain ⟨hv8, hb8, hs8⟩ := new1 w7 (dV dB l9) 31
      exact ⟨H7.out.1.below hb8, H7.out.2.1.below hb8, H7.out.2.2.2.1.below hb8, H7.out.2.2.2.2.1.below hb8, by rw [hX9]; exact DVar.new H7.out.2.2.2.2.2 hv8 hb8, H7.out.2.2.1.trans (hb8.mono H7.out.2.2.1.size)⟩
    rw [← hX9]
    refine at_world (F := Vars w XA XB X5 X7 X9 (some ⟨g, 0, none⟩) (some ⟨g', 0, none⟩) n c n' c' now now' D D' L L' dA dB l5 l7 l9) H8.out ?_
    clear H8 H7 hX9 u0 u1 u2 u3 v0 v1 v2 v3 hl5 hl7 hne5 hne7 W2 W4 W6
    clear w3 w5 w7
    intro W8 hV8
    refine (implDumpSame_any dA dA l5 l7 W8 hV8.dv.i hV8.wv.i HA.out.1.fits HA.out.1.fits).mono ?_
    rintro e w9 ⟨hb9, rfl⟩
    rw [Dp.same_self]
    have HV9 : Hid (Vars w XA XB X5 X7 X9 (some ⟨g, 0, none⟩) (some ⟨g', 0, none⟩) n c n' c' now now' D D' L L' dA dB l5 l7 l9 w9) := hV8.below hb9
    clear hV8 hb9
    by_cases hgo : okA = true ∧ okB = true
    · obtain ⟨rfl, rfl⟩ := hgo
      have hgA := (HA.out.2.1.1 rfl).1
      have hgB := (HB.out.2.1.1 rfl).1
      have HSM : Hid ((dA.same dB = treeSame n n' D D' now now') ∧ dA = dpOf n D now 0 ∧ TreeGood n D now) := ⟨by rw [HA.out.2.2 rfl, HB.out.2.2 rfl]; exact whole_same hgA hgB, HA.out.2.2 rfl, hgA⟩
      obtain ⟨s, hs⟩ : ∃ s, s = treeSame n n' D D' now now' := ⟨_, rfl⟩
      have I1 : Hid (∀ W, Vars w XA XB X5 X7 X9 (some ⟨g, 0, none⟩) (some ⟨g', 0, none⟩) n c n' c' now now' D D' L L' dA dB l5 l7 l9 W → ∀ q : Lat W.heap.size W, Calls Try.prog 10 #[.agg #[.int .i64 dA.since, .int .i64 dA.date, .slice l5.lA dA.ln l5.lc, .slice l5.iA dA.m l5.ic], .agg #[.int .i64 dB.since, .int .i64 dB.date, .slice l9.lA dB.ln l9.lc, .slice l9.iA dB.m l9.ic]] q.val fun e w'' => e = .returned (.bool s) ∧ ∃ m : Lat W.heap.size W, w'' = m.val) := fun W hW q =>
        Calls.lat_of (implDumpSame_any dA dB l5 l9 q.val (hW.below q.bel).dv.i (hW.below q.bel).ev.i HA.out.1.fits HB.out.1.fits) (fun e w' h => ⟨by rw [hs, ← HSM.out.1]; exact h.2, h.1.mono q.bel.size⟩)
      have I2 : Hid (∀ W, Vars w XA XB X5 X7 X9 (some ⟨g, 0, none⟩) (some ⟨g', 0, none⟩) n c n' c' now now' D D' L L' dA dB l5 l7 l9 W → ∀ q : Lat W.heap.size W, Calls Try.prog 17 #[.agg #[.slice (some ⟨g, 0, none⟩) n c, .int .i64 now], .agg #[.slice (some ⟨g', 0, none⟩) n' c', .int .i64 now']] q.val fun e w'' => e = .returned (.bool s) ∧ ∃ m : Lat W.heap.size W, w'' = m.val) := fun W hW q =>
        Calls.lat_of (implTreeSame_any (some ⟨g, 0, none⟩) (some ⟨g', 0, none⟩) n c n' c' now now' D D' L L' q.val (hW.below q.bel).a.i (hW.below q.bel).b.i HFT.out.1.fits HFT.out.2.1.fits HFT.out.1.len HFT.out.2.1.len) (fun e w' h => ⟨by rw [hs]; exact h.2, h.1.mono q.bel.size⟩)
      have HAF : Hid dA.Fits := HA.out.1.fits
      clear hs hgA hgB HA HB HAA HAB hok hok2
      obtain ⟨a0', a1'⟩ := HV9.out.a.cells
      obtain ⟨b0', b1'⟩ := HV9.out.b.cells
      obtain ⟨u0, u1, u2, u3⟩ := HV9.out.dv.cells
      obtain ⟨v0, v1, v2, v3⟩ := HV9.out.ev.cells
      have TA0 := Lat.cell (B := w9.heap.size) a0' HV9.out.a.v.lt
      have TA1 := Lat.cell (B := w9.heap.size) a1' HV9.out.a.v.lt
      have TB0 := Lat.cell (B := w9.heap.size) b0' HV9.out.b.v.lt
      have TB1 := Lat.cell (B := w9.heap.size) b1' HV9.out.b.v.lt
      have TU0 := Lat.cell (B := w9.heap.size) u0 HV9.out.dv.v.lt
      have TU1 := Lat.cell (B := w9.heap.size) u1 HV9.out.dv.v.lt
      have TU2 := Lat.cell (B := w9.heap.size) u2 HV9.out.dv.v.lt
      have TU3 := Lat.cell (B := w9.heap.size) u3 HV9.out.dv.v.lt
      have TV0 := Lat.cell (B := w9.heap.size) v0 HV9.out.ev.v.lt
      have TV1 := Lat.cell (B := w9.heap.size) v1 HV9.out.ev.v.lt
      have TV2 := Lat.cell (B := w9.heap.size) v2 HV9.out.ev.v.lt
      have TV3 := Lat.cell (B := w9.heap.size) v3 HV9.out.ev.v.lt
      have J1 := I1.out w9 HV9.out
      have J2 := I2.out w9 HV9.out
      have K1 : Hid _ := J1
      have K2 : Hid _ := J2
      clear J1 J2
      have hss : (s != s) = false := by simp
      have hss2 : (!(s == s)) = false := by simp
      go_wp2_with fail
      refine wp_region_lat (B := w9.heap.size) (w0 := w9) (by kernel_rfl) (by kernel_rfl) (Below.refl _ _) ?_
      repeat (go_big_quiet_step (first | with_reducible exact K1.out _ | with_reducible exact K2.out _))
      refine wpQuiet_nil ?_
      rintro _ ⟨nq, rfl⟩
      have h10 := HV9.out.below nq.bel
      obtain ⟨W10, hW10⟩ : ∃ W, W = nq.val := ⟨_, rfl⟩
      rw [← hW10] at h10 ⊢
      have HV10 : Hid _ := h10
      clear h10 hW10 nq K1 K2 TA0 TA1 TB0 TB1 TU0 TU1 TU2 TU3 TV0 TV1 TV2 TV3 a0' a1' b0' b1' u0 u1 u2 u3 v0 v1 v2 v3 HV9
      clear w9
      obtain ⟨a0', a1'⟩ := HV10.out.a.cells
      obtain ⟨b0', b1'⟩ := HV10.out.b.cells
      obtain ⟨u0, u1, u2, u3⟩ := HV10.out.dv.cells
      obtain ⟨v0, v1, v2, v3⟩ := HV10.out.ev.cells
      by_cases hmax : 1000 ≤ now
      · have hmd : decide (1000 ≤ now) = true := by simp; omega
        have hss3 : (s == s) = true := by simp
        have TA0 := Lat.cell (B := W10.heap.size) a0' HV10.out.a.v.lt
        have TA1 := Lat.cell (B := W10.heap.size) a1' HV10.out.a.v.lt
        have TB0 := Lat.cell (B := W10.heap.size) b0' HV10.out.b.v.lt
        have TB1 := Lat.cell (B := W10.heap.size) b1' HV10.out.b.v.lt
        have TU0 := Lat.cell (B := W10.heap.size) u0 HV10.out.dv.v.lt
        have TU1 := Lat.cell (B := W10.heap.size) u1 HV10.out.dv.v.lt
        have TU2 := Lat.cell (B := W10.heap.size) u2 HV10.out.dv.v.lt
        have TU3 := Lat.cell (B := W10.heap.size) u3 HV10.out.dv.v.lt
        have TV0 := Lat.cell (B := W10.heap.size) v0 HV10.out.ev.v.lt
        have TV1 := Lat.cell (B := W10.heap.size) v1 HV10.out.ev.v.lt
        have TV2 := Lat.cell (B := W10.heap.size) v2 HV10.out.ev.v.lt
        have TV3 := Lat.cell (B := W10.heap.size) v3 HV10.out.ev.v.lt
        have K1 : Hid _ := I1.out W10 HV10.out
        have K2 : Hid _ := I2.out W10 HV10.out
        go_wp2_with fail
        refine wp_region_lat (B := W10.heap.size) (w0 := W10) (by kernel_rfl) (by kernel_rfl) (Below.refl _ _) ?_
        repeat (go_big_quiet_step (first | with_reducible exact K1.out _ | with_reducible exact K2.out _))
        refine wpQuiet_nil ?_
        rintro _ ⟨nq, rfl⟩
        have HE : Hid (Below w.heap.size w nq.val) := (HV10.out.below nq.bel).bel
        clear K1 K2 TA0 TA1 TB0 TB1 TU0 TU1 TU2 TU3 TV0 TV1 TV2 TV3 a0' a1' b0' b1' u0 u1 u2 u3 v0 v1 v2 v3 HV10 I1 I2
        go_wp2
        go_ret
        exact ⟨by simp, HE.out⟩
      · have hmd : decide (1000 ≤ now) = false := by simp; omega
        have hnw := HFT.out.2.2.1
        have hwn : IntKind.i64.wrap (now + 1) = now + 1 := wrap_i64 _ (by omega) (by omega)
        have hal := HV10.out.a.v.lt
        have hneA : XA ≠ W10.heap.size := by omega
        obtain ⟨dC, okC, hsC, hiC, hvC, hnC, hanC⟩ := dump_ans2 n D (now + 1) 0 HFT.out.1.fits HFT.out.1.size
        have hgC : TreeGood n D (now + 1) := good_more HSM.out.2.2 (by omega)
        obtain rfl : okC = true := hiC.2 ⟨hgC, by omega, by omega⟩
        have HC3 : Hid (DpSmall dC ∧ dC = dpOf n D (now + 1) 0) := ⟨hsC, hvC rfl⟩
        have HAC : Hid _ := hanC
        clear hsC hiC hvC hnC hanC hgC I1 I2 hss hss2 b0' b1' v0 v1 v2 v3
        go_wp2_with fail
        obtain ⟨hv11, hb11, hs11⟩ := new1 W10 #[.slice (some ⟨g, 0, none⟩) n c, .int .i64 (now + 1)] 25
        have H11 : Hid (Vars w XA XB X5 X7 X9 (some ⟨g, 0, none⟩) (some ⟨g', 0, none⟩) n c n' c' now now' D D' L L' dA dB l5 l7 l9 (W10.alloc (.cells #[.slice (some ⟨g, 0, none⟩) n c, .int .i64 (now + 1)] 25))) := HV10.out.below hb11
        clear hv11 hb11 hs11
        refine at_world (F := Vars w XA XB X5 X7 X9 (some ⟨g, 0, none⟩) (some ⟨g', 0, none⟩) n c n' c' now now' D D' L L' dA dB l5 l7 l9) H11.out ?_
        intro W11 hV11
        refine (implDumpOf_any (some ⟨g, 0, none⟩) n c (now + 1) 0 D L W11 hV11.a.i HFT.out.1.fits HFT.out.1.len HFT.out.1.size (by unfold In64; omega)).mono ?_
        intro e w12 hpost
        obtain ⟨hb12, l12, rfl, hod12⟩ := HAC.out _ _ _ hpost
        unfold dpV
        have hV12 := hV11.below hb12
        obtain ⟨u0', u1', u2', u3'⟩ := hV12.dv.cells
        have hdl := hV12.dv.v.lt
        have hneD : X5 ≠ w12.heap.size := by omega
        have H12 : Hid (Vars w XA XB X5 X7 X9 (some ⟨g, 0, none⟩) (some ⟨g', 0, none⟩) n c n' c' now now' D D' L L' dA dB l5 l7 l9 w12 ∧ DpIn w12 dC l12) := ⟨hV12, hod12.dpIn⟩
        have hdate : dC.date = dA.date + 1 := by rw [HC3.out.2, HSM.out.2.1]; rfl
        have hdm : dC.m = dA.m := by rw [HC3.out.2, HSM.out.2.1]; rfl
        have hdA : dA.date = now := by rw [HSM.out.2.1]; rfl
        have hwd : IntKind.i64.wrap (dA.date + 1) = dA.date + 1 := by rw [hdA]; exact hwn
        have HDS : Hid (dC.same dA = false) := by show _ = _; rw [HC3.out.2, HSM.out.2.1]; exact later_same
        clear hV11 hV12 hb12 hpost hod12 H11 HV10 u0 u1 u2 u3 a0' a1'
        have z1 : (dC.date == dA.date + 1) = true := by rw [hdate]; simp
        have z2 : ((dC.m : Int) == (dA.m : Int)) = true := by rw [hdm]; simp
        clear hdate hdm hdA
        go_wp2_with fail
        refine at_world (F := New1 w12 (dV dC l12) 31) (new1 w12 _ _) ?_
        rintro W13 ⟨hv13, hb13, hs13⟩
        have hV13 := H12.out.1.below hb13
        have hC13 := DVar.new H12.out.2 hv13 hb13
        refine (implDumpSame_any dC dA l12 l5 W13 hC13.i hV13.dv.i HC3.out.1.fits HAF.out).mono ?_
        rintro e w14 ⟨hb14, rfl⟩
        rw [HDS.out]
        obtain ⟨_, _, _, q3⟩ := (hV13.below hb14).dv.cells
        obtain ⟨_, _, _, y3⟩ := (hC13.below hb14).cells
        have HE : Hid (Below w.heap.size w w14) := (hV13.below hb14).bel
        clear hV13 hC13 hb14 hv13 hb13 hs13 H12 u0' u1' u2' u3'
        go_wp2
        go_ret
        exact ⟨rfl, HE.out⟩
    · have hcase := two_bools okA okB hgo
      have HS : Hid (∀ W, Vars w XA XB X5 X7 X9 (some ⟨g, 0, none⟩) (some ⟨g', 0, none⟩) n c n' c' now now' D D' L L' dA dB l5 l7 l9 W → Calls Try.prog 10 #[.agg #[.int .i64 dA.since, .int .i64 dA.date, .slice l5.lA dA.ln l5.lc, .slice l5.iA dA.m l5.ic], .agg #[.int .i64 dA.since, .int .i64 dA.date, .slice l7.lA dA.ln l7.lc, .slice l7.iA dA.m l7.ic]] W fun e w' => e = .returned (.bool true) ∧ Below w.heap.size w w') := fun W hW =>
        (implDumpSame_any dA dA l5 l7 W hW.dv.i hW.wv.i HA.out.1.fits HA.out.1.fits).mono fun e w' ⟨hb, he⟩ => ⟨by rw [he, Dp.same_self], hW.bel.trans (hb.mono hW.bel.size)⟩
      obtain ⟨u0, u1, u2, u3⟩ := HV9.out.dv.cells
      obtain ⟨v0, v1, v2, v3⟩ := HV9.out.wv.cells
      clear hgo HA HB HAA HAB
      rcases hcase with rfl | ⟨rfl, rfl⟩
      · go_wp2_with fail
        refine (HS.out w9 HV9.out).mono ?_
        rintro e w10 ⟨rfl, hb10⟩
        have HE : Hid _ := hb10
        clear hb10 u0 u1 u2 u3 v0 v1 v2 v3
        go_wp2
        go_ret
        exact ⟨rfl, HE.out⟩
      · go_wp2_with fail
        refine (HS.out w9 HV9.out).mono ?_
        rintro e w10 ⟨rfl, hb10⟩
        have HE : Hid _ := hb10
        clear hb10 u0 u1 u2 u3 v0 v1 v2 v3
        go_wp2
        go_ret
        exact ⟨rfl, HE.out⟩

set_option maxRecDepth 100000 in
theorem lifted (os : Os) (started : os.Started) (H : Type) (enc : TypeId × Value → H) :
    ReturnsInHanded {} Try.checked os 5 .any (Rows.fnDumpWholeSpec.pre6 enc Try.prog Try.f5 Rows.fnDumpWholeRow.domain false) (Rows.fnDumpWholeSpec.post enc Try.prog Try.f5 false true false false) := by
  refine returnsInHanded_of_change (C := Try.checked) own started (by kernel_rfl) Try.func5
    (ChangeSpec.witness6 (enc := enc) (C := Try.checked) false ⟨#[], #[.slice none 0 0], []⟩ 8 (by kernel_rfl) (by kernel_rfl) (by kernel_rfl) (by kernel_rfl)) ?_
  intro W base args ds gs before hval0 hW hcnd _
  have hval : ∀ (j : Nat) t v, Try.f5.params[j]? = some t → args[j]? = some v → Value.okWide Try.prog W .any base t v := hval0
  have hW' := hW
  obtain ⟨p, q, hA0, hV, rfl, hfz, hnd⟩ := hW
  have hA : DataW.TrodAll enc Try.prog W 0 (fun _ => true) true Try.f5.params.toList args.toList ds p := hA0
  rw [Try.params5] at hA hval
  obtain ⟨v0, vs0, d0, ds0, p0, q0, hargs, rfl, rfl, h0, r0⟩ := trodAll_cons hA
  obtain ⟨rfl, rfl, rfl⟩ := trodAll_nil r0
  obtain rfl : args = #[v0] := by cases args; simp_all
  obtain ⟨rfl, rfl⟩ := trodVars_none hV
  obtain ⟨a0, len0, cap0, rfl⟩ := okWide_slice Try.underlying22 (hval 0 22 v0 rfl rfl)
  have k0 := h0
  have lt0 : ∀ x ∈ p0, x.block < W.heap.size := by obtain ⟨m, hm⟩ := k0; exact DataW.trod_lt m _ _ _ hm
  obtain ⟨zs0, hC0, hl0, hp0⟩ := openCode h0
  clear hA0 hval0
  refine (walk a0 len0 cap0 zs0 W hC0 hl0 hp0).mono fun e W' ⟨he, bel⟩ => ?_
  subst he
  exact ⟨_, rfl, _, _, _, [], _, [], hW', trodAll_mk1 (shut_bool Try.underlying4 _), (trodAll_cons_mk (Below.trod laidOut (by kernel_rfl) (of_decide_eq_true (by kernel_rfl)) k0 bel lt0) trodAll_mk0), rfl, bel.frame _, fun h => by cases h⟩

theorem over : Rows.fnDumpWholeRow.holds Try.pinned (OpenSpec.ofChange Rows.fnDumpWholeSpec) :=
  OpenClaim.holds_of_wide 5 Try.f5 rfl rfl rfl rfl rfl rfl rfl ⟨rfl, rfl, rfl, rfl, rfl⟩ rfl rfl rfl rfl rfl (by kernel_rfl) Try.func5 (by kernel_rfl)
    (of_decide_eq_true (by kernel_rfl)) (by unfold Func.isWrapper; first | (rw [if_pos (by decide +kernel)]; kernel_rfl) | (rw [if_neg (by decide +kernel)]; exact ⟨rfl, rfl⟩))
    (fun os started H enc _ => lifted os started H enc)
end Go.Proofs.Ytoblndhmkehoaaa.fnDumpWhole

namespace Go.Proofs.Ytoblndhmkehoaaa
theorem fnDumpWhole_holds : Rows.FnDumpWholeSaid := fnDumpWhole.over
end Go.Proofs.Ytoblndhmkehoaaa
