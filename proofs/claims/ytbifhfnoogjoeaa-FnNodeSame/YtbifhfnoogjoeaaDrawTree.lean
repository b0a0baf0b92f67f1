/-
  What the draws of trees give: a tree in new memory, bent or not.
-/
import Derived.Test.YtbifhfnoogjoeaaDrawBent
import Derived.Test.YtbifhfnoogjoeaaOpenCode
namespace Go.Proofs.Ytbifhfnoogjoeaa
open Go.RowKit Go.Deep
set_option linter.unusedVariables false

/-- A drawn tree lies in new memory. -/
structure DrawnT (w : World) (g c n : Nat) (D : Nat → Nd) (L : Nat → Loc) (now : Int) (w' : World) : Prop where
  own : OwnT w' w.heap.size g c n D L
  fair : Fair n D
  now0 : 0 ≤ now
  now1 : now ≤ 1001
  bel : Below w.heap.size w w'

theorem sizeTo_le {n : Nat} {D : Nat → Nd} (k : Nat) (h : ∀ i, i < n → (D i).size ≤ k) : ∀ m, m ≤ n → sizeTo D m ≤ m * k
  | 0, _ => by simp [sizeTo]
  | m + 1, hm => by
    have h1 := sizeTo_le k h m (by omega)
    have h2 := h m (by omega)
    rw [sizeTo_succ, Nat.add_mul]
    omega

theorem sumTo_le {n : Nat} {S : Nat → ByteArray} (k : Nat) (h : ∀ i, i < n → (S i).size ≤ k) : ∀ m, m ≤ n → sumTo S m ≤ m * k
  | 0, _ => by simp [sumTo]
  | m + 1, hm => by
    have h1 := sumTo_le k h m (by omega)
    have h2 := h m (by omega)
    rw [sumTo_succ, Nat.add_mul]
    omega

theorem FairNd.small {d : Nd} (h : FairNd d) : d.size ≤ 100 := by
  have h1 := h.nn
  have h2 := h.kn
  have h3 := h.text
  have h4 := sumTo_le 4 (fun i hi => (h.names i hi).size) d.nn (Nat.le_refl _)
  unfold Nd.size
  omega

theorem Fair.size {n : Nat} {D : Nat → Nd} (h : Fair n D) : sizeTo D n ≤ 1048576 := by
  have h1 := sizeTo_le 100 (fun i hi => (h.each i hi).small) n (Nat.le_refl _)
  have h2 := h.few
  omega

theorem Fair.len {n : Nat} {D : Nat → Nd} (h : Fair n D) : n ≤ maxLen := by have := h.few; unfold maxLen; omega

section
variable {w : World} {g c n : Nat} {D : Nat → Nd} {L : Nat → Loc} {now : Int} {w' w'' : World}

theorem DrawnT.nds (h : DrawnT w g c n D L now w') : IsNds w' (some ⟨g, 0, none⟩) n D L := h.own.nds

theorem DrawnT.below (h : DrawnT w g c n D L now w') (hb : Below w'.heap.size w' w'') : DrawnT w g c n D L now w'' :=
  ⟨h.own.below hb, h.fair, h.now0, h.now1, h.bel.trans (hb.mono h.bel.size)⟩
end

/-- .. and in a variable of the law's. -/
structure InT (w : World) (T g c n : Nat) (D : Nat → Nd) (L : Nat → Loc) (now : Int) (W : World) : Prop where
  drawn : DrawnT w g c n D L now W
  t : Blk W T #[.slice (some ⟨g, 0, none⟩) n c, .int .i64 now] 25

section
variable {w : World} {T g c n : Nat} {D : Nat → Nd} {L : Nat → Loc} {now : Int} {W W' : World}
theorem InT.below (h : InT w T g c n D L now W) (hb : Below W.heap.size W W') : InT w T g c n D L now W' := ⟨h.drawn.below hb, h.t.below hb h.t.lt⟩
theorem InT.drew (h : InT w T g c n D L now W) (k : Nat) : InT w T g c n D L now (W.drewN k) := h.below (below_drewN (Below.refl _ _) k)
theorem InT.alloc (h : InT w T g c n D L now W) (o : Obj) : InT w T g c n D L now (W.alloc o) := h.below ((Below.refl _ _).alloc (Nat.le_refl _) _)
theorem InT.start (h : DrawnT w g c n D L now W) : InT w W.heap.size g c n D L now (W.alloc (.cells #[.slice (some ⟨g, 0, none⟩) n c, .int .i64 now] 25)) := ⟨h.below ((Below.refl _ _).alloc (Nat.le_refl _) _), Blk.new W _ _⟩
theorem InT.in64 (h : InT w T g c n D L now W) : In64 now := by have h0 := h.drawn.now0; have h1 := h.drawn.now1; unfold In64; omega
end

/-- The answer of a draw is written into its block. -/
structure DEnd (w : World) (B g c n : Nat) (D : Nat → Nd) (L : Nat → Loc) (now : Int) (W : World) : Prop where
  ans : Blk W B #[.slice (some ⟨g, 0, none⟩) n c, .int .i64 now] 25
  drawn : DrawnT w g c n D L now W

/-- What is known of a drawn tree behind a reader of one's own: the answer's block is w.heap.size, the reader's the next one. -/
structure RT (w : World) (a : Option Addr) (len cp : Nat) (zs : Nat → Int) (q g c n : Nat) (D : Nat → Nd) (L : Nat → Loc) (now : Int) (W : World) : Prop where
  rd : IsRd W (w.heap.size + 1) a len cp zs q
  res : Blk W w.heap.size #[.slice none 0 0, .int .i64 0] 25
  own : OwnT W (w.heap.size + 2) g c n D L
  fair : Fair n D
  now0 : 0 ≤ now
  now1 : now ≤ 1001
  bel : Below w.heap.size w W

theorem RT.start {w w1 w2 : World} {a : Option Addr} {len cp : Nat} {zs : Nat → Int} {q g c n : Nat} {D : Nat → Nd} {L : Nat → Loc} {now : Int} (h1 : Below (w.heap.size + 1) (w.alloc (.cells #[.slice none 0 0, .int .i64 0] 25)) w1) (hl : w.heap.size + 2 ≤ w1.heap.size)
    (h : BentD w1 (w.heap.size + 1) a len cp zs q g c n D L w2) (h0 : 0 ≤ now) (h1' : now ≤ 1001) : RT w a len cp zs q g c n D L now w2 := by
  have hs := h.grown.size
  have b1 : Blk w1 w.heap.size #[.slice none 0 0, .int .i64 0] 25 := (Blk.new w _ _).below h1 (by omega)
  refine ⟨h.rd, b1.of_block (h.grown.block _ (by omega) (by simp)), h.own.lower (by omega), h.fair, h0, h1', ?_⟩
  refine ⟨h.grown.os.trans h1.os, h.grown.tape.trans h1.tape, h.grown.output.trans h1.output, by omega, fun k hk => ?_⟩
  exact (h.grown.block k (by omega) (by simp; omega)).trans ((h1.block k (by omega)).trans (blk_alloc_lt _ _ _ hk))

theorem RT.fin {w : World} {a : Option Addr} {len cp : Nat} {zs : Nat → Int} {q g c n : Nat} {D : Nat → Nd} {L : Nat → Loc} {now : Int} {W : World} (h : RT w a len cp zs q g c n D L now W) :
    DEnd w w.heap.size g c n D L now ((W.setCell ⟨w.heap.size, 0, none⟩ (.slice (some ⟨g, 0, none⟩) n c)).setCell ⟨w.heap.size, 1, none⟩ (.int .i64 now)) := by
  have hb := h.own.base
  have ha : Away (fun b => b = w.heap.size) g n L := ⟨by omega, fun i hi => ⟨fun b o x e => by have := ((h.own.lists i hi).2.1 b o x e).1; omega, fun b o x e => by have := ((h.own.lists i hi).2.2 b o x e).1; omega⟩⟩
  exact ⟨(h.res.set 0 _).set 1 _, ((h.own.setOther ha rfl _ _).setOther ha rfl _ _).lower (by omega), h.fair, h.now0, h.now1, bel_put (bel_put h.bel _ (Nat.le_refl _)) _ (Nat.le_refl _)⟩

def DrawTPost (w : World) (e : Ending) (w' : World) : Prop := ∃ g c n D L now, e = .returned (trV (some ⟨g, 0, none⟩) n c now) ∧ DrawnT w g c n D L now w'
theorem drawTPost_mk {w : World} {g c n : Nat} {D : Nat → Nd} {L : Nat → Loc} {now : Int} {W : World} (h : DrawnT w g c n D L now W) : DrawTPost w (.returned (.agg #[.slice (some ⟨g, 0, none⟩) n c, .int .i64 now])) W := ⟨g, c, n, D, L, now, rfl, h⟩

theorem RT.below {w : World} {a : Option Addr} {len cp : Nat} {zs : Nat → Int} {q g c n : Nat} {D : Nat → Nd} {L : Nat → Loc} {now : Int} {W W' : World} (h : RT w a len cp zs q g c n D L now W) (hb : Below W.heap.size W W') : RT w a len cp zs q g c n D L now W' := by
  have h1 := h.rd.lt
  have h2 := h.bel.size
  exact ⟨h.rd.kept (fun k hk => hb.block k (by omega)), h.res.below hb h.res.lt, h.own.below hb, h.fair, h.now0, h.now1, h.bel.trans (hb.mono h2)⟩

theorem RT.read {w : World} {a : Option Addr} {len cp : Nat} {zs : Nat → Int} {q q' g c n : Nat} {D : Nat → Nd} {L : Nat → Loc} {now : Int} {W W' : World} (h : RT w a len cp zs q g c n D L now W) (hg : W.grownBy W' (some (w.heap.size + 1))) (hr : IsRd W' (w.heap.size + 1) a len cp zs q') : RT w a len cp zs q' g c n D L now W' := by
  have h1 := h.res.lt
  exact ⟨hr, h.res.of_block (hg.block _ h1 (by simp)), h.own.grown hg (by omega), h.fair, h.now0, h.now1, h.bel.grown hg (Nat.le_of_lt h1) (fun k e => by simp at e; omega)⟩

/-- .. and the tree lies in a variable. -/
structure RTB (w : World) (T : Nat) (a : Option Addr) (len cp : Nat) (zs : Nat → Int) (q g c n : Nat) (D : Nat → Nd) (L : Nat → Loc) (now : Int) (W : World) : Prop where
  rt : RT w a len cp zs q g c n D L now W
  t : Blk W T #[.slice (some ⟨g, 0, none⟩) n c, .int .i64 now] 25
  far : w.heap.size + 1 < T

section
variable {w : World} {T : Nat} {a : Option Addr} {len cp : Nat} {zs : Nat → Int} {q q' g c n : Nat} {D : Nat → Nd} {L : Nat → Loc} {now : Int} {W W' : World}
theorem RTB.below (h : RTB w T a len cp zs q g c n D L now W) (hb : Below W.heap.size W W') : RTB w T a len cp zs q g c n D L now W' := ⟨h.rt.below hb, h.t.below hb h.t.lt, h.far⟩
theorem RTB.drew (h : RTB w T a len cp zs q g c n D L now W) (k : Nat) : RTB w T a len cp zs q g c n D L now (W.drewN k) := h.below (below_drewN (Below.refl _ _) k)
theorem RTB.alloc (h : RTB w T a len cp zs q g c n D L now W) (o : Obj) : RTB w T a len cp zs q g c n D L now (W.alloc o) := h.below ((Below.refl _ _).alloc (Nat.le_refl _) _)
theorem RTB.read (h : RTB w T a len cp zs q g c n D L now W) (hg : W.grownBy W' (some (w.heap.size + 1))) (hr : IsRd W' (w.heap.size + 1) a len cp zs q') : RTB w T a len cp zs q' g c n D L now W' :=
  ⟨h.rt.read hg hr, h.t.of_block (hg.block T h.t.lt (by have := h.far; simp; omega)), h.far⟩
end

theorem IsCode.alloc {w : World} {a : Option Addr} {len : Nat} {zs : Nat → Int} (h : IsCode w a len zs) (o : Obj) : IsCode (w.alloc o) a len zs := h.below ((Below.refl _ _).alloc (Nat.le_refl _) _)

set_option maxRecDepth 100000 in
set_option maxHeartbeats 1000000 in
theorem drawTreeOk_any (w : World) (a : Option Addr) (len cap : Nat) (zs : Nat → Int) (hc : IsCode w a len zs) (hlen : len ≤ maxLen) (hcap : len ≤ cap) :
    Calls Try.prog 8 #[.slice a len cap] w (DrawTPost w) := by
  go_enter Try.func8, Try.ntmps8
  go_wp2_with fail
  refine (l11Open_any _ a len cap zs hlen hcap (hc.alloc _)).mono ?_
  rintro e w1 ⟨rfl, hb, len', hR⟩
  have es : (w.alloc (.cells #[.slice none 0 0, .int .i64 0] 25)).heap.size = w.heap.size + 1 := by simp
  rw [es] at hb hR ⊢
  have hl := hR.lt
  go_wp2_with fail
  refine (l2Bent_any w1 (w.heap.size + 1) a len' cap zs 0 hR (by omega)).mono ?_
  rintro e w2 ⟨g, c, n, D, L, now, q, rfl, hn0, hn1, hq, hd⟩
  have HT : Hid _ := RT.start hb hl hd hn0 hn1
  have rs0 : w2.cell? ⟨w.heap.size, 0, none⟩ = some (.slice none 0 0) := HT.out.res.cell 0
  have rs1 : w2.cell? ⟨w.heap.size, 1, none⟩ = some (.int .i64 0) := HT.out.res.cell 1
  have rf0 := HT.out.res.frozen 0
  have rf1 := HT.out.res.frozen 1
  have HE : Hid _ := HT.out.fin
  unfold trV
  clear hd hR hb HT
  go_wp2
  refine end_world (F := DEnd w w.heap.size g c n D L now) HE.out ?_
  clear HE
  rintro WF ⟨hr, hgr⟩
  have r0 := hr.cell 0
  have r1 := hr.cell 1
  simp at r0 r1
  exact bodyPost_ret (v := .agg #[.slice (some ⟨g, 0, none⟩) n c, .int .i64 now]) (by simp [results, Try.results8, go_sem, r0, r1]) rfl (drawTPost_mk hgr)

theorem pick_back {x y : Int} {n : Nat} (hx0 : 0 ≤ x) (hx1 : x < (n : Int) + 1) (hn : n ≤ 11) (hy0 : 0 ≤ y) (hy1 : y < 9) : -1 ≤ IntKind.i64.wrap (x - IntKind.i64.wrap (y.tdiv 8)) ∧ IntKind.i64.wrap (x - IntKind.i64.wrap (y.tdiv 8)) ≤ n := by
  have hd : y.tdiv 8 = y / 8 := by rw [Int.tdiv_eq_ediv_of_nonneg hy0]
  rw [hd, wrap_i64 (y / 8) (by omega) (by omega)]
  by_cases h : 0 ≤ x - y / 8
  · rw [wrap_i64 _ h (by omega)]; omega
  · have : x - y / 8 = -1 := by omega
    rw [this]
    have e : IntKind.i64.wrap (-1) = -1 := by decide
    rw [e]; omega

def DrawRPost (w : World) (e : Ending) (w' : World) : Prop := ∃ g c n D L now ino, e = .returned (.tuple #[trV (some ⟨g, 0, none⟩) n c now, .int .i64 ino]) ∧ DrawnT w g c n D L now w' ∧ -1 ≤ ino ∧ ino ≤ n
theorem drawRPost_mk {w : World} {g c n : Nat} {D : Nat → Nd} {L : Nat → Loc} {now ino : Int} {W : World} (h : DrawnT w g c n D L now W) (h0 : -1 ≤ ino) (h1 : ino ≤ n) : DrawRPost w (.returned (.tuple #[.agg #[.slice (some ⟨g, 0, none⟩) n c, .int .i64 now], .int .i64 ino])) W := ⟨g, c, n, D, L, now, ino, rfl, h, h0, h1⟩

set_option maxRecDepth 100000 in
set_option maxHeartbeats 1000000 in
theorem drawTreeRefs_any (w : World) (a : Option Addr) (len cap : Nat) (zs : Nat → Int) (hc : IsCode w a len zs) (hlen : len ≤ maxLen) (hcap : len ≤ cap) :
    Calls Try.prog 22 #[.slice a len cap] w (DrawRPost w) := by
  go_enter Try.func22, Try.ntmps22
  go_wp2_with fail
  refine (l11Open_any _ a len cap zs hlen hcap (hc.alloc _)).mono ?_
  rintro e w1 ⟨rfl, hb, len', hR⟩
  have es : (w.alloc (.cells #[.slice none 0 0, .int .i64 0] 25)).heap.size = w.heap.size + 1 := by simp
  rw [es] at hb hR ⊢
  have hl := hR.lt
  go_wp2_with fail
  refine (l2Bent_any w1 (w.heap.size + 1) a len' cap zs 0 hR (by omega)).mono ?_
  rintro e w2 ⟨g, c, n, D, L, now, q, rfl, hn0, hn1, hq, hd⟩
  have hTw : w.heap.size + 1 < w2.heap.size := by have := hd.grown.size; omega
  unfold trV
  have HF : Hid (RTB w w2.heap.size a len' cap zs q g c n D L now (w2.alloc (.cells #[.slice (some ⟨g, 0, none⟩) n c, .int .i64 now] 25))) := ⟨(RT.start hb hl hd hn0 hn1).below ((Below.refl _ _).alloc (Nat.le_refl _) _), Blk.new w2 _ _, hTw⟩
  clear hd hR hb
  go_wp2_with fail
  obtain ⟨T, hT⟩ : ∃ T, T = w2.heap.size := ⟨_, rfl⟩
  rw [← hT] at HF hTw ⊢
  refine wp_world (F := RTB w T a len' cap zs q g c n D L now) HF.out ?_
  clear HF hT w2
  intro W hW
  have hn11 := hW.rt.fair.few
  have hTl := hW.t.lt
  have t0 : W.cell? ⟨T, 0, none⟩ = some (.slice (some ⟨g, 0, none⟩) n c) := hW.t.cell 0
  have t1 : W.cell? ⟨T, 1, none⟩ = some (.int .i64 now) := hW.t.cell 1
  have hne : T ≠ w.heap.size := by omega
  have hne2 : w.heap.size ≠ T := by omega
  have hwr : IntKind.i64.wrap ((n : Int) + 1) = (n : Int) + 1 := wrap_i64 _ (by omega) (by omega)
  have HW : Hid _ := hW
  clear hW
  go_region_held3 (fun W' => W'.cell? ⟨T, 0, none⟩ = some (.slice (some ⟨g, 0, none⟩) n c) ∧ W'.cell? ⟨T, 1, none⟩ = some (.int .i64 now)) (go_keep) (first
    | (go_at_call 38
       refine (pick_any w4 (w.heap.size + 1) a len' cap zs (q + 1) 9 hW4.rt.rd (by omega) (by omega) (by omega)).mono ?_
       rintro e w5 ⟨y, rfl, hy0, hy1, hg5, hR5⟩
       have hW5 := hW4.read hg5 hR5
       have V0 : w5.cell? ⟨T, 0, none⟩ = some (.slice (some ⟨g, 0, none⟩) n c) := hW5.t.cell 0
       have V1 : w5.cell? ⟨T, 1, none⟩ = some (.int .i64 now) := hW5.t.cell 1
       have rs0 : w5.cell? ⟨w.heap.size, 0, none⟩ = some (.slice none 0 0) := hW5.rt.res.cell 0
       have rs1 : w5.cell? ⟨w.heap.size, 1, none⟩ = some (.int .i64 0) := hW5.rt.res.cell 1
       have rf0 := hW5.rt.res.frozen 0
       have rf1 := hW5.rt.res.frozen 1)
    | (go_at_call 38
       refine (pick_any (W.drewN 1) (w.heap.size + 1) a len' cap zs q ((n : Int) + 1) (HW.out.drew 1).rt.rd (by omega) (by omega) (by omega)).mono ?_
       rintro e w4 ⟨x, rfl, hx0, hx1, hg4, hR4⟩
       have hW4 := (HW.out.drew 1).read hg4 hR4
       have U0 : w4.cell? ⟨T, 0, none⟩ = some (.slice (some ⟨g, 0, none⟩) n c) := hW4.t.cell 0
       have U1 : w4.cell? ⟨T, 1, none⟩ = some (.int .i64 now) := hW4.t.cell 1))
  have hino := pick_back hx0 hx1 hn11 hy0 hy1
  generalize IntKind.i64.wrap (x - IntKind.i64.wrap (y.tdiv 8)) = ino at hino ⊢
  have HE : Hid _ := hW5.rt.fin
  clear t0 t1 HW hg4 hR4 hW4 U0 U1 hg5 hR5 hW5 V0 V1 rs0 rs1 rf0 rf1
  go_wp2
  refine end_world (F := DEnd w w.heap.size g c n D L now) HE.out ?_
  clear HE
  rintro WF ⟨hr, hgr⟩
  have r0 := hr.cell 0
  have r1 := hr.cell 1
  simp at r0 r1
  exact bodyPost_ret (v := .tuple #[.agg #[.slice (some ⟨g, 0, none⟩) n c, .int .i64 now], .int .i64 ino]) (by simp [results, Try.results22, go_sem, r0, r1]) rfl (drawRPost_mk hgr hino.1 hino.2)
end Go.Proofs.Ytbifhfnoogjoeaa
