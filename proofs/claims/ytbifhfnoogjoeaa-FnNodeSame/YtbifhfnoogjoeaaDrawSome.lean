/-
  What l2Some gives: a tree in new memory.
-/
import Derived.Test.YtbifhfnoogjoeaaDrawGrow
import Derived.Test.YtbifhfnoogjoeaaNewTree
namespace Go.Proofs.Ytbifhfnoogjoeaa
open Go.RowKit Go.Deep
set_option linter.unusedVariables false

/-- A tree has been drawn. -/
structure Drew (w : World) (r : Nat) (a : Option Addr) (len cp : Nat) (zs : Nat → Int) (q g cap n : Nat) (D : Nat → Nd) (L : Nat → Loc) (W : World) : Prop where
  rd : IsRd W r a len cp zs q
  own : OwnT W w.heap.size g cap n D L
  nice : Nice n 10 D
  grown : w.grownBy W (some r)
  kids : KidsOwn W n D L

theorem OwnT.lower {W : World} {B B' g cap n : Nat} {D : Nat → Nd} {L : Nat → Loc} (h : OwnT W B g cap n D L) (hB : B' ≤ B) : OwnT W B' g cap n D L :=
  ⟨h.blk, Nat.le_trans hB h.base, h.room, h.most, h.cells, fun i hi => ⟨(h.lists i hi).1, fun b o x e => by have := (h.lists i hi).2.1 b o x e; omega, fun b o x e => by have := (h.lists i hi).2.2 b o x e; omega⟩⟩

theorem OwnT.raise {W : World} {B B' g cap n : Nat} {D : Nat → Nd} {L : Nat → Loc} (h : OwnT W B g cap n D L) {X : Nat → Prop} (ha : Away X g n L) (hX : ∀ b, B ≤ b → ¬ X b → B' ≤ b) : OwnT W B' g cap n D L :=
  ⟨h.blk, hX _ h.base ha.row, h.room, h.most, h.cells, fun i hi => ⟨(h.lists i hi).1, fun b o x e => by have h1 := (h.lists i hi).2.1 b o x e; exact ⟨hX b h1.1 ((ha.lists i hi).1 b o x e), h1.2⟩, fun b o x e => by have h1 := (h.lists i hi).2.2 b o x e; exact ⟨hX b h1.1 ((ha.lists i hi).2 b o x e), h1.2⟩⟩⟩

/-- What is known within l2Some: its answer lies in block w.heap.size, t in block T. -/
structure SI (w : World) (T r : Nat) (a : Option Addr) (len cp : Nat) (zs : Nat → Int) (q g cap n m : Nat) (D : Nat → Nd) (L : Nat → Loc) (now : Int) (W : World) : Prop where
  rd : IsRd W r a len cp zs q
  res : Blk W w.heap.size #[.slice none 0 0, .int .i64 0] 25
  t : Blk W T #[.slice (some ⟨g, 0, none⟩) n cap, .int .i64 now] 25
  own : OwnT W (w.heap.size + 1) g cap n D L
  away : Away (fun b => b = T) g n L
  nice : Nice n m D
  above : w.heap.size < T
  grown : w.grownBy W (some r)
  rlt : r < w.heap.size
  kids : KidsOwn W n D L

/-- The blocks that l2Some keeps while l2Grow works. -/
def SX (w : World) (T r : Nat) : Nat → Prop := fun b => (b < w.heap.size + 1 ∧ b ≠ r) ∨ b = T

section
variable {w : World} {T r : Nat} {a : Option Addr} {len cp : Nat} {zs : Nat → Int} {q g cap n m : Nat} {D : Nat → Nd} {L : Nat → Loc} {now : Int} {W W' : World}

theorem SI.sx (h : SI w T r a len cp zs q g cap n m D L now W) : Away (SX w T r) g n L ∧ ∀ b, SX w T r b → b < W.heap.size ∧ b ≠ r := by
  have hb := h.own.base
  have hr : ¬ g = T := h.away.row
  have h1 := h.res.lt
  have h2 := h.t.lt
  have h3 := h.above
  have h4 := h.rlt
  refine ⟨⟨by unfold SX; omega, fun i hi => ⟨fun b o x e => ?_, fun b o x e => ?_⟩⟩, fun b hx => by unfold SX at hx; omega⟩
  · have := ((h.own.lists i hi).2.1 b o x e).1
    have : ¬ b = T := (h.away.lists i hi).1 b o x e
    unfold SX; omega
  · have := ((h.own.lists i hi).2.2 b o x e).1
    have : ¬ b = T := (h.away.lists i hi).2 b o x e
    unfold SX; omega

/-- The tree has grown, and is written into t. -/
theorem SI.grew (h : SI w T r a len cp zs q g cap n m D L now W) {g' cap' n' : Nat} {D' : Nat → Nd} {L' : Nat → Loc} (hg : Grew W (SX w T r) r a len cp zs q m now g' cap' n' D' L' W') :
    ∃ q', q' ≤ q + 20 ∧ SI w T r a len cp zs q' g' cap' n' (m + 1) D' L' (now + 1) ((W'.setCell ⟨T, 0, none⟩ (.slice (some ⟨g', 0, none⟩) n' cap')).setCell ⟨T, 1, none⟩ (.int .i64 (now + 1))) := by
  obtain ⟨q', hR, hq⟩ := hg.rd
  have h3 := h.above
  have h4 := h.rlt
  have h5 := h.grown.size
  have ha : Away (fun b => b = T) g' n' L' := ⟨fun e => hg.away.row (Or.inr e), fun i hi => ⟨fun b o x e e' => (hg.away.lists i hi).1 b o x e (Or.inr e'), fun b o x e e' => (hg.away.lists i hi).2 b o x e (Or.inr e')⟩⟩
  have ho : OwnT W' (w.heap.size + 1) g' cap' n' D' L' := hg.own.raise hg.away (fun b h1 h2 => by unfold SX at h2; omega)
  have hk : ∀ b, b < w.heap.size + 1 → b ≠ r → W'.heap[b]? = W.heap[b]? := fun b h1 h2 => hg.kept b (Or.inl ⟨h1, h2⟩)
  have hs : ∀ b, b ≠ T → ((W'.setCell ⟨T, 0, none⟩ (.slice (some ⟨g', 0, none⟩) n' cap')).setCell ⟨T, 1, none⟩ (.int .i64 (now + 1))).heap[b]? = W'.heap[b]? := fun b hb => (blk_setCell_other _ _ _ _ hb).trans (blk_setCell_other _ _ _ _ hb)
  refine ⟨q', hq, hR.kept (fun k hk => hs k (by omega)), (h.res.of_block (hk _ (by omega) (by omega))).of_block (hs _ (by omega)), ((h.t.of_block (hg.kept T (Or.inr rfl))).set 0 _).set 1 _, (ho.setOther ha rfl _ _).setOther ha rfl _ _, ha, hg.nice, h3, ⟨?_, ?_, ?_, ?_, fun k h1 h2 => (hs k (by omega)).trans ((hk k (by omega) (by simpa using h2)).trans (h.grown.block k h1 h2))⟩, h4, hg.kids.of_blocks (fun i hi b o x e => hs b (ha.lists i hi |>.2 b o x e))⟩
  · exact hg.bel.os.trans h.grown.os
  · exact hg.bel.tape.trans h.grown.tape
  · exact hg.bel.output.trans h.grown.output
  · have := hg.bel.size; simp [World.setCell]; omega

/-- The reader goes on. -/
theorem SI.read (h : SI w T r a len cp zs q g cap n m D L now W) (hg : W.grownBy W' (some r)) {q' : Nat} (hr : IsRd W' r a len cp zs q') : SI w T r a len cp zs q' g cap n m D L now W' := by
  have h3 := h.above
  have h4 := h.rlt
  have h5 := h.grown.size
  have h6 := h.res.lt
  have h7 := h.t.lt
  exact ⟨hr, h.res.of_block (hg.block _ h6 (by simp; omega)), h.t.of_block (hg.block _ h7 (by simp; omega)), h.own.grown hg (by omega), h.away, h.nice, h3, grown_trans h.grown hg, h4, h.kids.of_blocks (fun i hi b o x e => by have h1 := (h.own.lists i hi).2.2 b o x e; exact hg.block b (by omega) (by simp; omega))⟩
/-- .. and is written into the answer. -/
structure SEnd (w : World) (r : Nat) (a : Option Addr) (len cp : Nat) (zs : Nat → Int) (q g cap n : Nat) (D : Nat → Nd) (L : Nat → Loc) (now : Int) (W : World) : Prop where
  ans : Blk W w.heap.size #[.slice (some ⟨g, 0, none⟩) n cap, .int .i64 now] 25
  drew : Drew w r a len cp zs q g cap n D L W

theorem SI.fin (h : SI w T r a len cp zs q g cap n m D L now W) (hm : m ≤ 10) : SEnd w r a len cp zs q g cap n D L now ((W.setCell ⟨w.heap.size, 0, none⟩ (.slice (some ⟨g, 0, none⟩) n cap)).setCell ⟨w.heap.size, 1, none⟩ (.int .i64 now)) := by
  have h3 := h.above
  have h4 := h.rlt
  have h5 := h.grown.size
  have hb := h.own.base
  have ha : Away (fun b => b = w.heap.size) g n L := ⟨by omega, fun i hi => ⟨fun b o x e => by have := ((h.own.lists i hi).2.1 b o x e).1; omega, fun b o x e => by have := ((h.own.lists i hi).2.2 b o x e).1; omega⟩⟩
  have hs : ∀ b, b ≠ w.heap.size → ((W.setCell ⟨w.heap.size, 0, none⟩ (.slice (some ⟨g, 0, none⟩) n cap)).setCell ⟨w.heap.size, 1, none⟩ (.int .i64 now)).heap[b]? = W.heap[b]? := fun b hb => (blk_setCell_other _ _ _ _ hb).trans (blk_setCell_other _ _ _ _ hb)
  refine ⟨(h.res.set 0 _).set 1 _, h.rd.kept (fun k hk => hs k (by omega)), ((h.own.setOther ha rfl _ _).setOther ha rfl _ _).lower (by omega), h.nice.more hm, ⟨h.grown.os, h.grown.tape, h.grown.output, ?_, fun k h1 h2 => (hs k (by omega)).trans (h.grown.block k h1 h2)⟩, h.kids.of_blocks (fun i hi b o x e => hs b (ha.lists i hi |>.2 b o x e))⟩
  simp [World.setCell]; omega

/-- A new tree. -/
theorem root_own {b B : Nat} (h : Blk W b (rootCells now) 36) (hB : B ≤ b) : OwnT W B b 1 1 (fun _ => rootNd now) (fun _ => noLoc) := by
  refine ⟨⟨_, h, rfl⟩, hB, Nat.le_refl _, by unfold maxLen; omega, fun i hi => ?_, fun i hi => ⟨⟨Or.inl rfl, Or.inl rfl⟩, fun b o x e => by simp [noLoc] at e, fun b o x e => by simp [noLoc] at e⟩⟩
  have : i = 0 := by omega
  subst this
  exact ⟨h.cell 0, h.cell 1, h.cell 2, h.cell 3, h.cell 4⟩

theorem root_nice : Nice 1 1 (fun _ => rootNd 1) :=
  ⟨Nat.le_refl _, by omega, rfl, fun i hi => ⟨rfl, Nat.zero_le _, fun j hj => absurd hj (Nat.not_lt_zero _), fun j hj => absurd hj (Nat.not_lt_zero _), by simp [rootNd], by simp [rootNd], by simp [rootNd]⟩⟩

theorem SI.start {w1 : World} {b p : Nat} (hR : IsRd w1 r a len cp zs p) (hrl : r < w.heap.size) (hb : w.heap.size + 1 ≤ b) (hbel : Below (w.heap.size + 1) (w.alloc (.cells #[.slice none 0 0, .int .i64 0] 25)) w1) (hblk : Blk w1 b (rootCells 1) 36) :
    SI w w1.heap.size r a len cp zs p b 1 1 1 (fun _ => rootNd 1) (fun _ => noLoc) 1 (w1.alloc (.cells #[.slice (some ⟨b, 0, none⟩) 1 1, .int .i64 1] 25)) := by
  have hl := hblk.lt
  have hs := hbel.size
  have hs' : w.heap.size + 1 ≤ w1.heap.size := by simpa using hs
  refine ⟨hR.alloc _, ((Blk.new w _ _).below hbel (by omega)).alloc _, Blk.new w1 _ _, root_own (hblk.alloc _) hb, ⟨by omega, fun i hi => ⟨fun b o x e => by simp [noLoc] at e, fun b o x e => by simp [noLoc] at e⟩⟩, root_nice, by omega, ?_, hrl, ⟨fun i hi => Or.inl ⟨rfl, rfl, rfl⟩, fun i j hi hj e => apart_none _, fun i j hi hj => apart_none _⟩⟩
  exact ⟨hbel.os, hbel.tape, hbel.output, by simp; omega, fun k h1 h2 => ((blk_alloc_lt _ _ _ (by omega)).trans (hbel.block k (by omega))).trans (blk_alloc_lt _ _ _ h1)⟩
end

set_option maxRecDepth 100000 in
set_option maxHeartbeats 4000000 in
theorem l2Some_any (w : World) (r : Nat) (a : Option Addr) (len cp : Nat) (zs : Nat → Int) (p : Nat) (hR : IsRd w r a len cp zs p) (hp : p ≤ 500) :
    Calls Try.prog 44 #[.pointer (some ⟨r, 0, none⟩)] w fun e w' => ∃ g cap n D L now q, e = .returned (trV (some ⟨g, 0, none⟩) n cap now) ∧ 1 ≤ now ∧ now ≤ 9 ∧ q ≤ p + 200 ∧ Drew w r a len cp zs q g cap n D L w' := by
  have hrl := hR.lt
  go_enter Try.func44, Try.ntmps44
  go_wp2_with fail
  refine (specTreeNew_yes 1 _ (by omega) (by omega)).mono ?_
  rintro e w1 ⟨b, rfl, hb, hbel, hblk⟩
  unfold trV
  have HSI : Hid (SI w w1.heap.size r a len cp zs p b 1 1 1 (fun _ => rootNd 1) (fun _ => noLoc) 1 (w1.alloc (.cells #[.slice (some ⟨b, 0, none⟩) 1 1, .int .i64 1] 25))) := SI.start ((hR.alloc _).kept (fun k hk => hbel.block k (by simp; omega))) hrl (by simpa using hb) (by simpa using hbel) hblk
  clear hbel hblk
  go_wp2_with fail
  refine (pick_any _ r a len cp zs p 9 HSI.out.rd (by omega) (by omega) (by omega)).mono ?_
  rintro e w2 ⟨x, rfl, hx0, hx1, hg2, hR2⟩
  obtain ⟨x, rfl⟩ := Int.eq_ofNat_of_zero_le hx0
  have HS2 : Hid _ := HSI.out.read hg2 hR2
  clear hg2 hR2 HSI hx0
  obtain ⟨T, hT⟩ : ∃ T, T = w1.heap.size := ⟨_, rfl⟩
  rw [← hT] at HS2 ⊢
  clear hT
  go_wp2
  go_loopw [4] (fun i wr => ∃ (j k q g cap n : Nat) (D : Nat → Nd) (L : Nat → Loc), j + k ≤ 8 ∧ i = .int .i64 j ∧ SI w T r a len cp zs q g cap n (1 + k) D L (1 + (k : Int)) wr ∧ q ≤ p + 1 + 20 * k) (fun i _ => (intOf i).toNat)
  case atStart => exact ⟨x, 0, _, _, _, _, _, _, by omega, rfl, HS2.out, by omega⟩
  case round =>
    obtain ⟨j, k, q, g, cap, n, D, L, hj, rfl, hin, hq⟩ := hrel
    clear HS2
    have t0 : wr.cell? ⟨T, 0, none⟩ = some (.slice (some ⟨g, 0, none⟩) n cap) := hin.t.cell 0
    have t1 : wr.cell? ⟨T, 1, none⟩ = some (.int .i64 (1 + (k : Int))) := hin.t.cell 1
    have HIN : Hid _ := hin
    by_cases hj0 : 0 < j
    · have hd : decide ((0 : Int) < j) = true := by simp; omega
      clear hin
      go_wp2_with fail
      refine (l2Grow_any wr (SX w T r) r a len cp zs q g cap n (1 + k) D L (1 + (k : Int)) HIN.out.rd (by omega) (HIN.out.own.lower (by omega)) HIN.out.sx.1 HIN.out.sx.2 HIN.out.kids HIN.out.nice (by omega) (by omega) (by omega)).mono ?_
      rintro e w3 ⟨g', cap', n', D', L', rfl, hgr⟩
      obtain ⟨q', hq', hS⟩ := HIN.out.grew hgr
      have hb3 : Blk w3 T #[.slice (some ⟨g, 0, none⟩) n cap, .int .i64 (1 + (k : Int))] 25 := HIN.out.t.of_block (hgr.kept T (Or.inr rfl))
      have T0 : w3.cell? ⟨T, 0, none⟩ = some (.slice (some ⟨g, 0, none⟩) n cap) := hb3.cell 0
      have T1 : w3.cell? ⟨T, 1, none⟩ = some (.int .i64 (1 + (k : Int))) := hb3.cell 1
      have F0 := hb3.frozen 0
      have F1 := hb3.frozen 1
      have HS : Hid _ := hS
      unfold trV
      clear hb3 hgr hS HIN t0 t1
      go_wp2
      go_roundw
      case rel =>
        have e : (1 + (k : Int) + 1) = 1 + ((k + 1 : Nat) : Int) := by omega
        have e2 : 1 + k + 1 = 1 + (k + 1) := by omega
        have h := HS.out
        rw [e2] at h
        refine ⟨j - 1, k + 1, q', g', cap', n', D', L', by omega, by first | go_num | (congr 1; omega), ?_, by omega⟩
        rw [← e]
        exact h
      case measure => simp [intOf]; omega
    · have hd : decide ((0 : Int) < j) = false := by simp; omega
      have rs0 : wr.cell? ⟨w.heap.size, 0, none⟩ = some (.slice none 0 0) := hin.res.cell 0
      have rs1 : wr.cell? ⟨w.heap.size, 1, none⟩ = some (.int .i64 0) := hin.res.cell 1
      have rf0 := hin.res.frozen 0
      have rf1 := hin.res.frozen 1
      have HE : Hid _ := hin.fin (by omega)
      clear hin
      go_wp2
      refine end_world (F := SEnd w r a len cp zs q g cap n D L (1 + (k : Int))) HE.out ?_
      clear HE t0 t1 rs0 rs1 rf0 rf1 HIN
      rintro WF ⟨hr, hgr⟩
      have r0 := hr.cell 0
      have r1 := hr.cell 1
      simp at r0 r1
      exact bodyPost_ret (v := .agg #[.slice (some ⟨g, 0, none⟩) n cap, .int .i64 (1 + (k : Int))]) (by simp [results, Try.results44, go_sem, r0, r1]) rfl ⟨g, cap, n, D, L, 1 + (k : Int), q, rfl, by omega, by omega, by omega, hgr⟩
end Go.Proofs.Ytbifhfnoogjoeaa
