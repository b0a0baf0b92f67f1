/-
  What the draw of a piece gives: one whose parts are small.
-/
import Derived.Test.YtjlldefajgmelaaDoorDrawVols
import Derived.Test.YtjlldefajgmelaaDoorBlk
namespace Go.Proofs.YtjlldefajgmelaaDoor
open Go.RowKit Go.Deep
set_option linter.unusedVariables false
set_option linter.unusedSimpArgs false

theorem grown_setFar {w W : World} {r b i : Nat} {v : Value} (h : w.grownBy W (some r)) (hb : w.heap.size ≤ b) : w.grownBy (W.setCell ⟨b, i, none⟩ v) (some r) :=
  ⟨h.os, h.tape, h.output, by have := h.size; simpa using this, fun k hk hne => by
    rw [← h.block k hk hne]
    simp only [World.setCell, Array.getElem?_modify]
    rw [if_neg (by omega)]⟩

theorem rd_setFar {W : World} {r : Nat} {a : Option Addr} {len cap : Nat} {zs : Nat → Int} {q b i : Nat} {v : Value} (h : IsRd W r a len cap zs q) (hb : r < b) : IsRd (W.setCell ⟨b, i, none⟩ v) r a len cap zs q :=
  h.kept fun k hk => by
    simp only [World.setCell, Array.getElem?_modify]
    rw [if_neg (by omega)]

/-- A piece whose parts are small, be it bent twice. -/
def Vo.Tiny (v : Vo) : Prop := (0 ≤ v.num ∧ v.num ≤ 300) ∧ (0 ≤ v.cnt ∧ v.cnt ≤ 300) ∧ (0 ≤ v.sum ∧ v.sum ≤ 20000) ∧ v.text.size ≤ 300
theorem Vo.Small.tiny {v : Vo} (h : v.Small) : v.Tiny := by
  obtain ⟨⟨a1, a2⟩, ⟨b1, b2⟩, ⟨c1, c2⟩, d⟩ := h
  exact ⟨⟨a1, by omega⟩, ⟨b1, by omega⟩, ⟨c1, c2⟩, by omega⟩

/-- What holds while a piece is being drawn: the result's block, the variable's, the reader. -/
structure V9 (w W : World) (r : Nat) (a : Option Addr) (len cap : Nat) (zs : Nat → Int) (X : Nat) (u : Vo) (q : Nat) : Prop where
  res : Blk W w.heap.size #[.int .i64 0, .int .i64 0, .int .i64 0, .string ⟨#[]⟩] 24
  var : Blk W X #[.int .i64 u.num, .int .i64 u.cnt, .int .i64 u.sum, .string u.text] 24
  far : w.heap.size < X
  gr : w.grownBy W (some r)
  rd : IsRd W r a len cap zs q

theorem V9.pick {w W W' : World} {r : Nat} {a : Option Addr} {len cap : Nat} {zs : Nat → Int} {X : Nat} {u : Vo} {q q' : Nat} (h : V9 w W r a len cap zs X u q) (hr : r < w.heap.size) (hg : W.grownBy W' (some r)) (hR : IsRd W' r a len cap zs q') : V9 w W' r a len cap zs X u q' :=
  ⟨h.res.of_block (hg.block _ h.res.lt (fun e => by cases e; omega)), h.var.of_block (hg.block _ h.var.lt (fun e => by have := h.far; cases e; omega)), h.far, grown_trans h.gr hg, hR⟩

theorem V9.alloc {w W : World} {r : Nat} {a : Option Addr} {len cap : Nat} {zs : Nat → Int} {X : Nat} {u : Vo} {q : Nat} (h : V9 w W r a len cap zs X u q) (o : Obj) : V9 w (W.alloc o) r a len cap zs X u q :=
  ⟨h.res.alloc o, h.var.alloc o, h.far, grown_trans h.gr (grown_alloc W o _), h.rd.alloc o⟩

theorem V9.set {w W : World} {r : Nat} {a : Option Addr} {len cap : Nat} {zs : Nat → Int} {X : Nat} {u : Vo} {q : Nat} (h : V9 w W r a len cap zs X u q) (hr : r < X) (i : Nat) (v : Value) (u' : Vo)
    (he : (#[.int .i64 u.num, .int .i64 u.cnt, .int .i64 u.sum, .string u.text] : Array Value).setIfInBounds i v = #[.int .i64 u'.num, .int .i64 u'.cnt, .int .i64 u'.sum, .string u'.text]) : V9 w (W.setCell ⟨X, i, none⟩ v) r a len cap zs X u' q := by
  have h2 := h.var.set i v
  rw [he] at h2
  exact ⟨h.res.off v (by have := h.far; omega), h2, h.far, grown_setFar h.gr (Nat.le_of_lt h.far), rd_setFar h.rd hr⟩

set_option maxHeartbeats 4000000 in
theorem l8Vol_any (w : World) (r : Nat) (a : Option Addr) (len cap : Nat) (zs : Nat → Int) (p : Nat) (hR : IsRd w r a len cap zs p) (hp : p ≤ 800000) :
    Calls Tryd.prog 16 #[.pointer (some ⟨r, 0, none⟩)] w fun e w' => ∃ (u : Vo) (q : Nat), e = .returned (voV u) ∧ u.Tiny ∧ w.grownBy w' (some r) ∧ IsRd w' r a len cap zs q ∧ q ≤ p + 30 := by
  have HL : Hid (r < w.heap.size) := hR.lt
  have HR0 : Hid (IsRd w r a len cap zs p) := hR
  clear hR
  go_enter Tryd.func16, Tryd.ntmps16
  go_wp2_with fail
  refine at_world (F := New1 w _ _) (new1 w _ _) ?_
  rintro W ⟨ha, hb0, hs0⟩
  refine (l8Vols_any W r a len cap zs p (HR0.out.kept fun k hk => hb0.block k (by have := HL.out; omega)) (by omega)).mono ?_
  rintro e w1 ⟨n, c, b, E, q, rfl, hn, hO, hsm, hg1, hR1, hq⟩
  have ha1 := ha.of_block (hg1.block _ ha.lt (fun e => by have := HL.out; cases e; omega))
  have hg01 : w.grownBy w1 (some r) := grown_trans ⟨hb0.os, hb0.tape, hb0.output, hb0.size, fun k hk _ => hb0.block k hk⟩ hg1
  have hwl : w.heap.size < w1.heap.size := ha1.lt
  have HQ : Hid (q ≤ p + 20) := hq
  have hWw : w.heap.size ≤ W.heap.size := hb0.size
  have hO1 : OwnV (w1.alloc (.cells #[.int .i64 1, .int .i64 1, .int .i64 0, .string ⟨#[]⟩] 24)) W.heap.size (.slice b n c) n E := hO.alloc _
  have hV1 : V9 w (w1.alloc (.cells #[.int .i64 1, .int .i64 1, .int .i64 0, .string ⟨#[]⟩] 24)) r a len cap zs w1.heap.size ⟨1, 1, 0, ⟨#[]⟩⟩ q :=
    ⟨ha1.alloc _, Blk.new w1 _ _, hwl, grown_trans hg01 (grown_alloc w1 _ _), hR1.alloc _⟩
  have HO : Hid _ := And.intro hO1 (And.intro hsm hV1)
  clear hO hO1 hV1 hsm ha ha1 hb0 hg1 hg01 hR1 hq HR0 hs0
  -- HERE
  obtain ⟨X, hX⟩ : ∃ X, w1.heap.size = X := ⟨_, rfl⟩
  rw [hX] at hwl
  by_cases hn0 : n = 0
  · subst hn0
    obtain ⟨u, hue⟩ : ∃ u : Vo, u = ⟨1, 1, 0, ⟨#[]⟩⟩ := ⟨_, rfl⟩
    have hu : u.Small := by rw [hue]; exact ⟨by decide, by decide, by decide, by decide⟩
    go_wp2_with fail
    have HV : Hid (V9 w (w1.alloc (.cells #[.int .i64 1, .int .i64 1, .int .i64 0, .string ⟨#[]⟩] 24)) r a len cap zs X u q) := by
      show V9 _ _ _ _ _ _ _ _ _ _
      rw [hue, ← hX]
      exact HO.out.2.2
    clear HO hue
    try simp only [hX]
    obtain ⟨t1, t2, t3, t4⟩ := hu
    have hwc : IntKind.i64.wrap (u.cnt + 1) = u.cnt + 1 := wrap_i64 _ (by omega) (by omega)
    have hrX : r < X := by have := HL.out; omega
    have hne : ¬ X = w.heap.size := by omega
    have hne2 : ¬ w.heap.size = X := by omega
    refine (pick_any _ r a len cap zs (q) 12 HV.out.rd (by have := HQ.out; omega) (by omega) (by omega)).mono ?_
    rintro e W5 ⟨y, rfl, hy0, hy1, hg5, hR5⟩
    have HV5 : Hid (V9 w W5 r a len cap zs X u (q + 1)) := HV.out.pick HL.out hg5 hR5
    clear hy0 hy1 hg5 hR5
    have v0 : W5.cell? ⟨X, 0, none⟩ = some (.int .i64 u.num) := HV5.out.var.cell 0
    have vf0 := HV5.out.var.frozen 0
    have r0 : W5.cell? ⟨w.heap.size, 0, none⟩ = some (.int .i64 0) := HV5.out.res.cell 0
    have z0 := HV5.out.res.frozen 0
    have v1 : W5.cell? ⟨X, 1, none⟩ = some (.int .i64 u.cnt) := HV5.out.var.cell 1
    have vf1 := HV5.out.var.frozen 1
    have r1 : W5.cell? ⟨w.heap.size, 1, none⟩ = some (.int .i64 0) := HV5.out.res.cell 1
    have z1 := HV5.out.res.frozen 1
    have v2 : W5.cell? ⟨X, 2, none⟩ = some (.int .i64 u.sum) := HV5.out.var.cell 2
    have vf2 := HV5.out.var.frozen 2
    have r2 : W5.cell? ⟨w.heap.size, 2, none⟩ = some (.int .i64 0) := HV5.out.res.cell 2
    have z2 := HV5.out.res.frozen 2
    have v3 : W5.cell? ⟨X, 3, none⟩ = some (.string u.text) := HV5.out.var.cell 3
    have vf3 := HV5.out.var.frozen 3
    have r3 : W5.cell? ⟨w.heap.size, 3, none⟩ = some (.string ⟨#[]⟩) := HV5.out.res.cell 3
    have z3 := HV5.out.res.frozen 3
    have hXl : X < W5.heap.size := HV5.out.var.lt
    by_cases h0 : y = 0
    · have y0 : (y == 0) = true := by rw [h0]; rfl
      clear h0
      go_wp2_with fail
      refine (num_any _ r a len cap zs (q + 1) (HV5.out.alloc _).rd (by have := HQ.out; omega) W5.heap.size 0 3 3 (fun i => [0, u.cnt + 1, 1].getD i 0) (by omega) (by omega) (by omega) (new_nums W5 [0, u.cnt + 1, 1])).mono ?_
      rintro e W6 ⟨i, hi, rfl, hg6, hR6⟩
      have HV6 : Hid (V9 w W6 r a len cap zs X u (q + 1 + 1)) := (HV5.out.alloc _).pick HL.out hg6 hR6
      have hm : 0 ≤ [0, u.cnt + 1, 1].getD i 0 ∧ [0, u.cnt + 1, 1].getD i 0 ≤ 300 := by
        match i, hi with
        | 0, _ => exact ⟨by simp, by simp⟩
        | 1, _ => exact ⟨by simp; omega, by simp; omega⟩
        | 2, _ => exact ⟨by simp, by simp⟩
      generalize [0, u.cnt + 1, 1].getD i 0 = m at hm ⊢
      have HM : Hid (0 ≤ m ∧ m ≤ 300) := hm
      clear v0 vf0 r0 z0 v1 vf1 r1 z1 v2 vf2 r2 z2 v3 vf3 r3 z3 hXl hg6 hR6 hi hm
      have v0 : W6.cell? ⟨X, 0, none⟩ = some (.int .i64 u.num) := HV6.out.var.cell 0
      have vf0 := HV6.out.var.frozen 0
      have r0 : W6.cell? ⟨w.heap.size, 0, none⟩ = some (.int .i64 0) := HV6.out.res.cell 0
      have z0 := HV6.out.res.frozen 0
      have v1 : W6.cell? ⟨X, 1, none⟩ = some (.int .i64 u.cnt) := HV6.out.var.cell 1
      have vf1 := HV6.out.var.frozen 1
      have r1 : W6.cell? ⟨w.heap.size, 1, none⟩ = some (.int .i64 0) := HV6.out.res.cell 1
      have z1 := HV6.out.res.frozen 1
      have v2 : W6.cell? ⟨X, 2, none⟩ = some (.int .i64 u.sum) := HV6.out.var.cell 2
      have vf2 := HV6.out.var.frozen 2
      have r2 : W6.cell? ⟨w.heap.size, 2, none⟩ = some (.int .i64 0) := HV6.out.res.cell 2
      have z2 := HV6.out.res.frozen 2
      have v3 : W6.cell? ⟨X, 3, none⟩ = some (.string u.text) := HV6.out.var.cell 3
      have vf3 := HV6.out.var.frozen 3
      have r3 : W6.cell? ⟨w.heap.size, 3, none⟩ = some (.string ⟨#[]⟩) := HV6.out.res.cell 3
      have z3 := HV6.out.res.frozen 3
      have hXl : X < W6.heap.size := HV6.out.var.lt
      go_wp2
      refine bodyPost_ret (v := voV ⟨m, u.cnt, u.sum, u.text⟩) (by simp [voV, results, Tryd.results16, go_sem, v0, vf0, r0, z0, v1, vf1, r1, z1, v2, vf2, r2, z2, v3, vf3, r3, z3, hne, hne2]) rfl ⟨⟨m, u.cnt, u.sum, u.text⟩, q + 1 + 1, rfl, ⟨HM.out, ⟨t2.1, by dsimp only; omega⟩, t3, by dsimp only; omega⟩, ?_, ?_, by have := HQ.out; omega⟩
      · exact grown_setFar (grown_setFar (grown_setFar (grown_setFar (grown_setFar (HV6.out.gr) (Nat.le_of_lt HV6.out.far)) (Nat.le_refl _)) (Nat.le_refl _)) (Nat.le_refl _)) (Nat.le_refl _)
      · exact rd_setFar (rd_setFar (rd_setFar (rd_setFar (rd_setFar (HV6.out.rd) hrX) HL.out) HL.out) HL.out) HL.out
    · have y0 : (y == 0) = false := beq_eq_false_iff_ne.2 h0
      by_cases h1 : y = 1
      · have y1 : (y == 1) = true := by rw [h1]; rfl
        clear h0 h1
        go_wp2_with fail
        refine (num_any _ r a len cap zs (q + 1) (HV5.out.alloc _).rd (by have := HQ.out; omega) W5.heap.size 0 3 3 (fun i => [0, 41, 40].getD i 0) (by omega) (by omega) (by omega) (new_nums W5 [0, 41, 40])).mono ?_
        rintro e W6 ⟨i, hi, rfl, hg6, hR6⟩
        have HV6 : Hid (V9 w W6 r a len cap zs X u (q + 1 + 1)) := (HV5.out.alloc _).pick HL.out hg6 hR6
        have hm : 0 ≤ ([0, 41, 40] : List Int).getD i 0 ∧ ([0, 41, 40] : List Int).getD i 0 ≤ 300 := by
          match i, hi with
          | 0, _ => exact ⟨by simp, by simp⟩
          | 1, _ => exact ⟨by simp, by simp⟩
          | 2, _ => exact ⟨by simp, by simp⟩
        generalize ([0, 41, 40] : List Int).getD i 0 = m at hm ⊢
        have HM : Hid (0 ≤ m ∧ m ≤ 300) := hm
        clear v0 vf0 r0 z0 v1 vf1 r1 z1 v2 vf2 r2 z2 v3 vf3 r3 z3 hXl hg6 hR6 hi hm
        have v0 : W6.cell? ⟨X, 0, none⟩ = some (.int .i64 u.num) := HV6.out.var.cell 0
        have vf0 := HV6.out.var.frozen 0
        have r0 : W6.cell? ⟨w.heap.size, 0, none⟩ = some (.int .i64 0) := HV6.out.res.cell 0
        have z0 := HV6.out.res.frozen 0
        have v1 : W6.cell? ⟨X, 1, none⟩ = some (.int .i64 u.cnt) := HV6.out.var.cell 1
        have vf1 := HV6.out.var.frozen 1
        have r1 : W6.cell? ⟨w.heap.size, 1, none⟩ = some (.int .i64 0) := HV6.out.res.cell 1
        have z1 := HV6.out.res.frozen 1
        have v2 : W6.cell? ⟨X, 2, none⟩ = some (.int .i64 u.sum) := HV6.out.var.cell 2
        have vf2 := HV6.out.var.frozen 2
        have r2 : W6.cell? ⟨w.heap.size, 2, none⟩ = some (.int .i64 0) := HV6.out.res.cell 2
        have z2 := HV6.out.res.frozen 2
        have v3 : W6.cell? ⟨X, 3, none⟩ = some (.string u.text) := HV6.out.var.cell 3
        have vf3 := HV6.out.var.frozen 3
        have r3 : W6.cell? ⟨w.heap.size, 3, none⟩ = some (.string ⟨#[]⟩) := HV6.out.res.cell 3
        have z3 := HV6.out.res.frozen 3
        have hXl : X < W6.heap.size := HV6.out.var.lt
        go_wp2
        refine bodyPost_ret (v := voV ⟨u.num, m, u.sum, u.text⟩) (by simp [voV, results, Tryd.results16, go_sem, v0, vf0, r0, z0, v1, vf1, r1, z1, v2, vf2, r2, z2, v3, vf3, r3, z3, hne, hne2]) rfl ⟨⟨u.num, m, u.sum, u.text⟩, q + 1 + 1, rfl, ⟨⟨t1.1, by dsimp only; omega⟩, HM.out, t3, by dsimp only; omega⟩, ?_, ?_, by have := HQ.out; omega⟩
        · exact grown_setFar (grown_setFar (grown_setFar (grown_setFar (grown_setFar (HV6.out.gr) (Nat.le_of_lt HV6.out.far)) (Nat.le_refl _)) (Nat.le_refl _)) (Nat.le_refl _)) (Nat.le_refl _)
        · exact rd_setFar (rd_setFar (rd_setFar (rd_setFar (rd_setFar (HV6.out.rd) hrX) HL.out) HL.out) HL.out) HL.out
      · have y1 : (y == 1) = false := beq_eq_false_iff_ne.2 h1
        by_cases h2 : y = 2
        · have y2 : (y == 2) = true := by rw [h2]; rfl
          clear h0 h1 h2
          go_wp2
          refine bodyPost_ret (v := voV ⟨u.num, u.cnt, u.sum, u.text ++ ⟨#[120]⟩⟩) (by simp [voV, results, Tryd.results16, go_sem, v0, vf0, r0, z0, v1, vf1, r1, z1, v2, vf2, r2, z2, v3, vf3, r3, z3, hne, hne2]) rfl ⟨⟨u.num, u.cnt, u.sum, u.text ++ ⟨#[120]⟩⟩, q + 1, rfl, ⟨⟨t1.1, by dsimp only; omega⟩, ⟨t2.1, by dsimp only; omega⟩, t3, by dsimp only; rw [ByteArray.size_append]; show u.text.size + 1 ≤ 300; omega⟩, ?_, ?_, by have := HQ.out; omega⟩
          · exact grown_setFar (grown_setFar (grown_setFar (grown_setFar (grown_setFar (HV5.out.gr) (Nat.le_of_lt HV5.out.far)) (Nat.le_refl _)) (Nat.le_refl _)) (Nat.le_refl _)) (Nat.le_refl _)
          · exact rd_setFar (rd_setFar (rd_setFar (rd_setFar (rd_setFar (HV5.out.rd) hrX) HL.out) HL.out) HL.out) HL.out
        · have y2 : (y == 2) = false := beq_eq_false_iff_ne.2 h2
          clear h0 h1 h2
          go_wp2
          refine bodyPost_ret (v := voV u) (by simp [voV, results, Tryd.results16, go_sem, v0, vf0, r0, z0, v1, vf1, r1, z1, v2, vf2, r2, z2, v3, vf3, r3, z3, hne, hne2]) rfl ⟨u, q + 1, rfl, ⟨⟨t1.1, by omega⟩, ⟨t2.1, by omega⟩, t3, by omega⟩, ?_, ?_, by have := HQ.out; omega⟩
          · exact grown_setFar (grown_setFar (grown_setFar (grown_setFar (HV5.out.gr) (Nat.le_refl _)) (Nat.le_refl _)) (Nat.le_refl _)) (Nat.le_refl _)
          · exact rd_setFar (rd_setFar (rd_setFar (rd_setFar (HV5.out.rd) HL.out) HL.out) HL.out) HL.out
  · have hn0' : (0 : Int) < (n : Int) := by omega
    obtain ⟨g, rfl, hgl⟩ := vowns_addr HO.out.1 (by omega)
    go_wp2_with fail
    refine (pick_any _ r a len cap zs q (n : Int) HO.out.2.2.rd (by have := HQ.out; omega) (by omega) (by omega)).mono ?_
    rintro e W3 ⟨k, rfl, hk0, hk1, hg3, hR3⟩
    obtain ⟨k, rfl⟩ := Int.eq_ofNat_of_zero_le hk0
    have hkn : k < n := by omega
    have HW : Hid (V9 w W3 r a len cap zs w1.heap.size ⟨1, 1, 0, ⟨#[]⟩⟩ (q + 1)) := HO.out.2.2.pick HL.out hg3 hR3
    have hu : (E k).Small := HO.out.2.1 k hkn
    have hrow : W3.ownsRow W.heap.size 24 4 (.slice (some ⟨g, 0, none⟩) n c) n (vov n E) := vowns_same HO.out.1 (fun b hb => hg3.block b (vowns_block HO.out.1 hb).2 (fun e => by have := (vowns_block HO.out.1 hb).1; have := HL.out; cases e; omega))
    have d0 := hrow.cellAt (k * 4) (by omega)
    have d1 := hrow.cellAt (k * 4 + 1) (by omega)
    have d2 := hrow.cellAt (k * 4 + 2) (by omega)
    have d3 := hrow.cellAt (k * 4 + 3) (by omega)
    rw [(vov_at (E := E) hkn).1] at d0
    rw [(vov_at (E := E) hkn).2.1] at d1
    rw [(vov_at (E := E) hkn).2.2.1] at d2
    rw [(vov_at (E := E) hkn).2.2.2] at d3
    generalize E k = u at *
    simp only [hX] at HW ⊢
    have s0 : W3.cell? ⟨X, 0, none⟩ = some (.int .i64 1) := HW.out.var.cell 0
    have s1 : W3.cell? ⟨X, 1, none⟩ = some (.int .i64 1) := HW.out.var.cell 1
    have s2 : W3.cell? ⟨X, 2, none⟩ = some (.int .i64 0) := HW.out.var.cell 2
    have s3 : W3.cell? ⟨X, 3, none⟩ = some (.string ⟨#[]⟩) := HW.out.var.cell 3
    have sf0 := HW.out.var.frozen 0
    have sf1 := HW.out.var.frozen 1
    have sf2 := HW.out.var.frozen 2
    have sf3 := HW.out.var.frozen 3
    have hrX0 : r < X := by have := HL.out; omega
    have HV : Hid (V9 w ((((W3.setCell ⟨X, 0, none⟩ (.int .i64 u.num)).setCell ⟨X, 1, none⟩ (.int .i64 u.cnt)).setCell ⟨X, 2, none⟩ (.int .i64 u.sum)).setCell ⟨X, 3, none⟩ (.string u.text)) r a len cap zs X u (q + 1)) := (((HW.out.set hrX0 0 _ ⟨u.num, 1, 0, ⟨#[]⟩⟩ rfl).set hrX0 1 _ ⟨u.num, u.cnt, 0, ⟨#[]⟩⟩ rfl).set hrX0 2 _ ⟨u.num, u.cnt, u.sum, ⟨#[]⟩⟩ rfl).set hrX0 3 _ u rfl
    clear HO hrow hg3 hR3 hgl hk0
    go_wp2_with fail
    clear d0 d1 d2 d3 s0 s1 s2 s3 sf0 sf1 sf2 sf3 hrX0 HW
    obtain ⟨t1, t2, t3, t4⟩ := hu
    have hwc : IntKind.i64.wrap (u.cnt + 1) = u.cnt + 1 := wrap_i64 _ (by omega) (by omega)
    have hrX : r < X := by have := HL.out; omega
    have hne : ¬ X = w.heap.size := by omega
    have hne2 : ¬ w.heap.size = X := by omega
    refine (pick_any _ r a len cap zs (q + 1) 12 HV.out.rd (by have := HQ.out; omega) (by omega) (by omega)).mono ?_
    rintro e W5 ⟨y, rfl, hy0, hy1, hg5, hR5⟩
    have HV5 : Hid (V9 w W5 r a len cap zs X u (q + 1 + 1)) := HV.out.pick HL.out hg5 hR5
    clear hy0 hy1 hg5 hR5
    have v0 : W5.cell? ⟨X, 0, none⟩ = some (.int .i64 u.num) := HV5.out.var.cell 0
    have vf0 := HV5.out.var.frozen 0
    have r0 : W5.cell? ⟨w.heap.size, 0, none⟩ = some (.int .i64 0) := HV5.out.res.cell 0
    have z0 := HV5.out.res.frozen 0
    have v1 : W5.cell? ⟨X, 1, none⟩ = some (.int .i64 u.cnt) := HV5.out.var.cell 1
    have vf1 := HV5.out.var.frozen 1
    have r1 : W5.cell? ⟨w.heap.size, 1, none⟩ = some (.int .i64 0) := HV5.out.res.cell 1
    have z1 := HV5.out.res.frozen 1
    have v2 : W5.cell? ⟨X, 2, none⟩ = some (.int .i64 u.sum) := HV5.out.var.cell 2
    have vf2 := HV5.out.var.frozen 2
    have r2 : W5.cell? ⟨w.heap.size, 2, none⟩ = some (.int .i64 0) := HV5.out.res.cell 2
    have z2 := HV5.out.res.frozen 2
    have v3 : W5.cell? ⟨X, 3, none⟩ = some (.string u.text) := HV5.out.var.cell 3
    have vf3 := HV5.out.var.frozen 3
    have r3 : W5.cell? ⟨w.heap.size, 3, none⟩ = some (.string ⟨#[]⟩) := HV5.out.res.cell 3
    have z3 := HV5.out.res.frozen 3
    have hXl : X < W5.heap.size := HV5.out.var.lt
    by_cases h0 : y = 0
    · have y0 : (y == 0) = true := by rw [h0]; rfl
      clear h0
      go_wp2_with fail
      refine (num_any _ r a len cap zs (q + 1 + 1) (HV5.out.alloc _).rd (by have := HQ.out; omega) W5.heap.size 0 3 3 (fun i => [0, u.cnt + 1, 1].getD i 0) (by omega) (by omega) (by omega) (new_nums W5 [0, u.cnt + 1, 1])).mono ?_
      rintro e W6 ⟨i, hi, rfl, hg6, hR6⟩
      have HV6 : Hid (V9 w W6 r a len cap zs X u (q + 1 + 1 + 1)) := (HV5.out.alloc _).pick HL.out hg6 hR6
      have hm : 0 ≤ [0, u.cnt + 1, 1].getD i 0 ∧ [0, u.cnt + 1, 1].getD i 0 ≤ 300 := by
        match i, hi with
        | 0, _ => exact ⟨by simp, by simp⟩
        | 1, _ => exact ⟨by simp; omega, by simp; omega⟩
        | 2, _ => exact ⟨by simp, by simp⟩
      generalize [0, u.cnt + 1, 1].getD i 0 = m at hm ⊢
      have HM : Hid (0 ≤ m ∧ m ≤ 300) := hm
      clear v0 vf0 r0 z0 v1 vf1 r1 z1 v2 vf2 r2 z2 v3 vf3 r3 z3 hXl hg6 hR6 hi hm
      have v0 : W6.cell? ⟨X, 0, none⟩ = some (.int .i64 u.num) := HV6.out.var.cell 0
      have vf0 := HV6.out.var.frozen 0
      have r0 : W6.cell? ⟨w.heap.size, 0, none⟩ = some (.int .i64 0) := HV6.out.res.cell 0
      have z0 := HV6.out.res.frozen 0
      have v1 : W6.cell? ⟨X, 1, none⟩ = some (.int .i64 u.cnt) := HV6.out.var.cell 1
      have vf1 := HV6.out.var.frozen 1
      have r1 : W6.cell? ⟨w.heap.size, 1, none⟩ = some (.int .i64 0) := HV6.out.res.cell 1
      have z1 := HV6.out.res.frozen 1
      have v2 : W6.cell? ⟨X, 2, none⟩ = some (.int .i64 u.sum) := HV6.out.var.cell 2
      have vf2 := HV6.out.var.frozen 2
      have r2 : W6.cell? ⟨w.heap.size, 2, none⟩ = some (.int .i64 0) := HV6.out.res.cell 2
      have z2 := HV6.out.res.frozen 2
      have v3 : W6.cell? ⟨X, 3, none⟩ = some (.string u.text) := HV6.out.var.cell 3
      have vf3 := HV6.out.var.frozen 3
      have r3 : W6.cell? ⟨w.heap.size, 3, none⟩ = some (.string ⟨#[]⟩) := HV6.out.res.cell 3
      have z3 := HV6.out.res.frozen 3
      have hXl : X < W6.heap.size := HV6.out.var.lt
      go_wp2
      refine bodyPost_ret (v := voV ⟨m, u.cnt, u.sum, u.text⟩) (by simp [voV, results, Tryd.results16, go_sem, v0, vf0, r0, z0, v1, vf1, r1, z1, v2, vf2, r2, z2, v3, vf3, r3, z3, hne, hne2]) rfl ⟨⟨m, u.cnt, u.sum, u.text⟩, q + 1 + 1 + 1, rfl, ⟨HM.out, ⟨t2.1, by dsimp only; omega⟩, t3, by dsimp only; omega⟩, ?_, ?_, by have := HQ.out; omega⟩
      · exact grown_setFar (grown_setFar (grown_setFar (grown_setFar (grown_setFar (HV6.out.gr) (Nat.le_of_lt HV6.out.far)) (Nat.le_refl _)) (Nat.le_refl _)) (Nat.le_refl _)) (Nat.le_refl _)
      · exact rd_setFar (rd_setFar (rd_setFar (rd_setFar (rd_setFar (HV6.out.rd) hrX) HL.out) HL.out) HL.out) HL.out
    · have y0 : (y == 0) = false := beq_eq_false_iff_ne.2 h0
      by_cases h1 : y = 1
      · have y1 : (y == 1) = true := by rw [h1]; rfl
        clear h0 h1
        go_wp2_with fail
        refine (num_any _ r a len cap zs (q + 1 + 1) (HV5.out.alloc _).rd (by have := HQ.out; omega) W5.heap.size 0 3 3 (fun i => [0, 41, 40].getD i 0) (by omega) (by omega) (by omega) (new_nums W5 [0, 41, 40])).mono ?_
        rintro e W6 ⟨i, hi, rfl, hg6, hR6⟩
        have HV6 : Hid (V9 w W6 r a len cap zs X u (q + 1 + 1 + 1)) := (HV5.out.alloc _).pick HL.out hg6 hR6
        have hm : 0 ≤ ([0, 41, 40] : List Int).getD i 0 ∧ ([0, 41, 40] : List Int).getD i 0 ≤ 300 := by
          match i, hi with
          | 0, _ => exact ⟨by simp, by simp⟩
          | 1, _ => exact ⟨by simp, by simp⟩
          | 2, _ => exact ⟨by simp, by simp⟩
        generalize ([0, 41, 40] : List Int).getD i 0 = m at hm ⊢
        have HM : Hid (0 ≤ m ∧ m ≤ 300) := hm
        clear v0 vf0 r0 z0 v1 vf1 r1 z1 v2 vf2 r2 z2 v3 vf3 r3 z3 hXl hg6 hR6 hi hm
        have v0 : W6.cell? ⟨X, 0, none⟩ = some (.int .i64 u.num) := HV6.out.var.cell 0
        have vf0 := HV6.out.var.frozen 0
        have r0 : W6.cell? ⟨w.heap.size, 0, none⟩ = some (.int .i64 0) := HV6.out.res.cell 0
        have z0 := HV6.out.res.frozen 0
        have v1 : W6.cell? ⟨X, 1, none⟩ = some (.int .i64 u.cnt) := HV6.out.var.cell 1
        have vf1 := HV6.out.var.frozen 1
        have r1 : W6.cell? ⟨w.heap.size, 1, none⟩ = some (.int .i64 0) := HV6.out.res.cell 1
        have z1 := HV6.out.res.frozen 1
        have v2 : W6.cell? ⟨X, 2, none⟩ = some (.int .i64 u.sum) := HV6.out.var.cell 2
        have vf2 := HV6.out.var.frozen 2
        have r2 : W6.cell? ⟨w.heap.size, 2, none⟩ = some (.int .i64 0) := HV6.out.res.cell 2
        have z2 := HV6.out.res.frozen 2
        have v3 : W6.cell? ⟨X, 3, none⟩ = some (.string u.text) := HV6.out.var.cell 3
        have vf3 := HV6.out.var.frozen 3
        have r3 : W6.cell? ⟨w.heap.size, 3, none⟩ = some (.string ⟨#[]⟩) := HV6.out.res.cell 3
        have z3 := HV6.out.res.frozen 3
        have hXl : X < W6.heap.size := HV6.out.var.lt
        go_wp2
        refine bodyPost_ret (v := voV ⟨u.num, m, u.sum, u.text⟩) (by simp [voV, results, Tryd.results16, go_sem, v0, vf0, r0, z0, v1, vf1, r1, z1, v2, vf2, r2, z2, v3, vf3, r3, z3, hne, hne2]) rfl ⟨⟨u.num, m, u.sum, u.text⟩, q + 1 + 1 + 1, rfl, ⟨⟨t1.1, by dsimp only; omega⟩, HM.out, t3, by dsimp only; omega⟩, ?_, ?_, by have := HQ.out; omega⟩
        · exact grown_setFar (grown_setFar (grown_setFar (grown_setFar (grown_setFar (HV6.out.gr) (Nat.le_of_lt HV6.out.far)) (Nat.le_refl _)) (Nat.le_refl _)) (Nat.le_refl _)) (Nat.le_refl _)
        · exact rd_setFar (rd_setFar (rd_setFar (rd_setFar (rd_setFar (HV6.out.rd) hrX) HL.out) HL.out) HL.out) HL.out
      · have y1 : (y == 1) = false := beq_eq_false_iff_ne.2 h1
        by_cases h2 : y = 2
        · have y2 : (y == 2) = true := by rw [h2]; rfl
          clear h0 h1 h2
          go_wp2
          refine bodyPost_ret (v := voV ⟨u.num, u.cnt, u.sum, u.text ++ ⟨#[120]⟩⟩) (by simp [voV, results, Tryd.results16, go_sem, v0, vf0, r0, z0, v1, vf1, r1, z1, v2, vf2, r2, z2, v3, vf3, r3, z3, hne, hne2]) rfl ⟨⟨u.num, u.cnt, u.sum, u.text ++ ⟨#[120]⟩⟩, q + 1 + 1, rfl, ⟨⟨t1.1, by dsimp only; omega⟩, ⟨t2.1, by dsimp only; omega⟩, t3, by dsimp only; rw [ByteArray.size_append]; show u.text.size + 1 ≤ 300; omega⟩, ?_, ?_, by have := HQ.out; omega⟩
          · exact grown_setFar (grown_setFar (grown_setFar (grown_setFar (grown_setFar (HV5.out.gr) (Nat.le_of_lt HV5.out.far)) (Nat.le_refl _)) (Nat.le_refl _)) (Nat.le_refl _)) (Nat.le_refl _)
          · exact rd_setFar (rd_setFar (rd_setFar (rd_setFar (rd_setFar (HV5.out.rd) hrX) HL.out) HL.out) HL.out) HL.out
        · have y2 : (y == 2) = false := beq_eq_false_iff_ne.2 h2
          clear h0 h1 h2
          go_wp2
          refine bodyPost_ret (v := voV u) (by simp [voV, results, Tryd.results16, go_sem, v0, vf0, r0, z0, v1, vf1, r1, z1, v2, vf2, r2, z2, v3, vf3, r3, z3, hne, hne2]) rfl ⟨u, q + 1 + 1, rfl, ⟨⟨t1.1, by omega⟩, ⟨t2.1, by omega⟩, t3, by omega⟩, ?_, ?_, by have := HQ.out; omega⟩
          · exact grown_setFar (grown_setFar (grown_setFar (grown_setFar (HV5.out.gr) (Nat.le_refl _)) (Nat.le_refl _)) (Nat.le_refl _)) (Nat.le_refl _)
          · exact rd_setFar (rd_setFar (rd_setFar (rd_setFar (HV5.out.rd) HL.out) HL.out) HL.out) HL.out
end Go.Proofs.YtjlldefajgmelaaDoor
