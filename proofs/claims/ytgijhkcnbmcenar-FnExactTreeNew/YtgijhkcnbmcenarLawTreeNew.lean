/-
  FnExactTreeNew, walked: it answers true at every number.
-/
import Derived.Test.YtgijhkcnbmcenarMarkNew
import Derived.Test.YtgijhkcnbmcenarNodesEq
namespace Go.Proofs.Ytgijhkcnbmcenar
open Go.RowKit
set_option linter.unusedVariables false

theorem eqTree_root (b b' : Nat) (now : Int) (w : World) (hn : In64 now) (h : Blk w b (rootCells now) 48) (h' : Blk w b' (rootCells now) 48) :
    Calls Try.prog 26 #[trV (some ⟨b, 0, none⟩) 1 1 now, trV (some ⟨b', 0, none⟩) 1 1 now] w fun e w' => Below w.heap.size w w' ∧ e = .returned (.bool true) :=
  (eqTree_any _ _ 1 1 1 1 now now _ _ _ _ w (root_nds h) (root_nds h') (root_fits hn) (root_fits hn) (by unfold maxLen; omega) (by unfold maxLen; omega)).mono fun e w' ⟨hb, he⟩ => ⟨hb, by rw [he, sameAll_self]; simp⟩

theorem eqTree_none (w : World) : Calls Try.prog 26 #[trV none 0 0 0, trV none 0 0 0] w fun e w' => Below w.heap.size w w' ∧ e = .returned (.bool true) :=
  (eqTree_any none none 0 0 0 0 0 0 (fun _ => rootNd 0) (fun _ => rootNd 0) (fun _ => noLoc) (fun _ => noLoc) w (Or.inl rfl) (Or.inl rfl) (fun i hi => by omega) (fun i hi => by omega) (by unfold maxLen; omega) (by unfold maxLen; omega)).mono fun e w' ⟨hb, he⟩ => ⟨hb, by rw [he, sameAll_self]; simp⟩

/-- What is known within the law: two new trees, each in a variable of its own. -/
structure TwoNew (w : World) (now : Int) (b1 b2 x y : Nat) (c1 c2 : Array Value) (W : World) : Prop where
  bel : Below w.heap.size w W
  h1 : Blk W b1 c1 48
  h2 : Blk W b2 c2 48
  hx : Blk W x #[.slice (some ⟨b1, 0, none⟩) 1 1, .int .i64 now] 33
  hy : Blk W y #[.slice (some ⟨b2, 0, none⟩) 1 1, .int .i64 now] 33

theorem TwoNew.below {w : World} {now : Int} {b1 b2 x y : Nat} {c1 c2 : Array Value} {W W' : World} (h : TwoNew w now b1 b2 x y c1 c2 W) (hb : Below W.heap.size W W') : TwoNew w now b1 b2 x y c1 c2 W' :=
  ⟨h.bel.trans (hb.mono h.bel.size), h.h1.below hb h.h1.lt, h.h2.below hb h.h2.lt, h.hx.below hb h.hx.lt, h.hy.below hb h.hy.lt⟩

theorem TwoNew.cells {w : World} {now : Int} {b1 b2 x y : Nat} {c1 c2 : Array Value} {W : World} (h : TwoNew w now b1 b2 x y c1 c2 W) :
    W.cell? ⟨x, 0, none⟩ = some (.slice (some ⟨b1, 0, none⟩) 1 1) ∧ W.cell? ⟨x, 1, none⟩ = some (.int .i64 now) ∧ W.cell? ⟨y, 0, none⟩ = some (.slice (some ⟨b2, 0, none⟩) 1 1) ∧ W.cell? ⟨y, 1, none⟩ = some (.int .i64 now) :=
  ⟨h.hx.cell 0, h.hx.cell 1, h.hy.cell 0, h.hy.cell 1⟩

/-- .. of no tree. -/
structure TwoNone (w : World) (x y : Nat) (W : World) : Prop where
  bel : Below w.heap.size w W
  hx : Blk W x #[.slice none 0 0, .int .i64 0] 33
  hy : Blk W y #[.slice none 0 0, .int .i64 0] 33

theorem TwoNone.below {w : World} {x y : Nat} {W W' : World} (h : TwoNone w x y W) (hb : Below W.heap.size W W') : TwoNone w x y W' :=
  ⟨h.bel.trans (hb.mono h.bel.size), h.hx.below hb h.hx.lt, h.hy.below hb h.hy.lt⟩

theorem TwoNone.cells {w : World} {x y : Nat} {W : World} (h : TwoNone w x y W) :
    W.cell? ⟨x, 0, none⟩ = some (.slice none 0 0) ∧ W.cell? ⟨x, 1, none⟩ = some (.int .i64 0) ∧ W.cell? ⟨y, 0, none⟩ = some (.slice none 0 0) ∧ W.cell? ⟨y, 1, none⟩ = some (.int .i64 0) :=
  ⟨h.hx.cell 0, h.hx.cell 1, h.hy.cell 0, h.hy.cell 1⟩

set_option maxHeartbeats 2000000 in
theorem lawTreeNew (now : Int) (w : World) : Calls Try.prog 8 #[.int .i64 now] w fun e w' => e = .returned (.bool true) ∧ Below w.heap.size w w' := by
  by_cases hin : 1 ≤ now ∧ now ≤ 1000
  · have h64 : In64 now := by unfold In64; omega
    have HI : Hid (1 ≤ now ∧ now ≤ 1000) := hin
    clear hin
    go_enter Try.func8, Try.ntmps8
    go_wp2_with fail
    refine (specTreeNew_yes now w HI.out.1 HI.out.2).mono ?_
    rintro e w1 ⟨b1, rfl, hge1, hb1, h1⟩
    unfold trV
    have H1 : Hid (Below w.heap.size w w1 ∧ Blk w1 b1 (rootCells now) 48) := ⟨hb1, h1⟩
    have hl1 := h1.lt
    clear hb1 h1
    go_wp2_with fail
    refine at_world (F := New1 w1 _ _) (new1 w1 _ _) ?_
    rintro W2 ⟨hx2, hb2, hs2⟩
    refine (implTreeNew_yes now W2 HI.out.1 HI.out.2).mono ?_
    rintro e w3 ⟨b2, rfl, hge3, hb3, h3⟩
    unfold trV
    have hx3 := hx2.below hb3 (by omega)
    have hb13 : Below w1.heap.size w1 w3 := hb2.trans (hb3.mono (by omega))
    have H3 : Hid (Below w.heap.size w w3 ∧ Blk w3 b1 (rootCells now) 48 ∧ Blk w3 b2 (rootCells now) 48 ∧ Blk w3 w1.heap.size #[.slice (some ⟨b1, 0, none⟩) 1 1, .int .i64 now] 33) := ⟨H1.out.1.trans (hb13.mono H1.out.1.size), H1.out.2.below hb13 hl1, h3, hx3⟩
    have hl3 : w1.heap.size < w3.heap.size := hx3.lt
    have hl3b : b2 < w3.heap.size := h3.lt
    have hgb : w1.heap.size < b2 := by omega
    have x0 : w3.cell? ⟨w1.heap.size, 0, none⟩ = some (.slice (some ⟨b1, 0, none⟩) 1 1) := hx3.cell 0
    have x1 : w3.cell? ⟨w1.heap.size, 1, none⟩ = some (.int .i64 now) := hx3.cell 1
    clear hx2 hb2 hs2 hb3 h3 hx3 hb13 H1 hge3
    go_wp2_with fail
    refine at_world (F := New1 w3 _ _) (new1 w3 _ _) ?_
    rintro W4 ⟨hy4, hb4, hs4⟩
    have hT4 : TwoNew w now b1 b2 w1.heap.size w3.heap.size (rootCells now) (rootCells now) W4 := ⟨H3.out.1.trans (hb4.mono H3.out.1.size), H3.out.2.1.below hb4 H3.out.2.1.lt, H3.out.2.2.1.below hb4 H3.out.2.2.1.lt, H3.out.2.2.2.below hb4 H3.out.2.2.2.lt, hy4⟩
    refine (eqTree_root b2 b1 now W4 h64 hT4.h2 hT4.h1).mono ?_
    rintro e w5 ⟨hb5, rfl⟩
    have H5 : Hid (TwoNew w now b1 b2 w1.heap.size w3.heap.size (rootCells now) (rootCells now) w5) := hT4.below hb5
    clear hT4 hb5 hy4 hb4 hs4 H3 x0 x1
    obtain ⟨x0, x1, y0, y1⟩ := H5.out.cells
    go_wp2_with fail
    refine (markTree_one b2 now w5 H5.out.h2).mono ?_
    rintro e w6 ⟨rfl, hm6, hk6⟩
    have H6 : Hid (TwoNew w now b1 b2 w1.heap.size w3.heap.size (rootCells now) markCells w6) :=
      ⟨H5.out.bel.trans (hk6.bel.mono (by omega)), H5.out.h1.of_block (hk6.blk _ H5.out.h1.lt (by omega)), hm6, H5.out.hx.of_block (hk6.blk _ H5.out.hx.lt (by omega)), H5.out.hy.of_block (hk6.blk _ H5.out.hy.lt (by omega))⟩
    clear hm6 hk6 H5 x0 x1 y0 y1
    obtain ⟨x0, x1, y0, y1⟩ := H6.out.cells
    go_wp2_with fail
    refine (heldTree_one b2 now w6 H6.out.h2).mono ?_
    rintro e w7 ⟨rfl, hb7⟩
    have H7 : Hid (TwoNew w now b1 b2 w1.heap.size w3.heap.size (rootCells now) markCells w7) := H6.out.below hb7
    clear hb7 H6 x0 x1 y0 y1
    obtain ⟨x0, x1, y0, y1⟩ := H7.out.cells
    go_wp2_with fail
    refine (implTreeNew_yes now w7 HI.out.1 HI.out.2).mono ?_
    rintro e w8 ⟨b3, rfl, hge8, hb8, h8⟩
    unfold trV
    have H8 : Hid (TwoNew w now b1 b2 w1.heap.size w3.heap.size (rootCells now) markCells w8 ∧ Blk w8 b3 (rootCells now) 48) := ⟨H7.out.below hb8, h8⟩
    have hl8x := H8.out.1.hx.lt
    have hl8y := H8.out.1.hy.lt
    clear hb8 h8 H7 x0 x1 y0 y1
    obtain ⟨x0, x1, y0, y1⟩ := H8.out.1.cells
    go_wp2_with fail
    refine at_world (F := New1 w8 _ _) (new1 w8 _ _) ?_
    rintro W9 ⟨hz9, hb9, hs9⟩
    have hT9 := H8.out.1.below hb9
    refine (eqTree_root b3 b1 now W9 h64 (H8.out.2.below hb9 H8.out.2.lt) hT9.h1).mono ?_
    rintro e w10 ⟨hb10, rfl⟩
    have H10 : Hid (TwoNew w now b1 b2 w1.heap.size w3.heap.size (rootCells now) markCells w10) := hT9.below hb10
    clear hT9 hb10 hz9 hb9 hs9 H8 x0 x1 y0 y1
    obtain ⟨x0, x1, y0, y1⟩ := H10.out.cells
    go_wp2_with fail
    refine (heldTree_one b2 now w10 H10.out.h2).mono ?_
    rintro e w11 ⟨rfl, hb11⟩
    have H11 : Hid (Below w.heap.size w w11) := (H10.out.below hb11).bel
    clear hb11 H10 x0 x1 y0 y1
    go_wp2
    go_ret
    exact ⟨rfl, H11.out⟩
  · have HI : Hid (¬ (1 ≤ now ∧ now ≤ 1000)) := hin
    clear hin
    go_enter Try.func8, Try.ntmps8
    go_wp2_with fail
    refine (specTreeNew_no now w HI.out).mono ?_
    rintro e w1 ⟨rfl, hb1⟩
    unfold trV
    have H1 : Hid (Below w.heap.size w w1) := hb1
    clear hb1
    go_wp2_with fail
    refine at_world (F := New1 w1 _ _) (new1 w1 _ _) ?_
    rintro W2 ⟨hx2, hb2, hs2⟩
    refine (implTreeNew_no now W2 HI.out).mono ?_
    rintro e w3 ⟨rfl, hb3⟩
    unfold trV
    have hx3 := hx2.below hb3 (by omega)
    have hb13 : Below w1.heap.size w1 w3 := hb2.trans (hb3.mono (by omega))
    have H3 : Hid (Below w.heap.size w w3 ∧ Blk w3 w1.heap.size #[.slice none 0 0, .int .i64 0] 33) := ⟨H1.out.trans (hb13.mono H1.out.size), hx3⟩
    have hl3 : w1.heap.size < w3.heap.size := hx3.lt
    have x0 : w3.cell? ⟨w1.heap.size, 0, none⟩ = some (.slice none 0 0) := hx3.cell 0
    have x1 : w3.cell? ⟨w1.heap.size, 1, none⟩ = some (.int .i64 0) := hx3.cell 1
    clear hx2 hb2 hs2 hb3 hx3 hb13 H1
    go_wp2_with fail
    refine at_world (F := New1 w3 _ _) (new1 w3 _ _) ?_
    rintro W4 ⟨hy4, hb4, hs4⟩
    have hT4 : TwoNone w w1.heap.size w3.heap.size W4 := ⟨H3.out.1.trans (hb4.mono H3.out.1.size), H3.out.2.below hb4 H3.out.2.lt, hy4⟩
    refine (eqTree_none W4).mono ?_
    rintro e w5 ⟨hb5, rfl⟩
    have H5 : Hid (TwoNone w w1.heap.size w3.heap.size w5) := hT4.below hb5
    clear hT4 hb5 hy4 hb4 hs4 H3 x0 x1
    obtain ⟨x0, x1, y0, y1⟩ := H5.out.cells
    go_wp2_with fail
    refine (markTree_nil w5).mono ?_
    rintro e w6 ⟨rfl, hb6⟩
    have H6 : Hid (TwoNone w w1.heap.size w3.heap.size w6) := H5.out.below hb6
    clear hb6 H5 x0 x1 y0 y1
    obtain ⟨x0, x1, y0, y1⟩ := H6.out.cells
    go_wp2_with fail
    refine (heldTree_nil w6).mono ?_
    rintro e w7 ⟨rfl, hb7⟩
    have H7 : Hid (TwoNone w w1.heap.size w3.heap.size w7) := H6.out.below hb7
    clear hb7 H6 x0 x1 y0 y1
    obtain ⟨x0, x1, y0, y1⟩ := H7.out.cells
    go_wp2_with fail
    refine (implTreeNew_no now w7 HI.out).mono ?_
    rintro e w8 ⟨rfl, hb8⟩
    unfold trV
    have H8 : Hid (TwoNone w w1.heap.size w3.heap.size w8) := H7.out.below hb8
    have hl8x := H8.out.hx.lt
    have hl8y := H8.out.hy.lt
    clear hb8 H7 x0 x1 y0 y1
    obtain ⟨x0, x1, y0, y1⟩ := H8.out.cells
    go_wp2_with fail
    refine at_world (F := New1 w8 _ _) (new1 w8 _ _) ?_
    rintro W9 ⟨hz9, hb9, hs9⟩
    have hT9 := H8.out.below hb9
    refine (eqTree_none W9).mono ?_
    rintro e w10 ⟨hb10, rfl⟩
    have H10 : Hid (TwoNone w w1.heap.size w3.heap.size w10) := hT9.below hb10
    clear hT9 hb10 hz9 hb9 hs9 H8 x0 x1 y0 y1
    obtain ⟨x0, x1, y0, y1⟩ := H10.out.cells
    go_wp2_with fail
    refine (heldTree_nil w10).mono ?_
    rintro e w11 ⟨rfl, hb11⟩
    have H11 : Hid (Below w.heap.size w w11) := (H10.out.below hb11).bel
    clear hb11 H10 x0 x1 y0 y1
    go_wp2
    go_ret
    exact ⟨rfl, H11.out⟩
end Go.Proofs.Ytgijhkcnbmcenar
