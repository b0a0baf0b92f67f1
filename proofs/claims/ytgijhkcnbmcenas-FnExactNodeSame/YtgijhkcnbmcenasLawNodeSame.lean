/-
  FnExactNodeSame, walked: if NodeSame of the program answers as that of the specification, the law answers true.
-/
import Derived.Test.YtgijhkcnbmcenasSpecSame
import Derived.Test.YtgijhkcnbmcenasNodesEq
import Derived.Test.YtgijhkcnbmcenasCut2
import Derived.Deep.RegionWith
import Derived.BigRegion
namespace Go.Proofs.Ytgijhkcnbmcenas
open Go.RowKit
set_option linter.unusedVariables false

/-- What NodeSame of the program has to keep. -/
def ImplNodeSame : Prop := ∀ (d d' : Nd) (l l' : Loc) (w : World), NdIn w d l → NdIn w d' l' → d.Fits → d'.Fits →
    Calls Try.prog 16 #[ndV d l, ndV d' l'] w fun e w' => Below w.heap.size w w' ∧ e = .returned (.bool (d.same d'))

/-- What is known within the law. -/
structure NSIn (w : World) (d d' : Nd) (l l' : Loc) (W : World) : Prop where
  p : Blk W w.heap.size #[.int .i64 d.kind, .string d.text, .slice l.nA d.nn l.nc, .slice l.kA d.kn l.kc, .int .i64 d.turn] 36
  p' : Blk W (w.heap.size + 1) #[.int .i64 d'.kind, .string d'.text, .slice l'.nA d'.nn l'.nc, .slice l'.kA d'.kn l'.kc, .int .i64 d'.turn] 36
  bel : Below w.heap.size w W

theorem NSIn.below {w : World} {d d' : Nd} {l l' : Loc} {W W' : World} (h : NSIn w d d' l l' W) {B : Nat} (hB : W.heap.size ≤ B) (hb : Below B W W') : NSIn w d d' l l' W' :=
  ⟨h.p.below hb (by have := h.p.lt; omega), h.p'.below hb (by have := h.p'.lt; omega), h.bel.trans (hb.mono (by have := h.p.lt; omega))⟩

theorem NSIn.cells {w : World} {d d' : Nd} {l l' : Loc} {W : World} (h : NSIn w d d' l l' W) :
    (W.cell? ⟨w.heap.size, 0, none⟩ = some (.int .i64 d.kind) ∧ W.cell? ⟨w.heap.size, 1, none⟩ = some (.string d.text) ∧ W.cell? ⟨w.heap.size, 2, none⟩ = some (.slice l.nA d.nn l.nc) ∧ W.cell? ⟨w.heap.size, 3, none⟩ = some (.slice l.kA d.kn l.kc) ∧ W.cell? ⟨w.heap.size, 4, none⟩ = some (.int .i64 d.turn)) ∧
    W.cell? ⟨w.heap.size + 1, 0, none⟩ = some (.int .i64 d'.kind) ∧ W.cell? ⟨w.heap.size + 1, 1, none⟩ = some (.string d'.text) ∧ W.cell? ⟨w.heap.size + 1, 2, none⟩ = some (.slice l'.nA d'.nn l'.nc) ∧ W.cell? ⟨w.heap.size + 1, 3, none⟩ = some (.slice l'.kA d'.kn l'.kc) ∧ W.cell? ⟨w.heap.size + 1, 4, none⟩ = some (.int .i64 d'.turn) :=
  ⟨⟨h.p.cell 0, h.p.cell 1, h.p.cell 2, h.p.cell 3, h.p.cell 4⟩, h.p'.cell 0, h.p'.cell 1, h.p'.cell 2, h.p'.cell 3, h.p'.cell 4⟩

theorem NSIn.drew {w : World} {d d' : Nd} {l l' : Loc} {W : World} (h : NSIn w d d' l l' W) (q : Nat) : NSIn w d d' l l' (W.drewN q) := ⟨h.p, h.p', below_drewN h.bel q⟩

/-- A copy of one of the two, taken within the law. -/
theorem toNode_in {w : World} {d d' : Nd} {l l' : Loc} {W : World} (h : NSIn w d d' l l' W) (e : Nd) (m : Loc) (hI : NdIn w e m) (hn : e.nn ≤ 1048576) (hk : e.kn ≤ 1048576) :
    Calls Try.prog 15 #[ndV e m] W fun r w' => ∃ m', r = .returned (ndV e m') ∧ NSIn w d d' l l' w' ∧ NdIn w' e m' ∧ Below W.heap.size W w' :=
  (toNode_any e m W (hI.below (Nat.le_refl _) h.bel) hn hk).mono fun r w' ⟨m', hr, hb, hI', _⟩ => ⟨m', hr, h.below (Nat.le_refl _) hb, hI', hb⟩

/-- What is known behind the program's call. -/
structure TwoX (w : World) (d d' : Nd) (l l' lx ly : Loc) (bx bY : Nat) (W : World) : Prop where
  n : NSIn w d d' l l' W
  x : NdIn W d lx
  y : NdIn W d' ly
  bx : Blk W bx #[.int .i64 d.kind, .string d.text, .slice lx.nA d.nn lx.nc, .slice lx.kA d.kn lx.kc, .int .i64 d.turn] 39
  bY : Blk W bY #[.int .i64 d'.kind, .string d'.text, .slice ly.nA d'.nn ly.nc, .slice ly.kA d'.kn ly.kc, .int .i64 d'.turn] 39

theorem TwoX.below {w : World} {d d' : Nd} {l l' lx ly : Loc} {bx bY : Nat} {W W' : World} (h : TwoX w d d' l l' lx ly bx bY W) (hb : Below W.heap.size W W') : TwoX w d d' l l' lx ly bx bY W' :=
  ⟨h.n.below (Nat.le_refl _) hb, h.x.below (Nat.le_refl _) hb, h.y.below (Nat.le_refl _) hb, h.bx.below hb h.bx.lt, h.bY.below hb h.bY.lt⟩

theorem TwoX.drew {w : World} {d d' : Nd} {l l' lx ly : Loc} {bx bY : Nat} {W : World} (h : TwoX w d d' l l' lx ly bx bY W) (q : Nat) : TwoX w d d' l l' lx ly bx bY (W.drewN q) := h.below (below_drewN (Below.refl _ _) q)

theorem TwoX.cells {w : World} {d d' : Nd} {l l' lx ly : Loc} {bx bY : Nat} {W : World} (h : TwoX w d d' l l' lx ly bx bY W) :
    (W.cell? ⟨bx, 0, none⟩ = some (.int .i64 d.kind) ∧ W.cell? ⟨bx, 1, none⟩ = some (.string d.text) ∧ W.cell? ⟨bx, 2, none⟩ = some (.slice lx.nA d.nn lx.nc) ∧ W.cell? ⟨bx, 3, none⟩ = some (.slice lx.kA d.kn lx.kc) ∧ W.cell? ⟨bx, 4, none⟩ = some (.int .i64 d.turn)) ∧
    W.cell? ⟨bY, 0, none⟩ = some (.int .i64 d'.kind) ∧ W.cell? ⟨bY, 1, none⟩ = some (.string d'.text) ∧ W.cell? ⟨bY, 2, none⟩ = some (.slice ly.nA d'.nn ly.nc) ∧ W.cell? ⟨bY, 3, none⟩ = some (.slice ly.kA d'.kn ly.kc) ∧ W.cell? ⟨bY, 4, none⟩ = some (.int .i64 d'.turn) :=
  ⟨⟨h.bx.cell 0, h.bx.cell 1, h.bx.cell 2, h.bx.cell 3, h.bx.cell 4⟩, h.bY.cell 0, h.bY.cell 1, h.bY.cell 2, h.bY.cell 3, h.bY.cell 4⟩

set_option maxHeartbeats 4000000 in
theorem lawNodeSame (himpl : ImplNodeSame) (d d' : Nd) (l l' : Loc) (w : World) (hI : NdIn w d l) (hI' : NdIn w d' l') (hf : d.Fits) (hf' : d'.Fits) :
    Calls Try.prog 4 #[ndV d l, ndV d' l'] w fun e w' => e = .returned (.bool true) ∧ Below w.heap.size w w' := by
  unfold ndV
  go_enter Try.func4, Try.ntmps4
  go_wp2_with fail
  refine at_world (F := New2 w _ _ _ _) (new2 w _ _ _ _) ?_
  rintro W ⟨hp, hp', hb, hs⟩
  have hN : NSIn w d d' l l' W := ⟨hp, hp', hb⟩
  clear hp hp' hb hs
  refine (szNode_any d l _ W (hI.below (Nat.le_refl _) hN.bel) hf (by omega) (by omega)).mono ?_
  rintro e w1 ⟨hb1, r, rfl, hr1, hr2⟩
  have hN1 := hN.below (Nat.le_refl _) hb1
  clear hb1 hN
  by_cases hr3 : r < 0
  · have hr3' : decide (r < 0) = true := by simp; omega
    have HB : Hid (NSIn w d d' l l' w1) := hN1
    clear hN1 hr2
    go_wp2
    go_ret
    exact ⟨rfl, HB.out.bel⟩
  · have hr3' : decide (r < 0) = false := by simp; omega
    have hsz1 := hr2 (by omega)
    obtain ⟨_, s0, s1, s2, s3, s4⟩ := hN1.cells
    have HB : Hid (NSIn w d d' l l' w1) := hN1
    clear hN1 hr2
    go_wp2_with fail
    refine (szNode_any d' l' _ w1 (hI'.below (Nat.le_refl _) HB.out.bel) hf' (by omega) (by omega)).mono ?_
    rintro e w2 ⟨hb2, r', rfl, hr1', hr2'⟩
    have hN2 := HB.out.below (Nat.le_refl _) hb2
    clear hb2 HB s0 s1 s2 s3 s4
    by_cases hr4 : r' < 0
    · have hr4' : decide (r' < 0) = true := by simp; omega
      have HB : Hid (NSIn w d d' l l' w2) := hN2
      clear hN2 hr2'
      go_wp2
      go_ret
      exact ⟨rfl, HB.out.bel⟩
    · have hr4' : decide (r' < 0) = false := by simp; omega
      have hsz2 := hr2' (by omega)
      have hsm : d.nn ≤ 1048576 ∧ d.kn ≤ 1048576 ∧ d'.nn ≤ 1048576 ∧ d'.kn ≤ 1048576 := by unfold Nd.size at hsz1 hsz2; omega
      obtain ⟨⟨u0, u1, u2, u3, u4⟩, s0, s1, s2, s3, s4⟩ := hN2.cells
      have HB : Hid (NSIn w d d' l l' w2) := hN2
      clear hN2 hr2' hsz1 hsz2
      go_wp2_with fail
      have HTA : Hid (∀ W, NSIn w d d' l l' W → Calls Try.prog 15 #[ndV d l] W fun r w' => ∃ m', r = .returned (ndV d m') ∧ NSIn w d d' l l' w' ∧ NdIn w' d m' ∧ Below W.heap.size W w') := fun W h => toNode_in h d l hI hsm.1 hsm.2.1
      have HTB : Hid (∀ W, NSIn w d d' l l' W → Calls Try.prog 15 #[ndV d' l'] W fun r w' => ∃ m', r = .returned (ndV d' m') ∧ NSIn w d d' l l' w' ∧ NdIn w' d' m' ∧ Below W.heap.size W w') := fun W h => toNode_in h d' l' hI' hsm.2.2.1 hsm.2.2.2
      apply wp_cut2 (X := Loc) (Y := Loc) (fun lA lB W => NSIn w d d' l l' W)
      · intro key
        have KEY : Hid _ := key
        clear key
        go_region_with (first
          | (go_at_call 15
             first
             | (refine (HTB.out wA hNA).mono ?_
                rintro e wB ⟨lB, rfl, hNB, hIB, hpB⟩
                unfold ndV
                obtain ⟨⟨B0, B1, B2, B3, B4⟩, B5, B6, B7, B8, B9⟩ := hNB.cells)
             | (refine (HTA.out (w2.drewN 1) (HB.out.drew 1)).mono ?_
                rintro e wA ⟨lA, rfl, hNA, hIA, hpA⟩
                unfold ndV
                obtain ⟨⟨A0, A1, A2, A3, A4⟩, A5, A6, A7, A8, A9⟩ := hNA.cells))
          | (go_at_call 14
             refine (specNodeSame_any d d' lA lB wB (hIA.below (Nat.le_refl _) hpB) hIB hf hf').mono ?_
             rintro e wC ⟨hbC, rfl⟩))
        all_goals exact KEY.out lA lB wC (hNB.below (Nat.le_refl _) hbC)
      · intro lA lB W hF
        obtain ⟨⟨A0, A1, A2, A3, A4⟩, A5, A6, A7, A8, A9⟩ := hF.cells
        have HF : Hid (NSIn w d d' l l' W) := hF
        clear hF u0 u1 u2 u3 u4 s0 s1 s2 s3 s4 HB
        go_wp2_with fail
        refine (HTA.out W HF.out).mono ?_
        rintro e w3 ⟨lx, rfl, hN3, hI3, hb3⟩
        unfold ndV
        have hl3 := hN3.p'.lt
        have hl3' : w.heap.size < w3.heap.size := by omega
        obtain ⟨⟨A0, A1, A2, A3, A4⟩, A5, A6, A7, A8, A9⟩ := hN3.cells
        have HF3 : Hid (NSIn w d d' l l' w3 ∧ NdIn w3 d lx) := ⟨hN3, hI3⟩
        clear hN3 hI3 hb3 HF
        go_wp2_with fail
        refine at_world (F := New1 w3 _ _) (new1 w3 _ _) ?_
        rintro W4 ⟨hx, hb4, hs4⟩
        refine (HTB.out W4 (HF3.out.1.below (Nat.le_refl _) hb4)).mono ?_
        rintro e w5 ⟨ly, rfl, hN5, hI5, hb5⟩
        unfold ndV
        have hx5 := hx.below hb5 (by omega)
        have hl5 : w3.heap.size < w5.heap.size := hx5.lt
        have x0 : w5.cell? ⟨w3.heap.size, 0, none⟩ = some (.int .i64 d.kind) := hx5.cell 0
        have x1 : w5.cell? ⟨w3.heap.size, 1, none⟩ = some (.string d.text) := hx5.cell 1
        have x2 : w5.cell? ⟨w3.heap.size, 2, none⟩ = some (.slice lx.nA d.nn lx.nc) := hx5.cell 2
        have x3 : w5.cell? ⟨w3.heap.size, 3, none⟩ = some (.slice lx.kA d.kn lx.kc) := hx5.cell 3
        have x4 : w5.cell? ⟨w3.heap.size, 4, none⟩ = some (.int .i64 d.turn) := hx5.cell 4
        have HF5 : Hid (NSIn w d d' l l' w5 ∧ NdIn w5 d lx ∧ NdIn w5 d' ly ∧ Blk w5 w3.heap.size _ _) := ⟨hN5, (HF3.out.2.below (Nat.le_refl _) hb4).below (Nat.le_refl _) hb5, hI5, hx5⟩
        clear hN5 hI5 hb5 HF3 hx hb4 hs4 hx5 A0 A1 A2 A3 A4 A5 A6 A7 A8 A9
        go_wp2_with fail
        refine at_world (F := New1 w5 _ _) (new1 w5 _ _) ?_
        rintro W6 ⟨hy, hb6, hs6⟩
        refine (himpl d d' lx ly W6 (HF5.out.2.1.below (Nat.le_refl _) hb6) (HF5.out.2.2.1.below (Nat.le_refl _) hb6) hf hf').mono ?_
        rintro e w7 ⟨hb7, rfl⟩
        have hne : (d.same d' != d.same d') = false := by simp
        have hb57 : Below w5.heap.size w5 w7 := hb6.trans (hb7.mono (by omega))
        have hy7 := hy.below hb7 (by omega)
        have HF7 : Hid (TwoX w d d' l l' lx ly w3.heap.size w5.heap.size w7) := ⟨HF5.out.1.below (Nat.le_refl _) hb57, HF5.out.2.1.below (Nat.le_refl _) hb57, HF5.out.2.2.1.below (Nat.le_refl _) hb57, HF5.out.2.2.2.below hb57 hl5, hy7⟩
        clear hy hb6 hs6 hb7 hb57 hy7 HF5 x0 x1 x2 x3 x4
        obtain ⟨⟨A0, A1, A2, A3, A4⟩, A5, A6, A7, A8, A9⟩ := HF7.out.n.cells
        obtain ⟨⟨x0, x1, x2, x3, x4⟩, y0, y1, y2, y3, y4⟩ := HF7.out.cells
        go_wp2_with fail
        apply wp_cut1 (X := Loc) (fun lA W => TwoX w d d' l l' lx ly w3.heap.size w5.heap.size W)
        · intro key
          have KEY : Hid _ := key
          clear key
          go_region_with (first
            | (go_at_call 15
               refine (HTA.out (w7.drewN 1) (HF7.out.n.drew 1)).mono ?_
               rintro e wA ⟨lA, rfl, hNA, hIA, hbA⟩
               unfold ndV
               have hXA := (HF7.out.drew 1).below hbA
               obtain ⟨⟨X0, X1, X2, X3, X4⟩, Y0, Y1, Y2, Y3, Y4⟩ := hXA.cells)
            | (go_at_call 17
               refine (eqNode_any d d lx lA wA hXA.x hIA hf hf).mono ?_
               rintro e wC ⟨hbC, rfl⟩
               rw [Nd.same_self]))
          all_goals exact KEY.out lA wC (hXA.below hbC)
        · intro lA W8 hF
          obtain ⟨⟨A0, A1, A2, A3, A4⟩, A5, A6, A7, A8, A9⟩ := hF.n.cells
          obtain ⟨⟨x0, x1, x2, x3, x4⟩, y0, y1, y2, y3, y4⟩ := hF.cells
          have HF : Hid (TwoX w d d' l l' lx ly w3.heap.size w5.heap.size W8) := hF
          clear hF HF7
          go_wp2_with fail
          apply wp_cut1 (X := Loc) (fun lA W => Below w.heap.size w W)
          · intro key
            have KEY : Hid _ := key
            clear key
            go_region_with (first
              | (go_at_call 15
                 refine (HTB.out (W8.drewN 1) (HF.out.n.drew 1)).mono ?_
                 rintro e wB ⟨lB, rfl, hNB, hIB, hbB⟩
                 unfold ndV
                 have hXB := (HF.out.drew 1).below hbB
                 obtain ⟨⟨X0, X1, X2, X3, X4⟩, Y0, Y1, Y2, Y3, Y4⟩ := hXB.cells)
              | (go_at_call 17
                 refine (eqNode_any d' d' ly lB wB hXB.y hIB hf' hf').mono ?_
                 rintro e wD ⟨hbD, rfl⟩
                 rw [Nd.same_self]))
            all_goals exact KEY.out lB wD (hXB.below hbD).n.bel
          · intro lB W9 hF
            have HF9 : Hid (Below w.heap.size w W9) := hF
            clear hF HF
            go_wp2
            go_ret
            exact ⟨rfl, HF9.out⟩
end Go.Proofs.Ytgijhkcnbmcenas
