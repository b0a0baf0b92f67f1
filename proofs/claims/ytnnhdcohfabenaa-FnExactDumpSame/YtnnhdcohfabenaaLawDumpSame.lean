/-
  FnExactDumpSame, walked: if DumpSame of the program answers as that of the specification, the law answers true.
-/
import Derived.Test.YtnnhdcohfabenaaSpecDumpSame
import Derived.Test.YtnnhdcohfabenaaDumpTo
import Derived.Test.YtnnhdcohfabenaaCut2
import Derived.Deep.RegionWith
import Derived.BigRegion
namespace Go.Proofs.Ytnnhdcohfabenaa
open Go.RowKit
set_option linter.unusedVariables false

/-- What DumpSame of the program has to keep. -/
def ImplDumpSame : Prop := ∀ (d e : Dp) (l k : DLoc) (w : World), DpIn w d l → DpIn w e k → d.Fits → e.Fits →
    Calls Try.prog 21 #[dpV d l, dpV e k] w fun r w' => Below w.heap.size w w' ∧ r = .returned (.bool (d.same e))

theorem DSIn.cells {w : World} {d e : Dp} {l k : DLoc} {t : TypeId} {W : World} (h : DSIn w d e l k t W) :
    (W.cell? ⟨w.heap.size, 0, none⟩ = some (.int .i64 d.since) ∧ W.cell? ⟨w.heap.size, 1, none⟩ = some (.int .i64 d.date) ∧ W.cell? ⟨w.heap.size, 2, none⟩ = some (.slice l.lA d.ln l.lc) ∧ W.cell? ⟨w.heap.size, 3, none⟩ = some (.slice l.iA d.m l.ic)) ∧
    (W.cell? ⟨w.heap.size + 1, 0, none⟩ = some (.int .i64 e.since) ∧ W.cell? ⟨w.heap.size + 1, 1, none⟩ = some (.int .i64 e.date) ∧ W.cell? ⟨w.heap.size + 1, 2, none⟩ = some (.slice k.lA e.ln k.lc) ∧ W.cell? ⟨w.heap.size + 1, 3, none⟩ = some (.slice k.iA e.m k.ic)) :=
  ⟨⟨h.p.cell 0, h.p.cell 1, h.p.cell 2, h.p.cell 3⟩, h.p'.cell 0, h.p'.cell 1, h.p'.cell 2, h.p'.cell 3⟩

/-- The cells of what is kept, in a variable. -/
def dpC (d : Dp) (l : DLoc) : Array Value := #[.int .i64 d.since, .int .i64 d.date, .slice l.lA d.ln l.lc, .slice l.iA d.m l.ic]

theorem dp_cells {W : World} {b : Nat} {d : Dp} {l : DLoc} {t : TypeId} (h : Blk W b (dpC d l) t) :
    W.cell? ⟨b, 0, none⟩ = some (.int .i64 d.since) ∧ W.cell? ⟨b, 1, none⟩ = some (.int .i64 d.date) ∧ W.cell? ⟨b, 2, none⟩ = some (.slice l.lA d.ln l.lc) ∧ W.cell? ⟨b, 3, none⟩ = some (.slice l.iA d.m l.ic) := ⟨h.cell 0, h.cell 1, h.cell 2, h.cell 3⟩

/-- What is known behind the program's call. -/
structure TwoD (w : World) (d e : Dp) (l k l1 l2 : DLoc) (bx bY : Nat) (W : World) : Prop where
  two : DSIn w d e l k 25 W
  x : DpIn W d l1
  y : DpIn W e l2
  bx : Blk W bx (dpC d l1) 30
  bY : Blk W bY (dpC e l2) 30

theorem TwoD.below {w : World} {d e : Dp} {l k l1 l2 : DLoc} {bx bY : Nat} {W W' : World} (h : TwoD w d e l k l1 l2 bx bY W) (hb : Below W.heap.size W W') : TwoD w d e l k l1 l2 bx bY W' :=
  ⟨h.two.below hb, h.x.below (Nat.le_refl _) hb, h.y.below (Nat.le_refl _) hb, h.bx.below hb h.bx.lt, h.bY.below hb h.bY.lt⟩

theorem TwoD.drew {w : World} {d e : Dp} {l k l1 l2 : DLoc} {bx bY : Nat} {W : World} (h : TwoD w d e l k l1 l2 bx bY W) (q : Nat) : TwoD w d e l k l1 l2 bx bY (W.drewN q) := h.below (below_drewN (Below.refl _ _) q)

/-- A copy of one of the two, taken within the law. -/
theorem toDump_in {w : World} {d e : Dp} {l k : DLoc} {W : World} (h : DSIn w d e l k 25 W) (f : Dp) (o : DLoc) (hS : DpIn w f o) (hsz : f.size ≤ 1048576) :
    Calls Try.prog 9 #[dpV f o] W fun r w' => ∃ o', r = .returned (dpV f o') ∧ DSIn w d e l k 25 w' ∧ DpIn w' f o' ∧ Below W.heap.size W w' :=
  (toDump_any f o W (hS.below (Nat.le_refl _) h.bel) hsz).mono fun r w' ⟨o', hr, hb, hI⟩ => ⟨o', hr, h.below hb, hI, hb⟩

set_option maxHeartbeats 8000000 in
theorem lawDumpSame (himpl : ImplDumpSame) (d e : Dp) (l k : DLoc) (w : World) (hS : DpIn w d l) (hT : DpIn w e k) (hf : d.Fits) (hf' : e.Fits) :
    Calls Try.prog 5 #[dpV d l, dpV e k] w fun r w' => r = .returned (.bool true) ∧ Below w.heap.size w w' := by
  unfold dpV
  go_enter Try.func5, Try.ntmps5
  go_wp2_with fail
  refine at_world (F := New2 w _ _ _ _) (new2 w _ _ _ _) ?_
  rintro W ⟨hp, hp', hb, hs⟩
  have hN : DSIn w d e l k 25 W := ⟨hp, hp', hb⟩
  clear hp hp' hb hs
  refine (szDump_any d l _ W (hS.below (Nat.le_refl _) hN.bel) hf (by omega) (by omega)).mono ?_
  rintro r0 w1 ⟨hb1, r, rfl, hr1, hr2⟩
  have hN1 := hN.below hb1
  clear hb1 hN
  by_cases hr3 : r < 0
  · have hr3' : decide (r < 0) = true := by simp; omega
    have HB : Hid (Below w.heap.size w w1) := hN1.bel
    clear hN1 hr2
    go_wp2
    go_ret
    exact ⟨rfl, HB.out⟩
  · have hr3' : decide (r < 0) = false := by simp; omega
    have hsz1 := hr2 (by omega)
    obtain ⟨⟨u0, u1, u2, u3⟩, s0, s1, s2, s3⟩ := hN1.cells
    have HB : Hid (DSIn w d e l k 25 w1) := hN1
    clear hN1 hr2
    go_wp2_with fail
    refine (szDump_any e k _ w1 (hT.below (Nat.le_refl _) HB.out.bel) hf' (by omega) (by omega)).mono ?_
    rintro r0 w2 ⟨hb2, r', rfl, hr1', hr2'⟩
    have hN2 := HB.out.below hb2
    clear hb2 HB s0 s1 s2 s3 u0 u1 u2 u3
    by_cases hr4 : r' < 0
    · have hr4' : decide (r' < 0) = true := by simp; omega
      have HB : Hid (Below w.heap.size w w2) := hN2.bel
      clear hN2 hr2'
      go_wp2
      go_ret
      exact ⟨rfl, HB.out⟩
    · have hr4' : decide (r' < 0) = false := by simp; omega
      have hsz2 := hr2' (by omega)
      have HS : Hid (d.size ≤ 1048576 ∧ e.size ≤ 1048576) := ⟨by omega, by omega⟩
      obtain ⟨⟨u0, u1, u2, u3⟩, s0, s1, s2, s3⟩ := hN2.cells
      have HB : Hid (DSIn w d e l k 25 w2) := hN2
      clear hN2 hr2' hsz1 hsz2
      have HTA : Hid (∀ W, DSIn w d e l k 25 W → Calls Try.prog 9 #[dpV d l] W fun r w' => ∃ o', r = .returned (dpV d o') ∧ DSIn w d e l k 25 w' ∧ DpIn w' d o' ∧ Below W.heap.size W w') := fun W h => toDump_in h d l hS HS.out.1
      have HTB : Hid (∀ W, DSIn w d e l k 25 W → Calls Try.prog 9 #[dpV e k] W fun r w' => ∃ o', r = .returned (dpV e o') ∧ DSIn w d e l k 25 w' ∧ DpIn w' e o' ∧ Below W.heap.size W w') := fun W h => toDump_in h e k hT HS.out.2
      go_wp2_with fail
      apply wp_cut2 (X := DLoc) (Y := DLoc) (fun bA bB W => DSIn w d e l k 25 W)
      · intro key
        have KEY : Hid _ := key
        clear key
        go_region_with (first
          | (go_at_call 9
             first
             | (refine (HTB.out wA hNA).mono ?_
                rintro r0 wB ⟨bB, rfl, hNB, hIB, hbB⟩
                unfold dpV
                obtain ⟨⟨B0, B1, B2, B3⟩, B4, B5, B6, B7⟩ := hNB.cells)
             | (refine (HTA.out (w2.drewN 1) (HB.out.drew 1)).mono ?_
                rintro r0 wA ⟨bA, rfl, hNA, hIA, hbA⟩
                unfold dpV
                obtain ⟨⟨A0, A1, A2, A3⟩, A4, A5, A6, A7⟩ := hNA.cells))
          | (go_at_call 20
             refine (specDumpSame_any d e bA bB wB (hIA.below (Nat.le_refl _) hbB) hIB hf hf').mono ?_
             rintro r0 wC ⟨hbC, rfl⟩))
        all_goals exact KEY.out bA bB wC (hNB.below hbC)
      · intro bA bB W hF
        obtain ⟨⟨A0, A1, A2, A3⟩, A4, A5, A6, A7⟩ := hF.cells
        have HF : Hid (DSIn w d e l k 25 W) := hF
        clear hF u0 u1 u2 u3 s0 s1 s2 s3 HB
        go_wp2_with fail
        refine (HTA.out W HF.out).mono ?_
        rintro r0 w3 ⟨b1, rfl, hN3, hI3, hb3⟩
        unfold dpV
        have hl3 := hN3.p'.lt
        have hl3' : w.heap.size < w3.heap.size := by omega
        obtain ⟨⟨A0, A1, A2, A3⟩, A4, A5, A6, A7⟩ := hN3.cells
        have HF3 : Hid (DSIn w d e l k 25 w3 ∧ DpIn w3 d b1) := ⟨hN3, hI3⟩
        clear hN3 hI3 hb3 HF
        go_wp2_with fail
        refine at_world (F := New1 w3 _ _) (new1 w3 _ _) ?_
        rintro W4 ⟨hx, hb4, hs4⟩
        refine (HTB.out W4 (HF3.out.1.below hb4)).mono ?_
        rintro r0 w5 ⟨b2, rfl, hN5, hI5, hb5⟩
        unfold dpV
        have hx5 := hx.below hb5 (by omega)
        have hl5 : w3.heap.size < w5.heap.size := hx5.lt
        obtain ⟨x0, x1, x2, x3⟩ := dp_cells (d := d) (l := b1) hx5
        have HF5 : Hid (DSIn w d e l k 25 w5 ∧ DpIn w5 d b1 ∧ DpIn w5 e b2 ∧ Blk w5 w3.heap.size (dpC d b1) 30) := ⟨hN5, (HF3.out.2.below (Nat.le_refl _) hb4).below (Nat.le_refl _) hb5, hI5, hx5⟩
        clear hN5 hI5 hb5 HF3 hx hb4 hs4 hx5 A0 A1 A2 A3 A4 A5 A6 A7
        go_wp2_with fail
        refine at_world (F := New1 w5 _ _) (new1 w5 _ _) ?_
        rintro W6 ⟨hy, hb6, hs6⟩
        refine (himpl d e b1 b2 W6 (HF5.out.2.1.below (Nat.le_refl _) hb6) (HF5.out.2.2.1.below (Nat.le_refl _) hb6) hf hf').mono ?_
        rintro r0 w7 ⟨hb7, rfl⟩
        have hne : (d.same e != d.same e) = false := by simp
        have hb57 : Below w5.heap.size w5 w7 := hb6.trans (hb7.mono (by omega))
        have hy7 := hy.below hb7 (by omega)
        have HF7 : Hid (TwoD w d e l k b1 b2 w3.heap.size w5.heap.size w7) := ⟨HF5.out.1.below hb57, HF5.out.2.1.below (Nat.le_refl _) hb57, HF5.out.2.2.1.below (Nat.le_refl _) hb57, HF5.out.2.2.2.below hb57 hl5, hy7⟩
        clear hy hb6 hs6 hb7 hb57 hy7 HF5 x0 x1 x2 x3
        obtain ⟨⟨A0, A1, A2, A3⟩, A4, A5, A6, A7⟩ := HF7.out.two.cells
        obtain ⟨x0, x1, x2, x3⟩ := dp_cells HF7.out.bx
        obtain ⟨y0, y1, y2, y3⟩ := dp_cells HF7.out.bY
        go_wp2_with fail
        apply wp_cut1 (X := DLoc) (fun bA W => TwoD w d e l k b1 b2 w3.heap.size w5.heap.size W)
        · intro key
          have KEY : Hid _ := key
          clear key
          go_region_with (first
            | (go_at_call 9
               refine (HTA.out (w7.drewN 1) (HF7.out.two.drew 1)).mono ?_
               rintro r0 wA ⟨bA, rfl, hNA, hIA, hbA⟩
               unfold dpV
               have hXA := (HF7.out.drew 1).below hbA
               obtain ⟨X0, X1, X2, X3⟩ := dp_cells hXA.bx)
            | (go_at_call 11
               refine (eqDump_any d d b1 bA wA hXA.x hIA hf hf).mono ?_
               rintro r0 wC ⟨hbC, rfl⟩
               rw [Dp.same_self]))
          all_goals exact KEY.out bA wC (hXA.below hbC)
        · intro bA W8 hF
          obtain ⟨⟨A0, A1, A2, A3⟩, A4, A5, A6, A7⟩ := hF.two.cells
          obtain ⟨x0, x1, x2, x3⟩ := dp_cells hF.bx
          obtain ⟨y0, y1, y2, y3⟩ := dp_cells hF.bY
          have HF : Hid (TwoD w d e l k b1 b2 w3.heap.size w5.heap.size W8) := hF
          clear hF HF7
          go_wp2_with fail
          apply wp_cut1 (X := DLoc) (fun bA W => Below w.heap.size w W)
          · intro key
            have KEY : Hid _ := key
            clear key
            go_region_with (first
              | (go_at_call 9
                 refine (HTB.out (W8.drewN 1) (HF.out.two.drew 1)).mono ?_
                 rintro r0 wB ⟨bB, rfl, hNB, hIB, hbB⟩
                 unfold dpV
                 have hXB := (HF.out.drew 1).below hbB
                 obtain ⟨Y0, Y1, Y2, Y3⟩ := dp_cells hXB.bY)
              | (go_at_call 11
                 refine (eqDump_any e e b2 bB wB hXB.y hIB hf' hf').mono ?_
                 rintro r0 wD ⟨hbD, rfl⟩
                 rw [Dp.same_self]))
            all_goals exact KEY.out bB wD (hXB.below hbD).two.bel
          · intro bB W9 hF
            have HF9 : Hid (Below w.heap.size w W9) := hF
            clear hF HF
            go_wp2
            go_ret
            exact ⟨rfl, HF9.out⟩
end Go.Proofs.Ytnnhdcohfabenaa
