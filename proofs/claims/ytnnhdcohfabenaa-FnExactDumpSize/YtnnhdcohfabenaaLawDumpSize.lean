/-
  FnExactDumpSize, walked: if DumpSize of the program answers as that of the specification, the law answers true.
-/
import Derived.Test.YtnnhdcohfabenaaDumpSizeDef
import Derived.Test.YtnnhdcohfabenaaDumpTo
import Derived.Test.YtnnhdcohfabenaaLawDumpBase
import Derived.Deep.RegionWith
import Derived.BigRegion
namespace Go.Proofs.Ytnnhdcohfabenaa
open Go.RowKit
set_option linter.unusedVariables false

/-- What DumpSize of the program has to keep. -/
def ImplDumpSize : Prop := ∀ (d : Dp) (l : DLoc) (w : World), DpIn w d l → d.Fits → d.size ≤ 1048576 →
    Calls Try.prog 23 #[dpV d l] w fun r w' => Below w.heap.size w w' ∧ r = .returned (.int .i64 (d.total : Nat))

set_option maxHeartbeats 4000000 in
theorem lawDumpSize (himpl : ImplDumpSize) (d : Dp) (l : DLoc) (w : World) (hS : DpIn w d l) (hf : d.Fits) :
    Calls Try.prog 6 #[dpV d l] w fun e w' => e = .returned (.bool true) ∧ Below w.heap.size w w' := by
  unfold dpV
  go_enter Try.func6, Try.ntmps6
  go_wp2_with fail
  refine at_world (F := New1 w _ _) (new1 w _ _) ?_
  rintro W ⟨hp, hb, hs⟩
  have hN : D1In w d l 25 W := ⟨hp, hb⟩
  clear hp hb hs
  refine (szDump_any d l _ W (hS.below (Nat.le_refl _) hN.bel) hf (by omega) (by omega)).mono ?_
  rintro e w1 ⟨hb1, r, rfl, hr1, hr2⟩
  have hN1 := hN.below hb1
  clear hb1 hN
  by_cases hr3 : r < 0
  · have hr3' : decide (r < 0) = true := by simp; omega
    have HB : Hid (Below w.heap.size w w1) := hN1.bel
    clear hN1 hr2
    go_wp2
    go_ret
    exact ⟨rfl, HB.out⟩
  · have hr3' : decide (r < 0) = false := by simp; omega
    have hsz : d.size ≤ 1048576 := by have := hr2 (by omega); omega
    obtain ⟨u0, u1, u2, u3⟩ := hN1.cells
    have HB : Hid (D1In w d l 25 w1) := hN1
    clear hN1 hr2
    have HTA : Hid (∀ W, D1In w d l 25 W → Calls Try.prog 9 #[dpV d l] W fun r w' => ∃ o', r = .returned (dpV d o') ∧ D1In w d l 25 w' ∧ DpIn w' d o' ∧ Below W.heap.size W w') := fun W h => toDump_1 h hS hsz
    go_wp2_with fail
    refine (HTA.out w1 HB.out).mono ?_
    rintro e w2 ⟨o2, rfl, hN2, hI2, hb2⟩
    unfold dpV
    have HN2 : Hid _ := hN2
    clear hN2 hb2 HB u0 u1 u2 u3
    go_wp2_with fail
    refine (specDumpSize_any d o2 w2 hI2 hf hsz).mono ?_
    rintro e w3 ⟨hb3, rfl⟩
    have hN3 := HN2.out.below hb3
    obtain ⟨u0, u1, u2, u3⟩ := hN3.cells
    have HN3 : Hid _ := hN3
    clear hN3 hb3 HN2 hI2
    go_wp2_with fail
    refine (HTA.out w3 HN3.out).mono ?_
    rintro e w4 ⟨o4, rfl, hN4, hI4, hb4⟩
    unfold dpV
    have H4 : Hid (D1In w d l 25 w4 ∧ DpIn w4 d o4) := ⟨hN4, hI4⟩
    have hwl4 : w.heap.size < w4.heap.size := hN4.p.lt
    clear hN4 hI4 hb4 HN3 u0 u1 u2 u3
    go_wp2_with fail
    refine at_world (F := New1 w4 _ _) (new1 w4 _ _) ?_
    rintro W5 ⟨hx, hb5, hs5⟩
    refine (himpl d o4 W5 (H4.out.2.below (Nat.le_refl _) hb5) hf hsz).mono ?_
    rintro e w6 ⟨hb6, rfl⟩
    have hb56 : Below w4.heap.size w4 w6 := hb5.trans (hb6.mono (by omega))
    have H6 : Hid (OneD w d l o4 w4.heap.size w6) := ⟨H4.out.1.below hb56, H4.out.2.below (Nat.le_refl _) hb56, hx.below hb6 (by omega)⟩
    obtain ⟨A0, A1, A2, A3⟩ := H6.out.one.cells
    obtain ⟨x0, x1, x2, x3⟩ := dp1_cells H6.out.bx
    clear hb5 hb6 hb56 hx hs5 H4
    go_wp2_with fail
    go_region_with (first
      | (go_at_call 9
         refine (HTA.out (w6.drewN 1) (H6.out.one.drew 1)).mono ?_
         rintro e w7 ⟨o7, rfl, hN7, hI7, hb7⟩
         unfold dpV
         have hX7 := (H6.out.drew 1).below hb7
         obtain ⟨y0, y1, y2, y3⟩ := dp1_cells hX7.bx)
      | (go_at_call 11
         refine (eqDump_any d d o4 o7 w7 hX7.x hI7 hf hf).mono ?_
         rintro e w8 ⟨hb8, rfl⟩
         rw [Dp.same_self]))
    all_goals
      have HB8 : Hid (Below w.heap.size w w8) := (hX7.one.below hb8).bel
      clear hb8 hN7 hI7 hX7 y0 y1 y2 y3 hb7
      go_wp2
      go_ret
      exact ⟨rfl, HB8.out⟩
end Go.Proofs.Ytnnhdcohfabenaa
