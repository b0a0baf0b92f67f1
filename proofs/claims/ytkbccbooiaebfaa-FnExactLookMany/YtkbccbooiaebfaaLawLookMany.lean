/-
  FnExactLookMany, walked.
-/
import Derived.Test.YtkbccbooiaebfaaSpecMany
import Derived.Test.YtkbccbooiaebfaaImplMany
import Derived.Test.YtkbccbooiaebfaaNodesEq
import Derived.Test.YtkbccbooiaebfaaTreeSmall
import Derived.Deep.RegionWith
import Derived.BigRegion
namespace Go.Proofs.Ytkbccbooiaebfaa
open Go.RowKit
set_option linter.unusedVariables false

set_option maxHeartbeats 2000000 in
theorem lawLookMany (a : Option Addr) (n c : Nat) (now : Int) (D : Nat → Nd) (L : Nat → Loc) (w : World) (hS : IsNds w a n D L) (hf : FitAll n D) (hn : n ≤ maxLen) (hnow : In64 now) :
    Calls Try.prog 7 #[trV a n c now] w fun e w' => e = .returned (.bool true) ∧ Below w.heap.size w w' := by
  unfold trV
  go_enter Try.func7, Try.ntmps7
  go_wp2_with fail
  refine at_world (F := New1 w _ _) (new1 w _ _) ?_
  rintro W ⟨hp, hb, hs⟩
  have hS0 := hS.below (Nat.le_refl _) hb
  refine (szTree_any a n c now D L _ W hS0 hf hn (by omega) (by omega)).mono ?_
  rintro e w1 ⟨hb1, r, rfl, hr1, hr2⟩
  have hbel1 := hb.trans (hb1.mono (by omega))
  by_cases hr3 : r < 0
  · have hr3' : decide (r < 0) = true := by simp; omega
    have HB : Hid (Below w.heap.size w w1) := hbel1
    clear hbel1 hb1 hb hp hr2 hS0
    go_wp2
    go_ret
    exact ⟨rfl, HB.out⟩
  · have hr3' : decide (r < 0) = false := by simp; omega
    have hsz : sizeTo D n ≤ 1048576 ∧ n ≤ 1048576 := by have := hr2 (by omega); omega
    have hp1 := hp.below hb1 (by omega)
    have hS1 := hS0.below (Nat.le_refl _) hb1
    have p0 : w1.cell? ⟨w.heap.size, 0, none⟩ = some (.slice a n c) := hp1.cell 0
    have p1 : w1.cell? ⟨w.heap.size, 1, none⟩ = some (.int .i64 now) := hp1.cell 1
    have H1 : Hid (Below w.heap.size w w1 ∧ Blk w1 w.heap.size _ _) := ⟨hbel1, hp1⟩
    have hwl := hp1.lt
    clear hbel1 hb1 hb hp hr2 hS0 hp1 hs
    go_wp2_with fail
    refine (toTree_any a n c now D L w1 hS1 hsz.2 (small_of_size hsz.1)).mono ?_
    rintro e w2 ⟨b2, rfl, hb2, hge2, L2, hrow2⟩
    unfold trV
    have H2 : Hid (Below w.heap.size w w2 ∧ Blk w2 w.heap.size _ _) := ⟨H1.out.1.trans (hb2.mono (by omega)), H1.out.2.below hb2 hwl⟩
    have hN2 := hrow2.nds
    have hwl2 : w.heap.size < w2.heap.size := by have := hb2.size; omega
    clear hb2 hge2 hrow2 H1 p0 p1 hS1
    go_wp2_with fail
    refine (specLookMany_any _ n n now D L2 w2 hN2 hf hn hsz.1).mono ?_
    rintro e w3 ⟨hb3, f0, d0, l0, rfl, hr0⟩
    have H3 : Hid (Below w.heap.size w w3 ∧ Blk w3 w.heap.size _ _ ∧ ManyAre n D now f0 d0 l0) := ⟨H2.out.1.trans (hb3.mono (by omega)), H2.out.2.below hb3 hwl2, hr0⟩
    have hwl3 : w.heap.size < w3.heap.size := by have := hb3.size; omega
    have p0 : w3.cell? ⟨w.heap.size, 0, none⟩ = some (.slice a n c) := H3.out.2.1.cell 0
    have p1 : w3.cell? ⟨w.heap.size, 1, none⟩ = some (.int .i64 now) := H3.out.2.1.cell 1
    clear hb3 hN2 H2 hr0
    go_wp2_with fail
    refine (toTree_any a n c now D L w3 (hS.below (Nat.le_refl _) H3.out.1) hsz.2 (small_of_size hsz.1)).mono ?_
    rintro e w4 ⟨b4, rfl, hb4, hge4, L4, hrow4⟩
    unfold trV
    have H4 : Hid (Below w.heap.size w w4 ∧ Blk w4 w.heap.size _ _ ∧ IsNds w4 (some ⟨b4, 0, none⟩) n D L4) := ⟨H3.out.1.trans (hb4.mono (by omega)), H3.out.2.1.below hb4 hwl3, hrow4.nds⟩
    have hwl4 : w.heap.size < w4.heap.size := by have := hb4.size; omega
    have HR : Hid (ManyAre n D now f0 d0 l0) := H3.out.2.2
    clear hb4 hge4 hrow4 H3 p0 p1
    go_wp2_with fail
    refine at_world (F := New1 w4 _ _) (new1 w4 _ _) ?_
    rintro W5 ⟨hx, hb5, hs5⟩
    have hN5 := H4.out.2.2.below (Nat.le_refl _) hb5
    refine (implLookMany _ n n now D L4 W5 hN5 hf hn hsz.1 hnow).mono ?_
    rintro e w6 ⟨hb6, f1, d1, l1, rfl, hr1'⟩
    obtain ⟨rfl, rfl, rfl⟩ := hr1'.one HR.out
    have hne1 : (f1 != f1) = false := by simp
    have hne2 : (d1 != d1) = false := by simp
    have hne3 : (l1 != l1) = false := by simp
    have hb56 : Below w4.heap.size w4 w6 := hb5.trans (hb6.mono (by omega))
    have H6 : Hid (Below w.heap.size w w6 ∧ Blk w6 w.heap.size _ _ ∧ IsNds w6 (some ⟨b4, 0, none⟩) n D L4 ∧ Blk w6 w4.heap.size _ _) := ⟨H4.out.1.trans (hb56.mono (by omega)), H4.out.2.1.below hb56 hwl4, H4.out.2.2.below (Nat.le_refl _) hb56, hx.below hb6 (by omega)⟩
    have hwl6 : w4.heap.size < w6.heap.size := by have := hb6.size; omega
    have p0 : w6.cell? ⟨w.heap.size, 0, none⟩ = some (.slice a n c) := H6.out.2.1.cell 0
    have p1 : w6.cell? ⟨w.heap.size, 1, none⟩ = some (.int .i64 now) := H6.out.2.1.cell 1
    have x0 : w6.cell? ⟨w4.heap.size, 0, none⟩ = some (.slice (some ⟨b4, 0, none⟩) n n) := H6.out.2.2.2.cell 0
    have x1 : w6.cell? ⟨w4.heap.size, 1, none⟩ = some (.int .i64 now) := H6.out.2.2.2.cell 1
    clear hb5 hb6 hb56 hx hs5 hN5 hr1' HR H4
    have HX : Hid (∀ W, Below w6.heap.size w6 W → W.cell? ⟨w4.heap.size, 0, none⟩ = some (.slice (some ⟨b4, 0, none⟩) n n) ∧ W.cell? ⟨w4.heap.size, 1, none⟩ = some (.int .i64 now) ∧ IsNds W (some ⟨b4, 0, none⟩) n D L4 ∧ Below w.heap.size w W) := fun W hW =>
      ⟨(H6.out.2.2.2.below hW hwl6).cell 0, (H6.out.2.2.2.below hW hwl6).cell 1, H6.out.2.2.1.below (Nat.le_refl _) hW, H6.out.1.trans (hW.mono (by omega))⟩
    have HT : Hid (∀ q, Calls Try.prog 10 #[trV a n c now] (w6.drewN q) fun e w' => ∃ b, e = .returned (trV (some ⟨b, 0, none⟩) n n now) ∧ Below w6.heap.size w6 w' ∧ ∃ L', IsNds w' (some ⟨b, 0, none⟩) n D L') := fun q =>
      (toTree_any a n c now D L (w6.drewN q) (hS.below (Nat.le_refl _) (below_drewN H6.out.1 q)) hsz.2 (small_of_size hsz.1)).mono fun e w' ⟨b, he, hb, _, L', hr⟩ => ⟨b, he, (below_drewN (Below.refl _ _) q).trans hb, L', hr.nds⟩
    clear hS H6 hwl hwl2 hwl3 hwl4 hwl6
    go_wp2_with fail
    go_region_with (first
      | (go_at_call 10
         refine (HT.out 1).mono ?_
         rintro e w7 ⟨b7, rfl, hb7, L7, hN7⟩
         unfold trV
         obtain ⟨y0, y1, hN4, hB7⟩ := HX.out w7 hb7)
      | (go_at_call 13
         refine (eqTree_any _ _ n n n n now now D D _ _ _ (by assumption) (by assumption) hf hf hn hn).mono ?_
         rintro e w8 ⟨hb8, rfl⟩
         rw [sameAll_self]))
    all_goals
      have HB8 : Hid (Below w.heap.size w w8) := hB7.trans (hb8.mono hB7.size)
      clear hB7 hb8 hN4 hN7 y0 y1
      go_wp2
      go_ret
      exact ⟨rfl, HB8.out⟩
end Go.Proofs.Ytkbccbooiaebfaa
