/-
  For every code, FnTreeNew answers true: a new tree is a root alone, with one way and no names; what is no turn makes none; and the code reads afterwards as it read before. No condition.
-/
import Derived.Test.YtgijhkcnbmcenabDrawNew
import Derived.Test.YtgijhkcnbmcenabNewTree
import Derived.Test.YtgijhkcnbmcenabImplTreeFind
import Derived.Test.YtgijhkcnbmcenabImplTreeSame
import Derived.Test.YtgijhkcnbmcenabCut2
import Derived.Deep.RegionWith
import Derived.BigRegion
namespace Go.Proofs.Ytgijhkcnbmcenab.fnTreeNew
open Go.ChangeShapes Go.WideShapes Go.ChangeAt Go.RowKit
set_option linter.unusedVariables false

theorem good {n : Int} (h1 : 1 ≤ n) (h2 : n ≤ 1000) : TreeGood 1 (fun _ => rootNd n) n :=
  ⟨by omega, by omega, h1, h2, rfl, fun i hi => by
    show (if (2 : Int) = 0 then freeOk (rootNd n) else if (2 : Int) = 1 then fileOk n (rootNd n) else if (2 : Int) = 2 then dirOk 1 (fun _ => rootNd n) n (rootNd n) else false) = true
    rw [if_neg (show ¬ (2 : Int) = 0 by decide), if_neg (show ¬ (2 : Int) = 1 by decide), if_pos (show (2 : Int) = 2 by rfl)]
    unfold dirOk rootNd
    simp [dirNames, kidsOk]
    omega, fun i h h' => by omega, fun i h h' => by omega⟩

theorem none_bad : ¬ TreeGood 0 (fun _ => rootNd 0) 0 := fun h => by have := h.some; omega

theorem size1 (n : Int) : sizeTo (fun _ => rootNd n) 1 ≤ 1048576 := by
  unfold sizeTo sizeTo Nd.size rootNd sumTo
  simp

theorem same_self (k : Nat) (D : Nat → Nd) (z : Int) : treeSame k k D D z z = true := by unfold treeSame; rw [sameAll_self]; simp

/-- What is known within the law: a new tree in a variable of its own. -/
structure OneNew (w : World) (n : Int) (b x : Nat) (W : World) : Prop where
  bel : Below w.heap.size w W
  h : Blk W b (rootCells n) 36
  hx : Blk W x #[.slice (some ⟨b, 0, none⟩) 1 1, .int .i64 n] 25

theorem OneNew.below {w : World} {n : Int} {b x : Nat} {W W' : World} (h : OneNew w n b x W) (hb : Below W.heap.size W W') : OneNew w n b x W' :=
  ⟨h.bel.trans (hb.mono h.bel.size), h.h.below hb h.h.lt, h.hx.below hb h.hx.lt⟩
theorem OneNew.drew {w : World} {n : Int} {b x : Nat} {W : World} (h : OneNew w n b x W) (q : Nat) : OneNew w n b x (W.drewN q) := h.below (below_drewN (Below.refl _ _) q)
theorem OneNew.cells {w : World} {n : Int} {b x : Nat} {W : World} (h : OneNew w n b x W) : W.cell? ⟨x, 0, none⟩ = some (.slice (some ⟨b, 0, none⟩) 1 1) ∧ W.cell? ⟨x, 1, none⟩ = some (.int .i64 n) := ⟨h.hx.cell 0, h.hx.cell 1⟩

set_option maxHeartbeats 2000000 in
theorem walk (a0 : Option Addr) (len0 cap0 : Nat) (zs0 : Nat → Int) (w : World) (hC : IsCode w a0 len0 zs0) (hl : len0 ≤ maxLen) (hp : len0 ≤ cap0) :
    Calls Try.prog 7 #[.slice a0 len0 cap0] w fun e w' => e = .returned (.bool true) ∧ Below w.heap.size w w' := by
  have hl' := hl
  unfold maxLen at hl'
  by_cases hbig : (1048576 : Int) < len0
  · go_enter Try.func7, Try.ntmps7
    go_wp2
    go_ret
    exact ⟨rfl, Below.refl _ _⟩
  · go_enter Try.func7, Try.ntmps7
    go_wp2_with fail
    refine (drawTreeNew_any w a0 len0 cap0 zs0 hC hl hp).mono ?_
    rintro e w1 ⟨n, rfl, hz1, hz2, hb1⟩
    have HB1 : Hid (Below w.heap.size w w1) := hb1
    clear hb1
    have h64 : In64 n := by unfold In64; omega
    by_cases hin : 1 ≤ n ∧ n ≤ 1000
    · have HI : Hid (1 ≤ n ∧ n ≤ 1000) := hin
      have hd1 : decide (n < 1) = false := by simp; omega
      have hd2 : decide (1000 < n) = false := by simp; omega
      clear hin
      go_wp2_with fail
      refine (implTreeNew_yes n w1 HI.out.1 HI.out.2).mono ?_
      rintro e w2 ⟨b2, rfl, hge2, hb2, h2⟩
      unfold trV
      have H2 : Hid (Below w.heap.size w w2 ∧ Blk w2 b2 (rootCells n) 36) := ⟨HB1.out.trans (hb2.mono HB1.out.size), h2⟩
      clear hb2 h2 hge2
      go_wp2_with fail
      refine wp_world (F := OneNew w n b2 w2.heap.size) ⟨H2.out.1.trans ((new1 w2 _ _).bel.mono H2.out.1.size), H2.out.2.alloc _, Blk.new w2 _ _⟩ ?_
      intro W3 h3
      obtain ⟨x0, x1⟩ := h3.cells
      have H3 : Hid (OneNew w n b2 w2.heap.size W3) := h3
      clear h3 H2
      apply wp_cut1 (X := Nat) (fun b W => OneNew w n b2 w2.heap.size W)
      · intro key
        have KEY : Hid _ := key
        clear key
        go_region_with (first
          | (go_at_call 15
             refine (specTreeNew_yes n (W3.drewN 1) HI.out.1 HI.out.2).mono ?_
             rintro e wA ⟨bA, rfl, hgeA, hbA, hA⟩
             unfold trV
             have hXA := (H3.out.drew 1).below hbA
             obtain ⟨X0, X1⟩ := hXA.cells)
          | (go_at_call 13
             refine (implTreeSame_any _ _ 1 1 1 1 n n _ _ _ _ wA (root_nds hXA.h) (root_nds hA) (root_fits h64) (root_fits h64) (by unfold maxLen; omega) (by unfold maxLen; omega)).mono ?_
             rintro e wC ⟨hbC, rfl⟩
             rw [same_self]))
        all_goals exact KEY.out bA wC (hXA.below hbC)
      · intro bA W4 hF
        have HF : Hid (OneNew w n b2 w2.heap.size W4) := hF
        obtain ⟨x0, x1⟩ := hF.cells
        clear hF H3
        go_wp2_with fail
        refine (implTreeOk _ 1 1 n _ _ W4 (root_nds HF.out.h) (root_fits h64) (by unfold maxLen; omega) (size1 n) h64).mono ?_
        rintro e w5 ⟨hb5, r5, rfl, hr5⟩
        have hr5' : r5 = true := hr5.2 (good HI.out.1 HI.out.2)
        subst hr5'
        have H5 : Hid (OneNew w n b2 w2.heap.size w5) := HF.out.below hb5
        clear hb5 hr5 HF x0 x1
        obtain ⟨x0, x1⟩ := H5.out.cells
        have y4 : w5.cell? ⟨b2, 4, none⟩ = some (.int .i64 n) := H5.out.h.cell 4
        have hnn : (n == n) = true := by simp
        go_wp2_with fail
        refine (implTreeFind _ 1 1 n _ _ none 0 0 (fun _ => ByteArray.empty) w5 (root_nds H5.out.h) (Or.inl rfl) (root_fits h64) (by unfold maxLen; omega) (size1 n) h64 (by unfold maxLen; omega) (fun i hi => by omega)).mono ?_
        rintro e w6 ⟨hb6, r6, rfl, hr6⟩
        have hr6' : r6 = 0 := hr6.yes (good HI.out.1 HI.out.2) rfl 0 .root
        subst hr6'
        have H6 : Hid (OneNew w n b2 w2.heap.size w6) := H5.out.below hb6
        clear hb6 hr6 H5 x0 x1 y4
        obtain ⟨x0, x1⟩ := H6.out.cells
        have hlx := H6.out.hx.lt
        go_wp2_with fail
        refine at_world (F := New1 w6 _ _) (new1 w6 _ _) ?_
        rintro W7 ⟨h7, hb7, hs7⟩
        have hT7 := H6.out.below hb7
        have hS7 : IsStrs W7 (some ⟨w6.heap.size, 0, none⟩) 1 (fun _ => ⟨#[97]⟩) := Or.inr ⟨w6.heap.size, 0, rfl, by omega, fun i hi => by
          have : i = 0 := by omega
          subst this
          exact h7.cell 0⟩
        refine (implTreeFind _ 1 1 n _ _ _ 1 1 (fun _ => ⟨#[97]⟩) W7 (root_nds hT7.h) hS7 (root_fits h64) (by unfold maxLen; omega) (size1 n) h64 (by unfold maxLen; omega) (fun i hi => by show ByteArray.size ⟨#[97]⟩ ≤ maxLen; unfold maxLen; decide)).mono ?_
        rintro e w8 ⟨hb8, r8, rfl, hr8⟩
        have hr8' : r8 = -1 := hr8.no (fun g => by
          obtain ⟨x, hx⟩ := g.2.2
          cases hx with
          | step hl' hi' _ => exact absurd hi' (by show ¬ _ < 0; omega))
        subst hr8'
        have H8 : Hid (Below w.heap.size w w8) := (hT7.below hb8).bel
        clear hb8 hr8 hT7 hS7 h7 hb7 hs7 H6 x0 x1
        go_wp2
        go_ret
        exact ⟨rfl, H8.out⟩
    · have HI : Hid (¬ (1 ≤ n ∧ n ≤ 1000)) := hin
      go_wp2_with fail
      refine (implTreeNew_no n w1 HI.out).mono ?_
      rintro e w2 ⟨rfl, hb2⟩
      unfold trV
      have H2 : Hid (Below w.heap.size w w2) := HB1.out.trans (hb2.mono HB1.out.size)
      clear hb2
      go_wp2_with fail
      refine wp_world (F := fun W => Below w.heap.size w W ∧ Blk W w2.heap.size #[.slice none 0 0, .int .i64 0] 25) ⟨H2.out.trans ((new1 w2 _ _).bel.mono H2.out.size), Blk.new w2 _ _⟩ ?_
      intro W3 h3
      have x0 : W3.cell? ⟨w2.heap.size, 0, none⟩ = some (.slice none 0 0) := h3.2.cell 0
      have x1 : W3.cell? ⟨w2.heap.size, 1, none⟩ = some (.int .i64 0) := h3.2.cell 1
      have H3 : Hid (Below w.heap.size w W3 ∧ Blk W3 w2.heap.size #[.slice none 0 0, .int .i64 0] 25) := h3
      clear h3 H2
      apply wp_cut1 (X := World) (fun _ W => Below w.heap.size w W ∧ Blk W w2.heap.size #[.slice none 0 0, .int .i64 0] 25)
      · intro key
        have KEY : Hid _ := key
        clear key
        go_region_with (first
          | (go_at_call 15
             refine (specTreeNew_no n (W3.drewN 1) HI.out).mono ?_
             rintro e wA ⟨rfl, hbA⟩
             unfold trV
             have hXA : Below W3.heap.size W3 wA := (below_drewN (Below.refl _ _) 1).trans hbA
             have hBA := H3.out.2.below hXA H3.out.2.lt
             have X0 : wA.cell? ⟨w2.heap.size, 0, none⟩ = some (.slice none 0 0) := hBA.cell 0
             have X1 : wA.cell? ⟨w2.heap.size, 1, none⟩ = some (.int .i64 0) := hBA.cell 1)
          | (go_at_call 13
             refine (implTreeSame_any none none 0 0 0 0 0 0 (fun _ => rootNd 0) (fun _ => rootNd 0) (fun _ => noLoc) (fun _ => noLoc) wA (Or.inl rfl) (Or.inl rfl) (fun i hi => by omega) (fun i hi => by omega) (by unfold maxLen; omega) (by unfold maxLen; omega)).mono ?_
             rintro e wC ⟨hbC, rfl⟩
             rw [same_self]))
        all_goals exact KEY.out wC wC ⟨(H3.out.1.trans (hXA.mono H3.out.1.size)).trans (hbC.mono (by have := H3.out.1.size; have := hXA.size; omega)), hBA.below hbC hBA.lt⟩
      · intro _ W4 hF
        have x0 : W4.cell? ⟨w2.heap.size, 0, none⟩ = some (.slice none 0 0) := hF.2.cell 0
        have x1 : W4.cell? ⟨w2.heap.size, 1, none⟩ = some (.int .i64 0) := hF.2.cell 1
        have HF : Hid (Below w.heap.size w W4) := hF.1
        clear hF H3
        by_cases h1 : n < 1
        · have hd1 : decide (n < 1) = true := by simp; omega
          go_wp2
          go_ret
          exact ⟨rfl, HF.out⟩
        · have hd1 : decide (n < 1) = false := by simp; omega
          have hd2 : decide (1000 < n) = true := by simp; omega
          go_wp2
          go_ret
          exact ⟨rfl, HF.out⟩

set_option maxRecDepth 100000 in
theorem lifted (os : Os) (started : os.Started) (H : Type) (enc : TypeId × Value → H) :
    ReturnsInHanded {} Try.checked os 7 .any (Rows.fnTreeNewSpec.pre6 enc Try.prog Try.f7 Rows.fnTreeNewRow.domain false) (Rows.fnTreeNewSpec.post enc Try.prog Try.f7 false true false false) := by
  refine returnsInHanded_of_change (C := Try.checked) own started (by kernel_rfl) Try.func7
    (ChangeSpec.witness6 (enc := enc) (C := Try.checked) false ⟨#[], #[.slice none 0 0], []⟩ 8 (by kernel_rfl) (by kernel_rfl) (by kernel_rfl) (by kernel_rfl)) ?_
  intro W base args ds gs before hval0 hW hcnd _
  have hval : ∀ (j : Nat) t v, Try.f7.params[j]? = some t → args[j]? = some v → Value.okWide Try.prog W .any base t v := hval0
  have hW' := hW
  obtain ⟨p, q, hA0, hV, rfl, hfz, hnd⟩ := hW
  have hA : DataW.TrodAll enc Try.prog W 0 (fun _ => true) true Try.f7.params.toList args.toList ds p := hA0
  rw [Try.params7] at hA hval
  obtain ⟨v0, vs0, d0, ds0, p0, q0, hargs, rfl, rfl, h0, r0⟩ := trodAll_cons hA
  obtain ⟨rfl, rfl, rfl⟩ := trodAll_nil r0
  obtain rfl : args = #[v0] := by cases args; simp_all
  obtain ⟨rfl, rfl⟩ := trodVars_none hV
  obtain ⟨a0, len0, cap0, rfl⟩ := okWide_slice Try.underlying22 (hval 0 22 v0 rfl rfl)
  have k0 := h0
  have lt0 : ∀ x ∈ p0, x.block < W.heap.size := by obtain ⟨m, hm⟩ := k0; exact DataW.trod_lt m _ _ _ hm
  obtain ⟨zs0, hC0, hl0, hp0⟩ := openCode h0
  clear hA0 hval0
  refine (walk a0 len0 cap0 zs0 W hC0 hl0 hp0).mono fun e W' ⟨he, bel⟩ => ?_
  subst he
  exact ⟨_, rfl, _, _, _, [], _, [], hW', trodAll_mk1 (shut_bool Try.underlying4 _), (trodAll_cons_mk (Below.trod laidOut (by kernel_rfl) (of_decide_eq_true (by kernel_rfl)) k0 bel lt0) trodAll_mk0), rfl, bel.frame _, fun h => by cases h⟩

theorem over : Rows.fnTreeNewRow.holds Try.pinned (OpenSpec.ofChange Rows.fnTreeNewSpec) :=
  OpenClaim.holds_of_wide 7 Try.f7 rfl rfl rfl rfl rfl rfl rfl ⟨rfl, rfl, rfl, rfl, rfl⟩ rfl rfl rfl rfl rfl (by kernel_rfl) Try.func7 (by kernel_rfl)
    (of_decide_eq_true (by kernel_rfl)) (by unfold Func.isWrapper; first | (rw [if_pos (by decide +kernel)]; kernel_rfl) | (rw [if_neg (by decide +kernel)]; exact ⟨rfl, rfl⟩))
    (fun os started H enc _ => lifted os started H enc)
end Go.Proofs.Ytgijhkcnbmcenab.fnTreeNew

namespace Go.Proofs.Ytgijhkcnbmcenab
theorem fnTreeNew_holds : Rows.FnTreeNewSaid := fnTreeNew.over
end Go.Proofs.Ytgijhkcnbmcenab
