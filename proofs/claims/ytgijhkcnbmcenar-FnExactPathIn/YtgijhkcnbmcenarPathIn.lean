/-
  For every two lists of texts, FnExactPathIn answers true: PathIn of the program answers as PathIn of the specification, and both lists read afterwards as they read before. No condition.
-/
import Derived.Test.YtgijhkcnbmcenarRows
import Derived.Test.YtgijhkcnbmcenarIn
import Derived.Test.YtgijhkcnbmcenarOpen
import Derived.Test.YtgijhkcnbmcenarStrs
import Derived.ProofKit
import Derived.OpenShut
import Derived.ShutString
import Derived.ChangeOld
import Derived.WalkSmall
namespace Go.Proofs.Ytgijhkcnbmcenar.fnExactPathIn
open Go.ChangeShapes Go.WideShapes Go.ChangeAt Go.RowKit
set_option linter.unusedVariables false

set_option maxHeartbeats 1000000 in
theorem walk (a a' : Option Addr) (n c m c' : Nat) (S T : Nat → ByteArray) (w : World) (hS : IsStrs w a n S) (hT : IsStrs w a' m T) (sS : Small n S) (sT : Small m T) (hn : n ≤ maxLen) (hm : m ≤ maxLen) :
    Calls Try.prog 7 #[.slice a n c, .slice a' m c'] w fun e w' => e = .returned (.bool true) ∧ Below w.heap.size w w' := by
  go_enter Try.func7, Try.ntmps7
  go_wp2_with fail
  refine (szStringS_any a n c S _ _ hS sS hn (by omega) (by omega)).mono ?_
  rintro e w0 ⟨rfl, r, rfl, hr1, hr2⟩
  by_cases hr : r < 0
  · go_wp2
    go_ret
    exact ⟨rfl, Below.refl _ _⟩
  · have hn2 : n ≤ 1048576 := by have := hr2 (by omega); omega
    have hr' : decide (r < 0) = false := by simp; omega
    clear hr2
    go_wp2_with fail
    refine (szStringS_any a' m c' T _ _ hT sT hm (by omega) (by omega)).mono ?_
    rintro e w0 ⟨rfl, r', rfl, hr3, hr4⟩
    by_cases hr5 : r' < 0
    · go_wp2
      go_ret
      exact ⟨rfl, Below.refl _ _⟩
    · have hm2 : m ≤ 1048576 := by have := hr4 (by omega); omega
      have hr5' : decide (r' < 0) = false := by simp; omega
      clear hr4
      go_wp2_with fail
      refine (toStringS_any a n c S _ hS hn2).mono ?_
      rintro e w1 ⟨rfl, hb1, hw1⟩
      go_wp2_with fail
      have hS1 := hS.below (Nat.le_refl _) hb1
      have hT1 := hT.below (Nat.le_refl _) hb1
      refine (toStringS_any a' m c' T _ hT1 hm2).mono ?_
      rintro e w2 ⟨rfl, hb2, hw2⟩
      go_wp2_with fail
      refine (specPathIn_any _ _ n n m m S T _ ((IsStrs.row hw1).below (Nat.le_refl _) hb2) (IsStrs.row hw2) hn hm).mono ?_
      rintro e w3 ⟨⟨q, rfl⟩, rfl⟩
      have B3 : Below w.heap.size w (w2.drewN q) := (hb1.trans (hb2.mono hb1.size)).trans (below_drewN (Below.refl _ _) _)
      generalize w2.drewN q = w3 at B3 ⊢
      clear hb1 hb2 hw1 hw2 hS1 hT1
      have hS3 := hS.below (Nat.le_refl _) B3
      have hT3 := hT.below (Nat.le_refl _) B3
      go_wp2_with fail
      refine (toStringS_any a n c S _ hS3 hn2).mono ?_
      rintro e w4 ⟨rfl, hb4, hw4⟩
      have hT4 := hT3.below (Nat.le_refl _) hb4
      go_wp2_with fail
      refine (toStringS_any a' m c' T _ hT4 hm2).mono ?_
      rintro e w5 ⟨rfl, hb5, hw5⟩
      have X4 := (IsStrs.row hw4).below (Nat.le_refl _) hb5
      have X5 := IsStrs.row hw5
      go_wp2_with fail
      refine (implPathIn_any _ _ n n m m S T _ X4 X5 hn hm (Nat.le_refl _) hn).mono ?_
      rintro e w6 ⟨⟨q2, rfl⟩, rfl⟩
      have B6 : Below w5.heap.size w5 (w5.drewN q2) := below_drewN (Below.refl _ _) _
      have BB : Below w.heap.size w (w5.drewN q2) := ((B3.trans (hb4.mono B3.size)).trans (hb5.mono (Nat.le_trans B3.size hb4.size))).trans (B6.mono (Nat.le_trans B3.size (Nat.le_trans hb4.size hb5.size)))
      have Y4 := X4.below (Nat.le_refl _) B6
      have Y5 := X5.below (Nat.le_refl _) B6
      generalize w5.drewN q2 = w6 at BB Y4 Y5 ⊢
      clear X4 X5 B6 hb4 hw4 hb5 hw5 hT4 hS3 hT3 B3
      have hS6 := hS.below (Nat.le_refl _) BB
      go_wp2_with fail
      refine (toStringS_any a n c S _ hS6 hn2).mono ?_
      rintro e w7 ⟨rfl, hb7, hw7⟩
      go_wp2_with fail
      refine (eqStringS_any _ _ n n n n S S _ (Y4.below (Nat.le_refl _) hb7) (IsStrs.row hw7) hn hn).mono ?_
      rintro e w8 ⟨⟨q3, rfl⟩, rfl⟩
      rw [eqS_self n S S (fun _ _ => rfl)]
      have B8 : Below w6.heap.size w6 (w7.drewN q3) := hb7.trans (below_drewN (Below.refl _ _) _)
      have Z5 := Y5.below (Nat.le_refl _) B8
      have BC : Below w.heap.size w (w7.drewN q3) := BB.trans (B8.mono BB.size)
      generalize w7.drewN q3 = w8 at Z5 BC ⊢
      clear B8 hb7 hw7 hS6 Y4 Y5 BB
      have hT8 := hT.below (Nat.le_refl _) BC
      go_wp2_with fail
      refine (toStringS_any a' m c' T _ hT8 hm2).mono ?_
      rintro e w9 ⟨rfl, hb9, hw9⟩
      go_wp2_with fail
      refine (eqStringS_any _ _ m m m m T T _ (Z5.below (Nat.le_refl _) hb9) (IsStrs.row hw9) hm hm).mono ?_
      rintro e w10 ⟨⟨q4, rfl⟩, rfl⟩
      rw [eqS_self m T T (fun _ _ => rfl)]
      have fin : Below w.heap.size w (w9.drewN q4) := (BC.trans (hb9.mono BC.size)).trans (below_drewN (Below.refl _ _) _)
      clear hb9 hw9 hT8 Z5 BC hS hT sS sT
      go_wp2
      go_ret
      exact ⟨rfl, fin⟩

set_option maxRecDepth 100000 in
theorem lifted (os : Os) (started : os.Started) (H : Type) (enc : TypeId × Value → H) :
    ReturnsInHanded {} Try.checked os 7 .any (Rows.fnExactPathInSpec.pre6 enc Try.prog Try.f7 Rows.fnExactPathInRow.domain false) (Rows.fnExactPathInSpec.post enc Try.prog Try.f7 false true false false) := by
  refine returnsInHanded_of_change (C := Try.checked) own started (by kernel_rfl) Try.func7
    (ChangeSpec.witness6 (enc := enc) (C := Try.checked) false ⟨#[], #[.slice none 0 0, .slice none 0 0], []⟩ 8 (by kernel_rfl) (by kernel_rfl) (by kernel_rfl) (by kernel_rfl)) ?_
  intro W base args ds gs before hval0 hW hcnd _
  have hval : ∀ (j : Nat) t v, Try.f7.params[j]? = some t → args[j]? = some v → Value.okWide Try.prog W .any base t v := hval0
  have hW' := hW
  obtain ⟨p, q, hA0, hV, rfl, hfz, hnd⟩ := hW
  have hA : DataW.TrodAll enc Try.prog W 0 (fun _ => true) true Try.f7.params.toList args.toList ds p := hA0
  rw [Try.params7] at hA hval
  obtain ⟨v0, vs0, d0, ds0, p0, q0, hargs, rfl, rfl, h0, r0⟩ := trodAll_cons hA
  obtain ⟨v1, vs1, d1, ds1, p1, q1, rfl, rfl, rfl, h1, r1⟩ := trodAll_cons r0
  obtain ⟨rfl, rfl, rfl⟩ := trodAll_nil r1
  obtain rfl : args = #[v0, v1] := by cases args; simp_all
  obtain ⟨rfl, rfl⟩ := trodVars_none hV
  obtain ⟨a0, len0, cap0, rfl⟩ := okWide_slice Try.underlying23 (hval 0 23 v0 rfl rfl)
  have k0 := h0
  have lt0 : ∀ x ∈ p0, x.block < W.heap.size := by obtain ⟨m, hm⟩ := k0; exact DataW.trod_lt m _ _ _ hm
  obtain ⟨S, hS, sS, hn⟩ := openStrs h0
  obtain ⟨a1, len1, cap1, rfl⟩ := okWide_slice Try.underlying23 (hval 1 23 v1 rfl rfl)
  have k1 := h1
  have lt1 : ∀ x ∈ p1, x.block < W.heap.size := by obtain ⟨m, hm⟩ := k1; exact DataW.trod_lt m _ _ _ hm
  obtain ⟨T, hT, sT, hm⟩ := openStrs h1
  clear hA0 hval0
  refine (walk a0 a1 len0 cap0 len1 cap1 S T W hS hT sS sT hn hm).mono fun e W' ⟨he, bel⟩ => ?_
  subst he
  exact ⟨_, rfl, _, _, _, [], _, [], hW', trodAll_mk1 (shut_bool Try.underlying4 _), (trodAll_cons_mk (Below.trod laidOut (by kernel_rfl) (of_decide_eq_true (by kernel_rfl)) k0 bel lt0) (trodAll_cons_mk (Below.trod laidOut (by kernel_rfl) (of_decide_eq_true (by kernel_rfl)) k1 bel lt1) trodAll_mk0)), rfl, bel.frame _, fun h => by cases h⟩

theorem over : Rows.fnExactPathInRow.holds Try.pinned (OpenSpec.ofChange Rows.fnExactPathInSpec) :=
  OpenClaim.holds_of_wide 7 Try.f7 rfl rfl rfl rfl rfl rfl rfl ⟨rfl, rfl, rfl, rfl, rfl⟩ rfl rfl rfl rfl rfl (by kernel_rfl) Try.func7 (by kernel_rfl)
    (of_decide_eq_true (by kernel_rfl)) (by unfold Func.isWrapper; first | (rw [if_pos (by decide +kernel)]; kernel_rfl) | (rw [if_neg (by decide +kernel)]; exact ⟨rfl, rfl⟩))
    (fun os started H enc _ => lifted os started H enc)
end Go.Proofs.Ytgijhkcnbmcenar.fnExactPathIn

namespace Go.Proofs.Ytgijhkcnbmcenar
theorem fnExactPathIn_holds : Rows.FnExactPathInSaid := fnExactPathIn.over
end Go.Proofs.Ytgijhkcnbmcenar
