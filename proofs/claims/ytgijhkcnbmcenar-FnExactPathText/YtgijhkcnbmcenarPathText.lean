/-
  For every list of texts, FnExactPathText answers true: PathText of the program answers as PathText of the specification, and the list reads afterwards as it read before. No condition.
-/
import Derived.Test.YtgijhkcnbmcenarRows
import Derived.Test.YtgijhkcnbmcenarTextImpl
import Derived.Test.YtgijhkcnbmcenarOpen
import Derived.Test.YtgijhkcnbmcenarStrs
import Derived.ProofKit
import Derived.OpenShut
import Derived.ShutString
import Derived.ChangeOld
import Derived.WalkSmall
namespace Go.Proofs.Ytgijhkcnbmcenar.fnExactPathText
open Go.ChangeShapes Go.WideShapes Go.ChangeAt Go.RowKit
set_option linter.unusedVariables false

set_option maxHeartbeats 1000000 in
theorem walk (a : Option Addr) (n c : Nat) (S : Nat → ByteArray) (w : World) (hS : IsStrs w a n S) (hm : Small n S) (hn : n ≤ maxLen) :
    Calls Try.prog 5 #[.slice a n c] w fun e w' => e = .returned (.bool true) ∧ Below w.heap.size w w' := by
  go_enter Try.func5, Try.ntmps5
  go_wp2_with fail
  refine (szStringS_any a n c S _ _ hS hm hn (by omega) (by omega)).mono ?_
  rintro e w0 ⟨rfl, r, rfl, hr1, hr2⟩
  by_cases hr : r < 0
  · go_wp2
    go_ret
    exact ⟨rfl, Below.refl _ _⟩
  · have hn2 : n ≤ 1048576 := by have := hr2 (by omega); omega
    have hr' : decide (r < 0) = false := by simp; omega
    clear hr2
    go_wp2_with fail
    refine (toStringS_any a n c S _ hS hn2).mono ?_
    rintro e w1 ⟨rfl, hb1, hw1⟩
    go_wp2_with fail
    refine (specPathText_any _ n n S _ (IsStrs.row hw1) hm hn).mono ?_
    rintro e w1' ⟨rfl, rfl⟩
    go_wp2_with fail
    have hS1 := hS.below (Nat.le_refl _) hb1
    refine (toStringS_any a n c S _ hS1 hn2).mono ?_
    rintro e w2 ⟨rfl, hb2, hw2⟩
    go_wp2_with fail
    refine (implPathText_any _ n n S _ (IsStrs.row hw2) hm hn (Nat.le_refl _)).mono ?_
    rintro e w2' ⟨rfl, hb2'⟩
    have hX2 := (IsStrs.row hw2).below (Nat.le_refl _) hb2'
    replace hb2 := hb2.trans (hb2'.mono hb2.size)
    clear hw2 hb2'
    go_wp2_with fail
    have hS2 := hS1.below (Nat.le_refl _) hb2
    refine (toStringS_any a n c S _ hS2 hn2).mono ?_
    rintro e w3 ⟨rfl, hb3, hw3⟩
    go_wp2_with fail
    refine (eqStringS_any _ _ n n n n S S _ (hX2.below (Nat.le_refl _) hb3) (IsStrs.row hw3) hn hn).mono ?_
    rintro e w4 ⟨⟨q, rfl⟩, rfl⟩
    rw [eqS_self n S S (fun _ _ => rfl)]
    have fin : Below w.heap.size w (w3.drewN q) := ((hb1.trans (hb2.mono hb1.size)).trans (hb3.mono (Nat.le_trans hb1.size hb2.size))).trans (below_drewN (Below.refl _ _) _)
    clear hb1 hb2 hb3 hw1 hX2 hw3 hS hS1 hS2 hm
    go_wp2
    go_ret
    exact ⟨rfl, fin⟩


set_option maxRecDepth 100000 in
theorem lifted (os : Os) (started : os.Started) (H : Type) (enc : TypeId × Value → H) :
    ReturnsInHanded {} Try.checked os 5 .any (Rows.fnExactPathTextSpec.pre6 enc Try.prog Try.f5 Rows.fnExactPathTextRow.domain false) (Rows.fnExactPathTextSpec.post enc Try.prog Try.f5 false true false false) := by
  refine returnsInHanded_of_change (C := Try.checked) own started (by kernel_rfl) Try.func5
    (ChangeSpec.witness6 (enc := enc) (C := Try.checked) false ⟨#[], #[.slice none 0 0], []⟩ 8 (by kernel_rfl) (by kernel_rfl) (by kernel_rfl) (by kernel_rfl)) ?_
  intro W base args ds gs before hval0 hW hcnd _
  have hval : ∀ (j : Nat) t v, Try.f5.params[j]? = some t → args[j]? = some v → Value.okWide Try.prog W .any base t v := hval0
  have hW' := hW
  obtain ⟨p, q, hA0, hV, rfl, hfz, hnd⟩ := hW
  have hA : DataW.TrodAll enc Try.prog W 0 (fun _ => true) true Try.f5.params.toList args.toList ds p := hA0
  rw [Try.params5] at hA hval
  obtain ⟨v0, vs0, d0, ds0, p0, q0, hargs, rfl, rfl, h0, r0⟩ := trodAll_cons hA
  obtain ⟨rfl, rfl, rfl⟩ := trodAll_nil r0
  obtain rfl : args = #[v0] := by cases args; simp_all
  obtain ⟨rfl, rfl⟩ := trodVars_none hV
  obtain ⟨a0, len0, cap0, rfl⟩ := okWide_slice Try.underlying23 (hval 0 23 v0 rfl rfl)
  have k0 := h0
  have lt0 : ∀ x ∈ p0, x.block < W.heap.size := by obtain ⟨m, hm⟩ := k0; exact DataW.trod_lt m _ _ _ hm
  obtain ⟨S, hS, hm, hn⟩ := openStrs h0
  clear hA0 hval0
  refine (walk a0 len0 cap0 S W hS hm hn).mono fun e W' ⟨he, bel⟩ => ?_
  subst he
  exact ⟨_, rfl, _, _, _, [], _, [], hW', trodAll_mk1 (shut_bool Try.underlying4 _), (trodAll_cons_mk (Below.trod laidOut (by kernel_rfl) (of_decide_eq_true (by kernel_rfl)) k0 bel lt0) trodAll_mk0), rfl, bel.frame _, fun h => by cases h⟩

theorem over : Rows.fnExactPathTextRow.holds Try.pinned (OpenSpec.ofChange Rows.fnExactPathTextSpec) :=
  OpenClaim.holds_of_wide 5 Try.f5 rfl rfl rfl rfl rfl rfl rfl ⟨rfl, rfl, rfl, rfl, rfl⟩ rfl rfl rfl rfl rfl (by kernel_rfl) Try.func5 (by kernel_rfl)
    (of_decide_eq_true (by kernel_rfl)) (by unfold Func.isWrapper; first | (rw [if_pos (by decide +kernel)]; kernel_rfl) | (rw [if_neg (by decide +kernel)]; exact ⟨rfl, rfl⟩))
    (fun os started H enc _ => lifted os started H enc)
end Go.Proofs.Ytgijhkcnbmcenar.fnExactPathText

namespace Go.Proofs.Ytgijhkcnbmcenar
theorem fnExactPathText_holds : Rows.FnExactPathTextSaid := fnExactPathText.over
end Go.Proofs.Ytgijhkcnbmcenar
