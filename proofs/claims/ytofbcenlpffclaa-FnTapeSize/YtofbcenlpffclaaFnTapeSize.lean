/-
  For every code, FnTapeSize answers true: a drawn text that is cut into pieces of a size has pieces of just that size, but for the last, none of nothing where there are more than one, as much as the text in all; of a size that is greater by one there are no more. And the code reads afterwards as it read before. No condition.
-/
import Derived.Test.YtofbcenlpffclaaOpenCode
import Derived.Test.YtofbcenlpffclaaDrawCut
import Derived.Test.YtofbcenlpffclaaSpecCutV
import Derived.Test.YtofbcenlpffclaaImplCutV
import Derived.Test.YtofbcenlpffclaaSizeMath
namespace Go.Proofs.Ytofbcenlpffclaa.fnTapeSize
open Go.ChangeShapes Go.WideShapes Go.ChangeAt Go.RowKit
set_option linter.unusedVariables false

set_option maxHeartbeats 4000000 in
theorem walk (a : Option Addr) (len cap : Nat) (zs : Nat → Int) (w : World) (hc : IsCode w a len zs) (hlen : len ≤ maxLen) (hcap : len ≤ cap) :
    Calls Try.prog 4 #[.slice a len cap] w fun e w' => e = .returned (.bool true) ∧ Below w.heap.size w w' := by
  have l1 := hlen
  unfold maxLen at l1
  by_cases hbig : (1048576 : Int) < len
  · have hb1 : decide ((1048576 : Int) < len) = true := by simp; omega
    go_enter Try.func4, Try.ntmps4
    go_wp2
    go_ret
    exact ⟨rfl, Below.refl _ _⟩
  · have hb1 : decide ((1048576 : Int) < len) = false := by simp; omega
    go_enter Try.func4, Try.ntmps4
    go_wp2_with fail
    refine (drawTapeCut_any w a len cap zs hc hlen hcap).mono ?_
    rintro e w1 ⟨s, k, rfl, hs, hk, hB1⟩
    have hsm : s.size ≤ maxLen := by unfold maxLen; omega
    have hz64 : In64 ((k : Nat) : Int) := by unfold In64; omega
    have HB1 : Hid (Below w.heap.size w w1) := hB1
    clear hB1 hc
    go_wp2_with fail
    refine (implTapeCut_any s (k : Nat) w1 hsm hz64).mono ?_
    rintro e w2 ⟨al, cl, rfl, hb2, ho2⟩
    have HB2 : Hid (Below w.heap.size w w2) := HB1.out.trans (hb2.mono HB1.out.size)
    clear HB1 hb2
    go_wp2_with fail
    refine (specTapeCut_any s (k : Nat) w2 hsm hz64).mono ?_
    rintro e w3 ⟨asp, csp, rfl, hb3, _⟩
    have ho3 := ho2.below hb3
    have HB3 : Hid (Below w.heap.size w w3) := HB2.out.trans (hb3.mono HB2.out.size)
    clear HB2 hb3 ho2
    cases hok : cutOk s (k : Nat) with
    | false =>
      have hne : (false != false) = false := rfl
      clear ho3
      go_wp2
      go_ret
      exact ⟨rfl, HB3.out⟩
    | true =>
      have hne : (true != true) = false := rfl
      obtain ⟨g1, g2, g3, g4⟩ := cutOk_iff.1 hok
      simp only [Int.toNat_natCast] at g4
      have hk1 : 1 ≤ k := by omega
      have hk2 : k ≤ 2000 := by omega
      have hN : cutN s (k : Nat) = ofN s.size k := by unfold cutN; rw [if_pos hok]; simp only [Int.toNat_natCast]
      rw [hN] at ho3 ⊢
      simp only [Int.toNat_natCast] at ho3
      have hIV : IsVos w3 al (ofN s.size k) (piece s k (ofN s.size k)) := by
        obtain ⟨x, y, e1, hI, hm⟩ := ho3.lies
        cases e1
        exact hI
      have hq1 : 1 ≤ ofN s.size k := ofN_pos hk1
      have HG : Hid (∀ i, i < ofN s.size k → gone s.size k i + pieceLen s k i = gone s.size k (i + 1)) := fun i hi => piece_gone s k i hk1 hi
      have HFl : Hid (∀ i, i + 1 < ofN s.size k → pieceLen s k i = k) := fun i hi => piece_full s k i hk1 hi
      have HSm : Hid (1 < ofN s.size k → ∀ i, i < ofN s.size k → 1 ≤ pieceLen s k i) := fun h i hi => piece_some s k i hk1 h hi
      have HPL : Hid (∀ i, pieceLen s k i ≤ s.size) := fun i => piece_len_le s k i
      have HGL : Hid (∀ i, gone s.size k i ≤ s.size) := fun i => gone_le _ _ _
      have HALL : Hid (gone s.size k (ofN s.size k) = s.size) := gone_all hk1
      have HLast : Hid ((ofN s.size k - 1) * k ≤ s.size) := last_le hk1
      have HMono : Hid (ofN s.size (k + 1) ≤ ofN s.size k) := ofN_mono hk1
      have HTX : Hid (∀ i, (piece s k (ofN s.size k) i).text.size = pieceLen s k i) := fun i => rfl
      have hz65 : In64 ((k : Int) + 1) := by unfold In64; omega
      have HG1 : Hid (s.size ≤ 2000) := g1
      clear ho3 hok hN g1 g2 g3 hb1 hbig hz64
      generalize hq : ofN s.size k = q at *
      have HQ : Hid (ofN s.size k = q) := hq
      clear hq
      have hsl : s.size ≤ 2002 := hs
      go_wp2
      go_loopw [9, 10] (fun n i wr => ∃ j : Nat, j ≤ q ∧ i = .int .i64 j ∧ n = .int .i64 (gone s.size k j : Nat) ∧ wr = w3) (fun _ i _ => q - (intOf i).toNat)
      case atStart => exact ⟨0, Nat.zero_le _, rfl, by rw [gone_zero]; rfl, by trivial⟩
      case round =>
        obtain ⟨j, hj, rfl, rfl, rfl⟩ := hrel
        by_cases hlt : j < q
        · obtain ⟨b, off, rfl, hlt2, hcell⟩ := hIV.at hlt
          obtain ⟨c0, c1, c2, c3⟩ := hcell j hlt
          clear hcell c0 c1 c2
          have hlen' := HTX.out j
          have e1 := HG.out j hlt
          have e2 := HPL.out j
          have e3 := HGL.out j
          have e4 := HFl.out j
          have e5 := fun h => HSm.out h j hlt
          generalize (piece s k q j).text = t at c3 hlen'
          rw [← hlen'] at e1 e2 e4 e5
          clear hlen'
          have HE : Hid (gone s.size k j + t.size = gone s.size k (j + 1)) := e1
          clear e1
          have hlti : (j : Int) < (q : Int) := by omega
          by_cases hA : j + 1 < q
          · replace e4 := e4 hA
            have d1 : decide ((j : Int) + 1 < (q : Int)) = true := by simp; omega
            have d2 : ((t.size : Int) != (k : Int)) = false := by simp only [bne_eq_false_iff_eq]; omega
            have d3 : decide ((1 : Int) < (q : Int)) = true := by simp; omega
            have d4 : ((t.size : Int) == 0) = false := beq_eq_false_iff_ne.2 (by omega)
            clear e4 e5
            go_wp2
            go_roundw
            case rel => exact ⟨j + 1, by omega, by go_num, by rw [← HE.out]; go_num, by trivial⟩
            case measure => simp [intOf]; omega
          · have d1 : decide ((j : Int) + 1 < (q : Int)) = false := by simp; omega
            by_cases h1q : 1 < q
            · replace e5 := e5 h1q
              clear e4
              have d3 : decide ((1 : Int) < (q : Int)) = true := by simp; omega
              have d4 : ((t.size : Int) == 0) = false := beq_eq_false_iff_ne.2 (by omega)
              clear e5
              go_wp2
              go_roundw
              case rel => exact ⟨j + 1, by omega, by go_num, by rw [← HE.out]; go_num, by trivial⟩
              case measure => simp [intOf]; omega
            · have d3 : decide ((1 : Int) < (q : Int)) = false := by simp; omega
              clear e4 e5
              go_wp2
              go_roundw
              case rel => exact ⟨j + 1, by omega, by go_num, by rw [← HE.out]; go_num, by trivial⟩
              case measure => simp [intOf]; omega
        · have hjq : j = q := by omega
          subst hjq
          rw [HALL.out]
          go_wp2_with fail
          refine (implTapeCut_any s ((k : Int) + 1) wr hsm hz65).mono ?_
          rintro e w4 ⟨am, cm, rfl, hb4, _⟩
          have HB4 : Hid (Below w.heap.size w w4) := HB3.out.trans (hb4.mono HB3.out.size)
          clear hb4
          obtain ⟨p, hp⟩ : ∃ p, p = (j - 1) * k := ⟨_, rfl⟩
          have hps : p ≤ s.size := by rw [hp]; exact HLast.out
          have hw1 : True → wrap64 (((j : Int) - 1) * (k : Int)) = (p : Int) := by
            intro _
            rw [show ((j : Int) - 1) * (k : Int) = (p : Int) from by rw [hp, show ((j : Int) - 1) = ((j - 1 : Nat) : Int) by omega]; simp]
            unfold wrap64; omega
          have hself : ((s.size : Int) == (s.size : Int)) = true := by simp
          cases hok2 : cutOk s ((k : Int) + 1) with
          | false =>
            have hk2000 : k = 2000 := by
              have h3 : ¬ (s.size ≤ 2000 ∧ (1 : Int) ≤ (k : Int) + 1 ∧ (k : Int) + 1 ≤ 2000 ∧ ofN s.size ((k : Int) + 1).toNat ≤ 40) := fun h => by
                rw [cutOk_iff.2 h] at hok2; cases hok2
              have h4 := HMono.out
              have h5 : ((k : Int) + 1).toNat = k + 1 := by omega
              rw [h5] at h3
              have h6 := HG1.out
              omega
            have d6 : ((k : Int) == 2000) = true := beq_iff_eq.2 (by omega)
            clear hp hok2 hk2000
            go_wp2
            go_ret
            exact ⟨rfl, HB4.out⟩
          | true =>
            have hn' : cutN s ((k : Int) + 1) ≤ j := by
              unfold cutN
              rw [if_pos hok2, show ((k : Int) + 1).toNat = k + 1 by omega]
              exact HMono.out
            generalize cutN s ((k : Int) + 1) = n' at *
            have d5 : decide ((n' : Int) ≤ (j : Int)) = true := by simp; omega
            clear hp hok2
            go_wp2
            go_ret
            exact ⟨rfl, HB4.out⟩

set_option maxRecDepth 100000 in
theorem lifted (os : Os) (started : os.Started) (H : Type) (enc : TypeId × Value → H) :
    ReturnsInHanded {} Try.checked os 4 .any (Rows.fnTapeSizeSpec.pre6 enc Try.prog Try.f4 Rows.fnTapeSizeRow.domain false) (Rows.fnTapeSizeSpec.post enc Try.prog Try.f4 false true false false) := by
  refine returnsInHanded_of_change (C := Try.checked) own started (by kernel_rfl) Try.func4
    (ChangeSpec.witness6 (enc := enc) (C := Try.checked) false ⟨#[], #[.slice none 0 0], []⟩ 8 (by kernel_rfl) (by kernel_rfl) (by kernel_rfl) (by kernel_rfl)) ?_
  intro W base args ds gs before hval0 hW hcnd _
  have hval : ∀ (j : Nat) t v, Try.f4.params[j]? = some t → args[j]? = some v → Value.okWide Try.prog W .any base t v := hval0
  have hW' := hW
  obtain ⟨p, q, hA0, hV, rfl, hfz, hnd⟩ := hW
  have hA : DataW.TrodAll enc Try.prog W 0 (fun _ => true) true Try.f4.params.toList args.toList ds p := hA0
  rw [Try.params4] at hA hval
  obtain ⟨v0, vs0, d0, ds0, p0, q0, hargs, rfl, rfl, h0, r0⟩ := trodAll_cons hA
  obtain ⟨rfl, rfl, rfl⟩ := trodAll_nil r0
  obtain rfl : args = #[v0] := by cases args; simp_all
  obtain ⟨rfl, rfl⟩ := trodVars_none hV
  obtain ⟨a0, len0, cap0, rfl⟩ := okWide_slice Try.underlying22 (hval 0 22 v0 rfl rfl)
  have k0 := h0
  have lt0 : ∀ x ∈ p0, x.block < W.heap.size := by obtain ⟨m, hm⟩ := k0; exact DataW.trod_lt m _ _ _ hm
  obtain ⟨zs0, hC0, hl0, hp0⟩ := openCode h0
  clear hA0 hval0
  refine (walk a0 len0 cap0 zs0 W hC0 hl0 hp0).mono fun e W' ⟨he, bel⟩ => ?_
  subst he
  exact ⟨_, rfl, _, _, _, [], _, [], hW', trodAll_mk1 (shut_bool Try.underlying4 _), (trodAll_cons_mk (Below.trod laidOut (by kernel_rfl) (of_decide_eq_true (by kernel_rfl)) k0 bel lt0) trodAll_mk0), rfl, bel.frame _, fun h => by cases h⟩

theorem over : Rows.fnTapeSizeRow.holds Try.pinned (OpenSpec.ofChange Rows.fnTapeSizeSpec) :=
  OpenClaim.holds_of_wide 4 Try.f4 rfl rfl rfl rfl rfl rfl rfl ⟨rfl, rfl, rfl, rfl, rfl⟩ rfl rfl rfl rfl rfl (by kernel_rfl) Try.func4 (by kernel_rfl)
    (of_decide_eq_true (by kernel_rfl)) (by unfold Func.isWrapper; first | (rw [if_pos (by decide +kernel)]; kernel_rfl) | (rw [if_neg (by decide +kernel)]; exact ⟨rfl, rfl⟩))
    (fun os started H enc _ => lifted os started H enc)
end Go.Proofs.Ytofbcenlpffclaa.fnTapeSize

namespace Go.Proofs.Ytofbcenlpffclaa
theorem fnTapeSize_holds : Rows.FnTapeSizeSaid := fnTapeSize.over
end Go.Proofs.Ytofbcenlpffclaa

