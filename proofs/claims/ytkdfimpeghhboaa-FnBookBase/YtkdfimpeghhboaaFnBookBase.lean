/-
  For every code, FnBookBase answers true: since a drawn level is kept since no later than a greater one; level 0 since 0; it is one of the book's turns, or 0; and the code reads afterwards as it read before. No condition.
-/
import Derived.Test.YtkdfimpeghhboaaOpenCode
import Derived.Test.YtkdfimpeghhboaaDrawBook
import Derived.Test.YtkdfimpeghhboaaBaseMath
import Derived.Test.YtkdfimpeghhboaaImplBase
namespace Go.Proofs.Ytkdfimpeghhboaa.fnBookBase
open Go.ChangeShapes Go.WideShapes Go.ChangeAt Go.RowKit
set_option linter.unusedVariables false

set_option maxHeartbeats 4000000 in
theorem walk (a : Option Addr) (len cap : Nat) (zs : Nat → Int) (w : World) (hc : IsCode w a len zs) (hlen : len ≤ maxLen) (hcap : len ≤ cap) :
    Calls Try.prog 3 #[.slice a len cap] w fun e w' => e = .returned (.bool true) ∧ Below w.heap.size w w' := by
  have l1 := hlen
  unfold maxLen at l1
  by_cases hbig : (1048576 : Int) < len
  · go_enter Try.func3, Try.ntmps3
    go_wp2
    go_ret
    exact ⟨rfl, Below.refl _ _⟩
  · have hb1 : decide ((1048576 : Int) < len) = false := by simp; omega
    go_enter Try.func3, Try.ntmps3
    go_wp2_with fail
    refine (drawBookBase_any w a len cap zs hc hlen hcap).mono ?_
    rintro e w1 ⟨v, lev, rfl, hO1, hv0, hv1⟩
    obtain ⟨n, al, cl, E, rfl, hl, ho1, hB1⟩ := hO1.lies
    have hI1 := ho1.reads
    have hm : n ≤ maxLen := by unfold maxLen; omega
    have hc1 : IsCode w1 a len zs := hc.below hB1
    have HB1 : Hid (Below w.heap.size w w1) := hB1
    have hge1 : w.heap.size ≤ w1.heap.size := hB1.size
    clear hB1
    go_wp2_with fail
    refine (implBookBase_any al n cl E lev w1 hI1 hm).mono ?_
    rintro e w2 ⟨hb2, rfl⟩
    have ho2 := ho1.below hb2
    have HB2 : Hid (Below w.heap.size w w2) := HB1.out.trans (hb2.mono hge1)
    have hc2 : IsCode w2 a len zs := hc.below HB2.out
    clear hI1 ho1 hb2 HB1 hc1 hge1
    go_wp2_with fail
    refine (drawBookOk_any w2 a len cap zs hc2 hlen hcap).mono ?_
    rintro e w3 ⟨v3, rfl, hO3⟩
    obtain ⟨n3, al3, cl3, E3, rfl, hl3, ho3, hB3⟩ := hO3.lies
    have hm3 : n3 ≤ maxLen := by unfold maxLen; omega
    have ho2' := ho2.below hB3
    have HB3 : Hid (Below w.heap.size w w3) := HB2.out.trans (hB3.mono HB2.out.size)
    clear ho2 HB2 hB3 hc2
    have hI2 := ho2'.reads
    have hI3 := ho3.reads
    go_wp2_with fail
    refine (specBookBase_any al n cl E lev w3 hI2 hm).mono ?_
    rintro e w4 ⟨hb4, rfl⟩
    have hne : (bookBase n E lev != bookBase n E lev) = false := by simp
    have hI3' := hI3.below (Nat.le_refl _) hb4
    have hI2' := hI2.below (Nat.le_refl _) hb4
    have HB4 : Hid (Below w.heap.size w w4) := HB3.out.trans (hb4.mono HB3.out.size)
    clear hI3 hI2 HB3 hb4 ho2' ho3
    go_wp2_with fail
    refine (implBookOk_any al3 n3 cl3 E3 w4 hI3' hm3).mono ?_
    rintro e w5 ⟨hb5, rfl⟩
    have hI3 := hI3'.below (Nat.le_refl _) hb5
    have hI2 := hI2'.below (Nat.le_refl _) hb5
    have HB5 : Hid (Below w.heap.size w w5) := HB4.out.trans (hb5.mono HB4.out.size)
    clear hI3' hI2' HB4 hb5
    go_wp2_with fail
    refine (specBookOk_any al3 n3 cl3 E3 w5 hI3 hm3).mono ?_
    rintro e w6 ⟨⟨q6, rfl⟩, rfl⟩
    have hne2 : (bookTo E3 n3 != bookTo E3 n3) = false := by simp
    have hI4 := hI2.below (Nat.le_refl _) (below_drewN (Below.refl _ _) q6)
    have HB6 : Hid (Below w.heap.size w (w5.drewN q6)) := below_drewN HB5.out q6
    clear hI3 HB5 hI2
    go_wp2_with fail
    refine (specBookOk_any al n cl E _ hI4 hm).mono ?_
    rintro e w7 ⟨⟨q7, rfl⟩, rfl⟩
    have hI := hI4.below (Nat.le_refl _) (below_drewN (Below.refl _ _) q7)
    have HB : Hid (Below w.heap.size w ((w5.drewN q6).drewN q7)) := below_drewN HB6.out q7
    clear hI4 HB6 hne2 hne hl3 hm3 hO1 hO3
    generalize ((w5.drewN q6).drewN q7) = W at *
    cases hbk : bookTo E n with
    | false =>
      have hz : bookBase n E lev = 0 := by unfold bookBase; rw [hbk]; rfl
      rw [hz]
      clear hbk hI
      go_wp2
      go_ret
      exact ⟨rfl, HB.out⟩
    | true =>
      have hz : bookBase n E lev = baseTo E lev n := by unfold bookBase; rw [if_pos hbk]
      have HM : Hid (bookTo E n = true) := hbk
      have HS : Hid (someTo E lev (baseTo E lev n) n = true) := some_base E lev n
      have hmono := base_mono lev n hbk
      have hzero := base_zero hbk
      have hfew := book_few hbk
      have HC : Hid (∀ (n0 : Lat W.heap.size W) (lv : Int), Calls Try.prog 9 #[.slice al n cl, .int .i64 lv] n0.val fun e w'' => e = .returned (.int .i64 (baseTo E lv n)) ∧ ∃ m : Lat W.heap.size W, w'' = m.val) := fun n0 lv =>
        Calls.lat_of (implBookBase_any al n cl E lv n0.val (hI.below (Nat.le_refl _) n0.bel) hm) (fun e w' h => ⟨by rw [h.2]; unfold bookBase; rw [if_pos HM.out], h.1.mono n0.bel.size⟩)
      rw [hz]
      have HN : Hid (baseTo E lev n ≤ baseTo E (lev + 1) n ∧ baseTo E 0 n = 0) := ⟨hmono, hzero⟩
      clear hbk hz hmono hzero
      generalize hzz : baseTo E lev n = z at *
      have HZ : Hid (baseTo E lev n = z) := hzz
      clear hzz
      go_wp2
      go_loopw [7, 8] (fun s i wr => ∃ k : Nat, k ≤ n ∧ i = .int .i64 k ∧ s = .bool (someTo E lev z k) ∧ wr = W) (fun _ i _ => n - (intOf i).toNat)
      case atStart => exact ⟨0, Nat.zero_le _, rfl, rfl, rfl⟩
      case round =>
        obtain ⟨k, hk, rfl, rfl, rfl⟩ := hrel
        by_cases hlt : k < n
        · obtain ⟨b, off, rfl, hlt2, hcc⟩ := hI.at hlt
          obtain ⟨c0, c1⟩ := hcc k hlt
          have hlti : (k : Int) < (n : Int) := by omega
          clear hcc
          have HU : Hid (someTo E lev z (k + 1) = (someTo E lev z k || ((E k).date == z && decide ((E k).lev < lev)))) := rfl
          cases hs : someTo E lev z k with
          | true =>
            have HV : Hid (someTo E lev z (k + 1) = true) := by show _ = _; rw [HU.out, hs]; rfl
            clear HU
            go_wp2
            go_roundw
            case rel => exact ⟨k + 1, by omega, by go_num, by rw [HV.out], trivial⟩
            case measure => simp [intOf]; omega
          | false =>
            cases hd : ((E k).date == z) with
            | false =>
              have HV : Hid (someTo E lev z (k + 1) = false) := by show _ = _; rw [HU.out, hs, hd]; rfl
              clear HU
              go_wp2
              go_roundw
              case rel => exact ⟨k + 1, by omega, by go_num, by rw [HV.out], trivial⟩
              case measure => simp [intOf]; omega
            | true =>
              have HV : Hid (someTo E lev z (k + 1) = decide ((E k).lev < lev)) := by show _ = _; rw [HU.out, hs, hd]; rfl
              clear HU
              go_wp2
              go_roundw
              case rel => exact ⟨k + 1, by omega, by go_num, by rw [HV.out], trivial⟩
              case measure => simp [intOf]; omega
        · obtain rfl : k = n := by omega
          have hst : someTo E lev z k = true := HS.out
          rw [hst]
          clear HS hlt
          obtain ⟨hm1, hm2⟩ := HN.out
          have d1 : decide (z ≤ baseTo E (lev + 1) k) = true := by simp; exact hm1
          have d2 : (baseTo E 0 k == 0) = true := by rw [hm2]; rfl
          rcases Nat.eq_zero_or_pos k with rfl | hpos
          · clear hm1 hm2 HN HZ
            go_wp2_with fail
            refine wp_region_lat (B := wr.heap.size) (w0 := wr) (by kernel_rfl) (by kernel_rfl) (Below.refl _ _) ?_
            repeat (go_big_quiet_step (exact HC.out _ _))
            refine wpQuiet_nil ?_
            rintro _ ⟨nq, rfl⟩
            have HF : Hid (Below w.heap.size w nq.val) := HB.out.trans (nq.bel.mono HB.out.size)
            clear HC
            go_wp2
            go_ret
            exact ⟨rfl, HF.out⟩
          · obtain ⟨j, rfl⟩ : ∃ j, k = j + 1 := ⟨k - 1, by omega⟩
            have hk0 : ((j : Int) + 1 == 0) = false := by simp; omega
            obtain ⟨b, off, rfl, hlt2, hcc⟩ := hI.at (show j < j + 1 by omega)
            obtain ⟨c0, c1⟩ := hcc j (by omega)
            have C1 := Lat.cell (B := wr.heap.size) c1 hlt2
            have ej : ((j : Int) + 1 - 1) = (j : Int) := by omega
            have d3 : (baseTo E 10 (j + 1) == (E j).date) = true := by rw [base_last HM.out]; simp
            clear hm1 hm2 HN HZ hcc c0 c1
            go_wp2_with fail
            refine wp_region_lat (B := wr.heap.size) (w0 := wr) (by kernel_rfl) (by kernel_rfl) (Below.refl _ _) ?_
            repeat (go_big_quiet_step (exact HC.out _ _))
            refine wpQuiet_nil ?_
            rintro _ ⟨nq, rfl⟩
            have HF : Hid (Below w.heap.size w nq.val) := HB.out.trans (nq.bel.mono HB.out.size)
            clear HC C1
            go_wp2
            go_ret
            exact ⟨rfl, HF.out⟩

set_option maxRecDepth 100000 in
theorem lifted (os : Os) (started : os.Started) (H : Type) (enc : TypeId × Value → H) :
    ReturnsInHanded {} Try.checked os 3 .any (Rows.fnBookBaseSpec.pre6 enc Try.prog Try.f3 Rows.fnBookBaseRow.domain false) (Rows.fnBookBaseSpec.post enc Try.prog Try.f3 false true false false) := by
  refine returnsInHanded_of_change (C := Try.checked) own started (by kernel_rfl) Try.func3
    (ChangeSpec.witness6 (enc := enc) (C := Try.checked) false ⟨#[], #[.slice none 0 0], []⟩ 8 (by kernel_rfl) (by kernel_rfl) (by kernel_rfl) (by kernel_rfl)) ?_
  intro W base args ds gs before hval0 hW hcnd _
  have hval : ∀ (j : Nat) t v, Try.f3.params[j]? = some t → args[j]? = some v → Value.okWide Try.prog W .any base t v := hval0
  have hW' := hW
  obtain ⟨p, q, hA0, hV, rfl, hfz, hnd⟩ := hW
  have hA : DataW.TrodAll enc Try.prog W 0 (fun _ => true) true Try.f3.params.toList args.toList ds p := hA0
  rw [Try.params3] at hA hval
  obtain ⟨v0, vs0, d0, ds0, p0, q0, hargs, rfl, rfl, h0, r0⟩ := trodAll_cons hA
  obtain ⟨rfl, rfl, rfl⟩ := trodAll_nil r0
  obtain rfl : args = #[v0] := by cases args; simp_all
  obtain ⟨rfl, rfl⟩ := trodVars_none hV
  obtain ⟨a0, len0, cap0, rfl⟩ := okWide_slice Try.underlying22 (hval 0 22 v0 rfl rfl)
  have k0 := h0
  have lt0 : ∀ x ∈ p0, x.block < W.heap.size := by obtain ⟨m, hm⟩ := k0; exact DataW.trod_lt m _ _ _ hm
  obtain ⟨zs0, hC0, hl0, hp0⟩ := openCode h0
  clear hA0 hval0
  refine (walk a0 len0 cap0 zs0 W hC0 hl0 hp0).mono fun e W' ⟨he, bel⟩ => ?_
  subst he
  exact ⟨_, rfl, _, _, _, [], _, [], hW', trodAll_mk1 (shut_bool Try.underlying4 _), (trodAll_cons_mk (Below.trod laidOut (by kernel_rfl) (of_decide_eq_true (by kernel_rfl)) k0 bel lt0) trodAll_mk0), rfl, bel.frame _, fun h => by cases h⟩

theorem over : Rows.fnBookBaseRow.holds Try.pinned (OpenSpec.ofChange Rows.fnBookBaseSpec) :=
  OpenClaim.holds_of_wide 3 Try.f3 rfl rfl rfl rfl rfl rfl rfl ⟨rfl, rfl, rfl, rfl, rfl⟩ rfl rfl rfl rfl rfl (by kernel_rfl) Try.func3 (by kernel_rfl)
    (of_decide_eq_true (by kernel_rfl)) (by unfold Func.isWrapper; first | (rw [if_pos (by decide +kernel)]; kernel_rfl) | (rw [if_neg (by decide +kernel)]; exact ⟨rfl, rfl⟩))
    (fun os started H enc _ => lifted os started H enc)
end Go.Proofs.Ytkdfimpeghhboaa.fnBookBase

namespace Go.Proofs.Ytkdfimpeghhboaa
theorem fnBookBase_holds : Rows.FnBookBaseSaid := fnBookBase.over
end Go.Proofs.Ytkdfimpeghhboaa
