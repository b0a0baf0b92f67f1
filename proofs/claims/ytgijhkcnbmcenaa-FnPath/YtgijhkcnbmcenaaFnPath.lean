/-
  For every two codes, FnPath answers true: a drawn way is read from its text, and a drawn text that is read is that of what was read; and both codes read afterwards as they read before. No condition.
-/
import Derived.Test.YtgijhkcnbmcenaaOpenCode
import Derived.Test.YtgijhkcnbmcenaaReadAny
import Derived.Test.YtgijhkcnbmcenaaTextImpl
import Derived.Test.YtgijhkcnbmcenaaDrawRead
import Derived.Test.YtgijhkcnbmcenaaDrawName
import Derived.Test.YtgijhkcnbmcenaaFnPathMath
namespace Go.Proofs.Ytgijhkcnbmcenaa.fnPath
open Go.ChangeShapes Go.WideShapes Go.ChangeAt Go.RowKit
set_option linter.unusedVariables false

theorem handed_small {w w' : World} {e : Ending} {a : Option Addr} {n c : Nat} {S : Nat → ByteArray} {l : List UInt8} (h : Handed w w' e a n c S (readOf l)) (hl : l.length ≤ 60) : Small n S := fun i hi => by
  have h1 := h.txt i hi
  have h2 : (bytes (S i)).length ≤ 60 := by
    rw [h1]
    cases hr : readOf l with
    | none => simp
    | some P =>
      have hi' : i < P.length := by have := h.len; rw [hr] at this; simp at this; omega
      simp [hi']
      unfold readOf at hr
      split at hr
      · simp at hr; subst hr; simp at hi'
      · split at hr
        · split at hr
          · simp at hr
            subst hr
            have h3 := mem_total (List.getElem_mem hi')
            have h4 := cut_total l.tail
            rw [List.length_tail] at h4
            omega
          · cases hr
        · cases hr
  have h3 : (bytes (S i)).length = (S i).size := by unfold bytes; simp
  unfold maxLen; omega

set_option maxHeartbeats 4000000 in
theorem walk (a : Option Addr) (len cap : Nat) (zs : Nat → Int) (a' : Option Addr) (len' cap' : Nat) (zs' : Nat → Int) (w : World) (hc : IsCode w a len zs) (hlen : len ≤ maxLen) (hcap : len ≤ cap) (hc' : IsCode w a' len' zs') (hlen' : len' ≤ maxLen) (hcap' : len' ≤ cap') :
    Calls Try.prog 3 #[.slice a len cap, .slice a' len' cap'] w fun e w' => e = .returned (.bool true) ∧ Below w.heap.size w w' := by
  have l1 := hlen
  have l2 := hlen'
  unfold maxLen at l1 l2
  by_cases hbig : (1048576 : Int) < len
  · go_enter Try.func3, Try.ntmps3
    go_wp2
    go_ret
    exact ⟨rfl, Below.refl _ _⟩
  · have hb1 : decide ((1048576 : Int) < len) = false := by simp; omega
    by_cases hbig2 : (1048576 : Int) < len'
    · go_enter Try.func3, Try.ntmps3
      go_wp2
      go_ret
      exact ⟨rfl, Below.refl _ _⟩
    · have hb2 : decide ((1048576 : Int) < len') = false := by simp; omega
      have HC : Hid (IsCode w a len zs) := hc
      have HC' : Hid (IsCode w a' len' zs') := hc'
      go_enter Try.func3, Try.ntmps3
      go_wp2_with fail
      refine (drawPathText_any w a len cap zs hc hlen hcap).mono ?_
      rintro e w1 ⟨g, n, c, S, rfl, hD1, hB1⟩
      have rD := hD1.room
      have nD := hD1.len
      have HSM : Hid (Small n S) := hD1.small
      clear hc hc'
      go_wp2_with fail
      refine (implPathText_any _ n c S _ hD1.strs HSM.out nD rD).mono ?_
      rintro e w2 ⟨rfl, hb2'⟩
      have hD2 := hD1.below hb2'
      have hB2 : Below w.heap.size w w2 := hB1.trans (hb2'.mono hB1.size)
      clear hD1 hB1 hb2'
      have hT25 : (textOf n S).length ≤ 25 := dtext_len
      go_wp2_with fail
      refine (implRead_any ⟨(textOf n S).toArray⟩ _ (by show (textOf n S).toArray.size ≤ _; rw [List.size_toArray]; omega)).mono ?_
      rintro e w3 ⟨ax, nx, cx, X, H3, rX⟩
      change Handed w2 w3 e ax nx cx X (readOf (textOf n S)) at H3
      obtain rfl := H3.ret
      rw [read_isSome]
      have hD3 := hD2.below H3.below
      have hB3 : Below w.heap.size w w3 := hB2.trans (H3.below.mono hB2.size)
      have HH3 : Hid (Handed w2 w3 _ ax nx cx X (readOf (textOf n S))) := H3
      clear H3 hD2 hB2
      go_wp2_with fail
      refine (specPathText_any _ n c S _ hD3.strs HSM.out nD).mono ?_
      rintro e w4 ⟨rfl, hw4⟩
      subst hw4
      go_wp2_with fail
      refine (implPathOk_any _ n c S _ hD3.strs HSM.out nD).mono ?_
      rintro e w4 ⟨rfl, hw4⟩
      have hw4' := hw4.symm
      subst hw4'
      go_wp2_with fail
      refine (specPathOk_any _ n c S _ hD3.strs HSM.out nD).mono ?_
      rintro e w4 ⟨rfl, hw4⟩
      have hw4' := hw4.symm
      subst hw4'
      go_wp2_with fail
      refine (specPathOk_any _ n c S _ hD3.strs HSM.out nD).mono ?_
      rintro e w4 ⟨rfl, hw4⟩
      have hw4' := hw4.symm
      subst hw4'
      have Rest : Hid (∀ w4, Below w.heap.size w w4 → IsCode w4 a len zs ∧ IsCode w4 a' len' zs') := fun w4 h4 => ⟨HC.out.below h4, HC'.out.below h4⟩
      have HX25 : Hid (pathOk n S = true → textOf nx X = textOf n S ∧ IsStrs w3 ax nx X ∧ Small nx X ∧ nx ≤ maxLen) := fun hok => by
        have hr := read_text hok
        have H := HH3.out
        refine ⟨?_, H.strs, handed_small H (by omega), by have := H.few; unfold maxLen; omega⟩
        have hlen : nx = (namesOf n S).length := by have := H.len; rwa [hr] at this
        exact (text_read hr hlen (fun i hi => by have := H.txt i hi; rwa [hr] at this)).1
      clear HH3 HC HC' hD3
      cases hok : pathOk n S
      case' false =>
        have hB4 := hB3
        clear HX25 hB3 rX HSM
        go_wp2_with fail
      case' true =>
        obtain ⟨hx1, hx2, hx3, hx4⟩ := HX25.out hok
        go_wp2_with fail
        refine (implPathText_any _ nx cx X _ hx2 hx3 hx4 rX).mono ?_
        rintro e w4 ⟨rfl, hb4⟩
        rw [hx1]
        have hB4 : Below w.heap.size w w4 := hB3.trans (hb4.mono hB3.size)
        clear hb4 hx2 hx3 hx4 hx1 HX25 hB3 rX HSM
        go_wp2_with fail
      all_goals
        refine (drawPathRead_any _ a' len' cap' zs' (Rest.out _ hB4).2 hlen' hcap').mono ?_
        rintro e w5 ⟨t, rfl, ht60, hb5⟩
        have hB5 : Below w.heap.size w w5 := hB4.trans (hb5.mono hB4.size)
        have htl : (bytes t).length ≤ 60 := by rw [bytes_len]; exact ht60
        clear hb5 hB4
        go_wp2_with fail
        refine (implRead_any t _ (by omega)).mono ?_
        rintro e w6 ⟨ay, ny, cy, Y, H6, rY⟩
        obtain rfl := H6.ret
        have hB6 : Below w.heap.size w w6 := hB5.trans (H6.below.mono hB5.size)
        have HY : Hid (∃ wp, Handed wp w6 (.returned (.tuple #[.slice ay ny cy, .bool (readOf (bytes t)).isSome])) ay ny cy Y (readOf (bytes t))) := ⟨_, H6⟩
        clear H6 hB5
        go_wp2_with fail
        refine (specPathRead_any t _ (by omega)).mono ?_
        rintro e w7 ⟨az, nz, cz, Z, H7⟩
        obtain rfl := H7.ret
        have hB7 : Below w.heap.size w w7 := hB6.trans (H7.below.mono hB6.size)
        have hsY : IsStrs w7 ay ny Y := by
          obtain ⟨wp, H⟩ := HY.out
          exact H.strs.below (Nat.le_refl _) H7.below
        have HTY : Hid ((readOf (bytes t)).isSome = true → textOf ny Y = bytes t ∧ pathOk ny Y = true) := fun hs => by
          obtain ⟨wp, H⟩ := HY.out
          obtain ⟨P, hP⟩ := Option.isSome_iff_exists.1 hs
          rw [hP] at H
          exact text_read hP H.len H.txt
        have hmY : Small ny Y := by obtain ⟨wp, H⟩ := HY.out; exact handed_small H htl
        have nY : ny ≤ maxLen := by obtain ⟨wp, H⟩ := HY.out; have := H.few; unfold maxLen; omega
        clear H7 hB6 HY
        go_wp2_with fail
        refine (drawNameOk_any _ a len cap zs (Rest.out _ hB7).1 hlen hcap).mono ?_
        rintro e w8 ⟨nm, rfl, hnm, hb8⟩
        have hB8 : Below w.heap.size w w8 := hB7.trans (hb8.mono hB7.size)
        have hsY8 := hsY.below (Nat.le_refl _) hb8
        have hnmL : nm.size ≤ maxLen := by unfold maxLen; omega
        clear hb8 hB7 hsY Rest
        cases hfine : (readOf (bytes t)).isSome
        · go_wp2_with fail
          refine (implNameOk_any nm _ hnmL).mono ?_
          rintro e w9 ⟨rfl, hw9⟩
          have hw9' := hw9.symm
          subst hw9'
          go_wp2_with fail
          refine (specNameOk_any nm _ hnmL).mono ?_
          rintro e w9 ⟨rfl, hw9⟩
          have hw9' := hw9.symm
          subst hw9'
          have HF : Hid _ := hB8
          clear hB8 hsY8 hmY HTY
          go_wp2
          go_ret
          exact ⟨by simp, HF.out⟩
        · obtain ⟨ty1, ty2⟩ := HTY.out hfine
          go_wp2_with fail
          refine (implPathText_any _ ny cy Y _ hsY8 hmY nY rY).mono ?_
          rintro e w9 ⟨rfl, hb9⟩
          have hB9 : Below w.heap.size w w9 := hB8.trans (hb9.mono hB8.size)
          have hsY9 := hsY8.below (Nat.le_refl _) hb9
          rw [ty1]
          have htt : t.toList = bytes t := by rw [ByteArray.toList_eq]; rfl
          clear hb9 hB8 hsY8 HTY ty1
          go_wp2_with fail
          refine (implPathOk_any _ ny cy Y _ hsY9 hmY nY).mono ?_
          rintro e w10 ⟨rfl, hw10⟩
          have hw10' := hw10.symm
          subst hw10'
          rw [ty2]
          go_wp2_with fail
          refine (implNameOk_any nm _ hnmL).mono ?_
          rintro e w11 ⟨rfl, hw11⟩
          have hw11' := hw11.symm
          subst hw11'
          go_wp2_with fail
          refine (specNameOk_any nm _ hnmL).mono ?_
          rintro e w11 ⟨rfl, hw11⟩
          have hw11' := hw11.symm
          subst hw11'
          have HF : Hid _ := hB9
          clear hB9 hsY9 hmY
          go_wp2
          go_ret
          exact ⟨by simp, HF.out⟩

set_option maxRecDepth 100000 in
theorem lifted (os : Os) (started : os.Started) (H : Type) (enc : TypeId × Value → H) :
    ReturnsInHanded {} Try.checked os 3 .any (Rows.fnPathSpec.pre6 enc Try.prog Try.f3 Rows.fnPathRow.domain false) (Rows.fnPathSpec.post enc Try.prog Try.f3 false true false false) := by
  refine returnsInHanded_of_change (C := Try.checked) own started (by kernel_rfl) Try.func3
    (ChangeSpec.witness6 (enc := enc) (C := Try.checked) false ⟨#[], #[.slice none 0 0, .slice none 0 0], []⟩ 8 (by kernel_rfl) (by kernel_rfl) (by kernel_rfl) (by kernel_rfl)) ?_
  intro W base args ds gs before hval0 hW hcnd _
  have hval : ∀ (j : Nat) t v, Try.f3.params[j]? = some t → args[j]? = some v → Value.okWide Try.prog W .any base t v := hval0
  have hW' := hW
  obtain ⟨p, q, hA0, hV, rfl, hfz, hnd⟩ := hW
  have hA : DataW.TrodAll enc Try.prog W 0 (fun _ => true) true Try.f3.params.toList args.toList ds p := hA0
  rw [Try.params3] at hA hval
  obtain ⟨v0, vs0, d0, ds0, p0, q0, hargs, rfl, rfl, h0, r0⟩ := trodAll_cons hA
  obtain ⟨v1, vs1, d1, ds1, p1, q1, rfl, rfl, rfl, h1, r1⟩ := trodAll_cons r0
  obtain ⟨rfl, rfl, rfl⟩ := trodAll_nil r1
  obtain rfl : args = #[v0, v1] := by cases args; simp_all
  obtain ⟨rfl, rfl⟩ := trodVars_none hV
  obtain ⟨a0, len0, cap0, rfl⟩ := okWide_slice Try.underlying22 (hval 0 22 v0 rfl rfl)
  have k0 := h0
  have lt0 : ∀ x ∈ p0, x.block < W.heap.size := by obtain ⟨m, hm⟩ := k0; exact DataW.trod_lt m _ _ _ hm
  obtain ⟨zs0, hC0, hl0, hp0⟩ := openCode h0
  obtain ⟨a1, len1, cap1, rfl⟩ := okWide_slice Try.underlying22 (hval 1 22 v1 rfl rfl)
  have k1 := h1
  have lt1 : ∀ x ∈ p1, x.block < W.heap.size := by obtain ⟨m, hm⟩ := k1; exact DataW.trod_lt m _ _ _ hm
  obtain ⟨zs1, hC1, hl1, hp1⟩ := openCode h1
  clear hA0 hval0
  refine (walk a0 len0 cap0 zs0 a1 len1 cap1 zs1 W hC0 hl0 hp0 hC1 hl1 hp1).mono fun e W' ⟨he, bel⟩ => ?_
  subst he
  exact ⟨_, rfl, _, _, _, [], _, [], hW', trodAll_mk1 (shut_bool Try.underlying4 _), (trodAll_cons_mk (Below.trod laidOut (by kernel_rfl) (of_decide_eq_true (by kernel_rfl)) k0 bel lt0) (trodAll_cons_mk (Below.trod laidOut (by kernel_rfl) (of_decide_eq_true (by kernel_rfl)) k1 bel lt1) trodAll_mk0)), rfl, bel.frame _, fun h => by cases h⟩

theorem over : Rows.fnPathRow.holds Try.pinned (OpenSpec.ofChange Rows.fnPathSpec) :=
  OpenClaim.holds_of_wide 3 Try.f3 rfl rfl rfl rfl rfl rfl rfl ⟨rfl, rfl, rfl, rfl, rfl⟩ rfl rfl rfl rfl rfl (by kernel_rfl) Try.func3 (by kernel_rfl)
    (of_decide_eq_true (by kernel_rfl)) (by unfold Func.isWrapper; first | (rw [if_pos (by decide +kernel)]; kernel_rfl) | (rw [if_neg (by decide +kernel)]; exact ⟨rfl, rfl⟩))
    (fun os started H enc _ => lifted os started H enc)
end Go.Proofs.Ytgijhkcnbmcenaa.fnPath

namespace Go.Proofs.Ytgijhkcnbmcenaa
theorem fnPath_holds : Rows.FnPathSaid := fnPath.over
end Go.Proofs.Ytgijhkcnbmcenaa
