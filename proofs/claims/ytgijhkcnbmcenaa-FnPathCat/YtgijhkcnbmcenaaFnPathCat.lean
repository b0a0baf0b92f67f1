/-
  For every two codes, FnPathCat answers true: a drawn way behind another one is within it, and has their texts one behind the other, but for the root's; and both codes read afterwards as they read before. No condition.
-/
import Derived.Test.YtgijhkcnbmcenaaOpenCode
import Derived.Test.YtgijhkcnbmcenaaCat1
namespace Go.Proofs.Ytgijhkcnbmcenaa.fnPathCat
open Go.ChangeShapes Go.WideShapes Go.ChangeAt Go.RowKit
set_option linter.unusedVariables false

set_option maxHeartbeats 2000000 in
theorem walk (a : Option Addr) (len cap : Nat) (zs : Nat → Int) (a' : Option Addr) (len' cap' : Nat) (zs' : Nat → Int) (w : World) (hc : IsCode w a len zs) (hlen : len ≤ maxLen) (hcap : len ≤ cap) (hc' : IsCode w a' len' zs') (hlen' : len' ≤ maxLen) (hcap' : len' ≤ cap') :
    Calls Try.prog 6 #[.slice a len cap, .slice a' len' cap'] w fun e w' => e = .returned (.bool true) ∧ Below w.heap.size w w' := by
  have l1 := hlen
  have l2 := hlen'
  unfold maxLen at l1 l2
  obtain ⟨i0, hi, hz0, hz1, hz2⟩ := info_parts infoStr
  by_cases hbig : (1048576 : Int) < len
  · go_enter Try.func6, Try.ntmps6
    go_wp2
    go_ret
    exact ⟨rfl, Below.refl _ _⟩
  · have hb1 : decide ((1048576 : Int) < len) = false := by simp; omega
    by_cases hbig2 : (1048576 : Int) < len'
    · go_enter Try.func6, Try.ntmps6
      go_wp2
      go_ret
      exact ⟨rfl, Below.refl _ _⟩
    · have hb2 : decide ((1048576 : Int) < len') = false := by simp; omega
      go_enter Try.func6, Try.ntmps6
      go_wp2_with fail
      refine (drawPathText_any w a len cap zs hc hlen hcap).mono ?_
      rintro e w1 ⟨g, n, c, S, rfl, hD1, hB1⟩
      have hc1 := hc'.below hB1
      go_wp2_with fail
      refine (drawPathText_any w1 a' len' cap' zs' hc1 hlen' hcap').mono ?_
      rintro e w2 ⟨g', m, c', T, rfl, hE2, hB2'⟩
      have hD2 := hD1.below hB2'
      have HB2 : Hid (Below w.heap.size w w2) := hB1.trans (hB2'.mono hB1.size)
      have n9 := hD2.few
      have m9 := hE2.few
      have ltP := hD2.lt
      have ltQ := hE2.lt
      have HP : Hid (Lies w2 g n c S) := hD2.lies
      have HQ : Hid (Lies w2 g' m c' T) := hE2.lies
      have HPc : Hid (∀ j u, (strv (lst n S))[j]? = some u → (w2.alloc (.cells #[] 9)).cell? ((⟨g, 0, none⟩ : Addr).add j) = some u) := lst_cells (fun i hi => ((Below.refl w2.heap.size w2).alloc (Nat.le_refl _) _).cell (p := ⟨g, 0 + i, none⟩) ltP |>.trans (hD2.cell i hi))
      have hO := owns_empty w2
      have hk : ([] : List ByteArray).length + (lst n S).length = 0 + n := by rw [lst_length]; rfl
      have hBe : Below w2.heap.size w2 (w2.alloc (.cells #[] 9)) := (Below.refl _ _).alloc (Nat.le_refl _) _
      clear hD1 hB1 hB2' hc hc' hc1 hD2 hE2
      go_wp2_with (at_builtin; refine wpList_append_own _ rfl (.tmp 22) (.tmp 23) 23 rfl w2.heap.size 9 i0 (.string ByteArray.empty) 1 16 Try.underlying23 hi hz0 hz1 hz2 rfl (by decide) _ _ _ rfl hO.1 ⟨g, 0, none⟩ n c (strv (lst n S)) rfl (strv_lst n S) HPc.out (strv_one _) ?c3 ?c4 ?c5 ?_)
      case c3 => unfold maxLen; first | omega | (simp; omega)
      case c4 => first | omega | (simp; omega)
      case c5 => simp
      intro v' w3 hown hgrow hnil
      obtain ⟨hO3, hB3, hs3⟩ := own_append hBe (by simp) hO (by rw [lst_length]; simp) hown hgrow hnil
      have HQc : Hid (∀ j u, (strv (lst m T))[j]? = some u → w3.cell? ((⟨g', 0, none⟩ : Addr).add j) = some u) := lst_cells (fun i hi => (hB3.cell (p := ⟨g', 0 + i, none⟩) ltQ).trans (HQ.out.cell i hi))
      have HB3 : Hid (Below w2.heap.size w2 w3) := hB3
      clear hown hgrow hnil hO hBe HPc hB3
      simp only [List.nil_append] at hO3
      have hLn : (lst n S).length = n := lst_length n S
      go_wp2_with (at_builtin; refine wpList_append_own _ rfl (.tmp 24) (.tmp 25) 23 rfl w2.heap.size 9 i0 (.string ByteArray.empty) 1 16 Try.underlying23 hi hz0 hz1 hz2 rfl (by decide) _ _ _ rfl hO3.1 ⟨g', 0, none⟩ m c' (strv (lst m T)) rfl (strv_lst m T) HQc.out (strv_one _) ?d3 ?d4 ?d5 ?_)
      case d3 => unfold maxLen; first | omega | (simp; omega)
      case d4 => first | omega | (simp; omega)
      case d5 => omega
      intro v4 w4 hown hgrow hnil
      obtain ⟨hO4, hB4, hs4⟩ := own_append HB3.out hs3 hO3 (by rw [lst_length, lst_length]) hown hgrow (fun e => hO3.2 (hnil.1 e).1)
      have h5 : ∀ i, i < n + m → (catS n S T i).size ≤ 5 := fun i hi => by
        unfold catS
        by_cases hin : i < n
        · rw [if_pos hin]; exact HP.out.short i hin
        · rw [if_neg hin]; exact HQ.out.short (i - n) (by omega)
      obtain ⟨gb, cb, rfl, _, hL4⟩ := hO4.lies (n + m) (catS n S T) (by rw [List.length_append, lst_length, lst_length]) (cat_getD n m S T) (by omega) h5
      have hP4 := HP.out.below hB4
      have hQ4 := HQ.out.below hB4
      have BB : Below w.heap.size w w4 := HB2.out.trans (hB4.mono HB2.out.size)
      clear hO4 hB4 hown hgrow hnil hO3 HB3 HQc HP HQ HB2 h5 hs3 hs4
      have rB := hL4.room
      have rP := hP4.room
      have rQ := hQ4.room
      have mB := hL4.most
      go_wp2_with fail
      refine (implPathText_any _ (n + m) cb (catS n S T) _ hL4.strs hL4.small hL4.len rB).mono ?_
      rintro e w5 ⟨rfl, hb5⟩
      have hP5 := hP4.below hb5
      have hQ5 := hQ4.below hb5
      have hL5 := hL4.below hb5
      have B5 : Below w.heap.size w w5 := BB.trans (hb5.mono BB.size)
      clear hP4 hQ4 hL4 BB hb5
      go_wp2_with fail
      refine (specPathText_any _ (n + m) cb (catS n S T) _ hL5.strs hL5.small hL5.len).mono ?_
      rintro e w6 ⟨rfl, rfl⟩
      go_wp2_with fail
      refine (implPathIn_any _ _ (n + m) cb n c (catS n S T) S _ hL5.strs hP5.strs hL5.len hP5.len rB mB).mono ?_
      rintro e w6 ⟨⟨q, rfl⟩, rfl⟩
      rw [in_cat]
      have hP6 := hP5.drewN q
      have hQ6 := hQ5.drewN q
      have hL6 := hL5.drewN q
      have B6 : Below w.heap.size w (w5.drewN q) := below_drewN B5 q
      generalize w5.drewN q = w6 at hP6 hQ6 hL6 B6 ⊢
      clear hP5 hQ5 hL5 B5
      go_wp2_with fail
      refine (specPathOk_any _ (n + m) cb (catS n S T) _ hL6.strs hL6.small hL6.len).mono ?_
      rintro e w7 ⟨rfl, rfl⟩
      cases hok : pathOk (n + m) (catS n S T)
      · have HB : Hid _ := B6
        have ht : textOf (n + m) (catS n S T) = [] := textOf_not hok
        clear hP6 hQ6 hL6 B6
        go_wp2
        go_ret
        exact ⟨rfl, HB.out⟩
      · have lP : (textOf n S).length ≤ 25 := text_len
        have lQ : (textOf m T).length ≤ 25 := text_len
        have HX1 : Hid (n = 0 → textOf (n + m) (catS n S T) = textOf m T) := fun h => by subst h; exact cat_root_left hok
        have HX2 : Hid (m = 0 → textOf (n + m) (catS n S T) = textOf n S) := fun h => by subst h; exact cat_root_right hok
        have HX3 : Hid (n ≠ 0 → m ≠ 0 → textOf (n + m) (catS n S T) = textOf n S ++ textOf m T) := fun h h' => cat_both hok h h'
        clear hL6
        go_wp2_with fail
        refine (implPathText_any _ n c S _ hP6.strs hP6.small hP6.len rP).mono ?_
        rintro e w8 ⟨rfl, hb8⟩
        have hP8 := hP6.below hb8
        have hQ8 := hQ6.below hb8
        have B8 : Below w.heap.size w w8 := B6.trans (hb8.mono B6.size)
        clear hP6 hQ6 B6 hb8
        go_wp2_with fail
        refine (implPathText_any _ m c' T _ hQ8.strs hQ8.small hQ8.len rQ).mono ?_
        rintro e w9 ⟨rfl, hb9⟩
        have hP9 := hP8.below hb9
        have hQ9 := hQ8.below hb9
        have B9 : Below w.heap.size w w9 := B8.trans (hb9.mono B8.size)
        clear hP8 hQ8 B8 hb9
        generalize textOf (n + m) (catS n S T) = x at HX1 HX2 HX3 ⊢
        by_cases hn0 : n = 0
        · have hn0b : ((n : Int) == 0) = true := by simp; omega
          have HN0 : Hid (n = 0) := hn0
          clear hn0
          go_wp2_with fail
          refine (implPathText_any _ m c' T _ hQ9.strs hQ9.small hQ9.len rQ).mono ?_
          rintro e w10 ⟨rfl, hb10⟩
          have hP10 := hP9.below hb10
          have B10 : Below w.heap.size w w10 := B9.trans (hb10.mono B9.size)
          clear hP9 hQ9 B9 hb10
          by_cases hm0 : m = 0
          · have hm0b : ((m : Int) == 0) = true := by simp; omega
            have HM0 : Hid (m = 0) := hm0
            clear hm0
            go_wp2_with fail
            refine (implPathText_any _ n c S _ hP10.strs hP10.small hP10.len rP).mono ?_
            rintro e w11 ⟨rfl, hb11⟩
            have HB : Hid (Below w.heap.size w w11) := B10.trans (hb11.mono B10.size)
            have hx := HX2.out HM0.out
            clear B10 hb11 hP10
            subst hx
            go_wp2
            go_ret
            exact ⟨rfl, HB.out⟩
          · have hm0b : ((m : Int) == 0) = false := by simp; omega
            have HB : Hid _ := B10
            have hx := HX1.out HN0.out
            clear B10 hP10
            subst hx
            go_wp2
            go_ret
            exact ⟨rfl, HB.out⟩
        · have hn0b : ((n : Int) == 0) = false := by simp; omega
          by_cases hm0 : m = 0
          · have hm0b : ((m : Int) == 0) = true := by simp; omega
            have HM0 : Hid (m = 0) := hm0
            clear hm0
            go_wp2_with fail
            refine (implPathText_any _ n c S _ hP9.strs hP9.small hP9.len rP).mono ?_
            rintro e w11 ⟨rfl, hb11⟩
            have HB : Hid (Below w.heap.size w w11) := B9.trans (hb11.mono B9.size)
            have hx := HX2.out HM0.out
            clear B9 hb11 hP9 hQ9
            subst hx
            go_wp2
            go_ret
            exact ⟨rfl, HB.out⟩
          · have hm0b : ((m : Int) == 0) = false := by simp; omega
            have HB : Hid _ := B9
            have hx := HX3.out hn0 hm0
            clear B9 hP9 hQ9
            generalize textOf n S = y at hx lP ⊢
            generalize textOf m T = z at hx lQ ⊢
            have hcat : ((⟨y.toArray⟩ : ByteArray) ++ ⟨z.toArray⟩).toList = y ++ z := by rw [ByteArray.mk_append_mk, ByteArray.toList_eq]
            subst hx
            go_wp2
            go_ret
            exact ⟨rfl, HB.out⟩

set_option maxRecDepth 100000 in
theorem lifted (os : Os) (started : os.Started) (H : Type) (enc : TypeId × Value → H) :
    ReturnsInHanded {} Try.checked os 6 .any (Rows.fnPathCatSpec.pre6 enc Try.prog Try.f6 Rows.fnPathCatRow.domain false) (Rows.fnPathCatSpec.post enc Try.prog Try.f6 false true false false) := by
  refine returnsInHanded_of_change (C := Try.checked) own started (by kernel_rfl) Try.func6
    (ChangeSpec.witness6 (enc := enc) (C := Try.checked) false ⟨#[], #[.slice none 0 0, .slice none 0 0], []⟩ 8 (by kernel_rfl) (by kernel_rfl) (by kernel_rfl) (by kernel_rfl)) ?_
  intro W base args ds gs before hval0 hW hcnd _
  have hval : ∀ (j : Nat) t v, Try.f6.params[j]? = some t → args[j]? = some v → Value.okWide Try.prog W .any base t v := hval0
  have hW' := hW
  obtain ⟨p, q, hA0, hV, rfl, hfz, hnd⟩ := hW
  have hA : DataW.TrodAll enc Try.prog W 0 (fun _ => true) true Try.f6.params.toList args.toList ds p := hA0
  rw [Try.params6] at hA hval
  obtain ⟨v0, vs0, d0, ds0, p0, q0, hargs, rfl, rfl, h0, r0⟩ := trodAll_cons hA
  obtain ⟨v1, vs1, d1, ds1, p1, q1, rfl, rfl, rfl, h1, r1⟩ := trodAll_cons r0
  obtain ⟨rfl, rfl, rfl⟩ := trodAll_nil r1
  obtain rfl : args = #[v0, v1] := by cases args; simp_all
  obtain ⟨rfl, rfl⟩ := trodVars_none hV
  obtain ⟨a0, len0, cap0, rfl⟩ := okWide_slice Try.underlying22 (hval 0 22 v0 rfl rfl)
  have k0 := h0
  have lt0 : ∀ x ∈ p0, x.block < W.heap.size := by obtain ⟨m, hm⟩ := k0; exact DataW.trod_lt m _ _ _ hm
  obtain ⟨zs0, hC0, hl0, hp0⟩ := openCode h0
  obtain ⟨a1, len1, cap1, rfl⟩ := okWide_slice Try.underlying22 (hval 1 22 v1 rfl rfl)
  have k1 := h1
  have lt1 : ∀ x ∈ p1, x.block < W.heap.size := by obtain ⟨m, hm⟩ := k1; exact DataW.trod_lt m _ _ _ hm
  obtain ⟨zs1, hC1, hl1, hp1⟩ := openCode h1
  clear hA0 hval0
  refine (walk a0 len0 cap0 zs0 a1 len1 cap1 zs1 W hC0 hl0 hp0 hC1 hl1 hp1).mono fun e W' ⟨he, bel⟩ => ?_
  subst he
  exact ⟨_, rfl, _, _, _, [], _, [], hW', trodAll_mk1 (shut_bool Try.underlying4 _), (trodAll_cons_mk (Below.trod laidOut (by kernel_rfl) (of_decide_eq_true (by kernel_rfl)) k0 bel lt0) (trodAll_cons_mk (Below.trod laidOut (by kernel_rfl) (of_decide_eq_true (by kernel_rfl)) k1 bel lt1) trodAll_mk0)), rfl, bel.frame _, fun h => by cases h⟩

theorem over : Rows.fnPathCatRow.holds Try.pinned (OpenSpec.ofChange Rows.fnPathCatSpec) :=
  OpenClaim.holds_of_wide 6 Try.f6 rfl rfl rfl rfl rfl rfl rfl ⟨rfl, rfl, rfl, rfl, rfl⟩ rfl rfl rfl rfl rfl (by kernel_rfl) Try.func6 (by kernel_rfl)
    (of_decide_eq_true (by kernel_rfl)) (by unfold Func.isWrapper; first | (rw [if_pos (by decide +kernel)]; kernel_rfl) | (rw [if_neg (by decide +kernel)]; exact ⟨rfl, rfl⟩))
    (fun os started H enc _ => lifted os started H enc)
end Go.Proofs.Ytgijhkcnbmcenaa.fnPathCat

namespace Go.Proofs.Ytgijhkcnbmcenaa
theorem fnPathCat_holds : Rows.FnPathCatSaid := fnPathCat.over
end Go.Proofs.Ytgijhkcnbmcenaa
