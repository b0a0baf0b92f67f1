/-
  For every two codes, FnPathBent answers true: a drawn way is none with a name that is none, or too many names; two one behind the other are one, if they are not too long; and both codes read afterwards as they read before. No condition.
-/
import Derived.Test.YtgijhkcnbmcenaaOpenCode
import Derived.Test.YtgijhkcnbmcenaaCat1
namespace Go.Proofs.Ytgijhkcnbmcenaa.fnPathBent
open Go.ChangeShapes Go.WideShapes Go.ChangeAt Go.RowKit
set_option linter.unusedVariables false

/-- A list with a text behind it that is no name is no way. -/
theorem bent_not (n : Nat) (S T : Nat → ByteArray) (h : nameOk (T 0).data.toList = false) : pathOk (n + 1) (catS n S T) = false := by
  unfold pathOk
  rw [names_cat]
  have : namesOk 1 T = false := namesOk_not 1 0 T (by omega) h
  rw [this]; simp

theorem both_ok {n m : Nat} {S T : Nat → ByteArray} (h1 : pathOk n S = true) (h2 : pathOk m T = true) : pathOk (n + m) (catS n S T) = decide (((n : Int) + (m : Int)) ≤ 5) := by
  unfold pathOk
  rw [names_cat, (ok_names h1).1, (ok_names h2).1]
  simp
  omega

set_option maxHeartbeats 4000000 in
theorem walk (a : Option Addr) (len cap : Nat) (zs : Nat → Int) (a' : Option Addr) (len' cap' : Nat) (zs' : Nat → Int) (w : World) (hc : IsCode w a len zs) (hlen : len ≤ maxLen) (hcap : len ≤ cap) (hc' : IsCode w a' len' zs') (hlen' : len' ≤ maxLen) (hcap' : len' ≤ cap') :
    Calls Try.prog 5 #[.slice a len cap, .slice a' len' cap'] w fun e w' => e = .returned (.bool true) ∧ Below w.heap.size w w' := by
  have l1 := hlen
  have l2 := hlen'
  unfold maxLen at l1 l2
  obtain ⟨i0, hi, hz0, hz1, hz2⟩ := info_parts infoStr
  by_cases hbig : (1048576 : Int) < len
  · go_enter Try.func5, Try.ntmps5
    go_wp2
    go_ret
    exact ⟨rfl, Below.refl _ _⟩
  · have hb1 : decide ((1048576 : Int) < len) = false := by simp; omega
    by_cases hbig2 : (1048576 : Int) < len'
    · go_enter Try.func5, Try.ntmps5
      go_wp2
      go_ret
      exact ⟨rfl, Below.refl _ _⟩
    · have hb2 : decide ((1048576 : Int) < len') = false := by simp; omega
      go_enter Try.func5, Try.ntmps5
      go_wp2_with fail
      refine (drawPathOk_any w a len cap zs hc hlen hcap).mono ?_
      rintro e w1 ⟨g, n, c, S, rfl, hD1, hB1⟩
      have hc1 := hc'.below hB1
      go_wp2_with fail
      refine (drawPathOk_any w1 a' len' cap' zs' hc1 hlen' hcap').mono ?_
      rintro e w2 ⟨g', m, c', T, rfl, hE2, hB2'⟩
      have hD2 := hD1.below hB2'
      have HB2 : Hid (Below w.heap.size w w2) := hB1.trans (hB2'.mono hB1.size)
      have n9 := hD2.few
      have m9 := hE2.few
      have ltP := hD2.lt
      have ltQ := hE2.lt
      have rP := hD2.room
      have HP : Hid (Lies w2 g n c S) := hD2.lies
      have HQ : Hid (Lies w2 g' m c' T) := hE2.lies
      clear hD1 hB1 hB2' hc hc' hc1 hD2 hE2
      go_wp2_with fail
      refine (implPathOk_any _ n c S _ HP.out.strs HP.out.small HP.out.len).mono ?_
      rintro e w3 ⟨rfl, hw3⟩
      subst hw3
      go_wp2_with fail
      refine (specPathOk_any _ n c S _ HP.out.strs HP.out.small HP.out.len).mono ?_
      rintro e w4 ⟨rfl, hw4⟩
      subst hw4
      go_wp2_with fail
      refine (specPathOk_any _ n c S _ HP.out.strs HP.out.small HP.out.len).mono ?_
      rintro e w5 ⟨rfl, hw5⟩
      subst hw5
      cases hok : pathOk n S
      · have ht : textOf n S = [] := textOf_not hok
        go_wp2_with fail
        refine (implPathOk_any _ n c S _ HP.out.strs HP.out.small HP.out.len).mono ?_
        rintro e w6 ⟨rfl, hw6⟩
        subst hw6
        rw [hok]
        go_wp2_with fail
        refine (specPathOk_any _ n c S _ HP.out.strs HP.out.small HP.out.len).mono ?_
        rintro e w7 ⟨rfl, hw7⟩
        subst hw7
        rw [hok]
        go_wp2_with fail
        refine (specPathOk_any _ n c S _ HP.out.strs HP.out.small HP.out.len).mono ?_
        rintro e w8 ⟨rfl, hw8⟩
        subst hw8
        rw [hok]
        go_wp2_with fail
        refine (implPathText_any _ n c S _ HP.out.strs HP.out.small HP.out.len rP).mono ?_
        rintro e w9 ⟨rfl, hb9⟩
        have HF : Hid (Below w.heap.size w w9) := HB2.out.trans (hb9.mono HB2.out.size)
        clear hb9 HP HQ
        rw [ht]
        go_wp2
        go_ret
        exact ⟨rfl, HF.out⟩
      · have HPw5 : Hid (Lies w5 g n c S) := HP
        have HQw5 : Hid (Lies w5 g' m c' T) := HQ
        have HFw5 : Hid (Below w.heap.size w w5) := HB2
        clear HP HQ HB2
        have hO := owns_empty w5
        have hBe : Below w5.heap.size w5 (w5.alloc (.cells #[] 9)) := (Below.refl _ _).alloc (Nat.le_refl _) _
        have hPc : Hid (∀ j u, (strv (lst n S))[j]? = some u → (w5.alloc (.cells #[] 9)).cell? ((⟨g, 0, none⟩ : Addr).add j) = some u) := lst_cells (fun i hi => (hBe.cell (p := ⟨g, 0 + i, none⟩) HPw5.out.lt).trans (HPw5.out.cell i hi))
        go_wp2_with (at_builtin; refine wpList_append_own _ rfl (.tmp 44) (.tmp 45) 23 rfl w5.heap.size 9 i0 (.string ByteArray.empty) 1 16 Try.underlying23 hi hz0 hz1 hz2 rfl (by decide) _ _ _ rfl hO.1 ⟨g, 0, none⟩ n c (strv (lst n S)) rfl (strv_lst n S) hPc.out (strv_one _) ?p3A ?p4A ?p5A ?_)
        case p3A => unfold maxLen; first | omega | (simp; omega)
        case p4A => first | omega | (simp; omega)
        case p5A => simp
        intro xA yA hown hgrow hnil
        obtain ⟨hO3, hB3, hs3⟩ := own_append hBe (by simp) hO (by rw [lst_length]; simp) hown hgrow hnil
        have HB3 : Hid (Below w5.heap.size w5 yA) := hB3
        clear hown hgrow hnil hO hBe hPc
        simp only [List.nil_append] at hO3
        have hLn : (lst n S).length = n := lst_length n S
        have hQc : Hid (∀ j u, (strv (lst m T))[j]? = some u → yA.cell? ((⟨g', 0, none⟩ : Addr).add j) = some u) := lst_cells (fun i hi => (hB3.cell (p := ⟨g', 0 + i, none⟩) HQw5.out.lt).trans (HQw5.out.cell i hi))
        clear hB3
        go_wp2_with (at_builtin; refine wpList_append_own _ rfl (.tmp 46) (.tmp 47) 23 rfl w5.heap.size 9 i0 (.string ByteArray.empty) 1 16 Try.underlying23 hi hz0 hz1 hz2 rfl (by decide) _ _ _ rfl hO3.1 ⟨g', 0, none⟩ m c' (strv (lst m T)) rfl (strv_lst m T) hQc.out (strv_one _) ?q3A ?q4A ?q5A ?_)
        case q3A => unfold maxLen; first | omega | (simp; omega)
        case q4A => first | omega | (simp; omega)
        case q5A => first | omega | (simp; omega)
        intro vA uA hown hgrow hnil
        obtain ⟨hO4, hB4, hs4⟩ := own_append HB3.out hs3 hO3 (by rw [lst_length, lst_length]) hown hgrow (fun e => hO3.2 (hnil.1 e).1)
        have h5 : ∀ i, i < n + m → (catS n S T i).size ≤ 5 := fun i hi => by
          unfold catS
          by_cases hin : i < n
          · rw [if_pos hin]; exact HPw5.out.short i hin
          · rw [if_neg hin]; exact HQw5.out.short (i - n) (by omega)
        obtain ⟨gA, cA, rfl, _, hLA⟩ := hO4.lies (n + m) (catS n S T) (by rw [List.length_append, lst_length, lst_length]) (cat_getD n m S T) (by omega) h5
        have HBA : Hid (Below w5.heap.size w5 uA) := hB4
        have HLA : Hid (Lies uA gA (n + m) cA (catS n S T)) := hLA
        have HPuA : Hid (Lies uA g n c S) := HPw5.out.below hB4
        have HQuA : Hid (Lies uA g' m c' T) := HQw5.out.below hB4
        have HFuA : Hid (Below w.heap.size w uA) := HFw5.out.trans (hB4.mono HFw5.out.size)
        clear hO4 hB4 hown hgrow hnil hO3 HB3 h5 hs3 hs4 hLA
        have hO := owns_empty uA
        have hBe : Below uA.heap.size uA (uA.alloc (.cells #[] 9)) := (Below.refl _ _).alloc (Nat.le_refl _) _
        have hPc : Hid (∀ j u, (strv (lst n S))[j]? = some u → (uA.alloc (.cells #[] 9)).cell? ((⟨g, 0, none⟩ : Addr).add j) = some u) := lst_cells (fun i hi => (hBe.cell (p := ⟨g, 0 + i, none⟩) HPuA.out.lt).trans (HPuA.out.cell i hi))
        go_wp2_with (at_builtin; refine wpList_append_own _ rfl (.tmp 49) (.tmp 50) 23 rfl uA.heap.size 9 i0 (.string ByteArray.empty) 1 16 Try.underlying23 hi hz0 hz1 hz2 rfl (by decide) _ _ _ rfl hO.1 ⟨g, 0, none⟩ n c (strv (lst n S)) rfl (strv_lst n S) hPc.out (strv_one _) ?p3B ?p4B ?p5B ?_)
        case p3B => unfold maxLen; first | omega | (simp; omega)
        case p4B => first | omega | (simp; omega)
        case p5B => simp
        intro xB yB hown hgrow hnil
        obtain ⟨hO3, hB3, hs3⟩ := own_append hBe (by simp) hO (by rw [lst_length]; simp) hown hgrow hnil
        have HB3 : Hid (Below uA.heap.size uA yB) := hB3
        clear hown hgrow hnil hO hBe hPc
        simp only [List.nil_append] at hO3
        have hLn : (lst n S).length = n := lst_length n S
        clear hB3
        go_wp2_with (at_builtin; refine wpList_append_own _ rfl (.tmp 51) (.tmp 52) 23 rfl uA.heap.size 9 i0 (.string ByteArray.empty) 1 16 Try.underlying23 hi hz0 hz1 hz2 rfl (by decide) _ _ _ rfl (hO3.alloc _).1 ⟨yB.heap.size, 0, none⟩ 1 1 (strv [(⟨#[]⟩ : ByteArray)]) rfl rfl (strv_cells yB [(⟨#[]⟩ : ByteArray)]) (strv_one _) ?q3B ?q4B ?q5B ?_)
        case q3B => unfold maxLen; first | omega | (simp; omega)
        case q4B => first | omega | (simp; omega)
        case q5B => first | omega | (simp; omega)
        intro vB uB hown hgrow hnil
        obtain ⟨hO4, hB4, hs4⟩ := own_append (HB3.out.alloc hs3 _) (by simp; omega) (hO3.alloc _) (by rw [lst_length]; rfl) hown hgrow hnil
        have h5 : ∀ i, i < n + 1 → (catS n S (fun _ => (⟨#[]⟩ : ByteArray)) i).size ≤ 5 := fun i hi => by
          unfold catS
          by_cases hin : i < n
          · rw [if_pos hin]; exact HPuA.out.short i hin
          · rw [if_neg hin]; show (⟨#[]⟩ : ByteArray).size ≤ 5; decide
        obtain ⟨gB, cB, rfl, _, hLB⟩ := hO4.lies (n + 1) (catS n S (fun _ => (⟨#[]⟩ : ByteArray))) (by rw [List.length_append, lst_length]; rfl) (cat_getD n 1 S (fun _ => (⟨#[]⟩ : ByteArray))) (by omega) h5
        have HBB : Hid (Below uA.heap.size uA uB) := hB4
        have HLB : Hid (Lies uB gB (n + 1) cB (catS n S (fun _ => (⟨#[]⟩ : ByteArray)))) := hLB
        have HPuB : Hid (Lies uB g n c S) := HPuA.out.below hB4
        have HQuB : Hid (Lies uB g' m c' T) := HQuA.out.below hB4
        have HFuB : Hid (Below w.heap.size w uB) := HFuA.out.trans (hB4.mono HFuA.out.size)
        clear hO4 hB4 hown hgrow hnil hO3 HB3 h5 hs3 hs4 hLB
        have HLA2 : Hid (Lies uB gA (n + m) cA (catS n S T)) := HLA.out.below HBB.out
        go_wp2_with fail
        refine (implPathOk_any _ (n + 1) cB _ _ HLB.out.strs HLB.out.small HLB.out.len).mono ?_
        rintro e w6 ⟨rfl, hw6⟩
        have hw6' := hw6.symm
        subst hw6'
        rw [bent_not n S (fun _ => (⟨#[]⟩ : ByteArray)) rfl]
        have hO := owns_empty uB
        have hBe : Below uB.heap.size uB (uB.alloc (.cells #[] 9)) := (Below.refl _ _).alloc (Nat.le_refl _) _
        have hPc : Hid (∀ j u, (strv (lst n S))[j]? = some u → (uB.alloc (.cells #[] 9)).cell? ((⟨g, 0, none⟩ : Addr).add j) = some u) := lst_cells (fun i hi => (hBe.cell (p := ⟨g, 0 + i, none⟩) HPuB.out.lt).trans (HPuB.out.cell i hi))
        go_wp2_with (at_builtin; refine wpList_append_ownW _ rfl (.tmp 57) (.tmp 58) 23 rfl uB.heap.size 9 i0 (.string ByteArray.empty) 1 16 Try.underlying23 hi hz0 hz1 hz2 rfl (by decide) _ _ _ rfl hO.1 ⟨g, 0, none⟩ n c (strv (lst n S)) rfl (strv_lst n S) hPc.out (strv_one _) ?p3C ?p4C ?p5C ?_)
        case p3C => unfold maxLen; first | omega | (simp; omega)
        case p4C => first | omega | (simp; omega)
        case p5C => simp
        intro xC yC hown hgrow hnil
        obtain ⟨hO3, hB3, hs3⟩ := own_append hBe (by simp) hO (by rw [lst_length]; simp) hown hgrow hnil
        have HB3 : Hid (Below uB.heap.size uB yC) := hB3
        clear hown hgrow hnil hO hBe hPc
        simp only [List.nil_append] at hO3
        have hLn : (lst n S).length = n := lst_length n S
        clear hB3
        go_wp2_with (at_builtin; refine wpList_append_ownW _ rfl (.tmp 59) (.tmp 60) 23 rfl uB.heap.size 9 i0 (.string ByteArray.empty) 1 16 Try.underlying23 hi hz0 hz1 hz2 rfl (by decide) _ _ _ rfl (hO3.alloc _).1 ⟨yC.heap.size, 0, none⟩ 1 1 (strv [(⟨#[97, 47, 98]⟩ : ByteArray)]) rfl rfl (strv_cells yC [(⟨#[97, 47, 98]⟩ : ByteArray)]) (strv_one _) ?q3C ?q4C ?q5C ?_)
        case q3C => unfold maxLen; first | omega | (simp; omega)
        case q4C => first | omega | (simp; omega)
        case q5C => first | omega | (simp; omega)
        intro vC uC hown hgrow hnil
        obtain ⟨hO4, hB4, hs4⟩ := own_append (HB3.out.alloc hs3 _) (by simp; omega) (hO3.alloc _) (by rw [lst_length]; rfl) hown hgrow hnil
        have h5 : ∀ i, i < n + 1 → (catS n S (fun _ => (⟨#[97, 47, 98]⟩ : ByteArray)) i).size ≤ 5 := fun i hi => by
          unfold catS
          by_cases hin : i < n
          · rw [if_pos hin]; exact HPuB.out.short i hin
          · rw [if_neg hin]; show (⟨#[97, 47, 98]⟩ : ByteArray).size ≤ 5; decide
        obtain ⟨gC, cC, rfl, _, hLC⟩ := hO4.lies (n + 1) (catS n S (fun _ => (⟨#[97, 47, 98]⟩ : ByteArray))) (by rw [List.length_append, lst_length]; rfl) (cat_getD n 1 S (fun _ => (⟨#[97, 47, 98]⟩ : ByteArray))) (by omega) h5
        have HBC : Hid (Below uB.heap.size uB uC) := hB4
        have HLC : Hid (Lies uC gC (n + 1) cC (catS n S (fun _ => (⟨#[97, 47, 98]⟩ : ByteArray)))) := hLC
        have HPuC : Hid (Lies uC g n c S) := HPuB.out.below hB4
        have HQuC : Hid (Lies uC g' m c' T) := HQuB.out.below hB4
        have HFuC : Hid (Below w.heap.size w uC) := HFuB.out.trans (hB4.mono HFuB.out.size)
        clear hO4 hB4 hown hgrow hnil hO3 HB3 h5 hs3 hs4 hLC
        have HLA3 : Hid (Lies uC gA (n + m) cA (catS n S T)) := HLA2.out.below HBC.out
        go_wp2_with fail
        refine (implPathOk_any _ (n + 1) cC _ _ HLC.out.strs HLC.out.small HLC.out.len).mono ?_
        rintro e w7 ⟨rfl, hw7⟩
        have hw7' := hw7.symm
        subst hw7'
        rw [bent_not n S (fun _ => (⟨#[97, 47, 98]⟩ : ByteArray)) (by decide)]
        go_wp2_with fail
        refine (specPathOk_any _ m c' T _ HQuC.out.strs HQuC.out.small HQuC.out.len).mono ?_
        rintro e w8 ⟨rfl, hw8⟩
        have hw8' := hw8.symm
        subst hw8'
        cases hokq : pathOk m T
        · clear HLA HLA2 HLA3 HLB HLC HPw5 HQw5 HPuA HQuA HPuB HQuB HPuC HQuC HBA HBB HBC
          go_wp2
          go_ret
          exact ⟨rfl, HFuC.out⟩
        · go_wp2_with fail
          refine (implPathOk_any _ (n + m) cA _ _ HLA3.out.strs HLA3.out.small HLA3.out.len).mono ?_
          rintro e w9 ⟨rfl, hw9⟩
          have hw9' := hw9.symm
          subst hw9'
          rw [both_ok hok hokq]
          clear HLA HLA2 HLA3 HLB HLC HPw5 HQw5 HPuA HQuA HPuB HQuB HPuC HQuC HBA HBB HBC
          go_wp2
          go_ret
          exact ⟨by simp, HFuC.out⟩

set_option maxRecDepth 100000 in
theorem lifted (os : Os) (started : os.Started) (H : Type) (enc : TypeId × Value → H) :
    ReturnsInHanded {} Try.checked os 5 .any (Rows.fnPathBentSpec.pre6 enc Try.prog Try.f5 Rows.fnPathBentRow.domain false) (Rows.fnPathBentSpec.post enc Try.prog Try.f5 false true false false) := by
  refine returnsInHanded_of_change (C := Try.checked) own started (by kernel_rfl) Try.func5
    (ChangeSpec.witness6 (enc := enc) (C := Try.checked) false ⟨#[], #[.slice none 0 0, .slice none 0 0], []⟩ 8 (by kernel_rfl) (by kernel_rfl) (by kernel_rfl) (by kernel_rfl)) ?_
  intro W base args ds gs before hval0 hW hcnd _
  have hval : ∀ (j : Nat) t v, Try.f5.params[j]? = some t → args[j]? = some v → Value.okWide Try.prog W .any base t v := hval0
  have hW' := hW
  obtain ⟨p, q, hA0, hV, rfl, hfz, hnd⟩ := hW
  have hA : DataW.TrodAll enc Try.prog W 0 (fun _ => true) true Try.f5.params.toList args.toList ds p := hA0
  rw [Try.params5] at hA hval
  obtain ⟨v0, vs0, d0, ds0, p0, q0, hargs, rfl, rfl, h0, r0⟩ := trodAll_cons hA
  obtain ⟨v1, vs1, d1, ds1, p1, q1, rfl, rfl, rfl, h1, r1⟩ := trodAll_cons r0
  obtain ⟨rfl, rfl, rfl⟩ := trodAll_nil r1
  obtain rfl : args = #[v0, v1] := by cases args; simp_all
  obtain ⟨rfl, rfl⟩ := trodVars_none hV
  obtain ⟨a0, len0, cap0, rfl⟩ := okWide_slice Try.underlying22 (hval 0 22 v0 rfl rfl)
  have k0 := h0
  have lt0 : ∀ x ∈ p0, x.block < W.heap.size := by obtain ⟨m, hm⟩ := k0; exact DataW.trod_lt m _ _ _ hm
  obtain ⟨zs0, hC0, hl0, hp0⟩ := openCode h0
  obtain ⟨a1, len1, cap1, rfl⟩ := okWide_slice Try.underlying22 (hval 1 22 v1 rfl rfl)
  have k1 := h1
  have lt1 : ∀ x ∈ p1, x.block < W.heap.size := by obtain ⟨m, hm⟩ := k1; exact DataW.trod_lt m _ _ _ hm
  obtain ⟨zs1, hC1, hl1, hp1⟩ := openCode h1
  clear hA0 hval0
  refine (walk a0 len0 cap0 zs0 a1 len1 cap1 zs1 W hC0 hl0 hp0 hC1 hl1 hp1).mono fun e W' ⟨he, bel⟩ => ?_
  subst he
  exact ⟨_, rfl, _, _, _, [], _, [], hW', trodAll_mk1 (shut_bool Try.underlying4 _), (trodAll_cons_mk (Below.trod laidOut (by kernel_rfl) (of_decide_eq_true (by kernel_rfl)) k0 bel lt0) (trodAll_cons_mk (Below.trod laidOut (by kernel_rfl) (of_decide_eq_true (by kernel_rfl)) k1 bel lt1) trodAll_mk0)), rfl, bel.frame _, fun h => by cases h⟩

theorem over : Rows.fnPathBentRow.holds Try.pinned (OpenSpec.ofChange Rows.fnPathBentSpec) :=
  OpenClaim.holds_of_wide 5 Try.f5 rfl rfl rfl rfl rfl rfl rfl ⟨rfl, rfl, rfl, rfl, rfl⟩ rfl rfl rfl rfl rfl (by kernel_rfl) Try.func5 (by kernel_rfl)
    (of_decide_eq_true (by kernel_rfl)) (by unfold Func.isWrapper; first | (rw [if_pos (by decide +kernel)]; kernel_rfl) | (rw [if_neg (by decide +kernel)]; exact ⟨rfl, rfl⟩))
    (fun os started H enc _ => lifted os started H enc)
end Go.Proofs.Ytgijhkcnbmcenaa.fnPathBent

namespace Go.Proofs.Ytgijhkcnbmcenaa
theorem fnPathBent_holds : Rows.FnPathBentSaid := fnPathBent.over
end Go.Proofs.Ytgijhkcnbmcenaa
