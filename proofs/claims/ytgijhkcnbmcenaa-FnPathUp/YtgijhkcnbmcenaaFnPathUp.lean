/-
  For every code, FnPathUp answers true: a drawn way that is not the root's is within the way of all its names but the last, and within no way that has another name there; and the code reads afterwards as it read before. No condition.
-/
import Derived.Test.YtgijhkcnbmcenaaOpenCode
import Derived.Test.YtgijhkcnbmcenaaCat1
namespace Go.Proofs.Ytgijhkcnbmcenaa.fnPathUp
open Go.ChangeShapes Go.WideShapes Go.ChangeAt Go.RowKit
set_option linter.unusedVariables false

def zz : ByteArray := ⟨#[122, 122, 122, 122]⟩

theorem in_up (k : Nat) (S : Nat → ByteArray) : pathIn (k + 1) k S S = true := by
  unfold pathIn; rw [eqS_self k S S (fun _ _ => rfl)]; simp
theorem not_up (k : Nat) (S : Nat → ByteArray) : pathIn k (k + 1) S S = false := by
  unfold pathIn; simp; omega
theorem in_other (k : Nat) (S : Nat → ByteArray) : pathIn (k + 1) (k + 1) S (catS k S (fun _ => zz)) = ((S k).toList == zz.toList) := by
  unfold pathIn eqS
  rw [List.range_succ, List.all_append]
  have h1 : ((List.range k).all fun i => (S i).toList == (catS k S (fun _ => zz) i).toList) = true := by
    rw [List.all_eq_true]
    intro i hi
    unfold catS
    rw [if_pos (by simpa using hi)]
    simp
  have h2 : catS k S (fun _ => zz) k = zz := by unfold catS; rw [if_neg (by omega)]
  rw [h1]
  simp [h2]

theorem ok_up {k : Nat} {S : Nat → ByteArray} (h : pathOk (k + 1) S = true) : pathOk k S = true := by
  obtain ⟨h1, h2⟩ := ok_names h
  unfold pathOk
  rw [show namesOk k S = true from by
    unfold namesOk at *
    rw [List.range_succ, List.all_append, Bool.and_eq_true] at h1
    exact h1.1]
  simp; omega

theorem text_up {k : Nat} {S : Nat → ByteArray} (h : pathOk (k + 1) S = true) : textOf (k + 1) S = (if k = 0 then [] else textOf k S) ++ 47 :: (S k).data.toList := by
  rw [textOf_way h (by omega), joinTo_succ]
  split
  · rename_i h0; subst h0; rfl
  · rename_i h0; rw [textOf_way (ok_up h) h0]

set_option maxHeartbeats 4000000 in
theorem walk (a : Option Addr) (len cap : Nat) (zs : Nat → Int) (w : World) (hc : IsCode w a len zs) (hlen : len ≤ maxLen) (hcap : len ≤ cap) :
    Calls Try.prog 8 #[.slice a len cap] w fun e w' => e = .returned (.bool true) ∧ Below w.heap.size w w' := by
  have l1 := hlen
  unfold maxLen at l1
  obtain ⟨i0, hi, hz0, hz1, hz2⟩ := info_parts infoStr
  by_cases hbig : (1048576 : Int) < len
  · go_enter Try.func8, Try.ntmps8
    go_wp2
    go_ret
    exact ⟨rfl, Below.refl _ _⟩
  · have hb1 : decide ((1048576 : Int) < len) = false := by simp; omega
    go_enter Try.func8, Try.ntmps8
    go_wp2_with fail
    refine (drawPathOk_any w a len cap zs hc hlen hcap).mono ?_
    rintro e w1 ⟨g, n, c, S, rfl, hD1, hB1⟩
    have HB : Hid (Below w.heap.size w w1) := hB1
    have n9 := hD1.few
    have rP := hD1.room
    have mP := hD1.most
    have HP : Hid (Lies w1 g n c S) := hD1.lies
    clear hD1 hB1 hc
    go_wp2_with fail
    refine (implPathOk_any _ n c S _ HP.out.strs HP.out.small HP.out.len).mono ?_
    rintro e w3 ⟨rfl, hw3⟩
    have hw3' := hw3.symm
    subst hw3'
    go_wp2_with fail
    refine (specPathOk_any _ n c S _ HP.out.strs HP.out.small HP.out.len).mono ?_
    rintro e w3 ⟨rfl, hw3⟩
    have hw3' := hw3.symm
    subst hw3'
    go_wp2_with fail
    refine (specPathOk_any _ n c S _ HP.out.strs HP.out.small HP.out.len).mono ?_
    rintro e w3 ⟨rfl, hw3⟩
    have hw3' := hw3.symm
    subst hw3'
    by_cases hgo : pathOk n S = true ∧ n ≠ 0
    · obtain ⟨hok, hn0⟩ := hgo
      obtain ⟨k, rfl⟩ : ∃ k, n = k + 1 := ⟨n - 1, by omega⟩
      have h5 : k + 1 ≤ 5 := (ok_names hok).2
      have hnb : (((k + 1 : Nat) : Int) == 0) = false := by simp; omega
      have mP' := mP
      unfold maxLen at mP'
      rw [hok]
      have HOK : Hid (pathOk (k + 1) S = true) := hok
      clear hok hn0
      have hO := owns_empty w1
      have hBe : Below w1.heap.size w1 (w1.alloc (.cells #[] 9)) := (Below.refl _ _).alloc (Nat.le_refl _) _
      have hPc : Hid (∀ j u, (strv (lst k S))[j]? = some u → (w1.alloc (.cells #[] 9)).cell? ((⟨g, 0, none⟩ : Addr).add j) = some u) := lst_cells (fun i hi => (hBe.cell (p := ⟨g, 0 + i, none⟩) HP.out.lt).trans (HP.out.cell i (by omega)))
      go_wp2_with (at_builtin; refine wpList_append_own _ rfl (.tmp 38) (.tmp 39) 23 rfl w1.heap.size 9 i0 (.string ByteArray.empty) 1 16 Try.underlying23 hi hz0 hz1 hz2 rfl (by decide) _ _ _ rfl hO.1 ⟨g, 0, none⟩ k c (strv (lst k S)) rfl (strv_lst k S) hPc.out (strv_one _) ?p3 ?p4 ?p5 ?_)
      case p3 => unfold maxLen; first | omega | (simp; omega)
      case p4 => first | omega | (simp; omega)
      case p5 => simp
      intro x2 w2 hown hgrow hnil
      obtain ⟨hO3, hB3, hs3⟩ := own_append hBe (by simp) hO (by rw [lst_length]; simp) hown hgrow hnil
      have HB3 : Hid (Below w1.heap.size w1 w2) := hB3
      clear hown hgrow hnil hO hBe hPc hB3
      simp only [List.nil_append] at hO3
      have hLn : (lst k S).length = k := lst_length k S
      go_wp2_with (at_builtin; refine wpList_append_own _ rfl (.tmp 40) (.tmp 41) 23 rfl w1.heap.size 9 i0 (.string ByteArray.empty) 1 16 Try.underlying23 hi hz0 hz1 hz2 rfl (by decide) _ _ _ rfl (hO3.alloc _).1 ⟨w2.heap.size, 0, none⟩ 1 1 (strv [zz]) rfl rfl (strv_cells w2 [zz]) (strv_one _) ?q3 ?q4 ?q5 ?_)
      case q3 => unfold maxLen; first | omega | (simp; omega)
      case q4 => first | omega | (simp; omega)
      case q5 => first | omega | (simp; omega)
      intro v3 w3 hown hgrow hnil
      obtain ⟨hO4, hB4, hs4⟩ := own_append (HB3.out.alloc hs3 _) (by simp; omega) (hO3.alloc _) (by rw [lst_length]; rfl) hown hgrow hnil
      have hsh : ∀ i, i < k + 1 → (catS k S (fun _ => zz) i).size ≤ 5 := fun i hi => by
        unfold catS
        by_cases hin : i < k
        · rw [if_pos hin]; exact HP.out.short i (by omega)
        · rw [if_neg hin]; show zz.size ≤ 5; decide
      obtain ⟨g3, c3, rfl, _, hL3⟩ := hO4.lies (k + 1) (catS k S (fun _ => zz)) (by rw [List.length_append, lst_length]; rfl) (cat_getD k 1 S (fun _ => zz)) (by omega) hsh
      have hP3 := HP.out.below hB4
      have B3 : Below w.heap.size w w3 := HB.out.trans (hB4.mono HB.out.size)
      clear hO4 hB4 hown hgrow hnil hO3 HB3 hs3 hs4 HP HB hsh
      go_wp2_with fail
      refine (implPathText_any _ (k + 1) c S _ hP3.strs hP3.small hP3.len rP).mono ?_
      rintro e w4 ⟨rfl, hb4⟩
      have hP4 := hP3.below hb4
      have hL4 := hL3.below hb4
      have B4 : Below w.heap.size w w4 := B3.trans (hb4.mono B3.size)
      clear hP3 hL3 B3 hb4
      go_wp2_with fail
      refine (implPathText_any _ k c S _ (hP4.strs.head (by omega)) (fun i hi => hP4.small i (by omega)) (by unfold maxLen; omega) (by omega)).mono ?_
      rintro e w5 ⟨rfl, hb5⟩
      have hP5 := hP4.below hb5
      have hL5 := hL4.below hb5
      have B5 : Below w.heap.size w w5 := B4.trans (hb5.mono B4.size)
      clear hP4 hL4 B4 hb5
      have lk : k ≤ maxLen := by unfold maxLen; omega
      have H0 : Hid (∀ q, Calls Try.prog 13 #[.slice (some ⟨g, 0, none⟩) k c] (w5.drewN q) fun e w' => e = .returned (.bool true) ∧ w' = w5.drewN q) := fun q => by
        have h := implPathOk_any (some ⟨g, 0, none⟩) k c S (w5.drewN q) ((hP5.drewN q).strs.head (by omega)) (fun i hi => hP5.small i (by omega)) lk
        rw [ok_up HOK.out] at h
        exact h
      have H1 : Hid (∀ q, Calls Try.prog 21 #[.slice (some ⟨g, 0, none⟩) (k + 1) c, .slice (some ⟨g, 0, none⟩) k c] (w5.drewN q) fun e w' => e = .returned (.bool true) ∧ ∃ m, w' = (w5.drewN q).drewN m) := fun q => by
        have h := implPathIn_any (some ⟨g, 0, none⟩) (some ⟨g, 0, none⟩) (k + 1) c k c S S (w5.drewN q) (hP5.drewN q).strs ((hP5.drewN q).strs.head (by omega)) hP5.len lk rP mP
        rw [in_up] at h
        exact h.mono fun e w' ⟨hq, he⟩ => ⟨he, hq⟩
      have H2 : Hid (∀ q, Calls Try.prog 21 #[.slice (some ⟨g, 0, none⟩) k c, .slice (some ⟨g, 0, none⟩) (k + 1) c] (w5.drewN q) fun e w' => e = .returned (.bool false) ∧ ∃ m, w' = (w5.drewN q).drewN m) := fun q => by
        have h := implPathIn_any (some ⟨g, 0, none⟩) (some ⟨g, 0, none⟩) k c (k + 1) c S S (w5.drewN q) ((hP5.drewN q).strs.head (by omega)) (hP5.drewN q).strs lk hP5.len (by omega) mP
        rw [not_up] at h
        exact h.mono fun e w' ⟨hq, he⟩ => ⟨he, hq⟩
      have H3 : Hid (∀ q, Calls Try.prog 21 #[.slice (some ⟨g, 0, none⟩) (k + 1) c, .slice (some ⟨g3, 0, none⟩) (k + 1) c3] (w5.drewN q) fun e w' => e = .returned (.bool ((S k).toList == zz.toList)) ∧ ∃ m, w' = (w5.drewN q).drewN m) := fun q => by
        have h := implPathIn_any (some ⟨g, 0, none⟩) (some ⟨g3, 0, none⟩) (k + 1) c (k + 1) c3 S (catS k S (fun _ => zz)) (w5.drewN q) (hP5.drewN q).strs (hL5.drewN q).strs hP5.len hL5.len rP mP
        rw [in_other] at h
        exact h.mono fun e w' ⟨hq, he⟩ => ⟨he, hq⟩
      have hck : w5.cell? ⟨g, k, none⟩ = some (.string (S k)) := by have := hP5.cell k (by omega); rwa [Nat.zero_add] at this
      have hsk : (S k).size ≤ 5 := hP5.short k (by omega)
      have lt1 : (textOf k S).length ≤ 25 := text_len
      have HX := text_up HOK.out
      have HX2 : Hid (textOf (k + 1) S = (if k = 0 then [] else textOf k S) ++ 47 :: (S k).data.toList) := HX
      have HB5 : Hid (Below w.heap.size w w5) := B5
      clear HX hP5 hL5 B5 HOK
      have hzl : zz.toList = [122, 122, 122, 122] := by rw [ByteArray.toList_eq]; rfl
      rw [hzl] at H3
      generalize hs1 : textOf (k + 1) S = s1 at HX2 ⊢
      clear hs1 hzl
      by_cases hk0 : k = 0
      · have hkb : ((k : Int) == 0) = true := by simp; omega
        have hcat : ((⟨#[]⟩ : ByteArray) ++ ⟨#[47]⟩ ++ S k).toList = s1 := by
          rw [HX2.out, if_pos hk0, ByteArray.toList_eq]
          simp [ByteArray.data_append]
        have HK : Hid (k = 0) := hk0
        clear hk0
        cases hz : ((S k).toList == [122, 122, 122, 122])
        · rw [hz] at H3
          go_wp2
          refine wp_region_quiet_lit (by kernel_rfl) (by kernel_rfl) ?_
          repeat (go_big_quiet_step (fail))
          go_big_quiet_step (exact Calls.quiet_of_same (H0.out _))
          repeat (go_big_quiet_step (fail))
          go_big_quiet_step (exact Calls.quiet_of (H1.out _))
          repeat (go_big_quiet_step (fail))
          go_big_quiet_step (exact Calls.quiet_of (H2.out _))
          repeat (go_big_quiet_step (fail))
          go_big_quiet_step (exact Calls.quiet_of (H3.out _))
          repeat (go_big_quiet_step (fail))
          refine wpQuiet_nil ?_
          intro _ hw'
          obtain ⟨nq, hw2⟩ := hw'
          subst hw2
          have HF : Hid (Below w.heap.size w (w5.drewN nq)) := below_drewN HB5.out nq
          clear H0 H1 H2 H3
          go_wp2
          go_ret
          exact ⟨rfl, HF.out⟩
        · rw [hz] at H3
          go_wp2
          refine wp_region_quiet_lit (by kernel_rfl) (by kernel_rfl) ?_
          repeat (go_big_quiet_step (fail))
          go_big_quiet_step (exact Calls.quiet_of_same (H0.out _))
          repeat (go_big_quiet_step (fail))
          go_big_quiet_step (exact Calls.quiet_of (H1.out _))
          repeat (go_big_quiet_step (fail))
          go_big_quiet_step (exact Calls.quiet_of (H2.out _))
          repeat (go_big_quiet_step (fail))
          go_big_quiet_step (exact Calls.quiet_of (H3.out _))
          repeat (go_big_quiet_step (fail))
          refine wpQuiet_nil ?_
          intro _ hw'
          obtain ⟨nq, hw2⟩ := hw'
          subst hw2
          have HF : Hid (Below w.heap.size w (w5.drewN nq)) := below_drewN HB5.out nq
          clear H0 H1 H2 H3
          go_wp2
          go_ret
          exact ⟨rfl, HF.out⟩
      · have hkb : ((k : Int) == 0) = false := by simp; omega
        have hcat : ((⟨(textOf k S).toArray⟩ : ByteArray) ++ ⟨#[47]⟩ ++ S k).toList = s1 := by
          rw [HX2.out, if_neg hk0, ByteArray.toList_eq]
          simp [ByteArray.data_append]
        cases hz : ((S k).toList == [122, 122, 122, 122])
        · rw [hz] at H3
          go_wp2
          refine wp_region_quiet_lit (by kernel_rfl) (by kernel_rfl) ?_
          repeat (go_big_quiet_step (fail))
          go_big_quiet_step (exact Calls.quiet_of_same (H0.out _))
          repeat (go_big_quiet_step (fail))
          go_big_quiet_step (exact Calls.quiet_of (H1.out _))
          repeat (go_big_quiet_step (fail))
          go_big_quiet_step (exact Calls.quiet_of (H2.out _))
          repeat (go_big_quiet_step (fail))
          go_big_quiet_step (exact Calls.quiet_of (H3.out _))
          repeat (go_big_quiet_step (fail))
          refine wpQuiet_nil ?_
          intro _ hw'
          obtain ⟨nq, hw2⟩ := hw'
          subst hw2
          have HF : Hid (Below w.heap.size w (w5.drewN nq)) := below_drewN HB5.out nq
          clear H0 H1 H2 H3
          go_wp2
          go_ret
          exact ⟨rfl, HF.out⟩
        · rw [hz] at H3
          go_wp2
          refine wp_region_quiet_lit (by kernel_rfl) (by kernel_rfl) ?_
          repeat (go_big_quiet_step (fail))
          go_big_quiet_step (exact Calls.quiet_of_same (H0.out _))
          repeat (go_big_quiet_step (fail))
          go_big_quiet_step (exact Calls.quiet_of (H1.out _))
          repeat (go_big_quiet_step (fail))
          go_big_quiet_step (exact Calls.quiet_of (H2.out _))
          repeat (go_big_quiet_step (fail))
          go_big_quiet_step (exact Calls.quiet_of (H3.out _))
          repeat (go_big_quiet_step (fail))
          refine wpQuiet_nil ?_
          intro _ hw'
          obtain ⟨nq, hw2⟩ := hw'
          subst hw2
          have HF : Hid (Below w.heap.size w (w5.drewN nq)) := below_drewN HB5.out nq
          clear H0 H1 H2 H3
          go_wp2
          go_ret
          exact ⟨rfl, HF.out⟩
    · have HN : Hid (¬ (pathOk n S = true ∧ n ≠ 0)) := hgo
      clear hgo
      cases hok : pathOk n S
      · go_wp2_with fail
        refine (implPathOk_any _ n c S _ HP.out.strs HP.out.small HP.out.len).mono ?_
        rintro e w3 ⟨rfl, hw3⟩
        have hw3' := hw3.symm
        subst hw3'
        rw [hok]
        go_wp2_with fail
        refine (specPathOk_any _ n c S _ HP.out.strs HP.out.small HP.out.len).mono ?_
        rintro e w3 ⟨rfl, hw3⟩
        have hw3' := hw3.symm
        subst hw3'
        rw [hok]
        clear HP
        go_wp2
        go_ret
        exact ⟨rfl, HB.out⟩
      · have hn0 : n = 0 := Classical.byContradiction fun h => HN.out ⟨hok, h⟩
        have hnb : ((n : Int) == 0) = true := by simp; omega
        have HN0 : Hid (n = 0) := hn0
        clear hn0
        go_wp2_with fail
        refine (implPathOk_any _ n c S _ HP.out.strs HP.out.small HP.out.len).mono ?_
        rintro e w3 ⟨rfl, hw3⟩
        have hw3' := hw3.symm
        subst hw3'
        rw [hok]
        go_wp2_with fail
        refine (specPathOk_any _ n c S _ HP.out.strs HP.out.small HP.out.len).mono ?_
        rintro e w3 ⟨rfl, hw3⟩
        have hw3' := hw3.symm
        subst hw3'
        rw [hok]
        clear HP
        go_wp2
        go_ret
        exact ⟨rfl, HB.out⟩

set_option maxRecDepth 100000 in
theorem lifted (os : Os) (started : os.Started) (H : Type) (enc : TypeId × Value → H) :
    ReturnsInHanded {} Try.checked os 8 .any (Rows.fnPathUpSpec.pre6 enc Try.prog Try.f8 Rows.fnPathUpRow.domain false) (Rows.fnPathUpSpec.post enc Try.prog Try.f8 false true false false) := by
  refine returnsInHanded_of_change (C := Try.checked) own started (by kernel_rfl) Try.func8
    (ChangeSpec.witness6 (enc := enc) (C := Try.checked) false ⟨#[], #[.slice none 0 0], []⟩ 8 (by kernel_rfl) (by kernel_rfl) (by kernel_rfl) (by kernel_rfl)) ?_
  intro W base args ds gs before hval0 hW hcnd _
  have hval : ∀ (j : Nat) t v, Try.f8.params[j]? = some t → args[j]? = some v → Value.okWide Try.prog W .any base t v := hval0
  have hW' := hW
  obtain ⟨p, q, hA0, hV, rfl, hfz, hnd⟩ := hW
  have hA : DataW.TrodAll enc Try.prog W 0 (fun _ => true) true Try.f8.params.toList args.toList ds p := hA0
  rw [Try.params8] at hA hval
  obtain ⟨v0, vs0, d0, ds0, p0, q0, hargs, rfl, rfl, h0, r0⟩ := trodAll_cons hA
  obtain ⟨rfl, rfl, rfl⟩ := trodAll_nil r0
  obtain rfl : args = #[v0] := by cases args; simp_all
  obtain ⟨rfl, rfl⟩ := trodVars_none hV
  obtain ⟨a0, len0, cap0, rfl⟩ := okWide_slice Try.underlying22 (hval 0 22 v0 rfl rfl)
  have k0 := h0
  have lt0 : ∀ x ∈ p0, x.block < W.heap.size := by obtain ⟨m, hm⟩ := k0; exact DataW.trod_lt m _ _ _ hm
  obtain ⟨zs0, hC0, hl0, hp0⟩ := openCode h0
  clear hA0 hval0
  refine (walk a0 len0 cap0 zs0 W hC0 hl0 hp0).mono fun e W' ⟨he, bel⟩ => ?_
  subst he
  exact ⟨_, rfl, _, _, _, [], _, [], hW', trodAll_mk1 (shut_bool Try.underlying4 _), (trodAll_cons_mk (Below.trod laidOut (by kernel_rfl) (of_decide_eq_true (by kernel_rfl)) k0 bel lt0) trodAll_mk0), rfl, bel.frame _, fun h => by cases h⟩

theorem over : Rows.fnPathUpRow.holds Try.pinned (OpenSpec.ofChange Rows.fnPathUpSpec) :=
  OpenClaim.holds_of_wide 8 Try.f8 rfl rfl rfl rfl rfl rfl rfl ⟨rfl, rfl, rfl, rfl, rfl⟩ rfl rfl rfl rfl rfl (by kernel_rfl) Try.func8 (by kernel_rfl)
    (of_decide_eq_true (by kernel_rfl)) (by unfold Func.isWrapper; first | (rw [if_pos (by decide +kernel)]; kernel_rfl) | (rw [if_neg (by decide +kernel)]; exact ⟨rfl, rfl⟩))
    (fun os started H enc _ => lifted os started H enc)
end Go.Proofs.Ytgijhkcnbmcenaa.fnPathUp

namespace Go.Proofs.Ytgijhkcnbmcenaa
theorem fnPathUp_holds : Rows.FnPathUpSaid := fnPathUp.over
end Go.Proofs.Ytgijhkcnbmcenaa
