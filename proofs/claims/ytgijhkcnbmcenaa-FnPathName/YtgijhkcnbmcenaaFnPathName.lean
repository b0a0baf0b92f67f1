/-
  For every code, FnPathName answers true: a drawn text is a name just if it, alone, is a way, and its text is read as that; and the code reads afterwards as it read before. No condition.
-/
import Derived.Test.YtgijhkcnbmcenaaOpenCode
import Derived.Test.YtgijhkcnbmcenaaReadAny
import Derived.Test.YtgijhkcnbmcenaaDrawName
namespace Go.Proofs.Ytgijhkcnbmcenaa.fnPathName
open Go.ChangeShapes Go.WideShapes Go.ChangeAt Go.RowKit
set_option linter.unusedVariables false

theorem one_ok (s : ByteArray) : pathOk 1 (fun _ => s) = nameOk s.data.toList := by
  unfold pathOk namesOk; simp [List.range_succ]

theorem long_not (s : ByteArray) (t : List UInt8) (h : 4 < s.size + t.length) : nameOk ((s ++ ⟨t.toArray⟩ : ByteArray)).data.toList = false := by
  unfold nameOk
  simp [ByteArray.data_append]
  intro _ _
  have : s.data.size = s.size := rfl
  omega

theorem slash_not_name (s : ByteArray) : nameOk ((s ++ ⟨#[47]⟩ : ByteArray)).data.toList = false := by
  unfold nameOk
  simp [ByteArray.data_append, letter]

theorem add_bytes (s : ByteArray) : bytes ((⟨#[47]⟩ : ByteArray) ++ s) = 47 :: s.data.toList := by
  unfold bytes; simp [ByteArray.data_append]

set_option maxHeartbeats 4000000 in
theorem walk (a : Option Addr) (len cap : Nat) (zs : Nat → Int) (w : World) (hc : IsCode w a len zs) (hlen : len ≤ maxLen) (hcap : len ≤ cap) :
    Calls Try.prog 7 #[.slice a len cap] w fun e w' => e = .returned (.bool true) ∧ Below w.heap.size w w' := by
  have l1 := hlen
  unfold maxLen at l1
  by_cases hbig : (1048576 : Int) < len
  · go_enter Try.func7, Try.ntmps7
    go_wp2
    go_ret
    exact ⟨rfl, Below.refl _ _⟩
  · have hb1 : decide ((1048576 : Int) < len) = false := by simp; omega
    go_enter Try.func7, Try.ntmps7
    go_wp2_with fail
    refine (drawNameOk_any w a len cap zs hc hlen hcap).mono ?_
    rintro e w1 ⟨s, rfl, hs5, hB1⟩
    have hsm : s.size ≤ maxLen := by unfold maxLen; omega
    clear hc
    go_wp2_with fail
    refine (implNameOk_any s _ hsm).mono ?_
    rintro e w2 ⟨rfl, hw2⟩
    have hw2' := hw2.symm
    subst hw2'
    go_wp2_with fail
    refine (specNameOk_any s _ hsm).mono ?_
    rintro e w2 ⟨rfl, hw2⟩
    have hw2' := hw2.symm
    subst hw2'
    have h1 : IsStrs (w1.alloc (.cells #[.string s] 9)) (some ⟨w1.heap.size, 0, none⟩) 1 (fun _ => s) := Or.inr ⟨w1.heap.size, 0, rfl, by simp, fun i hi => by
      have := new_strs w1 [s] i hi
      have hi0 : i = 0 := by omega
      subst hi0
      exact this⟩
    go_wp2_with fail
    refine (implPathOk_any _ 1 1 (fun _ => s) _ h1 (fun _ _ => hsm) (by unfold maxLen; omega)).mono ?_
    rintro e w2 ⟨rfl, hw2⟩
    have hw2' := hw2.symm
    subst hw2'
    rw [one_ok]
    have B2 : Below w.heap.size w (w1.alloc (.cells #[.string s] 9)) := hB1.alloc hB1.size _
    generalize w1.alloc (.cells #[.string s] 9) = w2 at B2 ⊢
    clear h1 hB1
    go_wp2_with fail
    refine (implRead_any _ _ (by rw [ByteArray.size_append]; show 1 + s.size ≤ 1048576; omega)).mono ?_
    rintro e w3 ⟨a3, n3, c3, S3, H3, _⟩
    rw [add_bytes] at H3
    obtain rfl := H3.ret
    have HB3 : Hid (Below w.heap.size w w3) := B2.trans (H3.below.mono B2.size)
    have n5 := H3.few
    cases hok : nameOk s.data.toList
    · have hn1 : ((n3 : Int) != 1) = true := by have := read_not_name hok; rw [← H3.len] at this; simp; omega
      generalize (readOf (47 :: s.data.toList)).isSome = fine
      clear H3 B2
      cases fine
      · go_wp2
        go_ret
        exact ⟨rfl, HB3.out⟩
      · go_wp2
        go_ret
        exact ⟨rfl, HB3.out⟩
    · have hrd := read_name hok
      rw [hrd] at H3 ⊢
      have hn3 : n3 = 1 := H3.len
      subst hn3
      obtain ⟨b, off, rfl, hlt, hcell⟩ := H3.strs.at (show 0 < 1 by omega)
      have hc0 := hcell 0 (by omega)
      rw [Nat.add_zero] at hc0
      have hS0 : S3 0 = s := by
        have := H3.txt 0 (by omega)
        change (S3 0).data.toList = s.data.toList at this
        exact ByteArray.ext (Array.toList_inj.1 this)
      rw [hS0] at hc0
      have hs4 : s.size ≤ 4 := by have := name_short hok; simpa using this
      have hs1 : 1 ≤ s.size := by
        unfold nameOk at hok; simp at hok
        have : s.data.size = s.size := rfl
        omega
      have x1 := long_not s [97, 98, 99, 100] (by simp; omega)
      have x2 := slash_not_name s
      have X1 : Hid _ := x1
      have X2 : Hid _ := x2
      have hsm1 : (s ++ (⟨#[97, 98, 99, 100]⟩ : ByteArray)).size ≤ maxLen := by rw [ByteArray.size_append]; show s.size + 4 ≤ maxLen; unfold maxLen; omega
      have hsm2 : (s ++ (⟨#[47]⟩ : ByteArray)).size ≤ maxLen := by rw [ByteArray.size_append]; show s.size + 1 ≤ maxLen; unfold maxLen; omega
      have HM1 : Hid _ := hsm1
      have HM2 : Hid _ := hsm2
      clear H3 B2 hrd hcell hS0 x1 x2 hsm1 hsm2
      go_wp2_with fail
      refine (implNameOk_any _ _ HM1.out).mono ?_
      rintro e w4 ⟨rfl, hw4⟩
      have hw4' := hw4.symm
      subst hw4'
      rw [X1.out]
      go_wp2_with fail
      refine (implNameOk_any _ _ HM2.out).mono ?_
      rintro e w4 ⟨rfl, hw4⟩
      have hw4' := hw4.symm
      subst hw4'
      rw [X2.out]
      clear X1 X2 HM1 HM2
      go_wp2
      go_ret
      exact ⟨rfl, HB3.out⟩

set_option maxRecDepth 100000 in
theorem lifted (os : Os) (started : os.Started) (H : Type) (enc : TypeId × Value → H) :
    ReturnsInHanded {} Try.checked os 7 .any (Rows.fnPathNameSpec.pre6 enc Try.prog Try.f7 Rows.fnPathNameRow.domain false) (Rows.fnPathNameSpec.post enc Try.prog Try.f7 false true false false) := by
  refine returnsInHanded_of_change (C := Try.checked) own started (by kernel_rfl) Try.func7
    (ChangeSpec.witness6 (enc := enc) (C := Try.checked) false ⟨#[], #[.slice none 0 0], []⟩ 8 (by kernel_rfl) (by kernel_rfl) (by kernel_rfl) (by kernel_rfl)) ?_
  intro W base args ds gs before hval0 hW hcnd _
  have hval : ∀ (j : Nat) t v, Try.f7.params[j]? = some t → args[j]? = some v → Value.okWide Try.prog W .any base t v := hval0
  have hW' := hW
  obtain ⟨p, q, hA0, hV, rfl, hfz, hnd⟩ := hW
  have hA : DataW.TrodAll enc Try.prog W 0 (fun _ => true) true Try.f7.params.toList args.toList ds p := hA0
  rw [Try.params7] at hA hval
  obtain ⟨v0, vs0, d0, ds0, p0, q0, hargs, rfl, rfl, h0, r0⟩ := trodAll_cons hA
  obtain ⟨rfl, rfl, rfl⟩ := trodAll_nil r0
  obtain rfl : args = #[v0] := by cases args; simp_all
  obtain ⟨rfl, rfl⟩ := trodVars_none hV
  obtain ⟨a0, len0, cap0, rfl⟩ := okWide_slice Try.underlying22 (hval 0 22 v0 rfl rfl)
  have k0 := h0
  have lt0 : ∀ x ∈ p0, x.block < W.heap.size := by obtain ⟨m, hm⟩ := k0; exact DataW.trod_lt m _ _ _ hm
  obtain ⟨zs0, hC0, hl0, hp0⟩ := openCode h0
  clear hA0 hval0
  refine (walk a0 len0 cap0 zs0 W hC0 hl0 hp0).mono fun e W' ⟨he, bel⟩ => ?_
  subst he
  exact ⟨_, rfl, _, _, _, [], _, [], hW', trodAll_mk1 (shut_bool Try.underlying4 _), (trodAll_cons_mk (Below.trod laidOut (by kernel_rfl) (of_decide_eq_true (by kernel_rfl)) k0 bel lt0) trodAll_mk0), rfl, bel.frame _, fun h => by cases h⟩

theorem over : Rows.fnPathNameRow.holds Try.pinned (OpenSpec.ofChange Rows.fnPathNameSpec) :=
  OpenClaim.holds_of_wide 7 Try.f7 rfl rfl rfl rfl rfl rfl rfl ⟨rfl, rfl, rfl, rfl, rfl⟩ rfl rfl rfl rfl rfl (by kernel_rfl) Try.func7 (by kernel_rfl)
    (of_decide_eq_true (by kernel_rfl)) (by unfold Func.isWrapper; first | (rw [if_pos (by decide +kernel)]; kernel_rfl) | (rw [if_neg (by decide +kernel)]; exact ⟨rfl, rfl⟩))
    (fun os started H enc _ => lifted os started H enc)
end Go.Proofs.Ytgijhkcnbmcenaa.fnPathName

namespace Go.Proofs.Ytgijhkcnbmcenaa
theorem fnPathName_holds : Rows.FnPathNameSaid := fnPathName.over
end Go.Proofs.Ytgijhkcnbmcenaa
