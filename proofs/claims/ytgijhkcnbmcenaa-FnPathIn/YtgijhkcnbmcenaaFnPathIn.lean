/-
  For every code, FnPathIn answers true: a drawn way is within its beginnings and within itself, of two that are within one another both are one, and a text of one within another begins with that one's; and the code reads afterwards as it read before. No condition.
-/
import Derived.Test.YtgijhkcnbmcenaaOpenCode
import Derived.Test.YtgijhkcnbmcenaaDraw1In
import Derived.Test.YtgijhkcnbmcenaaIn
import Derived.Test.YtgijhkcnbmcenaaTextImpl
namespace Go.Proofs.Ytgijhkcnbmcenaa.fnPathIn
open Go.ChangeShapes Go.WideShapes Go.ChangeAt Go.RowKit
set_option linter.unusedVariables false

theorem in_self (n : Nat) (S : Nat → ByteArray) : pathIn n n S S = true := by
  unfold pathIn; rw [eqS_self n S S (fun _ _ => rfl)]; simp
theorem in_nil (n : Nat) (S T : Nat → ByteArray) : pathIn n 0 S T = true := by
  unfold pathIn; rw [eqS_self 0 S T (fun _ h => by omega)]; simp
theorem in_head (n k : Nat) (S : Nat → ByteArray) (h : k ≤ n) : pathIn n k S S = true := by
  unfold pathIn; rw [eqS_self k S S (fun _ _ => rfl)]; simp [h]
theorem in_not (n k : Nat) (S : Nat → ByteArray) (h : k < n) : pathIn k n S S = false := by
  unfold pathIn; simp; omega

theorem in_both {n m : Nat} {S T : Nat → ByteArray} (h : pathIn n m S T = true) (k : pathIn m n T S = true) : n = m := by
  unfold pathIn at h k; simp at h k; omega

theorem eqS_at {n : Nat} {S T : Nat → ByteArray} (h : eqS n S T = true) {i : Nat} (hi : i < n) : S i = T i := by
  have := List.all_eq_true.1 h i (by simpa using hi)
  have e : (S i).toList = (T i).toList := by simpa using this
  rw [ByteArray.toList_eq, ByteArray.toList_eq] at e
  exact ByteArray.ext (Array.toList_inj.1 e)

theorem join_congr {S T : Nat → ByteArray} : ∀ n, (∀ i, i < n → S i = T i) → joinTo S n = joinTo T n := by
  intro n
  induction n with
  | zero => intro _; rfl
  | succ n ih => intro h; rw [joinTo_succ, joinTo_succ, ih (fun i hi => h i (by omega)), h n (by omega)]

theorem join_pre (S : Nat → ByteArray) (m : Nat) : ∀ d, ∃ X, joinTo S (m + d) = joinTo S m ++ X := by
  intro d
  induction d with
  | zero => exact ⟨[], by simp⟩
  | succ d ih => obtain ⟨X, hX⟩ := ih; exact ⟨X ++ 47 :: (S (m + d)).data.toList, by rw [← Nat.add_assoc, joinTo_succ, hX, List.append_assoc]⟩

theorem names_head {n m : Nat} {S : Nat → ByteArray} (h : namesOk n S = true) (hm : m ≤ n) : namesOk m S = true := by
  unfold namesOk at *
  rw [List.all_eq_true] at *
  intro i hi
  exact h i (by simp at hi ⊢; omega)

theorem names_congr {n : Nat} {S T : Nat → ByteArray} (h : ∀ i, i < n → S i = T i) (hS : namesOk n S = true) : namesOk n T = true := by
  unfold namesOk at *
  rw [List.all_eq_true] at *
  intro i hi
  rw [← h i (by simpa using hi)]
  exact hS i hi

/-- What the texts of a way and of one that it begins with are. -/
theorem texts {n m : Nat} {S T : Nat → ByteArray} (hin : pathIn n m S T = true) (hok : pathOk n S = true) (hm : m ≠ 0) :
    ∃ X, textOf n S = textOf m T ++ X := by
  unfold pathIn at hin
  simp at hin
  obtain ⟨hmn, he⟩ := hin
  have heq : ∀ i, i < m → S i = T i := fun i hi => eqS_at he hi
  have hn : namesOk n S = true := by unfold pathOk at hok; simp at hok; exact hok.1
  have h5 : n ≤ 5 := by unfold pathOk at hok; simp at hok; exact hok.2
  have hokT : pathOk m T = true := by unfold pathOk; rw [names_congr heq (names_head hn hmn)]; simp; omega
  rw [textOf_way hok (by omega), textOf_way hokT hm, ← join_congr m heq]
  obtain ⟨X, hX⟩ := join_pre S m (n - m)
  exact ⟨X, by rw [← hX]; congr 1; omega⟩

theorem texts_same {n m : Nat} {S T : Nat → ByteArray} (hin : pathIn n m S T = true) (hni : pathIn m n T S = true) (hok : pathOk n S = true) (hm : m ≠ 0) : textOf n S = textOf m T := by
  have e := in_both hin hni
  obtain ⟨X, hX⟩ := texts hin hok hm
  obtain ⟨Y, hY⟩ := texts hni (by
    unfold pathIn at hin; simp at hin
    have hn : namesOk n S = true := by unfold pathOk at hok; simp at hok; exact hok.1
    have h5 : n ≤ 5 := by unfold pathOk at hok; simp at hok; exact hok.2
    unfold pathOk; rw [names_congr (fun i hi => eqS_at hin.2 hi) (names_head hn hin.1)]; simp; omega) (by omega)
  have l1 := congrArg List.length hX
  have l2 := congrArg List.length hY
  simp at l1 l2
  have : X = [] := List.eq_nil_of_length_eq_zero (by omega)
  rw [hX, this, List.append_nil]

theorem text_len {n : Nat} {S : Nat → ByteArray} : (textOf n S).length ≤ 25 := by
  unfold textOf
  split
  · rename_i h
    have hn : namesOk n S = true := by unfold pathOk at h; simp at h; exact h.1
    have h5 : n ≤ 5 := by unfold pathOk at h; simp at h; exact h.2
    unfold pathText
    split
    · simp
    · have := joinTo_len hn n (Nat.le_refl _); omega
  · simp

set_option maxHeartbeats 2000000 in
theorem walk (a : Option Addr) (len cap : Nat) (zs : Nat → Int) (w : World) (hc : IsCode w a len zs) (hlen : len ≤ maxLen) (hcap : len ≤ cap) :
    Calls Try.prog 4 #[.slice a len cap] w fun e w' => e = .returned (.bool true) ∧ Below w.heap.size w w' := by
  have hlen' := hlen
  unfold maxLen at hlen'
  by_cases hbig : (1048576 : Int) < len
  · go_enter Try.func4, Try.ntmps4
    go_wp2
    go_ret
    exact ⟨rfl, Below.refl _ _⟩
  · have hbig' : decide ((1048576 : Int) < len) = false := by simp; omega
    go_enter Try.func4, Try.ntmps4
    go_wp2_with fail
    refine (drawPathIn_any w a len cap zs hc hlen hcap).mono ?_
    rintro e w1 ⟨g, n, c, S, g', m, c', T, rfl, hD, hE, hB⟩
    have HB : Hid (Below w.heap.size w w1) := hB
    have n9 := hD.few
    have m9 := hE.few
    have nc := hD.room
    have cm := hD.most
    have HD : Hid (Drawn w1 g n c S) := hD
    have HE : Hid (Drawn w1 g' m c' T) := hE
    clear hB hD hE hc
    go_wp2_with fail
    refine (implPathIn_any _ _ n c m c' S T _ HD.out.strs HE.out.strs HD.out.len HE.out.len nc cm).mono ?_
    rintro e w2 ⟨⟨q1, rfl⟩, rfl⟩
    go_wp2_with fail
    refine (specPathIn_any _ _ n c m c' S T _ (HD.out.drewN _).strs (HE.out.drewN _).strs HD.out.len HE.out.len).mono ?_
    rintro e w2 ⟨⟨q2, rfl⟩, rfl⟩
    rw [World.drewN_drewN]
    generalize q1 + q2 = q3
    go_wp2_with fail
    refine (implPathIn_any _ _ n c n c S S _ (HD.out.drewN _).strs (HD.out.drewN _).strs HD.out.len HD.out.len nc cm).mono ?_
    rintro e w2 ⟨⟨q4, rfl⟩, rfl⟩
    rw [World.drewN_drewN, in_self]
    generalize q3 + q4 = q5
    go_wp2_with fail
    refine (implPathIn_any _ none n c 0 0 S S _ (HD.out.drewN _).strs (Or.inl rfl) HD.out.len (by unfold maxLen; omega) nc cm).mono ?_
    rintro e w2 ⟨⟨q6, rfl⟩, rfl⟩
    rw [World.drewN_drewN, in_nil]
    generalize q5 + q6 = q7
    go_wp2
    go_loopw [6] (fun i wr => ∃ k q : Nat, i = .int .i64 k ∧ k ≤ n + 1 ∧ wr = w1.drewN q) (fun i _ => n + 1 - (intOf i).toNat)
    case atStart => exact ⟨0, q7, rfl, by omega, rfl⟩
    case round =>
      obtain ⟨k, q, rfl, hk, rfl⟩ := hrel
      have cm' := cm
      unfold maxLen at cm'
      by_cases hkn : k ≤ n
      · have hkc : (k : Int) ≤ (c : Int) := by omega
        go_wp2_with fail
        refine (implPathIn_any _ _ n c k c S S _ (HD.out.drewN _).strs ((HD.out.drewN _).strs.head hkn) HD.out.len (by unfold maxLen; omega) nc cm).mono ?_
        rintro e w2 ⟨⟨q8, rfl⟩, rfl⟩
        rw [World.drewN_drewN, in_head n k S hkn]
        by_cases hlt : k < n
        · have hd : decide ((k : Int) < (n : Int)) = true := by simp; omega
          go_wp2_with fail
          refine (implPathIn_any _ _ k c n c S S _ ((HD.out.drewN _).strs.head hkn) (HD.out.drewN _).strs (by unfold maxLen; omega) HD.out.len (by omega) cm).mono ?_
          rintro e w2 ⟨⟨q9, rfl⟩, rfl⟩
          rw [World.drewN_drewN, in_not n k S hlt]
          go_wp2
          go_roundw
          case rel => exact ⟨k + 1, _, by go_num, by omega, rfl⟩
          case measure => simp [intOf]; omega
        · have hd : decide ((k : Int) < (n : Int)) = false := by simp; omega
          go_wp2
          go_roundw
          case rel => exact ⟨k + 1, _, by go_num, by omega, rfl⟩
          case measure => simp [intOf]; omega
      · have hd : decide ((k : Int) ≤ (n : Int)) = false := by simp; omega
        cases hin : pathIn n m S T
        · have HF : Hid (Below w.heap.size w (w1.drewN q)) := below_drewN HB.out q
          go_wp2
          go_ret
          exact ⟨rfl, HF.out⟩
        · go_wp2_with fail
          refine (specPathOk_any _ n c S _ (HD.out.drewN _).strs HD.out.small HD.out.len).mono ?_
          rintro e w2 ⟨rfl, rfl⟩
          cases hok : pathOk n S
          · have HF : Hid (Below w.heap.size w (w1.drewN q)) := below_drewN HB.out q
            go_wp2
            go_ret
            exact ⟨rfl, HF.out⟩
          · by_cases hm0 : m = 0
            · have hmb : ((m : Int) == 0) = true := by simp; omega
              have HF : Hid (Below w.heap.size w (w1.drewN q)) := below_drewN HB.out q
              go_wp2
              go_ret
              exact ⟨rfl, HF.out⟩
            · have hmb : ((m : Int) == 0) = false := by simp; omega
              obtain ⟨X, hX⟩ := texts hin hok hm0
              have HX : Hid (textOf n S = textOf m T ++ X) := hX
              have HS : Hid (pathIn m n T S = true → textOf n S = textOf m T) := fun h => texts_same hin h hok hm0
              have lX : (textOf n S).length ≤ 25 := text_len
              have lY : (textOf m T).length ≤ 25 := text_len
              have cE := HE.out.most
              have rE := HE.out.room
              clear hX
              go_wp2_with fail
              refine (implPathText_any _ n c S _ (HD.out.drewN _).strs HD.out.small HD.out.len nc).mono ?_
              rintro e w2 ⟨rfl, hb2⟩
              have hD2 := (HD.out.drewN q).below hb2
              have hE2 := (HE.out.drewN q).below hb2
              have BB : Below w.heap.size w w2 := (below_drewN HB.out q).trans (hb2.mono (below_drewN HB.out q).size)
              clear hb2 HB HD HE
              go_wp2_with fail
              refine (implPathText_any _ m c' T _ hE2.strs hE2.small hE2.len rE).mono ?_
              rintro e w3 ⟨rfl, hb3⟩
              have hD3 := hD2.below hb3
              have hE3 := hE2.below hb3
              have BC : Below w.heap.size w w3 := BB.trans (hb3.mono BB.size)
              clear hb3 hD2 hE2 BB
              generalize hx : textOf n S = x at HX HS lX ⊢
              generalize hy : textOf m T = y at HX HS lY ⊢
              have HD3 : Hid _ := hD3
              have HE3 : Hid _ := hE3
              have HB3 : Hid _ := BC
              clear hx hy hD3 hE3 BC
              have hle : y.length ≤ x.length := by rw [HX.out, List.length_append]; omega
              have hle' : (y.length : Int) ≤ (x.length : Int) := by omega
              have hext : ((⟨x.toArray⟩ : ByteArray).extract 0 y.length).toList = y := by
                rw [Lib.extract_toList, HX.out]; simp
              go_wp2_with fail
              refine (implPathIn_any _ _ m c' n c T S _ HE3.out.strs HD3.out.strs HE3.out.len HD3.out.len rE cE).mono ?_
              rintro e w4 ⟨⟨q8, rfl⟩, rfl⟩
              have HF : Hid (Below w.heap.size w (w3.drewN q8)) := below_drewN HB3.out q8
              clear HB3 HD3 HE3
              cases hni : pathIn m n T S
              · go_wp2
                go_ret
                exact ⟨rfl, HF.out⟩
              · have hxy : x = y := HS.out hni
                subst hxy
                go_wp2
                go_ret
                exact ⟨rfl, HF.out⟩

set_option maxRecDepth 100000 in
theorem lifted (os : Os) (started : os.Started) (H : Type) (enc : TypeId × Value → H) :
    ReturnsInHanded {} Try.checked os 4 .any (Rows.fnPathInSpec.pre6 enc Try.prog Try.f4 Rows.fnPathInRow.domain false) (Rows.fnPathInSpec.post enc Try.prog Try.f4 false true false false) := by
  refine returnsInHanded_of_change (C := Try.checked) own started (by kernel_rfl) Try.func4
    (ChangeSpec.witness6 (enc := enc) (C := Try.checked) false ⟨#[], #[.slice none 0 0], []⟩ 8 (by kernel_rfl) (by kernel_rfl) (by kernel_rfl) (by kernel_rfl)) ?_
  intro W base args ds gs before hval0 hW hcnd _
  have hval : ∀ (j : Nat) t v, Try.f4.params[j]? = some t → args[j]? = some v → Value.okWide Try.prog W .any base t v := hval0
  have hW' := hW
  obtain ⟨p, q, hA0, hV, rfl, hfz, hnd⟩ := hW
  have hA : DataW.TrodAll enc Try.prog W 0 (fun _ => true) true Try.f4.params.toList args.toList ds p := hA0
  rw [Try.params4] at hA hval
  obtain ⟨v0, vs0, d0, ds0, p0, q0, hargs, rfl, rfl, h0, r0⟩ := trodAll_cons hA
  obtain ⟨rfl, rfl, rfl⟩ := trodAll_nil r0
  obtain rfl : args = #[v0] := by cases args; simp_all
  obtain ⟨rfl, rfl⟩ := trodVars_none hV
  obtain ⟨a0, len0, cap0, rfl⟩ := okWide_slice Try.underlying22 (hval 0 22 v0 rfl rfl)
  have k0 := h0
  have lt0 : ∀ x ∈ p0, x.block < W.heap.size := by obtain ⟨m, hm⟩ := k0; exact DataW.trod_lt m _ _ _ hm
  obtain ⟨zs0, hC0, hl0, hp0⟩ := openCode h0
  clear hA0 hval0
  refine (walk a0 len0 cap0 zs0 W hC0 hl0 hp0).mono fun e W' ⟨he, bel⟩ => ?_
  subst he
  exact ⟨_, rfl, _, _, _, [], _, [], hW', trodAll_mk1 (shut_bool Try.underlying4 _), (trodAll_cons_mk (Below.trod laidOut (by kernel_rfl) (of_decide_eq_true (by kernel_rfl)) k0 bel lt0) trodAll_mk0), rfl, bel.frame _, fun h => by cases h⟩

theorem over : Rows.fnPathInRow.holds Try.pinned (OpenSpec.ofChange Rows.fnPathInSpec) :=
  OpenClaim.holds_of_wide 4 Try.f4 rfl rfl rfl rfl rfl rfl rfl ⟨rfl, rfl, rfl, rfl, rfl⟩ rfl rfl rfl rfl rfl (by kernel_rfl) Try.func4 (by kernel_rfl)
    (of_decide_eq_true (by kernel_rfl)) (by unfold Func.isWrapper; first | (rw [if_pos (by decide +kernel)]; kernel_rfl) | (rw [if_neg (by decide +kernel)]; exact ⟨rfl, rfl⟩))
    (fun os started H enc _ => lifted os started H enc)
end Go.Proofs.Ytgijhkcnbmcenaa.fnPathIn

namespace Go.Proofs.Ytgijhkcnbmcenaa
theorem fnPathIn_holds : Rows.FnPathInSaid := fnPathIn.over
end Go.Proofs.Ytgijhkcnbmcenaa
