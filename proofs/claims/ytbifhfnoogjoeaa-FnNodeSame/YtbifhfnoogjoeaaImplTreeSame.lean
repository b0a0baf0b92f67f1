/-
  What TreeSame of the program answers at two trees.
-/
import Derived.Test.YtbifhfnoogjoeaaImplSame
import Derived.Test.YtbifhfnoogjoeaaSpecTreeSame
namespace Go.Proofs.Ytbifhfnoogjoeaa
open Go.RowKit
set_option linter.unusedVariables false

set_option maxHeartbeats 2000000 in
theorem equalFunc_any (a a' : Option Addr) (n c m c' : Nat) (D E : Nat → Nd) (L M : Nat → Loc) (w : World) (hS : IsNds w a n D L) (hT : IsNds w a' m E M) (hf : FitAll n D) (hf' : FitAll m E) (hn : n ≤ maxLen) (hm : m ≤ maxLen) :
    Calls Try.prog 34 #[.slice a n c, .slice a' m c', .func (Fn.func 20) #[] #[]] w fun e w' => Below w.heap.size w w' ∧ e = .returned (.bool (decide (n = m) && sameAll n D E)) := by
  unfold maxLen at hn hm
  by_cases hne : n = m
  · subst hne
    have hb : ((n : Int) != (n : Int)) = false := by simp
    go_enter Try.func34, Try.ntmps34
    go_wp2
    go_loopw [17] (fun i wr => ∃ k : Nat, k ≤ n ∧ i = .int .i64 k ∧ Below w.heap.size w wr ∧ sameAll k D E = true) (fun i _ => n - (intOf i).toNat)
    case atStart => exact ⟨0, Nat.zero_le _, rfl, Below.refl _ _, rfl⟩
    case round =>
      obtain ⟨k, hk, rfl, hbel, heq⟩ := hrel
      by_cases hlt : k < n
      · have hSr := hS.below (Nat.le_refl _) hbel
        have hTr := hT.below (Nat.le_refl _) hbel
        obtain ⟨b, off, rfl, hlt2, hc⟩ := hSr.at hlt
        obtain ⟨b', off', rfl, hlt2', hc'⟩ := hTr.at hlt
        obtain ⟨c0, c1, c2, c3, c4, hI⟩ := hc k hlt
        obtain ⟨d0, d1, d2, d3, d4, hI'⟩ := hc' k hlt
        have hlti : (k : Int) < (n : Int) := by omega
        have HE : Hid (sameAll k D E = true ∧ Below w.heap.size w wr ∧ NdIn wr (D k) (L k) ∧ NdIn wr (E k) (M k)) := ⟨heq, hbel, hI, hI'⟩
        clear hc hc' hSr hTr hbel heq hI hI'
        go_wp2_with fail
        refine at_world (F := New2 wr _ _ _ _) (new2 wr _ _ _ _) ?_
        rintro W ⟨hp, hp', hb', hs⟩
        refine (implNodeSame_any (D k) (E k) (L k) (M k) W (HE.out.2.2.1.below (Nat.le_refl _) hb') (HE.out.2.2.2.below (Nat.le_refl _) hb') (hf k hlt) (hf' k hlt)).mono ?_
        rintro e w1 ⟨hb1, rfl⟩
        have HB : Hid (Below w.heap.size w w1) := HE.out.2.1.trans ((hb'.trans (hb1.mono (by omega))).mono HE.out.2.1.size)
        clear hp hp' hb' hs hb1 c0 c1 c2 c3 c4 d0 d1 d2 d3 d4
        cases hq : (D k).same (E k) with
        | false =>
          have HQ : Hid ((D k).same (E k) = false) := hq
          clear hq
          go_wp2
          go_ret
          exact ⟨HB.out, ret_bool (by rw [← sameAll_not n k D E hlt HQ.out]; simp)⟩
        | true =>
          have HQ : Hid ((D k).same (E k) = true) := hq
          clear hq
          go_wp2
          go_roundw
          case rel => exact ⟨k + 1, by omega, by go_num, HB.out, sameAll_succ k D E HE.out.1 HQ.out⟩
          case measure => simp [intOf]; omega
      · have hkn : k = n := by omega
        have HK : Hid (k = n ∧ Below w.heap.size w wr ∧ sameAll k D E = true) := ⟨hkn, hbel, heq⟩
        clear hkn hbel heq
        go_wp2
        go_ret
        exact ⟨HK.out.2.1, ret_bool (by have := HK.out.2.2; rw [HK.out.1] at this; rw [this]; simp)⟩
  · have hb : ((n : Int) != (m : Int)) = true := by simp; omega
    go_enter Try.func34, Try.ntmps34
    go_wp2
    go_ret
    exact ⟨Below.refl _ _, ret_bool (by simp [hne])⟩

set_option maxHeartbeats 2000000 in
theorem implTreeSame_any (a a' : Option Addr) (n c m c' : Nat) (now now' : Int) (D E : Nat → Nd) (L M : Nat → Loc) (w : World) (hS : IsNds w a n D L) (hT : IsNds w a' m E M) (hf : FitAll n D) (hf' : FitAll m E) (hn : n ≤ maxLen) (hm : m ≤ maxLen) :
    Calls Try.prog 12 #[trV a n c now, trV a' m c' now'] w fun e w' => Below w.heap.size w w' ∧ e = .returned (.bool (treeSame n m D E now now')) := by
  have hn' := hn
  have hm' := hm
  unfold maxLen at hn' hm'
  unfold trV
  cases hnc : (now == now') with
  | false =>
    have HN : Hid (false = treeSame n m D E now now') := by show _ = _; unfold treeSame; rw [hnc, Bool.and_false]
    go_enter Try.func12, Try.ntmps12
    go_wp2_with fail
    go_ret
    exact ⟨((Below.refl _ _).alloc (Nat.le_refl _) _).alloc (by simp) _, ret_bool HN.out⟩
  | true =>
    go_enter Try.func12, Try.ntmps12
    go_wp2_with fail
    refine at_world (F := New2 w _ _ _ _) (new2 w _ _ _ _) ?_
    rintro W ⟨hp, hp', hb, hs⟩
    refine (equalFunc_any a a' n c m c' D E L M W (hS.below (Nat.le_refl _) hb) (hT.below (Nat.le_refl _) hb) hf hf' hn hm).mono ?_
    rintro e w1 ⟨hb1, rfl⟩
    have HB : Hid (Below w.heap.size w w1 ∧ (decide (n = m) && sameAll n D E) = treeSame n m D E now now') := ⟨hb.trans (hb1.mono (by omega)), by unfold treeSame; rw [hnc, Bool.and_true]⟩
    clear hp hp' hb hs hb1
    rw [HB.out.2]
    go_wp2
    go_ret
    exact ⟨HB.out.1, rfl⟩
end Go.Proofs.Ytbifhfnoogjoeaa
