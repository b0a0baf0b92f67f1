/-
  What BookOk and BookBase of the specification answer.
-/
import Derived.Test.YtkdfimpeghhboaaBookMath
import Derived.WalkSmall
namespace Go.Proofs.Ytkdfimpeghhboaa
open Go.RowKit Go.Deep
set_option linter.unusedVariables false
set_option linter.unusedSimpArgs false

theorem ret_i64' {a b : Int} (h : a = b) : Ending.returned (.int .i64 a) = .returned (.int .i64 b) := by rw [h]

set_option maxHeartbeats 2000000 in
theorem specBookOk_any (a : Option Addr) (n c : Nat) (E : Nat → En) (w : World) (hS : IsEns w a n E) (hn : n ≤ maxLen) :
    Calls Try.prog 13 #[.slice a n c] w fun e w' => (∃ q, w' = w.drewN q) ∧ e = .returned (.bool (bookTo E n)) := by
  unfold maxLen at hn
  go_enter Try.func13, Try.ntmps13
  go_wp2
  go_loopw [3] (fun i wr => ∃ k q : Nat, k ≤ n ∧ i = .int .i64 k ∧ wr = w.drewN q ∧ bookTo E k = true) (fun i _ => n - (intOf i).toNat)
  case atStart => exact ⟨0, 0, Nat.zero_le _, rfl, rfl, rfl⟩
  case round =>
    obtain ⟨k, q, hk, rfl, rfl, hbk⟩ := hrel
    have HE : Hid (bookTo E k = true) := hbk
    clear hbk
    by_cases hlt : k < n
    · obtain ⟨b, off, rfl, hlt2, hc⟩ := hS.at hlt
      obtain ⟨c0, c1⟩ := hc k hlt
      have hlti : (k : Int) < (n : Int) := by omega
      by_cases hok : entOk (E k) = true
      · obtain ⟨g0, g1, g2, g3⟩ := entOk_iff.1 hok
        have HOK : Hid (entOk (E k) = true) := hok
        have d0 : decide ((E k).lev < 0) = false := by simp; omega
        have d1 : decide (9 < (E k).lev) = false := by simp; omega
        have d2 : decide ((E k).date < 1) = false := by simp; omega
        have d3 : decide (1000 < (E k).date) = false := by simp; omega
        clear hok g0 g1 g2 g3
        match k, hk, hlt, c0, c1, hlti, HE, HOK, d0, d1, d2, d3 with
        | 0, hk, hlt, c0, c1, hlti, HE, HOK, d0, d1, d2, d3 =>
          clear hc
          simp only [Nat.zero_mul, Nat.add_zero] at c0 c1
          go_wp2
          go_quiet (fail)
          go_wp2
          go_roundw
          case rel => exact ⟨1, _, by omega, by go_num, rfl, book_one HOK.out⟩
          case measure => simp [intOf]; omega
        | j + 1, hk, hlt, c0, c1, hlti, HE, HOK, d0, d1, d2, d3 =>
          obtain ⟨b0, b1⟩ := hc j (by omega)
          clear hc
          have ej : ((j : Int) + 1 - 1) = (j : Int) := by omega
          cases hab : above (E j) (E (j + 1)) with
          | true =>
            have HAB : Hid (above (E j) (E (j + 1)) = true) := hab
            have habs := above_iff.1 hab
            have e0 : decide ((E (j + 1)).lev ≤ (E j).lev) = false := by simp; omega
            have e1 : decide ((E (j + 1)).date < (E j).date) = false := by simp; omega
            clear hab habs
            go_wp2
            go_quiet (fail)
            go_wp2
            go_roundw
            case rel => exact ⟨j + 2, _, by omega, by go_num, rfl, book_step HE.out HOK.out HAB.out⟩
            case measure => simp [intOf]; omega
          | false =>
            have HX : Hid (false = bookTo E n) := (book_not_above hlt hab).symm
            have habs : ¬ ((E j).lev < (E (j + 1)).lev ∧ (E j).date ≤ (E (j + 1)).date) := fun h => by rw [above_iff.2 h] at hab; cases hab
            clear hab
            by_cases hl : (E (j + 1)).lev ≤ (E j).lev
            · have e0 : decide ((E (j + 1)).lev ≤ (E j).lev) = true := by simp; omega
              clear habs hl
              go_wp2
              go_quiet (fail)
              go_wp2
              go_ret
              exact ⟨⟨q + nq, by simp⟩, ret_bool HX.out⟩
            · have e0 : decide ((E (j + 1)).lev ≤ (E j).lev) = false := by simp; omega
              have e1 : decide ((E (j + 1)).date < (E j).date) = true := by simp; omega
              clear habs hl
              go_wp2
              go_quiet (fail)
              go_wp2
              go_ret
              exact ⟨⟨q + nq, by simp⟩, ret_bool HX.out⟩
      · have HX : Hid (false = bookTo E n) := (book_not_ok hlt (by simpa using hok)).symm
        have hno : ¬ (0 ≤ (E k).lev ∧ (E k).lev ≤ 9 ∧ 1 ≤ (E k).date ∧ (E k).date ≤ 1000) := fun h => hok (entOk_iff.2 h)
        clear hok hc
        by_cases hn0 : (E k).lev < 0
        · have d0 : decide ((E k).lev < 0) = true := by simp; omega
          clear hno hn0
          go_wp2
          go_ret
          exact ⟨⟨q, rfl⟩, ret_bool HX.out⟩
        · have d0 : decide ((E k).lev < 0) = false := by simp; omega
          by_cases hn1 : 9 < (E k).lev
          · have d1 : decide (9 < (E k).lev) = true := by simp; omega
            clear hno hn1
            go_wp2
            go_ret
            exact ⟨⟨q, rfl⟩, ret_bool HX.out⟩
          · have d1 : decide (9 < (E k).lev) = false := by simp; omega
            by_cases hn2 : (E k).date < 1
            · have d2 : decide ((E k).date < 1) = true := by simp; omega
              clear hno hn2
              go_wp2
              go_ret
              exact ⟨⟨q, rfl⟩, ret_bool HX.out⟩
            · have d2 : decide ((E k).date < 1) = false := by simp; omega
              have d3 : decide (1000 < (E k).date) = true := by simp; omega
              clear hno hn0 hn1 hn2
              go_wp2
              go_ret
              exact ⟨⟨q, rfl⟩, ret_bool HX.out⟩
    · obtain rfl : k = n := by omega
      go_wp2
      go_ret
      exact ⟨⟨q, rfl⟩, ret_bool HE.out.symm⟩

set_option maxHeartbeats 2000000 in
theorem specBookBase_any (a : Option Addr) (n c : Nat) (E : Nat → En) (lev : Int) (w : World) (hS : IsEns w a n E) (hn : n ≤ maxLen) :
    Calls Try.prog 11 #[.slice a n c, .int .i64 lev] w fun e w' => Below w.heap.size w w' ∧ e = .returned (.int .i64 (bookBase n E lev)) := by
  have hn' := hn
  unfold maxLen at hn
  go_enter Try.func11, Try.ntmps11
  go_wp2
  go_loopw [5, 6] (fun v i wr => ∃ k q : Nat, k ≤ n ∧ i = .int .i64 k ∧ wr = w.drewN q ∧ v = .int .i64 (baseTo E lev k) ∧ (k = 0 ∨ bookTo E n = true)) (fun _ i _ => n - (intOf i).toNat)
  case atStart => exact ⟨0, 0, Nat.zero_le _, rfl, rfl, rfl, Or.inl rfl⟩
  case round =>
    obtain ⟨k, q, hk, rfl, rfl, rfl, hbk⟩ := hrel
    have HE : Hid (k = 0 ∨ bookTo E n = true) := hbk
    clear hbk
    by_cases hlt : k < n
    · have hlti : (k : Int) < (n : Int) := by omega
      have hSq : IsEns (w.drewN q) a n E := hS.below (Nat.le_refl _) (below_drewN (Below.refl _ _) q)
      go_wp2_with fail
      refine (specBookOk_any a n c E (w.drewN q) hSq hn').mono ?_
      rintro e w2 ⟨⟨q2, rfl⟩, rfl⟩
      cases hbk : bookTo E n with
      | false =>
        have HX : Hid (baseTo E lev k = bookBase n E lev) := by
          show _ = _
          unfold bookBase
          rcases HE.out with rfl | h
          · rw [hbk]; rfl
          · rw [hbk] at h; cases h
        clear hbk
        go_wp2
        go_ret
        exact ⟨by simpa using below_drewN (Below.refl _ _) (q + q2), ret_i64' HX.out⟩
      | true =>
        have HB : Hid (bookTo E n = true) := hbk
        clear hbk
        obtain ⟨b, off, rfl, hlt2, hc⟩ := hS.at hlt
        obtain ⟨c0, c1⟩ := hc k hlt
        have HN : Hid (baseTo E lev (k + 1) = if (E k).lev < lev then (E k).date else baseTo E lev k) := rfl
        clear hc
        by_cases hl : (E k).lev < lev
        · have hld : decide ((E k).lev < lev) = true := by simp; omega
          have HN2 : Hid (baseTo E lev (k + 1) = (E k).date) := by show _ = _; rw [HN.out, if_pos hl]
          clear hl
          go_wp2
          go_roundw
          case rel => exact ⟨k + 1, _, by omega, by go_num, rfl, by rw [HN2.out], Or.inr HB.out⟩
          case measure => simp [intOf]; omega
        · have hld : decide ((E k).lev < lev) = false := by simp; omega
          have HN2 : Hid (baseTo E lev (k + 1) = baseTo E lev k) := by show _ = _; rw [HN.out, if_neg hl]
          clear hl
          go_wp2
          go_roundw
          case rel => exact ⟨k + 1, _, by omega, by go_num, rfl, by rw [HN2.out], Or.inr HB.out⟩
          case measure => simp [intOf]; omega
    · have HX : Hid (baseTo E lev k = bookBase n E lev) := by
        show _ = _
        obtain rfl : k = n := by omega
        unfold bookBase
        rcases HE.out with rfl | h
        · simp [bookTo]
        · rw [if_pos h]
      have hnl : decide ((k : Int) < (n : Int)) = false := by simp; omega
      clear HE
      go_wp2
      go_ret
      exact ⟨below_drewN (Below.refl _ _) q, ret_i64' HX.out⟩
end Go.Proofs.Ytkdfimpeghhboaa
