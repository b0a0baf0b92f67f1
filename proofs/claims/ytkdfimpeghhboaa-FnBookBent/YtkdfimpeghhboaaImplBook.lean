/-
  What BookOk of the program answers.
-/
import Derived.Test.YtkdfimpeghhboaaBookMath
import Derived.WalkSmall
namespace Go.Proofs.Ytkdfimpeghhboaa
open Go.RowKit Go.Deep
set_option linter.unusedVariables false
set_option linter.unusedSimpArgs false

theorem bookTurnOk (t : Int) (w : World) : Calls Try.prog 24 #[.int .i64 t, .int .i64 1000] w fun e w' => w' = w ∧ e = .returned (.bool (decide (1 ≤ t ∧ t ≤ 1000))) := by
  by_cases h1 : 1 ≤ t
  · have d1 : decide (1 ≤ t) = true := by simp; omega
    by_cases h2 : t ≤ 1000
    · have d2 : decide (t ≤ 1000) = true := by simp; omega
      have HX : Hid (true = decide (1 ≤ t ∧ t ≤ 1000)) := (decide_eq_true ⟨h1, h2⟩).symm
      clear h1 h2
      go_enter Try.func24, Try.ntmps24
      go_wp2
      go_ret
      exact ⟨rfl, ret_bool HX.out⟩
    · have d2 : decide (t ≤ 1000) = false := by simp; omega
      have HX : Hid (false = decide (1 ≤ t ∧ t ≤ 1000)) := (decide_eq_false (fun h => h2 h.2)).symm
      clear h1 h2
      go_enter Try.func24, Try.ntmps24
      go_wp2
      go_ret
      exact ⟨rfl, ret_bool HX.out⟩
  · have d1 : decide (1 ≤ t) = false := by simp; omega
    have HX : Hid (false = decide (1 ≤ t ∧ t ≤ 1000)) := (decide_eq_false (fun h => h1 h.1)).symm
    clear h1
    go_enter Try.func24, Try.ntmps24
    go_wp2
    go_ret
    exact ⟨rfl, ret_bool HX.out⟩

set_option maxHeartbeats 1000000 in
theorem entryOk_any (e : En) (w : World) : Calls Try.prog 21 #[enV e] w fun r w' => Below w.heap.size w w' ∧ r = .returned (.bool (entOk e)) := by
  unfold enV
  by_cases h1 : 0 ≤ e.lev ∧ e.lev ≤ 9
  · obtain ⟨h1, h2⟩ := h1
    have d1 : decide (0 ≤ e.lev) = true := by simp; omega
    have d2 : decide (e.lev ≤ 9) = true := by simp; omega
    have HX : Hid (decide (1 ≤ e.date ∧ e.date ≤ 1000) = entOk e) := by show _ = _; unfold entOk; simp [h1, h2]
    clear h1 h2
    go_enter Try.func21, Try.ntmps21
    go_wp2_with fail
    refine (bookTurnOk e.date _).mono ?_
    rintro r w1 ⟨rfl, rfl⟩
    generalize hq : decide (1 ≤ e.date ∧ e.date ≤ 1000) = q at HX ⊢
    clear hq
    go_wp2
    go_ret
    exact ⟨(Below.refl _ _).alloc (Nat.le_refl _) _, ret_bool HX.out⟩
  · have HX : Hid (false = entOk e) := by
      show _ = _
      symm
      rw [Bool.eq_false_iff]
      intro h
      have := entOk_iff.1 h
      exact h1 ⟨this.1, this.2.1⟩
    by_cases h2 : 0 ≤ e.lev
    · have d1 : decide (0 ≤ e.lev) = true := by simp; omega
      have d2 : decide (e.lev ≤ 9) = false := by simp; omega
      clear h1 h2
      go_enter Try.func21, Try.ntmps21
      go_wp2
      go_ret
      exact ⟨(Below.refl _ _).alloc (Nat.le_refl _) _, ret_bool HX.out⟩
    · have d1 : decide (0 ≤ e.lev) = false := by simp; omega
      clear h1 h2
      go_enter Try.func21, Try.ntmps21
      go_wp2
      go_ret
      exact ⟨(Below.refl _ _).alloc (Nat.le_refl _) _, ret_bool HX.out⟩

set_option maxHeartbeats 2000000 in
theorem implBookOk_any (a : Option Addr) (n c : Nat) (E : Nat → En) (w : World) (hS : IsEns w a n E) (hn : n ≤ maxLen) :
    Calls Try.prog 12 #[.slice a n c] w fun e w' => Below w.heap.size w w' ∧ e = .returned (.bool (bookTo E n)) := by
  unfold maxLen at hn
  go_enter Try.func12, Try.ntmps12
  go_wp2
  go_loopw [7] (fun i wr => ∃ k : Nat, k ≤ n ∧ i = .int .i64 k ∧ Below w.heap.size w wr ∧ bookTo E k = true) (fun i _ => n - (intOf i).toNat)
  case atStart => exact ⟨0, Nat.zero_le _, rfl, Below.refl _ _, rfl⟩
  case round =>
    obtain ⟨k, hk, rfl, hb, hbk⟩ := hrel
    have HE : Hid (bookTo E k = true) := hbk
    have HB : Hid (Below w.heap.size w wr) := hb
    clear hbk hb
    by_cases hlt : k < n
    · obtain ⟨b, off, rfl, hlt2, hc⟩ := (hS.below (Nat.le_refl _) HB.out).at hlt
      obtain ⟨c0, c1⟩ := hc k hlt
      have hlti : (k : Int) < (n : Int) := by omega
      have hbne : b ≠ wr.heap.size := by omega
      go_wp2_with fail
      refine at_world (F := New1 wr _ _) (new1 wr _ _) ?_
      rintro W ⟨hp, hbW, hs⟩
      refine (entryOk_any (E k) W).mono ?_
      rintro r w2 ⟨hb2, rfl⟩
      have hp2 := hp.below hb2 (by omega)
      have hB2 : Below wr.heap.size wr w2 := hbW.trans (hb2.mono (by omega))
      cases hok : entOk (E k) with
      | false =>
        have HX : Hid (false = bookTo E n) := (book_not_ok hlt hok).symm
        have HF : Hid (Below w.heap.size w w2) := HB.out.trans (hB2.mono HB.out.size)
        clear hok hc hp hp2 hb2 hB2 hbW
        go_wp2
        go_ret
        exact ⟨HF.out, ret_bool HX.out⟩
      | true =>
        have HOK : Hid (entOk (E k) = true) := hok
        have HF : Hid (Below w.heap.size w w2) := HB.out.trans (hB2.mono HB.out.size)
        have x0 : w2.cell? ⟨wr.heap.size, 0, none⟩ = some (.int .i64 (E k).lev) := hp2.cell 0
        have x1 : w2.cell? ⟨wr.heap.size, 1, none⟩ = some (.int .i64 (E k).date) := hp2.cell 1
        rcases Nat.eq_zero_or_pos k with rfl | hpos
        · clear hc hp hp2 hb2 hB2 hbW c0 c1
          go_wp2
          go_quiet (fail)
          go_wp2
          go_roundw
          case rel => exact ⟨1, by omega, by go_num, below_drewN HF.out _, book_one HOK.out⟩
          case measure => simp [intOf]; omega
        · obtain ⟨j, rfl⟩ : ∃ j, k = j + 1 := ⟨k - 1, by omega⟩
          obtain ⟨b0, b1⟩ := hc j (by omega)
          have hjn : (j : Int) < (n : Int) := by omega
          have b0' : w2.cell? ⟨b, off + j * 2, none⟩ = some (.int .i64 (E j).lev) := (hB2.cell (p := ⟨b, off + j * 2, none⟩) hlt2).trans b0
          have b1' : w2.cell? ⟨b, off + j * 2 + 1, none⟩ = some (.int .i64 (E j).date) := (hB2.cell (p := ⟨b, off + j * 2 + 1, none⟩) hlt2).trans b1
          clear hc hp hp2 hb2 hB2 hbW c0 c1 b0 b1
          have ej : ((j : Int) + 1 - 1) = (j : Int) := by omega
          cases hab : above (E j) (E (j + 1)) with
          | true =>
            have HAB : Hid (above (E j) (E (j + 1)) = true) := hab
            have habs := above_iff.1 hab
            have e0 : decide ((E (j + 1)).lev ≤ (E j).lev) = false := by simp; omega
            have e1 : decide ((E (j + 1)).date < (E j).date) = false := by simp; omega
            clear hab habs
            go_wp2
            go_quiet (fail)
            go_wp2
            go_roundw
            case rel => exact ⟨j + 2, by omega, by go_num, below_drewN HF.out _, book_step HE.out HOK.out HAB.out⟩
            case measure => simp [intOf]; omega
          | false =>
            have HX : Hid (false = bookTo E n) := (book_not_above hlt hab).symm
            have habs : ¬ ((E j).lev < (E (j + 1)).lev ∧ (E j).date ≤ (E (j + 1)).date) := fun h => by rw [above_iff.2 h] at hab; cases hab
            clear hab
            by_cases hl : (E (j + 1)).lev ≤ (E j).lev
            · have e0 : decide ((E (j + 1)).lev ≤ (E j).lev) = true := by simp; omega
              clear habs hl
              go_wp2
              go_quiet (fail)
              go_wp2
              go_ret
              exact ⟨below_drewN HF.out _, ret_bool HX.out⟩
            · have e0 : decide ((E (j + 1)).lev ≤ (E j).lev) = false := by simp; omega
              have e1 : decide ((E (j + 1)).date < (E j).date) = true := by simp; omega
              clear habs hl
              go_wp2
              go_quiet (fail)
              go_wp2
              go_ret
              exact ⟨below_drewN HF.out _, ret_bool HX.out⟩
    · obtain rfl : k = n := by omega
      go_wp2
      go_ret
      exact ⟨HB.out, ret_bool HE.out.symm⟩
end Go.Proofs.Ytkdfimpeghhboaa
