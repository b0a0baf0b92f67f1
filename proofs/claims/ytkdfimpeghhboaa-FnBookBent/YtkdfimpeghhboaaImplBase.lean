/-
  What BookBase of the program answers.
-/
import Derived.Test.YtkdfimpeghhboaaImplDates
namespace Go.Proofs.Ytkdfimpeghhboaa
open Go.RowKit Go.Deep
set_option linter.unusedVariables false
set_option linter.unusedSimpArgs false

theorem index_arr (d : Int → Int) (m : Nat) (hm : m < 10) (w : World) : (Instr.index 41 (.agg #[.int .i64 (d 0), .int .i64 (d 1), .int .i64 (d 2), .int .i64 (d 3), .int .i64 (d 4), .int .i64 (d 5), .int .i64 (d 6), .int .i64 (d 7), .int .i64 (d 8), .int .i64 (d 9)]) (.int .i64 (m : Int))).run Try.prog w = .ok (.int .i64 (d m)) w := by
  match m, hm with
  | 0, _ => show _ = _; kernel_rfl
  | 1, _ => show _ = _; kernel_rfl
  | 2, _ => show _ = _; kernel_rfl
  | 3, _ => show _ = _; kernel_rfl
  | 4, _ => show _ = _; kernel_rfl
  | 5, _ => show _ = _; kernel_rfl
  | 6, _ => show _ = _; kernel_rfl
  | 7, _ => show _ = _; kernel_rfl
  | 8, _ => show _ = _; kernel_rfl
  | 9, _ => show _ = _; kernel_rfl

set_option maxHeartbeats 4000000 in
theorem implBookBase_any (a : Option Addr) (n c : Nat) (E : Nat → En) (lev : Int) (w : World) (hS : IsEns w a n E) (hn : n ≤ maxLen) :
    Calls Try.prog 9 #[.slice a n c, .int .i64 lev] w fun e w' => Below w.heap.size w w' ∧ e = .returned (.int .i64 (bookBase n E lev)) := by
  have hn' := hn
  unfold maxLen at hn
  go_enter Try.func9, Try.ntmps9
  go_wp2_with fail
  refine (implBookOk_any a n c E w hS hn').mono ?_
  rintro e w1 ⟨hb1, rfl⟩
  cases hbk : bookTo E n with
  | false =>
    have HX : Hid (0 = bookBase n E lev) := by show _ = _; unfold bookBase; rw [hbk]; rfl
    clear hbk
    go_wp2
    go_ret
    exact ⟨hb1, ret_i64' HX.out⟩
  | true =>
    have HX : Hid (baseD (datesTo E n) lev 10 = bookBase n E lev) := by show _ = _; unfold bookBase; rw [if_pos hbk, baseD_book lev n hbk]
    go_wp2_with fail
    refine (implDates_any a n c E w1 (hS.below (Nat.le_refl _) hb1) hn' hbk).mono ?_
    rintro e w2 ⟨hb2, rfl⟩
    have HB : Hid (Below w.heap.size w w2) := hb1.trans (hb2.mono hb1.size)
    clear hb1 hb2 hbk
    generalize datesTo E n = d at *
    unfold arrC
    go_wp2
    go_loopw [5, 13] (fun v i wr => ∃ m : Nat, m ≤ 10 ∧ i = .int .i64 m ∧ v = .int .i64 (baseD d lev m) ∧ wr = w2) (fun _ i _ => 10 - (intOf i).toNat)
    case atStart => exact ⟨0, by omega, rfl, rfl, rfl⟩
    case round =>
      obtain ⟨m, hm, rfl, rfl, rfl⟩ := hrel
      by_cases hlt : m < 10
      · have HN : Hid (baseD d lev (m + 1) = if (m : Int) < lev ∧ 0 < d m then d m else baseD d lev m) := rfl
        have hlti : (m : Int) < 10 := by omega
        have hix := index_arr d m hlt
        by_cases h1 : (m : Int) < lev
        · have d1 : decide ((m : Int) < lev) = true := by simp; omega
          by_cases h2 : 0 < d m
          · have d2 : decide (0 < d m) = true := by simp; omega
            have HN2 : Hid (baseD d lev (m + 1) = d m) := by show _ = _; rw [HN.out, if_pos ⟨h1, h2⟩]
            clear h1 h2 HN
            go_wp2
            go_roundw
            case rel => exact ⟨m + 1, by omega, by go_num, by rw [HN2.out], trivial⟩
            case measure => simp [intOf]; omega
          · have d2 : decide (0 < d m) = false := by simp; omega
            have HN2 : Hid (baseD d lev (m + 1) = baseD d lev m) := by show _ = _; rw [HN.out, if_neg (fun h => h2 h.2)]
            clear h1 h2 HN
            go_wp2
            go_roundw
            case rel => exact ⟨m + 1, by omega, by go_num, by rw [HN2.out], trivial⟩
            case measure => simp [intOf]; omega
        · have d1 : decide ((m : Int) < lev) = false := by simp; omega
          have HN2 : Hid (baseD d lev (m + 1) = baseD d lev m) := by show _ = _; rw [HN.out, if_neg (fun h => h1 h.1)]
          clear h1 HN
          go_wp2
          go_roundw
          case rel => exact ⟨m + 1, by omega, by go_num, by rw [HN2.out], trivial⟩
          case measure => simp [intOf]; omega
      · obtain rfl : m = 10 := by omega
        go_wp2
        go_ret
        exact ⟨HB.out, ret_i64' HX.out⟩
end Go.Proofs.Ytkdfimpeghhboaa
