/-
  What LookMany of the specification answers.
-/
import Derived.Test.YtkbccbooiaebfaaManyMath
namespace Go.Proofs.Ytkbccbooiaebfaa
open Go.RowKit
set_option linter.unusedVariables false

set_option maxHeartbeats 4000000 in
theorem specLookMany_any (a : Option Addr) (n c : Nat) (now : Int) (D : Nat → Nd) (L : Nat → Loc) (w : World) (hS : IsNds w a n D L) (hf : FitAll n D) (hn : n ≤ maxLen) (hsz : sizeTo D n ≤ 1048576) :
    Calls Try.prog 26 #[trV a n c now] w fun e w' => Below w.heap.size w w' ∧ ∃ f d l : Int, e = .returned (.tuple #[.int .i64 f, .int .i64 d, .int .i64 l]) ∧ ManyAre n D now f d l := by
  have hn' := hn
  unfold maxLen at hn'
  unfold trV
  go_enter Try.func26, Try.ntmps26
  go_wp2_with fail
  go_loopw [5, 6, 7, 8] (fun f d l i wr => ∃ k : Nat, k ≤ n ∧ i = .int .i64 k ∧ f = .int .i64 (filesTo D k) ∧ d = .int .i64 (dirsTo D k) ∧ l = .int .i64 (lettersTo D k) ∧ ManyIn w a n c now wr ∧ (k = 0 ∨ TreeGood n D now)) (fun _ _ _ i _ => n - (intOf i).toNat)
  case atStart => exact ⟨0, Nat.zero_le _, rfl, rfl, rfl, rfl, ⟨(new1 w _ _).b0, (new1 w _ _).bel⟩, Or.inl rfl⟩
  case round =>
    obtain ⟨k, hk, rfl, rfl, rfl, rfl, hin, hkg⟩ := hrel
    have t0 : wr.cell? ⟨w.heap.size, 0, none⟩ = some (.slice a n c) := hin.t.cell 0
    have t1 : wr.cell? ⟨w.heap.size, 1, none⟩ = some (.int .i64 now) := hin.t.cell 1
    have HIN : Hid (ManyIn w a n c now wr ∧ (k = 0 ∨ TreeGood n D now)) := ⟨hin, hkg⟩
    have hfk := filesTo_le D k
    have hdk := dirsTo_le D k
    have hlk := lettersTo_le D k
    clear hin hkg
    by_cases hlt : k < n
    · have hki : (k : Int) < (n : Int) := by omega
      have hmono := sizeTo_mono D (show k + 1 ≤ n from hlt)
      rw [sizeTo_succ] at hmono
      have hts : (D k).text.size ≤ (D k).size := by unfold Nd.size; omega
      go_wp2_with fail
      refine (specTreeOk_any a n c now D L wr (hS.below (Nat.le_refl _) HIN.out.1.bel) hf hn hsz).mono ?_
      rintro e w1 ⟨hb1, r, rfl, hr⟩
      have H1 : Hid (ManyIn w a n c now w1 ∧ (k = 0 ∨ TreeGood n D now) ∧ (r = true ↔ TreeGood n D now)) := ⟨HIN.out.1.below hb1, HIN.out.2, hr⟩
      clear HIN hb1 hr t0 t1
      have t0 : w1.cell? ⟨w.heap.size, 0, none⟩ = some (.slice a n c) := H1.out.1.t.cell 0
      have t1 : w1.cell? ⟨w.heap.size, 1, none⟩ = some (.int .i64 now) := H1.out.1.t.cell 1
      cases r with
      | false =>
        have HN : Hid (¬ TreeGood n D now ∧ k = 0) := by
          have h1 : ¬ TreeGood n D now := fun h => by have := H1.out.2.2.2 h; cases this
          exact ⟨h1, H1.out.2.1.resolve_right h1⟩
        go_wp2
        refine bodyPost_ret (v := .tuple #[.int .i64 (filesTo D k), .int .i64 (dirsTo D k), .int .i64 (lettersTo D k)]) (by simp [results, Try.results26, go_sem]) rfl ⟨H1.out.1.bel, _, _, _, rfl, fun h => absurd h HN.out.1, fun _ => ?_⟩
        rw [HN.out.2]
        exact ⟨rfl, rfl, rfl⟩
      | true =>
        have HG : Hid (TreeGood n D now) := H1.out.2.2.1 rfl
        obtain ⟨b, off, rfl, hlt2, hc⟩ := (hS.below (Nat.le_refl _) H1.out.1.bel).at hlt
        obtain ⟨c0, c1, _, _, _, _⟩ := hc k hlt
        clear hc
        by_cases h1 : (D k).kind = 1
        · have HM : Hid (OneMore D k _ _ _) := more_file h1
          have hb1 : ((D k).kind == 1) = true := by simp [h1]
          clear h1
          go_wp2
          go_roundw
          case rel => exact ⟨k + 1, by omega, by go_num, by rw [HM.out.f]; go_num, by rw [HM.out.d], by rw [HM.out.l]; go_num, H1.out.1, Or.inr HG.out⟩
          case measure => simp [intOf]; omega
        · have hb1 : ((D k).kind == 1) = false := by simp [h1]
          by_cases h2 : (D k).kind = 2
          · have HM : Hid (OneMore D k _ _ _) := more_dir h2
            have hb2 : ((D k).kind == 2) = true := by simp [h2]
            clear h1 h2
            go_wp2
            go_roundw
            case rel => exact ⟨k + 1, by omega, by go_num, by rw [HM.out.f], by rw [HM.out.d]; go_num, by rw [HM.out.l], H1.out.1, Or.inr HG.out⟩
            case measure => simp [intOf]; omega
          · have HM : Hid (OneMore D k _ _ _) := more_none h1 h2
            have hb2 : ((D k).kind == 2) = false := by simp [h2]
            clear h1 h2
            go_wp2
            go_roundw
            case rel => exact ⟨k + 1, by omega, by go_num, by rw [HM.out.f], by rw [HM.out.d], by rw [HM.out.l], H1.out.1, Or.inr HG.out⟩
            case measure => simp [intOf]; omega
    · have HK : Hid (k = n) := by show k = n; omega
      go_wp2
      refine bodyPost_ret (v := .tuple #[.int .i64 (filesTo D k), .int .i64 (dirsTo D k), .int .i64 (lettersTo D k)]) (by simp [results, Try.results26, go_sem]) rfl ⟨HIN.out.1.bel, _, _, _, rfl, fun h => ?_, fun h => ?_⟩
      · rw [HK.out]; exact ⟨rfl, rfl, rfl⟩
      · rw [HIN.out.2.resolve_right h]; exact ⟨rfl, rfl, rfl⟩
end Go.Proofs.Ytkbccbooiaebfaa
