/-
  What LookMany of the program answers.
-/
import Derived.Test.YtkbccbooiaebfaaManyMath
import Derived.Test.YtkbccbooiaebfaaImplTreeOk
namespace Go.Proofs.Ytkbccbooiaebfaa
open Go.RowKit
set_option linter.unusedVariables false

set_option maxHeartbeats 4000000 in
theorem implLookMany (a : Option Addr) (n c : Nat) (now : Int) (D : Nat → Nd) (L : Nat → Loc) (w : World) (hS : IsNds w a n D L) (hf : FitAll n D) (hn : n ≤ maxLen) (hsz : sizeTo D n ≤ 1048576) (hnow : In64 now) :
    Calls Try.prog 27 #[trV a n c now] w fun e w' => Below w.heap.size w w' ∧ ∃ f d l : Int, e = .returned (.tuple #[.int .i64 f, .int .i64 d, .int .i64 l]) ∧ ManyAre n D now f d l := by
  have hn' := hn
  unfold maxLen at hn'
  unfold trV
  go_enter Try.func27, Try.ntmps27
  go_wp2_with fail
  refine at_world (F := ManyIn w a n c now) ⟨(new1 w _ _).b0, (new1 w _ _).bel⟩ ?_
  intro W hin
  have HIN : Hid (ManyIn w a n c now W) := hin
  clear hin
  refine (implTreeOk a n c now D L W (hS.below (Nat.le_refl _) HIN.out.bel) hf hn hsz hnow).mono ?_
  rintro e w1 ⟨hb1, r, rfl, hr⟩
  have H1 : Hid (ManyIn w a n c now w1 ∧ (r = true ↔ TreeGood n D now)) := ⟨HIN.out.below hb1, hr⟩
  clear HIN hb1 hr
  have t0 : w1.cell? ⟨w.heap.size, 0, none⟩ = some (.slice a n c) := H1.out.1.t.cell 0
  cases r with
  | false =>
    have HN : Hid (¬ TreeGood n D now) := fun h => by have := H1.out.2.2 h; cases this
    go_wp2
    refine bodyPost_ret (v := .tuple #[.int .i64 0, .int .i64 0, .int .i64 0]) (by simp [results, Try.results27, go_sem]) rfl ⟨H1.out.1.bel, 0, 0, 0, rfl, fun h => absurd h HN.out, fun _ => ⟨rfl, rfl, rfl⟩⟩
  | true =>
    have HG : Hid (TreeGood n D now) := H1.out.2.1 rfl
    have HB : Hid (Below w.heap.size w w1) := H1.out.1.bel
    clear H1
    go_wp2
    go_loopw [5, 6, 7, 16] (fun f d l i wr => ∃ k : Nat, k ≤ n ∧ i = .int .i64 k ∧ f = .int .i64 (filesTo D k) ∧ d = .int .i64 (dirsTo D k) ∧ l = .int .i64 (lettersTo D k) ∧ Below w.heap.size w wr) (fun _ _ _ i _ => n - (intOf i).toNat)
    case atStart => exact ⟨0, Nat.zero_le _, rfl, rfl, rfl, rfl, HB.out⟩
    case round =>
      obtain ⟨k, hk, rfl, rfl, rfl, rfl, hbel⟩ := hrel
      have HBr : Hid (Below w.heap.size w wr) := hbel
      have hfk := filesTo_le D k
      have hdk := dirsTo_le D k
      have hlk := lettersTo_le D k
      clear hbel t0
      by_cases hlt : k < n
      · have hki : (k : Int) < (n : Int) := by omega
        have hmono := sizeTo_mono D (show k + 1 ≤ n from hlt)
        rw [sizeTo_succ] at hmono
        have hts : (D k).text.size ≤ (D k).size := by unfold Nd.size; omega
        have HA : Hid (Below w.heap.size w (wr.alloc (.cells #[.int .i64 (D k).kind, .string (D k).text, .slice (L k).nA (D k).nn (L k).nc, .slice (L k).kA (D k).kn (L k).kc, .int .i64 (D k).turn] 76))) := HBr.out.alloc HBr.out.size _
        obtain ⟨b, off, rfl, hlt2, hc⟩ := (hS.below (Nat.le_refl _) HBr.out).at hlt
        obtain ⟨c0, c1, c2, c3, c4, _⟩ := hc k hlt
        clear hc HBr
        by_cases h1 : (D k).kind = 1
        · have HM : Hid (OneMore D k _ _ _) := more_file h1
          have hb1 : ((D k).kind == 1) = true := by simp [h1]
          clear h1
          go_wp2
          go_roundw
          case rel => exact ⟨k + 1, by omega, by go_num, by rw [HM.out.f]; go_num, by rw [HM.out.d], by rw [HM.out.l]; go_num, HA.out⟩
          case measure => simp [intOf]; omega
        · have hb1 : ((D k).kind == 1) = false := by simp [h1]
          by_cases h2 : (D k).kind = 2
          · have HM : Hid (OneMore D k _ _ _) := more_dir h2
            have hb2 : ((D k).kind == 2) = true := by simp [h2]
            clear h1 h2
            go_wp2
            go_roundw
            case rel => exact ⟨k + 1, by omega, by go_num, by rw [HM.out.f], by rw [HM.out.d]; go_num, by rw [HM.out.l], HA.out⟩
            case measure => simp [intOf]; omega
          · have HM : Hid (OneMore D k _ _ _) := more_none h1 h2
            have hb2 : ((D k).kind == 2) = false := by simp [h2]
            clear h1 h2
            go_wp2
            go_roundw
            case rel => exact ⟨k + 1, by omega, by go_num, by rw [HM.out.f], by rw [HM.out.d], by rw [HM.out.l], HA.out⟩
            case measure => simp [intOf]; omega
      · have HK : Hid (k = n) := by show k = n; omega
        go_wp2
        refine bodyPost_ret (v := .tuple #[.int .i64 (filesTo D k), .int .i64 (dirsTo D k), .int .i64 (lettersTo D k)]) (by simp [results, Try.results27, go_sem]) rfl ⟨HBr.out, _, _, _, rfl, fun _ => ?_, fun h => absurd HG.out h⟩
        rw [HK.out]; exact ⟨rfl, rfl, rfl⟩
end Go.Proofs.Ytkbccbooiaebfaa
