/-
  What namedOnce of the program answers: whether each directory but the root has one name.
-/
import Derived.Test.YtkbccbooiaebfaaImplRefs
namespace Go.Proofs.Ytkbccbooiaebfaa
open Go.RowKit
set_option linter.unusedVariables false

set_option maxHeartbeats 2000000 in
theorem namedOnce_any (a : Option Addr) (n c : Nat) (now : Int) (D : Nat → Nd) (L : Nat → Loc) (w : World) (hS : IsNds w a n D L) (hn : n ≤ 1048576) (hsz : sizeTo D n ≤ 1048576) (hsm : ∀ i, i < n → (D i).kn ≤ maxLen) (hk : ∀ i, i < n → ∀ j, j < (D i).kn → 0 ≤ (D i).kids j ∧ (D i).kids j < n) :
    Calls Try.prog 60 #[trV a n c now] w fun e w' => Below w.heap.size w w' ∧ ∃ r : Bool, e = .returned (.bool r) ∧ (r = true ↔ ∀ i, 1 ≤ i → i < n → (D i).kind = 2 → refsTo D i n = 1) := by
  unfold trV
  go_enter Try.func60, Try.ntmps60
  go_wp2_with fail
  refine at_world (F := New1 w _ _) (new1 w _ _) ?_
  rintro W ⟨hp, hb, hs⟩
  refine (refsOf_any a n c now D L W (hS.below (Nat.le_refl _) hb) hn hsz hsm hk).mono ?_
  rintro e w1 ⟨hb1, rfl, hrow⟩
  have hp1 := hp.below hb1 (by omega)
  have HIN : Hid (RefsIn w a n c now w1 ∧ w1.rowIs (W.heap.size + 1) 3 n (fun j => .int .i64 (refsTo D j n))) := ⟨⟨hp1, hb.trans (hb1.mono (by omega))⟩, hrow⟩
  clear hp hb hs hb1 hrow hp1
  generalize W.heap.size + 1 = bm at *
  go_wp2
  go_loopw [8] (fun i wr => ∃ k : Nat, k ≤ n ∧ i = .int .i64 k ∧ RefsIn w a n c now wr ∧ wr.rowIs bm 3 n (fun j => .int .i64 (refsTo D j n)) ∧ ∀ i, 1 ≤ i → i < k → (D i).kind = 2 → refsTo D i n = 1) (fun i _ => n - (intOf i).toNat)
  case atStart => exact ⟨0, Nat.zero_le _, rfl, HIN.out.1, HIN.out.2, fun i h1 h2 => by omega⟩
  case round =>
    obtain ⟨k, hk', rfl, hin, hrow, hall⟩ := hrel
    by_cases hlt : k < n
    · have hSr := hS.below (Nat.le_refl _) hin.bel
      obtain ⟨b, off, rfl, hlt2, hc⟩ := hSr.at hlt
      have c0 := (hc k hlt).1
      have t0 : wr.cell? ⟨w.heap.size, 0, none⟩ = some (.slice (some ⟨b, off, none⟩) n c) := hin.t.cell 0
      have hki : (k : Int) < (n : Int) := by omega
      have rc : wr.cell? ⟨bm, k, none⟩ = some (.int .i64 (refsTo D k n)) := hrow.cell hlt
      have HR : Hid (RefsIn w (some ⟨b, off, none⟩) n c now wr ∧ wr.rowIs bm 3 n (fun j => .int .i64 (refsTo D j n)) ∧ ∀ i, 1 ≤ i → i < k → (D i).kind = 2 → refsTo D i n = 1) := ⟨hin, hrow, hall⟩
      clear hc hin hrow hall hSr HIN
      by_cases hk0 : k = 0
      · subst hk0
        rw [Nat.zero_mul, Nat.add_zero] at c0
        go_wp2
        go_roundw
        case rel => exact ⟨1, by omega, by go_num, HR.out.1, HR.out.2.1, fun i h1 h2 => by omega⟩
        case measure => simp [intOf]; omega
      · have hkb : ((k : Int) != 0) = true := by simp; omega
        cases hd2 : ((D k).kind == 2) with
        | false =>
          have H2 : Hid (¬ (D k).kind = 2) := show ¬ (D k).kind = 2 by simpa using hd2
          go_wp2
          go_roundw
          case rel => exact ⟨k + 1, by omega, by go_num, HR.out.1, HR.out.2.1, fun i h1 h2 h3 => by
            by_cases e : i = k
            · subst e; exact absurd h3 H2.out
            · exact HR.out.2.2 i h1 (by omega) h3⟩
          case measure => simp [intOf]; omega
        | true =>
          have H2 : Hid ((D k).kind = 2) := show (D k).kind = 2 by simpa using hd2
          by_cases hr1 : refsTo D k n = 1
          · have hrb : (((refsTo D k n : Nat) : Int) != 1) = false := by simp [hr1]
            have HX : Hid (refsTo D k n = 1) := hr1
            clear hr1
            go_wp2
            go_roundw
            case rel => exact ⟨k + 1, by omega, by go_num, HR.out.1, HR.out.2.1, fun i h1 h2 h3 => by
              by_cases e : i = k
              · subst e; exact HX.out
              · exact HR.out.2.2 i h1 (by omega) h3⟩
            case measure => simp [intOf]; omega
          · have hrb : (((refsTo D k n : Nat) : Int) != 1) = true := by simp; omega
            have HX : Hid (¬ refsTo D k n = 1) := hr1
            clear hr1
            go_wp2
            go_ret
            exact ⟨HR.out.1.bel, false, rfl, fun h => (by cases h), fun h => absurd (h k (by omega) hlt H2.out) HX.out⟩
    · have HALL : Hid (Below w.heap.size w wr ∧ ∀ i, 1 ≤ i → i < n → (D i).kind = 2 → refsTo D i n = 1) := ⟨hin.bel, fun i h1 h2 h3 => hall i h1 (by omega) h3⟩
      clear hin hrow hall HIN
      go_wp2
      go_ret
      exact ⟨HALL.out.1, true, rfl, fun _ => HALL.out.2, fun _ => rfl⟩
end Go.Proofs.Ytkbccbooiaebfaa
