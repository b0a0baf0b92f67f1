/-
  What l2Refs of the specification answers: how many names a place has.
-/
import Derived.Test.YtnnhdcohfabenaaSpecNode
namespace Go.Proofs.Ytnnhdcohfabenaa
open Go.RowKit
set_option linter.unusedVariables false

/-- How many of the first k are z. -/
def cnt (Z : Nat → Int) (z : Int) : Nat → Nat | 0 => 0 | k + 1 => cnt Z z k + (if Z k = z then 1 else 0)
/-- How many names a place has in the first i directories. -/
def refsTo (D : Nat → Nd) (z : Int) : Nat → Nat | 0 => 0 | i + 1 => refsTo D z i + cnt (D i).kids z (D i).kn

theorem cnt_le (Z : Nat → Int) (z : Int) (k : Nat) : cnt Z z k ≤ k := by
  induction k with
  | zero => exact Nat.le_refl _
  | succ k ih => unfold cnt; split <;> omega

theorem refsTo_le (D : Nat → Nd) (z : Int) (i : Nat) : refsTo D z i ≤ sizeTo D i := by
  induction i with
  | zero => exact Nat.le_refl _
  | succ i ih =>
    unfold refsTo
    rw [sizeTo_succ]
    have := cnt_le (D i).kids z (D i).kn
    unfold Nd.size
    omega

theorem sizeTo_mono (D : Nat → Nd) {i j : Nat} (h : i ≤ j) : sizeTo D i ≤ sizeTo D j := by
  induction j with
  | zero => have : i = 0 := by omega
            subst this; exact Nat.le_refl _
  | succ j ih =>
    by_cases e : i = j + 1
    · subst e; exact Nat.le_refl _
    · have := ih (by omega)
      rw [sizeTo_succ]; omega

/-- What is known within l2Refs. -/
structure RefsIn (w : World) (a : Option Addr) (n c : Nat) (now : Int) (W : World) : Prop where
  t : Blk W w.heap.size #[.slice a n c, .int .i64 now] 42
  bel : Below w.heap.size w W

theorem RefsIn.drew {w : World} {a : Option Addr} {n c : Nat} {now : Int} {W : World} (h : RefsIn w a n c now W) (q : Nat) : RefsIn w a n c now (W.drewN q) := ⟨h.t, below_drewN h.bel q⟩

set_option maxHeartbeats 1000000 in
theorem l2Refs_any (a : Option Addr) (n c : Nat) (now ino : Int) (D : Nat → Nd) (L : Nat → Loc) (w : World) (hS : IsNds w a n D L) (hsz : sizeTo D n ≤ 1048576) (hn : n ≤ maxLen) :
    Calls Try.prog 66 #[trV a n c now, .int .i64 ino] w fun e w' => Below w.heap.size w w' ∧ e = .returned (.int .i64 (refsTo D ino n)) := by
  unfold maxLen at hn
  unfold trV
  go_enter Try.func66, Try.ntmps66
  go_wp2
  go_loopw [5, 6] (fun r i wr => ∃ k : Nat, k ≤ n ∧ i = .int .i64 k ∧ r = .int .i64 (refsTo D ino k) ∧ RefsIn w a n c now wr) (fun _ i _ => n - (intOf i).toNat)
  case atStart => exact ⟨0, Nat.zero_le _, rfl, rfl, (new1 w _ _).b0, (new1 w _ _).bel⟩
  case round =>
    obtain ⟨k, hk, rfl, rfl, hin⟩ := hrel
    have t0 : wr.cell? ⟨w.heap.size, 0, none⟩ = some (.slice a n c) := hin.t.cell 0
    by_cases hlt : k < n
    · have HIN : Hid (RefsIn w a n c now wr) := hin
      have hSr := hS.below (Nat.le_refl _) hin.bel
      have hrk := refsTo_le D ino k
      have hmono := sizeTo_mono D (show k + 1 ≤ n from hlt)
      rw [sizeTo_succ] at hmono
      have hkk : (D k).kn ≤ (D k).size := by unfold Nd.size; omega
      clear hin
      go_wp2_with fail
      go_loopw [5, 7] (fun r i wr => ∃ j : Nat, j ≤ (D k).kn ∧ i = .int .i64 j ∧ r = .int .i64 ((refsTo D ino k + cnt (D k).kids ino j : Nat) : Int) ∧ RefsIn w a n c now wr) (fun _ i _ => (D k).kn - (intOf i).toNat)
      case atStart => exact ⟨0, Nat.zero_le _, rfl, rfl, HIN.out⟩
      case round =>
        obtain ⟨j, hj, rfl, rfl, hin⟩ := hrel
        have t0 : wr.cell? ⟨w.heap.size, 0, none⟩ = some (.slice a n c) := hin.t.cell 0
        have hSr := hS.below (Nat.le_refl _) hin.bel
        obtain ⟨b, off, ha, hlt2, hc⟩ := hSr.at hlt
        obtain ⟨_, _, _, c3, _, hI⟩ := hc k hlt
        have HIN : Hid (RefsIn w a n c now wr) := hin
        rw [ha] at t0
        have hlti : (k : Int) < (n : Int) := by omega
        have hcj := cnt_le (D k).kids ino j
        clear hc hin hSr
        by_cases hltj : j < (D k).kn
        · obtain ⟨b', off', ha', hlt2', hc'⟩ := hI.2.at hltj
          have h1 := hc' j hltj
          rw [ha'] at c3
          clear hc' hI
          by_cases hz : (D k).kids j = ino
          · have hzb : ((D k).kids j == ino) = true := by simp [hz]
            have HZ : Hid (cnt (D k).kids ino (j + 1) = cnt (D k).kids ino j + 1) := by show cnt (D k).kids ino (j + 1) = _; rw [cnt, if_pos hz]
            clear hz
            go_wp2
            go_roundw
            case rel => exact ⟨j + 1, by omega, by go_num, by rw [HZ.out]; go_num, HIN.out⟩
            case measure => simp [intOf]; omega
          · have hzb : ((D k).kids j == ino) = false := by simp [hz]
            have HZ : Hid (cnt (D k).kids ino (j + 1) = cnt (D k).kids ino j) := by show cnt (D k).kids ino (j + 1) = _; rw [cnt, if_neg hz]; rfl
            clear hz
            go_wp2
            go_roundw
            case rel => exact ⟨j + 1, by omega, by go_num, by rw [HZ.out], HIN.out⟩
            case measure => simp [intOf]; omega
        · have hje : j = (D k).kn := by omega
          have HZ : Hid (refsTo D ino (k + 1) = refsTo D ino k + cnt (D k).kids ino j) := by show refsTo D ino (k + 1) = _; rw [refsTo, hje]
          clear hje
          go_wp2
          go_roundw
          case rel => exact ⟨k + 1, by omega, by go_num, by rw [HZ.out], HIN.out⟩
          case measure => simp [intOf]; omega
    · have hke : k = n := by omega
      have HK : Hid (refsTo D ino k = refsTo D ino n ∧ Below w.heap.size w wr) := ⟨by rw [hke], hin.bel⟩
      clear hke hin
      go_wp2
      go_ret
      exact ⟨HK.out.2, by rw [HK.out.1]; rfl⟩
end Go.Proofs.Ytnnhdcohfabenaa
