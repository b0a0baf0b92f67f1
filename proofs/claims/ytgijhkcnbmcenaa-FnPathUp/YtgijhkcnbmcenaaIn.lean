/-
  What PathIn of the program and PathIn of the specification answer at every two lists of texts: whether the first begins with all of the second, in order; neither turns memory.
-/
import Derived.Test.YtgijhkcnbmcenaaSlEq
namespace Go.Proofs.Ytgijhkcnbmcenaa
open Go.RowKit
set_option linter.unusedVariables false

/-- The first has all of the second ahead of its own others. -/
def pathIn (n m : Nat) (S T : Nat → ByteArray) : Bool := decide (m ≤ n) && eqS m S T

set_option maxHeartbeats 400000 in
theorem specPathIn_any (a a' : Option Addr) (n c m c' : Nat) (S T : Nat → ByteArray) (w : World) (hS : IsStrs w a n S) (hT : IsStrs w a' m T) (hn : n ≤ maxLen) (hm : m ≤ maxLen) :
    Calls Try.prog 22 #[.slice a n c, .slice a' m c'] w fun e w' => (∃ q, w' = w.drewN q) ∧ e = .returned (.bool (pathIn n m S T)) := by
  unfold maxLen at hn hm
  by_cases hne : m ≤ n
  · have hb : decide ((n : Int) < (m : Int)) = false := by simp; omega
    go_enter Try.func22, Try.ntmps22
    go_wp2
    go_loopw [5] (fun i wr => ∃ k q : Nat, k ≤ m ∧ i = .int .i64 k ∧ wr = w.drewN q ∧ eqS k S T = true) (fun i _ => m - (intOf i).toNat)
    case atStart => exact ⟨0, 0, Nat.zero_le _, rfl, rfl, rfl⟩
    case round =>
      obtain ⟨k, q, hk, rfl, rfl, heq⟩ := hrel
      have HE : Hid (eqS k S T = true) := heq
      clear heq
      by_cases hlt : k < m
      · obtain ⟨b, off, rfl, hlt2, hc⟩ := hS.at (show k < n by omega)
        obtain ⟨b', off', rfl, hlt2', hc'⟩ := hT.at hlt
        have h1 := hc k (by omega)
        have h2 := hc' k hlt
        have hlti : (k : Int) < (n : Int) := by omega
        have hltm : (k : Int) < (m : Int) := by omega
        clear hc hc'
        go_wp2
        go_quiet (fail)
        go_wp2
        · go_ret
          exact ⟨⟨q + nq, by simp⟩, ret_bool (by unfold pathIn; rw [← eqS_not m k S T hlt ‹_›]; simp)⟩
        · go_roundw
          case rel => exact ⟨k + 1, q + nq, by omega, by go_num, rfl, eqS_succ k S T HE.out ‹_›⟩
          case measure => simp [intOf]; omega
      · have hkn : k = m := by omega
        have HK : Hid (k = m) := hkn
        clear hkn
        go_wp2
        go_ret
        exact ⟨⟨q, rfl⟩, ret_bool (by unfold pathIn; rw [← HK.out, HE.out]; simp; omega)⟩
  · have hb : decide ((n : Int) < (m : Int)) = true := by simp; omega
    go_enter Try.func22, Try.ntmps22
    go_wp2
    go_ret
    exact ⟨⟨0, rfl⟩, ret_bool (by unfold pathIn; simp [hne])⟩

theorem IsStrs.head {w : World} {a : Option Addr} {n : Nat} {S : Nat → ByteArray} (h : IsStrs w a n S) {m : Nat} (hm : m ≤ n) : IsStrs w a m S := by
  rcases h with h | ⟨b, off, ha, hlt, hc⟩
  · exact Or.inl (by omega)
  · exact Or.inr ⟨b, off, ha, hlt, fun i hi => hc i (by omega)⟩

set_option maxHeartbeats 400000 in
theorem implPathIn_any (a a' : Option Addr) (n c m c' : Nat) (S T : Nat → ByteArray) (w : World) (hS : IsStrs w a n S) (hT : IsStrs w a' m T) (hn : n ≤ maxLen) (hm : m ≤ maxLen) (hnc : n ≤ c) (hc : c ≤ maxLen) :
    Calls Try.prog 21 #[.slice a n c, .slice a' m c'] w fun e w' => (∃ q, w' = w.drewN q) ∧ e = .returned (.bool (pathIn n m S T)) := by
  have hn' := hn
  have hm' := hm
  unfold maxLen at hn hm hc
  by_cases hne : m ≤ n
  · have hb : decide ((m : Int) ≤ (n : Int)) = true := by simp; omega
    go_enter Try.func21, Try.ntmps21
    go_wp2_with fail
    refine (slicesEqual_any a a' m c m c' S T _ (hS.head hne) hT hm' hm').mono ?_
    rintro e w1 ⟨⟨q, rfl⟩, rfl⟩
    have HF : Hid ((decide (m = m) && eqS m S T) = pathIn n m S T) := by show _ = _; unfold pathIn; simp [hne]
    rw [HF.out]
    go_wp2
    go_ret
    exact ⟨⟨q, rfl⟩, rfl⟩
  · have hb : decide ((m : Int) ≤ (n : Int)) = false := by simp; omega
    go_enter Try.func21, Try.ntmps21
    go_wp2
    go_ret
    exact ⟨⟨0, rfl⟩, ret_bool (by unfold pathIn; simp [hne])⟩
end Go.Proofs.Ytgijhkcnbmcenaa
