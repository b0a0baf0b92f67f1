/-
  What the parts of TreeOk of the specification answer: texts, names, places, one place by itself.
-/
import Derived.Test.YtnnhdcohfabenaaNodesBase
import Derived.Test.YtnnhdcohfabenaaLat
import Derived.Laws.Cover1
namespace Go.Proofs.Ytnnhdcohfabenaa
open Go.RowKit
set_option linter.unusedVariables false

/-- A text that can be in a file. -/
def textOk (s : ByteArray) : Bool := s.data.toList.all letter && decide (s.size ≤ 6)

set_option maxHeartbeats 400000 in
theorem l2Text_any (s : ByteArray) (w : World) (hs : s.size ≤ maxLen) :
    Calls Try.prog 55 #[.string s] w fun e w' => e = .returned (.bool (textOk s)) ∧ w' = w := by
  unfold maxLen at hs
  go_enter Try.func55, Try.ntmps55
  go_wp2
  go_loop [3] (fun i => ∃ k : Nat, k ≤ s.size ∧ i = .int .i64 k ∧ (s.data.toList.take k).all letter = true) (fun i => s.size - (intOf i).toNat)
  case atStart => exact ⟨0, Nat.zero_le _, rfl, rfl⟩
  case round =>
    obtain ⟨k, hk, rfl, ha⟩ := hrel
    have HA : Hid ((s.data.toList.take k).all letter = true) := ha
    clear ha
    by_cases hlt : k < s.size
    · go_wp2
      · go_ret
        exact ⟨ret_bool (by unfold textOk; rw [not_all s k hlt (letter_no ‹_›)]; rfl), rfl⟩
      · go_round
        case rel => exact ⟨k + 1, by omega, by go_num, all_snoc s k hlt HA (letter_yes (by omega) (by omega))⟩
        case measure => simp [intOf]; omega
      · go_ret
        exact ⟨ret_bool (by unfold textOk; rw [not_all s k hlt (letter_no (Or.inl ‹_›))]; rfl), rfl⟩
    · go_wp2
      go_ret
      refine ⟨ret_bool ?_, rfl⟩
      have e : s.data.toList.length = s.size := by simp
      have h := HA.out
      rw [List.take_of_length_le (by omega)] at h
      unfold textOk
      rw [h]
      simp
      omega

/-- The order of texts, by their bytes. -/
def lessEq (s t : ByteArray) : Bool := Op.bytesLess s.toList t.toList || s.toList == t.toList

/-- The names are names, in order, each once: the first k of them. -/
def dirNames (S : Nat → ByteArray) (k : Nat) : Bool := (List.range k).all fun i => nameOk (S i).data.toList && (i == 0 || !lessEq (S i) (S (i - 1)))

theorem dirNames_bad (S : Nat → ByteArray) (k n : Nat) (hk : k < n) (h : (nameOk (S k).data.toList && (k == 0 || !lessEq (S k) (S (k - 1)))) = false) : false = dirNames S n := by
  symm
  rw [Bool.eq_false_iff]
  intro ha
  have := List.all_eq_true.1 ha k (by simpa using hk)
  rw [h] at this
  cases this

theorem dirNames_succ (S : Nat → ByteArray) (k : Nat) (h : dirNames S k = true) (hk : (nameOk (S k).data.toList && (k == 0 || !lessEq (S k) (S (k - 1)))) = true) : dirNames S (k + 1) = true := by
  unfold dirNames at *
  rw [List.range_succ, List.all_append, h]; simpa using hk

theorem dirNames_one (S : Nat → ByteArray) (h : nameOk (S 0).data.toList = true) : dirNames S 1 = true := dirNames_succ S 0 rfl (by rw [h]; rfl)

set_option maxHeartbeats 400000 in
theorem l2Names_any (a : Option Addr) (n c : Nat) (S : Nat → ByteArray) (w : World) (hS : IsStrs w a n S) (hm : Small n S) (hn : n ≤ maxLen) :
    Calls Try.prog 56 #[.slice a n c] w fun e w' => (∃ q, w' = w.drewN q) ∧ e = .returned (.bool (dirNames S n)) := by
  unfold maxLen at hn
  go_enter Try.func56, Try.ntmps56
  go_wp2
  go_loopw [3] (fun i wr => ∃ k q : Nat, k ≤ n ∧ i = .int .i64 k ∧ wr = w.drewN q ∧ dirNames S k = true) (fun i _ => n - (intOf i).toNat)
  case atStart => exact ⟨0, 0, Nat.zero_le _, rfl, rfl, rfl⟩
  case round =>
    obtain ⟨k, q, hk, rfl, hwr, heq⟩ := hrel
    have HE : Hid (dirNames S k = true ∧ wr = w.drewN q) := ⟨heq, hwr⟩
    have hSr : IsStrs wr a n S := by rw [hwr]; exact hS.below (Nat.le_refl _) (below_drewN (Below.refl _ _) _)
    clear heq hwr
    by_cases hlt : k < n
    · obtain ⟨b, off, rfl, hlt2, hc⟩ := hSr.at hlt
      have h1 := hc k hlt
      have hlti : (k : Int) < (n : Int) := by omega
      have hmk := hm k hlt
      have hcall : Hid (∀ q, Calls Try.prog 82 #[.string (S k)] (wr.drewN q) fun e w' => e = .returned (.bool (nameOk (S k).data.toList)) ∧ w' = wr.drewN q) := fun q => specNameOk_any (S k) _ hmk
      cases hnm : nameOk (S k).data.toList with
      | false =>
        rw [hnm] at hcall
        have HN : Hid (nameOk (S k).data.toList = false) := hnm
        clear hc hnm
        go_wp2_with fail
        go_quiet (exact Calls.quiet_of_same (hcall.out _))
        go_wp2
        go_ret
        exact ⟨⟨q + nq, by rw [HE.out.2, World.drewN_drewN]⟩, ret_bool (dirNames_bad S k n hlt (by rw [HN.out]; rfl))⟩
      | true =>
        rw [hnm] at hcall
        have HN : Hid (nameOk (S k).data.toList = true) := hnm
        clear hnm
        by_cases hk0 : k = 0
        · subst hk0
          clear hc
          rw [Nat.add_zero] at h1
          go_wp2_with fail
          go_quiet (exact Calls.quiet_of_same (hcall.out _))
          go_wp2
          go_roundw
          case rel => exact ⟨1, q + nq, by omega, by go_num, by rw [HE.out.2, World.drewN_drewN], dirNames_one S HN.out⟩
          case measure => simp [intOf]; omega
        · have h2 : wr.cell? ⟨b, off + (k - 1), none⟩ = some (.string (S (k - 1))) := hc (k - 1) (by omega)
          have hk0' : decide (0 < k) = true := by simp; omega
          have hk1 : ((k - 1 : Nat) : Int) < (n : Int) := by omega
          have hwr : IntKind.i64.wrap ((k : Int) - 1) = ((k - 1 : Nat) : Int) := by rw [IntKind.wrap_i64]; omega
          clear hc
          go_wp2_with fail
          cases hle : lessEq (S k) (S (k - 1)) with
          | true =>
            have hle' : (Op.bytesLess (S k).toList (S (k - 1)).toList || (S k).toList == (S (k - 1)).toList) = true := hle
            have HL : Hid (lessEq (S k) (S (k - 1)) = true) := hle
            clear hle
            go_quiet (exact Calls.quiet_of_same (hcall.out _))
            go_wp2
            go_ret
            exact ⟨⟨q + nq, by rw [HE.out.2, World.drewN_drewN]⟩, ret_bool (dirNames_bad S k n hlt (by rw [HN.out, HL.out]; simp; omega))⟩
          | false =>
            have hle' : (Op.bytesLess (S k).toList (S (k - 1)).toList || (S k).toList == (S (k - 1)).toList) = false := hle
            have HL : Hid (lessEq (S k) (S (k - 1)) = false) := hle
            clear hle
            go_quiet (exact Calls.quiet_of_same (hcall.out _))
            go_wp2
            go_roundw
            case rel => exact ⟨k + 1, q + nq, by omega, by go_num, by rw [HE.out.2, World.drewN_drewN], dirNames_succ S k HE.out.1 (by rw [HN.out, HL.out]; simp)⟩
            case measure => simp [intOf]; omega
    · have hkn : k = n := by omega
      have HK : Hid (k = n) := hkn
      clear hkn
      go_wp2
      go_ret
      exact ⟨⟨q, HE.out.2⟩, ret_bool (by rw [← HK.out, HE.out.1])⟩
end Go.Proofs.Ytnnhdcohfabenaa
