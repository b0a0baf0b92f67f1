/-
  What PathOk of the program and PathOk of the specification answer at every list of texts: whether it has at most 5, each of them a name; neither turns the world.
-/
import Derived.Test.YtbifhfnoogjoeaaName
import Derived.Test.YtbifhfnoogjoeaaStrsBase
namespace Go.Proofs.Ytbifhfnoogjoeaa
open Go.RowKit
set_option linter.unusedVariables false

def namesOk (n : Nat) (S : Nat → ByteArray) : Bool := (List.range n).all fun i => nameOk (S i).data.toList
def pathOk (n : Nat) (S : Nat → ByteArray) : Bool := namesOk n S && decide (n ≤ 5)

theorem namesOk_succ (k : Nat) (S : Nat → ByteArray) (h : namesOk k S = true) (hk : nameOk (S k).data.toList = true) : namesOk (k + 1) S = true := by
  unfold namesOk at *
  rw [List.range_succ, List.all_append, h]; simpa using hk

theorem namesOk_not (n k : Nat) (S : Nat → ByteArray) (hk : k < n) (h : nameOk (S k).data.toList = false) : namesOk n S = false := by
  rw [Bool.eq_false_iff]
  intro ha
  have := List.all_eq_true.1 ha k (by simpa using hk)
  simp [this] at h

theorem pathOk_not (n k : Nat) (S : Nat → ByteArray) (hk : k < n) (h : nameOk (S k).data.toList = false) : false = pathOk n S := by
  unfold pathOk; rw [namesOk_not n k S hk h]; rfl

theorem pathOk_end (n : Nat) (S : Nat → ByteArray) (h : namesOk n S = true) : decide ((n : Int) ≤ 5) = pathOk n S := by
  unfold pathOk; rw [h]; simp; omega

set_option maxHeartbeats 400000 in
theorem implPathOk_any (a : Option Addr) (n c : Nat) (S : Nat → ByteArray) (w : World) (hS : IsStrs w a n S) (hm : Small n S) (hn : n ≤ maxLen) :
    Calls Try.prog 35 #[.slice a n c] w fun e w' => e = .returned (.bool (pathOk n S)) ∧ w' = w := by
  unfold maxLen at hn
  by_cases h5 : 5 < n
  · go_enter Try.func35, Try.ntmps35
    go_wp2
    go_ret
    exact ⟨ret_bool (by unfold pathOk; simp; omega), rfl⟩
  · have hd : decide ((5 : Int) < n) = false := by simp; omega
    go_enter Try.func35, Try.ntmps35
    go_wp2
    go_loop [10] (fun i => ∃ k : Nat, k ≤ n ∧ i = .int .i64 k ∧ namesOk k S = true) (fun i => n - (intOf i).toNat)
    case atStart => exact ⟨0, Nat.zero_le _, rfl, rfl⟩
    case round =>
      obtain ⟨k, hk, rfl, ha⟩ := hrel
      have HA : Hid (namesOk k S = true) := ha
      clear ha
      by_cases hlt : k < n
      · obtain ⟨b, off, rfl, hlt2, hc⟩ := hS.at hlt
        have hck := hc k hlt
        have hmk := hm k hlt
        clear hc
        cases hok : nameOk (S k).data.toList
        · go_wp2_with (go_at_call 54; refine (implNameOk_any _ _ hmk).mono ?_; rintro e w' ⟨rfl, rfl⟩)
          go_ret
          exact ⟨ret_bool (pathOk_not n k S hlt hok), rfl⟩
        · go_wp2_with (go_at_call 54; refine (implNameOk_any _ _ hmk).mono ?_; rintro e w' ⟨rfl, rfl⟩)
          go_round
          case rel => exact ⟨k + 1, by omega, by go_num, namesOk_succ k S HA.out hok⟩
          case measure => simp [intOf]; omega
      · have HK : Hid (k = n) := show k = n by omega
        go_wp2
        go_ret
        exact ⟨ret_bool (by rw [← pathOk_end n S (HK.out ▸ HA.out)]; simp; omega), rfl⟩
end Go.Proofs.Ytbifhfnoogjoeaa
