/-
  What PathText of the specification answers at every list of texts: the text of the way, or the empty text where it is none; the world stays.
-/
import Derived.Test.YtgijhkcnbmcenaaPath
namespace Go.Proofs.Ytgijhkcnbmcenaa
open Go.RowKit
set_option linter.unusedVariables false

/-- For each of the first k a slash and it. -/
def joinTo (S : Nat → ByteArray) : Nat → List UInt8 | 0 => [] | k + 1 => joinTo S k ++ 47 :: (S k).data.toList
def pathText (n : Nat) (S : Nat → ByteArray) : List UInt8 := if n = 0 then [47] else joinTo S n
/-- What PathText answers. -/
def textOf (n : Nat) (S : Nat → ByteArray) : List UInt8 := if pathOk n S = true then pathText n S else []

theorem joinTo_succ (S : Nat → ByteArray) (k : Nat) : joinTo S (k + 1) = joinTo S k ++ 47 :: (S k).data.toList := rfl

theorem nameOk_size {s : ByteArray} (h : nameOk s.data.toList = true) : 1 ≤ s.size ∧ s.size ≤ 4 := by
  unfold nameOk at h
  simp at h
  have e : s.data.size = s.size := by simp
  omega

theorem namesOk_at {n : Nat} {S : Nat → ByteArray} (h : namesOk n S = true) {k : Nat} (hk : k < n) : nameOk (S k).data.toList = true :=
  List.all_eq_true.1 h k (by simpa using hk)

theorem joinTo_len {n : Nat} {S : Nat → ByteArray} (h : namesOk n S = true) : ∀ k, k ≤ n → (joinTo S k).length ≤ 5 * k := by
  intro k
  induction k with
  | zero => intro _; simp [joinTo]
  | succ k ih => intro hk; rw [joinTo_succ]; have := ih (by omega); have := nameOk_size (namesOk_at h (show k < n by omega)); simp; omega

theorem ret_str {a b : ByteArray} (h : a = b) : Ending.returned (.string a) = .returned (.string b) := by rw [h]

theorem joinTo_step (S : Nat → ByteArray) (k : Nat) : (⟨(joinTo S k).toArray⟩ : ByteArray) ++ ⟨#[47]⟩ ++ S k = ⟨(joinTo S (k + 1)).toArray⟩ := by
  apply ByteArray.ext
  rw [joinTo_succ]
  simp [ByteArray.data_append]

theorem joinTo_nil (S : Nat → ByteArray) (k : Nat) : (joinTo S k).isEmpty = true → k = 0 := by
  cases k with
  | zero => intro _; rfl
  | succ k => rw [joinTo_succ]; simp

theorem textOf_not {n : Nat} {S : Nat → ByteArray} (h : pathOk n S = false) : textOf n S = [] := by unfold textOf; simp [h]
theorem textOf_root {n : Nat} {S : Nat → ByteArray} (h : pathOk n S = true) (h0 : n = 0) : textOf n S = [47] := by unfold textOf pathText; rw [if_pos h, if_pos h0]
theorem textOf_way {n : Nat} {S : Nat → ByteArray} (h : pathOk n S = true) (h0 : n ≠ 0) : textOf n S = joinTo S n := by unfold textOf pathText; simp [h, h0]

set_option maxHeartbeats 400000 in
theorem specPathText_any (a : Option Addr) (n c : Nat) (S : Nat → ByteArray) (w : World) (hS : IsStrs w a n S) (hm : Small n S) (hn : n ≤ maxLen) :
    Calls Try.prog 12 #[.slice a n c] w fun e w' => e = .returned (.string ⟨(textOf n S).toArray⟩) ∧ w = w' := by
  have hn' := hn
  unfold maxLen at hn
  cases hok : pathOk n S
  · go_enter Try.func12, Try.ntmps12
    go_wp2_with (go_at_call 14; refine (specPathOk_any _ _ _ _ _ hS hm hn').mono ?_; rintro e w' ⟨rfl, rfl⟩)
    go_ret
    exact ⟨ret_str (by rw [textOf_not hok]), rfl⟩
  · have hnames : namesOk n S = true := by unfold pathOk at hok; simp at hok; exact hok.1
    have HN : Hid (namesOk n S = true) := hnames
    clear hnames
    have h5 : n ≤ 5 := by unfold pathOk at hok; simp at hok; exact hok.2
    go_enter Try.func12, Try.ntmps12
    go_wp2_with (go_at_call 14; refine (specPathOk_any _ _ _ _ _ hS hm hn').mono ?_; rintro e w' ⟨rfl, rfl⟩)
    go_loop [3, 4] (fun o i => ∃ k : Nat, k ≤ n ∧ i = .int .i64 k ∧ o = .string ⟨(joinTo S k).toArray⟩) (fun _ i => n - (intOf i).toNat)
    case atStart => exact ⟨0, Nat.zero_le _, rfl, rfl⟩
    case round =>
      obtain ⟨k, hk, rfl, rfl⟩ := hrel
      have hl : (joinTo S k).length ≤ 25 := by have := joinTo_len HN.out k hk; omega
      by_cases hlt : k < n
      · obtain ⟨b, off, rfl, hlt2, hc⟩ := hS.at hlt
        have hck := hc k hlt
        have hmk := (nameOk_size (namesOk_at HN.out hlt)).2
        clear hc
        go_wp2
        go_round
        case rel => exact ⟨k + 1, by omega, by go_num, congrArg Value.string (joinTo_step S k)⟩
        case measure => simp [intOf]; omega
      · have HK : Hid (k = n) := show k = n by omega
        have HO : Hid (pathOk n S = true) := hok
        go_wp2
        · go_ret
          have h0 := joinTo_nil S k ‹_›
          exact ⟨ret_str (by rw [textOf_root HO.out (by rw [← HK.out]; exact h0)]), rfl⟩
        · go_ret
          have h0 : (joinTo S k).isEmpty = false := ‹_›
          exact ⟨ret_str (by rw [textOf_way HO.out (fun h => by rw [HK.out, h] at h0; simp [joinTo] at h0), HK.out]), rfl⟩
end Go.Proofs.Ytgijhkcnbmcenaa
