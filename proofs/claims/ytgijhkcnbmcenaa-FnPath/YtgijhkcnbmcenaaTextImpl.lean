/-
  What PathText of the program answers at every list of texts: the text of the way, or the empty text where it is none; nothing that was there turns.
-/
import Derived.Test.YtgijhkcnbmcenaaText
import Derived.Test.YtgijhkcnbmcenaaShelf
namespace Go.Proofs.Ytgijhkcnbmcenaa
open Go.RowKit
set_option linter.unusedVariables false

theorem flat_range (S : Nat → ByteArray) (k : Nat) : joinTo S k = ((List.range k).map fun i => (47 : UInt8) :: (S i).data.toList).flatten := by
  induction k with
  | zero => rfl
  | succ k ih => rw [joinTo_succ, List.range_succ, List.map_append, List.flatten_append, ih]; simp

theorem slash_join (xs : List (List UInt8)) (h : xs ≠ []) : 47 :: Lib.join xs [47] = (xs.map fun x => (47 : UInt8) :: x).flatten := by
  cases xs with
  | nil => exact absurd rfl h
  | cons x r => rw [Lib.join_cons]; simp [Lib.joinTail]

theorem join_is (S : Nat → ByteArray) (n : Nat) (h : n ≠ 0) : 47 :: Lib.join ((List.range n).map fun i => (S i).data.toList) [47] = joinTo S n := by
  rw [slash_join _ (by simp [h]), flat_range, List.map_map]
  rfl

theorem range_at (n : Nat) (S : Nat → ByteArray) (j : Nat) (x : ByteArray) (h : ((List.range n).map S)[j]? = some x) : j < n ∧ x = S j := by
  rw [List.getElem?_map] at h
  by_cases hj : j < n
  · rw [List.getElem?_range hj] at h; simp at h; exact ⟨hj, h.symm⟩
  · rw [List.getElem?_eq_none (by simp; omega)] at h; simp at h

theorem map_bytes (n : Nat) (S : Nat → ByteArray) : ((List.range n).map S).map (·.data.toList) = (List.range n).map fun i => (S i).data.toList := by
  rw [List.map_map]; rfl

theorem join_any (b off n c : Nat) (S : Nat → ByteArray) (w : World) (hlt : b < w.heap.size) (hcl : ∀ i, i < n → w.cell? ⟨b, off + i, none⟩ = some (.string (S i))) (hn : n ≤ 5) (hc : n ≤ c)
    (hj : (Lib.join ((List.range n).map fun i => (S i).data.toList) [47]).length ≤ 25) :
    Calls Try.prog 26 #[.slice (some ⟨b, off, none⟩) n c, .string ⟨#[47]⟩] w fun e w' => e = .returned (.string ⟨(Lib.join ((List.range n).map fun i => (S i).data.toList) [47]).toArray⟩) ∧ Below w.heap.size w w' := by
  have cont := Try.strings_Join b off c ((List.range n).map S) ⟨#[47]⟩ w (fun j x hx => by obtain ⟨h, rfl⟩ := range_at n S j x hx; exact hcl j h) hlt (by simp; omega) (by simpa using hc) (by rw [map_bytes]; show (Lib.join ((List.range n).map fun i => (S i).data.toList) [47]).length ≤ _; omega)
  rw [map_bytes, List.length_map, List.length_range] at cont
  exact cont

set_option maxHeartbeats 400000 in
theorem implPathText_any (a : Option Addr) (n c : Nat) (S : Nat → ByteArray) (w : World) (hS : IsStrs w a n S) (hm : Small n S) (hn : n ≤ maxLen) (hc : n ≤ c) :
    Calls Try.prog 10 #[.slice a n c] w fun e w' => e = .returned (.string ⟨(textOf n S).toArray⟩) ∧ Below w.heap.size w w' := by
  have hn' := hn
  unfold maxLen at hn
  cases hok : pathOk n S
  · go_enter Try.func10, Try.ntmps10
    go_wp2_with fail
    refine (implPathOk_any _ _ _ _ _ hS hm hn').mono ?_
    rintro e w' ⟨rfl, rfl⟩
    go_wp2
    go_ret
    exact ⟨ret_str (by rw [textOf_not hok]), Below.refl _ _⟩
  · have HN : Hid (namesOk n S = true) := by unfold pathOk at hok; simp at hok; exact hok.1
    have h5 : n ≤ 5 := by unfold pathOk at hok; simp at hok; exact hok.2
    have hlen := joinTo_len HN.out n (Nat.le_refl _)
    by_cases h0 : n = 0
    · have HT := textOf_root hok h0
      subst h0
      go_enter Try.func10, Try.ntmps10
      go_wp2_with fail
      refine (implPathOk_any _ _ _ _ _ hS hm hn').mono ?_
      rintro e w' ⟨rfl, rfl⟩
      go_wp2_with fail
      refine (Try.strings_Join_none _ _ _ _).mono ?_
      rintro e w' ⟨rfl, rfl⟩
      go_wp2
      go_ret
      exact ⟨ret_str (by rw [HT]; rfl), Below.refl _ _⟩
    · have HT : Hid (textOf n S = 47 :: Lib.join ((List.range n).map fun i => (S i).data.toList) [47]) := by
        show _ = _
        rw [textOf_way hok h0, join_is S n h0]
      have hjl : (Lib.join ((List.range n).map fun i => (S i).data.toList) [47]).length ≤ 25 := by
        have e := congrArg List.length (join_is S n h0)
        simp only [List.length_cons] at e
        omega
      obtain ⟨b, off, rfl, hlt2, hcl⟩ := hS.at (show 0 < n by omega)
      go_enter Try.func10, Try.ntmps10
      go_wp2_with fail
      refine (implPathOk_any _ _ _ _ _ hS hm hn').mono ?_
      rintro e w' ⟨rfl, rfl⟩
      go_wp2_with fail
      refine (join_any b off n c S _ hlt2 hcl h5 hc hjl).mono ?_
      rintro e w2 ⟨rfl, hb⟩
      generalize Lib.join ((List.range n).map fun i => (S i).data.toList) [47] = J at hjl HT ⊢
      go_wp2
      go_ret
      exact ⟨ret_str (by rw [HT.out]; exact ByteArray.mk_append_mk [47] J), hb⟩
end Go.Proofs.Ytgijhkcnbmcenaa
