/-
  What the library's CutPrefix answers at the head of a piece's text.
-/
import Derived.Test.YtjlldefajgmelaaDoorScanMath
namespace Go.Proofs.YtjlldefajgmelaaDoor
open Go.RowKit
set_option linter.unusedVariables false

def volP : ByteArray := ⟨#[118, 111, 108, 32]⟩
def hasVol (s : ByteArray) : Bool := decide (4 ≤ s.size) && ((s.extract 0 4).toList == volP.toList)

set_option maxHeartbeats 400000 in
theorem hasPrefix_vol (s : ByteArray) (w : World) (hs : s.size ≤ maxLen) :
    Calls Tryd.prog 41 #[.string s, .string ⟨#[118, 111, 108, 32]⟩] w fun e w' => e = .returned (.bool (hasVol s)) ∧ w' = w := by
  unfold maxLen at hs
  by_cases h4 : 4 ≤ s.size
  · have d1 : decide ((4 : Int) ≤ (s.size : Int)) = true := decide_eq_true (by omega)
    have HX : Hid (((s.extract 0 4).toList == [118, 111, 108, 32]) = hasVol s) := by
      show _ = _
      unfold hasVol
      rw [decide_eq_true h4, Bool.true_and, show volP.toList = [118, 111, 108, 32] from by simp [volP]]
    generalize hasVol s = r at *
    go_enter Tryd.func41, Tryd.ntmps41
    go_wp2
    go_ret
    exact ⟨ret_bool HX.out, rfl⟩
  · have d1 : decide ((4 : Int) ≤ (s.size : Int)) = false := decide_eq_false (by omega)
    have HX : Hid (false = hasVol s) := by
      show _ = _
      unfold hasVol
      rw [decide_eq_false h4]; rfl
    generalize hasVol s = r at *
    go_enter Tryd.func41, Tryd.ntmps41
    go_wp2
    go_ret
    exact ⟨ret_bool HX.out, rfl⟩

set_option maxHeartbeats 400000 in
theorem cutPrefix_in (s : ByteArray) (w : World) (hs : s.size ≤ maxLen) :
    Calls Tryd.prog 36 #[.string s, .string ⟨#[118, 111, 108, 32]⟩] w fun e w' => e = .returned (.tuple #[.string (if hasVol s = true then s.extract 4 s.size else s), .bool (hasVol s)]) ∧ w' = w := by
  have hsm := hs
  unfold maxLen at hs
  have h4 : hasVol s = true → 4 ≤ s.size := fun h => by
    unfold hasVol at h
    simp only [Bool.and_eq_true, decide_eq_true_eq] at h
    exact h.1
  have HP : Hid (∀ W, Calls Tryd.prog 41 #[.string s, .string ⟨#[118, 111, 108, 32]⟩] W fun e w' => e = .returned (.bool (hasVol s)) ∧ w' = W) := fun W => hasPrefix_vol s W hsm
  cases hh : hasVol s with
  | false =>
    rw [hh] at HP
    rw [if_neg (by simp)]
    clear h4
    go_enter Tryd.func36, Tryd.ntmps36
    go_wp2_with fail
    refine (HP.out _).mono ?_
    rintro e w1 ⟨rfl, rfl⟩
    go_wp2
    go_ret2
    exact ⟨rfl, rfl⟩
  | true =>
    rw [hh] at HP
    rw [if_pos rfl]
    have h4' := h4 hh
    have h4i : (4 : Int) ≤ (s.size : Int) := by omega
    clear h4 hh
    go_enter Tryd.func36, Tryd.ntmps36
    go_wp2_with fail
    refine (HP.out _).mono ?_
    rintro e w1 ⟨rfl, rfl⟩
    go_wp2
    go_ret2
    exact ⟨rfl, rfl⟩

set_option maxHeartbeats 400000 in
theorem cutPrefix_vol (s : ByteArray) (w : World) (hs : s.size ≤ maxLen) :
    Calls Tryd.prog 31 #[.string s, .string ⟨#[118, 111, 108, 32]⟩] w fun e w' => e = .returned (.tuple #[.string (if hasVol s = true then s.extract 4 s.size else s), .bool (hasVol s)]) ∧ w' = w := by
  have HC : Hid (∀ W, Calls Tryd.prog 36 #[.string s, .string ⟨#[118, 111, 108, 32]⟩] W fun e w' => e = .returned (.tuple #[.string (if hasVol s = true then s.extract 4 s.size else s), .bool (hasVol s)]) ∧ w' = W) := fun W => cutPrefix_in s W hs
  generalize hasVol s = r at *
  generalize (if r = true then s.extract 4 s.size else s) = t at *
  go_enter Tryd.func31, Tryd.ntmps31
  go_wp2_with fail
  refine (HC.out _).mono ?_
  rintro e w1 ⟨rfl, rfl⟩
  go_wp2
  go_ret2
  exact ⟨rfl, rfl⟩

/-- A text that begins with the four letters. -/
theorem hasVol_of {s : ByteArray} {l : List UInt8} (h : bytes s = [118, 111, 108, 32] ++ l) : hasVol s = true ∧ bytes (s.extract 4 s.size) = l := by
  have hl : s.data.toList.length = s.size := by simp
  have hb : s.data.toList = [118, 111, 108, 32] ++ l := h
  have hsz : 4 ≤ s.size := by rw [← hl, hb]; simp
  constructor
  · unfold hasVol
    rw [decide_eq_true hsz, Bool.true_and]
    have e : s.extract 0 4 = volP := by
      apply ByteArray.ext
      apply Array.toList_inj.1
      have := bytes_cut s 0 4
      unfold bytes at this
      rw [this, hb]
      rfl
    rw [e]; simp
  · rw [bytes_cut, List.take_of_length_le (by omega), hb]
    rfl
end Go.Proofs.YtjlldefajgmelaaDoor
