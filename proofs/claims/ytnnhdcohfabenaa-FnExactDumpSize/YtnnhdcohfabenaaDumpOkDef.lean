/-
  When what is kept is right: plain facts.
-/
import Derived.Test.YtnnhdcohfabenaaItemsBase
import Derived.Test.YtnnhdcohfabenaaImplPlace
namespace Go.Proofs.Ytnnhdcohfabenaa
open Go.RowKit
set_option linter.unusedVariables false

/-- A place that there is. -/
def liveIn (n : Nat) (Z : Nat → Bool) (z : Int) : Bool := decide (0 ≤ z) && decide (z < n) && Z z.toNat
/-- .. and that is not the root. -/
def kidIn (n : Nat) (Z : Nat → Bool) (z : Int) : Bool := decide (1 ≤ z) && decide (z < n) && Z z.toNat
def kidsIn (n : Nat) (Z : Nat → Bool) (K : Nat → Int) (k : Nat) : Bool := (List.range k).all fun i => kidIn n Z (K i)

theorem kidsIn_succ {n : Nat} {Z : Nat → Bool} {K : Nat → Int} {k : Nat} (h : kidsIn n Z K k = true) (hk : kidIn n Z (K k) = true) : kidsIn n Z K (k + 1) = true := by
  unfold kidsIn at *
  rw [List.range_succ, List.all_append, h]; simpa using hk

theorem kidsIn_bad {n : Nat} {Z : Nat → Bool} {K : Nat → Int} {k m : Nat} (hk : k < m) (h : kidIn n Z (K k) = false) : kidsIn n Z K m = false := by
  rw [Bool.eq_false_iff]
  intro ha
  have := List.all_eq_true.1 ha k (by simpa using hk)
  rw [h] at this; cases this

/-- What was turned may be there. -/
def nodeIn (d : Dp) (o : Int) (x : Nd) : Bool := if x.kind = 1 then fileIs x && decide (0 < o) else if x.kind = 2 then dirIs x && kidsIn d.ln d.live x.kids x.kn else false
def turnedIn (d : Dp) (x : Nd) : Bool := decide (d.since < x.turn) && decide (x.turn ≤ d.date)
def itIn (d : Dp) (o : Int) (x : Nd) : Bool := liveIn d.ln d.live o && turnedIn d x && nodeIn d o x
/-- The first k are right, and in order. -/
def stepIn (d : Dp) (i : Nat) : Bool := itIn d (d.ino i) (d.nd i) && (i == 0 || decide (d.ino (i - 1) < d.ino i))
def itsIn (d : Dp) (k : Nat) : Bool := (List.range k).all (stepIn d)
def headIn (d : Dp) : Bool := decide (0 ≤ d.since) && decide (d.since ≤ d.date) && (decide (1 ≤ d.date) && decide (d.date ≤ 1000)) && (decide (1 ≤ d.ln) && decide (d.ln ≤ 10)) && d.live 0
def Dp.ok (d : Dp) : Bool := headIn d && itsIn d d.m

theorem itsIn_succ {d : Dp} {k : Nat} (h : itsIn d k = true) (hk : stepIn d k = true) : itsIn d (k + 1) = true := by
  unfold itsIn at *
  rw [List.range_succ, List.all_append, h]; simpa using hk

theorem ok_bad {d : Dp} {k : Nat} (hk : k < d.m) (h : stepIn d k = false) : false = d.ok := by
  have : itsIn d d.m = false := by
    rw [Bool.eq_false_iff]
    intro ha
    have := List.all_eq_true.1 ha k (by simpa using hk)
    rw [h] at this; cases this
  unfold Dp.ok; rw [this]; simp

theorem ok_head {d : Dp} (h : headIn d = false) : false = d.ok := by unfold Dp.ok; rw [h]; rfl

theorem step_item {d : Dp} {k : Nat} (h : itIn d (d.ino k) (d.nd k) = false) : stepIn d k = false := by unfold stepIn; rw [h]; rfl
theorem step_zero {d : Dp} (h : itIn d (d.ino 0) (d.nd 0) = true) : stepIn d 0 = true := by unfold stepIn; rw [h]; rfl
theorem step_low {d : Dp} {k : Nat} (hk : k ≠ 0) (h : d.ino k ≤ d.ino (k - 1)) : stepIn d k = false := by
  unfold stepIn; rw [decide_eq_false (show ¬ d.ino (k - 1) < d.ino k by omega)]; simp [hk]
theorem step_more {d : Dp} {k : Nat} (h : itIn d (d.ino k) (d.nd k) = true) (h' : d.ino (k - 1) < d.ino k) : stepIn d k = true := by
  unfold stepIn; rw [h, decide_eq_true h']; simp

/-- The bits of truth values. -/
def bvv (Z : Nat → Bool) : Nat → Nat | 0 => 0 | k + 1 => bvv Z k + if Z k then 2 ^ k else 0

theorem bvv_lt (Z : Nat → Bool) : ∀ k, bvv Z k < 2 ^ k
  | 0 => by simp [bvv]
  | k + 1 => by
    have := bvv_lt Z k
    rw [bvv, Nat.pow_succ]
    split <;> omega

theorem bvv_test (Z : Nat → Bool) (i : Nat) : ∀ k, (bvv Z k).testBit i = (decide (i < k) && Z i)
  | 0 => by simp [bvv]
  | k + 1 => by
    have hl := bvv_lt Z k
    have ih := bvv_test Z i k
    rw [bvv]
    cases hz : Z k with
    | false =>
      simp only [Bool.false_eq_true, if_false, Nat.add_zero]
      rw [ih]
      by_cases e : i = k
      · subst e; simp [hz]
      · by_cases e2 : i < k
        · simp [e2, show i < k + 1 by omega]
        · simp [e2, show ¬ i < k + 1 by omega]
    | true =>
      simp only [if_true]
      rw [Nat.add_comm]
      by_cases e : i = k
      · subst e
        rw [Nat.testBit_two_pow_add_eq, ih]
        simp [hz]
      · by_cases e2 : i < k
        · rw [Nat.testBit_two_pow_add_gt e2, ih]
          simp [e2, show i < k + 1 by omega]
        · have h1 : 2 ^ k + bvv Z k < 2 ^ i := by
            have : 2 ^ (k + 1) ≤ 2 ^ i := Nat.pow_le_pow_right (by omega) (by omega)
            rw [Nat.pow_succ] at this
            omega
          rw [Nat.testBit_lt_two_pow h1]
          simp [show ¬ i < k + 1 by omega]
end Go.Proofs.Ytnnhdcohfabenaa
