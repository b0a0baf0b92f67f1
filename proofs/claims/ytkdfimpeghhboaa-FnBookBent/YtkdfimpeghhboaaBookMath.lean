/-
  What a book is, since when a level is kept, and what a book becomes: plain facts.
-/
import Derived.Test.YtkdfimpeghhboaaEntsBase
namespace Go.Proofs.Ytkdfimpeghhboaa
open Go.RowKit
set_option linter.unusedVariables false

/-- An entry is right by itself. -/
def entOk (e : En) : Bool := decide (0 ≤ e.lev ∧ e.lev ≤ 9 ∧ 1 ≤ e.date ∧ e.date ≤ 1000)
theorem entOk_iff {e : En} : entOk e = true ↔ (0 ≤ e.lev ∧ e.lev ≤ 9 ∧ 1 ≤ e.date ∧ e.date ≤ 1000) := by simp [entOk]

/-- It ascends above the one ahead. -/
def above (d e : En) : Bool := decide (d.lev < e.lev ∧ d.date ≤ e.date)
theorem above_iff {d e : En} : above d e = true ↔ (d.lev < e.lev ∧ d.date ≤ e.date) := by simp [above]

/-- The first k are a book. -/
def bookTo (E : Nat → En) : Nat → Bool
  | 0 => true
  | 1 => entOk (E 0)
  | k + 2 => bookTo E (k + 1) && (entOk (E (k + 1)) && above (E k) (E (k + 1)))

theorem bookTo_down {E : Nat → En} : ∀ {k n : Nat}, k ≤ n → bookTo E n = true → bookTo E k = true := by
  intro k n h
  induction h with
  | refl => exact id
  | step h ih =>
    rename_i m
    intro hb
    apply ih
    match m, hb with
    | 0, _ => rfl
    | m + 1, hb => rw [bookTo, Bool.and_eq_true] at hb; exact hb.1

theorem book_not_ok {E : Nat → En} {n k : Nat} (hk : k < n) (h : entOk (E k) = false) : bookTo E n = false := by
  rw [Bool.eq_false_iff]
  intro hb
  have := bookTo_down (show k + 1 ≤ n by omega) hb
  match k, this with
  | 0, this => rw [bookTo, h] at this; cases this
  | k + 1, this => rw [bookTo, h] at this; simp at this

theorem book_not_above {E : Nat → En} {n k : Nat} (hk : k + 1 < n) (h : above (E k) (E (k + 1)) = false) : bookTo E n = false := by
  rw [Bool.eq_false_iff]
  intro hb
  have := bookTo_down (show k + 2 ≤ n by omega) hb
  rw [bookTo, h] at this
  simp at this

theorem book_step {E : Nat → En} {k : Nat} (hb : bookTo E (k + 1) = true) (h : entOk (E (k + 1)) = true) (h2 : above (E k) (E (k + 1)) = true) : bookTo E (k + 2) = true := by
  rw [bookTo, hb, h, h2]; rfl

theorem book_one {E : Nat → En} (h : entOk (E 0) = true) : bookTo E 1 = true := by rw [bookTo, h]

theorem bookTo_congr {E F : Nat → En} : ∀ {n : Nat}, (∀ i, i < n → E i = F i) → bookTo E n = bookTo F n
  | 0, _ => rfl
  | 1, h => by rw [bookTo, bookTo, h 0 (by omega)]
  | n + 2, h => by rw [bookTo, bookTo, bookTo_congr (n := n + 1) (fun i hi => h i (by omega)), h (n + 1) (by omega), h n (by omega)]

theorem book_entOk {E : Nat → En} {n i : Nat} (h : bookTo E n = true) (hi : i < n) : entOk (E i) = true := by
  cases e : entOk (E i) with
  | true => rfl
  | false => rw [book_not_ok hi e] at h; cases h

theorem book_above {E : Nat → En} {n i : Nat} (h : bookTo E n = true) (hi : i + 1 < n) : above (E i) (E (i + 1)) = true := by
  cases e : above (E i) (E (i + 1)) with
  | true => rfl
  | false => rw [book_not_above hi e] at h; cases h

theorem book_lt {E : Nat → En} {n : Nat} (h : bookTo E n = true) : ∀ {i j : Nat}, i < j → j < n → (E i).lev < (E j).lev ∧ (E i).date ≤ (E j).date := by
  intro i j hij
  induction hij with
  | refl => intro hj; exact above_iff.1 (book_above h hj)
  | step hij ih =>
    rename_i m
    intro hj
    have h1 := ih (by omega)
    have h2 := above_iff.1 (book_above h hj)
    show (E i).lev < (E (m + 1)).lev ∧ (E i).date ≤ (E (m + 1)).date
    omega

/-- A book is one if each is right, and each is above the one ahead. -/
theorem book_of {E : Nat → En} : ∀ {n : Nat}, (∀ i, i < n → entOk (E i) = true) → (∀ i, i + 1 < n → above (E i) (E (i + 1)) = true) → bookTo E n = true
  | 0, _, _ => rfl
  | 1, h, _ => book_one (h 0 (by omega))
  | n + 2, h, h2 => book_step (book_of (n := n + 1) (fun i hi => h i (by omega)) (fun i hi => h2 i (by omega))) (h _ (by omega)) (h2 _ (by omega))

/-- A book has at most ten entries. -/
theorem book_few {E : Nat → En} {n : Nat} (h : bookTo E n = true) : n ≤ 10 := by
  have key : ∀ i, i < n → (i : Int) ≤ (E i).lev := by
    intro i
    induction i with
    | zero => intro hi; have := entOk_iff.1 (book_entOk h hi); omega
    | succ i ih => intro hi; have h1 := ih (by omega); have h2 := above_iff.1 (book_above h hi); omega
  by_cases h0 : n = 0
  · omega
  · have h1 := key (n - 1) (by omega)
    have h2 := entOk_iff.1 (book_entOk h (show n - 1 < n by omega))
    omega

/-- Since when a level is kept, as the first k entries tell. -/
def baseTo (E : Nat → En) (lev : Int) : Nat → Int
  | 0 => 0
  | k + 1 => if (E k).lev < lev then (E k).date else baseTo E lev k
def bookBase (n : Nat) (E : Nat → En) (lev : Int) : Int := if bookTo E n = true then baseTo E lev n else 0

/-- When each level was kept, as the first k entries tell; 0, if it was not. -/
def datesTo (E : Nat → En) : Nat → Int → Int
  | 0 => fun _ => 0
  | k + 1 => fun l => if l = (E k).lev then (E k).date else datesTo E k l

theorem dates_here (E : Nat → En) (k : Nat) : datesTo E (k + 1) (E k).lev = (E k).date := by simp [datesTo]
theorem dates_else {E : Nat → En} {k : Nat} {l : Int} (h : ¬ l = (E k).lev) : datesTo E (k + 1) l = datesTo E k l := by simp [datesTo, h]

/-- The last turn at which one of the first m levels below this one was kept. -/
def baseD (d : Int → Int) (lev : Int) : Nat → Int
  | 0 => 0
  | m + 1 => if (m : Int) < lev ∧ 0 < d m then d m else baseD d lev m

theorem dates_above {E : Nat → En} {n : Nat} (h : bookTo E n = true) {l : Int} (hl : ∀ i, i < n → (E i).lev < l) : ∀ k, k ≤ n → datesTo E k l = 0
  | 0, _ => rfl
  | k + 1, hk => by
    have := hl k (by omega)
    rw [dates_else (by omega)]
    exact dates_above h hl k (by omega)

theorem baseD_congr {d e : Int → Int} {lev : Int} : ∀ {m : Nat}, (∀ l : Nat, l < m → d l = e l) → baseD d lev m = baseD e lev m
  | 0, _ => rfl
  | m + 1, h => by rw [baseD, baseD, h m (by omega), baseD_congr (m := m) (fun l hl => h l (by omega))]

/-- Levels that were not kept don't count. -/
theorem baseD_zeros {d : Int → Int} {lev : Int} {k : Nat} : ∀ {m : Nat}, k ≤ m → (∀ l : Nat, k ≤ l → l < m → d l = 0) → baseD d lev m = baseD d lev k := by
  intro m h
  induction h with
  | refl => intro _; rfl
  | step h ih =>
    rename_i m
    intro hz
    rw [baseD, if_neg (by rw [hz m (by omega) (by omega)]; omega)]
    exact ih (fun l h1 h2 => hz l h1 (by omega))

theorem baseD_book {E : Nat → En} (lev : Int) : ∀ n, bookTo E n = true → baseD (datesTo E n) lev 10 = baseTo E lev n
  | 0, _ => by
    rw [baseD_zeros (k := 0) (by omega) (fun l _ _ => rfl)]
    rfl
  | n + 1, h => by
    have hd := bookTo_down (show n ≤ n + 1 by omega) h
    have ih := baseD_book lev n hd
    obtain ⟨h0, h9, h1, h2⟩ := entOk_iff.1 (book_entOk h (show n < n + 1 by omega))
    obtain ⟨L, hL⟩ := Int.eq_ofNat_of_zero_le h0
    have hup : ∀ l : Int, (E n).lev ≤ l → datesTo E n l = 0 := fun l hl => dates_above hd (fun i hi => by have := book_lt h hi (by omega); omega) n (Nat.le_refl _)
    have hbig : baseD (datesTo E (n + 1)) lev 10 = baseD (datesTo E (n + 1)) lev (L + 1) := baseD_zeros (by omega) fun l g1 g2 => by
      rw [dates_else (by omega)]
      exact hup _ (by omega)
    have hold : baseD (datesTo E n) lev 10 = baseD (datesTo E n) lev L := baseD_zeros (by omega) fun l g1 g2 => hup _ (by omega)
    have hlow : baseD (datesTo E (n + 1)) lev L = baseD (datesTo E n) lev L := baseD_congr fun l hl => by rw [dates_else (by omega)]
    have hhere : datesTo E (n + 1) (L : Int) = (E n).date := by rw [← hL]; exact dates_here E n
    rw [hbig, baseD, baseTo, hlow, ← hold, ih, hhere, hL]
    by_cases e : (L : Int) < lev
    · rw [if_pos ⟨e, by omega⟩, if_pos e]
    · rw [if_neg (by omega), if_neg e]
end Go.Proofs.Ytkdfimpeghhboaa
