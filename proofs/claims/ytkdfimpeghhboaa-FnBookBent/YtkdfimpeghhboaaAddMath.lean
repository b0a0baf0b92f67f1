/-
  What a book becomes in which a level was kept: plain facts.
-/
import Derived.Test.YtkdfimpeghhboaaBookMath
namespace Go.Proofs.Ytkdfimpeghhboaa
open Go.RowKit
set_option linter.unusedVariables false

/-- Of the first k those with a lesser level. -/
def lessTo (E : Nat → En) (lev : Int) (k : Nat) : List En := (enl k E).filter fun e => decide (e.lev < lev)
theorem less_yes {E : Nat → En} {lev : Int} {k : Nat} (h : (E k).lev < lev) : lessTo E lev (k + 1) = lessTo E lev k ++ [E k] := by simp [lessTo, enl_succ, List.filter_append, h]
theorem less_no {E : Nat → En} {lev : Int} {k : Nat} (h : ¬ (E k).lev < lev) : lessTo E lev (k + 1) = lessTo E lev k := by simp [lessTo, enl_succ, List.filter_append, h]
theorem less_len (E : Nat → En) (lev : Int) (k : Nat) : (lessTo E lev k).length ≤ k := by
  have := List.length_filter_le (fun e : En => decide (e.lev < lev)) (enl k E)
  rw [enl_len] at this
  exact this

/-- The book behind a level that was kept. -/
def addTo (n : Nat) (E : Nat → En) (lev date : Int) : List En := lessTo E lev n ++ [⟨lev, date⟩]
theorem add_len (n : Nat) (E : Nat → En) (lev date : Int) : (addTo n E lev date).length = (lessTo E lev n).length + 1 := by simp [addTo]

/-- A list of entries is a book. -/
def bookL (l : List En) : Bool := bookTo (fun i => l.getD i default) l.length

/-- Of a book the lesser ones are the first ones. -/
theorem less_pre {E : Nat → En} {n : Nat} (h : bookTo E n = true) (lev : Int) : ∀ k, k ≤ n → ∃ m, m ≤ k ∧ lessTo E lev k = enl m E ∧ (∀ i, i < m → (E i).lev < lev) ∧ ∀ i, m ≤ i → i < k → lev ≤ (E i).lev
  | 0, _ => ⟨0, Nat.le_refl _, rfl, fun i hi => by omega, fun i h1 h2 => by omega⟩
  | k + 1, hk => by
    obtain ⟨m, hm, he, h1, h2⟩ := less_pre h lev k (by omega)
    by_cases hl : (E k).lev < lev
    · have hmk : m = k := by
        by_cases e : m = k
        · exact e
        · have h3 := h2 (k - 1) (by omega) (by omega)
          have h4 := book_lt h (show k - 1 < k by omega) (by omega)
          omega
      subst hmk
      exact ⟨m + 1, Nat.le_refl _, by rw [less_yes hl, he, enl_succ], fun i hi => by
        by_cases e : i < m
        · exact h1 i e
        · obtain rfl : i = m := by omega
          exact hl, fun i h1 h2 => by omega⟩
    · exact ⟨m, by omega, by rw [less_no hl, he], h1, fun i h3 h4 => by
        by_cases e : i < k
        · exact h2 i h3 e
        · obtain rfl : i = k := by omega
          omega⟩

theorem getD_enl_lt {m : Nat} {E : Nat → En} {e : En} {i : Nat} (h : i < m) : (enl m E ++ [e]).getD i default = E i := by
  rw [List.getD_eq_getElem?_getD, List.getElem?_append_left (by rw [enl_len]; exact h)]
  simp [enl, h]
theorem getD_enl_at {m : Nat} {E : Nat → En} {e : En} : (enl m E ++ [e]).getD m default = e := by
  rw [List.getD_eq_getElem?_getD, List.getElem?_append_right (by rw [enl_len]; exact Nat.le_refl _), enl_len]
  simp

/-- The last turn of a book. -/
def lastD (n : Nat) (E : Nat → En) : Int := (E (n - 1)).date

/-- A book, an entry that is right and not ahead of the last one: what comes is a book. -/
theorem add_book {E : Nat → En} {n : Nat} (h : bookTo E n = true) {lev date : Int} (hd : n = 0 ∨ lastD n E ≤ date) : bookL (addTo n E lev date) = entOk ⟨lev, date⟩ := by
  obtain ⟨m, hm, he, h1, h2⟩ := less_pre h lev n (Nat.le_refl _)
  unfold bookL
  rw [add_len, he, enl_len]
  unfold addTo
  rw [he]
  cases hok : entOk ⟨lev, date⟩ with
  | false => exact book_not_ok (k := m) (by omega) (by rw [getD_enl_at]; exact hok)
  | true =>
    apply book_of
    · intro i hi
      by_cases e : i < m
      · rw [getD_enl_lt e]; exact book_entOk h (by omega)
      · obtain rfl : i = m := by omega
        rw [getD_enl_at]; exact hok
    · intro i hi
      by_cases e : i + 1 < m
      · rw [getD_enl_lt e, getD_enl_lt (by omega)]; exact book_above h (by omega)
      · obtain rfl : i + 1 = m := by omega
        rw [getD_enl_at, getD_enl_lt (by omega), above_iff]
        refine ⟨h1 i (by omega), ?_⟩
        show (E i).date ≤ date
        rcases hd with hd | hd
        · omega
        · unfold lastD at hd
          by_cases e2 : i = n - 1
          · rw [e2]; exact hd
          · have := book_lt h (show i < n - 1 by omega) (by omega)
            omega

/-- What BookAdd answers. -/
def addOk (n : Nat) (E : Nat → En) (lev date : Int) : Bool := bookTo E n && (entOk ⟨lev, date⟩ && decide (n = 0 ∨ lastD n E ≤ date))

/-- The entries of the first m levels that were kept. -/
def entriesTo (d : Int → Int) : Nat → List En
  | 0 => []
  | m + 1 => if 0 < d m then entriesTo d m ++ [⟨m, d m⟩] else entriesTo d m

theorem entries_len (d : Int → Int) : ∀ m, (entriesTo d m).length ≤ m
  | 0 => by simp [entriesTo]
  | m + 1 => by
    have := entries_len d m
    unfold entriesTo
    split
    · simp; omega
    · omega

theorem entries_congr {d e : Int → Int} : ∀ {m : Nat}, (∀ l : Nat, l < m → d l = e l) → entriesTo d m = entriesTo e m
  | 0, _ => rfl
  | m + 1, h => by rw [entriesTo, entriesTo, h m (by omega), entries_congr (m := m) (fun l hl => h l (by omega))]

theorem entries_zeros {d : Int → Int} {k : Nat} : ∀ {m : Nat}, k ≤ m → (∀ l : Nat, k ≤ l → l < m → d l = 0) → entriesTo d m = entriesTo d k := by
  intro m h
  induction h with
  | refl => intro _; rfl
  | step h ih =>
    rename_i m
    intro hz
    show entriesTo d (m + 1) = _
    rw [entriesTo, if_neg (by rw [hz m (by omega) (by omega)]; omega)]
    exact ih (fun l h1 h2 => hz l h1 (by omega))

/-- The levels below one tell the lesser entries. -/
theorem entries_less {E : Nat → En} {L : Nat} (hL : L ≤ 10) : ∀ n, bookTo E n = true → entriesTo (datesTo E n) L = lessTo E (L : Int) n
  | 0, _ => by
    rw [entries_zeros (k := 0) (by omega) (fun l _ _ => rfl)]
    rfl
  | n + 1, h => by
    have hd := bookTo_down (show n ≤ n + 1 by omega) h
    have ih := entries_less hL n hd
    obtain ⟨h0, h9, h1, h2⟩ := entOk_iff.1 (book_entOk h (show n < n + 1 by omega))
    obtain ⟨K, hK⟩ := Int.eq_ofNat_of_zero_le h0
    have hup : ∀ l : Int, (E n).lev ≤ l → datesTo E n l = 0 := fun l hl => dates_above hd (fun i hi => by have := book_lt h hi (by omega); omega) n (Nat.le_refl _)
    by_cases hl : (E n).lev < (L : Int)
    · rw [less_yes hl, ← ih]
      have hbig : entriesTo (datesTo E (n + 1)) L = entriesTo (datesTo E (n + 1)) (K + 1) := entries_zeros (by omega) fun l g1 g2 => by
        rw [dates_else (by omega)]
        exact hup _ (by omega)
      have hold : entriesTo (datesTo E n) L = entriesTo (datesTo E n) K := entries_zeros (by omega) fun l g1 g2 => hup _ (by omega)
      have hlow : entriesTo (datesTo E (n + 1)) K = entriesTo (datesTo E n) K := entries_congr fun l hl => by rw [dates_else (by omega)]
      have hhere : datesTo E (n + 1) (K : Int) = (E n).date := by rw [← hK]; exact dates_here E n
      rw [hbig, hold, entriesTo, hlow, hhere, if_pos (by omega)]
      have : (⟨(K : Int), (E n).date⟩ : En) = E n := by rw [← hK]
      rw [this]
    · rw [less_no hl, ← ih]
      exact entries_congr fun l g => by rw [dates_else (by omega)]

/-- The turns behind a level that was kept: none at it or above it but its own. -/
def putD (d : Int → Int) (L : Nat) (date : Int) : Int → Int := fun l => if l = (L : Int) then date else if l < (L : Int) then d l else 0

theorem entries_put {E : Nat → En} {n L : Nat} (h : bookTo E n = true) (hL : L < 10) {date : Int} (hd : 0 < date) : entriesTo (putD (datesTo E n) L date) 10 = addTo n E L date := by
  rw [entries_zeros (k := L + 1) (by omega) (fun l g1 g2 => by unfold putD; rw [if_neg (by omega), if_neg (by omega)])]
  unfold addTo
  rw [← entries_less (E := E) (L := L) (by omega) n h, entriesTo]
  have e1 : putD (datesTo E n) L date (L : Int) = date := by simp [putD]
  have e2 : entriesTo (putD (datesTo E n) L date) L = entriesTo (datesTo E n) L := entries_congr fun l g => by unfold putD; rw [if_neg (by omega), if_pos (by omega)]
  rw [e1, e2, if_pos hd]
end Go.Proofs.Ytkdfimpeghhboaa
