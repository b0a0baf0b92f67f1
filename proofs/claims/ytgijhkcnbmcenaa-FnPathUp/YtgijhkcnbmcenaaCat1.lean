/-
  A list of texts behind another one: what the laws append, and plain facts on it.
-/
import Derived.Test.YtgijhkcnbmcenaaDraw1In
import Derived.Test.YtgijhkcnbmcenaaIn
import Derived.Test.YtgijhkcnbmcenaaTextImpl
namespace Go.Proofs.Ytgijhkcnbmcenaa
open Go.RowKit
set_option linter.unusedVariables false

/-- The first n of a list, as a list. -/
def lst (n : Nat) (S : Nat → ByteArray) : List ByteArray := (List.range n).map S
theorem lst_length (n : Nat) (S : Nat → ByteArray) : (lst n S).length = n := by simp [lst]
theorem lst_getD (n : Nat) (S : Nat → ByteArray) (i : Nat) (h : i < n) : (lst n S).getD i ByteArray.empty = S i := by simp [lst, h]

/-- One list behind another. -/
def catS (n : Nat) (S T : Nat → ByteArray) : Nat → ByteArray := fun i => if i < n then S i else T (i - n)

theorem cat_getD (n m : Nat) (S T : Nat → ByteArray) (i : Nat) (h : i < n + m) : (lst n S ++ lst m T).getD i ByteArray.empty = catS n S T i := by
  unfold catS
  by_cases hi : i < n
  · simp [hi, lst, List.getElem?_append_left]
  · simp only [if_neg hi, List.getD_eq_getElem?_getD]
    rw [List.getElem?_append_right (by rw [lst_length]; omega), lst_length]
    simp [lst, show i - n < m by omega]

theorem IsStrs.congr {w : World} {a : Option Addr} {n : Nat} {S T : Nat → ByteArray} (h : IsStrs w a n S) (e : ∀ i, i < n → S i = T i) : IsStrs w a n T := by
  rcases h with h | ⟨b, off, ha, hlt, hc⟩
  · exact Or.inl h
  · exact Or.inr ⟨b, off, ha, hlt, fun i hi => by rw [hc i hi, e i hi]⟩

theorem lst_cells {w : World} {g n : Nat} {S : Nat → ByteArray} (hc : ∀ i, i < n → w.cell? ⟨g, 0 + i, none⟩ = some (.string (S i))) :
    ∀ j u, (strv (lst n S))[j]? = some u → w.cell? ((⟨g, 0, none⟩ : Addr).add j) = some u := by
  have := take_cells (w := w) (g := g) (L := lst n S) (fun i hi => by rw [lst_length] at hi; rw [hc i hi, lst_getD n S i hi]) n
  rw [List.take_of_length_le (by rw [lst_length]; exact Nat.le_refl _)] at this
  exact this

theorem strv_lst (n : Nat) (S : Nat → ByteArray) : (strv (lst n S)).length = n * 1 := by rw [strv_length, lst_length]; omega

/-- A way of one's own: a list of texts that lies in memory from block g on. -/
structure Lies (w : World) (g n cap : Nat) (S : Nat → ByteArray) : Prop where
  lt : g < w.heap.size
  cell : ∀ i, i < n → w.cell? ⟨g, 0 + i, none⟩ = some (.string (S i))
  room : n ≤ cap
  most : cap ≤ maxLen
  few : n ≤ 100
  short : ∀ i, i < n → (S i).size ≤ 5

theorem Lies.strs {w : World} {g n cap : Nat} {S : Nat → ByteArray} (h : Lies w g n cap S) : IsStrs w (some ⟨g, 0, none⟩) n S := Or.inr ⟨g, 0, rfl, h.lt, h.cell⟩
theorem Lies.small {w : World} {g n cap : Nat} {S : Nat → ByteArray} (h : Lies w g n cap S) : Small n S := fun i hi => by have := h.short i hi; unfold maxLen; omega
theorem Lies.below {w w' : World} {g n cap : Nat} {S : Nat → ByteArray} (h : Lies w g n cap S) (hb : Below w.heap.size w w') : Lies w' g n cap S :=
  ⟨Nat.lt_of_lt_of_le h.lt hb.size, fun i hi => (hb.cell (p := ⟨g, 0 + i, none⟩) h.lt).trans (h.cell i hi), h.room, h.most, h.few, h.short⟩
theorem Lies.drewN {w : World} {g n cap : Nat} {S : Nat → ByteArray} (h : Lies w g n cap S) (q : Nat) : Lies (w.drewN q) g n cap S := h.below (below_drewN (Below.refl _ _) q)
theorem Lies.len {w : World} {g n cap : Nat} {S : Nat → ByteArray} (h : Lies w g n cap S) : n ≤ maxLen := by have := h.few; unfold maxLen; omega
theorem Drawn.lies {w : World} {g n cap : Nat} {S : Nat → ByteArray} (h : Drawn w g n cap S) : Lies w g n cap S := ⟨h.lt, h.cell, h.room, h.most, by have := h.few; omega, fun i _ => h.short i⟩

theorem OwnsStrs.lies {w : World} {B : Nat} {v : Value} {L : List ByteArray} (h : OwnsStrs w B v L) (n : Nat) (S : Nat → ByteArray) (hn : L.length = n) (hS : ∀ i, i < n → L.getD i ByteArray.empty = S i) (h9 : n ≤ 100) (h5 : ∀ i, i < n → (S i).size ≤ 5) :
    ∃ g cap, v = .slice (some ⟨g, 0, none⟩) n cap ∧ B ≤ g ∧ Lies w g n cap S := by
  subst hn
  obtain ⟨g, cap, hv, hB, hlt, hc, hn, hm⟩ := h.hands
  exact ⟨g, cap, hv, hB, hlt, fun i hi => by rw [hc i hi, hS i hi], hn, hm, h9, h5⟩

theorem cat_right (n : Nat) (S T : Nat → ByteArray) (i : Nat) : catS n S T (n + i) = T i := by
  unfold catS; rw [if_neg (by omega), Nat.add_sub_cancel_left]

theorem in_cat (n m : Nat) (S T : Nat → ByteArray) : pathIn (n + m) n (catS n S T) S = true := by
  unfold pathIn
  rw [eqS_self n _ S (fun i hi => by unfold catS; simp [hi])]
  simp

theorem join_cat (n : Nat) (S T : Nat → ByteArray) : ∀ m, joinTo (catS n S T) (n + m) = joinTo S n ++ joinTo T m := by
  have key : ∀ k, k ≤ n → joinTo (catS n S T) k = joinTo S k := by
    intro k
    induction k with
    | zero => intro _; rfl
    | succ k ih => intro hk; rw [joinTo_succ, joinTo_succ, ih (by omega), show catS n S T k = S k by unfold catS; simp [show k < n by omega]]
  intro m
  induction m with
  | zero => rw [Nat.add_zero, key n (Nat.le_refl _)]; simp [joinTo]
  | succ m ih => rw [← Nat.add_assoc, joinTo_succ, joinTo_succ, ih, cat_right n S T m]; simp

theorem names_cat (n m : Nat) (S T : Nat → ByteArray) : namesOk (n + m) (catS n S T) = (namesOk n S && namesOk m T) := by
  rw [Bool.eq_iff_iff, Bool.and_eq_true]
  unfold namesOk
  simp only [List.all_eq_true, List.mem_range]
  constructor
  · intro h
    refine ⟨fun i hi => ?_, fun i hi => ?_⟩
    · have := h i (by omega); unfold catS at this; simpa [hi] using this
    · have := h (n + i) (by omega); rwa [cat_right] at this
  · rintro ⟨h1, h2⟩ i hi
    unfold catS
    by_cases hin : i < n
    · simpa [hin] using h1 i hin
    · simpa [hin] using h2 (i - n) (by omega)

theorem ok_names {n : Nat} {S : Nat → ByteArray} (h : pathOk n S = true) : namesOk n S = true ∧ n ≤ 5 := by unfold pathOk at h; simpa using h

theorem ok_cat {n m : Nat} {S T : Nat → ByteArray} (h : pathOk (n + m) (catS n S T) = true) : pathOk n S = true ∧ pathOk m T = true := by
  obtain ⟨h1, h2⟩ := ok_names h
  rw [names_cat, Bool.and_eq_true] at h1
  unfold pathOk
  rw [h1.1, h1.2]
  simp; omega

theorem text_len {n : Nat} {S : Nat → ByteArray} : (textOf n S).length ≤ 25 := by
  unfold textOf
  split
  · rename_i h
    obtain ⟨hn, h5⟩ := ok_names h
    unfold pathText
    split
    · simp
    · have := joinTo_len hn n (Nat.le_refl _); omega
  · simp

theorem cat_root_left {m : Nat} {S T : Nat → ByteArray} (h : pathOk (0 + m) (catS 0 S T) = true) : textOf (0 + m) (catS 0 S T) = textOf m T := by
  have hT := (ok_cat h).2
  by_cases hm : m = 0
  · rw [textOf_root h (by omega), textOf_root hT hm]
  · rw [textOf_way h (by omega), textOf_way hT hm, join_cat]; simp [joinTo]
theorem cat_root_right {n : Nat} {S T : Nat → ByteArray} (h : pathOk (n + 0) (catS n S T) = true) : textOf (n + 0) (catS n S T) = textOf n S := by
  have hS := (ok_cat h).1
  by_cases hn : n = 0
  · rw [textOf_root h (by omega), textOf_root hS hn]
  · rw [textOf_way h (by omega), textOf_way hS hn, join_cat]; simp [joinTo]
theorem cat_both {n m : Nat} {S T : Nat → ByteArray} (h : pathOk (n + m) (catS n S T) = true) (hn : n ≠ 0) (hm : m ≠ 0) : textOf (n + m) (catS n S T) = textOf n S ++ textOf m T := by
  rw [textOf_way h (by omega), textOf_way (ok_cat h).1 hn, textOf_way (ok_cat h).2 hm, join_cat]
end Go.Proofs.Ytgijhkcnbmcenaa
