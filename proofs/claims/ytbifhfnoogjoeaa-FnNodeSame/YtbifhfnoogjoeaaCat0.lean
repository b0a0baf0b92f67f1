/-
  A list of texts behind another one: what the laws append. Plain facts.
-/
import Derived.Test.YtbifhfnoogjoeaaDraw1
namespace Go.Proofs.Ytbifhfnoogjoeaa
open Go.RowKit
set_option linter.unusedVariables false

theorem take_cells {w : World} {g : Nat} {L : List ByteArray} (hc : ∀ i, i < L.length → w.cell? ⟨g, 0 + i, none⟩ = some (.string (L.getD i ByteArray.empty))) (k : Nat) :
    ∀ j u, (strv (L.take k))[j]? = some u → w.cell? ((⟨g, 0, none⟩ : Addr).add j) = some u := by
  intro j u h
  rw [show (⟨g, 0, none⟩ : Addr).add j = ⟨g, 0 + j, none⟩ by unfold Addr.add; split <;> simp_all]
  have hj : j < (strv (L.take k)).length := by
    by_cases hh : j < (strv (L.take k)).length
    · exact hh
    · rw [List.getElem?_eq_none (by omega)] at h; cases h
  rw [strv_length, List.length_take] at hj
  rw [hc j (by omega), ← h]
  simp [strv, List.getElem?_take_of_lt (show j < k by omega), show j < L.length by omega]

/-- The first n of a list, as a list. -/
def lst (n : Nat) (S : Nat → ByteArray) : List ByteArray := (List.range n).map S
theorem lst_length (n : Nat) (S : Nat → ByteArray) : (lst n S).length = n := by simp [lst]
theorem lst_getD (n : Nat) (S : Nat → ByteArray) (i : Nat) (h : i < n) : (lst n S).getD i ByteArray.empty = S i := by simp [lst, h]

/-- One list behind another. -/
def catS (n : Nat) (S T : Nat → ByteArray) : Nat → ByteArray := fun i => if i < n then S i else T (i - n)

theorem cat_getD (n m : Nat) (S T : Nat → ByteArray) (i : Nat) (h : i < n + m) : (lst n S ++ lst m T).getD i ByteArray.empty = catS n S T i := by
  unfold catS
  by_cases hi : i < n
  · simp [hi, lst, List.getElem?_append_left]
  · simp only [if_neg hi, List.getD_eq_getElem?_getD]
    rw [List.getElem?_append_right (by rw [lst_length]; omega), lst_length]
    simp [lst, show i - n < m by omega]

theorem IsStrs.congr {w : World} {a : Option Addr} {n : Nat} {S T : Nat → ByteArray} (h : IsStrs w a n S) (e : ∀ i, i < n → S i = T i) : IsStrs w a n T := by
  rcases h with h | ⟨b, off, ha, hlt, hc⟩
  · exact Or.inl h
  · exact Or.inr ⟨b, off, ha, hlt, fun i hi => by rw [hc i hi, e i hi]⟩

theorem lst_cells {w : World} {g n : Nat} {S : Nat → ByteArray} (hc : ∀ i, i < n → w.cell? ⟨g, 0 + i, none⟩ = some (.string (S i))) :
    ∀ j u, (strv (lst n S))[j]? = some u → w.cell? ((⟨g, 0, none⟩ : Addr).add j) = some u := by
  have := take_cells (w := w) (g := g) (L := lst n S) (fun i hi => by rw [lst_length] at hi; rw [hc i hi, lst_getD n S i hi]) n
  rw [List.take_of_length_le (by rw [lst_length]; exact Nat.le_refl _)] at this
  exact this

theorem strv_lst (n : Nat) (S : Nat → ByteArray) : (strv (lst n S)).length = n * 1 := by rw [strv_length, lst_length]; omega

/-- A way of one's own: a list of texts that lies in memory from block g on. -/
structure Lies (w : World) (g n cap : Nat) (S : Nat → ByteArray) : Prop where
  lt : g < w.heap.size
  cell : ∀ i, i < n → w.cell? ⟨g, 0 + i, none⟩ = some (.string (S i))
  room : n ≤ cap
  most : cap ≤ maxLen
  few : n ≤ 100
  short : ∀ i, i < n → (S i).size ≤ 5

theorem Lies.strs {w : World} {g n cap : Nat} {S : Nat → ByteArray} (h : Lies w g n cap S) : IsStrs w (some ⟨g, 0, none⟩) n S := Or.inr ⟨g, 0, rfl, h.lt, h.cell⟩
theorem Lies.small {w : World} {g n cap : Nat} {S : Nat → ByteArray} (h : Lies w g n cap S) : Small n S := fun i hi => by have := h.short i hi; unfold maxLen; omega
theorem Lies.below {w w' : World} {g n cap : Nat} {S : Nat → ByteArray} (h : Lies w g n cap S) (hb : Below w.heap.size w w') : Lies w' g n cap S :=
  ⟨Nat.lt_of_lt_of_le h.lt hb.size, fun i hi => (hb.cell (p := ⟨g, 0 + i, none⟩) h.lt).trans (h.cell i hi), h.room, h.most, h.few, h.short⟩
theorem Lies.drewN {w : World} {g n cap : Nat} {S : Nat → ByteArray} (h : Lies w g n cap S) (q : Nat) : Lies (w.drewN q) g n cap S := h.below (below_drewN (Below.refl _ _) q)
theorem Lies.len {w : World} {g n cap : Nat} {S : Nat → ByteArray} (h : Lies w g n cap S) : n ≤ maxLen := by have := h.few; unfold maxLen; omega
theorem Drawn.lies {w : World} {g n cap : Nat} {S : Nat → ByteArray} (h : Drawn w g n cap S) : Lies w g n cap S := ⟨h.lt, h.cell, h.room, h.most, by have := h.few; omega, fun i _ => h.short i⟩

theorem OwnsStrs.lies {w : World} {B : Nat} {v : Value} {L : List ByteArray} (h : OwnsStrs w B v L) (n : Nat) (S : Nat → ByteArray) (hn : L.length = n) (hS : ∀ i, i < n → L.getD i ByteArray.empty = S i) (h9 : n ≤ 100) (h5 : ∀ i, i < n → (S i).size ≤ 5) :
    ∃ g cap, v = .slice (some ⟨g, 0, none⟩) n cap ∧ B ≤ g ∧ Lies w g n cap S := by
  subst hn
  obtain ⟨g, cap, hv, hB, hlt, hc, hn, hm⟩ := h.hands
  exact ⟨g, cap, hv, hB, hlt, fun i hi => by rw [hc i hi, hS i hi], hn, hm, h9, h5⟩

theorem cat_right (n : Nat) (S T : Nat → ByteArray) (i : Nat) : catS n S T (n + i) = T i := by
  unfold catS; rw [if_neg (by omega), Nat.add_sub_cancel_left]
end Go.Proofs.Ytbifhfnoogjoeaa
