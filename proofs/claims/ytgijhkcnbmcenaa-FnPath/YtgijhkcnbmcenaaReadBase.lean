/-
  The way of which a text is the text: plain facts.
-/
import Derived.Test.YtgijhkcnbmcenaaCut
import Derived.Test.YtgijhkcnbmcenaaPath
namespace Go.Proofs.Ytgijhkcnbmcenaa

/-- Whether pieces are the names of a way. -/
def okCut (P : List (List UInt8)) : Bool := P.all nameOk && decide (P.length ≤ 5)
/-- The way of which a text is the text. -/
def readOf (l : List UInt8) : Option (List (List UInt8)) := if l = [47] then some [] else if l.head? = some 47 then (if okCut (cut l.tail) = true then some (cut l.tail) else none) else none

def total (P : List (List UInt8)) : Nat := (P.map fun p => p.length + 1).sum

theorem fold_total (m : List UInt8) : ∀ st : List (List UInt8) × List UInt8, total (m.foldl cstep st).1 + (m.foldl cstep st).2.length = total st.1 + st.2.length + m.length := by
  induction m with
  | nil => intro st; simp
  | cons c m ih =>
    intro st
    rw [List.foldl_cons, ih (cstep st c)]
    unfold cstep
    split
    · simp [total]; omega
    · simp [total]; omega

theorem cut_total (l : List UInt8) : total (cut l) = l.length + 1 := by
  have h := fold_total l ([], [])
  unfold cut cst
  simp [total] at h ⊢
  omega

theorem mem_total {P : List (List UInt8)} {p : List UInt8} (h : p ∈ P) : p.length + 1 ≤ total P := by
  induction P with
  | nil => cases h
  | cons q r ih =>
    rcases List.mem_cons.1 h with rfl | h
    · simp [total]
    · have := ih h
      simp [total] at this ⊢
      omega

/-- A piece is no longer than the text. -/
theorem piece_size {L : List ByteArray} {l : List UInt8} (h : L.map bytes = cut l) (i : Nat) : (L.getD i ByteArray.empty).size ≤ l.length := by
  by_cases hi : i < L.length
  · have hm : bytes L[i] ∈ cut l := by rw [← h]; exact List.mem_map.2 ⟨_, List.getElem_mem hi, rfl⟩
    have h1 := mem_total hm
    have h2 := cut_total l
    have h3 : (bytes L[i]).length = L[i].size := by unfold bytes; simp
    have h4 : L.getD i ByteArray.empty = L[i] := by simp [hi]
    rw [h4]
    omega
  · simp [hi]

theorem name_short {p : List UInt8} (h : nameOk p = true) : p.length ≤ 4 := by
  unfold nameOk at h; simp at h; omega

theorem total_le {P : List (List UInt8)} (h : P.all nameOk = true) : total P ≤ 5 * P.length := by
  induction P with
  | nil => simp [total]
  | cons p r ih =>
    rw [List.all_cons, Bool.and_eq_true] at h
    have := name_short h.1
    have := ih h.2
    simp [total] at this ⊢
    omega

theorem okCut_short {l : List UInt8} (h : okCut (cut l) = true) : l.length ≤ 24 := by
  unfold okCut at h
  rw [Bool.and_eq_true] at h
  have h1 := total_le h.1
  have h2 := of_decide_eq_true h.2
  have h3 := cut_total l
  omega

theorem okCut_len {P : List (List UInt8)} (h : okCut P = true) : P.length ≤ 5 := by
  unfold okCut at h; simp at h; exact h.2

/-- What PathOk answers at a list of texts, told by its bytes. -/
theorem pathOk_cut (L : List ByteArray) : pathOk L.length (fun i => L.getD i ByteArray.empty) = okCut (L.map bytes) := by
  unfold pathOk okCut namesOk
  rw [List.length_map]
  congr 1
  rw [Bool.eq_iff_iff, List.all_eq_true, List.all_eq_true]
  constructor
  · intro h p hp
    obtain ⟨x, hx, rfl⟩ := List.mem_map.1 hp
    obtain ⟨i, hi, rfl⟩ := List.getElem_of_mem hx
    have := h i (by simpa using hi)
    simpa [hi, bytes] using this
  · intro h i hi
    have hi' : i < L.length := by simpa using hi
    have := h (bytes L[i]) (List.mem_map.2 ⟨_, List.getElem_mem hi', rfl⟩)
    simpa [hi', bytes] using this

/-- What a call hands back: a list of texts, told by its bytes, or nothing; and whether it is one. -/
structure Handed (w w' : World) (e : Ending) (a : Option Addr) (n c : Nat) (S : Nat → ByteArray) (R : Option (List (List UInt8))) : Prop where
  ret : e = .returned (.tuple #[.slice a n c, .bool R.isSome])
  len : n = (R.getD []).length
  few : n ≤ 5
  txt : ∀ i, i < n → bytes (S i) = (R.getD []).getD i []
  strs : IsStrs w' a n S
  below : Go.RowKit.Below w.heap.size w w'

theorem read_slash {l : List UInt8} (h : l = [47]) : readOf l = some [] := by unfold readOf; simp [h]
theorem read_none {l : List UInt8} (h : l ≠ [47]) (h2 : l.head? ≠ some 47 ∨ okCut (cut l.tail) = false) : readOf l = none := by
  unfold readOf
  rw [if_neg h]
  rcases h2 with h2 | h2
  · rw [if_neg h2]
  · split
    · rw [if_neg (by rw [h2]; simp)]
    · rfl
theorem read_some {l : List UInt8} (h : l ≠ [47]) (h2 : l.head? = some 47) (h3 : okCut (cut l.tail) = true) : readOf l = some (cut l.tail) := by
  unfold readOf; rw [if_neg h, if_pos h2, if_pos h3]
theorem read_few (l : List UInt8) : ((readOf l).getD []).length ≤ 5 := by
  unfold readOf
  split
  · simp
  · split
    · split
      · rename_i h; simpa using okCut_len h
      · simp
    · simp
end Go.Proofs.Ytgijhkcnbmcenaa
