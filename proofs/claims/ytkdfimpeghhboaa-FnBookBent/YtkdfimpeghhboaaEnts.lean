/-
  What the helpers of the exact laws do at a book that lies in memory: counting it, copying it, holding two against each other, marking one.
-/
import Derived.Test.YtkdfimpeghhboaaEntsBase
import Derived.Test.YtkdfimpeghhboaaNodesDef
namespace Go.Proofs.Ytkdfimpeghhboaa
open Go.RowKit Go.Deep
set_option linter.unusedVariables false
set_option linter.unusedSimpArgs false

/-- n entries lie in a block of their own, the first k of them laid. -/
def EnRow (w : World) (b n k : Nat) (E : Nat → En) : Prop :=
  ∃ g, w.rowIs b 30 (n * 2) g ∧ ∀ i, i < k → g (i * 2) = .int .i64 (E i).lev ∧ g (i * 2 + 1) = .int .i64 (E i).date

theorem EnRow.below {w w' : World} {b n k : Nat} {E : Nat → En} (h : EnRow w b n k E) {B : Nat} (hb : Below B w w') (hB : b < B) : EnRow w' b n k E := by
  obtain ⟨g, hr, hg⟩ := h
  exact ⟨g, rowIs_below hr hb hB, hg⟩

theorem EnRow.step {w : World} {b n k : Nat} {E : Nat → En} (h : EnRow w b n k E) :
    EnRow ((w.setCell ⟨b, k * 2, none⟩ (.int .i64 (E k).lev)).setCell ⟨b, k * 2 + 1, none⟩ (.int .i64 (E k).date)) b n (k + 1) E := by
  obtain ⟨g, hr, hg⟩ := h
  refine ⟨_, (hr.set _ _).set _ _, fun i hi => ?_⟩
  by_cases e : i = k
  · subst e; simp
  · have := hg i (by omega)
    simp only [show ¬ i * 2 = k * 2 + 1 by omega, show ¬ i * 2 = k * 2 by omega, show ¬ i * 2 + 1 = k * 2 + 1 by omega, show ¬ i * 2 + 1 = k * 2 by omega, if_false]
    exact this

theorem entv_enl (n : Nat) (E : Nat → En) (j : Nat) : (entv (enl n E))[j]? = if j < n * 2 then some (if j % 2 = 0 then .int .i64 (E (j / 2)).lev else .int .i64 (E (j / 2)).date) else none := by
  by_cases h : j < n * 2
  · have h2 := entv_get (enl n E) (j / 2) (by rw [enl_len]; omega)
    rw [enl_getD n E _ (by omega)] at h2
    rw [if_pos h]
    by_cases e : j % 2 = 0
    · rw [if_pos e, ← h2.1, show j / 2 * 2 = j by omega]
    · rw [if_neg e, ← h2.2, show j / 2 * 2 + 1 = j by omega]
  · rw [if_neg h, List.getElem?_eq_none (by rw [entv_len, enl_len]; omega)]

/-- A block of one's own is a row of one's own. -/
theorem EnRow.own {w : World} {b n : Nat} {E : Nat → En} (h : EnRow w b n n E) (hn : n ≤ maxLen) : OwnE w b (.slice (some ⟨b, 0, none⟩) n n) (enl n E) := by
  obtain ⟨g, ⟨cur, hb, hs, hc⟩, hg⟩ := h
  unfold OwnE
  rw [enl_len]
  refine ⟨by rw [entv_len, enl_len], Or.inr ⟨b, n, cur, rfl, Nat.le_refl _, hb, Nat.le_refl _, hn, hs, ?_⟩⟩
  apply List.ext_getElem?
  intro j
  rw [entv_enl]
  by_cases h : j < n * 2
  · rw [if_pos h, List.getElem?_take_of_lt h]
    have := hc j (by omega)
    rw [Array.getElem?_toList, this]
    have h2 := hg (j / 2) (by omega)
    by_cases e : j % 2 = 0
    · rw [if_pos e, ← h2.1, show j / 2 * 2 = j by omega]
    · rw [if_neg e, ← h2.2, show j / 2 * 2 + 1 = j by omega]
  · rw [if_neg h, List.getElem?_eq_none (by rw [List.length_take]; omega)]

theorem entv_set1 (n m : Nat) (E : Nat → En) (z : Int) : (entv (enl n E)).set (m * 2) (.int .i64 z) = entv (enl n (fun i => if i = m then ⟨z, (E m).date⟩ else E i)) := by
  apply List.ext_getElem?
  intro j
  rw [List.getElem?_set, entv_enl, entv_enl, entv_len, enl_len]
  by_cases e : m * 2 = j
  · subst e
    by_cases h : m * 2 < n * 2 <;> simp [h]
  · by_cases h : j < n * 2
    · rw [if_neg e, if_pos h, if_pos h]
      by_cases e2 : j / 2 = m
      · have : ¬ j % 2 = 0 := by omega
        simp [e2, this]
      · simp [e2]
    · rw [if_neg e, if_neg h, if_neg h]

theorem entv_set2 (n m : Nat) (E : Nat → En) (z : Int) : (entv (enl n E)).set (m * 2 + 1) (.int .i64 z) = entv (enl n (fun i => if i = m then ⟨(E m).lev, z⟩ else E i)) := by
  apply List.ext_getElem?
  intro j
  rw [List.getElem?_set, entv_enl, entv_enl, entv_len, enl_len]
  by_cases e : m * 2 + 1 = j
  · subst e
    by_cases h : m * 2 + 1 < n * 2
    · have h2 : (m * 2 + 1) / 2 = m := by omega
      have h3 : ¬ (m * 2 + 1) % 2 = 0 := by omega
      rw [if_pos rfl, if_pos h, if_pos h, h2, if_neg h3, if_pos rfl]
    · simp [h]
  · by_cases h : j < n * 2
    · rw [if_neg e, if_pos h, if_pos h]
      by_cases e2 : j / 2 = m
      · have : j % 2 = 0 := by omega
        simp [e2, this]
      · simp [e2]
    · rw [if_neg e, if_neg h, if_neg h]

theorem enl_ext {n : Nat} {E F : Nat → En} (h : ∀ i, i < n → E i = F i) : enl n E = enl n F := by
  unfold enl
  exact List.map_congr_left fun i hi => h i (by simpa using hi)

/-- The marks of entries. -/
def marksE (k : Nat) (i : Nat) : En := ⟨((k + 2 * i : Nat) : Int), ((k + 2 * i + 1 : Nat) : Int)⟩

theorem eowns_addr {w : World} {B : Nat} {e : TypeId} {size n c : Nat} {a : Option Addr} {xs : List Value} (h : w.ownsRow B e size (.slice a n c) n xs) (hn : 0 < n) : ∃ g, a = some ⟨g, 0, none⟩ ∧ g < w.heap.size := by
  rcases h.2 with ⟨h0, hz⟩ | ⟨g, cap, cur, hv, _, hg, _⟩
  · omega
  · cases hv
    exact ⟨g, rfl, (Array.getElem?_eq_some_iff.1 hg).1⟩
end Go.Proofs.Ytkdfimpeghhboaa
