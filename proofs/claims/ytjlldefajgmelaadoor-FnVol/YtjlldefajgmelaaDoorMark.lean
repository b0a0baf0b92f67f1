/-
  What markText, markStringS and heldStringS do: each place of a list gets a text of its own, told by its number; and that it still holds it is asked.
-/
import Derived.Test.YtjlldefajgmelaaDoorStrsBase
import Derived.WalkSmall
import Derived.Laws.IdiomStrings
import Derived.Deep.RegionWith
namespace Go.Proofs.YtjlldefajgmelaaDoor
open Go.RowKit
set_option linter.unusedVariables false

/-- The last digit of a number, as a letter. -/
def dig (m : Nat) : UInt8 := UInt8.ofNat (48 + m % 10)
theorem dig_nat (m : Nat) : ((dig m).toNat : Int) = 48 + (m : Int) % 10 := by
  unfold dig
  rw [UInt8.toNat_ofNat']
  omega
/-- The digits of a number, at most f of them. -/
def digF : Nat → Nat → List UInt8 | 0, _ => [] | f + 1, k => if k = 0 then [] else digF f (k / 10) ++ [dig k]
/-- The text by which a place is marked. -/
def markOf (k : Nat) : List UInt8 := if k = 0 then [109, 48] else 109 :: digF 20 k

theorem digF_zero (f : Nat) : digF f 0 = [] := by cases f <;> simp [digF]
theorem digF_step (f k : Nat) (h : k ≠ 0) : digF (f + 1) k = digF f (k / 10) ++ [dig k] := by simp [digF, h]

theorem conv_digit (wr : World) (m : Nat) : (convert 22 9 (.slice (some ⟨wr.heap.size, 0, none⟩) 1 1)).run Tryd.prog (wr.alloc (.cells #[.int .u8 (48 + (m : Int) % 10)] 5)) = .ok (.string ⟨#[dig m]⟩) (wr.alloc (.cells #[.int .u8 (48 + (m : Int) % 10)] 5)) := by
  have e := dig_nat m
  refine run_convert_bytes_back _ 22 9 5 ⟨wr.heap.size, 0, none⟩ 1 [dig m] Tryd.underlying22 Tryd.underlying5 Tryd.underlying9 ?_
  intro j hj
  have : j = 0 := by simpa using hj
  subst this
  show World.cell? _ ((⟨wr.heap.size, 0, none⟩ : Addr).add 0) = some (.int .u8 ((dig m).toNat : Int))
  rw [e]
  simp [Addr.add]

theorem ret_nat {a b : Nat} (h : a = b) : Ending.returned (.int .i64 (a : Int)) = .returned (.int .i64 (b : Int)) := by rw [h]
theorem mret_str {a b : ByteArray} (h : a = b) : Ending.returned (.string a) = .returned (.string b) := by rw [h]

/-- A list of texts in a row of one's own, not frozen. -/
structure Row (w : World) (g n : Nat) (S : Nat → ByteArray) : Prop where
  lt : g < w.heap.size
  cell : ∀ i, i < n → w.cell? ⟨g, 0 + i, none⟩ = some (.string (S i))
  free : ∀ i, i < n → w.frozen? ⟨g, 0 + i, none⟩ = false

theorem Row.below {w w' : World} {g n : Nat} {S : Nat → ByteArray} (h : Row w g n S) (hb : Below w.heap.size w w') : Row w' g n S :=
  ⟨Nat.lt_of_lt_of_le h.lt hb.size, fun i hi => (hb.cell (p := ⟨g, 0 + i, none⟩) h.lt).trans (h.cell i hi), fun i hi => (hb.frozen (p := ⟨g, 0 + i, none⟩) h.lt).trans (h.free i hi)⟩

/-- A store into the row. -/
theorem Row.set {w : World} {g n : Nat} {S : Nat → ByteArray} (h : Row w g n S) (k : Nat) (s : ByteArray) : Row (w.setCell ⟨g, 0 + k, none⟩ (.string s)) g n (fun i => if i = k then s else S i) := by
  refine ⟨by simp [World.setCell]; exact h.lt, fun i hi => ?_, fun i hi => ?_⟩
  · by_cases e : i = k
    · subst e
      rw [if_pos rfl]
      exact World.cell?_setCell_same' _ _ _ (by rw [h.cell i hi]; rfl)
    · rw [if_neg e, World.cell?_setCell_other (w := w) (a := ⟨g, 0 + k, none⟩) (b := ⟨g, 0 + i, none⟩) (v := .string s) (by intro h'; injection h' with h1 h2; omega)]; exact h.cell i hi
  · rw [World.frozen?_setCell]
    exact h.free i hi

/-- The texts by which n places are marked, from k on. -/
def marks (k : Nat) : Nat → ByteArray := fun i => ⟨(markOf (k + i)).toArray⟩

theorem mark_step (S : Nat → ByteArray) (k i m : Nat) : Value.string (if i = m then (⟨(markOf (k + m)).toArray⟩ : ByteArray) else if i < m then marks k i else S i) = Value.string (if i < m + 1 then marks k i else S i) := by
  by_cases h : i = m
  · subst h; simp [marks]
  · by_cases h2 : i < m
    · simp [h, h2, show i < m + 1 by omega]
    · simp [h, h2, show ¬ i < m + 1 by omega]

theorem mark_same (k m : Nat) : ((marks k m).toList == markOf (k + m)) = true := by unfold marks; rw [ByteArray.toList_eq]; simp
end Go.Proofs.YtjlldefajgmelaaDoor
