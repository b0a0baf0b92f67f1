/-
  What markText, markStringS and heldStringS do: each place of a list gets a text of its own, told by its number; and that it still holds it is asked.
-/
import Derived.Test.YtbhdfiliighfcaaStrsBase
import Derived.WalkSmall
import Derived.Laws.IdiomStrings
import Derived.Deep.RegionWith
namespace Go.Proofs.Ytbhdfiliighfcaa
open Go.RowKit
set_option linter.unusedVariables false

/-- The last digit of a number, as a letter. -/
def dig (m : Nat) : UInt8 := UInt8.ofNat (48 + m % 10)
theorem dig_nat (m : Nat) : ((dig m).toNat : Int) = 48 + (m : Int) % 10 := by
  unfold dig
  rw [UInt8.toNat_ofNat']
  omega
/-- The digits of a number, at most f of them. -/
def digF : Nat → Nat → List UInt8 | 0, _ => [] | f + 1, k => if k = 0 then [] else digF f (k / 10) ++ [dig k]
/-- The text by which a place is marked. -/
def markOf (k : Nat) : List UInt8 := if k = 0 then [109, 48] else 109 :: digF 20 k

theorem digF_zero (f : Nat) : digF f 0 = [] := by cases f <;> simp [digF]
theorem digF_step (f k : Nat) (h : k ≠ 0) : digF (f + 1) k = digF f (k / 10) ++ [dig k] := by simp [digF, h]

theorem conv_digit (wr : World) (m : Nat) : (convert 42 9 (.slice (some ⟨wr.heap.size, 0, none⟩) 1 1)).run Try.prog (wr.alloc (.cells #[.int .u8 (48 + (m : Int) % 10)] 5)) = .ok (.string ⟨#[dig m]⟩) (wr.alloc (.cells #[.int .u8 (48 + (m : Int) % 10)] 5)) := by
  have e := dig_nat m
  refine run_convert_bytes_back _ 42 9 5 ⟨wr.heap.size, 0, none⟩ 1 [dig m] Try.underlying42 Try.underlying5 Try.underlying9 ?_
  intro j hj
  have : j = 0 := by simpa using hj
  subst this
  show World.cell? _ ((⟨wr.heap.size, 0, none⟩ : Addr).add 0) = some (.int .u8 ((dig m).toNat : Int))
  rw [e]
  simp [Addr.add]

theorem ret_nat {a b : Nat} (h : a = b) : Ending.returned (.int .i64 (a : Int)) = .returned (.int .i64 (b : Int)) := by rw [h]
theorem mret_str {a b : ByteArray} (h : a = b) : Ending.returned (.string a) = .returned (.string b) := by rw [h]

set_option maxRecDepth 100000 in
set_option maxHeartbeats 400000 in
theorem markText_any (k : Nat) (w : World) (h1 : 1 ≤ k) (h2 : k ≤ 1000000000) :
    Calls Try.prog 20 #[.int .i64 k] w fun e w' => e = .returned (.string ⟨(markOf k).toArray⟩) ∧ Below w.heap.size w w' := by
  have hle : decide ((k : Int) ≤ 0) = false := by simp; omega
  go_enter Try.func20, Try.ntmps20
  go_wp2
  go_loopw [0, 3] (fun kk o wr => ∃ (f m : Nat) (out : List UInt8), kk = .int .i64 m ∧ o = .string ⟨out.toArray⟩ ∧ m < 10 ^ f ∧ f ≤ 20 ∧ m ≤ 1000000000 ∧ digF f m ++ out = digF 20 k ∧ out.length + f = 20 ∧ Below w.heap.size w wr) (fun kk _ _ => (intOf kk).toNat)
  case atStart => exact ⟨20, k, [], rfl, rfl, by omega, Nat.le_refl _, h2, by simp, rfl, Below.refl _ _⟩
  case round =>
    obtain ⟨f, m, out, rfl, rfl, hm, hf, hm9, hd, hlen, hB⟩ := hrel
    have HD : Hid (digF f m ++ out = digF 20 k) := hd
    have HB : Hid (Below w.heap.size w wr) := hB
    clear hd hB
    by_cases h0 : m = 0
    · subst h0
      go_wp2
      go_ret
      refine ⟨mret_str ?_, HB.out⟩
      have hd := HD.out
      rw [digF_zero, List.nil_append] at hd
      unfold markOf
      rw [if_neg (by omega), ← hd]
      exact ByteArray.mk_append_mk [109] out
    · have hp : (0 : Int) < (m : Int) := by omega
      have hcv := conv_digit wr m
      have hol : out.length ≤ 20 := by omega
      obtain ⟨f', rfl⟩ : ∃ f', f = f' + 1 := ⟨f - 1, by cases f <;> simp at hm ⊢; omega⟩
      have HD2 : Hid (digF f' (m / 10) ++ (dig m :: out) = digF 20 k) := by
        show _ = _
        rw [← HD.out, digF_step f' m h0]; simp
      go_wp2
      go_roundw
      case rel => exact ⟨f', m / 10, dig m :: out, by go_num, congrArg Value.string (ByteArray.mk_append_mk [dig m] out), by rw [Nat.pow_succ] at hm; omega, by omega, by omega, HD2.out, by simp; omega, HB.out.alloc HB.out.size _⟩
      case measure => simp [intOf]; omega

/-- A list of texts in a row of one's own, not frozen. -/
structure Row (w : World) (g n : Nat) (S : Nat → ByteArray) : Prop where
  lt : g < w.heap.size
  cell : ∀ i, i < n → w.cell? ⟨g, 0 + i, none⟩ = some (.string (S i))
  free : ∀ i, i < n → w.frozen? ⟨g, 0 + i, none⟩ = false

theorem Row.below {w w' : World} {g n : Nat} {S : Nat → ByteArray} (h : Row w g n S) (hb : Below w.heap.size w w') : Row w' g n S :=
  ⟨Nat.lt_of_lt_of_le h.lt hb.size, fun i hi => (hb.cell (p := ⟨g, 0 + i, none⟩) h.lt).trans (h.cell i hi), fun i hi => (hb.frozen (p := ⟨g, 0 + i, none⟩) h.lt).trans (h.free i hi)⟩

/-- A store into the row. -/
theorem Row.set {w : World} {g n : Nat} {S : Nat → ByteArray} (h : Row w g n S) (k : Nat) (s : ByteArray) : Row (w.setCell ⟨g, 0 + k, none⟩ (.string s)) g n (fun i => if i = k then s else S i) := by
  refine ⟨by simp [World.setCell]; exact h.lt, fun i hi => ?_, fun i hi => ?_⟩
  · by_cases e : i = k
    · subst e
      rw [if_pos rfl]
      exact World.cell?_setCell_same' _ _ _ (by rw [h.cell i hi]; rfl)
    · rw [if_neg e, World.cell?_setCell_other (w := w) (a := ⟨g, 0 + k, none⟩) (b := ⟨g, 0 + i, none⟩) (v := .string s) (by intro h'; injection h' with h1 h2; omega)]; exact h.cell i hi
  · rw [World.frozen?_setCell]
    exact h.free i hi

/-- The texts by which n places are marked, from k on. -/
def marks (k : Nat) : Nat → ByteArray := fun i => ⟨(markOf (k + i)).toArray⟩

theorem mark_step (S : Nat → ByteArray) (k i m : Nat) : Value.string (if i = m then (⟨(markOf (k + m)).toArray⟩ : ByteArray) else if i < m then marks k i else S i) = Value.string (if i < m + 1 then marks k i else S i) := by
  by_cases h : i = m
  · subst h; simp [marks]
  · by_cases h2 : i < m
    · simp [h, h2, show i < m + 1 by omega]
    · simp [h, h2, show ¬ i < m + 1 by omega]

theorem mark_same (k m : Nat) : ((marks k m).toList == markOf (k + m)) = true := by unfold marks; rw [ByteArray.toList_eq]; simp
end Go.Proofs.Ytbhdfiliighfcaa
