/-
  Texts that the proof needs, laid one behind the other.
-/
import Derived.Test.YtakifcobofkheabGreatDoorProg
import Derived.WalkKit
import Derived.WalkSpells
import Derived.Below
import Derived.Deep.OwnRows
import Derived.Deep.QuietTactic
import Derived.BigQuiet
import Derived.Test.YtakifcobofkheabGreatDoorRows
import Derived.ProofKit
import Derived.Lib.SmallJoins
import Derived.WalkSmall
import Derived.Laws.Cover1
import Derived.Laws.IdiomStrings
import Derived.Deep.RegionWith
import Derived.Deep.RegionHeld3
import Derived.Laws.AppendOwn
import Derived.OwnWalk
import Derived.Maps.AppendAt
import Derived.Laws.OwnMore

/-
  What NameOk of the specification answers at every text: whether it has 1 to 4 letters, each from a to z; it does not turn the world.
-/
namespace Go.Proofs.YtakifcobofkheabGreatDoor
open Go.RowKit
set_option linter.unusedVariables false

/-- A letter from a to z. -/
def letter (c : UInt8) : Bool := decide (97 ≤ (c.toNat : Int) ∧ (c.toNat : Int) ≤ 122)
/-- A name. -/
def nameOk (l : List UInt8) : Bool := l.all letter && decide (1 ≤ l.length) && decide (l.length ≤ 4)

theorem take_snoc (s : ByteArray) (k : Nat) (h : k < s.size) : s.data.toList.take (k + 1) = s.data.toList.take k ++ [s[k]] := by
  rw [List.take_succ_eq_append_getElem (by simpa using h)]; rfl

theorem letter_yes {c : UInt8} (h1 : ¬ (c.toNat : Int) < 97) (h2 : ¬ (122 : Int) < (c.toNat : Int)) : letter c = true := by
  unfold letter; simp; omega

theorem all_snoc (s : ByteArray) (k : Nat) (h : k < s.size) (ha : (s.data.toList.take k).all letter = true) (hc : letter s[k] = true) : (s.data.toList.take (k + 1)).all letter = true := by
  rw [take_snoc s k h, List.all_append, ha]; simp [hc]

theorem not_all (s : ByteArray) (k : Nat) (h : k < s.size) (hc : letter s[k] = false) : s.data.toList.all letter = false := by
  rw [Bool.eq_false_iff]
  intro ha
  have := List.all_eq_true.1 ha s[k] (by
    have : s[k] = s.data.toList[k]'(by simpa using h) := rfl
    rw [this]; exact List.getElem_mem _)
  rw [hc] at this; cases this

theorem ret_bool {a b : Bool} (h : a = b) : Ending.returned (.bool a) = .returned (.bool b) := by rw [h]

theorem letter_no {c : UInt8} (h : (c.toNat : Int) < 97 ∨ (122 : Int) < (c.toNat : Int)) : letter c = false := by
  unfold letter; simp; omega

theorem nameOk_bad (s : ByteArray) (k : Nat) (h : k < s.size) (hc : letter s[k] = false) : false = nameOk s.data.toList := by
  unfold nameOk; rw [not_all s k h hc]; rfl

theorem nameOk_long (s : ByteArray) (h : s.size < 1 ∨ 4 < s.size) : false = nameOk s.data.toList := by
  unfold nameOk
  have e : s.data.toList.length = s.size := by simp
  rcases h with h | h
  · rw [decide_eq_false (show ¬ 1 ≤ s.data.toList.length by omega)]; simp
  · rw [decide_eq_false (show ¬ s.data.toList.length ≤ 4 by omega)]; simp

theorem nameOk_end (s : ByteArray) (k : Nat) (hk : k ≤ s.size) (h : ¬ k < s.size) (ha : (s.data.toList.take k).all letter = true) (h1 : 1 ≤ s.size) : decide (s.size ≤ 4) = nameOk s.data.toList := by
  have e : s.data.toList.length = s.size := by simp
  rw [List.take_of_length_le (by omega)] at ha
  unfold nameOk
  rw [ha, show decide (1 ≤ s.data.toList.length) = true by simp; omega]; simp

set_option maxHeartbeats 400000 in
theorem specNameOk_any (s : ByteArray) (w : World) (hs : s.size ≤ maxLen) :
    Calls Tryz.prog 72 #[.string s] w fun e w' => e = .returned (.bool (nameOk s.data.toList)) ∧ w' = w := by
  unfold maxLen at hs
  go_enter Tryz.func72, Tryz.ntmps72
  go_wp2
  go_loop [3] (fun i => ∃ k : Nat, k ≤ s.size ∧ i = .int .i64 k ∧ (s.data.toList.take k).all letter = true) (fun i => s.size - (intOf i).toNat)
  case atStart => exact ⟨0, Nat.zero_le _, rfl, rfl⟩
  case round =>
    obtain ⟨k, hk, rfl, ha⟩ := hrel
    have HA : Hid ((s.data.toList.take k).all letter = true) := ha
    clear ha
    by_cases hlt : k < s.size
    · go_wp2
      · go_ret
        exact ⟨ret_bool (nameOk_bad s k hlt (letter_no ‹_›)), rfl⟩
      · go_round
        case rel => exact ⟨k + 1, by omega, by go_num, all_snoc s k hlt HA (letter_yes (by omega) (by omega))⟩
        case measure => simp [intOf]; omega
      · go_ret
        exact ⟨ret_bool (nameOk_bad s k hlt (letter_no (Or.inl ‹_›))), rfl⟩
    · go_wp2
      · go_ret
        exact ⟨ret_bool (by rw [← nameOk_end s k hk hlt HA (by omega)]; simp; omega), rfl⟩
      · go_ret
        exact ⟨ret_bool (nameOk_long s (by omega)), rfl⟩

end Go.Proofs.YtakifcobofkheabGreatDoor

/-
  Lists of texts as they lie in memory, and what is said of them: plain facts.
-/
namespace Go.Proofs.YtakifcobofkheabGreatDoor
open Go.RowKit
set_option linter.unusedVariables false

/-- n texts lie in memory from the address on. -/
def IsStrs (w : World) (a : Option Addr) (n : Nat) (S : Nat → ByteArray) : Prop :=
  n = 0 ∨ ∃ b off, a = some ⟨b, off, none⟩ ∧ b < w.heap.size ∧ ∀ i, i < n → w.cell? ⟨b, off + i, none⟩ = some (.string (S i))

def Small (n : Nat) (S : Nat → ByteArray) : Prop := ∀ i, i < n → (S i).size ≤ maxLen

theorem IsStrs.at {w : World} {a : Option Addr} {n : Nat} {S : Nat → ByteArray} (h : IsStrs w a n S) {k : Nat} (hk : k < n) :
    ∃ b off, a = some ⟨b, off, none⟩ ∧ b < w.heap.size ∧ ∀ i, i < n → w.cell? ⟨b, off + i, none⟩ = some (.string (S i)) := by
  rcases h with h | h
  · omega
  · exact h

theorem IsStrs.below {w w' : World} {a : Option Addr} {n : Nat} {S : Nat → ByteArray} (h : IsStrs w a n S) {B : Nat} (hB : w.heap.size ≤ B) (hb : Below B w w') : IsStrs w' a n S := by
  rcases h with h | ⟨b, off, ha, hlt, hc⟩
  · exact Or.inl h
  · exact Or.inr ⟨b, off, ha, by have := hb.size; omega, fun i hi => by rw [hb.cell (p := ⟨b, off + i, none⟩) (by show b < B; omega)]; exact hc i hi⟩

/-- The letters of the first k. -/
def sumTo (S : Nat → ByteArray) : Nat → Nat | 0 => 0 | k + 1 => sumTo S k + (S k).size

theorem sumTo_succ (S : Nat → ByteArray) (k : Nat) : sumTo S (k + 1) = sumTo S k + (S k).size := rfl

theorem size_le_sumTo (S : Nat → ByteArray) (n : Nat) : ∀ i, i < n → (S i).size ≤ sumTo S n := by
  induction n with
  | zero => intro i hi; omega
  | succ n ih => intro i hi; rw [sumTo_succ]; by_cases h : i < n
                 · have := ih i h; omega
                 · have : i = n := by omega
                   subst this; omega

def eqS (n : Nat) (S T : Nat → ByteArray) : Bool := (List.range n).all fun i => (S i).toList == (T i).toList

theorem eqS_succ (k : Nat) (S T : Nat → ByteArray) (h : eqS k S T = true) (hk : (!(S k).toList == (T k).toList) = false) : eqS (k + 1) S T = true := by
  unfold eqS at *
  rw [List.range_succ, List.all_append, h]; simpa using hk

theorem eqS_not (n k : Nat) (S T : Nat → ByteArray) (hk : k < n) (h : (!(S k).toList == (T k).toList) = true) : false = eqS n S T := by
  symm
  rw [Bool.eq_false_iff]
  intro ha
  have := List.all_eq_true.1 ha k (by simpa using hk)
  simp [this] at h

theorem eqS_self (n : Nat) (S T : Nat → ByteArray) (h : ∀ i, i < n → S i = T i) : eqS n S T = true := by
  unfold eqS
  rw [List.all_eq_true]
  intro i hi
  rw [h i (by simpa using hi)]
  simp

theorem IsStrs.row {w : World} {b n : Nat} {S : Nat → ByteArray} (h : w.rowIs b 9 n (fun i => .string (S i))) : IsStrs w (some ⟨b, 0, none⟩) n S :=
  Or.inr ⟨b, 0, rfl, h.lt, fun i hi => by rw [Nat.zero_add]; exact h.cell hi⟩

theorem Small.of_sum {n : Nat} {S : Nat → ByteArray} {r left : Int} (h : r + n + sumTo S n ≤ left) (h0 : 0 ≤ r) (h1 : left ≤ 1048576) : Small n S := fun i hi => by
  have := size_le_sumTo S n i hi
  unfold maxLen; omega
end Go.Proofs.YtakifcobofkheabGreatDoor

/-
  How a list of texts that is handed in is opened: n texts lie in memory from its address on.
-/
namespace Go.Proofs.YtakifcobofkheabGreatDoor
open Go.ChangeShapes Go.WideShapes Go.ChangeAt Go.RowKit

theorem own : ownKnob Tryz.prog.godebug = none := by kernel_rfl
theorem laidOut : laidOutB Tryz.prog = true := by kernel_rfl
theorem cellsStr : Tryz.prog.cellsOf 9 = 1 := by kernel_rfl

theorem lt_of_cell {w : World} {b o : Nat} {v : Value} (h : w.cell? ⟨b, o, none⟩ = some v) : b < w.heap.size := by
  simp only [World.cell?] at h
  by_cases hb : b < w.heap.size
  · exact hb
  · rw [Array.getElem?_eq_none (by omega)] at h
    simp at h

theorem openStrs {H : Type} {enc : TypeId × Value → H} {W : World} {a : Option Addr} {n cap : Nat} {d : DataW H} {p : List MemPlace}
    (h : DataW.Trod enc Tryz.prog W 0 (fun _ => true) true 23 (.slice a n cap) d p) : ∃ S : Nat → ByteArray, IsStrs W a n S ∧ Small n S ∧ n ≤ maxLen := by
  obtain ⟨fuel, hf⟩ := h
  rcases open_strings Tryz.underlying23 Tryz.underlying9 cellsStr hf with ⟨hcs, _⟩ | ⟨x, l, c, ss, hcs, _, hl, hm, hz, _, hcell, hsz⟩
  · simp [Value.cells] at hcs
    obtain ⟨rfl, rfl, rfl⟩ := hcs
    exact ⟨fun _ => ByteArray.empty, Or.inl rfl, fun i hi => by omega, by unfold maxLen; omega⟩
  · simp [Value.cells] at hcs
    obtain ⟨rfl, rfl, rfl⟩ := hcs
    simp at hz
    obtain ⟨b, off, spot⟩ := x
    refine ⟨fun i => ss.getD i ByteArray.empty, ?_, fun i hi => ?_, by omega⟩
    · by_cases h0 : n = 0
      · exact Or.inl h0
      · have h00 := hcell 0 (by omega)
        have hspot : spot = none := by simpa [Addr.add] using World.cell?_spot h00
        subst hspot
        refine Or.inr ⟨b, off, rfl, lt_of_cell (by simpa [Addr.add] using h00), fun i hi => ?_⟩
        have := hcell i (by omega)
        rw [add_plain] at this
        exact this
    · show (ss.getD i ByteArray.empty).size ≤ maxLen
      rw [List.getD_eq_getElem?_getD, List.getElem?_eq_getElem (by omega)]
      exact hsz _ (List.getElem_mem _)
end Go.Proofs.YtakifcobofkheabGreatDoor

/-
  Lists of numbers as they lie in memory, and places of a tree: plain facts.
-/
namespace Go.Proofs.YtakifcobofkheabGreatDoor
open Go.RowKit
set_option linter.unusedVariables false

theorem infoInt : (Tryz.prog.info? 3).map (fun i => (i.zero, i.size, i.bytes)) = some (some (.int .i64 0), 1, 8) := by kernel_rfl

/-- n numbers lie in memory from the address on. -/
def IsInts (w : World) (a : Option Addr) (n : Nat) (Z : Nat → Int) : Prop :=
  n = 0 ∨ ∃ b off, a = some ⟨b, off, none⟩ ∧ b < w.heap.size ∧ ∀ i, i < n → w.cell? ⟨b, off + i, none⟩ = some (.int .i64 (Z i))

/-- Each is a number of 64 bits. -/
def In64 (z : Int) : Prop := -9223372036854775808 ≤ z ∧ z ≤ 9223372036854775807

theorem IsInts.at {w : World} {a : Option Addr} {n : Nat} {Z : Nat → Int} (h : IsInts w a n Z) {k : Nat} (hk : k < n) :
    ∃ b off, a = some ⟨b, off, none⟩ ∧ b < w.heap.size ∧ ∀ i, i < n → w.cell? ⟨b, off + i, none⟩ = some (.int .i64 (Z i)) := by
  rcases h with h | h
  · omega
  · exact h

theorem IsInts.below {w w' : World} {a : Option Addr} {n : Nat} {Z : Nat → Int} (h : IsInts w a n Z) {B : Nat} (hB : w.heap.size ≤ B) (hb : Below B w w') : IsInts w' a n Z := by
  rcases h with h | ⟨b, off, ha, hlt, hc⟩
  · exact Or.inl h
  · exact Or.inr ⟨b, off, ha, by have := hb.size; omega, fun i hi => by rw [hb.cell (p := ⟨b, off + i, none⟩) (by show b < B; omega)]; exact hc i hi⟩

def eqZ (n : Nat) (Z Y : Nat → Int) : Bool := (List.range n).all fun i => Z i == Y i

theorem eqZ_succ (k : Nat) (Z Y : Nat → Int) (h : eqZ k Z Y = true) (hk : Z k = Y k) : eqZ (k + 1) Z Y = true := by
  unfold eqZ at *
  rw [List.range_succ, List.all_append, h]; simpa using hk

theorem eqZ_not (n k : Nat) (Z Y : Nat → Int) (hk : k < n) (h : ¬ Z k = Y k) : false = eqZ n Z Y := by
  symm
  rw [Bool.eq_false_iff]
  intro ha
  have := List.all_eq_true.1 ha k (by simpa using hk)
  simp at this; exact h this

theorem eqZ_self (n : Nat) (Z Y : Nat → Int) (h : ∀ i, i < n → Z i = Y i) : eqZ n Z Y = true := by
  unfold eqZ
  rw [List.all_eq_true]
  intro i hi
  rw [h i (by simpa using hi)]
  simp

theorem IsInts.row {w : World} {b n : Nat} {Z : Nat → Int} (h : w.rowIs b 3 n (fun i => .int .i64 (Z i))) : IsInts w (some ⟨b, 0, none⟩) n Z :=
  Or.inr ⟨b, 0, rfl, h.lt, fun i hi => by rw [Nat.zero_add]; exact h.cell hi⟩
end Go.Proofs.YtakifcobofkheabGreatDoor

/-
  A block of memory and what it holds, cell by cell: plain facts.
-/
namespace Go.Proofs.YtakifcobofkheabGreatDoor
open Go.RowKit Go.Deep
set_option linter.unusedVariables false

/-- Block b holds these cells, none frozen. -/
def Blk (w : World) (b : Nat) (c : Array Value) (t : TypeId) : Prop := w.heap[b]? = some (.cells c t (0, 0))

theorem Blk.cell {w : World} {b : Nat} {c : Array Value} {t : TypeId} (h : Blk w b c t) (i : Nat) : w.cell? ⟨b, i, none⟩ = c[i]? := by
  unfold Blk at h
  simp [World.cell?, h]

theorem Blk.frozen {w : World} {b : Nat} {c : Array Value} {t : TypeId} (h : Blk w b c t) (i : Nat) : w.frozen? ⟨b, i, none⟩ = false := by
  unfold Blk at h
  simp [World.frozen?, h]

theorem Blk.lt {w : World} {b : Nat} {c : Array Value} {t : TypeId} (h : Blk w b c t) : b < w.heap.size := (Array.getElem?_eq_some_iff.1 h).1

theorem Blk.of_block {w w' : World} {b : Nat} {c : Array Value} {t : TypeId} (h : Blk w b c t) (e : w'.heap[b]? = w.heap[b]?) : Blk w' b c t := e.trans h

theorem Blk.new (w : World) (c : Array Value) (t : TypeId) : Blk (w.alloc (.cells c t)) w.heap.size c t := blk_alloc_new _ _

theorem Blk.alloc {w : World} {b : Nat} {c : Array Value} {t : TypeId} (h : Blk w b c t) (o : Obj) : Blk (w.alloc o) b c t := h.of_block (blk_alloc_lt _ _ _ h.lt)

theorem Blk.below {w w' : World} {b : Nat} {c : Array Value} {t : TypeId} (h : Blk w b c t) {B : Nat} (hb : Below B w w') (hB : b < B) : Blk w' b c t := h.of_block (hb.block b hB)

theorem Blk.set {w : World} {b : Nat} {c : Array Value} {t : TypeId} (h : Blk w b c t) (i : Nat) (v : Value) : Blk (w.setCell ⟨b, i, none⟩ v) b (c.setIfInBounds i v) t := by
  unfold Blk at *
  simp [World.setCell, Array.getElem?_modify, h]

theorem Blk.setOther {w : World} {b : Nat} {c : Array Value} {t : TypeId} (h : Blk w b c t) {a : Addr} (ha : b ≠ a.block) (v : Value) : Blk (w.setCell a v) b c t := h.of_block (blk_setCell_other _ _ _ _ ha)

theorem Blk.off {w : World} {b : Nat} {c : Array Value} {t : TypeId} (h : Blk w b c t) {b' i : Nat} (v : Value) (hb : b ≠ b') : Blk (w.setCell ⟨b', i, none⟩ v) b c t := h.setOther (a := ⟨b', i, none⟩) hb v

theorem bel_put {B : Nat} {a w : World} (h : Below B a w) {b i : Nat} (v : Value) (hb : B ≤ b) : Below B a (w.setCell ⟨b, i, none⟩ v) := h.setCell (p := ⟨b, i, none⟩) hb v

theorem IsInts.off {w : World} {b' off' n : Nat} {Z : Nat → Int} (h : IsInts w (some ⟨b', off', none⟩) n Z) {b i : Nat} (v : Value) (hb : b' ≠ b) : IsInts (w.setCell ⟨b, i, none⟩ v) (some ⟨b', off', none⟩) n Z := by
  rcases h with h | ⟨b0, o0, ha, hlt, hc⟩
  · exact Or.inl h
  · cases ha
    exact Or.inr ⟨b', off', rfl, by simpa [World.setCell] using hlt, fun i hi => by rw [← hc i hi]; exact World.cell?_of_block (blk_setCell_other _ _ _ _ hb)⟩

theorem IsStrs.off {w : World} {b' off' n : Nat} {S : Nat → ByteArray} (h : IsStrs w (some ⟨b', off', none⟩) n S) {b i : Nat} (v : Value) (hb : b' ≠ b) : IsStrs (w.setCell ⟨b, i, none⟩ v) (some ⟨b', off', none⟩) n S := by
  rcases h with h | ⟨b0, o0, ha, hlt, hc⟩
  · exact Or.inl h
  · cases ha
    exact Or.inr ⟨b', off', rfl, by simpa [World.setCell] using hlt, fun i hi => by rw [← hc i hi]; exact World.cell?_of_block (blk_setCell_other _ _ _ _ hb)⟩

/-- A call is walked at a world of which no more is said than this. -/
theorem at_world {P : Program} {f : FuncId} {args : Array Value} {K : Ending → World → Prop} {F : World → Prop} {w : World} (h : F w) (g : ∀ W, F W → Calls P f args W K) : Calls P f args w K := g w h

/-- .. and so is a body's end. -/
theorem end_world {P : Program} {fn : Func} {R : Ending → World → Prop} {e : Exit} {a : Act} {F : World → Prop} {w : World} (h : F w) (g : ∀ W, F W → bodyPost P fn R e a W) : bodyPost P fn R e a w := g w h

/-- One new block. -/
structure New1 (w : World) (c0 : Array Value) (t0 : TypeId) (W : World) : Prop where
  b0 : Blk W w.heap.size c0 t0
  bel : Below w.heap.size w W
  size : W.heap.size = w.heap.size + 1

/-- Two new blocks. -/
structure New2 (w : World) (c0 : Array Value) (t0 : TypeId) (c1 : Array Value) (t1 : TypeId) (W : World) : Prop where
  b0 : Blk W w.heap.size c0 t0
  b1 : Blk W (w.heap.size + 1) c1 t1
  bel : Below w.heap.size w W
  size : W.heap.size = w.heap.size + 2

/-- Three new blocks. -/
structure New3 (w : World) (c0 : Array Value) (t0 : TypeId) (c1 : Array Value) (t1 : TypeId) (c2 : Array Value) (t2 : TypeId) (W : World) : Prop where
  b0 : Blk W w.heap.size c0 t0
  b1 : Blk W (w.heap.size + 1) c1 t1
  b2 : Blk W (w.heap.size + 1 + 1) c2 t2
  bel : Below w.heap.size w W
  size : W.heap.size = w.heap.size + 3

theorem new1 (w : World) (c0 : Array Value) (t0 : TypeId) : New1 w c0 t0 (w.alloc (.cells c0 t0)) := ⟨Blk.new w c0 t0, (Below.refl _ _).alloc (Nat.le_refl _) _, by simp⟩

theorem new2 (w : World) (c0 : Array Value) (t0 : TypeId) (c1 : Array Value) (t1 : TypeId) : New2 w c0 t0 c1 t1 ((w.alloc (.cells c0 t0)).alloc (.cells c1 t1)) := by
  have h1 : (w.alloc (.cells c0 t0)).heap.size = w.heap.size + 1 := by simp
  refine ⟨(Blk.new w c0 t0).alloc _, ?_, ((Below.refl _ _).alloc (Nat.le_refl _) _).alloc (by omega) _, by simp⟩
  have := Blk.new (w.alloc (.cells c0 t0)) c1 t1
  rwa [h1] at this

theorem new3 (w : World) (c0 : Array Value) (t0 : TypeId) (c1 : Array Value) (t1 : TypeId) (c2 : Array Value) (t2 : TypeId) : New3 w c0 t0 c1 t1 c2 t2 (((w.alloc (.cells c0 t0)).alloc (.cells c1 t1)).alloc (.cells c2 t2)) := by
  obtain ⟨h0, h1, hb, hs⟩ := new2 w c0 t0 c1 t1
  refine ⟨h0.alloc _, h1.alloc _, ?_, hb.alloc (by omega) _, by simp⟩
  have := Blk.new ((w.alloc (.cells c0 t0)).alloc (.cells c1 t1)) c2 t2
  rwa [hs] at this
end Go.Proofs.YtakifcobofkheabGreatDoor

/-
  Places of a tree and lists of them as they lie in memory: plain facts.
-/
namespace Go.Proofs.YtakifcobofkheabGreatDoor
open Go.RowKit
set_option linter.unusedVariables false

/-- What a place of a tree holds: its kind, its text, so many names, so many places, its turn. -/
structure Nd where
  kind : Int
  text : ByteArray
  nn : Nat
  names : Nat → ByteArray
  kn : Nat
  kids : Nat → Int
  turn : Int

instance : Inhabited Nd := ⟨⟨0, ByteArray.empty, 0, fun _ => ByteArray.empty, 0, fun _ => 0, 0⟩⟩

/-- The bounds that hold of every place that was handed in. -/
structure Nd.Fits (d : Nd) : Prop where
  kind : In64 d.kind
  turn : In64 d.turn
  text : d.text.size ≤ maxLen
  names : Small d.nn d.names
  nn : d.nn ≤ maxLen
  kn : d.kn ≤ maxLen
  kids : ∀ i, i < d.kn → In64 (d.kids i)

/-- Where the two lists of a place lie. -/
structure Loc where
  nA : Option Addr
  nc : Nat
  kA : Option Addr
  kc : Nat

instance : Inhabited Loc := ⟨⟨none, 0, none, 0⟩⟩

/-- The value of a place. -/
def ndV (d : Nd) (l : Loc) : Value := .agg #[.int .i64 d.kind, .string d.text, .slice l.nA d.nn l.nc, .slice l.kA d.kn l.kc, .int .i64 d.turn]

/-- The two lists of a place lie in memory. -/
def NdIn (w : World) (d : Nd) (l : Loc) : Prop := IsStrs w l.nA d.nn d.names ∧ IsInts w l.kA d.kn d.kids

/-- n places lie in memory from the address on, five cells each. -/
def IsNds (w : World) (a : Option Addr) (n : Nat) (D : Nat → Nd) (L : Nat → Loc) : Prop :=
  n = 0 ∨ ∃ b off, a = some ⟨b, off, none⟩ ∧ b < w.heap.size ∧ ∀ i, i < n →
    w.cell? ⟨b, off + i * 5, none⟩ = some (.int .i64 (D i).kind) ∧ w.cell? ⟨b, off + i * 5 + 1, none⟩ = some (.string (D i).text) ∧
    w.cell? ⟨b, off + i * 5 + 2, none⟩ = some (.slice (L i).nA (D i).nn (L i).nc) ∧ w.cell? ⟨b, off + i * 5 + 3, none⟩ = some (.slice (L i).kA (D i).kn (L i).kc) ∧
    w.cell? ⟨b, off + i * 5 + 4, none⟩ = some (.int .i64 (D i).turn) ∧ NdIn w (D i) (L i)

theorem NdIn.below {w w' : World} {d : Nd} {l : Loc} (h : NdIn w d l) {B : Nat} (hB : w.heap.size ≤ B) (hb : Below B w w') : NdIn w' d l := ⟨h.1.below hB hb, h.2.below hB hb⟩

theorem IsNds.at {w : World} {a : Option Addr} {n : Nat} {D : Nat → Nd} {L : Nat → Loc} (h : IsNds w a n D L) {k : Nat} (hk : k < n) :
    ∃ b off, a = some ⟨b, off, none⟩ ∧ b < w.heap.size ∧ ∀ i, i < n →
    w.cell? ⟨b, off + i * 5, none⟩ = some (.int .i64 (D i).kind) ∧ w.cell? ⟨b, off + i * 5 + 1, none⟩ = some (.string (D i).text) ∧
    w.cell? ⟨b, off + i * 5 + 2, none⟩ = some (.slice (L i).nA (D i).nn (L i).nc) ∧ w.cell? ⟨b, off + i * 5 + 3, none⟩ = some (.slice (L i).kA (D i).kn (L i).kc) ∧
    w.cell? ⟨b, off + i * 5 + 4, none⟩ = some (.int .i64 (D i).turn) ∧ NdIn w (D i) (L i) := by
  rcases h with h | h
  · omega
  · exact h

theorem IsNds.below {w w' : World} {a : Option Addr} {n : Nat} {D : Nat → Nd} {L : Nat → Loc} (h : IsNds w a n D L) {B : Nat} (hB : w.heap.size ≤ B) (hb : Below B w w') : IsNds w' a n D L := by
  rcases h with h | ⟨b, off, ha, hlt, hc⟩
  · exact Or.inl h
  · have hs := hb.size
    refine Or.inr ⟨b, off, ha, by omega, fun i hi => ?_⟩
    obtain ⟨h0, h1, h2, h3, h4, h5⟩ := hc i hi
    have e : ∀ o, w'.cell? ⟨b, o, none⟩ = w.cell? ⟨b, o, none⟩ := fun o => hb.cell (p := ⟨b, o, none⟩) (by show b < B; omega)
    exact ⟨(e _).trans h0, (e _).trans h1, (e _).trans h2, (e _).trans h3, (e _).trans h4, h5.below hB hb⟩

/-- All of them fit. -/
def FitAll (n : Nat) (D : Nat → Nd) : Prop := ∀ i, i < n → (D i).Fits

/-- What a place counts. -/
def Nd.size (d : Nd) : Nat := d.text.size + d.nn + sumTo d.names d.nn + d.kn
/-- What the first k count. -/
def sizeTo (D : Nat → Nd) : Nat → Nat | 0 => 0 | k + 1 => sizeTo D k + (D k).size

theorem sizeTo_succ (D : Nat → Nd) (k : Nat) : sizeTo D (k + 1) = sizeTo D k + (D k).size := rfl

theorem size_le_sizeTo (D : Nat → Nd) (n : Nat) : ∀ i, i < n → (D i).size ≤ sizeTo D n := by
  induction n with
  | zero => intro i hi; omega
  | succ n ih => intro i hi; rw [sizeTo_succ]; by_cases h : i < n
                 · have := ih i h; omega
                 · have : i = n := by omega
                   subst this; omega

/-- The two lists lie in blocks from B on. -/
def Loc.Past (l : Loc) (B : Nat) : Prop := (∃ b off, l.nA = some ⟨b, off, none⟩ ∧ B ≤ b) ∧ ∃ b off, l.kA = some ⟨b, off, none⟩ ∧ B ≤ b

theorem Loc.Past.mono {l : Loc} {B B' : Nat} (h : l.Past B) (hb : B' ≤ B) : l.Past B' := by
  obtain ⟨⟨b, o, h1, h2⟩, b', o', h3, h4⟩ := h
  exact ⟨⟨b, o, h1, by omega⟩, b', o', h3, by omega⟩

theorem NdIn.off {w : World} {d : Nd} {l : Loc} (h : NdIn w d l) {b i : Nat} (v : Value) (hp : l.Past (b + 1)) : NdIn (w.setCell ⟨b, i, none⟩ v) d l := by
  obtain ⟨h1, h2⟩ := h
  obtain ⟨⟨b1, o1, e1, g1⟩, b2, o2, e2, g2⟩ := hp
  unfold NdIn
  rw [e1] at h1 ⊢
  rw [e2] at h2 ⊢
  exact ⟨h1.off v (by omega), h2.off v (by omega)⟩

theorem run_make_wide {P : Program} (t e : TypeId) (z : Value) (bytes s : Nat) (ht : P.underlying t = some (.slice e)) (hinfo : (P.info? e).map (fun i => (i.zero, i.size, i.bytes)) = some (some z, s, bytes))
    (kl kc : IntKind) (n : Nat) (hbytes : bytes * n ≤ 281474976710656) (h63 : n ≤ 9223372036854775807) (w : World) :
    (Instr.makeSlice t (.int kl (n : Int)) (.int kc (n : Int))).run P w = .ok (.slice (some ⟨w.heap.size, 0, none⟩) n n) (w.alloc (.cells (madeCells z.cells (n * s)) e)) := by
  obtain ⟨i, hi, hzz⟩ := Option.map_eq_some_iff.1 hinfo
  simp only [Prod.mk.injEq] at hzz
  obtain ⟨hz, hs, hb⟩ := hzz
  have hb' : (i.bytes : Int) * (n : Int) ≤ 281474976710656 := by
    have h : ((i.bytes * n : Nat) : Int) ≤ 281474976710656 := by rw [hb]; omega
    rwa [Int.natCast_mul] at h
  have hr := run_make (P := P) w t e i z ht hi hz kl kc n n (by omega) (Int.le_refl _) hb' (by omega)
  simp only [Int.toNat_natCast, hs] at hr
  exact hr

/-- Two places are one. -/
def Nd.same (d e : Nd) : Bool := (d.kind == e.kind) && (d.text.toList == e.text.toList) && (decide (d.nn = e.nn) && eqS d.nn d.names e.names) && (decide (d.kn = e.kn) && eqZ d.kn d.kids e.kids) && (d.turn == e.turn)

theorem Nd.same_self (d : Nd) : d.same d = true := by
  unfold Nd.same
  rw [eqS_self _ _ _ (fun _ _ => rfl), eqZ_self _ _ _ (fun _ _ => rfl)]
  simp
end Go.Proofs.YtakifcobofkheabGreatDoor

/-
  How a place and a tree that are handed in are opened: what lies in memory from their addresses on.
-/
namespace Go.Proofs.YtakifcobofkheabGreatDoor
open Go.ChangeShapes Go.WideShapes Go.ChangeAt Go.RowKit Go.Deep
set_option linter.unusedVariables false

theorem cellsInt : Tryz.prog.cellsOf 3 = 1 := by kernel_rfl

theorem cellsNode : Tryz.prog.cellsOf 103 = 5 := by kernel_rfl

section
variable {H : Type} {enc : TypeId × Value → H} {W : World}

theorem trod5 {P : Program} {base : Nat} {spare : Nat → Bool} {held : Bool} {t : TypeId} {f0 f1 f2 f3 f4 : Field} {fuel : Nat} {cs : List Value} {x : DataW H × List MemPlace} (hs : P.underlying t = some (.struct #[f0, f1, f2, f3, f4])) (hone : oneCellFields P #[f0, f1, f2, f3, f4] = true)
    (hC : P.cellsOf t = 5) (h : DataW.trod enc P W base spare held fuel t cs = some x) :
    ∃ (v0 v1 v2 v3 v4 : Value) (y0 y1 y2 y3 y4 : DataW H × List MemPlace) (n : Nat), cs = [v0, v1, v2, v3, v4] ∧ DataW.trod enc P W base spare held n f0.type [v0] = some y0 ∧ DataW.trod enc P W base spare held n f1.type [v1] = some y1 ∧
      DataW.trod enc P W base spare held n f2.type [v2] = some y2 ∧ DataW.trod enc P W base spare held n f3.type [v3] = some y3 ∧ DataW.trod enc P W base spare held n f4.type [v4] = some y4 := by
  obtain ⟨xs, n, _, rfl, hl, hlen, hf⟩ := DataW.trod_struct hs h
  rw [hC] at hl
  obtain ⟨o0, k0⟩ := hone_of hone 0 f0 rfl
  obtain ⟨o1, k1⟩ := hone_of hone 1 f1 rfl
  obtain ⟨o2, k2⟩ := hone_of hone 2 f2 rfl
  obtain ⟨o3, k3⟩ := hone_of hone 3 f3 rfl
  obtain ⟨o4, k4⟩ := hone_of hone 4 f4 rfl
  match xs, hlen, cs, hl with
  | [y0, y1, y2, y3, y4], _, [v0, v1, v2, v3, v4], _ =>
    refine ⟨v0, v1, v2, v3, v4, y0, y1, y2, y3, y4, n, rfl, ?_, ?_, ?_, ?_, ?_⟩
    · simpa [o0, k0] using hf 0 f0 rfl
    · simpa [o1, k1] using hf 1 f1 rfl
    · simpa [o2, k2] using hf 2 f2 rfl
    · simpa [o3, k3] using hf 3 f3 rfl
    · simpa [o4, k4] using hf 4 f4 rfl

theorem openStrsC {v : Value} {fuel : Nat} {x : DataW H × List MemPlace} (h : DataW.trod enc Tryz.prog W 0 (fun _ => true) true fuel 23 [v] = some x) :
    ∃ (a : Option Addr) (n c : Nat) (S : Nat → ByteArray), v = .slice a n c ∧ IsStrs W a n S ∧ Small n S ∧ n ≤ maxLen := by
  rcases DataW.trod_slice Tryz.underlying23 h with ⟨h0, _⟩ | ⟨a, n, c, _, _, _, _, h0, _⟩
  · cases h0
    exact ⟨none, 0, 0, fun _ => ByteArray.empty, rfl, Or.inl rfl, fun i hi => by omega, by unfold maxLen; omega⟩
  · cases h0
    obtain ⟨S, h1, h2, h3⟩ := openStrs (enc := enc) (W := W) (a := some a) (n := n) (cap := c) ⟨fuel, by simpa [Value.cells] using h⟩
    exact ⟨some a, n, c, S, rfl, h1, h2, h3⟩

theorem wf64 {z : Int} (h : (Lit.int .i64 z).wf = true) : In64 z := by
  have h1 : IntKind.i64.min = -9223372036854775808 := by decide
  have h2 : IntKind.i64.max = 9223372036854775807 := by decide
  simp [Lit.wf] at h
  unfold In64
  omega

theorem openIntsC {v : Value} {fuel : Nat} {x : DataW H × List MemPlace} (h : DataW.trod enc Tryz.prog W 0 (fun _ => true) true fuel 26 [v] = some x) :
    ∃ (a : Option Addr) (n c : Nat) (Z : Nat → Int), v = .slice a n c ∧ IsInts W a n Z ∧ (∀ i, i < n → In64 (Z i)) ∧ n ≤ maxLen := by
  rcases open_ints Tryz.underlying26 Tryz.underlying3 cellsInt h with ⟨h0, _⟩ | ⟨a, n, c, zs, h0, _, hl, hm, hz, _, hcell, hwf⟩
  · cases h0
    exact ⟨none, 0, 0, fun _ => 0, rfl, Or.inl rfl, fun i hi => by omega, by unfold maxLen; omega⟩
  · cases h0
    simp at hz
    obtain ⟨b, off, spot⟩ := a
    refine ⟨some ⟨b, off, spot⟩, n, c, fun i => zs.getD i 0, rfl, ?_, fun i hi => ?_, by omega⟩
    · by_cases hn : n = 0
      · exact Or.inl hn
      · have h00 := hcell 0 (by omega)
        have hspot : spot = none := by simpa [Addr.add] using World.cell?_spot h00
        subst hspot
        refine Or.inr ⟨b, off, rfl, lt_of_cell (by simpa [Addr.add] using h00), fun i hi => ?_⟩
        have := hcell i (by omega)
        rw [add_plain] at this
        exact this
    · apply wf64
      show (Lit.int .i64 (zs.getD i 0)).wf = true
      rw [List.getD_eq_getElem?_getD, List.getElem?_eq_getElem (by omega)]
      exact hwf _ (List.getElem_mem _)

theorem openNodeC {cs : List Value} {fuel : Nat} {x : DataW H × List MemPlace} (h : DataW.trod enc Tryz.prog W 0 (fun _ => true) true fuel 103 cs = some x) :
    ∃ (d : Nd) (l : Loc), cs = [.int .i64 d.kind, .string d.text, .slice l.nA d.nn l.nc, .slice l.kA d.kn l.kc, .int .i64 d.turn] ∧ NdIn W d l ∧ d.Fits := by
  obtain ⟨v0, v1, v2, v3, v4, y0, y1, y2, y3, y4, n, rfl, h0, h1, h2, h3, h4⟩ := trod5 Tryz.underlying103 (by kernel_rfl) cellsNode h
  obtain ⟨z0, e0, _, w0⟩ := DataW.trod_int Tryz.underlying3 h0
  obtain ⟨s, e1, _, w1⟩ := DataW.trod_string Tryz.underlying9 h1
  obtain ⟨a2, n2, c2, S, e2, i2, m2, l2⟩ := openStrsC h2
  obtain ⟨a3, n3, c3, Z, e3, i3, m3, l3⟩ := openIntsC h3
  obtain ⟨z4, e4, _, w4⟩ := DataW.trod_int Tryz.underlying3 h4
  cases e0; cases e1; cases e2; cases e3; cases e4
  exact ⟨⟨z0, s, n2, S, n3, Z, z4⟩, ⟨a2, c2, a3, c3⟩, rfl, ⟨i2, i3⟩, ⟨wf64 w0, wf64 w4, w1, m2, l2, l3, m3⟩⟩

end
end Go.Proofs.YtakifcobofkheabGreatDoor

/-
  A region that draws its order, whose callees lay new memory and touch none of the old: walked once, in the order of the text, in every world that is as the first one was below a block.
-/
namespace Go.Proofs.YtakifcobofkheabGreatDoor
open Go.RowKit Go.Deep
set_option linter.unusedVariables false

/-- A world that is as w was below block B. -/
structure Lat (B : Nat) (w : World) where
  val : World
  bel : Below B w val

instance {B : Nat} {w : World} : Nonempty (Lat B w) := ⟨⟨w, Below.refl _ _⟩⟩

theorem Lat.cell {B : Nat} {w : World} {p : Addr} {v : Value} (h : w.cell? p = some v) (hp : p.block < B) : ∀ n : Lat B w, n.val.cell? p = some v := fun n => (n.bel.cell hp).trans h

theorem wp_region_lat {P : Program} {id : Nat} {Q : Exit → Act → World → Prop} {a : Act} {w w0 : World} {B : Nat} {l : List Oper} (hm : P.follows .mixedOrders = true) (hB : Region.lexB .any l.toArray = true) (hw : Below B w0 w)
    (h : wpQuiet P l.toArray (fun w' => ∃ n : Lat B w0, w' = n.val) (fun a' => ∀ w', (∃ n : Lat B w0, w' = n.val) → Q .normal a' w') l a) : (Code.region id l.toArray true).wp P Q a w :=
  wp_region_quiet (C := fun w' => ∃ n : Lat B w0, w' = n.val) hm hB ⟨⟨_, hw.drew⟩, rfl⟩ (by simpa using h)

/-- A callee that leaves all below a block as it was. -/
theorem Calls.lat_of {P : Program} {f : FuncId} {args : Array Value} {w0 : World} {B : Nat} {n : Lat B w0} {v : Value} {R : Ending → World → Prop}
    (h : Calls P f args n.val R) (hR : ∀ e w', R e w' → e = .returned v ∧ Below B n.val w') : Calls P f args n.val fun e w'' => e = .returned v ∧ ∃ m : Lat B w0, w'' = m.val :=
  h.mono fun e w' hr => ⟨(hR e w' hr).1, ⟨w', n.bel.trans (hR e w' hr).2⟩, rfl⟩
end Go.Proofs.YtakifcobofkheabGreatDoor

/-
  Places, lists of places and trees: when two are one; the value of a tree; plain facts.
-/
namespace Go.Proofs.YtakifcobofkheabGreatDoor
open Go.RowKit
set_option linter.unusedVariables false

theorem infoNode : (Tryz.prog.info? 28).map (fun i => (i.zero, i.size, i.bytes)) = some (some (.agg #[.int .i64 0, .string ByteArray.empty, .slice none 0 0, .slice none 0 0, .int .i64 0]), 5, 80) := by kernel_rfl

theorem same_kind {d e : Nd} (h : (d.kind != e.kind) = true) : false = d.same e := by
  have h' : (d.kind == e.kind) = false := by simpa using h
  unfold Nd.same; rw [h']; rfl
theorem same_text {d e : Nd} (h : (!d.text.toList == e.text.toList) = true) : false = d.same e := by
  have h' : (d.text.toList == e.text.toList) = false := by simpa using h
  unfold Nd.same; rw [h']; simp
theorem same_names {d e : Nd} (h : (decide (d.nn = e.nn) && eqS d.nn d.names e.names) = false) : false = d.same e := by
  unfold Nd.same; rw [h]; simp
theorem same_kids {d e : Nd} (h : (decide (d.kn = e.kn) && eqZ d.kn d.kids e.kids) = false) : false = d.same e := by
  unfold Nd.same; rw [h]; simp
theorem same_turn {d e : Nd} (h : (d.turn != e.turn) = true) : false = d.same e := by
  have h' : (d.turn == e.turn) = false := by simpa using h
  unfold Nd.same; rw [h']; simp
theorem same_yes {d e : Nd} (h1 : (d.kind != e.kind) = false) (h2 : (!d.text.toList == e.text.toList) = false) (h3 : (decide (d.nn = e.nn) && eqS d.nn d.names e.names) = true)
    (h4 : (decide (d.kn = e.kn) && eqZ d.kn d.kids e.kids) = true) (h5 : (d.turn != e.turn) = false) : true = d.same e := by
  have h1' : (d.kind == e.kind) = true := by simpa using h1
  have h2' : (d.text.toList == e.text.toList) = true := by simpa using h2
  have h5' : (d.turn == e.turn) = true := by simpa using h5
  unfold Nd.same; rw [h1', h2', h3, h4, h5']; rfl

/-- Two lists of places are one. -/
def sameAll (n : Nat) (D E : Nat → Nd) : Bool := (List.range n).all fun i => (D i).same (E i)

theorem sameAll_succ (k : Nat) (D E : Nat → Nd) (h : sameAll k D E = true) (hk : (D k).same (E k) = true) : sameAll (k + 1) D E = true := by
  unfold sameAll at *
  rw [List.range_succ, List.all_append, h]; simpa using hk

theorem sameAll_not (n k : Nat) (D E : Nat → Nd) (hk : k < n) (h : (D k).same (E k) = false) : false = sameAll n D E := by
  symm
  rw [Bool.eq_false_iff]
  intro ha
  have := List.all_eq_true.1 ha k (by simpa using hk)
  simp [this] at h

theorem sameAll_self (n : Nat) (D : Nat → Nd) : sameAll n D D = true := by
  unfold sameAll
  rw [List.all_eq_true]
  intro i hi
  exact Nd.same_self _

/-- The value of a tree. -/
def trV (a : Option Addr) (n c : Nat) (now : Int) : Value := .agg #[.slice a n c, .int .i64 now]

theorem rowIs_wide (w : World) (z : Array Value) (n : Nat) (t : TypeId) : ∃ g, (w.alloc (.cells (madeCells z n) t)).rowIs w.heap.size t n g :=
  ⟨fun i => (madeCells z n).getD i undef, _, Go.Deep.blk_alloc_new _ _, size_madeCells _ _, fun i hi => by
    have h : i < (madeCells z n).size := by rw [size_madeCells]; exact hi
    simp [Array.getElem?_eq_getElem h]⟩

theorem rowIs_below {w w' : World} {b n : Nat} {t : TypeId} {f : Nat → Value} (h : w.rowIs b t n f) {B : Nat} (hb : Below B w w') (hB : b < B) : w'.rowIs b t n f := h.of_block (hb.block b hB)
end Go.Proofs.YtakifcobofkheabGreatDoor

/-
  Lists of truth values as they lie in memory: plain facts.
-/
namespace Go.Proofs.YtakifcobofkheabGreatDoor
open Go.RowKit
set_option linter.unusedVariables false

theorem infoBool : (Tryz.prog.info? 4).map (fun i => (i.zero, i.size, i.bytes)) = some (some (.bool false), 1, 1) := by kernel_rfl

/-- n truth values lie in memory from the address on. -/
def IsBools (w : World) (a : Option Addr) (n : Nat) (Z : Nat → Bool) : Prop :=
  n = 0 ∨ ∃ b off, a = some ⟨b, off, none⟩ ∧ b < w.heap.size ∧ ∀ i, i < n → w.cell? ⟨b, off + i, none⟩ = some (.bool (Z i))

theorem IsBools.at {w : World} {a : Option Addr} {n : Nat} {Z : Nat → Bool} (h : IsBools w a n Z) {k : Nat} (hk : k < n) :
    ∃ b off, a = some ⟨b, off, none⟩ ∧ b < w.heap.size ∧ ∀ i, i < n → w.cell? ⟨b, off + i, none⟩ = some (.bool (Z i)) := by
  rcases h with h | h
  · omega
  · exact h

theorem IsBools.below {w w' : World} {a : Option Addr} {n : Nat} {Z : Nat → Bool} (h : IsBools w a n Z) {B : Nat} (hB : w.heap.size ≤ B) (hb : Below B w w') : IsBools w' a n Z := by
  rcases h with h | ⟨b, off, ha, hlt, hc⟩
  · exact Or.inl h
  · exact Or.inr ⟨b, off, ha, by have := hb.size; omega, fun i hi => by rw [hb.cell (p := ⟨b, off + i, none⟩) (by show b < B; omega)]; exact hc i hi⟩

def eqB (n : Nat) (Z Y : Nat → Bool) : Bool := (List.range n).all fun i => Z i == Y i

theorem eqB_succ (k : Nat) (Z Y : Nat → Bool) (h : eqB k Z Y = true) (hk : Z k = Y k) : eqB (k + 1) Z Y = true := by
  unfold eqB at *
  rw [List.range_succ, List.all_append, h]; simpa using hk

theorem eqB_not (n k : Nat) (Z Y : Nat → Bool) (hk : k < n) (h : ¬ Z k = Y k) : false = eqB n Z Y := by
  symm
  rw [Bool.eq_false_iff]
  intro ha
  have := List.all_eq_true.1 ha k (by simpa using hk)
  simp at this; exact h this

theorem eqB_self (n : Nat) (Z Y : Nat → Bool) (h : ∀ i, i < n → Z i = Y i) : eqB n Z Y = true := by
  unfold eqB
  rw [List.all_eq_true]
  intro i hi
  rw [h i (by simpa using hi)]
  simp

theorem IsBools.row {w : World} {b n : Nat} {Z : Nat → Bool} (h : w.rowIs b 4 n (fun i => .bool (Z i))) : IsBools w (some ⟨b, 0, none⟩) n Z :=
  Or.inr ⟨b, 0, rfl, h.lt, fun i hi => by rw [Nat.zero_add]; exact h.cell hi⟩
theorem IsBools.off {w : World} {b' off' n : Nat} {Z : Nat → Bool} (h : IsBools w (some ⟨b', off', none⟩) n Z) {b i : Nat} (v : Value) (hb : b' ≠ b) : IsBools (w.setCell ⟨b, i, none⟩ v) (some ⟨b', off', none⟩) n Z := by
  rcases h with h | ⟨b0, o0, ha, hlt, hc⟩
  · exact Or.inl h
  · cases ha
    exact Or.inr ⟨b', off', rfl, by simpa [World.setCell] using hlt, fun i hi => by rw [← hc i hi]; exact World.cell?_of_block (Go.Deep.blk_setCell_other _ _ _ _ hb)⟩
end Go.Proofs.YtakifcobofkheabGreatDoor

/-
  Places that were turned, and what is kept of a tree, as they lie in memory: plain facts.
-/
namespace Go.Proofs.YtakifcobofkheabGreatDoor
open Go.RowKit
set_option linter.unusedVariables false

theorem infoItem : (Tryz.prog.info? 100).map (fun i => (i.zero, i.size, i.bytes)) = some (some (.agg #[.int .i64 0, .int .i64 0, .string ByteArray.empty, .slice none 0 0, .slice none 0 0, .int .i64 0]), 6, 88) := by kernel_rfl

/-- The value of a place that was turned. -/
def itV (o : Int) (d : Nd) (l : Loc) : Value := .agg #[.int .i64 o, .int .i64 d.kind, .string d.text, .slice l.nA d.nn l.nc, .slice l.kA d.kn l.kc, .int .i64 d.turn]

/-- n of them lie in memory from the address on, six cells each. -/
def IsIts (w : World) (a : Option Addr) (n : Nat) (O : Nat → Int) (D : Nat → Nd) (L : Nat → Loc) : Prop :=
  n = 0 ∨ ∃ b off, a = some ⟨b, off, none⟩ ∧ b < w.heap.size ∧ ∀ i, i < n →
    w.cell? ⟨b, off + i * 6, none⟩ = some (.int .i64 (O i)) ∧ w.cell? ⟨b, off + i * 6 + 1, none⟩ = some (.int .i64 (D i).kind) ∧ w.cell? ⟨b, off + i * 6 + 2, none⟩ = some (.string (D i).text) ∧
    w.cell? ⟨b, off + i * 6 + 3, none⟩ = some (.slice (L i).nA (D i).nn (L i).nc) ∧ w.cell? ⟨b, off + i * 6 + 4, none⟩ = some (.slice (L i).kA (D i).kn (L i).kc) ∧
    w.cell? ⟨b, off + i * 6 + 5, none⟩ = some (.int .i64 (D i).turn) ∧ NdIn w (D i) (L i)

theorem IsIts.at {w : World} {a : Option Addr} {n : Nat} {O : Nat → Int} {D : Nat → Nd} {L : Nat → Loc} (h : IsIts w a n O D L) {k : Nat} (hk : k < n) :
    ∃ b off, a = some ⟨b, off, none⟩ ∧ b < w.heap.size ∧ ∀ i, i < n →
    w.cell? ⟨b, off + i * 6, none⟩ = some (.int .i64 (O i)) ∧ w.cell? ⟨b, off + i * 6 + 1, none⟩ = some (.int .i64 (D i).kind) ∧ w.cell? ⟨b, off + i * 6 + 2, none⟩ = some (.string (D i).text) ∧
    w.cell? ⟨b, off + i * 6 + 3, none⟩ = some (.slice (L i).nA (D i).nn (L i).nc) ∧ w.cell? ⟨b, off + i * 6 + 4, none⟩ = some (.slice (L i).kA (D i).kn (L i).kc) ∧
    w.cell? ⟨b, off + i * 6 + 5, none⟩ = some (.int .i64 (D i).turn) ∧ NdIn w (D i) (L i) := by
  rcases h with h | h
  · omega
  · exact h

theorem IsIts.below {w w' : World} {a : Option Addr} {n : Nat} {O : Nat → Int} {D : Nat → Nd} {L : Nat → Loc} (h : IsIts w a n O D L) {B : Nat} (hB : w.heap.size ≤ B) (hb : Below B w w') : IsIts w' a n O D L := by
  rcases h with h | ⟨b, off, ha, hlt, hc⟩
  · exact Or.inl h
  · have hs := hb.size
    refine Or.inr ⟨b, off, ha, by omega, fun i hi => ?_⟩
    obtain ⟨h0, h1, h2, h3, h4, h5, h6⟩ := hc i hi
    have e : ∀ o, w'.cell? ⟨b, o, none⟩ = w.cell? ⟨b, o, none⟩ := fun o => hb.cell (p := ⟨b, o, none⟩) (by show b < B; omega)
    exact ⟨(e _).trans h0, (e _).trans h1, (e _).trans h2, (e _).trans h3, (e _).trans h4, (e _).trans h5, h6.below hB hb⟩

/-- Two are one. -/
def sameIt (o p : Int) (d e : Nd) : Bool := (o == p) && d.same e
def sameIts (n : Nat) (O P : Nat → Int) (D E : Nat → Nd) : Bool := (List.range n).all fun i => sameIt (O i) (P i) (D i) (E i)

theorem sameIts_succ (k : Nat) (O P : Nat → Int) (D E : Nat → Nd) (h : sameIts k O P D E = true) (hk : sameIt (O k) (P k) (D k) (E k) = true) : sameIts (k + 1) O P D E = true := by
  unfold sameIts at *
  rw [List.range_succ, List.all_append, h]; simpa using hk

theorem sameIts_not (n k : Nat) (O P : Nat → Int) (D E : Nat → Nd) (hk : k < n) (h : sameIt (O k) (P k) (D k) (E k) = false) : false = sameIts n O P D E := by
  symm
  rw [Bool.eq_false_iff]
  intro ha
  have := List.all_eq_true.1 ha k (by simpa using hk)
  simp [this] at h

theorem sameIts_self (n : Nat) (O : Nat → Int) (D : Nat → Nd) : sameIts n O O D D = true := by
  unfold sameIts
  rw [List.all_eq_true]
  intro i hi
  unfold sameIt
  rw [Nd.same_self]
  simp

/-- What is kept: since when, till when, so many truth values, so many places that were turned. -/
structure Dp where
  since : Int
  date : Int
  ln : Nat
  live : Nat → Bool
  m : Nat
  ino : Nat → Int
  nd : Nat → Nd

/-- Where its lists lie. -/
structure DLoc where
  lA : Option Addr
  lc : Nat
  iA : Option Addr
  ic : Nat
  L : Nat → Loc

def dpV (d : Dp) (l : DLoc) : Value := .agg #[.int .i64 d.since, .int .i64 d.date, .slice l.lA d.ln l.lc, .slice l.iA d.m l.ic]

structure DpIn (w : World) (d : Dp) (l : DLoc) : Prop where
  live : IsBools w l.lA d.ln d.live
  items : IsIts w l.iA d.m d.ino d.nd l.L

theorem DpIn.below {w w' : World} {d : Dp} {l : DLoc} (h : DpIn w d l) {B : Nat} (hB : w.heap.size ≤ B) (hb : Below B w w') : DpIn w' d l := ⟨h.live.below hB hb, h.items.below hB hb⟩

/-- The bounds that hold of all that is handed in. -/
structure Dp.Fits (d : Dp) : Prop where
  since : In64 d.since
  date : In64 d.date
  ln : d.ln ≤ maxLen
  m : d.m ≤ maxLen
  ino : ∀ i, i < d.m → In64 (d.ino i)
  nds : FitAll d.m d.nd

/-- What it counts. -/
def Dp.size (d : Dp) : Nat := d.ln + d.m + sizeTo d.nd d.m

/-- Two are one. -/
def Dp.same (d e : Dp) : Bool := (d.since == e.since) && (d.date == e.date) && (decide (d.ln = e.ln) && eqB d.ln d.live e.live) && (decide (d.m = e.m) && sameIts d.m d.ino e.ino d.nd e.nd)

theorem Dp.same_self (d : Dp) : d.same d = true := by
  unfold Dp.same
  rw [eqB_self _ _ _ (fun _ _ => rfl), sameIts_self]
  simp

/-- n places that were turned lie in a block of their own, so many of them laid. -/
structure ItRow (w : World) (b n k : Nat) (O : Nat → Int) (D : Nat → Nd) (L : Nat → Loc) : Prop where
  row : ∃ g, w.rowIs b 100 (n * 6) g ∧ ∀ i, i < k → g (i * 6) = .int .i64 (O i) ∧ g (i * 6 + 1) = .int .i64 (D i).kind ∧ g (i * 6 + 2) = .string (D i).text ∧ g (i * 6 + 3) = .slice (L i).nA (D i).nn (L i).nc ∧ g (i * 6 + 4) = .slice (L i).kA (D i).kn (L i).kc ∧ g (i * 6 + 5) = .int .i64 (D i).turn
  lists : ∀ i, i < k → NdIn w (D i) (L i) ∧ (L i).Past (b + 1)

theorem ItRow.its {w : World} {b n : Nat} {O : Nat → Int} {D : Nat → Nd} {L : Nat → Loc} (h : ItRow w b n n O D L) : IsIts w (some ⟨b, 0, none⟩) n O D L := by
  obtain ⟨⟨g, hr, hg⟩, hl⟩ := h
  refine Or.inr ⟨b, 0, rfl, hr.lt, fun i hi => ?_⟩
  obtain ⟨g0, g1, g2, g3, g4, g5⟩ := hg i hi
  rw [Nat.zero_add, ← g0, ← g1, ← g2, ← g3, ← g4, ← g5]
  exact ⟨hr.cell (by omega), hr.cell (by omega), hr.cell (by omega), hr.cell (by omega), hr.cell (by omega), hr.cell (by omega), (hl i hi).1⟩

theorem ItRow.below {w w' : World} {b n k : Nat} {O : Nat → Int} {D : Nat → Nd} {L : Nat → Loc} (h : ItRow w b n k O D L) {B : Nat} (hB : w.heap.size ≤ B) (hb : Below B w w') : ItRow w' b n k O D L := by
  obtain ⟨⟨g, hr, hg⟩, hl⟩ := h
  have := hr.lt
  exact ⟨⟨g, rowIs_below hr hb (by omega), hg⟩, fun i hi => ⟨(hl i hi).1.below hB hb, (hl i hi).2⟩⟩

theorem ItRow.off {w : World} {b n k : Nat} {O : Nat → Int} {D : Nat → Nd} {L : Nat → Loc} (h : ItRow w b n k O D L) {b' i : Nat} (v : Value) (hb : b' < b) : ItRow (w.setCell ⟨b', i, none⟩ v) b n k O D L := by
  obtain ⟨⟨g, hr, hg⟩, hl⟩ := h
  exact ⟨⟨g, hr.setOther (a := ⟨b', i, none⟩) (show b ≠ b' by omega) v, hg⟩, fun i hi => ⟨(hl i hi).1.off v ((hl i hi).2.mono (by omega)), (hl i hi).2⟩⟩

theorem six_ne {i k r s : Nat} (h : i ≠ k) (hr : r < 6) (hs : s < 6) : i * 6 + r ≠ k * 6 + s := by omega

theorem ItRow.step {w : World} {b n k : Nat} {O : Nat → Int} {D : Nat → Nd} {L : Nat → Loc} (h : ItRow w b n k O D L) {l : Loc} (hI : NdIn w (D k) l) (hp : l.Past (b + 1)) :
    ItRow ((((((w.setCell ⟨b, k * 6, none⟩ (.int .i64 (O k))).setCell ⟨b, k * 6 + 1, none⟩ (.int .i64 (D k).kind)).setCell ⟨b, k * 6 + 2, none⟩ (.string (D k).text)).setCell ⟨b, k * 6 + 3, none⟩ (.slice l.nA (D k).nn l.nc)).setCell ⟨b, k * 6 + 4, none⟩ (.slice l.kA (D k).kn l.kc)).setCell ⟨b, k * 6 + 5, none⟩ (.int .i64 (D k).turn)) b n (k + 1) O D (fun i => if i = k then l else L i) := by
  obtain ⟨⟨g, hr, hg⟩, hl⟩ := h
  refine ⟨⟨_, (((((hr.set _ _).set _ _).set _ _).set _ _).set _ _).set _ _, fun i hi => ?_⟩, fun i hi => ?_⟩
  · by_cases e : i = k
    · subst e
      simp
    · have := hg i (by omega)
      have n0 : ∀ r s, r < 6 → s < 6 → ¬ i * 6 + r = k * 6 + s := fun r s hr hs => six_ne e hr hs
      have z0 : ∀ s, s < 6 → ¬ i * 6 = k * 6 + s := fun s hs => n0 0 s (by omega) hs
      have z1 : ∀ r, r < 6 → ¬ i * 6 + r = k * 6 := fun r hr => n0 r 0 hr (by omega)
      have z2 : ¬ i * 6 = k * 6 := n0 0 0 (by omega) (by omega)
      simp only [if_neg e]
      refine ⟨?_, ?_, ?_, ?_, ?_, ?_⟩
      · rw [if_neg (z0 5 (by omega)), if_neg (z0 4 (by omega)), if_neg (z0 3 (by omega)), if_neg (z0 2 (by omega)), if_neg (z0 1 (by omega)), if_neg z2]; exact this.1
      · rw [if_neg (n0 1 5 (by omega) (by omega)), if_neg (n0 1 4 (by omega) (by omega)), if_neg (n0 1 3 (by omega) (by omega)), if_neg (n0 1 2 (by omega) (by omega)), if_neg (n0 1 1 (by omega) (by omega)), if_neg (z1 1 (by omega))]; exact this.2.1
      · rw [if_neg (n0 2 5 (by omega) (by omega)), if_neg (n0 2 4 (by omega) (by omega)), if_neg (n0 2 3 (by omega) (by omega)), if_neg (n0 2 2 (by omega) (by omega)), if_neg (n0 2 1 (by omega) (by omega)), if_neg (z1 2 (by omega))]; exact this.2.2.1
      · rw [if_neg (n0 3 5 (by omega) (by omega)), if_neg (n0 3 4 (by omega) (by omega)), if_neg (n0 3 3 (by omega) (by omega)), if_neg (n0 3 2 (by omega) (by omega)), if_neg (n0 3 1 (by omega) (by omega)), if_neg (z1 3 (by omega))]; exact this.2.2.2.1
      · rw [if_neg (n0 4 5 (by omega) (by omega)), if_neg (n0 4 4 (by omega) (by omega)), if_neg (n0 4 3 (by omega) (by omega)), if_neg (n0 4 2 (by omega) (by omega)), if_neg (n0 4 1 (by omega) (by omega)), if_neg (z1 4 (by omega))]; exact this.2.2.2.2.1
      · rw [if_neg (n0 5 5 (by omega) (by omega)), if_neg (n0 5 4 (by omega) (by omega)), if_neg (n0 5 3 (by omega) (by omega)), if_neg (n0 5 2 (by omega) (by omega)), if_neg (n0 5 1 (by omega) (by omega)), if_neg (z1 5 (by omega))]; exact this.2.2.2.2.2
  · by_cases e : i = k
    · subst e
      simp only [if_true]
      exact ⟨(((((hI.off _ hp).off _ hp).off _ hp).off _ hp).off _ hp).off _ hp, hp⟩
    · obtain ⟨h1, h2⟩ := hl i (by omega)
      simp only [if_neg e]
      exact ⟨(((((h1.off _ h2).off _ h2).off _ h2).off _ h2).off _ h2).off _ h2, h2⟩
end Go.Proofs.YtakifcobofkheabGreatDoor

/-
  How what is kept of a tree, handed in, is opened: what lies in memory from its addresses on.
-/
namespace Go.Proofs.YtakifcobofkheabGreatDoor
open Go.ChangeShapes Go.WideShapes Go.ChangeAt Go.RowKit Go.Deep
set_option linter.unusedVariables false

theorem cellsBool : Tryz.prog.cellsOf 4 = 1 := by kernel_rfl
theorem cellsItem : Tryz.prog.cellsOf 105 = 6 := by kernel_rfl
theorem cellsDump : Tryz.prog.cellsOf 58 = 4 := by kernel_rfl

section
variable {H : Type} {enc : TypeId × Value → H} {W : World}

theorem openBoolsC {v : Value} {fuel : Nat} {x : DataW H × List MemPlace} (h : DataW.trod enc Tryz.prog W 0 (fun _ => true) true fuel 55 [v] = some x) :
    ∃ (a : Option Addr) (n c : Nat) (Z : Nat → Bool), v = .slice a n c ∧ IsBools W a n Z ∧ n ≤ maxLen := by
  rcases open_slice1 Tryz.underlying55 cellsBool h with ⟨h0, _⟩ | ⟨a, n, c, m, fl, V, DD, Pl, h0, _, hl, hm, hmm, _, hx⟩
  · cases h0
    exact ⟨none, 0, 0, fun _ => false, rfl, Or.inl rfl, by unfold maxLen; omega⟩
  · cases h0
    simp at hmm
    have each : ∀ i, i < n → ∃ q : Bool, W.cell? (a.add i) = some (.bool q) := fun i hi => by
      obtain ⟨h1, h2⟩ := hx i (by omega)
      obtain ⟨q, e, _⟩ := DataW.trod_bool Tryz.underlying4 h2
      have e' : V i = .bool q := by simpa using e
      exact ⟨q, by rw [h1, e']⟩
    obtain ⟨f, hf⟩ := choose_lt each
    obtain ⟨b, off, spot⟩ := a
    refine ⟨some ⟨b, off, spot⟩, n, c, f, rfl, ?_, by omega⟩
    by_cases hn : n = 0
    · exact Or.inl hn
    · have h00 := hf 0 (by omega)
      have hspot : spot = none := by simpa [Addr.add] using World.cell?_spot h00
      subst hspot
      refine Or.inr ⟨b, off, rfl, lt_of_cell (by simpa [Addr.add] using h00), fun i hi => ?_⟩
      have := hf i hi
      rw [add_plain] at this
      exact this

theorem trod15 {P : Program} {base : Nat} {spare : Nat → Bool} {held : Bool} {t : TypeId} {f0 f1 : Field} {fuel : Nat} {cs : List Value} {x : DataW H × List MemPlace} (hs : P.underlying t = some (.struct #[f0, f1])) (h0 : f0.offset = 0) (h1 : f1.offset = 1) (c0 : P.cellsOf f0.type = 1) (c1 : P.cellsOf f1.type = 5)
    (hC : P.cellsOf t = 6) (h : DataW.trod enc P W base spare held fuel t cs = some x) :
    ∃ (v0 v1 v2 v3 v4 v5 : Value) (y0 y1 : DataW H × List MemPlace) (n : Nat), cs = [v0, v1, v2, v3, v4, v5] ∧ DataW.trod enc P W base spare held n f0.type [v0] = some y0 ∧ DataW.trod enc P W base spare held n f1.type [v1, v2, v3, v4, v5] = some y1 := by
  obtain ⟨y0, y1, n, _, hl, g0, g1⟩ := trod_struct2 hs h
  rw [hC] at hl
  match cs, hl with
  | [v0, v1, v2, v3, v4, v5], _ => exact ⟨v0, v1, v2, v3, v4, v5, y0, y1, n, rfl, by simpa [h0, c0] using g0, by simpa [h1, c1] using g1⟩

theorem trod4 {P : Program} {base : Nat} {spare : Nat → Bool} {held : Bool} {t : TypeId} {f0 f1 f2 f3 : Field} {fuel : Nat} {cs : List Value} {x : DataW H × List MemPlace} (hs : P.underlying t = some (.struct #[f0, f1, f2, f3])) (hone : oneCellFields P #[f0, f1, f2, f3] = true)
    (hC : P.cellsOf t = 4) (h : DataW.trod enc P W base spare held fuel t cs = some x) :
    ∃ (v0 v1 v2 v3 : Value) (y0 y1 y2 y3 : DataW H × List MemPlace) (n : Nat), cs = [v0, v1, v2, v3] ∧ DataW.trod enc P W base spare held n f0.type [v0] = some y0 ∧ DataW.trod enc P W base spare held n f1.type [v1] = some y1 ∧
      DataW.trod enc P W base spare held n f2.type [v2] = some y2 ∧ DataW.trod enc P W base spare held n f3.type [v3] = some y3 := by
  obtain ⟨xs, n, _, rfl, hl, hlen, hf⟩ := DataW.trod_struct hs h
  rw [hC] at hl
  obtain ⟨o0, k0⟩ := hone_of hone 0 f0 rfl
  obtain ⟨o1, k1⟩ := hone_of hone 1 f1 rfl
  obtain ⟨o2, k2⟩ := hone_of hone 2 f2 rfl
  obtain ⟨o3, k3⟩ := hone_of hone 3 f3 rfl
  match xs, hlen, cs, hl with
  | [y0, y1, y2, y3], _, [v0, v1, v2, v3], _ =>
    refine ⟨v0, v1, v2, v3, y0, y1, y2, y3, n, rfl, ?_, ?_, ?_, ?_⟩
    · simpa [o0, k0] using hf 0 f0 rfl
    · simpa [o1, k1] using hf 1 f1 rfl
    · simpa [o2, k2] using hf 2 f2 rfl
    · simpa [o3, k3] using hf 3 f3 rfl

theorem openItemC {cs : List Value} {fuel : Nat} {x : DataW H × List MemPlace} (h : DataW.trod enc Tryz.prog W 0 (fun _ => true) true fuel 105 cs = some x) :
    ∃ (o : Int) (d : Nd) (l : Loc), cs = [.int .i64 o, .int .i64 d.kind, .string d.text, .slice l.nA d.nn l.nc, .slice l.kA d.kn l.kc, .int .i64 d.turn] ∧ NdIn W d l ∧ d.Fits ∧ In64 o := by
  obtain ⟨v0, v1, v2, v3, v4, v5, y0, y1, n, rfl, h0, h1⟩ := trod15 Tryz.underlying105 rfl rfl cellsInt cellsNode cellsItem h
  obtain ⟨o, e0, _, w0⟩ := DataW.trod_int Tryz.underlying3 h0
  obtain ⟨d, l, e1, hI, hf⟩ := openNodeC h1
  cases e0; cases e1
  exact ⟨o, d, l, rfl, hI, hf, wf64 w0⟩

theorem openItemsC {v : Value} {fuel : Nat} {x : DataW H × List MemPlace} (h : DataW.trod enc Tryz.prog W 0 (fun _ => true) true fuel 56 [v] = some x) :
    ∃ (a : Option Addr) (n c : Nat) (O : Nat → Int) (D : Nat → Nd) (L : Nat → Loc), v = .slice a n c ∧ IsIts W a n O D L ∧ FitAll n D ∧ (∀ i, i < n → In64 (O i)) ∧ n ≤ maxLen := by
  rcases open_slice Tryz.underlying56 h with ⟨h0, _⟩ | ⟨a, n, c, m, fl, DD, Pl, h0, _, hl, hm, hmm, _, hx⟩
  · cases h0
    exact ⟨none, 0, 0, fun _ => 0, fun _ => default, fun _ => default, rfl, Or.inl rfl, fun i hi => by omega, fun i hi => by omega, by unfold maxLen; omega⟩
  · cases h0
    simp at hmm
    have each : ∀ i, i < n → ∃ p : Int × Nd × Loc, W.cells? 0 (a.add (i * 6)) 6 = some [.int .i64 p.1, .int .i64 p.2.1.kind, .string p.2.1.text, .slice p.2.2.nA p.2.1.nn p.2.2.nc, .slice p.2.2.kA p.2.1.kn p.2.2.kc, .int .i64 p.2.1.turn] ∧ NdIn W p.2.1 p.2.2 ∧ p.2.1.Fits ∧ In64 p.1 := by
      intro i hi
      obtain ⟨cs', h1, h2⟩ := hx i (by omega)
      rw [cellsItem] at h1
      obtain ⟨o, d, l, rfl, h3, h4, h5⟩ := openItemC h2
      exact ⟨(o, d, l), h1, h3, h4, h5⟩
    obtain ⟨f, hf⟩ := choose_lt each
    refine ⟨some a, n, c, fun i => (f i).1, fun i => (f i).2.1, fun i => (f i).2.2, rfl, ?_, fun i hi => (hf i hi).2.2.1, fun i hi => (hf i hi).2.2.2, by omega⟩
    by_cases hn : n = 0
    · exact Or.inl hn
    · obtain ⟨b, off, spot⟩ := a
      have h00 := (World.cells?_some (hf 0 (by omega)).1).2.2 0 (by omega)
      have hspot : spot = none := by
        have : W.cell? ⟨b, off, spot⟩ = some (.int .i64 (f 0).1) := by simpa [Addr.add] using h00
        simpa using World.cell?_spot this
      subst hspot
      have h00' : W.cell? ⟨b, off, none⟩ = some (.int .i64 (f 0).1) := by simpa [Addr.add] using h00
      refine Or.inr ⟨b, off, rfl, lt_of_cell h00', fun i hi => ?_⟩
      obtain ⟨h1, h2, _⟩ := hf i hi
      have g := (World.cells?_some h1).2.2
      have e : ∀ j, j < 6 → W.cell? ⟨b, off + i * 6 + j, none⟩ = [Value.int .i64 (f i).1, .int .i64 (f i).2.1.kind, .string (f i).2.1.text, .slice (f i).2.2.nA (f i).2.1.nn (f i).2.2.nc, .slice (f i).2.2.kA (f i).2.1.kn (f i).2.2.kc, .int .i64 (f i).2.1.turn][j]? := by
        intro j hj
        have := g j hj
        rw [add_add, add_plain] at this
        rw [← this, Nat.add_assoc]
      exact ⟨by simpa using e 0 (by omega), by simpa using e 1 (by omega), by simpa using e 2 (by omega), by simpa using e 3 (by omega), by simpa using e 4 (by omega), by simpa using e 5 (by omega), h2⟩

set_option maxRecDepth 100000 in
theorem openDumpC {cs : List Value} {fuel : Nat} {x : DataW H × List MemPlace} (h : DataW.trod enc Tryz.prog W 0 (fun _ => true) true fuel 58 cs = some x) :
    ∃ (d : Dp) (l : DLoc), cs = [.int .i64 d.since, .int .i64 d.date, .slice l.lA d.ln l.lc, .slice l.iA d.m l.ic] ∧ DpIn W d l ∧ d.Fits := by
  obtain ⟨v0, v1, v2, v3, y0, y1, y2, y3, n, rfl, h0, h1, h2, h3⟩ := trod4 Tryz.underlying58 (by kernel_rfl) cellsDump h
  obtain ⟨z0, e0, _, w0⟩ := DataW.trod_int Tryz.underlying3 h0
  obtain ⟨z1, e1, _, w1⟩ := DataW.trod_int Tryz.underlying3 h1
  obtain ⟨a2, n2, c2, Z, e2, i2, l2⟩ := openBoolsC h2
  obtain ⟨a3, n3, c3, O, D, L, e3, i3, f3, m3, l3⟩ := openItemsC h3
  cases e0; cases e1; cases e2; cases e3
  exact ⟨⟨z0, z1, n2, Z, n3, O, D⟩, ⟨a2, c2, a3, c3, L⟩, rfl, ⟨i2, i3⟩, ⟨wf64 w0, wf64 w1, l2, l3, m3, f3⟩⟩

set_option maxRecDepth 100000 in
theorem openDump {r : Go.Reach} {b0 : Nat} {v : Value} {d : DataW H} {p : List MemPlace} (hv : Value.okWide Tryz.prog W r b0 58 v) (h : DataW.Trod enc Tryz.prog W 0 (fun _ => true) true 58 v d p) :
    ∃ (e : Dp) (l : DLoc), v = dpV e l ∧ DpIn W e l ∧ e.Fits := by
  obtain ⟨cs, rfl, hsz⟩ := okWide_struct Tryz.underlying58 hv
  obtain ⟨fuel, hf⟩ := h
  obtain ⟨e, l, hcs, hI, hF⟩ := openDumpC hf
  refine ⟨e, l, ?_, hI, hF⟩
  unfold dpV
  congr 1
  apply Array.toList_inj.1
  simpa [Value.cells] using hcs
end
end Go.Proofs.YtakifcobofkheabGreatDoor

/-
  What was kept, with its levels, as it lies in memory: plain facts.
-/
namespace Go.Proofs.YtakifcobofkheabGreatDoor
open Go.RowKit Go.Deep
set_option linter.unusedVariables false

theorem infoRec : (Tryz.prog.info? 77).map (fun i => (i.zero, i.size, i.bytes)) = some (some (.agg #[.int .i64 0, .int .i64 0, .int .i64 0, .slice none 0 0, .slice none 0 0]), 5, 72) := by kernel_rfl

/-- The value of a thing kept, with its level. -/
def recV (v : Int) (d : Dp) (l : DLoc) : Value := .agg #[.int .i64 v, .int .i64 d.since, .int .i64 d.date, .slice l.lA d.ln l.lc, .slice l.iA d.m l.ic]

/-- n of them lie in memory from the address on, five cells each. -/
def IsRecs (w : World) (a : Option Addr) (n : Nat) (V : Nat → Int) (D : Nat → Dp) (L : Nat → DLoc) : Prop :=
  n = 0 ∨ ∃ b off, a = some ⟨b, off, none⟩ ∧ b < w.heap.size ∧ ∀ i, i < n →
    w.cell? ⟨b, off + i * 5, none⟩ = some (.int .i64 (V i)) ∧ w.cell? ⟨b, off + i * 5 + 1, none⟩ = some (.int .i64 (D i).since) ∧ w.cell? ⟨b, off + i * 5 + 2, none⟩ = some (.int .i64 (D i).date) ∧
    w.cell? ⟨b, off + i * 5 + 3, none⟩ = some (.slice (L i).lA (D i).ln (L i).lc) ∧ w.cell? ⟨b, off + i * 5 + 4, none⟩ = some (.slice (L i).iA (D i).m (L i).ic) ∧ DpIn w (D i) (L i)

theorem IsRecs.at {w : World} {a : Option Addr} {n : Nat} {V : Nat → Int} {D : Nat → Dp} {L : Nat → DLoc} (h : IsRecs w a n V D L) {k : Nat} (hk : k < n) :
    ∃ b off, a = some ⟨b, off, none⟩ ∧ b < w.heap.size ∧ ∀ i, i < n →
    w.cell? ⟨b, off + i * 5, none⟩ = some (.int .i64 (V i)) ∧ w.cell? ⟨b, off + i * 5 + 1, none⟩ = some (.int .i64 (D i).since) ∧ w.cell? ⟨b, off + i * 5 + 2, none⟩ = some (.int .i64 (D i).date) ∧
    w.cell? ⟨b, off + i * 5 + 3, none⟩ = some (.slice (L i).lA (D i).ln (L i).lc) ∧ w.cell? ⟨b, off + i * 5 + 4, none⟩ = some (.slice (L i).iA (D i).m (L i).ic) ∧ DpIn w (D i) (L i) := by
  rcases h with h | h
  · omega
  · exact h

theorem IsRecs.below {w w' : World} {a : Option Addr} {n : Nat} {V : Nat → Int} {D : Nat → Dp} {L : Nat → DLoc} (h : IsRecs w a n V D L) {B : Nat} (hB : w.heap.size ≤ B) (hb : Below B w w') : IsRecs w' a n V D L := by
  rcases h with h | ⟨b, off, ha, hlt, hc⟩
  · exact Or.inl h
  · have hs := hb.size
    refine Or.inr ⟨b, off, ha, by omega, fun i hi => ?_⟩
    obtain ⟨h0, h1, h2, h3, h4, h5⟩ := hc i hi
    have e : ∀ o, w'.cell? ⟨b, o, none⟩ = w.cell? ⟨b, o, none⟩ := fun o => hb.cell (p := ⟨b, o, none⟩) (by show b < B; omega)
    exact ⟨(e _).trans h0, (e _).trans h1, (e _).trans h2, (e _).trans h3, (e _).trans h4, h5.below hB hb⟩

/-- What the first k count. -/
def recsTo (D : Nat → Dp) : Nat → Nat | 0 => 0 | k + 1 => recsTo D k + (D k).size
theorem recsTo_succ (D : Nat → Dp) (k : Nat) : recsTo D (k + 1) = recsTo D k + (D k).size := rfl
theorem recsTo_mono (D : Nat → Dp) {k n : Nat} (h : k ≤ n) : recsTo D k ≤ recsTo D n := by
  induction h with
  | refl => exact Nat.le_refl _
  | step _ ih => rw [Nat.succ_eq_add_one, recsTo_succ]; omega
theorem recs_size (D : Nat → Dp) {i n : Nat} (h : i < n) : (D i).size ≤ recsTo D n := by
  have := recsTo_mono D (show i + 1 ≤ n by omega)
  rw [recsTo_succ] at this
  omega

def FitRecs (n : Nat) (V : Nat → Int) (D : Nat → Dp) : Prop := ∀ i, i < n → In64 (V i) ∧ (D i).Fits

/-- Two are one. -/
def sameRec (v u : Int) (d e : Dp) : Bool := (v == u) && d.same e
def sameRecs (n : Nat) (V U : Nat → Int) (D E : Nat → Dp) : Bool := (List.range n).all fun i => sameRec (V i) (U i) (D i) (E i)

theorem sameRecs_succ (k : Nat) (V U : Nat → Int) (D E : Nat → Dp) (h : sameRecs k V U D E = true) (hk : sameRec (V k) (U k) (D k) (E k) = true) : sameRecs (k + 1) V U D E = true := by
  unfold sameRecs at *
  rw [List.range_succ, List.all_append, h]; simpa using hk

theorem sameRecs_not (n k : Nat) (V U : Nat → Int) (D E : Nat → Dp) (hk : k < n) (h : sameRec (V k) (U k) (D k) (E k) = false) : false = sameRecs n V U D E := by
  symm
  rw [Bool.eq_false_iff]
  intro ha
  have := List.all_eq_true.1 ha k (by simpa using hk)
  simp [this] at h

theorem sameRecs_self (n : Nat) (V : Nat → Int) (D : Nat → Dp) : sameRecs n V V D D = true := by
  unfold sameRecs
  rw [List.all_eq_true]
  intro i hi
  unfold sameRec
  rw [Dp.same_self]
  simp

/-! ### What is needed of all that was kept, from the end on -/

/-- The level that the last k of n leave as the least, at first 10. -/
def leastFrom (V : Nat → Int) (n : Nat) : Nat → Int
  | 0 => 10
  | k + 1 => if V (n - 1 - k) < leastFrom V n k ∧ 0 ≤ V (n - 1 - k) then V (n - 1 - k) else leastFrom V n k

/-- The places that the last k of n leave, ascending. -/
def chainFrom (V : Nat → Int) (n : Nat) : Nat → List Nat
  | 0 => []
  | k + 1 => if V (n - 1 - k) < leastFrom V n k ∧ 0 ≤ V (n - 1 - k) then (n - 1 - k) :: chainFrom V n k else chainFrom V n k

def chainOf (n : Nat) (V : Nat → Int) : List Nat := if n ≤ 20 then chainFrom V n n else []

theorem chain_len (V : Nat → Int) (n : Nat) : ∀ k, (chainFrom V n k).length ≤ k
  | 0 => by simp [chainFrom]
  | k + 1 => by
    have := chain_len V n k
    unfold chainFrom
    split
    · simp; omega
    · omega

theorem chain_lt (V : Nat → Int) (n : Nat) : ∀ k, k ≤ n → ∀ x ∈ chainFrom V n k, x < n
  | 0, _, x, h => by simp [chainFrom] at h
  | k + 1, hk, x, h => by
    unfold chainFrom at h
    split at h
    · rcases List.mem_cons.1 h with rfl | h
      · omega
      · exact chain_lt V n k (by omega) x h
    · exact chain_lt V n k (by omega) x h
end Go.Proofs.YtakifcobofkheabGreatDoor

/-
  Lists of what was kept, as they lie in memory: plain facts.
-/
namespace Go.Proofs.YtakifcobofkheabGreatDoor
open Go.RowKit Go.Deep
set_option linter.unusedVariables false

theorem infoDumpE : (Tryz.prog.info? 64).map (fun i => (i.zero, i.size, i.bytes)) = some (some (.agg #[.int .i64 0, .int .i64 0, .slice none 0 0, .slice none 0 0]), 4, 64) := by kernel_rfl

/-- n of them lie in memory from the address on, four cells each. -/
def IsDps (w : World) (a : Option Addr) (n : Nat) (D : Nat → Dp) (L : Nat → DLoc) : Prop :=
  n = 0 ∨ ∃ b off, a = some ⟨b, off, none⟩ ∧ b < w.heap.size ∧ ∀ i, i < n →
    w.cell? ⟨b, off + i * 4, none⟩ = some (.int .i64 (D i).since) ∧ w.cell? ⟨b, off + i * 4 + 1, none⟩ = some (.int .i64 (D i).date) ∧
    w.cell? ⟨b, off + i * 4 + 2, none⟩ = some (.slice (L i).lA (D i).ln (L i).lc) ∧ w.cell? ⟨b, off + i * 4 + 3, none⟩ = some (.slice (L i).iA (D i).m (L i).ic) ∧ DpIn w (D i) (L i)

theorem IsDps.at {w : World} {a : Option Addr} {n : Nat} {D : Nat → Dp} {L : Nat → DLoc} (h : IsDps w a n D L) {k : Nat} (hk : k < n) :
    ∃ b off, a = some ⟨b, off, none⟩ ∧ b < w.heap.size ∧ ∀ i, i < n →
    w.cell? ⟨b, off + i * 4, none⟩ = some (.int .i64 (D i).since) ∧ w.cell? ⟨b, off + i * 4 + 1, none⟩ = some (.int .i64 (D i).date) ∧
    w.cell? ⟨b, off + i * 4 + 2, none⟩ = some (.slice (L i).lA (D i).ln (L i).lc) ∧ w.cell? ⟨b, off + i * 4 + 3, none⟩ = some (.slice (L i).iA (D i).m (L i).ic) ∧ DpIn w (D i) (L i) := by
  rcases h with h | h
  · omega
  · exact h

theorem IsDps.below {w w' : World} {a : Option Addr} {n : Nat} {D : Nat → Dp} {L : Nat → DLoc} (h : IsDps w a n D L) {B : Nat} (hB : w.heap.size ≤ B) (hb : Below B w w') : IsDps w' a n D L := by
  rcases h with h | ⟨b, off, ha, hlt, hc⟩
  · exact Or.inl h
  · have hs := hb.size
    refine Or.inr ⟨b, off, ha, by omega, fun i hi => ?_⟩
    obtain ⟨h0, h1, h2, h3, h4⟩ := hc i hi
    have e : ∀ o, w'.cell? ⟨b, o, none⟩ = w.cell? ⟨b, o, none⟩ := fun o => hb.cell (p := ⟨b, o, none⟩) (by show b < B; omega)
    exact ⟨(e _).trans h0, (e _).trans h1, (e _).trans h2, (e _).trans h3, h4.below hB hb⟩

def FitDps (n : Nat) (D : Nat → Dp) : Prop := ∀ i, i < n → (D i).Fits

/-- Two lists are one. -/
def sameDps (n : Nat) (D E : Nat → Dp) : Bool := (List.range n).all fun i => (D i).same (E i)

theorem sameDps_succ (k : Nat) (D E : Nat → Dp) (h : sameDps k D E = true) (hk : (D k).same (E k) = true) : sameDps (k + 1) D E = true := by
  unfold sameDps at *
  rw [List.range_succ, List.all_append, h]; simpa using hk

theorem sameDps_not (n k : Nat) (D E : Nat → Dp) (hk : k < n) (h : (D k).same (E k) = false) : false = sameDps n D E := by
  symm
  rw [Bool.eq_false_iff]
  intro ha
  have := List.all_eq_true.1 ha k (by simpa using hk)
  simp [this] at h

theorem sameDps_self (n : Nat) (D : Nat → Dp) : sameDps n D D = true := by
  unfold sameDps
  rw [List.all_eq_true]
  intro i hi
  exact Dp.same_self _
end Go.Proofs.YtakifcobofkheabGreatDoor

/-
  A thing kept, for nothing.
-/
namespace Go.Proofs.YtakifcobofkheabGreatDoor
instance : Inhabited Dp := ⟨⟨0, 0, 0, fun _ => false, 0, fun _ => 0, fun _ => default⟩⟩
instance : Inhabited DLoc := ⟨⟨none, 0, none, 0, fun _ => default⟩⟩
end Go.Proofs.YtakifcobofkheabGreatDoor

/-
  How a list of what was kept, handed in, is opened.
-/
namespace Go.Proofs.YtakifcobofkheabGreatDoor
open Go.ChangeShapes Go.WideShapes Go.ChangeAt Go.RowKit Go.Deep
set_option linter.unusedVariables false

/-- A list, and where it lies. -/
structure Ds where
  n : Nat
  D : Nat → Dp
structure DsLoc where
  a : Option Addr
  c : Nat
  L : Nat → DLoc
def dsV (e : Ds) (l : DsLoc) : Value := .slice l.a e.n l.c
def DsIn (w : World) (e : Ds) (l : DsLoc) : Prop := IsDps w l.a e.n e.D l.L
structure Ds.Fits (e : Ds) : Prop where
  n : e.n ≤ maxLen
  d : FitDps e.n e.D

section
variable {H : Type} {enc : TypeId × Value → H} {W : World}

theorem openDumpsC {v : Value} {fuel : Nat} {x : DataW H × List MemPlace} (h : DataW.trod enc Tryz.prog W 0 (fun _ => true) true fuel 22 [v] = some x) :
    ∃ (e : Ds) (l : DsLoc), v = dsV e l ∧ DsIn W e l ∧ e.Fits := by
  rcases open_slice Tryz.underlying22 h with ⟨h0, _⟩ | ⟨a, n, c, m, fl, DD, Pl, h0, _, hl, hm, hmm, _, hx⟩
  · cases h0
    exact ⟨⟨0, fun _ => default⟩, ⟨none, 0, fun _ => default⟩, rfl, Or.inl rfl, by show 0 ≤ maxLen; omega, fun i hi => absurd hi (Nat.not_lt_zero _)⟩
  · cases h0
    simp at hmm
    have each : ∀ i, i < n → ∃ p : Dp × DLoc, W.cells? 0 (a.add (i * 4)) 4 = some [.int .i64 p.1.since, .int .i64 p.1.date, .slice p.2.lA p.1.ln p.2.lc, .slice p.2.iA p.1.m p.2.ic] ∧ DpIn W p.1 p.2 ∧ p.1.Fits := by
      intro i hi
      obtain ⟨cs', h1, h2⟩ := hx i (by omega)
      rw [cellsDump] at h1
      obtain ⟨d, l, rfl, h3, h4⟩ := openDumpC h2
      exact ⟨(d, l), h1, h3, h4⟩
    obtain ⟨f, hf⟩ := choose_lt each
    refine ⟨⟨n, fun i => (f i).1⟩, ⟨some a, c, fun i => (f i).2⟩, rfl, ?_, by show n ≤ maxLen; omega, fun i hi => (hf i hi).2.2⟩
    by_cases hn : n = 0
    · exact Or.inl hn
    · obtain ⟨b, off, spot⟩ := a
      have h00 := (World.cells?_some (hf 0 (by omega)).1).2.2 0 (by omega)
      have hspot : spot = none := by
        have : W.cell? ⟨b, off, spot⟩ = some (.int .i64 (f 0).1.since) := by simpa [Addr.add] using h00
        simpa using World.cell?_spot this
      subst hspot
      have h00' : W.cell? ⟨b, off, none⟩ = some (.int .i64 (f 0).1.since) := by simpa [Addr.add] using h00
      refine Or.inr ⟨b, off, rfl, lt_of_cell h00', fun i hi => ?_⟩
      obtain ⟨h1, h2, _⟩ := hf i hi
      have g := (World.cells?_some h1).2.2
      have e : ∀ j, j < 4 → W.cell? ⟨b, off + i * 4 + j, none⟩ = [Value.int .i64 (f i).1.since, .int .i64 (f i).1.date, .slice (f i).2.lA (f i).1.ln (f i).2.lc, .slice (f i).2.iA (f i).1.m (f i).2.ic][j]? := by
        intro j hj
        have := g j hj
        rw [add_add, add_plain] at this
        rw [← this, Nat.add_assoc]
      exact ⟨by simpa using e 0 (by omega), by simpa using e 1 (by omega), by simpa using e 2 (by omega), by simpa using e 3 (by omega), h2⟩

set_option maxRecDepth 100000 in
theorem openDumps {r : Go.Reach} {b0 : Nat} {v : Value} {d : DataW H} {p : List MemPlace} (hv : Value.okWide Tryz.prog W r b0 22 v) (h : DataW.Trod enc Tryz.prog W 0 (fun _ => true) true 22 v d p) :
    ∃ (e : Ds) (l : DsLoc), v = dsV e l ∧ DsIn W e l ∧ e.Fits := by
  obtain ⟨a', n', c', rfl⟩ := okWide_slice Tryz.underlying22 hv
  obtain ⟨fuel, hf⟩ := h
  exact openDumpsC hf
end
end Go.Proofs.YtakifcobofkheabGreatDoor

/-
  How a list of texts, handed in, is opened: as a pair.
-/
namespace Go.Proofs.YtakifcobofkheabGreatDoor
open Go.ChangeShapes Go.WideShapes Go.ChangeAt Go.RowKit Go.Deep
set_option linter.unusedVariables false

/-- A list of texts, and where it lies. -/
structure Ss where
  n : Nat
  S : Nat → ByteArray
structure SsLoc where
  a : Option Addr
  c : Nat
def ssV (e : Ss) (l : SsLoc) : Value := .slice l.a e.n l.c
def SsIn (w : World) (e : Ss) (l : SsLoc) : Prop := IsStrs w l.a e.n e.S
structure Ss.Fits (e : Ss) : Prop where
  n : e.n ≤ maxLen
  s : Small e.n e.S

section
variable {H : Type} {enc : TypeId × Value → H} {W : World}
set_option maxRecDepth 100000 in
theorem openStrsP {r : Go.Reach} {b0 : Nat} {v : Value} {d : DataW H} {p : List MemPlace} (hv : Value.okWide Tryz.prog W r b0 23 v) (h : DataW.Trod enc Tryz.prog W 0 (fun _ => true) true 23 v d p) :
    ∃ (e : Ss) (l : SsLoc), v = ssV e l ∧ SsIn W e l ∧ e.Fits := by
  obtain ⟨a', n', c', rfl⟩ := okWide_slice Tryz.underlying23 hv
  obtain ⟨fuel, hf⟩ := h
  obtain ⟨a, n, c, S, hv, h2, h3, h4⟩ := openStrsC hf
  exact ⟨⟨n, S⟩, ⟨a, c⟩, hv, h2, h4, h3⟩
end
end Go.Proofs.YtakifcobofkheabGreatDoor

/-
  A free place, and what the places of a tree count. Plain facts.
-/
namespace Go.Proofs.YtakifcobofkheabGreatDoor
open Go.RowKit
set_option linter.unusedVariables false
set_option linter.unusedSimpArgs false

/-- A free place. -/
def ndZero : Nd := ⟨0, ByteArray.empty, 0, fun _ => ByteArray.empty, 0, fun _ => 0, 0⟩

theorem ndZero_fits : ndZero.Fits := ⟨by simp [ndZero, In64], by simp [ndZero, In64], by unfold ndZero maxLen; simp, fun i hi => absurd hi (Nat.not_lt_zero _), by unfold ndZero maxLen; simp, by unfold ndZero maxLen; simp, fun i hi => absurd hi (Nat.not_lt_zero _)⟩

theorem ndZero_size : ndZero.size = 0 := rfl

theorem FitAll.less {n m : Nat} {D : Nat → Nd} (h : FitAll n D) (hm : m ≤ n) : FitAll m D := fun i hi => h i (by omega)

theorem tr_small {n : Nat} {D : Nat → Nd} {q : Nat} (h : sizeTo D n ≤ q) : ∀ i, i < n → (D i).nn ≤ q ∧ (D i).kn ≤ q ∧ (D i).text.size ≤ q ∧ ∀ j, j < (D i).nn → ((D i).names j).size ≤ q := fun i hi => by
  have h1 := size_le_sizeTo D n i hi
  unfold Nd.size at h1
  exact ⟨by omega, by omega, by omega, fun j hj => by have := size_le_sumTo (D i).names (D i).nn j hj; omega⟩
end Go.Proofs.YtakifcobofkheabGreatDoor

/-
  What the parts of TreeOk of the specification answer: texts, names, places, one place by itself.
-/
namespace Go.Proofs.YtakifcobofkheabGreatDoor
open Go.RowKit
set_option linter.unusedVariables false

/-- A text that can be in a file. -/
def textOk (s : ByteArray) : Bool := s.data.toList.all letter && decide (s.size ≤ 6)

set_option maxHeartbeats 400000 in
theorem l2Text_any (s : ByteArray) (w : World) (hs : s.size ≤ maxLen) :
    Calls Tryz.prog 88 #[.string s] w fun e w' => e = .returned (.bool (textOk s)) ∧ w' = w := by
  unfold maxLen at hs
  go_enter Tryz.func88, Tryz.ntmps88
  go_wp2
  go_loop [3] (fun i => ∃ k : Nat, k ≤ s.size ∧ i = .int .i64 k ∧ (s.data.toList.take k).all letter = true) (fun i => s.size - (intOf i).toNat)
  case atStart => exact ⟨0, Nat.zero_le _, rfl, rfl⟩
  case round =>
    obtain ⟨k, hk, rfl, ha⟩ := hrel
    have HA : Hid ((s.data.toList.take k).all letter = true) := ha
    clear ha
    by_cases hlt : k < s.size
    · go_wp2
      · go_ret
        exact ⟨ret_bool (by unfold textOk; rw [not_all s k hlt (letter_no ‹_›)]; rfl), rfl⟩
      · go_round
        case rel => exact ⟨k + 1, by omega, by go_num, all_snoc s k hlt HA (letter_yes (by omega) (by omega))⟩
        case measure => simp [intOf]; omega
      · go_ret
        exact ⟨ret_bool (by unfold textOk; rw [not_all s k hlt (letter_no (Or.inl ‹_›))]; rfl), rfl⟩
    · go_wp2
      go_ret
      refine ⟨ret_bool ?_, rfl⟩
      have e : s.data.toList.length = s.size := by simp
      have h := HA.out
      rw [List.take_of_length_le (by omega)] at h
      unfold textOk
      rw [h]
      simp
      omega

/-- The order of texts, by their bytes. -/
def lessEq (s t : ByteArray) : Bool := Op.bytesLess s.toList t.toList || s.toList == t.toList

/-- The names are names, in order, each once: the first k of them. -/
def dirNames (S : Nat → ByteArray) (k : Nat) : Bool := (List.range k).all fun i => nameOk (S i).data.toList && (i == 0 || !lessEq (S i) (S (i - 1)))

theorem dirNames_bad (S : Nat → ByteArray) (k n : Nat) (hk : k < n) (h : (nameOk (S k).data.toList && (k == 0 || !lessEq (S k) (S (k - 1)))) = false) : false = dirNames S n := by
  symm
  rw [Bool.eq_false_iff]
  intro ha
  have := List.all_eq_true.1 ha k (by simpa using hk)
  rw [h] at this
  cases this

theorem dirNames_succ (S : Nat → ByteArray) (k : Nat) (h : dirNames S k = true) (hk : (nameOk (S k).data.toList && (k == 0 || !lessEq (S k) (S (k - 1)))) = true) : dirNames S (k + 1) = true := by
  unfold dirNames at *
  rw [List.range_succ, List.all_append, h]; simpa using hk

theorem dirNames_one (S : Nat → ByteArray) (h : nameOk (S 0).data.toList = true) : dirNames S 1 = true := dirNames_succ S 0 rfl (by rw [h]; rfl)

set_option maxHeartbeats 400000 in
theorem l2Names_any (a : Option Addr) (n c : Nat) (S : Nat → ByteArray) (w : World) (hS : IsStrs w a n S) (hm : Small n S) (hn : n ≤ maxLen) :
    Calls Tryz.prog 89 #[.slice a n c] w fun e w' => (∃ q, w' = w.drewN q) ∧ e = .returned (.bool (dirNames S n)) := by
  unfold maxLen at hn
  go_enter Tryz.func89, Tryz.ntmps89
  go_wp2
  go_loopw [3] (fun i wr => ∃ k q : Nat, k ≤ n ∧ i = .int .i64 k ∧ wr = w.drewN q ∧ dirNames S k = true) (fun i _ => n - (intOf i).toNat)
  case atStart => exact ⟨0, 0, Nat.zero_le _, rfl, rfl, rfl⟩
  case round =>
    obtain ⟨k, q, hk, rfl, hwr, heq⟩ := hrel
    have HE : Hid (dirNames S k = true ∧ wr = w.drewN q) := ⟨heq, hwr⟩
    have hSr : IsStrs wr a n S := by rw [hwr]; exact hS.below (Nat.le_refl _) (below_drewN (Below.refl _ _) _)
    clear heq hwr
    by_cases hlt : k < n
    · obtain ⟨b, off, rfl, hlt2, hc⟩ := hSr.at hlt
      have h1 := hc k hlt
      have hlti : (k : Int) < (n : Int) := by omega
      have hmk := hm k hlt
      have hcall : Hid (∀ q, Calls Tryz.prog 72 #[.string (S k)] (wr.drewN q) fun e w' => e = .returned (.bool (nameOk (S k).data.toList)) ∧ w' = wr.drewN q) := fun q => specNameOk_any (S k) _ hmk
      cases hnm : nameOk (S k).data.toList with
      | false =>
        rw [hnm] at hcall
        have HN : Hid (nameOk (S k).data.toList = false) := hnm
        clear hc hnm
        go_wp2_with fail
        go_quiet (exact Calls.quiet_of_same (hcall.out _))
        go_wp2
        go_ret
        exact ⟨⟨q + nq, by rw [HE.out.2, World.drewN_drewN]⟩, ret_bool (dirNames_bad S k n hlt (by rw [HN.out]; rfl))⟩
      | true =>
        rw [hnm] at hcall
        have HN : Hid (nameOk (S k).data.toList = true) := hnm
        clear hnm
        by_cases hk0 : k = 0
        · subst hk0
          clear hc
          rw [Nat.add_zero] at h1
          go_wp2_with fail
          go_quiet (exact Calls.quiet_of_same (hcall.out _))
          go_wp2
          go_roundw
          case rel => exact ⟨1, q + nq, by omega, by go_num, by rw [HE.out.2, World.drewN_drewN], dirNames_one S HN.out⟩
          case measure => simp [intOf]; omega
        · have h2 : wr.cell? ⟨b, off + (k - 1), none⟩ = some (.string (S (k - 1))) := hc (k - 1) (by omega)
          have hk0' : decide (0 < k) = true := by simp; omega
          have hk1 : ((k - 1 : Nat) : Int) < (n : Int) := by omega
          have hwr : IntKind.i64.wrap ((k : Int) - 1) = ((k - 1 : Nat) : Int) := by rw [IntKind.wrap_i64]; omega
          clear hc
          go_wp2_with fail
          cases hle : lessEq (S k) (S (k - 1)) with
          | true =>
            have hle' : (Op.bytesLess (S k).toList (S (k - 1)).toList || (S k).toList == (S (k - 1)).toList) = true := hle
            have HL : Hid (lessEq (S k) (S (k - 1)) = true) := hle
            clear hle
            go_quiet (exact Calls.quiet_of_same (hcall.out _))
            go_wp2
            go_ret
            exact ⟨⟨q + nq, by rw [HE.out.2, World.drewN_drewN]⟩, ret_bool (dirNames_bad S k n hlt (by rw [HN.out, HL.out]; simp; omega))⟩
          | false =>
            have hle' : (Op.bytesLess (S k).toList (S (k - 1)).toList || (S k).toList == (S (k - 1)).toList) = false := hle
            have HL : Hid (lessEq (S k) (S (k - 1)) = false) := hle
            clear hle
            go_quiet (exact Calls.quiet_of_same (hcall.out _))
            go_wp2
            go_roundw
            case rel => exact ⟨k + 1, q + nq, by omega, by go_num, by rw [HE.out.2, World.drewN_drewN], dirNames_succ S k HE.out.1 (by rw [HN.out, HL.out]; simp)⟩
            case measure => simp [intOf]; omega
    · have hkn : k = n := by omega
      have HK : Hid (k = n) := hkn
      clear hkn
      go_wp2
      go_ret
      exact ⟨⟨q, HE.out.2⟩, ret_bool (by rw [← HK.out, HE.out.1])⟩
end Go.Proofs.YtakifcobofkheabGreatDoor

/-
  What l2Kids and l2Node of the specification answer.
-/
namespace Go.Proofs.YtakifcobofkheabGreatDoor
open Go.RowKit
set_option linter.unusedVariables false

/-- A place in a directory leads to one that is there and is not free. -/
def kidOk (n : Nat) (D : Nat → Nd) (z : Int) : Bool := decide (1 ≤ z) && decide (z < n) && (D z.toNat).kind != 0
/-- The first k places in a directory. -/
def kidsOk (n : Nat) (D : Nat → Nd) (Z : Nat → Int) (k : Nat) : Bool := (List.range k).all fun i => kidOk n D (Z i)

theorem kidsOk_succ {n : Nat} {D : Nat → Nd} {Z : Nat → Int} {k : Nat} (h : kidsOk n D Z k = true) (hk : kidOk n D (Z k) = true) : kidsOk n D Z (k + 1) = true := by
  unfold kidsOk at *
  rw [List.range_succ, List.all_append, h]; simpa using hk

theorem kidsOk_bad {n : Nat} {D : Nat → Nd} {Z : Nat → Int} {k m : Nat} (hk : k < m) (h : kidOk n D (Z k) = false) : kidsOk n D Z m = false := by
  rw [Bool.eq_false_iff]
  intro ha
  have := List.all_eq_true.1 ha k (by simpa using hk)
  simp [h] at this

/-- What is known within l2Kids. -/
structure KidsIn (w : World) (a : Option Addr) (n c : Nat) (now : Int) (d : Nd) (l : Loc) (W : World) : Prop where
  t : Blk W w.heap.size #[.slice a n c, .int .i64 now] 44
  d : Blk W (w.heap.size + 1) #[.int .i64 d.kind, .string d.text, .slice l.nA d.nn l.nc, .slice l.kA d.kn l.kc, .int .i64 d.turn] 28
  bel : Below w.heap.size w W

theorem KidsIn.drew {w : World} {a : Option Addr} {n c : Nat} {now : Int} {d : Nd} {l : Loc} {W : World} (h : KidsIn w a n c now d l W) (q : Nat) : KidsIn w a n c now d l (W.drewN q) := ⟨h.t, h.d, below_drewN h.bel q⟩

set_option maxHeartbeats 1000000 in
theorem l2Kids_any (a : Option Addr) (n c : Nat) (now : Int) (D : Nat → Nd) (L : Nat → Loc) (d : Nd) (l : Loc) (w : World) (hS : IsNds w a n D L) (hI : NdIn w d l) (hf : d.Fits) (hn : n ≤ maxLen) :
    Calls Tryz.prog 90 #[trV a n c now, ndV d l] w fun e w' => Below w.heap.size w w' ∧ e = .returned (.bool (kidsOk n D d.kids d.kn && decide (d.kn = d.nn))) := by
  have hkn := hf.kn
  have hnn := hf.nn
  unfold maxLen at hkn hnn hn
  unfold trV ndV
  go_enter Tryz.func90, Tryz.ntmps90
  go_wp2
  go_loopw [5] (fun i wr => ∃ k : Nat, k ≤ d.kn ∧ i = .int .i64 k ∧ KidsIn w a n c now d l wr ∧ kidsOk n D d.kids k = true) (fun i _ => d.kn - (intOf i).toNat)
  case atStart =>
    have h := new2 w #[.slice a n c, .int .i64 now] 44 #[.int .i64 d.kind, .string d.text, .slice l.nA d.nn l.nc, .slice l.kA d.kn l.kc, .int .i64 d.turn] 28
    exact ⟨0, Nat.zero_le _, rfl, ⟨h.b0, h.b1, h.bel⟩, rfl⟩
  case round =>
    obtain ⟨k, hk, rfl, hin, heq⟩ := hrel
    obtain ⟨ht, hd, hbel⟩ := hin
    have t0 : wr.cell? ⟨w.heap.size, 0, none⟩ = some (.slice a n c) := ht.cell 0
    have d2 : wr.cell? ⟨w.heap.size + 1, 2, none⟩ = some (.slice l.nA d.nn l.nc) := hd.cell 2
    have d3 : wr.cell? ⟨w.heap.size + 1, 3, none⟩ = some (.slice l.kA d.kn l.kc) := hd.cell 3
    have hSr := hS.below (Nat.le_refl _) hbel
    have hIr := hI.2.below (Nat.le_refl _) hbel
    have HE : Hid (kidsOk n D d.kids k = true ∧ KidsIn w a n c now d l wr) := ⟨heq, ht, hd, hbel⟩
    clear heq ht hd hbel
    by_cases hlt : k < d.kn
    · obtain ⟨b, off, hka, hlt2, hc⟩ := hIr.at hlt
      rw [hka] at d3
      have h1 := hc k hlt
      have hlti : (k : Int) < (d.kn : Int) := by omega
      clear hc
      have hz := hf.kids k hlt
      unfold In64 at hz
      have bad : kidOk n D (d.kids k) = false → Hid (kidsOk n D d.kids d.kn = false) := fun h => kidsOk_bad hlt h
      by_cases hz1 : d.kids k < 1
      · have H : Hid (kidsOk n D d.kids d.kn = false) := bad (by unfold kidOk; rw [decide_eq_false (show ¬ 1 ≤ d.kids k by omega)]; rfl)
        clear bad
        go_wp2_with fail
        go_ret
        exact ⟨HE.out.2.bel, ret_bool (by rw [H.out]; rfl)⟩
      · by_cases hz2 : (n : Int) ≤ d.kids k
        · have H : Hid (kidsOk n D d.kids d.kn = false) := bad (by unfold kidOk; rw [decide_eq_false (show ¬ d.kids k < n by omega)]; simp)
          clear bad
          go_wp2_with fail
          go_ret
          exact ⟨HE.out.2.bel, ret_bool (by rw [H.out]; rfl)⟩
        · obtain ⟨j, hj⟩ : ∃ j : Nat, d.kids k = j := ⟨(d.kids k).toNat, by omega⟩
          have hjn : j < n := by omega
          obtain ⟨b', off', ha, hlt2', hc'⟩ := hSr.at hjn
          have g0 := (hc' j hjn).1
          have hko : kidOk n D (d.kids k) = ((D j).kind != 0) := by
            unfold kidOk; rw [decide_eq_true (show 1 ≤ d.kids k by omega), decide_eq_true (show d.kids k < n by omega), hj]; simp
          clear hc' hSr
          rw [ha] at t0
          rw [hj] at h1 hz1 hz2 hz
          cases hkd : ((D j).kind == 0) with
          | true =>
            have H : Hid (kidsOk n D d.kids d.kn = false) := bad (by rw [hko]; simp only [bne, hkd]; rfl)
            clear bad hko
            go_wp2_with fail
            go_ret
            exact ⟨HE.out.2.bel, ret_bool (by rw [H.out]; rfl)⟩
          | false =>
            have H : Hid (kidOk n D (d.kids k) = true) := hko.trans (by simp only [bne, hkd]; rfl)
            clear bad hko
            go_wp2_with fail
            go_roundw
            case rel => exact ⟨k + 1, by omega, by go_num, HE.out.2, kidsOk_succ HE.out.1 H.out⟩
            case measure => simp [intOf]; omega
    · have hke : k = d.kn := by omega
      have HK : Hid (kidsOk n D d.kids d.kn = true) := by have := HE.out.1; rw [hke] at this; exact this
      clear hke hSr hIr
      go_wp2
      go_ret
      refine ⟨HE.out.2.bel, ret_bool ?_⟩
      rw [HK.out, Bool.true_and]
      by_cases h : d.kn = d.nn
      · simp [h]
      · rw [decide_eq_false h]
        simp
        omega
end Go.Proofs.YtakifcobofkheabGreatDoor

/-
  What l2Node of the specification answers.
-/
namespace Go.Proofs.YtakifcobofkheabGreatDoor
open Go.RowKit
set_option linter.unusedVariables false

/-- A free place. -/
def freeOk (d : Nd) : Bool := (d.text.toList == []) && decide (d.nn = 0) && decide (d.kn = 0) && (d.turn == 0)
/-- A file. -/
def fileOk (now : Int) (d : Nd) : Bool := textOk d.text && decide (d.nn = 0) && decide (d.kn = 0) && decide (1 ≤ d.turn) && decide (d.turn ≤ now)
/-- A directory. -/
def dirOk (n : Nat) (D : Nat → Nd) (now : Int) (d : Nd) : Bool := (d.text.toList == []) && dirNames d.names d.nn && (kidsOk n D d.kids d.kn && decide (d.kn = d.nn)) && decide (1 ≤ d.turn) && decide (d.turn ≤ now)
/-- A place that is right by itself. -/
def ndOk (n : Nat) (D : Nat → Nd) (now : Int) (d : Nd) : Bool := if d.kind = 0 then freeOk d else if d.kind = 1 then fileOk now d else if d.kind = 2 then dirOk n D now d else false

set_option maxHeartbeats 1000000 in
theorem l2Node_any (a : Option Addr) (n c : Nat) (now : Int) (D : Nat → Nd) (L : Nat → Loc) (d : Nd) (l : Loc) (w : World) (hS : IsNds w a n D L) (hI : NdIn w d l) (hf : d.Fits) (hn : n ≤ maxLen) :
    Calls Tryz.prog 69 #[trV a n c now, ndV d l] w fun e w' => Below w.heap.size w w' ∧ e = .returned (.bool (ndOk n D now d)) := by
  have hkn := hf.kn
  have hnn := hf.nn
  unfold maxLen at hkn hnn
  unfold trV ndV
  by_cases h0 : d.kind = 0
  · have H : Hid (ndOk n D now d = freeOk d) := if_pos h0
    have b0 : (d.kind == 0) = true := by simp [h0]
    clear h0
    go_enter Tryz.func69, Tryz.ntmps69
    go_wp2_with fail
    all_goals
      go_ret
      exact ⟨((Below.refl _ _).alloc (Nat.le_refl _) _).alloc (by simp) _, ret_bool (by rw [H.out]; unfold freeOk; simp [*])⟩
  · have n0 : (d.kind == 0) = false := by simp [h0]
    by_cases h1 : d.kind = 1
    · have H : Hid (ndOk n D now d = fileOk now d) := (if_neg h0).trans (if_pos h1)
      have b1 : (d.kind == 1) = true := by simp [h1]
      clear h0 h1
      go_enter Tryz.func69, Tryz.ntmps69
      go_wp2_with fail
      refine (l2Text_any d.text _ hf.text).mono ?_
      rintro e w1 ⟨rfl, rfl⟩
      cases htx : textOk d.text with
      | false =>
        have HT : Hid (textOk d.text = false) := htx
        clear htx
        go_wp2_with fail
        go_ret
        exact ⟨((Below.refl _ _).alloc (Nat.le_refl _) _).alloc (by simp) _, ret_bool (by rw [H.out]; unfold fileOk; rw [HT.out]; rfl)⟩
      | true =>
        have HT : Hid (textOk d.text = true) := htx
        clear htx
        go_wp2_with fail
        all_goals
          go_ret
          exact ⟨((Below.refl _ _).alloc (Nat.le_refl _) _).alloc (by simp) _, ret_bool (by rw [H.out]; unfold fileOk; rw [HT.out]; (first | (simp [*]; done) | (simp [*]; omega)))⟩
    · have n1 : (d.kind == 1) = false := by simp [h1]
      by_cases h2 : d.kind = 2
      · have H : Hid (ndOk n D now d = dirOk n D now d) := ((if_neg h0).trans (if_neg h1)).trans (if_pos h2)
        have b2 : (d.kind == 2) = true := by simp [h2]
        clear h0 h1 h2
        go_enter Tryz.func69, Tryz.ntmps69
        go_wp2_with fail
        rotate_left
        · go_ret
          exact ⟨((Below.refl _ _).alloc (Nat.le_refl _) _).alloc (by simp) _, ret_bool (by rw [H.out]; unfold dirOk; simp [*])⟩
        have htx : Hid (d.text.toList = []) := ‹d.text.toList = []›
        refine at_world (F := New2 w _ _ _ _) (new2 w _ _ _ _) ?_
        rintro W ⟨ht, hd, hb, hs⟩
        refine (l2Names_any l.nA d.nn l.nc d.names W (hI.1.below (Nat.le_refl _) hb) hf.names hf.nn).mono ?_
        rintro e w1 ⟨⟨q, rfl⟩, rfl⟩
        have t0 : W.cell? ⟨w.heap.size, 0, none⟩ = some (.slice a n c) := ht.cell 0
        have t1 : W.cell? ⟨w.heap.size, 1, none⟩ = some (.int .i64 now) := ht.cell 1
        have d0 : W.cell? ⟨w.heap.size + 1, 0, none⟩ = some (.int .i64 d.kind) := hd.cell 0
        have d1 : W.cell? ⟨w.heap.size + 1, 1, none⟩ = some (.string d.text) := hd.cell 1
        have d2 : W.cell? ⟨w.heap.size + 1, 2, none⟩ = some (.slice l.nA d.nn l.nc) := hd.cell 2
        have d3 : W.cell? ⟨w.heap.size + 1, 3, none⟩ = some (.slice l.kA d.kn l.kc) := hd.cell 3
        have d4 : W.cell? ⟨w.heap.size + 1, 4, none⟩ = some (.int .i64 d.turn) := hd.cell 4
        cases hnm : dirNames d.names d.nn with
        | false =>
          have HN : Hid (dirNames d.names d.nn = false) := hnm
          have HB : Hid (Below w.heap.size w W) := hb
          clear hnm ht hd hb hs
          go_wp2_with fail
          go_ret
          exact ⟨below_drewN HB.out _, ret_bool (by rw [H.out]; unfold dirOk; rw [HN.out]; simp)⟩
        | true =>
          have HN : Hid (dirNames d.names d.nn = true) := hnm
          have HB : Hid (Below w.heap.size w W ∧ Blk W w.heap.size _ _ ∧ Blk W (w.heap.size + 1) _ _) := ⟨hb, ht, hd⟩
          clear hnm ht hd hb
          go_wp2_with fail
          have hbq := below_drewN HB.out.1 q
          refine (l2Kids_any a n c now D L d l (W.drewN q) (hS.below (Nat.le_refl _) hbq) (hI.below (Nat.le_refl _) hbq) hf hn).mono ?_
          rintro e w1 ⟨hb1, rfl⟩
          have hb1' : Below W.heap.size W w1 := (below_drewN (Below.refl _ _) q).trans hb1
          have hB := HB.out.1.trans (hb1'.mono HB.out.1.size)
          have T1 : w1.cell? ⟨w.heap.size, 1, none⟩ = some (.int .i64 now) := (HB.out.2.1.below hb1' (by omega)).cell 1
          have D4 : w1.cell? ⟨w.heap.size + 1, 4, none⟩ = some (.int .i64 d.turn) := (HB.out.2.2.below hb1' (by omega)).cell 4
          have HBB : Hid (Below w.heap.size w w1) := hB
          clear t0 t1 d0 d1 d2 d3 d4 hB hb1 hb1' HB hbq
          cases hkk : (kidsOk n D d.kids d.kn && decide (d.kn = d.nn)) with
          | false =>
            have HK : Hid ((kidsOk n D d.kids d.kn && decide (d.kn = d.nn)) = false) := hkk
            clear hkk
            go_wp2_with fail
            go_ret
            exact ⟨HBB.out, ret_bool (by rw [H.out]; unfold dirOk; rw [HK.out]; simp)⟩
          | true =>
            have HK : Hid ((kidsOk n D d.kids d.kn && decide (d.kn = d.nn)) = true) := hkk
            clear hkk
            go_wp2_with fail
            all_goals
              go_ret
              exact ⟨HBB.out, ret_bool (by rw [H.out]; unfold dirOk; rw [HK.out, HN.out, htx.out]; (first | (simp [*]; done) | (simp [*]; omega)))⟩
      · have n2 : (d.kind == 2) = false := by simp [h2]
        have H : Hid (ndOk n D now d = false) := ((if_neg h0).trans (if_neg h1)).trans (if_neg h2)
        clear h0 h1 h2
        go_enter Tryz.func69, Tryz.ntmps69
        go_wp2_with fail
        go_ret
        exact ⟨((Below.refl _ _).alloc (Nat.le_refl _) _).alloc (by simp) _, ret_bool H.out.symm⟩
end Go.Proofs.YtakifcobofkheabGreatDoor

/-
  What l2Refs of the specification answers: how many names a place has.
-/
namespace Go.Proofs.YtakifcobofkheabGreatDoor
open Go.RowKit
set_option linter.unusedVariables false

/-- How many of the first k are z. -/
def cnt (Z : Nat → Int) (z : Int) : Nat → Nat | 0 => 0 | k + 1 => cnt Z z k + (if Z k = z then 1 else 0)
/-- How many names a place has in the first i directories. -/
def refsTo (D : Nat → Nd) (z : Int) : Nat → Nat | 0 => 0 | i + 1 => refsTo D z i + cnt (D i).kids z (D i).kn

theorem cnt_le (Z : Nat → Int) (z : Int) (k : Nat) : cnt Z z k ≤ k := by
  induction k with
  | zero => exact Nat.le_refl _
  | succ k ih => unfold cnt; split <;> omega

theorem refsTo_le (D : Nat → Nd) (z : Int) (i : Nat) : refsTo D z i ≤ sizeTo D i := by
  induction i with
  | zero => exact Nat.le_refl _
  | succ i ih =>
    unfold refsTo
    rw [sizeTo_succ]
    have := cnt_le (D i).kids z (D i).kn
    unfold Nd.size
    omega

theorem sizeTo_mono (D : Nat → Nd) {i j : Nat} (h : i ≤ j) : sizeTo D i ≤ sizeTo D j := by
  induction j with
  | zero => have : i = 0 := by omega
            subst this; exact Nat.le_refl _
  | succ j ih =>
    by_cases e : i = j + 1
    · subst e; exact Nat.le_refl _
    · have := ih (by omega)
      rw [sizeTo_succ]; omega

/-- What is known within l2Refs. -/
structure RefsIn (w : World) (a : Option Addr) (n c : Nat) (now : Int) (W : World) : Prop where
  t : Blk W w.heap.size #[.slice a n c, .int .i64 now] 44
  bel : Below w.heap.size w W

theorem RefsIn.drew {w : World} {a : Option Addr} {n c : Nat} {now : Int} {W : World} (h : RefsIn w a n c now W) (q : Nat) : RefsIn w a n c now (W.drewN q) := ⟨h.t, below_drewN h.bel q⟩

set_option maxHeartbeats 1000000 in
theorem l2Refs_any (a : Option Addr) (n c : Nat) (now ino : Int) (D : Nat → Nd) (L : Nat → Loc) (w : World) (hS : IsNds w a n D L) (hsz : sizeTo D n ≤ 1048576) (hn : n ≤ maxLen) :
    Calls Tryz.prog 71 #[trV a n c now, .int .i64 ino] w fun e w' => Below w.heap.size w w' ∧ e = .returned (.int .i64 (refsTo D ino n)) := by
  unfold maxLen at hn
  unfold trV
  go_enter Tryz.func71, Tryz.ntmps71
  go_wp2
  go_loopw [5, 6] (fun r i wr => ∃ k : Nat, k ≤ n ∧ i = .int .i64 k ∧ r = .int .i64 (refsTo D ino k) ∧ RefsIn w a n c now wr) (fun _ i _ => n - (intOf i).toNat)
  case atStart => exact ⟨0, Nat.zero_le _, rfl, rfl, (new1 w _ _).b0, (new1 w _ _).bel⟩
  case round =>
    obtain ⟨k, hk, rfl, rfl, hin⟩ := hrel
    have t0 : wr.cell? ⟨w.heap.size, 0, none⟩ = some (.slice a n c) := hin.t.cell 0
    by_cases hlt : k < n
    · have HIN : Hid (RefsIn w a n c now wr) := hin
      have hSr := hS.below (Nat.le_refl _) hin.bel
      have hrk := refsTo_le D ino k
      have hmono := sizeTo_mono D (show k + 1 ≤ n from hlt)
      rw [sizeTo_succ] at hmono
      have hkk : (D k).kn ≤ (D k).size := by unfold Nd.size; omega
      clear hin
      go_wp2_with fail
      go_loopw [5, 7] (fun r i wr => ∃ j : Nat, j ≤ (D k).kn ∧ i = .int .i64 j ∧ r = .int .i64 ((refsTo D ino k + cnt (D k).kids ino j : Nat) : Int) ∧ RefsIn w a n c now wr) (fun _ i _ => (D k).kn - (intOf i).toNat)
      case atStart => exact ⟨0, Nat.zero_le _, rfl, rfl, HIN.out⟩
      case round =>
        obtain ⟨j, hj, rfl, rfl, hin⟩ := hrel
        have t0 : wr.cell? ⟨w.heap.size, 0, none⟩ = some (.slice a n c) := hin.t.cell 0
        have hSr := hS.below (Nat.le_refl _) hin.bel
        obtain ⟨b, off, ha, hlt2, hc⟩ := hSr.at hlt
        obtain ⟨_, _, _, c3, _, hI⟩ := hc k hlt
        have HIN : Hid (RefsIn w a n c now wr) := hin
        rw [ha] at t0
        have hlti : (k : Int) < (n : Int) := by omega
        have hcj := cnt_le (D k).kids ino j
        clear hc hin hSr
        by_cases hltj : j < (D k).kn
        · obtain ⟨b', off', ha', hlt2', hc'⟩ := hI.2.at hltj
          have h1 := hc' j hltj
          rw [ha'] at c3
          clear hc' hI
          by_cases hz : (D k).kids j = ino
          · have hzb : ((D k).kids j == ino) = true := by simp [hz]
            have HZ : Hid (cnt (D k).kids ino (j + 1) = cnt (D k).kids ino j + 1) := by show cnt (D k).kids ino (j + 1) = _; rw [cnt, if_pos hz]
            clear hz
            go_wp2
            go_roundw
            case rel => exact ⟨j + 1, by omega, by go_num, by rw [HZ.out]; go_num, HIN.out⟩
            case measure => simp [intOf]; omega
          · have hzb : ((D k).kids j == ino) = false := by simp [hz]
            have HZ : Hid (cnt (D k).kids ino (j + 1) = cnt (D k).kids ino j) := by show cnt (D k).kids ino (j + 1) = _; rw [cnt, if_neg hz]; rfl
            clear hz
            go_wp2
            go_roundw
            case rel => exact ⟨j + 1, by omega, by go_num, by rw [HZ.out], HIN.out⟩
            case measure => simp [intOf]; omega
        · have hje : j = (D k).kn := by omega
          have HZ : Hid (refsTo D ino (k + 1) = refsTo D ino k + cnt (D k).kids ino j) := by show refsTo D ino (k + 1) = _; rw [refsTo, hje]
          clear hje
          go_wp2
          go_roundw
          case rel => exact ⟨k + 1, by omega, by go_num, by rw [HZ.out], HIN.out⟩
          case measure => simp [intOf]; omega
    · have hke : k = n := by omega
      have HK : Hid (refsTo D ino k = refsTo D ino n ∧ Below w.heap.size w wr) := ⟨by rw [hke], hin.bel⟩
      clear hke hin
      go_wp2
      go_ret
      exact ⟨HK.out.2, by rw [HK.out.1]; rfl⟩
end Go.Proofs.YtakifcobofkheabGreatDoor

/-
  Which places are reached from the root: plain facts. Marks that grow round by round come to just these within as many rounds as there are places.
-/
namespace Go.Proofs.YtakifcobofkheabGreatDoor
set_option linter.unusedVariables false

/-- A place that is reached from the root. -/
inductive Reach (n : Nat) (D : Nat → Nd) : Nat → Prop
  | root : Reach n D 0
  | step {i j : Nat} : Reach n D i → i < n → j < (D i).kn → Reach n D ((D i).kids j).toNat

/-- So many of the first k are marked. -/
def cntB (m : Nat → Bool) : Nat → Nat | 0 => 0 | k + 1 => cntB m k + (if m k = true then 1 else 0)

theorem cntB_le (m : Nat → Bool) (k : Nat) : cntB m k ≤ k := by
  induction k with
  | zero => exact Nat.le_refl _
  | succ k ih => unfold cntB; split <;> omega

theorem cntB_mono {m m' : Nat → Bool} (h : ∀ j, m j = true → m' j = true) (k : Nat) : cntB m k ≤ cntB m' k := by
  induction k with
  | zero => exact Nat.le_refl _
  | succ k ih =>
    unfold cntB
    by_cases hk : m k = true
    · rw [if_pos hk, if_pos (h k hk)]; omega
    · rw [if_neg hk]; omega

theorem cntB_lt {m m' : Nat → Bool} (h : ∀ j, m j = true → m' j = true) {i : Nat} (h1 : ¬ m i = true) (h2 : m' i = true) (k : Nat) (hi : i < k) : cntB m k + 1 ≤ cntB m' k := by
  induction k with
  | zero => omega
  | succ k ih =>
    unfold cntB
    by_cases e : i = k
    · subst e
      rw [if_neg h1, if_pos h2]
      have := cntB_mono h i
      omega
    · have := ih (by omega)
      by_cases hk : m k = true
      · rw [if_pos hk, if_pos (h k hk)]; omega
      · rw [if_neg hk]; omega

theorem cntB_one {m : Nat → Bool} (h : m 0 = true) (k : Nat) (hk : 1 ≤ k) : 1 ≤ cntB m k := by
  induction k with
  | zero => omega
  | succ k ih =>
    unfold cntB
    by_cases e : k = 0
    · subst e
      rw [if_pos h]; omega
    · have := ih (by omega)
      omega

/-- What is marked leads to what is marked. -/
def Closed (n : Nat) (D : Nat → Nd) (m : Nat → Bool) : Prop := ∀ i, i < n → m i = true → ∀ j, j < (D i).kn → m ((D i).kids j).toNat = true
/-- What is marked is reached. -/
def Sound (n : Nat) (D : Nat → Nd) (m : Nat → Bool) : Prop := ∀ i, m i = true → Reach n D i

/-- Behind r rounds. -/
structure Rounds (n : Nat) (D : Nat → Nd) (r : Nat) (m : Nat → Bool) : Prop where
  sound : Sound n D m
  root : m 0 = true
  more : Closed n D m ∨ r + 1 ≤ cntB m n

/-- Within a round that began with m0: the first i directories are through. -/
structure Pass (n : Nat) (D : Nat → Nd) (m0 : Nat → Bool) (i : Nat) (m : Nat → Bool) : Prop where
  sound : Sound n D m
  sub : ∀ j, m0 j = true → m j = true
  shut : Closed n D m0 → ∀ j, m j = true → m0 j = true
  kids : ∀ i', i' < i → m0 i' = true → ∀ j, j < (D i').kn → m ((D i').kids j).toNat = true

theorem Rounds.start {n : Nat} {D : Nat → Nd} (hn : 1 ≤ n) : Rounds n D 0 (fun j => decide (j = 0)) :=
  ⟨fun i hi => by simp at hi; subst hi; exact .root, by simp, Or.inr (cntB_one (by simp) n hn)⟩

theorem Rounds.pass {n : Nat} {D : Nat → Nd} {r : Nat} {m : Nat → Bool} (h : Rounds n D r m) : Pass n D m 0 m := ⟨h.sound, fun _ h => h, fun _ _ h => h, fun i' hi => by omega⟩

/-- One mark more. -/
theorem Pass.put {n : Nat} {D : Nat → Nd} {m0 : Nat → Bool} {i : Nat} {m : Nat → Bool} (h : Pass n D m0 i m) (hi : i < n) (hm : m i = true) {j : Nat} (hj : j < (D i).kn) :
    Pass n D m0 i (fun x => if x = ((D i).kids j).toNat then true else m x) := by
  refine ⟨fun x hx => ?_, fun x hx => ?_, fun hc x hx => ?_, fun i' hi' hm' j' hj' => ?_⟩
  · by_cases e : x = ((D i).kids j).toNat
    · subst e; exact .step (h.sound i hm) hi hj
    · simp only [if_neg e] at hx; exact h.sound x hx
  · by_cases e : x = ((D i).kids j).toNat
    · simp [e]
    · simp only [if_neg e]; exact h.sub x hx
  · by_cases e : x = ((D i).kids j).toNat
    · subst e; exact hc i hi (h.shut hc i hm) j hj
    · simp only [if_neg e] at hx; exact h.shut hc x hx
  · have := h.kids i' hi' hm' j' hj'
    by_cases e : ((D i').kids j').toNat = ((D i).kids j).toNat
    · simp [e]
    · simp only [if_neg e]; exact this

theorem Pass.next {n : Nat} {D : Nat → Nd} {m0 : Nat → Bool} {i : Nat} {m : Nat → Bool} (h : Pass n D m0 i m) (hk : m0 i = true → ∀ j, j < (D i).kn → m ((D i).kids j).toNat = true) : Pass n D m0 (i + 1) m :=
  ⟨h.sound, h.sub, h.shut, fun i' hi' hm => by
    by_cases e : i' = i
    · subst e; exact hk hm
    · exact h.kids i' (by omega) hm⟩

theorem Pass.done {n : Nat} {D : Nat → Nd} {m0 : Nat → Bool} {m : Nat → Bool} {r : Nat} (h0 : Rounds n D r m0) (h : Pass n D m0 n m) (hk : ∀ i, i < n → ∀ j, j < (D i).kn → 0 ≤ (D i).kids j ∧ (D i).kids j < n) : Rounds n D (r + 1) m := by
  refine ⟨h.sound, h.sub 0 h0.root, ?_⟩
  by_cases hc : Closed n D m0
  · left
    intro i hi hm j hj
    exact h.sub _ (hc i hi (h.shut hc i hm) j hj)
  · right
    have hr : r + 1 ≤ cntB m0 n := h0.more.resolve_left hc
    unfold Closed at hc
    simp only [Classical.not_forall] at hc
    obtain ⟨i, hi, hm, j, hj, hx⟩ := hc
    have hb := hk i hi j hj
    have := cntB_lt h.sub hx (h.kids i hi hm j hj) n (by omega)
    omega

/-- The marks at the end are just the places that are reached. -/
theorem Rounds.fin {n : Nat} {D : Nat → Nd} {m : Nat → Bool} (h : Rounds n D n m) (hk : ∀ i, i < n → ∀ j, j < (D i).kn → 0 ≤ (D i).kids j ∧ (D i).kids j < n) (i : Nat) : m i = true ↔ Reach n D i := by
  have hc : Closed n D m := by
    rcases h.more with hc | hc
    · exact hc
    · have := cntB_le m n; omega
  refine ⟨h.sound i, fun hr => ?_⟩
  induction hr with
  | root => exact h.root
  | step hr hi hj ih => exact hc _ hi ih _ hj
end Go.Proofs.YtakifcobofkheabGreatDoor

/-
  What l2Marks of the specification answers: which places are reached from the root.
-/
namespace Go.Proofs.YtakifcobofkheabGreatDoor
open Go.RowKit
set_option linter.unusedVariables false


/-- What is known within l2Marks. -/
structure MarksIn (w : World) (a : Option Addr) (n c : Nat) (now : Int) (m : Nat → Bool) (W : World) : Prop where
  t : Blk W w.heap.size #[.slice a n c, .int .i64 now] 44
  row : W.rowIs (w.heap.size + 1) 4 n (fun j => .bool (m j))
  bel : Below w.heap.size w W

theorem MarksIn.put {w : World} {a : Option Addr} {n c : Nat} {now : Int} {m : Nat → Bool} {W : World} (h : MarksIn w a n c now m W) (x : Nat) :
    MarksIn w a n c now (fun j => if j = x then true else m j) (W.setCell ⟨w.heap.size + 1, x, none⟩ (.bool true)) :=
  ⟨h.t.off _ (by omega), (h.row.set x (.bool true)).congr (fun i _ => by by_cases e : i = x <;> simp [e]), bel_put h.bel _ (by omega)⟩

theorem marks_start (w : World) (a : Option Addr) (n c : Nat) (now : Int) : MarksIn w a n c now (fun j => decide (j = 0))
    ((w.alloc (.cells #[.slice a n c, .int .i64 now] 44)).alloc (.cells ((madeCells #[.bool false] n).setIfInBounds 0 (.bool true)) 4)) := by
  have h := new2 w #[.slice a n c, .int .i64 now] 44 ((madeCells #[.bool false] n).setIfInBounds 0 (.bool true)) 4
  refine ⟨h.b0, ⟨_, h.b1, by simp [size_madeCells], fun i hi => ?_⟩, h.bel⟩
  rw [Array.getElem?_setIfInBounds]
  by_cases e : 0 = i
  · subst e
    simp [size_madeCells, hi]
  · rw [if_neg e]
    have : ¬ i = 0 := fun h => e h.symm
    simp [madeCells, hi, Nat.mod_one, this]

set_option maxHeartbeats 2000000 in
theorem l2Marks_any (a : Option Addr) (n c : Nat) (now : Int) (D : Nat → Nd) (L : Nat → Loc) (w : World) (hS : IsNds w a n D L) (h1 : 1 ≤ n) (hn : n ≤ 1048576) (hsm : ∀ i, i < n → (D i).kn ≤ maxLen) (hk : ∀ i, i < n → ∀ j, j < (D i).kn → 0 ≤ (D i).kids j ∧ (D i).kids j < n) :
    Calls Tryz.prog 70 #[trV a n c now] w fun e w' => Below w.heap.size w w' ∧ e = .returned (.slice (some ⟨w.heap.size + 1, 0, none⟩) n n) ∧ ∃ m : Nat → Bool, w'.rowIs (w.heap.size + 1) 4 n (fun j => .bool (m j)) ∧ ∀ j, m j = true ↔ Reach n D j := by
  have hmk := fun w => run_make_row' (P := Tryz.prog) 55 4 (.bool false) 1 Tryz.underlying55 infoBool rfl .i64 .i64 n (by omega) (by omega) w
  have hm0 : (madeCells #[Value.bool false] n)[0]? = some (.bool false) := by simp [madeCells, show 0 < n from h1]
  unfold trV
  go_enter Tryz.func70, Tryz.ntmps70
  go_wp2
  go_loopw [4] (fun i wr => ∃ (r : Nat) (m : Nat → Bool), r ≤ n ∧ i = .int .i64 r ∧ MarksIn w a n c now m wr ∧ Rounds n D r m) (fun i _ => n - (intOf i).toNat)
  case atStart => exact ⟨0, _, Nat.zero_le _, rfl, marks_start w a n c now, Rounds.start h1⟩
  case round =>
    obtain ⟨r, m0, hr, rfl, hin, hrd⟩ := hrel
    have t0 : wr.cell? ⟨w.heap.size, 0, none⟩ = some (.slice a n c) := hin.t.cell 0
    by_cases hlt : r < n
    · have HIN : Hid (MarksIn w a n c now m0 wr ∧ Rounds n D r m0) := ⟨hin, hrd⟩
      clear hin hrd hmk hm0
      go_wp2_with fail
      go_loopw [5] (fun i wr => ∃ (i' : Nat) (m : Nat → Bool), i' ≤ n ∧ i = .int .i64 i' ∧ MarksIn w a n c now m wr ∧ Pass n D m0 i' m) (fun i _ => n - (intOf i).toNat)
      case atStart => exact ⟨0, m0, Nat.zero_le _, rfl, HIN.out.1, HIN.out.2.pass⟩
      case round =>
        obtain ⟨i, m1, hi, rfl, hin, hps⟩ := hrel
        have t0 : wr.cell? ⟨w.heap.size, 0, none⟩ = some (.slice a n c) := hin.t.cell 0
        by_cases hlti : i < n
        · have HI : Hid (MarksIn w a n c now m1 wr ∧ Pass n D m0 i m1) := ⟨hin, hps⟩
          clear hin hps
          go_wp2_with fail
          go_loopw [6] (fun j wr => ∃ (j' : Nat) (m : Nat → Bool), j' ≤ (D i).kn ∧ j = .int .i64 j' ∧ MarksIn w a n c now m wr ∧ Pass n D m0 i m ∧ (m0 i = true → ∀ x, x < j' → m ((D i).kids x).toNat = true)) (fun j _ => (D i).kn - (intOf j).toNat)
          case atStart => exact ⟨0, m1, Nat.zero_le _, rfl, HI.out.1, HI.out.2, fun _ x hx => by omega⟩
          case round =>
            obtain ⟨j, m, hj, rfl, hin, hps, hkd⟩ := hrel
            have t0 : wr.cell? ⟨w.heap.size, 0, none⟩ = some (.slice a n c) := hin.t.cell 0
            have hSr := hS.below (Nat.le_refl _) hin.bel
            obtain ⟨b, off, ha, hlt2, hc⟩ := hSr.at hlti
            obtain ⟨_, _, _, c3, _, hI⟩ := hc i hlti
            rw [ha] at t0
            have hii : (i : Int) < (n : Int) := by omega
            have hknb := hsm i hlti
            unfold maxLen at hknb
            have mi : wr.cell? ⟨w.heap.size + 1, i, none⟩ = some (.bool (m i)) := hin.row.cell hlti
            clear hc hSr
            by_cases hltj : j < (D i).kn
            · obtain ⟨b', off', ha', hlt2', hc'⟩ := hI.2.at hltj
              have hz := hc' j hltj
              rw [ha'] at c3
              obtain ⟨hk0, hk1⟩ := hk i hlti j hltj
              obtain ⟨x, hx⟩ : ∃ x : Nat, (D i).kids j = x := ⟨((D i).kids j).toNat, by omega⟩
              have hxn : x < n := by omega
              have hjj : (j : Int) < ((D i).kn : Int) := by omega
              rw [hx] at hz
              cases hmi : m i with
              | true =>
                rw [hmi] at mi
                have xc : wr.cell? ⟨w.heap.size + 1, x, none⟩ = some (.bool (m x)) := hin.row.cell hxn
                have xf := hin.row.frozen x
                have HALL : Hid (MarksIn w a n c now m wr ∧ Pass n D m0 i m ∧ (m0 i = true → ∀ x, x < j → m ((D i).kids x).toNat = true) ∧ m i = true ∧ ((D i).kids j).toNat = x) := ⟨hin, hps, hkd, hmi, by rw [hx]; rfl⟩
                clear hin hps hkd hmi hc' hI hx hk0 hk1
                go_wp2
                go_roundw
                case rel =>
                  obtain ⟨h1, h2, h3, h4, h5⟩ := HALL.out
                  have h6 := h2.put hlti h4 hltj
                  rw [h5] at h6
                  refine ⟨j + 1, _, by omega, by go_num, h1.put x, h6, fun h0 y hy => ?_⟩
                  by_cases e : y = j
                  · subst e; simp [h5]
                  · have := h3 h0 y (by omega)
                    by_cases e2 : ((D i).kids y).toNat = x
                    · simp [e2]
                    · simp only [if_neg e2]; exact this
                case measure => simp [intOf]; omega
              | false =>
                rw [hmi] at mi
                have HALL : Hid (MarksIn w a n c now m wr ∧ Pass n D m0 (i + 1) m) := ⟨hin, hps.next (fun h0 => by have := hps.sub i h0; rw [hmi] at this; cases this)⟩
                clear hin hps hkd hmi hc' hI hx hk0 hk1
                go_wp2
                go_roundw
                case rel => exact ⟨i + 1, m, by omega, by go_num, HALL.out.1, HALL.out.2⟩
                case measure => simp [intOf]; omega
            · have hje : j = (D i).kn := by omega
              have HALL : Hid (MarksIn w a n c now m wr ∧ Pass n D m0 (i + 1) m) := ⟨hin, hps.next (fun h0 y hy => hkd h0 y (by omega))⟩
              clear hin hps hkd hje hI
              go_wp2
              go_roundw
              case rel => exact ⟨i + 1, m, by omega, by go_num, HALL.out.1, HALL.out.2⟩
              case measure => simp [intOf]; omega
        · have hie : i = n := by omega
          have HALL : Hid (MarksIn w a n c now m1 wr ∧ Rounds n D (r + 1) m1) := ⟨hin, Pass.done HIN.out.2 (hie ▸ hps) hk⟩
          clear hin hps hie
          go_wp2
          go_roundw
          case rel => exact ⟨r + 1, m1, by omega, by go_num, HALL.out.1, HALL.out.2⟩
          case measure => simp [intOf]; omega
    · have hre : r = n := by omega
      have HALL : Hid (MarksIn w a n c now m0 wr ∧ Rounds n D n m0) := ⟨hin, hre ▸ hrd⟩
      clear hin hrd hre hmk hm0
      go_wp2
      go_ret
      exact ⟨HALL.out.1.bel, rfl, m0, HALL.out.1.row, HALL.out.2.fin hk⟩
end Go.Proofs.YtakifcobofkheabGreatDoor

/-
  What TreeOk of the specification answers.
-/
namespace Go.Proofs.YtakifcobofkheabGreatDoor
open Go.RowKit
set_option linter.unusedVariables false

/-- A tree that is one. -/
structure TreeGood (n : Nat) (D : Nat → Nd) (now : Int) : Prop where
  some : 1 ≤ n
  few : n ≤ 10
  begun : 1 ≤ now
  soon : now ≤ 1000
  root : (D 0).kind = 2
  nodes : ∀ i, i < n → ndOk n D now (D i) = true
  reach : ∀ i, 1 ≤ i → i < n → (Reach n D i ↔ (D i).kind ≠ 0)
  one : ∀ i, 1 ≤ i → i < n → (D i).kind = 2 → refsTo D i n = 1

/-- Places in the directories of such a tree lead to places. -/
theorem kids_in {n : Nat} {D : Nat → Nd} {now : Int} (h : ∀ i, i < n → ndOk n D now (D i) = true) : ∀ i, i < n → ∀ j, j < (D i).kn → 0 ≤ (D i).kids j ∧ (D i).kids j < n := by
  intro i hi j hj
  have := h i hi
  unfold ndOk at this
  split at this
  · unfold freeOk at this; simp at this; omega
  · split at this
    · unfold fileOk at this; simp at this; omega
    · split at this
      · unfold dirOk at this
        simp only [Bool.and_eq_true] at this
        have hk := List.all_eq_true.1 this.1.1.2.1 j (by simpa using hj)
        unfold kidOk at hk
        simp at hk
        omega
      · cases this

theorem tree_mark {n : Nat} {D : Nat → Nd} {now : Int} (h : TreeGood n D now) {m : Bool} {i : Nat} (hm : m = true ↔ Reach n D i) (h1 : 1 ≤ i) (h2 : i < n) : m = ((D i).kind != 0) := by
  have := h.reach i h1 h2
  cases hk : ((D i).kind != 0) with
  | true => exact hm.2 (this.2 (by simpa using hk))
  | false =>
    rw [Bool.eq_false_iff]
    intro hm'
    exact this.1 (hm.1 hm') (by simpa using hk)

set_option maxHeartbeats 2000000 in
theorem specTreeOk_any (a : Option Addr) (n c : Nat) (now : Int) (D : Nat → Nd) (L : Nat → Loc) (w : World) (hS : IsNds w a n D L) (hf : FitAll n D) (hn : n ≤ maxLen) (hsz : sizeTo D n ≤ 1048576) :
    Calls Tryz.prog 53 #[trV a n c now] w fun e w' => Below w.heap.size w w' ∧ ∃ r : Bool, e = .returned (.bool r) ∧ (r = true ↔ TreeGood n D now) := by
  by_cases hhead : 1 ≤ n ∧ n ≤ 10 ∧ 1 ≤ now ∧ now ≤ 1000 ∧ (D 0).kind = 2
  · obtain ⟨h1, h2, h3, h4, h5⟩ := hhead
    obtain ⟨b, off, rfl, hlt2, hc⟩ := hS.at (show 0 < n from h1)
    have c0 := (hc 0 h1).1
    rw [Nat.zero_mul, Nat.add_zero] at c0
    have hk0 : ((D 0).kind != 2) = false := by simp [h5]
    have H5 : Hid ((D 0).kind = 2) := h5
    have hb1 : decide ((n : Int) < 1) = false := by simp; omega
    have hb2 : decide (10 < (n : Int)) = false := by simp; omega
    have hb3 : decide (now < 1) = false := by simp; omega
    have hb4 : decide (1000 < now) = false := by simp; omega
    clear hc h5
    unfold trV
    go_enter Tryz.func53, Tryz.ntmps53
    go_wp2_with fail
    go_loopw [3] (fun i wr => ∃ k : Nat, k ≤ n ∧ i = .int .i64 k ∧ RefsIn w (some ⟨b, off, none⟩) n c now wr ∧ ∀ i, i < k → ndOk n D now (D i) = true) (fun i _ => n - (intOf i).toNat)
    case atStart => exact ⟨0, Nat.zero_le _, rfl, ⟨(new1 w _ _).b0, (new1 w _ _).bel⟩, fun i hi => by omega⟩
    case round =>
      obtain ⟨k, hk, rfl, hin, hall⟩ := hrel
      have t0 : wr.cell? ⟨w.heap.size, 0, none⟩ = some (.slice (some ⟨b, off, none⟩) n c) := hin.t.cell 0
      have t1 : wr.cell? ⟨w.heap.size, 1, none⟩ = some (.int .i64 now) := hin.t.cell 1
      have hSr := hS.below (Nat.le_refl _) hin.bel
      have hwl : w.heap.size < wr.heap.size := hin.t.lt
      clear c0
      by_cases hlt : k < n
      · obtain ⟨b', off', ha, hlt2', hc⟩ := hSr.at hlt
        cases ha
        obtain ⟨c0, c1, c2, c3, c4, hI⟩ := hc k hlt
        have hki : (k : Int) < (n : Int) := by omega
        have C0 := Lat.cell (B := wr.heap.size) c0 hlt2'
        have C1 := Lat.cell (B := wr.heap.size) c1 hlt2'
        have C2 := Lat.cell (B := wr.heap.size) c2 hlt2'
        have C3 := Lat.cell (B := wr.heap.size) c3 hlt2'
        have C4 := Lat.cell (B := wr.heap.size) c4 hlt2'
        have T0 := Lat.cell (B := wr.heap.size) t0 hwl
        have T1 := Lat.cell (B := wr.heap.size) t1 hwl
        have hcall : Hid (∀ q : Lat wr.heap.size wr, Calls Tryz.prog 69 #[trV (some ⟨b, off, none⟩) n c now, ndV (D k) (L k)] q.val fun e w'' => e = .returned (.bool (ndOk n D now (D k))) ∧ ∃ m : Lat wr.heap.size wr, w'' = m.val) := fun q =>
          Calls.lat_of (l2Node_any _ n c now D L (D k) (L k) q.val (hSr.below (Nat.le_refl _) q.bel) (hI.below (Nat.le_refl _) q.bel) (hf k hlt) hn) (fun e w' h => ⟨h.2, h.1.mono q.bel.size⟩)
        have HIN : Hid (RefsIn w (some ⟨b, off, none⟩) n c now wr ∧ ∀ i, i < k → ndOk n D now (D i) = true) := ⟨hin, hall⟩
        clear hc c0 c1 c2 c3 c4 hI hSr hin hall
        go_wp2_with fail
        refine wp_region_lat (B := wr.heap.size) (w0 := wr) (by kernel_rfl) (by kernel_rfl) (Below.refl _ _) ?_
        repeat (go_big_quiet_step (exact hcall.out _))
        refine wpQuiet_nil ?_
        rintro _ ⟨nq, rfl⟩
        have HN : Hid (RefsIn w (some ⟨b, off, none⟩) n c now nq.val) := ⟨HIN.out.1.t.below nq.bel hwl, HIN.out.1.bel.trans (nq.bel.mono HIN.out.1.bel.size)⟩
        clear hcall C0 C1 C2 C3 C4 T0 T1 t0 t1 hwl hlt2'
        cases hq : ndOk n D now (D k) with
        | false =>
          have HQ : Hid (ndOk n D now (D k) = false) := hq
          clear hq
          go_wp2
          go_ret
          exact ⟨HN.out.bel, false, rfl, fun h => (by cases h), fun h => by have := h.nodes k hlt; rw [HQ.out] at this; cases this⟩
        | true =>
          have HQ : Hid (ndOk n D now (D k) = true) := hq
          clear hq
          go_wp2
          go_roundw
          case rel => exact ⟨k + 1, by omega, by go_num, HN.out, fun i hi => by
            by_cases e : i = k
            · subst e; exact HQ.out
            · exact HIN.out.2 i (by omega)⟩
          case measure => simp [intOf]; omega
      · have hke : k = n := by omega
        have hall' : Hid (∀ i, i < n → ndOk n D now (D i) = true) := fun i hi => hall i (by omega)
        have HIN : Hid (RefsIn w (some ⟨b, off, none⟩) n c now wr) := hin
        clear hke hall hin
        go_wp2_with fail
        refine (l2Marks_any _ n c now D L wr hSr h1 (by omega) (fun i hi => (hf i hi).kn) (kids_in hall'.out)).mono ?_
        rintro e w1 ⟨hb1, rfl, m, hrow, hm⟩
        have HM : Hid (RefsIn w (some ⟨b, off, none⟩) n c now w1 ∧ w1.rowIs (wr.heap.size + 1) 4 n (fun j => .bool (m j)) ∧ ∀ j, m j = true ↔ Reach n D j) := ⟨⟨HIN.out.t.below hb1 hwl, HIN.out.bel.trans (hb1.mono HIN.out.bel.size)⟩, hrow, hm⟩
        clear hb1 hrow hm hSr t0 t1
        have hw2 : w.heap.size < wr.heap.size + 1 := by omega
        generalize wr.heap.size + 1 = bm at *
        go_wp2_with fail
        go_loopw [5] (fun i wr => ∃ k : Nat, 1 ≤ k ∧ k ≤ n ∧ i = .int .i64 k ∧ RefsIn w (some ⟨b, off, none⟩) n c now wr ∧ wr.rowIs bm 4 n (fun j => .bool (m j)) ∧ ∀ i, 1 ≤ i → i < k → m i = ((D i).kind != 0) ∧ ((D i).kind = 2 → refsTo D i n = 1)) (fun i _ => n - (intOf i).toNat)
        case atStart => exact ⟨1, Nat.le_refl _, h1, rfl, HM.out.1, HM.out.2.1, fun i h h' => by omega⟩
        case round =>
          obtain ⟨k, hk1, hk, rfl, hin, hrow, hall⟩ := hrel
          have t0 : wr.cell? ⟨w.heap.size, 0, none⟩ = some (.slice (some ⟨b, off, none⟩) n c) := hin.t.cell 0
          have t1 : wr.cell? ⟨w.heap.size, 1, none⟩ = some (.int .i64 now) := hin.t.cell 1
          have hSr := hS.below (Nat.le_refl _) hin.bel
          have hwl : w.heap.size < wr.heap.size := hin.t.lt
          have hbl : bm < wr.heap.size := hrow.lt
          by_cases hlt : k < n
          · obtain ⟨b', off', ha, hlt2', hc⟩ := hSr.at hlt
            cases ha
            obtain ⟨c0, c1, c2, c3, c4, hI⟩ := hc k hlt
            have hki : (k : Int) < (n : Int) := by omega
            have HIN : Hid (RefsIn w (some ⟨b, off, none⟩) n c now wr ∧ wr.rowIs bm 4 n (fun j => .bool (m j)) ∧ (∀ i, 1 ≤ i → i < k → m i = ((D i).kind != 0) ∧ ((D i).kind = 2 → refsTo D i n = 1)) ∧ IsNds wr (some ⟨b, off, none⟩) n D L) := ⟨hin, hrow, hall, hSr⟩
            have HMM : Hid (∀ j, m j = true ↔ Reach n D j) := HM.out.2.2
            clear hc hI hin hrow hall hSr HM
            go_wp2_with fail
            refine at_world (F := New1 wr _ _) (new1 wr _ _) ?_
            rintro W ⟨hp, hb, hs⟩
            refine (l2Refs_any _ n c now k D L W (HIN.out.2.2.2.below (Nat.le_refl _) hb) hsz hn).mono ?_
            rintro e w2 ⟨hb2, rfl⟩
            have hbw : Below wr.heap.size wr w2 := hb.trans (hb2.mono (by omega))
            have n0 : w2.cell? ⟨wr.heap.size, 0, none⟩ = some (.int .i64 (D k).kind) := (hp.below hb2 (by omega)).cell 0
            have hrow2 : w2.rowIs bm 4 n (fun j => .bool (m j)) := rowIs_below HIN.out.2.1 hbw hbl
            have mk : w2.cell? ⟨bm, k, none⟩ = some (.bool (m k)) := hrow2.cell hlt
            have HN : Hid (RefsIn w (some ⟨b, off, none⟩) n c now w2 ∧ w2.rowIs bm 4 n (fun j => .bool (m j))) := ⟨⟨HIN.out.1.t.below hbw hwl, HIN.out.1.bel.trans (hbw.mono HIN.out.1.bel.size)⟩, hrow2⟩
            clear hp hb hs hb2 hbw hrow2 c0 c1 c2 c3 c4 t0 t1
            cases hmk : m k with
            | true =>
              rw [hmk] at mk
              cases hkz : ((D k).kind != 0) with
              | false =>
                have HX : Hid (¬ m k = ((D k).kind != 0)) := by show ¬ _; rw [hmk, hkz]; simp
                clear hmk
                go_wp2_with fail
                go_quiet (fail)
                go_wp2
                go_ret
                exact ⟨below_drewN HN.out.1.bel _, false, rfl, fun h => (by cases h), fun h => absurd (tree_mark h (HMM.out k) hk1 hlt) HX.out⟩
              | true =>
                have HX : Hid (m k = ((D k).kind != 0)) := by show _ = _; rw [hmk, hkz]
                clear hmk
                cases hd2 : ((D k).kind == 2) with
                | false =>
                  have H2 : Hid (¬ (D k).kind = 2) := show ¬ (D k).kind = 2 by simpa using hd2
                  go_wp2_with fail
                  go_quiet (fail)
                  go_wp2
                  go_roundw
                  case rel => exact ⟨k + 1, by omega, by omega, by go_num, HN.out.1.drew _, HN.out.2, fun i hi1 hi2 => by
                    by_cases e : i = k
                    · subst e; exact ⟨HX.out, fun h => absurd h H2.out⟩
                    · exact HIN.out.2.2.1 i hi1 (by omega)⟩
                  case measure => simp [intOf]; omega
                | true =>
                  have H2 : Hid ((D k).kind = 2) := show (D k).kind = 2 by simpa using hd2
                  by_cases hr1 : refsTo D k n = 1
                  · have hrb : (((refsTo D k n : Nat) : Int) != 1) = false := by simp [hr1]
                    have HR : Hid (refsTo D k n = 1) := hr1
                    clear hr1
                    go_wp2_with fail
                    go_quiet (fail)
                    go_wp2
                    go_roundw
                    case rel => exact ⟨k + 1, by omega, by omega, by go_num, HN.out.1.drew _, HN.out.2, fun i hi1 hi2 => by
                      by_cases e : i = k
                      · subst e; exact ⟨HX.out, fun _ => HR.out⟩
                      · exact HIN.out.2.2.1 i hi1 (by omega)⟩
                    case measure => simp [intOf]; omega
                  · have hrb : (((refsTo D k n : Nat) : Int) != 1) = true := by simp; omega
                    have HR : Hid (¬ refsTo D k n = 1) := hr1
                    clear hr1
                    go_wp2_with fail
                    go_quiet (fail)
                    go_wp2
                    go_ret
                    exact ⟨below_drewN HN.out.1.bel _, false, rfl, fun h => (by cases h), fun h => absurd (h.one k hk1 hlt H2.out) HR.out⟩
            | false =>
              rw [hmk] at mk
              cases hkz : ((D k).kind != 0) with
              | true =>
                have HX : Hid (¬ m k = ((D k).kind != 0)) := by show ¬ _; rw [hmk, hkz]; simp
                clear hmk
                go_wp2_with fail
                go_quiet (fail)
                go_wp2
                go_ret
                exact ⟨below_drewN HN.out.1.bel _, false, rfl, fun h => (by cases h), fun h => absurd (tree_mark h (HMM.out k) hk1 hlt) HX.out⟩
              | false =>
                have HX : Hid (m k = ((D k).kind != 0)) := by show _ = _; rw [hmk, hkz]
                clear hmk
                have hd2 : ((D k).kind == 2) = false := by
                  have : (D k).kind = 0 := by simpa using hkz
                  rw [this]; rfl
                have H2 : Hid (¬ (D k).kind = 2) := show ¬ (D k).kind = 2 by simpa using hd2
                go_wp2_with fail
                go_quiet (fail)
                go_wp2
                go_roundw
                case rel => exact ⟨k + 1, by omega, by omega, by go_num, HN.out.1.drew _, HN.out.2, fun i hi1 hi2 => by
                  by_cases e : i = k
                  · subst e; exact ⟨HX.out, fun h => absurd h H2.out⟩
                  · exact HIN.out.2.2.1 i hi1 (by omega)⟩
                case measure => simp [intOf]; omega
          · have HALL : Hid (Below w.heap.size w wr ∧ TreeGood n D now) := ⟨hin.bel, ⟨h1, h2, h3, h4, H5.out, hall'.out, fun i hi1 hi2 => by
              have := (hall i hi1 (by omega)).1
              rw [← HM.out.2.2 i, this]; simp, fun i hi1 hi2 hk2 => (hall i hi1 (by omega)).2 hk2⟩⟩
            clear hin hrow hall hSr
            go_wp2
            go_ret
            exact ⟨HALL.out.1, true, rfl, fun _ => HALL.out.2, fun _ => rfl⟩
  · have no : Hid (¬ TreeGood n D now) := fun h => hhead ⟨h.some, h.few, h.begun, h.soon, h.root⟩
    unfold maxLen at hn
    unfold trV
    by_cases g1 : n < 1
    · have hb1 : decide ((n : Int) < 1) = true := by simp; omega
      clear hhead
      go_enter Tryz.func53, Tryz.ntmps53
      go_wp2_with fail
      go_ret
      exact ⟨(Below.refl _ _).alloc (Nat.le_refl _) _, false, rfl, fun h => (by cases h), fun h => absurd h no.out⟩
    · have hb1 : decide ((n : Int) < 1) = false := by simp; omega
      by_cases g2 : 10 < n
      · have hb2 : decide (10 < (n : Int)) = true := by simp; omega
        clear hhead
        go_enter Tryz.func53, Tryz.ntmps53
        go_wp2_with fail
        go_ret
        exact ⟨(Below.refl _ _).alloc (Nat.le_refl _) _, false, rfl, fun h => (by cases h), fun h => absurd h no.out⟩
      · have hb2 : decide (10 < (n : Int)) = false := by simp; omega
        by_cases g3 : now < 1
        · have hb3 : decide (now < 1) = true := by simp; omega
          clear hhead
          go_enter Tryz.func53, Tryz.ntmps53
          go_wp2_with fail
          go_ret
          exact ⟨(Below.refl _ _).alloc (Nat.le_refl _) _, false, rfl, fun h => (by cases h), fun h => absurd h no.out⟩
        · have hb3 : decide (now < 1) = false := by simp; omega
          by_cases g4 : 1000 < now
          · have hb4 : decide (1000 < now) = true := by simp; omega
            clear hhead
            go_enter Tryz.func53, Tryz.ntmps53
            go_wp2_with fail
            go_ret
            exact ⟨(Below.refl _ _).alloc (Nat.le_refl _) _, Or.inl ⟨rfl, no.out⟩⟩
          · have hb4 : decide (1000 < now) = false := by simp; omega
            have g5 : ¬ (D 0).kind = 2 := fun h => hhead ⟨by omega, by omega, by omega, by omega, h⟩
            have hb5 : ((D 0).kind != 2) = true := by simpa using g5
            obtain ⟨b, off, rfl, hlt2, hc⟩ := hS.at (show 0 < n by omega)
            have c0 := (hc 0 (by omega)).1
            rw [Nat.zero_mul, Nat.add_zero] at c0
            clear hc g5 hhead
            go_enter Tryz.func53, Tryz.ntmps53
            go_wp2_with fail
            go_ret
            exact ⟨(Below.refl _ _).alloc (Nat.le_refl _) _, Or.inl ⟨rfl, no.out⟩⟩
end Go.Proofs.YtakifcobofkheabGreatDoor

/-
  What markText, markStringS and heldStringS do: each place of a list gets a text of its own, told by its number; and that it still holds it is asked.
-/
namespace Go.Proofs.YtakifcobofkheabGreatDoor
open Go.RowKit
set_option linter.unusedVariables false

/-- The last digit of a number, as a letter. -/
def dig (m : Nat) : UInt8 := UInt8.ofNat (48 + m % 10)
theorem dig_nat (m : Nat) : ((dig m).toNat : Int) = 48 + (m : Int) % 10 := by
  unfold dig
  rw [UInt8.toNat_ofNat']
  omega
/-- The digits of a number, at most f of them. -/
def digF : Nat → Nat → List UInt8 | 0, _ => [] | f + 1, k => if k = 0 then [] else digF f (k / 10) ++ [dig k]
/-- The text by which a place is marked. -/
def markOf (k : Nat) : List UInt8 := if k = 0 then [109, 48] else 109 :: digF 20 k

theorem digF_zero (f : Nat) : digF f 0 = [] := by cases f <;> simp [digF]
theorem digF_step (f k : Nat) (h : k ≠ 0) : digF (f + 1) k = digF f (k / 10) ++ [dig k] := by simp [digF, h]

theorem conv_digit (wr : World) (m : Nat) : (convert 101 9 (.slice (some ⟨wr.heap.size, 0, none⟩) 1 1)).run Tryz.prog (wr.alloc (.cells #[.int .u8 (48 + (m : Int) % 10)] 5)) = .ok (.string ⟨#[dig m]⟩) (wr.alloc (.cells #[.int .u8 (48 + (m : Int) % 10)] 5)) := by
  have e := dig_nat m
  refine run_convert_bytes_back _ 101 9 5 ⟨wr.heap.size, 0, none⟩ 1 [dig m] Tryz.underlying101 Tryz.underlying5 Tryz.underlying9 ?_
  intro j hj
  have : j = 0 := by simpa using hj
  subst this
  show World.cell? _ ((⟨wr.heap.size, 0, none⟩ : Addr).add 0) = some (.int .u8 ((dig m).toNat : Int))
  rw [e]
  simp [Addr.add]

theorem ret_nat {a b : Nat} (h : a = b) : Ending.returned (.int .i64 (a : Int)) = .returned (.int .i64 (b : Int)) := by rw [h]
theorem mret_str {a b : ByteArray} (h : a = b) : Ending.returned (.string a) = .returned (.string b) := by rw [h]

set_option maxRecDepth 100000 in
set_option maxHeartbeats 400000 in
theorem markText_any (k : Nat) (w : World) (h1 : 1 ≤ k) (h2 : k ≤ 1000000000) :
    Calls Tryz.prog 38 #[.int .i64 k] w fun e w' => e = .returned (.string ⟨(markOf k).toArray⟩) ∧ Below w.heap.size w w' := by
  have hle : decide ((k : Int) ≤ 0) = false := by simp; omega
  go_enter Tryz.func38, Tryz.ntmps38
  go_wp2
  go_loopw [0, 3] (fun kk o wr => ∃ (f m : Nat) (out : List UInt8), kk = .int .i64 m ∧ o = .string ⟨out.toArray⟩ ∧ m < 10 ^ f ∧ f ≤ 20 ∧ m ≤ 1000000000 ∧ digF f m ++ out = digF 20 k ∧ out.length + f = 20 ∧ Below w.heap.size w wr) (fun kk _ _ => (intOf kk).toNat)
  case atStart => exact ⟨20, k, [], rfl, rfl, by omega, Nat.le_refl _, h2, by simp, rfl, Below.refl _ _⟩
  case round =>
    obtain ⟨f, m, out, rfl, rfl, hm, hf, hm9, hd, hlen, hB⟩ := hrel
    have HD : Hid (digF f m ++ out = digF 20 k) := hd
    have HB : Hid (Below w.heap.size w wr) := hB
    clear hd hB
    by_cases h0 : m = 0
    · subst h0
      go_wp2
      go_ret
      refine ⟨mret_str ?_, HB.out⟩
      have hd := HD.out
      rw [digF_zero, List.nil_append] at hd
      unfold markOf
      rw [if_neg (by omega), ← hd]
      exact ByteArray.mk_append_mk [109] out
    · have hp : (0 : Int) < (m : Int) := by omega
      have hcv := conv_digit wr m
      have hol : out.length ≤ 20 := by omega
      obtain ⟨f', rfl⟩ : ∃ f', f = f' + 1 := ⟨f - 1, by cases f <;> simp at hm ⊢; omega⟩
      have HD2 : Hid (digF f' (m / 10) ++ (dig m :: out) = digF 20 k) := by
        show _ = _
        rw [← HD.out, digF_step f' m h0]; simp
      go_wp2
      go_roundw
      case rel => exact ⟨f', m / 10, dig m :: out, by go_num, congrArg Value.string (ByteArray.mk_append_mk [dig m] out), by rw [Nat.pow_succ] at hm; omega, by omega, by omega, HD2.out, by simp; omega, HB.out.alloc HB.out.size _⟩
      case measure => simp [intOf]; omega

/-- A list of texts in a row of one's own, not frozen. -/
structure Row (w : World) (g n : Nat) (S : Nat → ByteArray) : Prop where
  lt : g < w.heap.size
  cell : ∀ i, i < n → w.cell? ⟨g, 0 + i, none⟩ = some (.string (S i))
  free : ∀ i, i < n → w.frozen? ⟨g, 0 + i, none⟩ = false

theorem Row.below {w w' : World} {g n : Nat} {S : Nat → ByteArray} (h : Row w g n S) (hb : Below w.heap.size w w') : Row w' g n S :=
  ⟨Nat.lt_of_lt_of_le h.lt hb.size, fun i hi => (hb.cell (p := ⟨g, 0 + i, none⟩) h.lt).trans (h.cell i hi), fun i hi => (hb.frozen (p := ⟨g, 0 + i, none⟩) h.lt).trans (h.free i hi)⟩

/-- A store into the row. -/
theorem Row.set {w : World} {g n : Nat} {S : Nat → ByteArray} (h : Row w g n S) (k : Nat) (s : ByteArray) : Row (w.setCell ⟨g, 0 + k, none⟩ (.string s)) g n (fun i => if i = k then s else S i) := by
  refine ⟨by simp [World.setCell]; exact h.lt, fun i hi => ?_, fun i hi => ?_⟩
  · by_cases e : i = k
    · subst e
      rw [if_pos rfl]
      exact World.cell?_setCell_same' _ _ _ (by rw [h.cell i hi]; rfl)
    · rw [if_neg e, World.cell?_setCell_other (w := w) (a := ⟨g, 0 + k, none⟩) (b := ⟨g, 0 + i, none⟩) (v := .string s) (by intro h'; injection h' with h1 h2; omega)]; exact h.cell i hi
  · rw [World.frozen?_setCell]
    exact h.free i hi

/-- The texts by which n places are marked, from k on. -/
def marks (k : Nat) : Nat → ByteArray := fun i => ⟨(markOf (k + i)).toArray⟩

theorem mark_step (S : Nat → ByteArray) (k i m : Nat) : Value.string (if i = m then (⟨(markOf (k + m)).toArray⟩ : ByteArray) else if i < m then marks k i else S i) = Value.string (if i < m + 1 then marks k i else S i) := by
  by_cases h : i = m
  · subst h; simp [marks]
  · by_cases h2 : i < m
    · simp [h, h2, show i < m + 1 by omega]
    · simp [h, h2, show ¬ i < m + 1 by omega]

set_option maxHeartbeats 400000 in
theorem markStringS_any (g n c k B : Nat) (S : Nat → ByteArray) (w : World) (hR : Row w g n S) (hB : B ≤ g) (hn : n ≤ 1000000) (hk : 1 ≤ k) (hk2 : k ≤ 100000000) :
    Calls Tryz.prog 15 #[.slice (some ⟨g, 0, none⟩) n c, .int .i64 k] w fun e w' => e = .returned (.int .i64 ((k + n : Nat) : Int)) ∧ Below B w w' ∧ Row w' g n (marks k) := by
  go_enter Tryz.func15, Tryz.ntmps15
  go_wp2
  go_loopw [1, 5] (fun kk i wr => ∃ m : Nat, m ≤ n ∧ i = .int .i64 m ∧ kk = .int .i64 ((k + m : Nat) : Int) ∧ Below B w wr ∧ Row wr g n (fun j => if j < m then marks k j else S j)) (fun _ i _ => n - (intOf i).toNat)
  case atStart => exact ⟨0, Nat.zero_le _, rfl, rfl, Below.refl _ _, by simpa using hR⟩
  case round =>
    obtain ⟨m, hm, rfl, rfl, hb, hrow⟩ := hrel
    have HB : Hid (Below B w wr) := hb
    by_cases hlt : m < n
    · have hlti : (m : Int) < (n : Int) := by omega
      have HR : Hid _ := hrow
      clear hb hrow
      go_wp2_with fail
      refine (markText_any (k + m) _ (by omega) (by omega)).mono ?_
      rintro e w1 ⟨rfl, hb1⟩
      have hrow1 := HR.out.below hb1
      have hcm := hrow1.cell m hlt
      have hfm := hrow1.free m hlt
      rw [Nat.zero_add] at hcm hfm
      have HR1 : Hid _ := hrow1
      have HB1 : Hid (Below B w w1) := HB.out.trans (hb1.mono (by have := HR.out.lt; omega))
      clear hb1 hrow1 HR HB
      go_wp2
      go_roundw
      case rel => exact ⟨m + 1, by omega, by go_num, by go_num, HB1.out.setCell (p := ⟨g, m, none⟩) hB _, by
        have h := HR1.out.set m ⟨(markOf (k + m)).toArray⟩
        rw [Nat.zero_add] at h
        exact ⟨h.lt, fun i hi => by rw [h.cell i hi, mark_step S k i m], h.free⟩⟩
      case measure => simp [intOf]; omega
    · have hnm : m = n := by omega
      have HN : Hid (m = n) := hnm
      have HR : Hid _ := hrow
      clear hb hrow hnm
      go_wp2
      go_ret
      exact ⟨ret_nat (by rw [HN.out]), HB.out, HR.out.lt, fun i hi => by rw [HR.out.cell i hi, if_pos (by have := HN.out; omega)], HR.out.free⟩

theorem mark_same (k m : Nat) : ((marks k m).toList == markOf (k + m)) = true := by unfold marks; rw [ByteArray.toList_eq]; simp

set_option maxHeartbeats 1000000 in
/-- A list that holds its marks is told to. -/
theorem heldStringS_any (a : Option Addr) (n c k : Nat) (w : World) (hS : IsStrs w a n (marks k)) (hn : n ≤ 1000000) (hk : 1 ≤ k) (hk2 : k ≤ 100000000) :
    Calls Tryz.prog 40 #[.slice a n c, .int .i64 k] w fun e w' => e = .returned (.int .i64 ((k + n : Nat) : Int)) ∧ Below w.heap.size w w' := by
  go_enter Tryz.func40, Tryz.ntmps40
  go_wp2
  go_loopw [1, 5] (fun kk i wr => ∃ m : Nat, m ≤ n ∧ i = .int .i64 m ∧ kk = .int .i64 ((k + m : Nat) : Int) ∧ Below w.heap.size w wr) (fun _ i _ => n - (intOf i).toNat)
  case atStart => exact ⟨0, Nat.zero_le _, rfl, rfl, Below.refl _ _⟩
  case round =>
    obtain ⟨m, hm, rfl, rfl, hb⟩ := hrel
    have HB : Hid (Below w.heap.size w wr) := hb
    by_cases hlt : m < n
    · obtain ⟨b, off, rfl, hlt2, hc⟩ := hS.at hlt
      have hlti : (m : Int) < (n : Int) := by omega
      have hcm : wr.cell? ⟨b, off + m, none⟩ = some (.string (marks k m)) := (hb.cell (p := ⟨b, off + m, none⟩) hlt2).trans (hc m hlt)
      have hall : ∀ wq, Below wr.heap.size wr wq → wq.cell? ⟨b, off + m, none⟩ = some (.string (marks k m)) := fun wq hq => (hq.cell (p := ⟨b, off + m, none⟩) (Nat.lt_of_lt_of_le hlt2 hb.size)).trans hcm
      have HALL : Hid _ := hall
      clear hc hb hall
      go_wp2
      go_region_with (go_at_call 38; refine (markText_any (k + m) _ (by omega) (by omega)).mono ?_; rintro e w1 ⟨rfl, hb1⟩; have hcw := HALL.out w1 ((Below.refl wr.heap.size wr).drew.trans hb1))
      all_goals
        have hb2 : Below wr.heap.size wr w1 := (Below.refl wr.heap.size wr).drew.trans (by assumption)
        have HB2 : Hid (Below w.heap.size w w1) := HB.out.trans (hb2.mono HB.out.size)
        clear hb2
        go_wp2
        · have hx : (!(marks k m).toList == markOf (k + m)) = true := by assumption
          rw [mark_same] at hx
          cases hx
        · go_roundw
          case rel => exact ⟨m + 1, by omega, by go_num, by go_num, HB2.out⟩
          case measure => simp [intOf]; omega
    · have HN : Hid (m = n) := show m = n by omega
      clear hb
      go_wp2
      go_ret
      exact ⟨ret_nat (by rw [HN.out]), HB.out⟩
end Go.Proofs.YtakifcobofkheabGreatDoor

/-
  A statement whose order is drawn and whose callees hand back new addresses: what follows it is walked once, for all of its orders.
-/
namespace Go.Proofs.YtakifcobofkheabGreatDoor
open Go.RowKit

theorem wp_cut1 {X : Type} (F : X → World → Prop) {P : Program} {c : Code} {K : Act → World → Prop} {Q : Exit → Act → World → Prop} {a : Act} {w : World} (A : X → Act)
    (leaf : (∀ x W, F x W → K (A x) W) → c.wp P (Exit.then K Q) a w) (k : ∀ x W, F x W → K (A x) W) : c.wp P (Exit.then K Q) a w := leaf k

theorem wp_cut2 {X Y : Type} (F : X → Y → World → Prop) {P : Program} {c : Code} {K : Act → World → Prop} {Q : Exit → Act → World → Prop} {a : Act} {w : World} (A : X → Y → Act)
    (leaf : (∀ x y W, F x y W → K (A x y) W) → c.wp P (Exit.then K Q) a w) (k : ∀ x y W, F x y W → K (A x y) W) : c.wp P (Exit.then K Q) a w := leaf k

theorem wp_cut3 {X Y Z : Type} (F : X → Y → Z → World → Prop) {P : Program} {c : Code} {K : Act → World → Prop} {Q : Exit → Act → World → Prop} {a : Act} {w : World} (A : X → Y → Z → Act)
    (leaf : (∀ x y z W, F x y z W → K (A x y z) W) → c.wp P (Exit.then K Q) a w) (k : ∀ x y z W, F x y z W → K (A x y z) W) : c.wp P (Exit.then K Q) a w := leaf k

/-- A statement is walked at a world of which no more is said than this. -/
theorem wp_world {P : Program} {c : Code} {Q : Exit → Act → World → Prop} {a : Act} {F : World → Prop} {w : World} (h : F w) (g : ∀ W, F W → c.wp P Q a W) : c.wp P Q a w := g w h

/-- .. whatever follows it. -/
theorem wp_cutq1 {X : Type} (F : X → World → Prop) {P : Program} {c : Code} {Q : Exit → Act → World → Prop} {a : Act} {w : World} (A : X → Act)
    (leaf : (∀ x W, F x W → Q .normal (A x) W) → c.wp P Q a w) (k : ∀ x W, F x W → Q .normal (A x) W) : c.wp P Q a w := leaf k

theorem wp_cutq2 {X Y : Type} (F : X → Y → World → Prop) {P : Program} {c : Code} {Q : Exit → Act → World → Prop} {a : Act} {w : World} (A : X → Y → Act)
    (leaf : (∀ x y W, F x y W → Q .normal (A x y) W) → c.wp P Q a w) (k : ∀ x y W, F x y W → Q .normal (A x y) W) : c.wp P Q a w := leaf k
end Go.Proofs.YtakifcobofkheabGreatDoor

/-
  A statement whose order is drawn and whose last operation waits for all others: that one is cut off, and walked behind them. Plain laws.
-/
namespace Go.Proofs.YtakifcobofkheabGreatDoor
open Go.RowKit

section
variable {P : Program} {md : Region.Mode} {Q : Exit → Act → World → Prop}

/-- What is asked ahead of the last operation. -/
def Peel (P : Program) (o : Oper) (Q : Exit → Act → World → Prop) : Exit → Act → World → Prop
  | .normal, a, w => o.wp P a w (fun a' w' => Q .normal a' w') Q
  | e, a, w => Q e a w

/-- All others come ahead of the last one, and none has a guard. -/
def peelOk (md : Region.Mode) (ops : Array Oper) (o : Oper) : Bool :=
  o.guard.isNone && (o.after.all fun e => !Region.binds md e || decide (e.on < ops.size)) && (List.range ops.size).all fun j =>
    (match ops[j]? with | some oj => oj.guard.isNone && oj.after.all (fun e => !Region.binds md e || decide (e.on < j)) | none => false) &&
    ((o.after.any fun e => Region.binds md e && e.on == j) || (List.range ops.size).any fun k => decide (j < k) && (match ops[k]? with | some ok => ok.after.any (fun e => Region.binds md e && e.on == j) | none => false))

structure PeelOk (md : Region.Mode) (ops : Array Oper) (o : Oper) : Prop where
  og : o.guard = none
  oa : ∀ e ∈ o.after, Region.binds md e = true → e.on < ops.size
  gs : ∀ (j : Nat) (oj : Oper), ops[j]? = some oj → oj.guard = none
  lt : ∀ (j : Nat) (oj : Oper), ops[j]? = some oj → ∀ e ∈ oj.after, Region.binds md e = true → e.on < j
  cov : ∀ j, j < ops.size → (∃ e ∈ o.after, Region.binds md e = true ∧ e.on = j) ∨ ∃ (k : Nat) (ok : Oper), j < k ∧ ops[k]? = some ok ∧ ∃ e ∈ ok.after, Region.binds md e = true ∧ e.on = j

theorem peelOk_spec {ops : Array Oper} {o : Oper} (h : peelOk md ops o = true) : PeelOk md ops o := by
  unfold peelOk at h
  simp only [Bool.and_eq_true, List.all_eq_true, List.mem_range] at h
  obtain ⟨⟨h1, h2⟩, h3⟩ := h
  have aux : ∀ (j : Nat) (oj : Oper), ops[j]? = some oj → oj.guard = none ∧ ∀ e ∈ oj.after, Region.binds md e = true → e.on < j := fun j oj hj => by
    have hlt : j < ops.size := (Array.getElem?_eq_some_iff.1 hj).1
    have := (h3 j hlt).1
    rw [hj] at this
    simp only [Bool.and_eq_true, Array.all_eq_true_iff_forall_mem, Bool.or_eq_true, Bool.not_eq_true', decide_eq_true_eq] at this
    exact ⟨by simpa using this.1, fun e he hb => (this.2 e he).resolve_left (by simp [hb])⟩
  refine ⟨by simpa using h1, fun e he hb => ?_, fun j oj hj => (aux j oj hj).1, fun j oj hj => (aux j oj hj).2, fun j hj => ?_⟩
  · simp only [Array.all_eq_true_iff_forall_mem, Bool.or_eq_true, Bool.not_eq_true', decide_eq_true_eq] at h2
    exact (h2 e he).resolve_left (by simp [hb])
  · have := (h3 j hj).2
    simp only [Bool.or_eq_true, Array.any_eq_true', Bool.and_eq_true, beq_iff_eq, List.any_eq_true, List.mem_range, decide_eq_true_eq] at this
    rcases this with ⟨e, he, hb, hon⟩ | ⟨k, hk, hjk, hm⟩
    · exact Or.inl ⟨e, he, hb, hon⟩
    · cases hok : ops[k]? with
      | none => rw [hok] at hm; cases hm
      | some ok =>
        rw [hok] at hm
        simp only [Array.any_eq_true', Bool.and_eq_true, beq_iff_eq] at hm
        obtain ⟨e, he, hb, hon⟩ := hm
        exact Or.inr ⟨k, ok, hjk, hok, e, he, hb, hon⟩

/-- What has come up, has so behind what it waits for. -/
def ListedOk (md : Region.Mode) (ops : Array Oper) (listed : Array Bool) : Prop :=
  listed.size = ops.size ∧ ∀ (j : Nat) (oj : Oper), ops[j]? = some oj → listed.getD j false = true → ∀ e ∈ oj.after, Region.binds md e = true → listed.getD e.on false = true

theorem getD_both {l : Array Bool} {j : Nat} (hj : j < l.size) (b : Bool) : l.getD j b = l[j] := by simp [hj]

theorem listed_all {ops : Array Oper} {o : Oper} (h : PeelOk md ops o) {listed : Array Bool} (hv : ListedOk md ops listed) (ho : ∀ e ∈ o.after, Region.binds md e = true → listed.getD e.on false = true) : ∀ d j, j < ops.size → ops.size - j ≤ d → listed.getD j false = true
  | 0, j, hj, hd => by omega
  | d + 1, j, hj, hd => by
    rcases h.cov j hj with ⟨e, he, hb, rfl⟩ | ⟨k, ok, hjk, hok, e, he, hb, rfl⟩
    · exact ho e he hb
    · have hk : k < ops.size := (Array.getElem?_eq_some_iff.1 hok).1
      exact hv.2 k ok hok (listed_all h hv ho d k hk (by omega)) e he hb

theorem ready_nil_all {ops : Array Oper} {o : Oper} (h : PeelOk md ops o) {listed : Array Bool} (hv : ListedOk md ops listed) (hr : Region.ready md ops listed = []) : ∀ j, j < ops.size → listed.getD j false = true := by
  intro j
  induction j using Nat.strongRecOn with
  | _ j ih =>
    intro hj
    cases hb : listed.getD j false with
    | true => rfl
    | false =>
      exfalso
      have hjl : j < listed.size := by rw [hv.1]; exact hj
      have : j ∈ Region.ready md ops listed := mem_ready.2 ⟨by rw [getD_both hjl] at hb ⊢; exact hb, ops[j], by simp [hj], fun e he hbn => ih e.on (h.lt j ops[j] (by simp [hj]) e he hbn) (Nat.lt_trans (h.lt j ops[j] (by simp [hj]) e he hbn) hj)⟩
      rw [hr] at this
      cases this

theorem listed_push {l : Array Bool} {j : Nat} (b : Bool) (hj : j < l.size) : (l.push false).getD j b = l.getD j b := by
  simp [Array.getElem_push, hj, Nat.lt_succ_of_lt hj]

theorem listed_push_last {l : Array Bool} (b : Bool) : (l.push false).getD l.size b = false := by simp

theorem wpOp_peel {ops : Array Oper} {o : Oper} (h : PeelOk md ops o) {i : Nat} (hi : i < ops.size) {K K' : Act → World → Prop} (hK : ∀ a w, K a w → K' a w) {a : Act} {w : World} (hh : wpOp P ops (Peel P o Q) i K a w) : wpOp P (ops.push o) Q i K' a w := by
  have e : (ops.push o)[i]? = ops[i]? := by rw [Array.getElem?_push]; simp [Nat.ne_of_lt hi]
  unfold wpOp at *
  rw [e]
  have hoi : ops[i]? = some ops[i] := by simp [hi]
  simp only [hoi] at hh ⊢
  have hg := h.gs i _ hoi
  have hw : ∀ y, Region.wanted ops[i] y = true := fun y => by simp [Region.wanted, hg]
  simp only [hw, if_true] at hh ⊢
  rcases hh with hh | ⟨h1, h2⟩
  · refine Or.inl ?_
    unfold Oper.wp at *
    generalize (execOp a.eval ops[i]).run P w = r at *
    cases r with
    | ok n w' =>
      cases n <;> simp only [Oper.upon] at hh ⊢
      case value v => exact hK _ _ hh
      case skip => exact hK _ _ hh
      case defer d => exact hK _ _ hh
      case enter f args =>
        refine Calls.mono hh fun e w'' he => ?_
        cases e with
        | returned u => exact hK _ _ he
        | panicked c => exact he
        | outgrown => exact he
      case row row args => exact Rows.mono hh fun u w'' he => hK _ _ he
    | halt x w' =>
      cases x <;> simp only [Oper.upon] at hh ⊢
      case panic u => exact hh
  · exact Or.inr ⟨h1, h2⟩

theorem wpAny_peel {ops : Array Oper} {o : Oper} (h : PeelOk md ops o) : ∀ (fuel : Nat) (listed : Array Bool) (a : Act) (w : World), ListedOk md ops listed → wpAny P md ops (Peel P o Q) fuel listed a w → wpAny P md (ops.push o) Q (fuel + 1) (listed.push false) a w := by
  intro fuel
  have lastOp : (ops.push o)[ops.size]? = some o := by simp
  have lastReady : ∀ listed, ListedOk md ops listed → Region.ready md ops listed = [] → ops.size ∈ Region.ready md (ops.push o) (listed.push false) := fun listed hv hr =>
    mem_ready.2 ⟨by rw [← hv.1]; exact listed_push_last _, o, lastOp, fun e he hb => by
      have := h.oa e he hb
      rw [listed_push _ (by rw [hv.1]; exact this)]
      exact ready_nil_all h hv hr e.on this⟩
  have readyOld : ∀ listed i, ListedOk md ops listed → i < ops.size → i ∈ Region.ready md (ops.push o) (listed.push false) → i ∈ Region.ready md ops listed := fun listed i hv hi hr => by
    rw [mem_ready] at hr ⊢
    obtain ⟨h0, oi, hoi, hall⟩ := hr
    rw [Array.getElem?_push] at hoi
    simp only [Nat.ne_of_lt hi, if_false] at hoi
    exact ⟨by rw [listed_push _ (by rw [hv.1]; exact hi)] at h0; exact h0, oi, hoi, fun e he hb => by
      have := h.lt i oi hoi e he hb
      rw [← hall e he hb, listed_push _ (by rw [hv.1]; omega)]⟩
  have doneLast : ∀ (f : Nat) listed a w, ListedOk md ops listed → Region.ready md ops listed = [] → Peel P o Q .normal a w → wpOp P (ops.push o) Q ops.size (wpAny P md (ops.push o) Q f ((listed.push false).setIfInBounds ops.size true)) a w := fun f listed a w hv hr hp => by
    unfold wpOp
    simp only [lastOp]
    have hw : Region.wanted o (yielded (ops.push o) a.tmps) = true := by simp [Region.wanted, h.og]
    simp only [hw, if_true]
    refine Or.inl (Oper.wp_mono (fun a' w' hq => wpAny_done ?_ hq f) hp)
    have hall := ready_nil_all h hv hr
    cases hrr : Region.ready md (ops.push o) ((listed.push false).setIfInBounds ops.size true) with
    | nil => rfl
    | cons x xs =>
      exfalso
      have hx : x ∈ Region.ready md (ops.push o) ((listed.push false).setIfInBounds ops.size true) := by rw [hrr]; simp
      obtain ⟨h0, ox, hox, _⟩ := mem_ready.1 hx
      have hxl : x < ops.size + 1 := by have := (Array.getElem?_eq_some_iff.1 hox).1; simpa using this
      have hsz := hv.1
      by_cases e : x = ops.size
      · subst e; simp [hsz] at h0
      · have hx' : x < ops.size := by omega
        rw [getD_set_ne true (Ne.symm e), listed_push _ (by omega)] at h0
        have := hall x hx'
        rw [getD_both (by omega)] at h0 this
        rw [h0] at this
        cases this
  have setPush : ∀ (listed : Array Bool) i, listed.size = ops.size → i < ops.size → (listed.push false).setIfInBounds i true = (listed.setIfInBounds i true).push false := fun listed i hs hi => by
    apply Array.ext_getElem?
    intro j
    by_cases e : j = i
    · subst e
      rw [Array.getElem?_push, Array.getElem?_setIfInBounds]
      simp [hs, Nat.ne_of_lt hi, hi, Nat.lt_succ_of_lt hi]
    · rw [Array.getElem?_push, Array.getElem?_setIfInBounds, if_neg (Ne.symm e), Array.getElem?_push, Array.size_setIfInBounds, Array.getElem?_setIfInBounds, if_neg (Ne.symm e)]
  have okSet : ∀ listed i, ListedOk md ops listed → i ∈ Region.ready md ops listed → ListedOk md ops (listed.setIfInBounds i true) := fun listed i hv hr => by
    obtain ⟨h0, oi, hoi, hall⟩ := mem_ready.1 hr
    refine ⟨by simpa using hv.1, fun j oj hj hl e he hb => ?_⟩
    by_cases ej : j = i
    · subst ej
      rw [hoi] at hj
      cases hj
      exact getD_set_true (hall e he hb)
    · rw [getD_set_ne false (Ne.symm ej)] at hl
      exact getD_set_true (hv.2 j oj hj hl e he hb)
  induction fuel with
  | zero =>
    intro listed a w hv hh
    obtain ⟨hr, hp⟩ := hh
    refine ⟨fun hn => ?_, fun i hi => ?_⟩
    · have := lastReady listed hv hr
      rw [hn] at this
      cases this
    · by_cases e : i = ops.size
      · subst e; exact doneLast 0 listed a w hv hr hp
      · have hlt : i < ops.size := by
          obtain ⟨_, oi, hoi, _⟩ := mem_ready.1 hi
          have := (Array.getElem?_eq_some_iff.1 hoi).1
          simp at this; omega
        have := readyOld listed i hv hlt hi
        rw [hr] at this
        cases this
  | succ fuel ih =>
    intro listed a w hv hh
    obtain ⟨hn, hstep⟩ := hh
    refine ⟨fun hnil => ?_, fun i hi => ?_⟩
    · exfalso
      cases hr : Region.ready md ops listed with
      | nil =>
        have := lastReady listed hv hr
        rw [hnil] at this
        cases this
      | cons x xs =>
        have hx : x ∈ Region.ready md ops listed := by rw [hr]; simp
        obtain ⟨h0, ox, hox, hall⟩ := mem_ready.1 hx
        have hxl : x < ops.size := (Array.getElem?_eq_some_iff.1 hox).1
        have : x ∈ Region.ready md (ops.push o) (listed.push false) := mem_ready.2 ⟨by rw [listed_push _ (by rw [hv.1]; exact hxl)]; exact h0, ox, by rw [Array.getElem?_push]; simp [Nat.ne_of_lt hxl, hox], fun e he hb => by
          have := h.lt x ox hox e he hb
          rw [listed_push _ (by rw [hv.1]; omega)]
          exact hall e he hb⟩
        rw [hnil] at this
        cases this
    · by_cases e : i = ops.size
      · subst e
        have hall : ∀ e ∈ o.after, Region.binds md e = true → listed.getD e.on false = true := fun e he hb => by
          obtain ⟨_, oi, hoi, hal⟩ := mem_ready.1 hi
          rw [lastOp] at hoi
          cases hoi
          rw [← hal e he hb, listed_push _ (by rw [hv.1]; exact h.oa e he hb)]
        have hr : Region.ready md ops listed = [] := by
          cases hrr : Region.ready md ops listed with
          | nil => rfl
          | cons x xs =>
            exfalso
            have hx : x ∈ Region.ready md ops listed := by rw [hrr]; simp
            obtain ⟨h0, ox, hox, _⟩ := mem_ready.1 hx
            have hxl : x < ops.size := (Array.getElem?_eq_some_iff.1 hox).1
            have := listed_all h hv hall ops.size x hxl (by omega)
            rw [getD_both (by rw [hv.1]; exact hxl)] at h0 this
            rw [h0] at this
            cases this
        exact doneLast (fuel + 1) listed a w hv hr (hn hr)
      · have hlt : i < ops.size := by
          obtain ⟨_, oi, hoi, _⟩ := mem_ready.1 hi
          have := (Array.getElem?_eq_some_iff.1 hoi).1
          simp at this; omega
        have hi' := readyOld listed i hv hlt hi
        refine wpOp_peel h hlt (fun a' w' hh => ?_) (hstep i hi')
        rw [setPush listed i hv.1 hlt]
        exact ih _ a' w' (okSet listed i hv hi') hh

theorem push_pop {ops : Array Oper} {o : Oper} (h : ops.back? = some o) : ops.pop.push o = ops := by
  rcases ops with ⟨l⟩
  rcases List.eq_nil_or_concat l with rfl | ⟨l', x, rfl⟩
  · simp at h
  · simp at h; subst h; simp

/-- The last operation is cut off; of the others a condition S on the world holds till they have all come up. -/
theorem wp_region_peel {id : Nat} {ops : Array Oper} {a : Act} {w : World} (S : World → Prop) (o : Oper) (hm : P.follows .mixedOrders = true) (hb : ops.back? = some o) (hok : peelOk .any ops.pop o = true)
    (hS : S w.drew) (h : S w.drew → wpAnyH P .any ops.pop (Peel P o Q) S ops.pop.size (Array.replicate ops.pop.size false) a w.drew) : (Code.region id ops true).wp P Q a w := by
  refine wp_region_any hm ?_
  have hp := push_pop hb
  have := wpAny_peel (Q := Q) (P := P) (peelOk_spec hok) ops.pop.size (Array.replicate ops.pop.size false) a w.drew ⟨by simp, fun j oj hj hl e he hbn => by
    rw [Array.getD_eq_getD_getElem?, Array.getElem?_replicate] at hl
    split at hl <;> cases hl⟩ (wpAny_of_held _ _ _ _ (h hS))
  have e1 : (Array.replicate ops.pop.size false).push false = Array.replicate ops.size false := by
    rw [← hp]; simp [Array.replicate_succ]
  have e2 : ops.pop.size + 1 = ops.size := by rw [← hp]; simp
  rw [hp, e1, e2] at this
  exact this

/-- Take number i first, where the last operation is cut off. -/
theorem peel_take {ops : Array Oper} {o : Oper} {S : World → Prop} {i : Nat} {oi : Oper} {v : Value} {fuel : Nat} {listed : Array Bool} {a : Act} {w : World} (hQ : ∀ c (a : Act) d v w, Q (.panic c) (a.put d v) w → Q (.panic c) a w) (hS : S w)
    (hi : ops[i]? = some oi) (hs : Region.noSelect ops = true) (hf : Region.free md ops listed i = true) (hr : (Region.ready md ops listed).contains i = true) (hw : Region.wanted oi (yielded ops a.tmps) = true) (hy : ∀ w, S w → (execOp a.eval oi).run P w = .ok (.value v) w)
    (h : wpAnyH P md ops (Peel P o Q) S fuel (listed.setIfInBounds i true) (a.put oi.dst v) w) : wpAnyH P md ops (Peel P o Q) S (fuel + 1) listed a w :=
  wpAnyH_take hi hs hf hr (fun c a w h => hQ c a _ _ w h) (Or.inl ⟨hw, hy⟩) hS h

/-- At a step of a drawn region: an append to a row of one's own. -/
theorem step_append_own (w : World) {ops : Array Oper} {o : Oper} {a : Act} {K : Act → World → Prop} {E : Prop} (hgd : o.guard = none) (s x : Operand) (t : TypeId)
    (ho : o.op = .call { callee := .builtin .append, args := #[s, x], argTypes := #[t, t] })
    (base : Nat) (e : TypeId) (i : TypeInfo) (z : Value) (size bytes : Nat) (ht : P.underlying t = some (.slice e)) (hi : P.info? e = some i) (hz : i.zero = some z)
    (hsize : i.size = size) (hby : i.bytes = bytes) (hzs : z.cells.size = size) (hsz : 0 < size)
    (v : Value) (n : Nat) (xs : List Value) (hs : a.eval s = v) (hown : w.ownsRow base e size v n xs)
    (ad : Addr) (m c : Nat) (news : List Value) (hx : a.eval x = .slice (some ad) m c) (hl : news.length = m * size) (hnews : ∀ j u, news[j]? = some u → w.cell? (ad.add j) = some u) (h1 : ∀ u ∈ news, u.oneCell' = true)
    (h63 : n + m ≤ maxLen) (hbytes : (n + m) * bytes ≤ 140737488355328) (hbase : base ≤ w.heap.size)
    (h : ∀ v' w', w'.ownsRow base e size v' (n + m) (xs ++ news) → w.grownBy w' v.ownBlock → (v' = .slice none 0 0 ↔ v = .slice none 0 0 ∧ m = 0) → K (a.put o.dst v') w') :
    if Region.wanted o (yielded ops a.tmps) = true then Oper.wp P o a w K Q else E := by
  have hw : Region.wanted o (yielded ops a.tmps) = true := by simp [Region.wanted, hgd]
  rw [if_pos hw]
  exact wp_append_own w s x t ho base e i z size bytes ht hi hz hsize hby hzs hsz v n xs hs hown ad m c news hx hl hnews h1 h63 hbytes hbase h
end
end Go.Proofs.YtakifcobofkheabGreatDoor

/-
  A statement whose order is drawn, walked operation by operation: what is known of what has come up is kept by whatever comes next. Plain laws.
-/
namespace Go.Proofs.YtakifcobofkheabGreatDoor
open Go.RowKit
set_option linter.unusedVariables false

section
variable {P : Program} {md : Region.Mode} {Q : Exit → Act → World → Prop} {ops : Array Oper}

/-- One more has come up. -/
def lset (L : Nat → Bool) (i : Nat) : Nat → Bool := fun j => j == i || L j

theorem lset_same (L : Nat → Bool) (i : Nat) : lset L i i = true := by simp [lset]
theorem lset_ne (L : Nat → Bool) {i j : Nat} (h : j ≠ i) : lset L i j = L j := by simp [lset, h]

theorem count_set_true : ∀ (l : List Bool) (i : Nat), l[i]? = some false → (l.set i true).count false + 1 = l.count false
  | [], i, h => by simp at h
  | b :: l, 0, h => by simp at h; subst h; simp
  | b :: l, i + 1, h => by
    have := count_set_true l i (by simpa using h)
    cases b <;> simp <;> omega

theorem ready_listed {listed : Array Bool} {i : Nat} (h : i ∈ Region.ready md ops listed) : listed.toList[i]? = some false := by
  obtain ⟨h0, _⟩ := mem_ready.1 h
  rcases Nat.lt_or_ge i listed.size with hi | hi
  · rw [getD_both hi] at h0
    simp [hi, h0]
  · simp [Array.getD, Nat.not_lt.2 hi] at h0

theorem wpAny_inv (hlt : ∀ (j : Nat) (oj : Oper), ops[j]? = some oj → ∀ e ∈ oj.after, Region.binds md e = true → e.on < j) (I : (Nat → Bool) → Act → World → Prop)
    (step : ∀ (i : Nat) (o : Oper), ops[i]? = some o → ∀ L a w, L i = false → (∀ e ∈ o.after, Region.binds md e = true → L e.on = true) → I L a w → ∀ K : Act → World → Prop, (∀ a' w', I (lset L i) a' w' → K a' w') →
      if Region.wanted o (yielded ops a.tmps) = true then Oper.wp P o a w K Q else K (a.put o.dst undef) w)
    (fin : ∀ L a w, (∀ i, i < ops.size → L i = true) → I L a w → Q .normal a w) :
    ∀ (fuel : Nat) (listed : Array Bool) (a : Act) (w : World), listed.size = ops.size → listed.toList.count false ≤ fuel → I (fun j => listed.getD j false) a w → wpAny P md ops Q fuel listed a w := by
  have hfin : ∀ (listed : Array Bool) (a : Act) (w : World), listed.size = ops.size → I (fun j => listed.getD j false) a w → Region.ready md ops listed = [] → Q .normal a w := fun listed a w hs hI hr => by
    refine fin _ a w ?_ hI
    intro j
    induction j using Nat.strongRecOn with
    | _ j ih =>
      intro hj
      show listed.getD j false = true
      cases hb : listed.getD j false with
      | true => rfl
      | false =>
        exfalso
        have hjl : j < listed.size := by rw [hs]; exact hj
        have : j ∈ Region.ready md ops listed := mem_ready.2 ⟨by rw [getD_both hjl] at hb ⊢; exact hb, ops[j], by simp [hj], fun e he hbn => ih e.on (hlt j ops[j] (by simp [hj]) e he hbn) (Nat.lt_trans (hlt j ops[j] (by simp [hj]) e he hbn) hj)⟩
        rw [hr] at this
        cases this
  intro fuel
  induction fuel with
  | zero =>
    intro listed a w hs hc hI
    have hr : Region.ready md ops listed = [] := by
      rw [List.eq_nil_iff_forall_not_mem]
      intro i hi
      have h1 := List.mem_of_getElem? (ready_listed hi)
      have h2 := List.count_pos_iff.2 h1
      omega
    exact ⟨hr, hfin listed a w hs hI hr⟩
  | succ fuel ih =>
    intro listed a w hs hc hI
    refine ⟨hfin listed a w hs hI, fun i hi => ?_⟩
    obtain ⟨h0, o, ho, hall⟩ := mem_ready.1 hi
    have hil : i < ops.size := (Array.getElem?_eq_some_iff.1 ho).1
    have hill : i < listed.size := by omega
    have h0' : listed.getD i false = false := by rw [getD_both hill] at h0 ⊢; exact h0
    have hst := step i o ho (fun j => listed.getD j false) a w h0' hall hI (wpAny P md ops Q fuel (listed.setIfInBounds i true)) (fun a' w' hI' => ih _ a' w' (by simp [hs]) (by
      have := count_set_true listed.toList i (ready_listed hi)
      rw [Array.toList_setIfInBounds]
      omega) (by
      have e : (fun j => (listed.setIfInBounds i true).getD j false) = lset (fun j => listed.getD j false) i := by
        funext j
        by_cases hj : j = i
        · subst hj; rw [lset_same]; simp [hill]
        · rw [lset_ne _ hj]; simp [Ne.symm hj]
      rw [e]; exact hI'))
    unfold wpOp
    simp only [ho]
    split
    · rename_i hw; rw [if_pos hw] at hst; exact Or.inl hst
    · rename_i hw; rw [if_neg hw] at hst; exact hst
theorem wpAnyH_inv {S : World → Prop} (hlt : ∀ (j : Nat) (oj : Oper), ops[j]? = some oj → ∀ e ∈ oj.after, Region.binds md e = true → e.on < j) (I : (Nat → Bool) → Act → World → Prop)
    (hS : ∀ L a w, I L a w → S w)
    (step : ∀ (i : Nat) (o : Oper), ops[i]? = some o → ∀ L a w, L i = false → (∀ e ∈ o.after, Region.binds md e = true → L e.on = true) → I L a w → ∀ K : Act → World → Prop, (∀ a' w', I (lset L i) a' w' → K a' w') →
      if Region.wanted o (yielded ops a.tmps) = true then Oper.wp P o a w K Q else K (a.put o.dst undef) w)
    (fin : ∀ L a w, (∀ i, i < ops.size → L i = true) → I L a w → Q .normal a w) :
    ∀ (fuel : Nat) (listed : Array Bool) (a : Act) (w : World), listed.size = ops.size → listed.toList.count false ≤ fuel → I (fun j => listed.getD j false) a w → wpAnyH P md ops Q S fuel listed a w := by
  have hfin : ∀ (listed : Array Bool) (a : Act) (w : World), listed.size = ops.size → I (fun j => listed.getD j false) a w → Region.ready md ops listed = [] → Q .normal a w := fun listed a w hs hI hr => by
    refine fin _ a w ?_ hI
    intro j
    induction j using Nat.strongRecOn with
    | _ j ih =>
      intro hj
      show listed.getD j false = true
      cases hb : listed.getD j false with
      | true => rfl
      | false =>
        exfalso
        have hjl : j < listed.size := by rw [hs]; exact hj
        have : j ∈ Region.ready md ops listed := mem_ready.2 ⟨by rw [getD_both hjl] at hb ⊢; exact hb, ops[j], by simp [hj], fun e he hbn => ih e.on (hlt j ops[j] (by simp [hj]) e he hbn) (Nat.lt_trans (hlt j ops[j] (by simp [hj]) e he hbn) hj)⟩
        rw [hr] at this
        cases this
  intro fuel
  induction fuel with
  | zero =>
    intro listed a w hs hc hI
    have hr : Region.ready md ops listed = [] := by
      rw [List.eq_nil_iff_forall_not_mem]
      intro i hi
      have h1 := List.mem_of_getElem? (ready_listed hi)
      have h2 := List.count_pos_iff.2 h1
      omega
    exact ⟨hr, hfin listed a w hs hI hr⟩
  | succ fuel ih =>
    intro listed a w hs hc hI
    refine ⟨hfin listed a w hs hI, fun i hi => ?_⟩
    obtain ⟨h0, o, ho, hall⟩ := mem_ready.1 hi
    have hil : i < ops.size := (Array.getElem?_eq_some_iff.1 ho).1
    have hill : i < listed.size := by omega
    have h0' : listed.getD i false = false := by rw [getD_both hill] at h0 ⊢; exact h0
    have hst := step i o ho (fun j => listed.getD j false) a w h0' hall hI (fun a' w' => S w' ∧ wpAnyH P md ops Q S fuel (listed.setIfInBounds i true) a' w') (fun a' w' hI' => ⟨hS _ _ _ hI', ih _ a' w' (by simp [hs]) (by
      have := count_set_true listed.toList i (ready_listed hi)
      rw [Array.toList_setIfInBounds]
      omega) (by
      have e : (fun j => (listed.setIfInBounds i true).getD j false) = lset (fun j => listed.getD j false) i := by
        funext j
        by_cases hj : j = i
        · subst hj; rw [lset_same]; simp [hill]
        · rw [lset_ne _ hj]; simp [Ne.symm hj]
      rw [e]; exact hI')⟩)
    unfold wpOp
    simp only [ho]
    split
    · rename_i hw; rw [if_pos hw] at hst; exact Or.inl hst
    · rename_i hw; rw [if_neg hw] at hst; exact hst
end

/-- The places ds of a frame hold these values. -/
def upd (a : Act) (ds : List Nat) (v : Nat → Value) : Act := { a with tmps := ds.foldl (fun t d => t.setIfInBounds d (v d)) a.tmps }

theorem upd_size (ds : List Nat) (v : Nat → Value) : ∀ t : Array Value, (ds.foldl (fun t d => t.setIfInBounds d (v d)) t).size = t.size := by
  induction ds with
  | nil => intro t; rfl
  | cons d ds ih => intro t; rw [List.foldl_cons, ih]; simp

theorem upd_get (ds : List Nat) (v : Nat → Value) : ∀ (t : Array Value) (j : Nat), (ds.foldl (fun t d => t.setIfInBounds d (v d)) t)[j]? = if j ∈ ds ∧ j < t.size then some (v j) else t[j]? := by
  induction ds with
  | nil => intro t j; simp
  | cons d ds ih =>
    intro t j
    rw [List.foldl_cons, ih, Array.size_setIfInBounds, Array.getElem?_setIfInBounds]
    by_cases hj : j < t.size
    · by_cases h1 : j ∈ ds
      · simp [h1, hj]
      · by_cases h2 : j = d
        · subst h2; simp [h1, hj]
        · simp [h1, h2, Ne.symm h2]
    · have hn : t[j]? = none := Array.getElem?_eq_none (by omega)
      by_cases h2 : d = j
      · subst h2; simp [hj]
      · simp [hj, h2]

/-- One of them is put. -/
def vset (v : Nat → Value) (d : Nat) (x : Value) : Nat → Value := fun j => if j = d then x else v j

theorem vset_same (v : Nat → Value) (d : Nat) (x : Value) : vset v d x d = x := by simp [vset]
theorem vset_ne (v : Nat → Value) {d j : Nat} (x : Value) (h : j ≠ d) : vset v d x j = v j := by simp [vset, h]

theorem upd_put (a : Act) (ds : List Nat) (v : Nat → Value) (d : Nat) (x : Value) (hd : d ∈ ds) : (upd a ds v).put (some d) x = upd a ds (vset v d x) := by
  unfold upd Act.put
  simp only [Act.mk.injEq, and_true]
  apply Array.ext_getElem?
  intro j
  rw [Array.getElem?_setIfInBounds, upd_get, upd_get, upd_size]
  by_cases hj : j < a.tmps.size
  · by_cases h : d = j
    · subst h; simp [hj, hd, vset]
    · simp [h, Ne.symm h, vset]
  · have hn : a.tmps[j]? = none := Array.getElem?_eq_none (by omega)
    by_cases h : d = j
    · subst h; simp [hj]
    · simp [hj, h]

theorem upd_eval_in (a : Act) (ds : List Nat) (v : Nat → Value) (t : Nat) (ht : t ∈ ds) (hs : t < a.tmps.size) : (upd a ds v).eval (.tmp t) = v t := by
  have := upd_get ds v a.tmps t
  rw [if_pos ⟨ht, hs⟩] at this
  unfold upd Act.eval
  simp [Array.getD_eq_getD_getElem?, this]

theorem upd_eval_out (a : Act) (ds : List Nat) (v : Nat → Value) (t : Nat) (ht : t ∉ ds) : (upd a ds v).eval (.tmp t) = a.eval (.tmp t) := by
  have := upd_get ds v a.tmps t
  rw [if_neg (fun h => ht h.1)] at this
  unfold upd Act.eval
  simp only [Array.getD_eq_getD_getElem?]
  rw [this]

theorem upd_self (a : Act) (ds : List Nat) : upd a ds (fun j => a.tmps.getD j undef) = a := by
  unfold upd
  cases a with | mk t d => ?_
  simp only [Act.mk.injEq, and_true]
  apply Array.ext_getElem?
  intro j
  rw [upd_get]
  split
  · rename_i h; simp [h.2]
  · rfl

section
variable {P : Program} {Q : Exit → Act → World → Prop}

/-- Each operation of a list keeps what is known. -/
def StepsAll (P : Program) (ops : Array Oper) (Q : Exit → Act → World → Prop) (a0 : Act) (ds : List Nat) (J : (Nat → Bool) → (Nat → Value) → World → Prop) : List Oper → Nat → Prop
  | [], _ => True
  | o :: l, k => (∀ (L : Nat → Bool) (v : Nat → Value) (w : World), L k = false → (∀ e ∈ o.after.toList, Region.binds .any e = true → L e.on = true) → J L v w → ∀ K : Act → World → Prop,
      (∀ a' v' w', a' = upd a0 ds v' → J (lset L k) v' w' → K a' w') → if Region.wanted o (yielded ops (upd a0 ds v).tmps) = true then Oper.wp P o (upd a0 ds v) w K Q else K ((upd a0 ds v).put o.dst undef) w) ∧ StepsAll P ops Q a0 ds J l (k + 1)

theorem StepsAll.get {ops : Array Oper} {a0 : Act} {ds : List Nat} {J : (Nat → Bool) → (Nat → Value) → World → Prop} : ∀ {l : List Oper} {k : Nat}, StepsAll P ops Q a0 ds J l k → ∀ (i : Nat) (o : Oper), l[i]? = some o →
    (∀ (L : Nat → Bool) (v : Nat → Value) (w : World), L (k + i) = false → (∀ e ∈ o.after.toList, Region.binds .any e = true → L e.on = true) → J L v w → ∀ K : Act → World → Prop,
      (∀ a' v' w', a' = upd a0 ds v' → J (lset L (k + i)) v' w' → K a' w') → if Region.wanted o (yielded ops (upd a0 ds v).tmps) = true then Oper.wp P o (upd a0 ds v) w K Q else K ((upd a0 ds v).put o.dst undef) w)
  | [], _, _, i, o, h => by simp at h
  | o' :: l, k, hs, 0, o, h => by simp at h; subst h; exact hs.1
  | o' :: l, k, hs, i + 1, o, h => by
    have := hs.2.get i o (by simpa using h)
    rw [show k + 1 + i = k + (i + 1) by omega] at this
    exact this

/-- Every operation waits for earlier ones alone. -/
def laterB (ops : Array Oper) : Bool := (List.range ops.size).all fun j => match ops[j]? with | some oj => oj.after.all (fun e => !Region.binds .any e || decide (e.on < j)) | none => true

theorem laterB_spec {ops : Array Oper} (h : laterB ops = true) : ∀ (j : Nat) (oj : Oper), ops[j]? = some oj → ∀ e ∈ oj.after, Region.binds .any e = true → e.on < j := fun j oj hj e he hb => by
  have hlt : j < ops.size := (Array.getElem?_eq_some_iff.1 hj).1
  unfold laterB at h
  have := List.all_eq_true.1 h j (by simpa using hlt)
  rw [hj] at this
  simp only [Array.all_eq_true_iff_forall_mem, Bool.or_eq_true, Bool.not_eq_true', decide_eq_true_eq] at this
  exact (this e he).resolve_left (by simp [hb])

theorem wp_region_inv {id : Nat} {l : List Oper} {a0 : Act} {w : World} (ds : List Nat) (J : (Nat → Bool) → (Nat → Value) → World → Prop) (hm : P.follows .mixedOrders = true) (hB : laterB l.toArray = true)
    (h0 : ∀ v, J (fun _ => false) v w.drew) (hs : StepsAll P l.toArray Q a0 ds J l 0) (fin : ∀ L v w', (∀ i, i < l.length → L i = true) → J L v w' → Q .normal (upd a0 ds v) w') : (Code.region id l.toArray true).wp P Q a0 w := by
  refine wp_region_any hm ?_
  refine wpAny_inv (laterB_spec hB) (fun L a w' => ∃ v, a = upd a0 ds v ∧ J L v w') ?_ ?_ _ _ _ _ (by simp) (by simp) ⟨fun j => a0.tmps.getD j undef, (upd_self a0 ds).symm, ?_⟩
  · rintro i o ho L a w' hi hd ⟨v, rfl, hJ⟩ K hK
    have := hs.get i o (by simpa using ho) L v w' (by simpa using hi) (fun e he hb => hd e (by simpa using he) hb) hJ K (fun a' v' w'' e h => hK a' w'' ⟨v', e, by simpa using h⟩)
    exact this
  · rintro L a w' hL ⟨v, rfl, hJ⟩
    exact fin L v w' (fun i hi => hL i (by simpa using hi)) hJ
  · have e : (fun j => (Array.replicate l.toArray.size false).getD j false) = fun _ => false := by funext j; simp [Array.getD]
    rw [e]; exact h0 _

/-- .. behind operations that were taken first. -/
theorem wpAnyH_vals {S : World → Prop} {l : List Oper} {a0 : Act} {w : World} {fuel : Nat} {listed : Array Bool} (ds : List Nat) (J : (Nat → Bool) → (Nat → Value) → World → Prop) (hB : laterB l.toArray = true) (hn : listed.size = l.length) (hc : listed.toList.count false ≤ fuel)
    (h0 : ∀ v, J (fun j => listed.getD j false) v w) (hS : ∀ L v w, J L v w → S w) (hs : StepsAll P l.toArray Q a0 ds J l 0) (fin : ∀ L v w', (∀ i, i < l.length → L i = true) → J L v w' → Q .normal (upd a0 ds v) w') : wpAnyH P .any l.toArray Q S fuel listed a0 w := by
  refine wpAnyH_inv (laterB_spec hB) (fun L a w' => ∃ v, a = upd a0 ds v ∧ J L v w') (fun L a w' ⟨v, _, h⟩ => hS L v w' h) ?_ ?_ _ _ _ _ (by simpa using hn) hc ⟨fun j => a0.tmps.getD j undef, (upd_self a0 ds).symm, h0 _⟩
  · rintro i o ho L a w' hi hd ⟨v, rfl, hJ⟩ K hK
    have := hs.get i o (by simpa using ho) L v w' (by simpa using hi) (fun e he hb => hd e (by simpa using he) hb) hJ K (fun a' v' w'' e h => hK a' w'' ⟨v', e, by simpa using h⟩)
    exact this
  · rintro L a w' hL ⟨v, rfl, hJ⟩
    exact fin L v w' (fun i hi => hL i (by simpa using hi)) hJ

/-- The places of a frame that hold rows: each with the operation that makes the row, and the one that takes it. -/
def liveAt (keys : List (Nat × Nat × Nat)) (L : Nat → Bool) (d : Nat) : Prop := ∃ j c, (d, j, c) ∈ keys ∧ L j = true ∧ L c = false
end
end Go.Proofs.YtakifcobofkheabGreatDoor

/-
  Lists of texts in a row of one's own: what an append to one leaves.
-/
namespace Go.Proofs.YtakifcobofkheabGreatDoor
open Go.RowKit
set_option linter.unusedVariables false

theorem new_block (w : World) (o : Obj) : (w.alloc o).heap[w.heap.size]? = some o := by
  show (w.heap.push o)[w.heap.size]? = some o
  simp

theorem grown_trans {a b c : World} {r : Option Nat} (h : a.grownBy b r) (k : b.grownBy c r) : a.grownBy c r :=
  ⟨k.os.trans h.os, k.tape.trans h.tape, k.output.trans h.output, Nat.le_trans h.size k.size, fun i hi hne => (k.block i (Nat.lt_of_lt_of_le hi h.size) hne).trans (h.block i hi hne)⟩

theorem grown_refl (a : World) (r : Option Nat) : a.grownBy a r := ⟨rfl, rfl, rfl, Nat.le_refl _, fun _ _ _ => rfl⟩

/-- A step that turns a row made since. -/
theorem grown_own {a b c : World} {r row : Option Nat} (h : a.grownBy b r) (k : b.grownBy c row) (hr : ∀ g, row = some g → a.heap.size ≤ g) : a.grownBy c r :=
  ⟨k.os.trans h.os, k.tape.trans h.tape, k.output.trans h.output, Nat.le_trans h.size k.size, fun i hi hne => (k.block i (Nat.lt_of_lt_of_le hi h.size) (fun e => by have := hr i e.symm; omega)).trans (h.block i hi hne)⟩

/-- A list of texts, as cells. -/
def strv (L : List ByteArray) : List Value := L.map Value.string
theorem strv_length (L : List ByteArray) : (strv L).length = L.length := by simp [strv]
theorem strv_append (L M : List ByteArray) : strv L ++ strv M = strv (L ++ M) := by simp [strv]
theorem strv_one (L : List ByteArray) : ∀ u ∈ strv L, u.oneCell' = true := by
  intro u hu
  simp only [strv, List.mem_map] at hu
  obtain ⟨s, _, rfl⟩ := hu
  rfl

theorem strv_cells (w : World) (L : List ByteArray) : ∀ j u, (strv L)[j]? = some u → (w.alloc (.cells (strv L).toArray 9)).cell? ((⟨w.heap.size, 0, none⟩ : Addr).add j) = some u := by
  intro j u h
  rw [show (⟨w.heap.size, 0, none⟩ : Addr).add j = ⟨w.heap.size, 0 + j, none⟩ by unfold Addr.add; split <;> simp_all]
  simp only [World.cell?, new_block]
  simpa using h

theorem new_strs (w : World) (L : List ByteArray) : ∀ i, i < L.length → (w.alloc (.cells (strv L).toArray 9)).cell? ⟨w.heap.size, 0 + i, none⟩ = some (.string (L.getD i ByteArray.empty)) := by
  intro i hi
  simp only [World.cell?, new_block]
  simp [strv, hi]

theorem getD_size {L : List ByteArray} {k : Nat} (h : (L.all fun s => decide (s.size ≤ k)) = true) (i : Nat) : (L.getD i ByteArray.empty).size ≤ k := by
  by_cases hi : i < L.length
  · have := List.all_eq_true.1 h (L[i]) (List.getElem_mem hi)
    simp [hi]; simpa using this
  · simp [hi]

/-- The names of drawn trees. -/
def nmL : List ByteArray := [⟨#[97]⟩, ⟨#[98]⟩, ⟨#[99]⟩, ⟨#[101, 116, 99]⟩, ⟨#[104, 111, 109, 101]⟩, ⟨#[122, 122]⟩]
def Nm (s : ByteArray) : Prop := s ∈ nmL
theorem Nm.size {s : ByteArray} (h : Nm s) : s.size ≤ 4 := by
  have : (nmL.all fun s => decide (s.size ≤ 4)) = true := rfl
  simpa using List.all_eq_true.1 this s h

theorem grown_alloc (w : World) (o : Obj) (r : Option Nat) : w.grownBy (w.alloc o) r := World.grownBy_alloc w o r

theorem infoStr : (Tryz.prog.info? 9).map (fun i => (i.zero, i.size, i.bytes)) = some (some (.string ByteArray.empty), 1, 16) := by kernel_rfl

/-- A slice value that owns a list of texts. -/
def OwnsStrs (w : World) (B : Nat) (v : Value) (L : List ByteArray) : Prop := w.ownsRow B 9 1 v L.length (strv L) ∧ v ≠ .slice none 0 0

theorem OwnsStrs.block {w : World} {B : Nat} {v : Value} {L : List ByteArray} (h : OwnsStrs w B v L) : ∀ g, v.ownBlock = some g → B ≤ g := by
  intro g hg
  rcases h.1.2 with ⟨rfl, _⟩ | ⟨g', cap, cur, rfl, hb, _⟩
  · simp [Value.ownBlock] at hg
  · simp [Value.ownBlock] at hg; omega

theorem OwnsStrs.grown {w w' : World} {B r : Nat} {v : Value} {L : List ByteArray} (h : OwnsStrs w B v L) (hg : w.grownBy w' (some r)) (hr : r < B) : OwnsStrs w' B v L :=
  ⟨World.ownsRow.kept h.1 hg (by
    cases hv : v.ownBlock with
    | none => exact Or.inl rfl
    | some g => exact Or.inr (fun e => by have := h.block g hv; simp at e; omega)), h.2⟩

/-- An empty row of its own. -/
theorem owns_empty (w : World) : OwnsStrs (w.alloc (.cells #[] 9)) w.heap.size (.slice (some ⟨w.heap.size, 0, none⟩) 0 0) [] :=
  ⟨⟨rfl, Or.inr ⟨w.heap.size, 0, #[], rfl, Nat.le_refl _, new_block _ _, Nat.le_refl _, by unfold maxLen; omega, rfl, rfl⟩⟩, by simp⟩

theorem OwnsStrs.alloc {w : World} {B : Nat} {v : Value} {L : List ByteArray} (h : OwnsStrs w B v L) (o : Obj) : OwnsStrs (w.alloc o) B v L := ⟨World.ownsRow.alloc h.1 o, h.2⟩

theorem all_snoc4 {L : List ByteArray} {k : Nat} (h : (L.all fun s => decide (s.size ≤ k)) = true) {s : ByteArray} (hs : s.size ≤ k) : ((L ++ [s]).all fun s => decide (s.size ≤ k)) = true := by
  rw [List.all_append, h]; simp [hs]

theorem all_weaken {L : List ByteArray} {k m : Nat} (h : (L.all fun s => decide (s.size ≤ k)) = true) (hkm : k ≤ m) : (L.all fun s => decide (s.size ≤ m)) = true := by
  rw [List.all_eq_true] at *
  intro s hs
  have := h s hs
  simp at this ⊢
  omega

theorem all_app {L M : List ByteArray} {k : Nat} (h : (L.all fun s => decide (s.size ≤ k)) = true) (h2 : (M.all fun s => decide (s.size ≤ k)) = true) : ((L ++ M).all fun s => decide (s.size ≤ k)) = true := by
  rw [List.all_append, h, h2]; rfl

theorem OwnsStrs.hands {w' : World} {B : Nat} {v : Value} {L : List ByteArray} (h : OwnsStrs w' B v L) : ∃ g cap, v = .slice (some ⟨g, 0, none⟩) L.length cap ∧ B ≤ g ∧ g < w'.heap.size ∧ (∀ i, i < L.length → w'.cell? ⟨g, 0 + i, none⟩ = some (.string (L.getD i ByteArray.empty))) ∧ L.length ≤ cap ∧ cap ≤ maxLen := by
  obtain ⟨⟨h1, h2⟩, hne⟩ := h
  rcases h2 with ⟨rfl, h0⟩ | ⟨g, cap, cur, rfl, hb, hblk, hn, hm, hsz, htake⟩
  · exact absurd rfl hne
  · have hglt : g < w'.heap.size := (Array.getElem?_eq_some_iff.1 hblk).1
    refine ⟨g, cap, rfl, hb, hglt, fun i hi => ?_, hn, hm⟩
    have hi2 : (strv L)[i]? = some (.string (L.getD i ByteArray.empty)) := by simp [strv, hi]
    rw [← htake, Nat.mul_one, List.getElem?_take_of_lt hi] at hi2
    simp only [World.cell?, hblk]
    simpa using hi2

theorem list_size {L : List ByteArray} {k : Nat} (h : (L.all fun s => decide (s.size ≤ k)) = true) : ∀ i, ((fun i => L.getD i ByteArray.empty) i).size ≤ k := fun i => getD_size h i

/-- What an append to a row of one's own leaves: nothing below it turns. -/
theorem own_append {w0 w w2 : World} {B : Nat} {v v' : Value} {L M : List ByteArray} {k : Nat} (hB : Below B w0 w) (hBw : B ≤ w.heap.size) (hO : OwnsStrs w B v L) (hk : L.length + M.length = k)
    (hown : w2.ownsRow B 9 1 v' k (strv L ++ strv M)) (hgrow : w.grownBy w2 v.ownBlock) (hnil : ¬ v' = .slice none 0 0) :
    OwnsStrs w2 B v' (L ++ M) ∧ Below B w0 w2 ∧ B ≤ w2.heap.size := by
  refine ⟨⟨?_, hnil⟩, hB.grown hgrow hBw hO.block, Nat.le_trans hBw hgrow.size⟩
  rw [List.length_append, hk, ← strv_append]
  exact hown


/-- An append to a row of one's own where a guard has let it by. -/
theorem wpList_append_ownW {P : Program} (w : World) {ops : Array Oper} {rest : List Oper} {o : Oper} {a : Act} {Q : Exit → Act → World → Prop} (hw : Region.wanted o (yielded ops a.tmps) = true) (s x : Operand) (t : TypeId)
    (ho : o.op = .call { callee := .builtin .append, args := #[s, x], argTypes := #[t, t] })
    (base : Nat) (e : TypeId) (i : TypeInfo) (z : Value) (size bytes : Nat) (ht : P.underlying t = some (.slice e)) (hi : P.info? e = some i) (hz : i.zero = some z)
    (hsize : i.size = size) (hby : i.bytes = bytes) (hzs : z.cells.size = size) (hsz : 0 < size)
    (v : Value) (n : Nat) (xs : List Value) (hs : a.eval s = v) (hown : w.ownsRow base e size v n xs)
    (ad : Addr) (m c : Nat) (news : List Value) (hx : a.eval x = .slice (some ad) m c) (hl : news.length = m * size) (hnews : ∀ j u, news[j]? = some u → w.cell? (ad.add j) = some u) (h1 : ∀ u ∈ news, u.oneCell' = true)
    (h63 : n + m ≤ maxLen) (hbytes : (n + m) * bytes ≤ 140737488355328) (hbase : base ≤ w.heap.size)
    (h : ∀ v' w', w'.ownsRow base e size v' (n + m) (xs ++ news) → w.grownBy w' v.ownBlock → (v' = .slice none 0 0 ↔ v = .slice none 0 0 ∧ m = 0) → wpList P ops Q rest (a.put o.dst v') w') : wpList P ops Q (o :: rest) a w :=
  wpList_step fun K hK => by
    rw [if_pos hw]
    exact wp_append_own w s x t ho base e i z size bytes ht hi hz hsize hby hzs hsz v n xs hs hown ad m c news hx hl hnews h1 h63 hbytes hbase fun v' w' h2 h3 h4 => hK _ _ (h v' w' h2 h3 h4)
end Go.Proofs.YtakifcobofkheabGreatDoor

/-
  A list of texts as cells: plain facts.
-/
namespace Go.Proofs.YtakifcobofkheabGreatDoor
open Go.RowKit
set_option linter.unusedVariables false

theorem take_cells {w : World} {g : Nat} {L : List ByteArray} (hc : ∀ i, i < L.length → w.cell? ⟨g, 0 + i, none⟩ = some (.string (L.getD i ByteArray.empty))) (k : Nat) :
    ∀ j u, (strv (L.take k))[j]? = some u → w.cell? ((⟨g, 0, none⟩ : Addr).add j) = some u := by
  intro j u h
  rw [show (⟨g, 0, none⟩ : Addr).add j = ⟨g, 0 + j, none⟩ by unfold Addr.add; split <;> simp_all]
  have hj : j < (strv (L.take k)).length := by
    by_cases hh : j < (strv (L.take k)).length
    · exact hh
    · rw [List.getElem?_eq_none (by omega)] at h; cases h
  rw [strv_length, List.length_take] at hj
  rw [hc j (by omega), ← h]
  simp [strv, List.getElem?_take_of_lt (show j < k by omega), show j < L.length by omega]

/-- The first n of a list, as a list. -/
def lst (n : Nat) (S : Nat → ByteArray) : List ByteArray := (List.range n).map S
theorem lst_length (n : Nat) (S : Nat → ByteArray) : (lst n S).length = n := by simp [lst]
theorem lst_getD (n : Nat) (S : Nat → ByteArray) (i : Nat) (h : i < n) : (lst n S).getD i ByteArray.empty = S i := by simp [lst, h]

/-- One list behind another. -/
def catS (n : Nat) (S T : Nat → ByteArray) : Nat → ByteArray := fun i => if i < n then S i else T (i - n)

theorem cat_getD (n m : Nat) (S T : Nat → ByteArray) (i : Nat) (h : i < n + m) : (lst n S ++ lst m T).getD i ByteArray.empty = catS n S T i := by
  unfold catS
  by_cases hi : i < n
  · simp [hi, lst, List.getElem?_append_left]
  · simp only [if_neg hi, List.getD_eq_getElem?_getD]
    rw [List.getElem?_append_right (by rw [lst_length]; omega), lst_length]
    simp [lst, show i - n < m by omega]

theorem IsStrs.congr {w : World} {a : Option Addr} {n : Nat} {S T : Nat → ByteArray} (h : IsStrs w a n S) (e : ∀ i, i < n → S i = T i) : IsStrs w a n T := by
  rcases h with h | ⟨b, off, ha, hlt, hc⟩
  · exact Or.inl h
  · exact Or.inr ⟨b, off, ha, hlt, fun i hi => by rw [hc i hi, e i hi]⟩

theorem lst_cells {w : World} {g n : Nat} {S : Nat → ByteArray} (hc : ∀ i, i < n → w.cell? ⟨g, 0 + i, none⟩ = some (.string (S i))) :
    ∀ j u, (strv (lst n S))[j]? = some u → w.cell? ((⟨g, 0, none⟩ : Addr).add j) = some u := by
  have := take_cells (w := w) (g := g) (L := lst n S) (fun i hi => by rw [lst_length] at hi; rw [hc i hi, lst_getD n S i hi]) n
  rw [List.take_of_length_le (by rw [lst_length]; exact Nat.le_refl _)] at this
  exact this

theorem strv_lst (n : Nat) (S : Nat → ByteArray) : (strv (lst n S)).length = n * 1 := by rw [strv_length, lst_length]; omega
end Go.Proofs.YtakifcobofkheabGreatDoor

/-
  Rows of one's own that a statement makes and appends to, in whatever order: each is as it is said, and no two share memory. Plain laws.
-/
namespace Go.Proofs.YtakifcobofkheabGreatDoor
open Go.RowKit
set_option linter.unusedVariables false

/-- What a list to be appended holds, and where it lies; it may be nil. -/
structure Src (W : World) (size : Nat) (x : Value) (m : Nat) (news : List Value) : Prop where
  len : news.length = m * size
  one : ∀ u ∈ news, u.oneCell' = true
  lies : (∃ c, x = .slice none 0 c ∧ m = 0) ∨ ∃ ad c, x = .slice (some ad) m c ∧ ∀ j u, news[j]? = some u → W.cell? (ad.add j) = some u

theorem run_append_none {P : Program} (w : World) (base : Nat) (t ty e : TypeId) (i : TypeInfo) (size : Nat) (ht : P.underlying t = some (.slice e)) (hi : P.info? e = some i)
    (v : Value) (n : Nat) (xs : List Value) (hown : w.ownsRow base e size v n xs) (c : Nat) :
    (Builtin.append_ #[t, t] ty #[v, .slice none 0 c]).run P w = .ok v w := by
  rcases hown.2 with ⟨rfl, rfl⟩ | ⟨g, cap, cur, rfl, _, _, hnc, _⟩
  · simp [Builtin.append_, run_underlying ht, sizeOf, typeInfo, hi, Builtin.lenOf, Builtin.firstCells]
  · simp [Builtin.append_, run_underlying ht, sizeOf, typeInfo, hi, Builtin.lenOf, Builtin.firstCells, hnc, storeCells]

theorem run_append_src {P : Program} (w : World) (base : Nat) (t ty e : TypeId) (i : TypeInfo) (z : Value) (size bytes : Nat) (ht : P.underlying t = some (.slice e)) (hi : P.info? e = some i) (hz : i.zero = some z)
    (hsize : i.size = size) (hby : i.bytes = bytes) (hzs : z.cells.size = size) (hsz : 0 < size)
    (v : Value) (n : Nat) (xs : List Value) (hown : w.ownsRow base e size v n xs) (x : Value) (m : Nat) (news : List Value) (hx : Src w size x m news)
    (h63 : n + m ≤ maxLen) (hbytes : (n + m) * bytes ≤ 140737488355328) (hbase : base ≤ w.heap.size) :
    ∃ v' w', (Builtin.append_ #[t, t] ty #[v, x]).run P w = .ok v' w' ∧ w'.ownsRow base e size v' (n + m) (xs ++ news) ∧ w.grownBy w' v.ownBlock ∧
      (v' = .slice none 0 0 ↔ v = .slice none 0 0 ∧ m = 0) ∧ (v'.ownBlock = v.ownBlock ∨ v'.ownBlock = some w.heap.size) := by
  rcases hx.lies with ⟨c, rfl, rfl⟩ | ⟨ad, c, rfl, hc⟩
  · have hn : news = [] := List.length_eq_zero_iff.1 (by have := hx.len; omega)
    subst hn
    exact ⟨v, w, run_append_none w base t ty e i size ht hi v n xs hown c, by simpa using hown, ⟨rfl, rfl, rfl, Nat.le_refl _, fun _ _ _ => rfl⟩, by simp, Or.inl rfl⟩
  · exact run_append_own_at w base t ty e i z size bytes ht hi hz hsize hby hzs hsz v n xs hown ad m c news hx.len hc hx.one h63 hbytes hbase

theorem wp_append_src {P : Program} {o : Oper} {a : Act} {w : World} {K : Act → World → Prop} {Q : Exit → Act → World → Prop} (s y : Operand) (t : TypeId)
    (ho : o.op = .call { callee := .builtin .append, args := #[s, y], argTypes := #[t, t] })
    (base : Nat) (e : TypeId) (i : TypeInfo) (z : Value) (size bytes : Nat) (ht : P.underlying t = some (.slice e)) (hi : P.info? e = some i) (hz : i.zero = some z)
    (hsize : i.size = size) (hby : i.bytes = bytes) (hzs : z.cells.size = size) (hsz : 0 < size)
    (v : Value) (n : Nat) (xs : List Value) (hs : a.eval s = v) (hown : w.ownsRow base e size v n xs) (x : Value) (m : Nat) (news : List Value) (hxe : a.eval y = x) (hx : Src w size x m news)
    (h63 : n + m ≤ maxLen) (hbytes : (n + m) * bytes ≤ 140737488355328) (hbase : base ≤ w.heap.size)
    (h : ∀ v' w', w'.ownsRow base e size v' (n + m) (xs ++ news) → w.grownBy w' v.ownBlock → (v' = .slice none 0 0 ↔ v = .slice none 0 0 ∧ m = 0) → (v'.ownBlock = v.ownBlock ∨ v'.ownBlock = some w.heap.size) → K (a.put o.dst v') w') : o.wp P a w K Q := by
  obtain ⟨v', w', hr, h2, h3, h4, h5⟩ := run_append_src (P := P) w base t o.type e i z size bytes ht hi hz hsize hby hzs hsz v n xs hown x m news hx h63 hbytes hbase
  unfold Oper.wp execOp
  simp only [ho, resolve, invoke, builtin, Sem.run_bind, Sem.run_pure, Result.andThen_ok, List.map_toArray, List.map_cons, List.map_nil, hs, hxe, hr]
  exact h v' w' h2 h3 h4 h5

theorem wpList_append_src {P : Program} {ops : Array Oper} {rest : List Oper} {o : Oper} {a : Act} {w : World} {Q : Exit → Act → World → Prop} (hgd : o.guard = none) (s y : Operand) (t : TypeId)
    (ho : o.op = .call { callee := .builtin .append, args := #[s, y], argTypes := #[t, t] })
    (base : Nat) (e : TypeId) (i : TypeInfo) (z : Value) (size bytes : Nat) (ht : P.underlying t = some (.slice e)) (hi : P.info? e = some i) (hz : i.zero = some z)
    (hsize : i.size = size) (hby : i.bytes = bytes) (hzs : z.cells.size = size) (hsz : 0 < size)
    (v : Value) (n : Nat) (xs : List Value) (hs : a.eval s = v) (hown : w.ownsRow base e size v n xs) (x : Value) (m : Nat) (news : List Value) (hxe : a.eval y = x) (hx : Src w size x m news)
    (h63 : n + m ≤ maxLen) (hbytes : (n + m) * bytes ≤ 140737488355328) (hbase : base ≤ w.heap.size)
    (h : ∀ v' w', w'.ownsRow base e size v' (n + m) (xs ++ news) → w.grownBy w' v.ownBlock → (v' = .slice none 0 0 ↔ v = .slice none 0 0 ∧ m = 0) → (v'.ownBlock = v.ownBlock ∨ v'.ownBlock = some w.heap.size) → wpList P ops Q rest (a.put o.dst v') w') : wpList P ops Q (o :: rest) a w :=
  wpList_plain hgd fun _ hK => wp_append_src s y t ho base e i z size bytes ht hi hz hsize hby hzs hsz v n xs hs hown x m news hxe hx h63 hbytes hbase fun v' w' h2 h3 h4 h5 => hK _ _ (h v' w' h2 h3 h4 h5)

/-- A row: of which elements, how wide, how many, which. -/
structure Rw where
  e : TypeId
  size : Nat
  n : Nat
  xs : List Value

/-- The places d that are live hold such rows, in blocks of their own. -/
structure Rws (B : Nat) (row : Nat → Rw) (live : Nat → Prop) (v : Nat → Value) (w : World) : Prop where
  own : ∀ d, live d → w.ownsRow B (row d).e (row d).size (v d) (row d).n (row d).xs ∧ ∃ b, (v d).ownBlock = some b
  apart : ∀ d d', live d → live d' → d ≠ d' → (v d).ownBlock ≠ (v d').ownBlock

theorem owns_block {w : World} {B : Nat} {e : TypeId} {size n : Nat} {xs : List Value} {v : Value} (h : w.ownsRow B e size v n xs) {b : Nat} (hb : v.ownBlock = some b) : B ≤ b ∧ b < w.heap.size := h.lt b hb

/-- A row comes to be: a new one, or a live one appended to. -/
theorem Rws.step {B : Nat} {row : Nat → Rw} {live live' : Nat → Prop} {v : Nat → Value} {w w' : World} (h : Rws B row live v w) {d : Nat} {x : Value} {r : Option Nat} (hg : w.grownBy w' r)
    (hr : ∀ d', live' d' → d' ≠ d → live d' ∧ (v d').ownBlock ≠ r) (hown : w'.ownsRow B (row d).e (row d).size x (row d).n (row d).xs) {b : Nat} (hx : x.ownBlock = some b) (hb : r = some b ∨ w.heap.size ≤ b) : Rws B row live' (vset v d x) w' := by
  have key : ∀ d', live' d' → d' ≠ d → (v d').ownBlock ≠ some b := fun d' h1 h2 e => by
    obtain ⟨h3, h4⟩ := hr d' h1 h2
    rcases hb with hb | hb
    · exact h4 (e.trans hb.symm)
    · have := (owns_block (h.own d' h3).1 e).2
      omega
  refine ⟨fun d' hl => ?_, fun d1 d2 h1 h2 hne => ?_⟩
  · by_cases e : d' = d
    · subst e; rw [vset_same]; exact ⟨hown, b, hx⟩
    · rw [vset_ne _ _ e]
      obtain ⟨h3, h4⟩ := hr d' hl e
      exact ⟨(h.own d' h3).1.kept hg (Or.inr h4), (h.own d' h3).2⟩
  · by_cases e1 : d1 = d
    · have e2 : d2 ≠ d := fun e => hne (e1.trans e.symm)
      subst e1
      rw [vset_same, vset_ne _ _ e2, hx]
      exact Ne.symm (key d2 h2 e2)
    · by_cases e2 : d2 = d
      · subst e2
        rw [vset_same, vset_ne _ _ e1, hx]
        exact key d1 h1 e1
      · rw [vset_ne _ _ e1, vset_ne _ _ e2]
        exact h.apart d1 d2 (hr d1 h1 e1).1 (hr d2 h2 e2).1 hne

/-- Nothing of the rows turns. -/
theorem Rws.same {B : Nat} {row : Nat → Rw} {live live' : Nat → Prop} {v v' : Nat → Value} {w w' : World} (h : Rws B row live v w) (hl : ∀ d, live' d → live d ∧ v' d = v d) (hw : ∀ d b, live' d → (v d).ownBlock = some b → w'.heap[b]? = w.heap[b]?) : Rws B row live' v' w' := by
  refine ⟨fun d hd => ?_, fun d1 d2 h1 h2 hne => ?_⟩
  · obtain ⟨h1, h2⟩ := hl d hd
    rw [h2]
    obtain ⟨⟨h3, h4⟩, b, h5⟩ := h.own d h1
    refine ⟨⟨h3, ?_⟩, b, h5⟩
    rcases h4 with h4 | ⟨g, cap, cur, hv, hB, hg, hr⟩
    · exact Or.inl h4
    · refine Or.inr ⟨g, cap, cur, hv, hB, ?_, hr⟩
      have : b = g := by rw [hv] at h5; simpa [Value.ownBlock] using h5.symm
      subst this
      exact (hw d b hd h5).trans hg
  · rw [(hl d1 h1).2, (hl d2 h2).2]
    exact h.apart d1 d2 (hl d1 h1).1 (hl d2 h2).1 hne

/-- A row of a literal. -/
theorem owns_lit {w : World} {B : Nat} (hB : B ≤ w.heap.size) (xs : List Value) (e : TypeId) (size n : Nat) (hl : xs.length = n * size) (hn : n ≤ maxLen) : (w.alloc (.cells xs.toArray e)).ownsRow B e size (.slice (some ⟨w.heap.size, 0, none⟩) n n) n xs :=
  ⟨hl, Or.inr ⟨w.heap.size, n, xs.toArray, rfl, hB, Go.Deep.blk_alloc_new _ _, Nat.le_refl _, hn, by simpa using hl, by rw [← hl]; simp⟩⟩

/-- A live row, as a source. -/
theorem owns_src {w : World} {B : Nat} {e : TypeId} {size n : Nat} {xs : List Value} {v : Value} (h : w.ownsRow B e size v n xs) (h1 : ∀ u ∈ xs, u.oneCell' = true) {b : Nat} (hb : v.ownBlock = some b) : Src w size v n xs :=
  ⟨h.1, h1, Or.inr (by
    rcases h.2 with ⟨h0, _⟩ | ⟨g, cap, cur, hv, _⟩
    · rw [h0] at hb; simp [Value.ownBlock] at hb
    · exact ⟨⟨g, 0, none⟩, cap, hv, h.cells (g := g) (by rw [hv]; rfl)⟩)⟩

theorem addr_add (b o j : Nat) : (⟨b, o, none⟩ : Addr).add j = ⟨b, o + j, none⟩ := by unfold Addr.add; split <;> simp_all

theorem IsStrs.src {W : World} {a : Option Addr} {n : Nat} {S : Nat → ByteArray} (h : IsStrs W a n S) (c : Nat) : Src W 1 (.slice a n c) n (strv (lst n S)) := by
  refine ⟨strv_lst n S, strv_one _, ?_⟩
  rcases h with h | ⟨b, off, rfl, hlt, hc⟩
  · subst h
    cases a with
    | none => exact Or.inl ⟨c, rfl, rfl⟩
    | some ad => exact Or.inr ⟨ad, c, rfl, fun j u hu => by simp [strv, lst] at hu⟩
  · refine Or.inr ⟨⟨b, off, none⟩, c, rfl, fun j u hu => ?_⟩
    have hj : j < n := by
      rcases Nat.lt_or_ge j n with e | e
      · exact e
      · rw [List.getElem?_eq_none (by have := strv_lst n S; omega)] at hu; cases hu
    rw [addr_add, hc j hj]
    simp [strv, lst, hj] at hu
    rw [hu]

theorem IsInts.src {W : World} {a : Option Addr} {n : Nat} {Z : Nat → Int} (h : IsInts W a n Z) (c : Nat) : Src W 1 (.slice a n c) n ((List.range n).map fun i => .int .i64 (Z i)) := by
  refine ⟨by simp, fun u hu => by obtain ⟨i, _, rfl⟩ := List.mem_map.1 hu; rfl, ?_⟩
  rcases h with h | ⟨b, off, rfl, hlt, hc⟩
  · subst h
    cases a with
    | none => exact Or.inl ⟨c, rfl, rfl⟩
    | some ad => exact Or.inr ⟨ad, c, rfl, fun j u hu => by simp at hu⟩
  · refine Or.inr ⟨⟨b, off, none⟩, c, rfl, fun j u hu => ?_⟩
    have hj : j < n := by
      rcases Nat.lt_or_ge j n with e | e
      · exact e
      · rw [List.getElem?_eq_none (by simpa using e)] at hu; cases hu
    rw [addr_add, hc j hj]
    simp [hj] at hu
    rw [hu]

theorem Src.of_cells {w w' : World} {size : Nat} {x : Value} {m : Nat} {news : List Value} (h : Src w size x m news) {B : Nat} (hb : Below B w w') (hx : ∀ ad n c, x = .slice (some ad) n c → ad.block < B) : Src w' size x m news :=
  ⟨h.len, h.one, h.lies.imp id fun ⟨ad, c, e, hc⟩ => ⟨ad, c, e, fun j u hu => by
    rw [hb.cell (p := ad.add j) (by
      have h1 := hx ad m c e
      have : (ad.add j).block = ad.block := by unfold Addr.add; split <;> rfl
      omega)]
    exact hc j u hu⟩⟩

/-- What is known within a statement: what was taken first, that nothing old turns, the rows, and values that hang on no memory. -/
structure RJ (taken : List Nat) (W : World) (row : Nat → Rw) (keys : List (Nat × Nat × Nat)) (plain : List (Nat × Nat × Value)) (L : Nat → Bool) (v : Nat → Value) (w : World) : Prop where
  taken : ∀ j ∈ taken, L j = true
  none : L 99 = false
  bel : Below W.heap.size W w
  rws : Rws W.heap.size row (liveAt keys L) v w
  plain : ∀ t ∈ plain, L t.1 = true → v t.2.1 = t.2.2

section
variable {taken : List Nat} {W : World} {row : Nat → Rw} {keys : List (Nat × Nat × Nat)} {plain : List (Nat × Nat × Value)} {L : Nat → Bool} {v : Nat → Value} {w w' : World}

theorem RJ.start (hb : Below W.heap.size W w) (ht : ∀ j ∈ taken, L j = true) (hn : L 99 = false) (hk : ∀ t ∈ keys, L t.2.1 = false) (hp : ∀ t ∈ plain, L t.1 = false) : RJ taken W row keys plain L v w :=
  ⟨ht, hn, hb, ⟨fun d ⟨j, c, h1, h2, h3⟩ => by have := hk _ h1; simp_all, fun d d' ⟨j, c, h1, h2, h3⟩ => by have := hk _ h1; simp_all⟩, fun t h1 h2 => by have := hp t h1; simp_all⟩

theorem lset_true {i j : Nat} (h : L j = true) : lset L i j = true := by simp [lset, h]
theorem lset_false {i j : Nat} (h : lset L i j = false) : L j = false ∧ j ≠ i := by simp [lset] at h; exact ⟨h.2, h.1⟩
theorem lset_cases {i j : Nat} (h : lset L i j = true) : j = i ∨ L j = true := by simpa [lset] using h

/-- A row comes to be. -/
theorem RJ.rowStep (h : RJ taken W row keys plain L v w) {k d : Nat} {x : Value} {r : Option Nat} (hg : w.grownBy w' r) (hbel : Below W.heap.size W w') (hk : ∀ t ∈ keys, t.2.1 = k → t.1 = d) (hp : ∀ t ∈ plain, t.1 ≠ k ∧ t.2.1 ≠ d) (h99 : 99 ≠ k)
    (hr : ∀ d', liveAt keys (lset L k) d' → d' ≠ d → (v d').ownBlock ≠ r) (hown : w'.ownsRow W.heap.size (row d).e (row d).size x (row d).n (row d).xs) {b : Nat} (hx : x.ownBlock = some b) (hb : r = some b ∨ w.heap.size ≤ b) : RJ taken W row keys plain (lset L k) (vset v d x) w' :=
  ⟨fun j hj => lset_true (h.taken j hj), by rw [lset_ne _ h99]; exact h.none, hbel, h.rws.step hg (fun d' hl hne => ⟨by
    obtain ⟨j, c, h1, h2, h3⟩ := hl
    have hj : j ≠ k := fun e => hne (hk _ h1 e)
    rw [lset_ne _ hj] at h2
    exact ⟨j, c, h1, h2, (lset_false h3).1⟩, hr d' hl hne⟩) hown hx hb, fun t h1 h2 => by
    obtain ⟨h3, h4⟩ := hp t h1
    rw [lset_ne _ h3] at h2
    rw [vset_ne _ _ h4]
    exact h.plain t h1 h2⟩

theorem RJ.gone (h : RJ taken W row keys plain L v w) {k : Nat} (hk : k ∈ taken) (h0 : L k = false) {A : Prop} : A := by
  have := h.taken k hk
  rw [h0] at this
  cases this

/-- A new row. -/
theorem RJ.make (h : RJ taken W row keys plain L v w) {k d : Nat} (hk : ∀ t ∈ keys, t.2.1 = k → t.1 = d) (hp : ∀ t ∈ plain, t.1 ≠ k ∧ t.2.1 ≠ d) (h99 : 99 ≠ k) {xs : List Value} {n : Nat} {e : TypeId} {size : Nat} (hrow : row d = ⟨e, size, n, xs⟩) (hl : xs.length = n * size) (hn : n ≤ maxLen) :
    RJ taken W row keys plain (lset L k) (vset v d (.slice (some ⟨w.heap.size, 0, .none⟩) n n)) (w.alloc (.cells xs.toArray e)) :=
  h.rowStep (r := .none) (b := w.heap.size) (World.grownBy_alloc w _ _) (h.bel.alloc h.bel.size _) hk hp h99 (fun d' ⟨j, c, h1, h2, h3⟩ hne => by
    have hj : j ≠ k := fun e => hne (hk _ h1 e)
    rw [lset_ne _ hj] at h2
    obtain ⟨b, hb⟩ := (h.rws.own d' ⟨j, c, h1, h2, (lset_false h3).1⟩).2
    rw [hb]; simp) (by rw [hrow]; exact owns_lit h.bel.size xs e size n hl hn) rfl (Or.inr (Nat.le_refl _))

/-- A row is appended to. -/
theorem RJ.app (h : RJ taken W row keys plain L v w) {k d s : Nat} {x : Value} (hs : liveAt keys L s) (hsk : ∀ t ∈ keys, t.1 = s → t.2.2 = k) (hg : w.grownBy w' (v s).ownBlock) (hk : ∀ t ∈ keys, t.2.1 = k → t.1 = d) (hp : ∀ t ∈ plain, t.1 ≠ k ∧ t.2.1 ≠ d) (h99 : 99 ≠ k)
    (hown : w'.ownsRow W.heap.size (row d).e (row d).size x (row d).n (row d).xs) (hat : x.ownBlock = (v s).ownBlock ∨ x.ownBlock = some w.heap.size) : RJ taken W row keys plain (lset L k) (vset v d x) w' := by
  obtain ⟨b, hb⟩ := (h.rws.own s hs).2
  have hlt := owns_block (h.rws.own s hs).1 hb
  have hbel : Below W.heap.size W w' := h.bel.grown hg h.bel.size (fun b' e => by rw [hb] at e; cases e; exact hlt.1)
  have hbx : ∃ b', x.ownBlock = some b' ∧ ((v s).ownBlock = some b' ∨ w.heap.size ≤ b') := by
    rcases hat with e | e
    · exact ⟨b, e.trans hb, Or.inl hb⟩
    · exact ⟨_, e, Or.inr (Nat.le_refl _)⟩
  obtain ⟨b', hb1, hb2⟩ := hbx
  exact h.rowStep hg hbel hk hp h99 (fun d' ⟨j, c, h1, h2, h3⟩ hne => by
    have hj : j ≠ k := fun e => hne (hk _ h1 e)
    rw [lset_ne _ hj] at h2
    obtain ⟨h4, h5⟩ := lset_false h3
    exact h.rws.apart d' s ⟨j, c, h1, h2, h4⟩ hs (fun e => h5 (hsk _ h1 e))) hown hb1 hb2

/-- A value that hangs on no memory. -/
theorem RJ.value (h : RJ taken W row keys plain L v w) {k d : Nat} {x : Value} (hk : ∀ t ∈ keys, t.2.1 ≠ k ∧ t.1 ≠ d) (h99 : 99 ≠ k) (hp : ∀ t ∈ plain, t.1 = k → t.2.1 = d ∧ t.2.2 = x) (hd : ∀ t ∈ plain, t.1 ≠ k → t.2.1 ≠ d) : RJ taken W row keys plain (lset L k) (vset v d x) w :=
  ⟨fun j hj => lset_true (h.taken j hj), by rw [lset_ne _ h99]; exact h.none, h.bel, h.rws.same (fun d' ⟨j, c, h1, h2, h3⟩ => by
    obtain ⟨h4, h5⟩ := hk _ h1
    rw [lset_ne _ h4] at h2
    exact ⟨⟨j, c, h1, h2, (lset_false h3).1⟩, vset_ne _ _ h5⟩) (fun _ _ _ _ => rfl), fun t h1 h2 => by
    by_cases e : t.1 = k
    · obtain ⟨h3, h4⟩ := hp t h1 e
      rw [h3, vset_same, h4]
    · rw [lset_ne _ e] at h2
      rw [vset_ne _ _ (hd t h1 e)]
      exact h.plain t h1 h2⟩
end

/-- A row of texts, as a list. -/
theorem ownsRow_strs {w : World} {B g c n : Nat} {T : List ByteArray} (h : w.ownsRow B 9 1 (.slice (some ⟨g, 0, none⟩) n c) n (strv T)) (hn : T.length = n) (hg : g < w.heap.size) : IsStrs w (some ⟨g, 0, none⟩) n (fun i => T.getD i ByteArray.empty) :=
  Or.inr ⟨g, 0, rfl, hg, fun i hi => by
    have := h.cells (g := g) rfl i (.string (T.getD i ByteArray.empty)) (by simp [strv, hn, hi])
    rwa [addr_add] at this⟩

/-- An operation's condition, kept shut. -/
structure OW (P : Program) (o : Oper) (a : Act) (w : World) (K : Act → World → Prop) (Q : Exit → Act → World → Prop) : Prop where
  out : Oper.wp P o a w K Q

/-- .. and what is asked at the end. -/
structure QN (Q : Exit → Act → World → Prop) (a : Act) (w : World) : Prop where
  out : Q .normal a w

/-- Each operation of a list keeps what is known; none has a guard. -/
def StepsP (P : Program) (Q : Exit → Act → World → Prop) (a0 : Act) (ds : List Nat) (J : (Nat → Bool) → (Nat → Value) → World → Prop) : List Oper → Nat → Prop
  | [], _ => True
  | o :: l, k => (∀ (L : Nat → Bool) (v : Nat → Value) (w : World), L k = false → (∀ e ∈ o.after.toList, Region.binds .any e = true → L e.on = true) → J L v w → ∀ K : Act → World → Prop,
      (∀ a' v' w', a' = upd a0 ds v' → J (lset L k) v' w' → K a' w') → OW P o (upd a0 ds v) w K Q) ∧ StepsP P Q a0 ds J l (k + 1)

theorem StepsP.all {P : Program} {ops : Array Oper} {Q : Exit → Act → World → Prop} {a0 : Act} {ds : List Nat} {J : (Nat → Bool) → (Nat → Value) → World → Prop} : ∀ {l : List Oper} {k : Nat}, (l.all fun o => o.guard.isNone) = true → StepsP P Q a0 ds J l k → StepsAll P ops Q a0 ds J l k
  | [], _, _, _ => trivial
  | o :: l, k, hg, h => by
    simp only [List.all_cons, Bool.and_eq_true] at hg
    refine ⟨fun L v w h0 hd hJ K hK => ?_, StepsP.all hg.2 h.2⟩
    have hw : Region.wanted o (yielded ops (upd a0 ds v).tmps) = true := by
      have : o.guard = none := by simpa using hg.1
      simp [Region.wanted, this]
    rw [if_pos hw]
    exact (h.1 L v w h0 hd hJ K hK).out

theorem wpAnyH_plain {P : Program} {Q : Exit → Act → World → Prop} {S : World → Prop} {l : List Oper} {a0 : Act} {w : World} {fuel : Nat} {listed : Array Bool} (ds : List Nat) (J : (Nat → Bool) → (Nat → Value) → World → Prop) (hB : laterB l.toArray = true) (hg : (l.all fun o => o.guard.isNone) = true) (hn : listed.size = l.length) (hc : listed.toList.count false ≤ fuel)
    (h0 : ∀ v, J (fun j => listed.getD j false) v w) (hS : ∀ L v w, J L v w → S w) (hs : StepsP P Q a0 ds J l 0) (fin : ∀ L v w', (∀ i, i < l.length → L i = true) → J L v w' → QN Q (upd a0 ds v) w') : wpAnyH P .any l.toArray Q S fuel listed a0 w :=
  wpAnyH_vals ds J hB hn hc h0 hS (StepsP.all hg hs) (fun L v w' h1 h2 => (fin L v w' h1 h2).out)

theorem listed_none (md : Region.Mode) (ops : Array Oper) : ListedOk md ops (Array.replicate ops.size false) := ⟨by simp, fun j oj hj hl e he hbn => by
    rw [Array.getD_eq_getD_getElem?, Array.getElem?_replicate] at hl
    split at hl <;> cases hl⟩

theorem wpAny_peel1 {P : Program} {Q : Exit → Act → World → Prop} {ops : Array Oper} {a : Act} {w : World} (o : Oper) (hb : ops.back? = some o) (hok : peelOk .any ops.pop o = true) (h : wpAny P .any ops.pop (Peel P o Q) ops.pop.size (Array.replicate ops.pop.size false) a w) : wpAny P .any ops Q ops.size (Array.replicate ops.size false) a w := by
  have hp := push_pop hb
  have := wpAny_peel (Q := Q) (P := P) (peelOk_spec hok) ops.pop.size (Array.replicate ops.pop.size false) a w (listed_none _ _) h
  have e1 : (Array.replicate ops.pop.size false).push false = Array.replicate ops.size false := by
    rw [← hp]; simp [Array.replicate_succ]
  have e2 : ops.pop.size + 1 = ops.size := by rw [← hp]; simp
  rw [hp, e1, e2] at this
  exact this

/-- The last three operations are cut off. -/
theorem wp_region_peel3 {P : Program} {Q : Exit → Act → World → Prop} {id : Nat} {ops : Array Oper} {a : Act} {w : World} (S : World → Prop) (o1 o2 o3 : Oper) (hm : P.follows .mixedOrders = true) (hb3 : ops.back? = some o3) (hb2 : ops.pop.back? = some o2) (hb1 : ops.pop.pop.back? = some o1)
    (hok3 : peelOk .any ops.pop o3 = true) (hok2 : peelOk .any ops.pop.pop o2 = true) (hok1 : peelOk .any ops.pop.pop.pop o1 = true)
    (hS : S w.drew) (h : S w.drew → wpAnyH P .any ops.pop.pop.pop (Peel P o1 (Peel P o2 (Peel P o3 Q))) S ops.pop.pop.pop.size (Array.replicate ops.pop.pop.pop.size false) a w.drew) : (Code.region id ops true).wp P Q a w :=
  wp_region_any hm (wpAny_peel1 o3 hb3 hok3 (wpAny_peel1 o2 hb2 hok2 (wpAny_peel1 o1 hb1 hok1 (wpAny_of_held _ _ _ _ (h hS)))))

/-- The last two. -/
theorem wp_region_peel2 {P : Program} {Q : Exit → Act → World → Prop} {id : Nat} {ops : Array Oper} {a : Act} {w : World} (S : World → Prop) (o2 o3 : Oper) (hm : P.follows .mixedOrders = true) (hb3 : ops.back? = some o3) (hb2 : ops.pop.back? = some o2)
    (hok3 : peelOk .any ops.pop o3 = true) (hok2 : peelOk .any ops.pop.pop o2 = true)
    (hS : S w.drew) (h : S w.drew → wpAnyH P .any ops.pop.pop (Peel P o2 (Peel P o3 Q)) S ops.pop.pop.size (Array.replicate ops.pop.pop.size false) a w.drew) : (Code.region id ops true).wp P Q a w :=
  wp_region_any hm (wpAny_peel1 o3 hb3 hok3 (wpAny_peel1 o2 hb2 hok2 (wpAny_of_held _ _ _ _ (h hS))))

theorem wpAnyH_act {P : Program} {md : Region.Mode} {ops : Array Oper} {Q : Exit → Act → World → Prop} {S : World → Prop} {fuel : Nat} {listed : Array Bool} {a : Act} {w : World} (h : ∀ a0, a0 = a → wpAnyH P md ops Q S fuel listed a0 w) : wpAnyH P md ops Q S fuel listed a w := h a rfl
end Go.Proofs.YtakifcobofkheabGreatDoor

/-
  Single operations of a statement, at a frame of which only so much is said.
-/
namespace Go.Proofs.YtakifcobofkheabGreatDoor
open Go.RowKit
set_option linter.unusedVariables false

theorem step_of {P : Program} {ops : Array Oper} {o : Oper} {a : Act} {w : World} {K : Act → World → Prop} {Q : Exit → Act → World → Prop} {E : Prop} (hgd : o.guard = none) (h : o.wp P a w K Q) : if Region.wanted o (yielded ops a.tmps) = true then Oper.wp P o a w K Q else E := by
  have hw : Region.wanted o (yielded ops a.tmps) = true := by simp [Region.wanted, hgd]
  rw [if_pos hw]; exact h

theorem eval_tmp {a : Act} {t : Nat} {v : Value} (h : a.eval (.tmp t) = v) : a.tmps[t]?.getD undef = v := by
  rw [← h]; unfold Act.eval; simp [Array.getD_eq_getD_getElem?]

section
variable {d : Nat} {ty : TypeId} {pos : String} {af : Array Edge} {gd : Option (Nat × Bool)} {a : Act} {w : World} {K : Act → World → Prop} {Q : Exit → Act → World → Prop}

theorem wp_strs0 (h : K (a.put (some d) (.slice (some ⟨w.heap.size, 0, none⟩) 0 0)) (w.alloc (.cells #[] 9))) : Oper.wp Tryz.prog ⟨some d, .buildSlice 23 0 #[], ty, pos, af, gd⟩ a w K Q := by
  go_simp
  exact h

theorem wp_strs1 {s : ByteArray} (h : K (a.put (some d) (.slice (some ⟨w.heap.size, 0, none⟩) 1 1)) (w.alloc (.cells #[.string s] 9))) : Oper.wp Tryz.prog ⟨some d, .buildSlice 23 1 #[(0, .const (.string s))], ty, pos, af, gd⟩ a w K Q := by
  go_simp
  exact h

theorem wp_ints0 (h : K (a.put (some d) (.slice (some ⟨w.heap.size, 0, none⟩) 0 0)) (w.alloc (.cells #[] 3))) : Oper.wp Tryz.prog ⟨some d, .buildSlice 26 0 #[], ty, pos, af, gd⟩ a w K Q := by
  go_simp
  exact h

theorem wp_ints1 {t : Nat} {z : Int} (hx : a.eval (.tmp t) = .int .i64 z) (h : K (a.put (some d) (.slice (some ⟨w.heap.size, 0, none⟩) 1 1)) (w.alloc (.cells #[.int .i64 z] 3))) : Oper.wp Tryz.prog ⟨some d, .buildSlice 26 1 #[(0, .tmp t)], ty, pos, af, gd⟩ a w K Q := by
  have hx' := eval_tmp hx
  go_simp
  exact h

theorem wp_node0 {t g n c : Nat} (hx : a.eval (.tmp t) = .slice (some ⟨g, 0, none⟩) n c) (hn : 0 < n) (h : K (a.put (some d) (.pointer (some ⟨g, 0, none⟩))) w) : Oper.wp Tryz.prog ⟨some d, .indexAddr 42 (.tmp t) (.const (.int .i64 0)), ty, pos, af, gd⟩ a w K Q := by
  have hx' := eval_tmp hx
  go_simp
  exact h

theorem wp_field2 {t g : Nat} (hx : a.eval (.tmp t) = .pointer (some ⟨g, 0, none⟩)) (h : K (a.put (some d) (.pointer (some ⟨g, 2, none⟩))) w) : Oper.wp Tryz.prog ⟨some d, .fieldAddr 28 (.tmp t) 2, ty, pos, af, gd⟩ a w K Q := by
  have hx' := eval_tmp hx
  go_simp
  exact h
end
end Go.Proofs.YtakifcobofkheabGreatDoor

/-
  What l2Copy gives: a place in new memory.
-/
namespace Go.Proofs.YtakifcobofkheabGreatDoor
open Go.RowKit Go.Deep
set_option linter.unusedVariables false

def intv0 (n : Nat) (Z : Nat → Int) : List Value := (List.range n).map fun i => .int .i64 (Z i)

/-- A place whose lists lie in new memory of their own. -/
structure NewNd (w : World) (d : Nd) (l : Loc) (W : World) : Prop where
  bel : Below w.heap.size w W
  names : W.ownsRow w.heap.size 9 1 (.slice l.nA d.nn l.nc) d.nn (strv (lst d.nn d.names))
  kids : W.ownsRow w.heap.size 3 1 (.slice l.kA d.kn l.kc) d.kn (intv0 d.kn d.kids)
  nA : ∃ b, l.nA = some ⟨b, 0, none⟩ ∧ w.heap.size ≤ b ∧ b < W.heap.size
  kA : ∃ b, l.kA = some ⟨b, 0, none⟩ ∧ w.heap.size ≤ b ∧ b < W.heap.size
  apart : ∀ b b', l.nA = some ⟨b, 0, none⟩ → l.kA = some ⟨b', 0, none⟩ → b ≠ b'

theorem NewNd.lies {w : World} {d : Nd} {l : Loc} {W : World} (h : NewNd w d l W) : NdIn W d l := by
  obtain ⟨b, e, _, hb⟩ := h.nA
  obtain ⟨b', e', _, hb'⟩ := h.kA
  have h1 := h.names
  have h2 := h.kids
  rw [e] at h1
  rw [e'] at h2
  unfold NdIn
  rw [e, e']
  refine ⟨(ownsRow_strs h1 (lst_length _ _) hb).congr (fun i hi => lst_getD _ _ _ hi), Or.inr ⟨b', 0, rfl, hb', fun i hi => ?_⟩⟩
  have := h2.cells (g := b') rfl i (.int .i64 (d.kids i)) (by simp [intv0, hi])
  rwa [addr_add] at this

theorem grown_cell (w : World) (b k : Nat) (v : Value) : w.grownBy (w.setCell ⟨b, k, none⟩ v) (some b) :=
  ⟨rfl, rfl, rfl, by simp [World.setCell], fun j _ hne => blk_setCell_other _ _ _ _ (fun e => hne (by rw [e]))⟩

theorem owns_lower {w : World} {B B' : Nat} {e : TypeId} {size n : Nat} {xs : List Value} {v : Value} (h : w.ownsRow B e size v n xs) (hB : B' ≤ B) : w.ownsRow B' e size v n xs :=
  ⟨h.1, h.2.imp id fun ⟨g, cap, cur, hv, hb, hr⟩ => ⟨g, cap, cur, hv, Nat.le_trans hB hb, hr⟩⟩

/-- A cell of a block that neither list lies in is written. -/
theorem NewNd.set {w : World} {d : Nd} {l : Loc} {W : World} (h : NewNd w d l W) {q k : Nat} {v : Value} (hq : w.heap.size ≤ q) (h1 : ∀ b, l.nA = some ⟨b, 0, none⟩ → b ≠ q) (h2 : ∀ b, l.kA = some ⟨b, 0, none⟩ → b ≠ q) : NewNd w d l (W.setCell ⟨q, k, none⟩ v) := by
  have hs : (W.setCell ⟨q, k, none⟩ v).heap.size = W.heap.size := by simp [World.setCell]
  obtain ⟨b, e, hb⟩ := h.nA
  obtain ⟨b', e', hb'⟩ := h.kA
  refine ⟨bel_put h.bel v hq, h.names.kept (grown_cell W q k v) (Or.inr ?_), h.kids.kept (grown_cell W q k v) (Or.inr ?_), ⟨b, e, by rw [hs]; exact hb⟩, ⟨b', e', by rw [hs]; exact hb'⟩, h.apart⟩
  · rw [e]; intro he; simp [Value.ownBlock] at he; exact h1 b e he
  · rw [e']; intro he; simp [Value.ownBlock] at he; exact h2 b' e' he

theorem owned_form {w : World} {B : Nat} {e : TypeId} {size n : Nat} {xs : List Value} {v : Value} (h : w.ownsRow B e size v n xs) {b : Nat} (hb : v.ownBlock = some b) : ∃ c, v = .slice (some ⟨b, 0, none⟩) n c ∧ B ≤ b ∧ b < w.heap.size := by
  have hlt := owns_block h hb
  rcases h.2 with ⟨h0, _⟩ | ⟨g, cap, cur, hv, _⟩
  · rw [h0] at hb; simp [Value.ownBlock] at hb
  · rw [hv] at hb
    simp [Value.ownBlock] at hb
    subst hb
    exact ⟨cap, hv, hlt.1, hlt.2⟩

set_option maxRecDepth 100000 in
set_option maxHeartbeats 4000000 in
theorem l2Copy_any (d : Nd) (l : Loc) (w : World) (hI : NdIn w d l) (hnn : d.nn ≤ 1048576) (hkn : d.kn ≤ 1048576) :
    Calls Tryz.prog 30 #[ndV d l] w fun e w' => ∃ l', e = .returned (ndV d l') ∧ NewNd w d l' w' := by
  obtain ⟨i0, hi, hz0, hz1, hz2⟩ := info_parts infoStr
  obtain ⟨j0, hj, hy0, hy1, hy2⟩ := info_parts infoInt
  unfold ndV
  go_enter Tryz.func30, Tryz.ntmps30
  go_wp2_with fail
  refine wp_world (F := New2 w _ _ _ _) (new2 w _ _ _ _) ?_
  rintro W ⟨hp, hr, hb, hs⟩
  have p0 : W.cell? ⟨w.heap.size, 0, none⟩ = some (.int .i64 d.kind) := hp.cell 0
  have p1 : W.cell? ⟨w.heap.size, 1, none⟩ = some (.string d.text) := hp.cell 1
  have p2 : W.cell? ⟨w.heap.size, 2, none⟩ = some (.slice l.nA d.nn l.nc) := hp.cell 2
  have p3 : W.cell? ⟨w.heap.size, 3, none⟩ = some (.slice l.kA d.kn l.kc) := hp.cell 3
  have p4 : W.cell? ⟨w.heap.size, 4, none⟩ = some (.int .i64 d.turn) := hp.cell 4
  have HI : Hid (NdIn W d l) := hI.below (Nat.le_refl _) hb
  have HB : Hid (Below w.heap.size w W ∧ Blk W (w.heap.size + 1) _ _) := ⟨hb, hr⟩
  have hlt : w.heap.size < W.heap.size := by omega
  have hsW : w.heap.size + 1 < W.heap.size := by omega
  clear hI hp hr hb hs
  refine wp_region_noPanic ?_
  refine wp_region_peel2 (fun W' => W'.cell? ⟨w.heap.size, 0, none⟩ = some (.int .i64 d.kind) ∧ W'.cell? ⟨w.heap.size, 1, none⟩ = some (.string d.text) ∧ W'.cell? ⟨w.heap.size, 2, none⟩ = some (.slice l.nA d.nn l.nc) ∧ W'.cell? ⟨w.heap.size, 3, none⟩ = some (.slice l.kA d.kn l.kc) ∧ W'.cell? ⟨w.heap.size, 4, none⟩ = some (.int .i64 d.turn)) _ _ (by kernel_rfl) rfl rfl (by kernel_rfl) (by kernel_rfl) ?_ (fun hHeld => ?_)
  · exact ⟨p0, p1, p2, p3, p4⟩
  simp only [List.pop_toArray, List.dropLast, List.size_toArray, List.length_cons, List.length_nil, Nat.reduceAdd, Nat.reduceSub, List.getElem_toArray, List.getElem_cons_succ, List.getElem_cons_zero]
  refine peel_take (i := 0) (oi := ?oi0) (v := ?v0) (fun _ _ _ _ _ h => h) hHeld ?hi0 (by kernel_rfl) (by kernel_rfl) (by kernel_rfl) ?hw0 ?hy0 ?rest0
  case hi0 =>
    simp only [List.getElem?_toArray, List.getElem?_cons_zero]
    rfl
  case hw0 => rfl
  case hy0 =>
    intro w hSw
    obtain ⟨s0, s1, s2, s3, s4⟩ := hSw
    go_simp
    try with_reducible rfl
  try simp only [Act.put, List.setIfInBounds_toArray, List.set_cons_zero, List.set_cons_succ]
  refine peel_take (i := 1) (oi := ?oi1) (v := ?v1) (fun _ _ _ _ _ h => h) hHeld ?hi1 (by kernel_rfl) (by kernel_rfl) (by kernel_rfl) ?hw1 ?hy1 ?rest1
  case hi1 =>
    simp only [List.getElem?_toArray, List.getElem?_cons_succ, List.getElem?_cons_zero]
    rfl
  case hw1 => rfl
  case hy1 =>
    intro w hSw
    obtain ⟨s0, s1, s2, s3, s4⟩ := hSw
    go_simp
    try with_reducible rfl
  try simp only [Act.put, List.setIfInBounds_toArray, List.set_cons_zero, List.set_cons_succ]
  refine peel_take (i := 2) (oi := ?oi2) (v := ?v2) (fun _ _ _ _ _ h => h) hHeld ?hi2 (by kernel_rfl) (by kernel_rfl) (by kernel_rfl) ?hw2 ?hy2 ?rest2
  case hi2 =>
    simp only [List.getElem?_toArray, List.getElem?_cons_succ, List.getElem?_cons_zero]
    rfl
  case hw2 => rfl
  case hy2 =>
    intro w hSw
    obtain ⟨s0, s1, s2, s3, s4⟩ := hSw
    go_simp
    try with_reducible rfl
  try simp only [Act.put, List.setIfInBounds_toArray, List.set_cons_zero, List.set_cons_succ]
  refine peel_take (i := 3) (oi := ?oi3) (v := ?v3) (fun _ _ _ _ _ h => h) hHeld ?hi3 (by kernel_rfl) (by kernel_rfl) (by kernel_rfl) ?hw3 ?hy3 ?rest3
  case hi3 =>
    simp only [List.getElem?_toArray, List.getElem?_cons_succ, List.getElem?_cons_zero]
    rfl
  case hw3 => rfl
  case hy3 =>
    intro w hSw
    obtain ⟨s0, s1, s2, s3, s4⟩ := hSw
    go_simp
    try with_reducible rfl
  try simp only [Act.put, List.setIfInBounds_toArray, List.set_cons_zero, List.set_cons_succ]
  refine peel_take (i := 5) (oi := ?oi5) (v := ?v5) (fun _ _ _ _ _ h => h) hHeld ?hi5 (by kernel_rfl) (by kernel_rfl) (by kernel_rfl) ?hw5 ?hy5 ?rest5
  case hi5 =>
    simp only [List.getElem?_toArray, List.getElem?_cons_succ, List.getElem?_cons_zero]
    rfl
  case hw5 => rfl
  case hy5 =>
    intro w hSw
    obtain ⟨s0, s1, s2, s3, s4⟩ := hSw
    go_simp
    try with_reducible rfl
  try simp only [Act.put, List.setIfInBounds_toArray, List.set_cons_zero, List.set_cons_succ]
  refine peel_take (i := 6) (oi := ?oi6) (v := ?v6) (fun _ _ _ _ _ h => h) hHeld ?hi6 (by kernel_rfl) (by kernel_rfl) (by kernel_rfl) ?hw6 ?hy6 ?rest6
  case hi6 =>
    simp only [List.getElem?_toArray, List.getElem?_cons_succ, List.getElem?_cons_zero]
    rfl
  case hw6 => rfl
  case hy6 =>
    intro w hSw
    obtain ⟨s0, s1, s2, s3, s4⟩ := hSw
    go_simp
    try with_reducible rfl
  try simp only [Act.put, List.setIfInBounds_toArray, List.set_cons_zero, List.set_cons_succ]
  refine peel_take (i := 9) (oi := ?oi9) (v := ?v9) (fun _ _ _ _ _ h => h) hHeld ?hi9 (by kernel_rfl) (by kernel_rfl) (by kernel_rfl) ?hw9 ?hy9 ?rest9
  case hi9 =>
    simp only [List.getElem?_toArray, List.getElem?_cons_succ, List.getElem?_cons_zero]
    rfl
  case hw9 => rfl
  case hy9 =>
    intro w hSw
    obtain ⟨s0, s1, s2, s3, s4⟩ := hSw
    go_simp
    try with_reducible rfl
  try simp only [Act.put, List.setIfInBounds_toArray, List.set_cons_zero, List.set_cons_succ]
  refine peel_take (i := 10) (oi := ?oi10) (v := ?v10) (fun _ _ _ _ _ h => h) hHeld ?hi10 (by kernel_rfl) (by kernel_rfl) (by kernel_rfl) ?hw10 ?hy10 ?rest10
  case hi10 =>
    simp only [List.getElem?_toArray, List.getElem?_cons_succ, List.getElem?_cons_zero]
    rfl
  case hw10 => rfl
  case hy10 =>
    intro w hSw
    obtain ⟨s0, s1, s2, s3, s4⟩ := hSw
    go_simp
    try with_reducible rfl
  try simp only [Act.put, List.setIfInBounds_toArray, List.set_cons_zero, List.set_cons_succ]
  refine peel_take (i := 12) (oi := ?oi12) (v := ?v12) (fun _ _ _ _ _ h => h) hHeld ?hi12 (by kernel_rfl) (by kernel_rfl) (by kernel_rfl) ?hw12 ?hy12 ?rest12
  case hi12 =>
    simp only [List.getElem?_toArray, List.getElem?_cons_succ, List.getElem?_cons_zero]
    rfl
  case hw12 => rfl
  case hy12 =>
    intro w hSw
    obtain ⟨s0, s1, s2, s3, s4⟩ := hSw
    go_simp
    try with_reducible rfl
  try simp only [Act.put, List.setIfInBounds_toArray, List.set_cons_zero, List.set_cons_succ]
  refine peel_take (i := 13) (oi := ?oi13) (v := ?v13) (fun _ _ _ _ _ h => h) hHeld ?hi13 (by kernel_rfl) (by kernel_rfl) (by kernel_rfl) ?hw13 ?hy13 ?rest13
  case hi13 =>
    simp only [List.getElem?_toArray, List.getElem?_cons_succ, List.getElem?_cons_zero]
    rfl
  case hw13 => rfl
  case hy13 =>
    intro w hSw
    obtain ⟨s0, s1, s2, s3, s4⟩ := hSw
    go_simp
    try with_reducible rfl
  try simp only [Act.put, List.setIfInBounds_toArray, List.set_cons_zero, List.set_cons_succ]
  refine wpAnyH_act fun aR hA => ?_
  have e9 : aR.eval (.tmp 9) = .slice l.nA d.nn l.nc := by rw [hA]; rfl
  have e13 : aR.eval (.tmp 13) = .slice l.kA d.kn l.kc := by rw [hA]; rfl
  have hsz : 17 < aR.tmps.size := by rw [hA]; simp
  have HA' : Hid _ := hA
  clear hA
  refine wpAnyH_plain (a0 := aR) [7, 10, 11, 14] (RJ [0, 1, 2, 3, 5, 6, 9, 10, 12, 13] W (fun d' => if d' = 7 then ⟨9, 1, 0, []⟩ else if d' = 10 then ⟨9, 1, d.nn, strv (lst d.nn d.names)⟩ else if d' = 11 then ⟨3, 1, 0, []⟩ else ⟨3, 1, d.kn, intv0 d.kn d.kids⟩)
    [(7, 4, 7), (10, 7, 99), (11, 8, 11), (14, 11, 99)] []) (by kernel_rfl) (by kernel_rfl) (by rfl) (by decide) (fun v => RJ.start (below_drewN (Below.refl _ _) 1) (by decide) (by decide) (by decide) (by simp)) (fun L' v w' h => ⟨(h.bel.cell hlt).trans p0, (h.bel.cell hlt).trans p1, (h.bel.cell hlt).trans p2, (h.bel.cell hlt).trans p3, (h.bel.cell hlt).trans p4⟩) ⟨?_, ?_, ?_, ?_, ?_, ?_, ?_, ?_, ?_, ?_, ?_, ?_, ?_, ?_, trivial⟩ ?_
  · intro L2 v2 w2 h2 hd2 hJ2
    exact hJ2.gone (k := 0) (by decide) h2
  · intro L2 v2 w2 h2 hd2 hJ2
    exact hJ2.gone (k := 1) (by decide) h2
  · intro L2 v2 w2 h2 hd2 hJ2
    exact hJ2.gone (k := 2) (by decide) h2
  · intro L2 v2 w2 h2 hd2 hJ2
    exact hJ2.gone (k := 3) (by decide) h2
  · intro L' v w' h hd hJ K hK
    exact ⟨wp_strs0 (hK _ _ _ (upd_put _ _ _ 7 _ (by decide)) (hJ.make (k := 4) (d := 7) (by decide) (by simp) (by decide) (xs := []) (n := 0) (e := 9) (size := 1) rfl rfl (by unfold maxLen; omega)))⟩
  · intro L2 v2 w2 h2 hd2 hJ2
    exact hJ2.gone (k := 5) (by decide) h2
  · intro L2 v2 w2 h2 hd2 hJ2
    exact hJ2.gone (k := 6) (by decide) h2
  · intro L' v w' h hd hJ K hK
    have hd4 : L' 4 = true := hd _ (List.Mem.head _) rfl
    have hlive : liveAt [(7, 4, 7), (10, 7, 99), (11, 8, 11), (14, 11, 99)] L' 7 := ⟨4, 7, by decide, hd4, h⟩
    refine ⟨wp_append_src (.tmp 7) (.tmp 9) 23 rfl W.heap.size 9 i0 (.string ByteArray.empty) 1 16 Tryz.underlying23 hi hz0 hz1 hz2 rfl (by decide) (v 7) 0 [] (upd_eval_in aR _ v 7 (by decide) (by omega)) (hJ.rws.own 7 hlive).1 _ d.nn _ ((upd_eval_out aR _ v 9 (by decide)).trans e9) ((HI.out.1.below (Nat.le_refl _) hJ.bel).src _) (by unfold maxLen; omega) (by omega) hJ.bel.size ?_⟩
    intro v' w2 hown hgrow hnil hat
    exact hK _ _ _ (upd_put _ _ _ 10 _ (by decide)) (hJ.app (k := 7) (d := 10) (s := 7) hlive (by decide) hgrow (by decide) (by simp) (by decide) (by simpa using hown) hat)
  · intro L' v w' h hd hJ K hK
    exact ⟨wp_ints0 (hK _ _ _ (upd_put _ _ _ 11 _ (by decide)) (hJ.make (k := 8) (d := 11) (by decide) (by simp) (by decide) (xs := []) (n := 0) (e := 3) (size := 1) rfl rfl (by unfold maxLen; omega)))⟩
  · intro L2 v2 w2 h2 hd2 hJ2
    exact hJ2.gone (k := 9) (by decide) h2
  · intro L2 v2 w2 h2 hd2 hJ2
    exact hJ2.gone (k := 10) (by decide) h2
  · intro L' v w' h hd hJ K hK
    have hd8 : L' 8 = true := hd _ (List.Mem.head _) rfl
    have hlive : liveAt [(7, 4, 7), (10, 7, 99), (11, 8, 11), (14, 11, 99)] L' 11 := ⟨8, 11, by decide, hd8, h⟩
    refine ⟨wp_append_src (.tmp 11) (.tmp 13) 26 rfl W.heap.size 3 j0 (.int .i64 0) 1 8 Tryz.underlying26 hj hy0 hy1 hy2 rfl (by decide) (v 11) 0 [] (upd_eval_in aR _ v 11 (by decide) (by omega)) (hJ.rws.own 11 hlive).1 _ d.kn _ ((upd_eval_out aR _ v 13 (by decide)).trans e13) ((HI.out.2.below (Nat.le_refl _) hJ.bel).src _) (by unfold maxLen; omega) (by omega) hJ.bel.size ?_⟩
    intro v' w2 hown hgrow hnil hat
    exact hK _ _ _ (upd_put _ _ _ 14 _ (by decide)) (hJ.app (k := 11) (d := 14) (s := 11) hlive (by decide) hgrow (by decide) (by simp) (by decide) (by simpa [intv0] using hown) hat)
  · intro L2 v2 w2 h2 hd2 hJ2
    exact hJ2.gone (k := 12) (by decide) h2
  · intro L2 v2 w2 h2 hd2 hJ2
    exact hJ2.gone (k := 13) (by decide) h2
  intro L' v w' hL hJ
  obtain ⟨hown1, b1, hb1⟩ := hJ.rws.own 10 ⟨7, 99, by decide, hL 7 (by decide), hJ.none⟩
  obtain ⟨hown2, b2, hb2⟩ := hJ.rws.own 14 ⟨11, 99, by decide, hL 11 (by decide), hJ.none⟩
  have hap := hJ.rws.apart 10 14 ⟨7, 99, by decide, hL 7 (by decide), hJ.none⟩ ⟨11, 99, by decide, hL 11 (by decide), hJ.none⟩ (by decide)
  obtain ⟨c1, hv1, hB1, hl1⟩ := owned_form hown1 hb1
  obtain ⟨c2, hv2, hB2, hl2⟩ := owned_form hown2 hb2
  have hne : b1 ≠ b2 := fun e => hap (by rw [hb1, hb2, e])
  rw [hv1] at hown1
  rw [hv2] at hown2
  have hv1' : v 10 = .slice (some ⟨b1, 0, none⟩) d.nn c1 := hv1
  have hv2' : v 14 = .slice (some ⟨b2, 0, none⟩) d.kn c2 := hv2
  have hr := HB.out.2.below hJ.bel hsW
  have HN : Hid (W.heap.size ≤ w'.heap.size ∧ Below w.heap.size w w' ∧ w'.ownsRow W.heap.size 9 1 (.slice (some ⟨b1, 0, none⟩) d.nn c1) d.nn (strv (lst d.nn d.names)) ∧ w'.ownsRow W.heap.size 3 1 (.slice (some ⟨b2, 0, none⟩) d.kn c2) d.kn (intv0 d.kn d.kids) ∧ W.heap.size ≤ b1 ∧ b1 < w'.heap.size ∧ W.heap.size ≤ b2 ∧ b2 < w'.heap.size ∧ b1 ≠ b2 ∧ Blk w' (w.heap.size + 1) _ _) :=
    ⟨hJ.bel.size, HB.out.1.trans (hJ.bel.mono (by omega)), hown1, hown2, hB1, hl1, hB2, hl2, hne, hr⟩
  have r0 := hr.cell 0
  have r1 := hr.cell 1
  have r2 := hr.cell 2
  have r3 := hr.cell 3
  have r4 := hr.cell 4
  have f0 := hr.frozen 0
  have f1 := hr.frozen 1
  have f2 := hr.frozen 2
  have f3 := hr.frozen 3
  have f4 := hr.frozen 4
  simp at r0 r1 r2 r3 r4
  refine ⟨?_⟩
  show Oper.wp _ _ _ _ _ _
  rw [HA'.out]
  simp only [upd, List.foldl_cons, List.foldl_nil, List.setIfInBounds_toArray, List.set_cons_zero, List.set_cons_succ, hv1', hv2']
  generalize v 7 = y7
  generalize v 11 = y11
  clear hJ hL hown1 hown2 hv1 hv2 hv1' hv2' hr HA' hsz e9 e13 hap hb1 hb2 HB hB1 hB2 hl1 hl2 hne HI hHeld
  go_simp
  show Oper.wp _ _ _ _ _ _
  go_simp
  refine NoPanic.normal ?_
  go_wp2
  obtain ⟨n1, n2, n3, n4, n5, n6, n7, n8, n9, n10⟩ := HN.out
  have hN : NewNd w d ⟨some ⟨b1, 0, none⟩, c1, some ⟨b2, 0, none⟩, c2⟩ w' := ⟨n2, owns_lower n3 (by omega), owns_lower n4 (by omega), ⟨b1, rfl, by omega, n6⟩, ⟨b2, rfl, by omega, n8⟩, fun b b' e e' => by cases e; cases e'; exact n9⟩
  have hq1 : ∀ b, (some ⟨b1, 0, none⟩ : Option Addr) = some ⟨b, 0, none⟩ → b ≠ w.heap.size + 1 := fun b e => by cases e; omega
  have hq2 : ∀ b, (some ⟨b2, 0, none⟩ : Option Addr) = some ⟨b, 0, none⟩ → b ≠ w.heap.size + 1 := fun b e => by cases e; omega
  have hq : w.heap.size ≤ w.heap.size + 1 := by omega
  refine end_world (F := fun WF => NewNd w d ⟨some ⟨b1, 0, none⟩, c1, some ⟨b2, 0, none⟩, c2⟩ WF ∧ Blk WF (w.heap.size + 1) #[.int .i64 d.kind, .string d.text, .slice (some ⟨b1, 0, none⟩) d.nn c1, .slice (some ⟨b2, 0, none⟩) d.kn c2, .int .i64 d.turn] 28)
    ⟨((((hN.set hq hq1 hq2).set hq hq1 hq2).set hq hq1 hq2).set hq hq1 hq2).set hq hq1 hq2, ((((n10.set 0 _).set 1 _).set 2 _).set 3 _).set 4 _⟩ ?_
  clear hN HN n10
  rintro WF ⟨hN, hr⟩
  have r0 := hr.cell 0
  have r1 := hr.cell 1
  have r2 := hr.cell 2
  have r3 := hr.cell 3
  have r4 := hr.cell 4
  simp at r0 r1 r2 r3 r4
  exact bodyPost_ret (v := .agg #[.int .i64 d.kind, .string d.text, .slice (some ⟨b1, 0, none⟩) d.nn c1, .slice (some ⟨b2, 0, none⟩) d.kn c2, .int .i64 d.turn]) (by simp [results, Tryz.results30, go_sem, r0, r1, r2, r3, r4]) rfl ⟨⟨some ⟨b1, 0, none⟩, c1, some ⟨b2, 0, none⟩, c2⟩, rfl, hN⟩
end Go.Proofs.YtakifcobofkheabGreatDoor
