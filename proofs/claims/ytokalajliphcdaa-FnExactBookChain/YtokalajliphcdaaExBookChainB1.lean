/-
  Texts that the proof needs, laid one behind the other.
-/
import Derived.Test.YtokalajliphcdaaProg
import Derived.WalkKit
import Derived.WalkSpells
import Derived.Below
import Derived.Deep.OwnRows
import Derived.Deep.QuietTactic
import Derived.BigQuiet
import Derived.Test.YtokalajliphcdaaRows
import Derived.ProofKit
import Derived.Lib.SmallJoins
import Derived.WalkSmall
import Derived.RangeFuncNested
import Derived.RangeFuncBound
import Derived.RangeFuncCalls
import Derived.RangeFuncLeaves
import Derived.Shelf.Abstract
import Derived.Shelf.RegionOpen
import Derived.OwnWalkIn
import Derived.TacticsInMore
import Derived.LoopNIn
import Derived.LoopIn
import Derived.Maps.AppendAt
import Derived.Laws.AppendOwn
import Derived.OwnWalk
import Derived.Shelf.Slices.Reverse
import Derived.Shelf.Slices.Cells
import Derived.RangeFuncBox
import Derived.Maps.OwnIn
import Derived.Laws.IdiomStrings
import Derived.Deep.RegionWith
import Derived.Deep.RegionHeld3

/-
  What NameOk of the specification answers at every text: whether it has 1 to 4 letters, each from a to z; it does not turn the world.
-/
namespace Go.Proofs.Ytokalajliphcdaa
open Go.RowKit
set_option linter.unusedVariables false

/-- A letter from a to z. -/
def letter (c : UInt8) : Bool := decide (97 ≤ (c.toNat : Int) ∧ (c.toNat : Int) ≤ 122)
/-- A name. -/
def nameOk (l : List UInt8) : Bool := l.all letter && decide (1 ≤ l.length) && decide (l.length ≤ 4)

theorem take_snoc (s : ByteArray) (k : Nat) (h : k < s.size) : s.data.toList.take (k + 1) = s.data.toList.take k ++ [s[k]] := by
  rw [List.take_succ_eq_append_getElem (by simpa using h)]; rfl

theorem letter_yes {c : UInt8} (h1 : ¬ (c.toNat : Int) < 97) (h2 : ¬ (122 : Int) < (c.toNat : Int)) : letter c = true := by
  unfold letter; simp; omega

theorem all_snoc (s : ByteArray) (k : Nat) (h : k < s.size) (ha : (s.data.toList.take k).all letter = true) (hc : letter s[k] = true) : (s.data.toList.take (k + 1)).all letter = true := by
  rw [take_snoc s k h, List.all_append, ha]; simp [hc]

theorem not_all (s : ByteArray) (k : Nat) (h : k < s.size) (hc : letter s[k] = false) : s.data.toList.all letter = false := by
  rw [Bool.eq_false_iff]
  intro ha
  have := List.all_eq_true.1 ha s[k] (by
    have : s[k] = s.data.toList[k]'(by simpa using h) := rfl
    rw [this]; exact List.getElem_mem _)
  rw [hc] at this; cases this

theorem ret_bool {a b : Bool} (h : a = b) : Ending.returned (.bool a) = .returned (.bool b) := by rw [h]

theorem letter_no {c : UInt8} (h : (c.toNat : Int) < 97 ∨ (122 : Int) < (c.toNat : Int)) : letter c = false := by
  unfold letter; simp; omega

theorem nameOk_bad (s : ByteArray) (k : Nat) (h : k < s.size) (hc : letter s[k] = false) : false = nameOk s.data.toList := by
  unfold nameOk; rw [not_all s k h hc]; rfl

theorem nameOk_long (s : ByteArray) (h : s.size < 1 ∨ 4 < s.size) : false = nameOk s.data.toList := by
  unfold nameOk
  have e : s.data.toList.length = s.size := by simp
  rcases h with h | h
  · rw [decide_eq_false (show ¬ 1 ≤ s.data.toList.length by omega)]; simp
  · rw [decide_eq_false (show ¬ s.data.toList.length ≤ 4 by omega)]; simp

theorem nameOk_end (s : ByteArray) (k : Nat) (hk : k ≤ s.size) (h : ¬ k < s.size) (ha : (s.data.toList.take k).all letter = true) (h1 : 1 ≤ s.size) : decide (s.size ≤ 4) = nameOk s.data.toList := by
  have e : s.data.toList.length = s.size := by simp
  rw [List.take_of_length_le (by omega)] at ha
  unfold nameOk
  rw [ha, show decide (1 ≤ s.data.toList.length) = true by simp; omega]; simp

end Go.Proofs.Ytokalajliphcdaa

/-
  Lists of texts as they lie in memory, and what is said of them: plain facts.
-/
namespace Go.Proofs.Ytokalajliphcdaa
open Go.RowKit
set_option linter.unusedVariables false

/-- n texts lie in memory from the address on. -/
def IsStrs (w : World) (a : Option Addr) (n : Nat) (S : Nat → ByteArray) : Prop :=
  n = 0 ∨ ∃ b off, a = some ⟨b, off, none⟩ ∧ b < w.heap.size ∧ ∀ i, i < n → w.cell? ⟨b, off + i, none⟩ = some (.string (S i))

def Small (n : Nat) (S : Nat → ByteArray) : Prop := ∀ i, i < n → (S i).size ≤ maxLen

theorem IsStrs.at {w : World} {a : Option Addr} {n : Nat} {S : Nat → ByteArray} (h : IsStrs w a n S) {k : Nat} (hk : k < n) :
    ∃ b off, a = some ⟨b, off, none⟩ ∧ b < w.heap.size ∧ ∀ i, i < n → w.cell? ⟨b, off + i, none⟩ = some (.string (S i)) := by
  rcases h with h | h
  · omega
  · exact h

theorem IsStrs.below {w w' : World} {a : Option Addr} {n : Nat} {S : Nat → ByteArray} (h : IsStrs w a n S) {B : Nat} (hB : w.heap.size ≤ B) (hb : Below B w w') : IsStrs w' a n S := by
  rcases h with h | ⟨b, off, ha, hlt, hc⟩
  · exact Or.inl h
  · exact Or.inr ⟨b, off, ha, by have := hb.size; omega, fun i hi => by rw [hb.cell (p := ⟨b, off + i, none⟩) (by show b < B; omega)]; exact hc i hi⟩

/-- The letters of the first k. -/
def sumTo (S : Nat → ByteArray) : Nat → Nat | 0 => 0 | k + 1 => sumTo S k + (S k).size

theorem sumTo_succ (S : Nat → ByteArray) (k : Nat) : sumTo S (k + 1) = sumTo S k + (S k).size := rfl

theorem size_le_sumTo (S : Nat → ByteArray) (n : Nat) : ∀ i, i < n → (S i).size ≤ sumTo S n := by
  induction n with
  | zero => intro i hi; omega
  | succ n ih => intro i hi; rw [sumTo_succ]; by_cases h : i < n
                 · have := ih i h; omega
                 · have : i = n := by omega
                   subst this; omega

def eqS (n : Nat) (S T : Nat → ByteArray) : Bool := (List.range n).all fun i => (S i).toList == (T i).toList

theorem eqS_succ (k : Nat) (S T : Nat → ByteArray) (h : eqS k S T = true) (hk : (!(S k).toList == (T k).toList) = false) : eqS (k + 1) S T = true := by
  unfold eqS at *
  rw [List.range_succ, List.all_append, h]; simpa using hk

theorem eqS_not (n k : Nat) (S T : Nat → ByteArray) (hk : k < n) (h : (!(S k).toList == (T k).toList) = true) : false = eqS n S T := by
  symm
  rw [Bool.eq_false_iff]
  intro ha
  have := List.all_eq_true.1 ha k (by simpa using hk)
  simp [this] at h

theorem eqS_self (n : Nat) (S T : Nat → ByteArray) (h : ∀ i, i < n → S i = T i) : eqS n S T = true := by
  unfold eqS
  rw [List.all_eq_true]
  intro i hi
  rw [h i (by simpa using hi)]
  simp

theorem IsStrs.row {w : World} {b n : Nat} {S : Nat → ByteArray} (h : w.rowIs b 9 n (fun i => .string (S i))) : IsStrs w (some ⟨b, 0, none⟩) n S :=
  Or.inr ⟨b, 0, rfl, h.lt, fun i hi => by rw [Nat.zero_add]; exact h.cell hi⟩

theorem Small.of_sum {n : Nat} {S : Nat → ByteArray} {r left : Int} (h : r + n + sumTo S n ≤ left) (h0 : 0 ≤ r) (h1 : left ≤ 1048576) : Small n S := fun i hi => by
  have := size_le_sumTo S n i hi
  unfold maxLen; omega
end Go.Proofs.Ytokalajliphcdaa

/-
  How a list of texts that is handed in is opened: n texts lie in memory from its address on.
-/
namespace Go.Proofs.Ytokalajliphcdaa
open Go.ChangeShapes Go.WideShapes Go.ChangeAt Go.RowKit

theorem own : ownKnob Try.prog.godebug = none := by kernel_rfl
theorem laidOut : laidOutB Try.prog = true := by kernel_rfl
theorem cellsStr : Try.prog.cellsOf 9 = 1 := by kernel_rfl

theorem lt_of_cell {w : World} {b o : Nat} {v : Value} (h : w.cell? ⟨b, o, none⟩ = some v) : b < w.heap.size := by
  simp only [World.cell?] at h
  by_cases hb : b < w.heap.size
  · exact hb
  · rw [Array.getElem?_eq_none (by omega)] at h
    simp at h

theorem openStrs {H : Type} {enc : TypeId × Value → H} {W : World} {a : Option Addr} {n cap : Nat} {d : DataW H} {p : List MemPlace}
    (h : DataW.Trod enc Try.prog W 0 (fun _ => true) true 87 (.slice a n cap) d p) : ∃ S : Nat → ByteArray, IsStrs W a n S ∧ Small n S ∧ n ≤ maxLen := by
  obtain ⟨fuel, hf⟩ := h
  rcases open_strings Try.underlying87 Try.underlying9 cellsStr hf with ⟨hcs, _⟩ | ⟨x, l, c, ss, hcs, _, hl, hm, hz, _, hcell, hsz⟩
  · simp [Value.cells] at hcs
    obtain ⟨rfl, rfl, rfl⟩ := hcs
    exact ⟨fun _ => ByteArray.empty, Or.inl rfl, fun i hi => by omega, by unfold maxLen; omega⟩
  · simp [Value.cells] at hcs
    obtain ⟨rfl, rfl, rfl⟩ := hcs
    simp at hz
    obtain ⟨b, off, spot⟩ := x
    refine ⟨fun i => ss.getD i ByteArray.empty, ?_, fun i hi => ?_, by omega⟩
    · by_cases h0 : n = 0
      · exact Or.inl h0
      · have h00 := hcell 0 (by omega)
        have hspot : spot = none := by simpa [Addr.add] using World.cell?_spot h00
        subst hspot
        refine Or.inr ⟨b, off, rfl, lt_of_cell (by simpa [Addr.add] using h00), fun i hi => ?_⟩
        have := hcell i (by omega)
        rw [add_plain] at this
        exact this
    · show (ss.getD i ByteArray.empty).size ≤ maxLen
      rw [List.getD_eq_getElem?_getD, List.getElem?_eq_getElem (by omega)]
      exact hsz _ (List.getElem_mem _)
end Go.Proofs.Ytokalajliphcdaa

/-
  Lists of numbers as they lie in memory, and places of a tree: plain facts.
-/
namespace Go.Proofs.Ytokalajliphcdaa
open Go.RowKit
set_option linter.unusedVariables false

theorem infoInt : (Try.prog.info? 3).map (fun i => (i.zero, i.size, i.bytes)) = some (some (.int .i64 0), 1, 8) := by kernel_rfl

/-- n numbers lie in memory from the address on. -/
def IsInts (w : World) (a : Option Addr) (n : Nat) (Z : Nat → Int) : Prop :=
  n = 0 ∨ ∃ b off, a = some ⟨b, off, none⟩ ∧ b < w.heap.size ∧ ∀ i, i < n → w.cell? ⟨b, off + i, none⟩ = some (.int .i64 (Z i))

/-- Each is a number of 64 bits. -/
def In64 (z : Int) : Prop := -9223372036854775808 ≤ z ∧ z ≤ 9223372036854775807

theorem IsInts.at {w : World} {a : Option Addr} {n : Nat} {Z : Nat → Int} (h : IsInts w a n Z) {k : Nat} (hk : k < n) :
    ∃ b off, a = some ⟨b, off, none⟩ ∧ b < w.heap.size ∧ ∀ i, i < n → w.cell? ⟨b, off + i, none⟩ = some (.int .i64 (Z i)) := by
  rcases h with h | h
  · omega
  · exact h

theorem IsInts.below {w w' : World} {a : Option Addr} {n : Nat} {Z : Nat → Int} (h : IsInts w a n Z) {B : Nat} (hB : w.heap.size ≤ B) (hb : Below B w w') : IsInts w' a n Z := by
  rcases h with h | ⟨b, off, ha, hlt, hc⟩
  · exact Or.inl h
  · exact Or.inr ⟨b, off, ha, by have := hb.size; omega, fun i hi => by rw [hb.cell (p := ⟨b, off + i, none⟩) (by show b < B; omega)]; exact hc i hi⟩

def eqZ (n : Nat) (Z Y : Nat → Int) : Bool := (List.range n).all fun i => Z i == Y i

theorem eqZ_succ (k : Nat) (Z Y : Nat → Int) (h : eqZ k Z Y = true) (hk : Z k = Y k) : eqZ (k + 1) Z Y = true := by
  unfold eqZ at *
  rw [List.range_succ, List.all_append, h]; simpa using hk

theorem eqZ_not (n k : Nat) (Z Y : Nat → Int) (hk : k < n) (h : ¬ Z k = Y k) : false = eqZ n Z Y := by
  symm
  rw [Bool.eq_false_iff]
  intro ha
  have := List.all_eq_true.1 ha k (by simpa using hk)
  simp at this; exact h this

theorem eqZ_self (n : Nat) (Z Y : Nat → Int) (h : ∀ i, i < n → Z i = Y i) : eqZ n Z Y = true := by
  unfold eqZ
  rw [List.all_eq_true]
  intro i hi
  rw [h i (by simpa using hi)]
  simp

theorem IsInts.row {w : World} {b n : Nat} {Z : Nat → Int} (h : w.rowIs b 3 n (fun i => .int .i64 (Z i))) : IsInts w (some ⟨b, 0, none⟩) n Z :=
  Or.inr ⟨b, 0, rfl, h.lt, fun i hi => by rw [Nat.zero_add]; exact h.cell hi⟩
end Go.Proofs.Ytokalajliphcdaa

/-
  A block of memory and what it holds, cell by cell: plain facts.
-/
namespace Go.Proofs.Ytokalajliphcdaa
open Go.RowKit Go.Deep
set_option linter.unusedVariables false

/-- Block b holds these cells, none frozen. -/
def Blk (w : World) (b : Nat) (c : Array Value) (t : TypeId) : Prop := w.heap[b]? = some (.cells c t (0, 0))

theorem Blk.cell {w : World} {b : Nat} {c : Array Value} {t : TypeId} (h : Blk w b c t) (i : Nat) : w.cell? ⟨b, i, none⟩ = c[i]? := by
  unfold Blk at h
  simp [World.cell?, h]

theorem Blk.frozen {w : World} {b : Nat} {c : Array Value} {t : TypeId} (h : Blk w b c t) (i : Nat) : w.frozen? ⟨b, i, none⟩ = false := by
  unfold Blk at h
  simp [World.frozen?, h]

theorem Blk.lt {w : World} {b : Nat} {c : Array Value} {t : TypeId} (h : Blk w b c t) : b < w.heap.size := (Array.getElem?_eq_some_iff.1 h).1

theorem Blk.of_block {w w' : World} {b : Nat} {c : Array Value} {t : TypeId} (h : Blk w b c t) (e : w'.heap[b]? = w.heap[b]?) : Blk w' b c t := e.trans h

theorem Blk.new (w : World) (c : Array Value) (t : TypeId) : Blk (w.alloc (.cells c t)) w.heap.size c t := blk_alloc_new _ _

theorem Blk.alloc {w : World} {b : Nat} {c : Array Value} {t : TypeId} (h : Blk w b c t) (o : Obj) : Blk (w.alloc o) b c t := h.of_block (blk_alloc_lt _ _ _ h.lt)

theorem Blk.below {w w' : World} {b : Nat} {c : Array Value} {t : TypeId} (h : Blk w b c t) {B : Nat} (hb : Below B w w') (hB : b < B) : Blk w' b c t := h.of_block (hb.block b hB)

theorem Blk.set {w : World} {b : Nat} {c : Array Value} {t : TypeId} (h : Blk w b c t) (i : Nat) (v : Value) : Blk (w.setCell ⟨b, i, none⟩ v) b (c.setIfInBounds i v) t := by
  unfold Blk at *
  simp [World.setCell, Array.getElem?_modify, h]

theorem Blk.setOther {w : World} {b : Nat} {c : Array Value} {t : TypeId} (h : Blk w b c t) {a : Addr} (ha : b ≠ a.block) (v : Value) : Blk (w.setCell a v) b c t := h.of_block (blk_setCell_other _ _ _ _ ha)

theorem Blk.off {w : World} {b : Nat} {c : Array Value} {t : TypeId} (h : Blk w b c t) {b' i : Nat} (v : Value) (hb : b ≠ b') : Blk (w.setCell ⟨b', i, none⟩ v) b c t := h.setOther (a := ⟨b', i, none⟩) hb v

theorem bel_put {B : Nat} {a w : World} (h : Below B a w) {b i : Nat} (v : Value) (hb : B ≤ b) : Below B a (w.setCell ⟨b, i, none⟩ v) := h.setCell (p := ⟨b, i, none⟩) hb v

theorem IsInts.off {w : World} {b' off' n : Nat} {Z : Nat → Int} (h : IsInts w (some ⟨b', off', none⟩) n Z) {b i : Nat} (v : Value) (hb : b' ≠ b) : IsInts (w.setCell ⟨b, i, none⟩ v) (some ⟨b', off', none⟩) n Z := by
  rcases h with h | ⟨b0, o0, ha, hlt, hc⟩
  · exact Or.inl h
  · cases ha
    exact Or.inr ⟨b', off', rfl, by simpa [World.setCell] using hlt, fun i hi => by rw [← hc i hi]; exact World.cell?_of_block (blk_setCell_other _ _ _ _ hb)⟩

theorem IsStrs.off {w : World} {b' off' n : Nat} {S : Nat → ByteArray} (h : IsStrs w (some ⟨b', off', none⟩) n S) {b i : Nat} (v : Value) (hb : b' ≠ b) : IsStrs (w.setCell ⟨b, i, none⟩ v) (some ⟨b', off', none⟩) n S := by
  rcases h with h | ⟨b0, o0, ha, hlt, hc⟩
  · exact Or.inl h
  · cases ha
    exact Or.inr ⟨b', off', rfl, by simpa [World.setCell] using hlt, fun i hi => by rw [← hc i hi]; exact World.cell?_of_block (blk_setCell_other _ _ _ _ hb)⟩

/-- A call is walked at a world of which no more is said than this. -/
theorem at_world {P : Program} {f : FuncId} {args : Array Value} {K : Ending → World → Prop} {F : World → Prop} {w : World} (h : F w) (g : ∀ W, F W → Calls P f args W K) : Calls P f args w K := g w h

/-- .. and so is a body's end. -/
theorem end_world {P : Program} {fn : Func} {R : Ending → World → Prop} {e : Exit} {a : Act} {F : World → Prop} {w : World} (h : F w) (g : ∀ W, F W → bodyPost P fn R e a W) : bodyPost P fn R e a w := g w h

/-- One new block. -/
structure New1 (w : World) (c0 : Array Value) (t0 : TypeId) (W : World) : Prop where
  b0 : Blk W w.heap.size c0 t0
  bel : Below w.heap.size w W
  size : W.heap.size = w.heap.size + 1

/-- Two new blocks. -/
structure New2 (w : World) (c0 : Array Value) (t0 : TypeId) (c1 : Array Value) (t1 : TypeId) (W : World) : Prop where
  b0 : Blk W w.heap.size c0 t0
  b1 : Blk W (w.heap.size + 1) c1 t1
  bel : Below w.heap.size w W
  size : W.heap.size = w.heap.size + 2

/-- Three new blocks. -/
structure New3 (w : World) (c0 : Array Value) (t0 : TypeId) (c1 : Array Value) (t1 : TypeId) (c2 : Array Value) (t2 : TypeId) (W : World) : Prop where
  b0 : Blk W w.heap.size c0 t0
  b1 : Blk W (w.heap.size + 1) c1 t1
  b2 : Blk W (w.heap.size + 1 + 1) c2 t2
  bel : Below w.heap.size w W
  size : W.heap.size = w.heap.size + 3

theorem new1 (w : World) (c0 : Array Value) (t0 : TypeId) : New1 w c0 t0 (w.alloc (.cells c0 t0)) := ⟨Blk.new w c0 t0, (Below.refl _ _).alloc (Nat.le_refl _) _, by simp⟩

theorem new2 (w : World) (c0 : Array Value) (t0 : TypeId) (c1 : Array Value) (t1 : TypeId) : New2 w c0 t0 c1 t1 ((w.alloc (.cells c0 t0)).alloc (.cells c1 t1)) := by
  have h1 : (w.alloc (.cells c0 t0)).heap.size = w.heap.size + 1 := by simp
  refine ⟨(Blk.new w c0 t0).alloc _, ?_, ((Below.refl _ _).alloc (Nat.le_refl _) _).alloc (by omega) _, by simp⟩
  have := Blk.new (w.alloc (.cells c0 t0)) c1 t1
  rwa [h1] at this

theorem new3 (w : World) (c0 : Array Value) (t0 : TypeId) (c1 : Array Value) (t1 : TypeId) (c2 : Array Value) (t2 : TypeId) : New3 w c0 t0 c1 t1 c2 t2 (((w.alloc (.cells c0 t0)).alloc (.cells c1 t1)).alloc (.cells c2 t2)) := by
  obtain ⟨h0, h1, hb, hs⟩ := new2 w c0 t0 c1 t1
  refine ⟨h0.alloc _, h1.alloc _, ?_, hb.alloc (by omega) _, by simp⟩
  have := Blk.new ((w.alloc (.cells c0 t0)).alloc (.cells c1 t1)) c2 t2
  rwa [hs] at this
end Go.Proofs.Ytokalajliphcdaa

/-
  Places of a tree and lists of them as they lie in memory: plain facts.
-/
namespace Go.Proofs.Ytokalajliphcdaa
open Go.RowKit
set_option linter.unusedVariables false

/-- What a place of a tree holds: its kind, its text, so many names, so many places, its turn. -/
structure Nd where
  kind : Int
  text : ByteArray
  nn : Nat
  names : Nat → ByteArray
  kn : Nat
  kids : Nat → Int
  turn : Int

instance : Inhabited Nd := ⟨⟨0, ByteArray.empty, 0, fun _ => ByteArray.empty, 0, fun _ => 0, 0⟩⟩

/-- The bounds that hold of every place that was handed in. -/
structure Nd.Fits (d : Nd) : Prop where
  kind : In64 d.kind
  turn : In64 d.turn
  text : d.text.size ≤ maxLen
  names : Small d.nn d.names
  nn : d.nn ≤ maxLen
  kn : d.kn ≤ maxLen
  kids : ∀ i, i < d.kn → In64 (d.kids i)

/-- Where the two lists of a place lie. -/
structure Loc where
  nA : Option Addr
  nc : Nat
  kA : Option Addr
  kc : Nat

instance : Inhabited Loc := ⟨⟨none, 0, none, 0⟩⟩

/-- The value of a place. -/
def ndV (d : Nd) (l : Loc) : Value := .agg #[.int .i64 d.kind, .string d.text, .slice l.nA d.nn l.nc, .slice l.kA d.kn l.kc, .int .i64 d.turn]

/-- The two lists of a place lie in memory. -/
def NdIn (w : World) (d : Nd) (l : Loc) : Prop := IsStrs w l.nA d.nn d.names ∧ IsInts w l.kA d.kn d.kids

/-- n places lie in memory from the address on, five cells each. -/
def IsNds (w : World) (a : Option Addr) (n : Nat) (D : Nat → Nd) (L : Nat → Loc) : Prop :=
  n = 0 ∨ ∃ b off, a = some ⟨b, off, none⟩ ∧ b < w.heap.size ∧ ∀ i, i < n →
    w.cell? ⟨b, off + i * 5, none⟩ = some (.int .i64 (D i).kind) ∧ w.cell? ⟨b, off + i * 5 + 1, none⟩ = some (.string (D i).text) ∧
    w.cell? ⟨b, off + i * 5 + 2, none⟩ = some (.slice (L i).nA (D i).nn (L i).nc) ∧ w.cell? ⟨b, off + i * 5 + 3, none⟩ = some (.slice (L i).kA (D i).kn (L i).kc) ∧
    w.cell? ⟨b, off + i * 5 + 4, none⟩ = some (.int .i64 (D i).turn) ∧ NdIn w (D i) (L i)

theorem NdIn.below {w w' : World} {d : Nd} {l : Loc} (h : NdIn w d l) {B : Nat} (hB : w.heap.size ≤ B) (hb : Below B w w') : NdIn w' d l := ⟨h.1.below hB hb, h.2.below hB hb⟩

theorem IsNds.at {w : World} {a : Option Addr} {n : Nat} {D : Nat → Nd} {L : Nat → Loc} (h : IsNds w a n D L) {k : Nat} (hk : k < n) :
    ∃ b off, a = some ⟨b, off, none⟩ ∧ b < w.heap.size ∧ ∀ i, i < n →
    w.cell? ⟨b, off + i * 5, none⟩ = some (.int .i64 (D i).kind) ∧ w.cell? ⟨b, off + i * 5 + 1, none⟩ = some (.string (D i).text) ∧
    w.cell? ⟨b, off + i * 5 + 2, none⟩ = some (.slice (L i).nA (D i).nn (L i).nc) ∧ w.cell? ⟨b, off + i * 5 + 3, none⟩ = some (.slice (L i).kA (D i).kn (L i).kc) ∧
    w.cell? ⟨b, off + i * 5 + 4, none⟩ = some (.int .i64 (D i).turn) ∧ NdIn w (D i) (L i) := by
  rcases h with h | h
  · omega
  · exact h

theorem IsNds.below {w w' : World} {a : Option Addr} {n : Nat} {D : Nat → Nd} {L : Nat → Loc} (h : IsNds w a n D L) {B : Nat} (hB : w.heap.size ≤ B) (hb : Below B w w') : IsNds w' a n D L := by
  rcases h with h | ⟨b, off, ha, hlt, hc⟩
  · exact Or.inl h
  · have hs := hb.size
    refine Or.inr ⟨b, off, ha, by omega, fun i hi => ?_⟩
    obtain ⟨h0, h1, h2, h3, h4, h5⟩ := hc i hi
    have e : ∀ o, w'.cell? ⟨b, o, none⟩ = w.cell? ⟨b, o, none⟩ := fun o => hb.cell (p := ⟨b, o, none⟩) (by show b < B; omega)
    exact ⟨(e _).trans h0, (e _).trans h1, (e _).trans h2, (e _).trans h3, (e _).trans h4, h5.below hB hb⟩

/-- All of them fit. -/
def FitAll (n : Nat) (D : Nat → Nd) : Prop := ∀ i, i < n → (D i).Fits

/-- What a place counts. -/
def Nd.size (d : Nd) : Nat := d.text.size + d.nn + sumTo d.names d.nn + d.kn
/-- What the first k count. -/
def sizeTo (D : Nat → Nd) : Nat → Nat | 0 => 0 | k + 1 => sizeTo D k + (D k).size

theorem sizeTo_succ (D : Nat → Nd) (k : Nat) : sizeTo D (k + 1) = sizeTo D k + (D k).size := rfl

theorem size_le_sizeTo (D : Nat → Nd) (n : Nat) : ∀ i, i < n → (D i).size ≤ sizeTo D n := by
  induction n with
  | zero => intro i hi; omega
  | succ n ih => intro i hi; rw [sizeTo_succ]; by_cases h : i < n
                 · have := ih i h; omega
                 · have : i = n := by omega
                   subst this; omega

/-- The two lists lie in blocks from B on. -/
def Loc.Past (l : Loc) (B : Nat) : Prop := (∃ b off, l.nA = some ⟨b, off, none⟩ ∧ B ≤ b) ∧ ∃ b off, l.kA = some ⟨b, off, none⟩ ∧ B ≤ b

theorem Loc.Past.mono {l : Loc} {B B' : Nat} (h : l.Past B) (hb : B' ≤ B) : l.Past B' := by
  obtain ⟨⟨b, o, h1, h2⟩, b', o', h3, h4⟩ := h
  exact ⟨⟨b, o, h1, by omega⟩, b', o', h3, by omega⟩

theorem NdIn.off {w : World} {d : Nd} {l : Loc} (h : NdIn w d l) {b i : Nat} (v : Value) (hp : l.Past (b + 1)) : NdIn (w.setCell ⟨b, i, none⟩ v) d l := by
  obtain ⟨h1, h2⟩ := h
  obtain ⟨⟨b1, o1, e1, g1⟩, b2, o2, e2, g2⟩ := hp
  unfold NdIn
  rw [e1] at h1 ⊢
  rw [e2] at h2 ⊢
  exact ⟨h1.off v (by omega), h2.off v (by omega)⟩

theorem run_make_wide {P : Program} (t e : TypeId) (z : Value) (bytes s : Nat) (ht : P.underlying t = some (.slice e)) (hinfo : (P.info? e).map (fun i => (i.zero, i.size, i.bytes)) = some (some z, s, bytes))
    (kl kc : IntKind) (n : Nat) (hbytes : bytes * n ≤ 281474976710656) (h63 : n ≤ 9223372036854775807) (w : World) :
    (Instr.makeSlice t (.int kl (n : Int)) (.int kc (n : Int))).run P w = .ok (.slice (some ⟨w.heap.size, 0, none⟩) n n) (w.alloc (.cells (madeCells z.cells (n * s)) e)) := by
  obtain ⟨i, hi, hzz⟩ := Option.map_eq_some_iff.1 hinfo
  simp only [Prod.mk.injEq] at hzz
  obtain ⟨hz, hs, hb⟩ := hzz
  have hb' : (i.bytes : Int) * (n : Int) ≤ 281474976710656 := by
    have h : ((i.bytes * n : Nat) : Int) ≤ 281474976710656 := by rw [hb]; omega
    rwa [Int.natCast_mul] at h
  have hr := run_make (P := P) w t e i z ht hi hz kl kc n n (by omega) (Int.le_refl _) hb' (by omega)
  simp only [Int.toNat_natCast, hs] at hr
  exact hr

/-- Two places are one. -/
def Nd.same (d e : Nd) : Bool := (d.kind == e.kind) && (d.text.toList == e.text.toList) && (decide (d.nn = e.nn) && eqS d.nn d.names e.names) && (decide (d.kn = e.kn) && eqZ d.kn d.kids e.kids) && (d.turn == e.turn)

theorem Nd.same_self (d : Nd) : d.same d = true := by
  unfold Nd.same
  rw [eqS_self _ _ _ (fun _ _ => rfl), eqZ_self _ _ _ (fun _ _ => rfl)]
  simp
end Go.Proofs.Ytokalajliphcdaa

/-
  How a place and a tree that are handed in are opened: what lies in memory from their addresses on.
-/
namespace Go.Proofs.Ytokalajliphcdaa
open Go.ChangeShapes Go.WideShapes Go.ChangeAt Go.RowKit Go.Deep
set_option linter.unusedVariables false

theorem cellsInt : Try.prog.cellsOf 3 = 1 := by kernel_rfl

theorem cellsNode : Try.prog.cellsOf 114 = 5 := by kernel_rfl

section
variable {H : Type} {enc : TypeId × Value → H} {W : World}

theorem trod5 {P : Program} {base : Nat} {spare : Nat → Bool} {held : Bool} {t : TypeId} {f0 f1 f2 f3 f4 : Field} {fuel : Nat} {cs : List Value} {x : DataW H × List MemPlace} (hs : P.underlying t = some (.struct #[f0, f1, f2, f3, f4])) (hone : oneCellFields P #[f0, f1, f2, f3, f4] = true)
    (hC : P.cellsOf t = 5) (h : DataW.trod enc P W base spare held fuel t cs = some x) :
    ∃ (v0 v1 v2 v3 v4 : Value) (y0 y1 y2 y3 y4 : DataW H × List MemPlace) (n : Nat), cs = [v0, v1, v2, v3, v4] ∧ DataW.trod enc P W base spare held n f0.type [v0] = some y0 ∧ DataW.trod enc P W base spare held n f1.type [v1] = some y1 ∧
      DataW.trod enc P W base spare held n f2.type [v2] = some y2 ∧ DataW.trod enc P W base spare held n f3.type [v3] = some y3 ∧ DataW.trod enc P W base spare held n f4.type [v4] = some y4 := by
  obtain ⟨xs, n, _, rfl, hl, hlen, hf⟩ := DataW.trod_struct hs h
  rw [hC] at hl
  obtain ⟨o0, k0⟩ := hone_of hone 0 f0 rfl
  obtain ⟨o1, k1⟩ := hone_of hone 1 f1 rfl
  obtain ⟨o2, k2⟩ := hone_of hone 2 f2 rfl
  obtain ⟨o3, k3⟩ := hone_of hone 3 f3 rfl
  obtain ⟨o4, k4⟩ := hone_of hone 4 f4 rfl
  match xs, hlen, cs, hl with
  | [y0, y1, y2, y3, y4], _, [v0, v1, v2, v3, v4], _ =>
    refine ⟨v0, v1, v2, v3, v4, y0, y1, y2, y3, y4, n, rfl, ?_, ?_, ?_, ?_, ?_⟩
    · simpa [o0, k0] using hf 0 f0 rfl
    · simpa [o1, k1] using hf 1 f1 rfl
    · simpa [o2, k2] using hf 2 f2 rfl
    · simpa [o3, k3] using hf 3 f3 rfl
    · simpa [o4, k4] using hf 4 f4 rfl

theorem openStrsC {v : Value} {fuel : Nat} {x : DataW H × List MemPlace} (h : DataW.trod enc Try.prog W 0 (fun _ => true) true fuel 87 [v] = some x) :
    ∃ (a : Option Addr) (n c : Nat) (S : Nat → ByteArray), v = .slice a n c ∧ IsStrs W a n S ∧ Small n S ∧ n ≤ maxLen := by
  rcases DataW.trod_slice Try.underlying87 h with ⟨h0, _⟩ | ⟨a, n, c, _, _, _, _, h0, _⟩
  · cases h0
    exact ⟨none, 0, 0, fun _ => ByteArray.empty, rfl, Or.inl rfl, fun i hi => by omega, by unfold maxLen; omega⟩
  · cases h0
    obtain ⟨S, h1, h2, h3⟩ := openStrs (enc := enc) (W := W) (a := some a) (n := n) (cap := c) ⟨fuel, by simpa [Value.cells] using h⟩
    exact ⟨some a, n, c, S, rfl, h1, h2, h3⟩

theorem wf64 {z : Int} (h : (Lit.int .i64 z).wf = true) : In64 z := by
  have h1 : IntKind.i64.min = -9223372036854775808 := by decide
  have h2 : IntKind.i64.max = 9223372036854775807 := by decide
  simp [Lit.wf] at h
  unfold In64
  omega

theorem openIntsC {v : Value} {fuel : Nat} {x : DataW H × List MemPlace} (h : DataW.trod enc Try.prog W 0 (fun _ => true) true fuel 24 [v] = some x) :
    ∃ (a : Option Addr) (n c : Nat) (Z : Nat → Int), v = .slice a n c ∧ IsInts W a n Z ∧ (∀ i, i < n → In64 (Z i)) ∧ n ≤ maxLen := by
  rcases open_ints Try.underlying24 Try.underlying3 cellsInt h with ⟨h0, _⟩ | ⟨a, n, c, zs, h0, _, hl, hm, hz, _, hcell, hwf⟩
  · cases h0
    exact ⟨none, 0, 0, fun _ => 0, rfl, Or.inl rfl, fun i hi => by omega, by unfold maxLen; omega⟩
  · cases h0
    simp at hz
    obtain ⟨b, off, spot⟩ := a
    refine ⟨some ⟨b, off, spot⟩, n, c, fun i => zs.getD i 0, rfl, ?_, fun i hi => ?_, by omega⟩
    · by_cases hn : n = 0
      · exact Or.inl hn
      · have h00 := hcell 0 (by omega)
        have hspot : spot = none := by simpa [Addr.add] using World.cell?_spot h00
        subst hspot
        refine Or.inr ⟨b, off, rfl, lt_of_cell (by simpa [Addr.add] using h00), fun i hi => ?_⟩
        have := hcell i (by omega)
        rw [add_plain] at this
        exact this
    · apply wf64
      show (Lit.int .i64 (zs.getD i 0)).wf = true
      rw [List.getD_eq_getElem?_getD, List.getElem?_eq_getElem (by omega)]
      exact hwf _ (List.getElem_mem _)

theorem openNodeC {cs : List Value} {fuel : Nat} {x : DataW H × List MemPlace} (h : DataW.trod enc Try.prog W 0 (fun _ => true) true fuel 114 cs = some x) :
    ∃ (d : Nd) (l : Loc), cs = [.int .i64 d.kind, .string d.text, .slice l.nA d.nn l.nc, .slice l.kA d.kn l.kc, .int .i64 d.turn] ∧ NdIn W d l ∧ d.Fits := by
  obtain ⟨v0, v1, v2, v3, v4, y0, y1, y2, y3, y4, n, rfl, h0, h1, h2, h3, h4⟩ := trod5 Try.underlying114 (by kernel_rfl) cellsNode h
  obtain ⟨z0, e0, _, w0⟩ := DataW.trod_int Try.underlying3 h0
  obtain ⟨s, e1, _, w1⟩ := DataW.trod_string Try.underlying9 h1
  obtain ⟨a2, n2, c2, S, e2, i2, m2, l2⟩ := openStrsC h2
  obtain ⟨a3, n3, c3, Z, e3, i3, m3, l3⟩ := openIntsC h3
  obtain ⟨z4, e4, _, w4⟩ := DataW.trod_int Try.underlying3 h4
  cases e0; cases e1; cases e2; cases e3; cases e4
  exact ⟨⟨z0, s, n2, S, n3, Z, z4⟩, ⟨a2, c2, a3, c3⟩, rfl, ⟨i2, i3⟩, ⟨wf64 w0, wf64 w4, w1, m2, l2, l3, m3⟩⟩

end
end Go.Proofs.Ytokalajliphcdaa

/-
  A region that draws its order, whose callees lay new memory and touch none of the old: walked once, in the order of the text, in every world that is as the first one was below a block.
-/
namespace Go.Proofs.Ytokalajliphcdaa
open Go.RowKit Go.Deep
set_option linter.unusedVariables false

/-- A world that is as w was below block B. -/
structure Lat (B : Nat) (w : World) where
  val : World
  bel : Below B w val

instance {B : Nat} {w : World} : Nonempty (Lat B w) := ⟨⟨w, Below.refl _ _⟩⟩

theorem Lat.cell {B : Nat} {w : World} {p : Addr} {v : Value} (h : w.cell? p = some v) (hp : p.block < B) : ∀ n : Lat B w, n.val.cell? p = some v := fun n => (n.bel.cell hp).trans h

theorem wp_region_lat {P : Program} {id : Nat} {Q : Exit → Act → World → Prop} {a : Act} {w w0 : World} {B : Nat} {l : List Oper} (hm : P.follows .mixedOrders = true) (hB : Region.lexB .any l.toArray = true) (hw : Below B w0 w)
    (h : wpQuiet P l.toArray (fun w' => ∃ n : Lat B w0, w' = n.val) (fun a' => ∀ w', (∃ n : Lat B w0, w' = n.val) → Q .normal a' w') l a) : (Code.region id l.toArray true).wp P Q a w :=
  wp_region_quiet (C := fun w' => ∃ n : Lat B w0, w' = n.val) hm hB ⟨⟨_, hw.drew⟩, rfl⟩ (by simpa using h)

/-- A callee that leaves all below a block as it was. -/
theorem Calls.lat_of {P : Program} {f : FuncId} {args : Array Value} {w0 : World} {B : Nat} {n : Lat B w0} {v : Value} {R : Ending → World → Prop}
    (h : Calls P f args n.val R) (hR : ∀ e w', R e w' → e = .returned v ∧ Below B n.val w') : Calls P f args n.val fun e w'' => e = .returned v ∧ ∃ m : Lat B w0, w'' = m.val :=
  h.mono fun e w' hr => ⟨(hR e w' hr).1, ⟨w', n.bel.trans (hR e w' hr).2⟩, rfl⟩
end Go.Proofs.Ytokalajliphcdaa

/-
  Places, lists of places and trees: when two are one; the value of a tree; plain facts.
-/
namespace Go.Proofs.Ytokalajliphcdaa
open Go.RowKit
set_option linter.unusedVariables false

theorem infoNode : (Try.prog.info? 89).map (fun i => (i.zero, i.size, i.bytes)) = some (some (.agg #[.int .i64 0, .string ByteArray.empty, .slice none 0 0, .slice none 0 0, .int .i64 0]), 5, 80) := by kernel_rfl

theorem same_kind {d e : Nd} (h : (d.kind != e.kind) = true) : false = d.same e := by
  have h' : (d.kind == e.kind) = false := by simpa using h
  unfold Nd.same; rw [h']; rfl
theorem same_text {d e : Nd} (h : (!d.text.toList == e.text.toList) = true) : false = d.same e := by
  have h' : (d.text.toList == e.text.toList) = false := by simpa using h
  unfold Nd.same; rw [h']; simp
theorem same_names {d e : Nd} (h : (decide (d.nn = e.nn) && eqS d.nn d.names e.names) = false) : false = d.same e := by
  unfold Nd.same; rw [h]; simp
theorem same_kids {d e : Nd} (h : (decide (d.kn = e.kn) && eqZ d.kn d.kids e.kids) = false) : false = d.same e := by
  unfold Nd.same; rw [h]; simp
theorem same_turn {d e : Nd} (h : (d.turn != e.turn) = true) : false = d.same e := by
  have h' : (d.turn == e.turn) = false := by simpa using h
  unfold Nd.same; rw [h']; simp
theorem same_yes {d e : Nd} (h1 : (d.kind != e.kind) = false) (h2 : (!d.text.toList == e.text.toList) = false) (h3 : (decide (d.nn = e.nn) && eqS d.nn d.names e.names) = true)
    (h4 : (decide (d.kn = e.kn) && eqZ d.kn d.kids e.kids) = true) (h5 : (d.turn != e.turn) = false) : true = d.same e := by
  have h1' : (d.kind == e.kind) = true := by simpa using h1
  have h2' : (d.text.toList == e.text.toList) = true := by simpa using h2
  have h5' : (d.turn == e.turn) = true := by simpa using h5
  unfold Nd.same; rw [h1', h2', h3, h4, h5']; rfl

/-- Two lists of places are one. -/
def sameAll (n : Nat) (D E : Nat → Nd) : Bool := (List.range n).all fun i => (D i).same (E i)

theorem sameAll_succ (k : Nat) (D E : Nat → Nd) (h : sameAll k D E = true) (hk : (D k).same (E k) = true) : sameAll (k + 1) D E = true := by
  unfold sameAll at *
  rw [List.range_succ, List.all_append, h]; simpa using hk

theorem sameAll_not (n k : Nat) (D E : Nat → Nd) (hk : k < n) (h : (D k).same (E k) = false) : false = sameAll n D E := by
  symm
  rw [Bool.eq_false_iff]
  intro ha
  have := List.all_eq_true.1 ha k (by simpa using hk)
  simp [this] at h

theorem sameAll_self (n : Nat) (D : Nat → Nd) : sameAll n D D = true := by
  unfold sameAll
  rw [List.all_eq_true]
  intro i hi
  exact Nd.same_self _

/-- The value of a tree. -/
def trV (a : Option Addr) (n c : Nat) (now : Int) : Value := .agg #[.slice a n c, .int .i64 now]

theorem rowIs_wide (w : World) (z : Array Value) (n : Nat) (t : TypeId) : ∃ g, (w.alloc (.cells (madeCells z n) t)).rowIs w.heap.size t n g :=
  ⟨fun i => (madeCells z n).getD i undef, _, Go.Deep.blk_alloc_new _ _, size_madeCells _ _, fun i hi => by
    have h : i < (madeCells z n).size := by rw [size_madeCells]; exact hi
    simp [Array.getElem?_eq_getElem h]⟩

theorem rowIs_below {w w' : World} {b n : Nat} {t : TypeId} {f : Nat → Value} (h : w.rowIs b t n f) {B : Nat} (hb : Below B w w') (hB : b < B) : w'.rowIs b t n f := h.of_block (hb.block b hB)
end Go.Proofs.Ytokalajliphcdaa

/-
  Lists of truth values as they lie in memory: plain facts.
-/
namespace Go.Proofs.Ytokalajliphcdaa
open Go.RowKit
set_option linter.unusedVariables false

theorem infoBool : (Try.prog.info? 4).map (fun i => (i.zero, i.size, i.bytes)) = some (some (.bool false), 1, 1) := by kernel_rfl

/-- n truth values lie in memory from the address on. -/
def IsBools (w : World) (a : Option Addr) (n : Nat) (Z : Nat → Bool) : Prop :=
  n = 0 ∨ ∃ b off, a = some ⟨b, off, none⟩ ∧ b < w.heap.size ∧ ∀ i, i < n → w.cell? ⟨b, off + i, none⟩ = some (.bool (Z i))

theorem IsBools.at {w : World} {a : Option Addr} {n : Nat} {Z : Nat → Bool} (h : IsBools w a n Z) {k : Nat} (hk : k < n) :
    ∃ b off, a = some ⟨b, off, none⟩ ∧ b < w.heap.size ∧ ∀ i, i < n → w.cell? ⟨b, off + i, none⟩ = some (.bool (Z i)) := by
  rcases h with h | h
  · omega
  · exact h

theorem IsBools.below {w w' : World} {a : Option Addr} {n : Nat} {Z : Nat → Bool} (h : IsBools w a n Z) {B : Nat} (hB : w.heap.size ≤ B) (hb : Below B w w') : IsBools w' a n Z := by
  rcases h with h | ⟨b, off, ha, hlt, hc⟩
  · exact Or.inl h
  · exact Or.inr ⟨b, off, ha, by have := hb.size; omega, fun i hi => by rw [hb.cell (p := ⟨b, off + i, none⟩) (by show b < B; omega)]; exact hc i hi⟩

def eqB (n : Nat) (Z Y : Nat → Bool) : Bool := (List.range n).all fun i => Z i == Y i

theorem eqB_succ (k : Nat) (Z Y : Nat → Bool) (h : eqB k Z Y = true) (hk : Z k = Y k) : eqB (k + 1) Z Y = true := by
  unfold eqB at *
  rw [List.range_succ, List.all_append, h]; simpa using hk

theorem eqB_not (n k : Nat) (Z Y : Nat → Bool) (hk : k < n) (h : ¬ Z k = Y k) : false = eqB n Z Y := by
  symm
  rw [Bool.eq_false_iff]
  intro ha
  have := List.all_eq_true.1 ha k (by simpa using hk)
  simp at this; exact h this

theorem eqB_self (n : Nat) (Z Y : Nat → Bool) (h : ∀ i, i < n → Z i = Y i) : eqB n Z Y = true := by
  unfold eqB
  rw [List.all_eq_true]
  intro i hi
  rw [h i (by simpa using hi)]
  simp

theorem IsBools.row {w : World} {b n : Nat} {Z : Nat → Bool} (h : w.rowIs b 4 n (fun i => .bool (Z i))) : IsBools w (some ⟨b, 0, none⟩) n Z :=
  Or.inr ⟨b, 0, rfl, h.lt, fun i hi => by rw [Nat.zero_add]; exact h.cell hi⟩
theorem IsBools.off {w : World} {b' off' n : Nat} {Z : Nat → Bool} (h : IsBools w (some ⟨b', off', none⟩) n Z) {b i : Nat} (v : Value) (hb : b' ≠ b) : IsBools (w.setCell ⟨b, i, none⟩ v) (some ⟨b', off', none⟩) n Z := by
  rcases h with h | ⟨b0, o0, ha, hlt, hc⟩
  · exact Or.inl h
  · cases ha
    exact Or.inr ⟨b', off', rfl, by simpa [World.setCell] using hlt, fun i hi => by rw [← hc i hi]; exact World.cell?_of_block (Go.Deep.blk_setCell_other _ _ _ _ hb)⟩
end Go.Proofs.Ytokalajliphcdaa

/-
  Places that were turned, and what is kept of a tree, as they lie in memory: plain facts.
-/
namespace Go.Proofs.Ytokalajliphcdaa
open Go.RowKit
set_option linter.unusedVariables false

theorem infoItem : (Try.prog.info? 91).map (fun i => (i.zero, i.size, i.bytes)) = some (some (.agg #[.int .i64 0, .int .i64 0, .string ByteArray.empty, .slice none 0 0, .slice none 0 0, .int .i64 0]), 6, 88) := by kernel_rfl

/-- The value of a place that was turned. -/
def itV (o : Int) (d : Nd) (l : Loc) : Value := .agg #[.int .i64 o, .int .i64 d.kind, .string d.text, .slice l.nA d.nn l.nc, .slice l.kA d.kn l.kc, .int .i64 d.turn]

/-- n of them lie in memory from the address on, six cells each. -/
def IsIts (w : World) (a : Option Addr) (n : Nat) (O : Nat → Int) (D : Nat → Nd) (L : Nat → Loc) : Prop :=
  n = 0 ∨ ∃ b off, a = some ⟨b, off, none⟩ ∧ b < w.heap.size ∧ ∀ i, i < n →
    w.cell? ⟨b, off + i * 6, none⟩ = some (.int .i64 (O i)) ∧ w.cell? ⟨b, off + i * 6 + 1, none⟩ = some (.int .i64 (D i).kind) ∧ w.cell? ⟨b, off + i * 6 + 2, none⟩ = some (.string (D i).text) ∧
    w.cell? ⟨b, off + i * 6 + 3, none⟩ = some (.slice (L i).nA (D i).nn (L i).nc) ∧ w.cell? ⟨b, off + i * 6 + 4, none⟩ = some (.slice (L i).kA (D i).kn (L i).kc) ∧
    w.cell? ⟨b, off + i * 6 + 5, none⟩ = some (.int .i64 (D i).turn) ∧ NdIn w (D i) (L i)

theorem IsIts.at {w : World} {a : Option Addr} {n : Nat} {O : Nat → Int} {D : Nat → Nd} {L : Nat → Loc} (h : IsIts w a n O D L) {k : Nat} (hk : k < n) :
    ∃ b off, a = some ⟨b, off, none⟩ ∧ b < w.heap.size ∧ ∀ i, i < n →
    w.cell? ⟨b, off + i * 6, none⟩ = some (.int .i64 (O i)) ∧ w.cell? ⟨b, off + i * 6 + 1, none⟩ = some (.int .i64 (D i).kind) ∧ w.cell? ⟨b, off + i * 6 + 2, none⟩ = some (.string (D i).text) ∧
    w.cell? ⟨b, off + i * 6 + 3, none⟩ = some (.slice (L i).nA (D i).nn (L i).nc) ∧ w.cell? ⟨b, off + i * 6 + 4, none⟩ = some (.slice (L i).kA (D i).kn (L i).kc) ∧
    w.cell? ⟨b, off + i * 6 + 5, none⟩ = some (.int .i64 (D i).turn) ∧ NdIn w (D i) (L i) := by
  rcases h with h | h
  · omega
  · exact h

theorem IsIts.below {w w' : World} {a : Option Addr} {n : Nat} {O : Nat → Int} {D : Nat → Nd} {L : Nat → Loc} (h : IsIts w a n O D L) {B : Nat} (hB : w.heap.size ≤ B) (hb : Below B w w') : IsIts w' a n O D L := by
  rcases h with h | ⟨b, off, ha, hlt, hc⟩
  · exact Or.inl h
  · have hs := hb.size
    refine Or.inr ⟨b, off, ha, by omega, fun i hi => ?_⟩
    obtain ⟨h0, h1, h2, h3, h4, h5, h6⟩ := hc i hi
    have e : ∀ o, w'.cell? ⟨b, o, none⟩ = w.cell? ⟨b, o, none⟩ := fun o => hb.cell (p := ⟨b, o, none⟩) (by show b < B; omega)
    exact ⟨(e _).trans h0, (e _).trans h1, (e _).trans h2, (e _).trans h3, (e _).trans h4, (e _).trans h5, h6.below hB hb⟩

/-- Two are one. -/
def sameIt (o p : Int) (d e : Nd) : Bool := (o == p) && d.same e
def sameIts (n : Nat) (O P : Nat → Int) (D E : Nat → Nd) : Bool := (List.range n).all fun i => sameIt (O i) (P i) (D i) (E i)

theorem sameIts_succ (k : Nat) (O P : Nat → Int) (D E : Nat → Nd) (h : sameIts k O P D E = true) (hk : sameIt (O k) (P k) (D k) (E k) = true) : sameIts (k + 1) O P D E = true := by
  unfold sameIts at *
  rw [List.range_succ, List.all_append, h]; simpa using hk

theorem sameIts_not (n k : Nat) (O P : Nat → Int) (D E : Nat → Nd) (hk : k < n) (h : sameIt (O k) (P k) (D k) (E k) = false) : false = sameIts n O P D E := by
  symm
  rw [Bool.eq_false_iff]
  intro ha
  have := List.all_eq_true.1 ha k (by simpa using hk)
  simp [this] at h

theorem sameIts_self (n : Nat) (O : Nat → Int) (D : Nat → Nd) : sameIts n O O D D = true := by
  unfold sameIts
  rw [List.all_eq_true]
  intro i hi
  unfold sameIt
  rw [Nd.same_self]
  simp

/-- What is kept: since when, till when, so many truth values, so many places that were turned. -/
structure Dp where
  since : Int
  date : Int
  ln : Nat
  live : Nat → Bool
  m : Nat
  ino : Nat → Int
  nd : Nat → Nd

/-- Where its lists lie. -/
structure DLoc where
  lA : Option Addr
  lc : Nat
  iA : Option Addr
  ic : Nat
  L : Nat → Loc

def dpV (d : Dp) (l : DLoc) : Value := .agg #[.int .i64 d.since, .int .i64 d.date, .slice l.lA d.ln l.lc, .slice l.iA d.m l.ic]

structure DpIn (w : World) (d : Dp) (l : DLoc) : Prop where
  live : IsBools w l.lA d.ln d.live
  items : IsIts w l.iA d.m d.ino d.nd l.L

theorem DpIn.below {w w' : World} {d : Dp} {l : DLoc} (h : DpIn w d l) {B : Nat} (hB : w.heap.size ≤ B) (hb : Below B w w') : DpIn w' d l := ⟨h.live.below hB hb, h.items.below hB hb⟩

/-- The bounds that hold of all that is handed in. -/
structure Dp.Fits (d : Dp) : Prop where
  since : In64 d.since
  date : In64 d.date
  ln : d.ln ≤ maxLen
  m : d.m ≤ maxLen
  ino : ∀ i, i < d.m → In64 (d.ino i)
  nds : FitAll d.m d.nd

/-- What it counts. -/
def Dp.size (d : Dp) : Nat := d.ln + d.m + sizeTo d.nd d.m

/-- Two are one. -/
def Dp.same (d e : Dp) : Bool := (d.since == e.since) && (d.date == e.date) && (decide (d.ln = e.ln) && eqB d.ln d.live e.live) && (decide (d.m = e.m) && sameIts d.m d.ino e.ino d.nd e.nd)

theorem Dp.same_self (d : Dp) : d.same d = true := by
  unfold Dp.same
  rw [eqB_self _ _ _ (fun _ _ => rfl), sameIts_self]
  simp

/-- n places that were turned lie in a block of their own, so many of them laid. -/
structure ItRow (w : World) (b n k : Nat) (O : Nat → Int) (D : Nat → Nd) (L : Nat → Loc) : Prop where
  row : ∃ g, w.rowIs b 91 (n * 6) g ∧ ∀ i, i < k → g (i * 6) = .int .i64 (O i) ∧ g (i * 6 + 1) = .int .i64 (D i).kind ∧ g (i * 6 + 2) = .string (D i).text ∧ g (i * 6 + 3) = .slice (L i).nA (D i).nn (L i).nc ∧ g (i * 6 + 4) = .slice (L i).kA (D i).kn (L i).kc ∧ g (i * 6 + 5) = .int .i64 (D i).turn
  lists : ∀ i, i < k → NdIn w (D i) (L i) ∧ (L i).Past (b + 1)

theorem ItRow.its {w : World} {b n : Nat} {O : Nat → Int} {D : Nat → Nd} {L : Nat → Loc} (h : ItRow w b n n O D L) : IsIts w (some ⟨b, 0, none⟩) n O D L := by
  obtain ⟨⟨g, hr, hg⟩, hl⟩ := h
  refine Or.inr ⟨b, 0, rfl, hr.lt, fun i hi => ?_⟩
  obtain ⟨g0, g1, g2, g3, g4, g5⟩ := hg i hi
  rw [Nat.zero_add, ← g0, ← g1, ← g2, ← g3, ← g4, ← g5]
  exact ⟨hr.cell (by omega), hr.cell (by omega), hr.cell (by omega), hr.cell (by omega), hr.cell (by omega), hr.cell (by omega), (hl i hi).1⟩

theorem ItRow.below {w w' : World} {b n k : Nat} {O : Nat → Int} {D : Nat → Nd} {L : Nat → Loc} (h : ItRow w b n k O D L) {B : Nat} (hB : w.heap.size ≤ B) (hb : Below B w w') : ItRow w' b n k O D L := by
  obtain ⟨⟨g, hr, hg⟩, hl⟩ := h
  have := hr.lt
  exact ⟨⟨g, rowIs_below hr hb (by omega), hg⟩, fun i hi => ⟨(hl i hi).1.below hB hb, (hl i hi).2⟩⟩

theorem ItRow.off {w : World} {b n k : Nat} {O : Nat → Int} {D : Nat → Nd} {L : Nat → Loc} (h : ItRow w b n k O D L) {b' i : Nat} (v : Value) (hb : b' < b) : ItRow (w.setCell ⟨b', i, none⟩ v) b n k O D L := by
  obtain ⟨⟨g, hr, hg⟩, hl⟩ := h
  exact ⟨⟨g, hr.setOther (a := ⟨b', i, none⟩) (show b ≠ b' by omega) v, hg⟩, fun i hi => ⟨(hl i hi).1.off v ((hl i hi).2.mono (by omega)), (hl i hi).2⟩⟩

theorem six_ne {i k r s : Nat} (h : i ≠ k) (hr : r < 6) (hs : s < 6) : i * 6 + r ≠ k * 6 + s := by omega

theorem ItRow.step {w : World} {b n k : Nat} {O : Nat → Int} {D : Nat → Nd} {L : Nat → Loc} (h : ItRow w b n k O D L) {l : Loc} (hI : NdIn w (D k) l) (hp : l.Past (b + 1)) :
    ItRow ((((((w.setCell ⟨b, k * 6, none⟩ (.int .i64 (O k))).setCell ⟨b, k * 6 + 1, none⟩ (.int .i64 (D k).kind)).setCell ⟨b, k * 6 + 2, none⟩ (.string (D k).text)).setCell ⟨b, k * 6 + 3, none⟩ (.slice l.nA (D k).nn l.nc)).setCell ⟨b, k * 6 + 4, none⟩ (.slice l.kA (D k).kn l.kc)).setCell ⟨b, k * 6 + 5, none⟩ (.int .i64 (D k).turn)) b n (k + 1) O D (fun i => if i = k then l else L i) := by
  obtain ⟨⟨g, hr, hg⟩, hl⟩ := h
  refine ⟨⟨_, (((((hr.set _ _).set _ _).set _ _).set _ _).set _ _).set _ _, fun i hi => ?_⟩, fun i hi => ?_⟩
  · by_cases e : i = k
    · subst e
      simp
    · have := hg i (by omega)
      have n0 : ∀ r s, r < 6 → s < 6 → ¬ i * 6 + r = k * 6 + s := fun r s hr hs => six_ne e hr hs
      have z0 : ∀ s, s < 6 → ¬ i * 6 = k * 6 + s := fun s hs => n0 0 s (by omega) hs
      have z1 : ∀ r, r < 6 → ¬ i * 6 + r = k * 6 := fun r hr => n0 r 0 hr (by omega)
      have z2 : ¬ i * 6 = k * 6 := n0 0 0 (by omega) (by omega)
      simp only [if_neg e]
      refine ⟨?_, ?_, ?_, ?_, ?_, ?_⟩
      · rw [if_neg (z0 5 (by omega)), if_neg (z0 4 (by omega)), if_neg (z0 3 (by omega)), if_neg (z0 2 (by omega)), if_neg (z0 1 (by omega)), if_neg z2]; exact this.1
      · rw [if_neg (n0 1 5 (by omega) (by omega)), if_neg (n0 1 4 (by omega) (by omega)), if_neg (n0 1 3 (by omega) (by omega)), if_neg (n0 1 2 (by omega) (by omega)), if_neg (n0 1 1 (by omega) (by omega)), if_neg (z1 1 (by omega))]; exact this.2.1
      · rw [if_neg (n0 2 5 (by omega) (by omega)), if_neg (n0 2 4 (by omega) (by omega)), if_neg (n0 2 3 (by omega) (by omega)), if_neg (n0 2 2 (by omega) (by omega)), if_neg (n0 2 1 (by omega) (by omega)), if_neg (z1 2 (by omega))]; exact this.2.2.1
      · rw [if_neg (n0 3 5 (by omega) (by omega)), if_neg (n0 3 4 (by omega) (by omega)), if_neg (n0 3 3 (by omega) (by omega)), if_neg (n0 3 2 (by omega) (by omega)), if_neg (n0 3 1 (by omega) (by omega)), if_neg (z1 3 (by omega))]; exact this.2.2.2.1
      · rw [if_neg (n0 4 5 (by omega) (by omega)), if_neg (n0 4 4 (by omega) (by omega)), if_neg (n0 4 3 (by omega) (by omega)), if_neg (n0 4 2 (by omega) (by omega)), if_neg (n0 4 1 (by omega) (by omega)), if_neg (z1 4 (by omega))]; exact this.2.2.2.2.1
      · rw [if_neg (n0 5 5 (by omega) (by omega)), if_neg (n0 5 4 (by omega) (by omega)), if_neg (n0 5 3 (by omega) (by omega)), if_neg (n0 5 2 (by omega) (by omega)), if_neg (n0 5 1 (by omega) (by omega)), if_neg (z1 5 (by omega))]; exact this.2.2.2.2.2
  · by_cases e : i = k
    · subst e
      simp only [if_true]
      exact ⟨(((((hI.off _ hp).off _ hp).off _ hp).off _ hp).off _ hp).off _ hp, hp⟩
    · obtain ⟨h1, h2⟩ := hl i (by omega)
      simp only [if_neg e]
      exact ⟨(((((h1.off _ h2).off _ h2).off _ h2).off _ h2).off _ h2).off _ h2, h2⟩
end Go.Proofs.Ytokalajliphcdaa

/-
  How what is kept of a tree, handed in, is opened: what lies in memory from its addresses on.
-/
namespace Go.Proofs.Ytokalajliphcdaa
open Go.ChangeShapes Go.WideShapes Go.ChangeAt Go.RowKit Go.Deep
set_option linter.unusedVariables false

theorem cellsBool : Try.prog.cellsOf 4 = 1 := by kernel_rfl
theorem cellsItem : Try.prog.cellsOf 116 = 6 := by kernel_rfl
theorem cellsDump : Try.prog.cellsOf 58 = 4 := by kernel_rfl

section
variable {H : Type} {enc : TypeId × Value → H} {W : World}

theorem openBoolsC {v : Value} {fuel : Nat} {x : DataW H × List MemPlace} (h : DataW.trod enc Try.prog W 0 (fun _ => true) true fuel 55 [v] = some x) :
    ∃ (a : Option Addr) (n c : Nat) (Z : Nat → Bool), v = .slice a n c ∧ IsBools W a n Z ∧ n ≤ maxLen := by
  rcases open_slice1 Try.underlying55 cellsBool h with ⟨h0, _⟩ | ⟨a, n, c, m, fl, V, DD, Pl, h0, _, hl, hm, hmm, _, hx⟩
  · cases h0
    exact ⟨none, 0, 0, fun _ => false, rfl, Or.inl rfl, by unfold maxLen; omega⟩
  · cases h0
    simp at hmm
    have each : ∀ i, i < n → ∃ q : Bool, W.cell? (a.add i) = some (.bool q) := fun i hi => by
      obtain ⟨h1, h2⟩ := hx i (by omega)
      obtain ⟨q, e, _⟩ := DataW.trod_bool Try.underlying4 h2
      have e' : V i = .bool q := by simpa using e
      exact ⟨q, by rw [h1, e']⟩
    obtain ⟨f, hf⟩ := choose_lt each
    obtain ⟨b, off, spot⟩ := a
    refine ⟨some ⟨b, off, spot⟩, n, c, f, rfl, ?_, by omega⟩
    by_cases hn : n = 0
    · exact Or.inl hn
    · have h00 := hf 0 (by omega)
      have hspot : spot = none := by simpa [Addr.add] using World.cell?_spot h00
      subst hspot
      refine Or.inr ⟨b, off, rfl, lt_of_cell (by simpa [Addr.add] using h00), fun i hi => ?_⟩
      have := hf i hi
      rw [add_plain] at this
      exact this

theorem trod15 {P : Program} {base : Nat} {spare : Nat → Bool} {held : Bool} {t : TypeId} {f0 f1 : Field} {fuel : Nat} {cs : List Value} {x : DataW H × List MemPlace} (hs : P.underlying t = some (.struct #[f0, f1])) (h0 : f0.offset = 0) (h1 : f1.offset = 1) (c0 : P.cellsOf f0.type = 1) (c1 : P.cellsOf f1.type = 5)
    (hC : P.cellsOf t = 6) (h : DataW.trod enc P W base spare held fuel t cs = some x) :
    ∃ (v0 v1 v2 v3 v4 v5 : Value) (y0 y1 : DataW H × List MemPlace) (n : Nat), cs = [v0, v1, v2, v3, v4, v5] ∧ DataW.trod enc P W base spare held n f0.type [v0] = some y0 ∧ DataW.trod enc P W base spare held n f1.type [v1, v2, v3, v4, v5] = some y1 := by
  obtain ⟨y0, y1, n, _, hl, g0, g1⟩ := trod_struct2 hs h
  rw [hC] at hl
  match cs, hl with
  | [v0, v1, v2, v3, v4, v5], _ => exact ⟨v0, v1, v2, v3, v4, v5, y0, y1, n, rfl, by simpa [h0, c0] using g0, by simpa [h1, c1] using g1⟩

theorem trod4 {P : Program} {base : Nat} {spare : Nat → Bool} {held : Bool} {t : TypeId} {f0 f1 f2 f3 : Field} {fuel : Nat} {cs : List Value} {x : DataW H × List MemPlace} (hs : P.underlying t = some (.struct #[f0, f1, f2, f3])) (hone : oneCellFields P #[f0, f1, f2, f3] = true)
    (hC : P.cellsOf t = 4) (h : DataW.trod enc P W base spare held fuel t cs = some x) :
    ∃ (v0 v1 v2 v3 : Value) (y0 y1 y2 y3 : DataW H × List MemPlace) (n : Nat), cs = [v0, v1, v2, v3] ∧ DataW.trod enc P W base spare held n f0.type [v0] = some y0 ∧ DataW.trod enc P W base spare held n f1.type [v1] = some y1 ∧
      DataW.trod enc P W base spare held n f2.type [v2] = some y2 ∧ DataW.trod enc P W base spare held n f3.type [v3] = some y3 := by
  obtain ⟨xs, n, _, rfl, hl, hlen, hf⟩ := DataW.trod_struct hs h
  rw [hC] at hl
  obtain ⟨o0, k0⟩ := hone_of hone 0 f0 rfl
  obtain ⟨o1, k1⟩ := hone_of hone 1 f1 rfl
  obtain ⟨o2, k2⟩ := hone_of hone 2 f2 rfl
  obtain ⟨o3, k3⟩ := hone_of hone 3 f3 rfl
  match xs, hlen, cs, hl with
  | [y0, y1, y2, y3], _, [v0, v1, v2, v3], _ =>
    refine ⟨v0, v1, v2, v3, y0, y1, y2, y3, n, rfl, ?_, ?_, ?_, ?_⟩
    · simpa [o0, k0] using hf 0 f0 rfl
    · simpa [o1, k1] using hf 1 f1 rfl
    · simpa [o2, k2] using hf 2 f2 rfl
    · simpa [o3, k3] using hf 3 f3 rfl

theorem openItemC {cs : List Value} {fuel : Nat} {x : DataW H × List MemPlace} (h : DataW.trod enc Try.prog W 0 (fun _ => true) true fuel 116 cs = some x) :
    ∃ (o : Int) (d : Nd) (l : Loc), cs = [.int .i64 o, .int .i64 d.kind, .string d.text, .slice l.nA d.nn l.nc, .slice l.kA d.kn l.kc, .int .i64 d.turn] ∧ NdIn W d l ∧ d.Fits ∧ In64 o := by
  obtain ⟨v0, v1, v2, v3, v4, v5, y0, y1, n, rfl, h0, h1⟩ := trod15 Try.underlying116 rfl rfl cellsInt cellsNode cellsItem h
  obtain ⟨o, e0, _, w0⟩ := DataW.trod_int Try.underlying3 h0
  obtain ⟨d, l, e1, hI, hf⟩ := openNodeC h1
  cases e0; cases e1
  exact ⟨o, d, l, rfl, hI, hf, wf64 w0⟩

theorem openItemsC {v : Value} {fuel : Nat} {x : DataW H × List MemPlace} (h : DataW.trod enc Try.prog W 0 (fun _ => true) true fuel 56 [v] = some x) :
    ∃ (a : Option Addr) (n c : Nat) (O : Nat → Int) (D : Nat → Nd) (L : Nat → Loc), v = .slice a n c ∧ IsIts W a n O D L ∧ FitAll n D ∧ (∀ i, i < n → In64 (O i)) ∧ n ≤ maxLen := by
  rcases open_slice Try.underlying56 h with ⟨h0, _⟩ | ⟨a, n, c, m, fl, DD, Pl, h0, _, hl, hm, hmm, _, hx⟩
  · cases h0
    exact ⟨none, 0, 0, fun _ => 0, fun _ => default, fun _ => default, rfl, Or.inl rfl, fun i hi => by omega, fun i hi => by omega, by unfold maxLen; omega⟩
  · cases h0
    simp at hmm
    have each : ∀ i, i < n → ∃ p : Int × Nd × Loc, W.cells? 0 (a.add (i * 6)) 6 = some [.int .i64 p.1, .int .i64 p.2.1.kind, .string p.2.1.text, .slice p.2.2.nA p.2.1.nn p.2.2.nc, .slice p.2.2.kA p.2.1.kn p.2.2.kc, .int .i64 p.2.1.turn] ∧ NdIn W p.2.1 p.2.2 ∧ p.2.1.Fits ∧ In64 p.1 := by
      intro i hi
      obtain ⟨cs', h1, h2⟩ := hx i (by omega)
      rw [cellsItem] at h1
      obtain ⟨o, d, l, rfl, h3, h4, h5⟩ := openItemC h2
      exact ⟨(o, d, l), h1, h3, h4, h5⟩
    obtain ⟨f, hf⟩ := choose_lt each
    refine ⟨some a, n, c, fun i => (f i).1, fun i => (f i).2.1, fun i => (f i).2.2, rfl, ?_, fun i hi => (hf i hi).2.2.1, fun i hi => (hf i hi).2.2.2, by omega⟩
    by_cases hn : n = 0
    · exact Or.inl hn
    · obtain ⟨b, off, spot⟩ := a
      have h00 := (World.cells?_some (hf 0 (by omega)).1).2.2 0 (by omega)
      have hspot : spot = none := by
        have : W.cell? ⟨b, off, spot⟩ = some (.int .i64 (f 0).1) := by simpa [Addr.add] using h00
        simpa using World.cell?_spot this
      subst hspot
      have h00' : W.cell? ⟨b, off, none⟩ = some (.int .i64 (f 0).1) := by simpa [Addr.add] using h00
      refine Or.inr ⟨b, off, rfl, lt_of_cell h00', fun i hi => ?_⟩
      obtain ⟨h1, h2, _⟩ := hf i hi
      have g := (World.cells?_some h1).2.2
      have e : ∀ j, j < 6 → W.cell? ⟨b, off + i * 6 + j, none⟩ = [Value.int .i64 (f i).1, .int .i64 (f i).2.1.kind, .string (f i).2.1.text, .slice (f i).2.2.nA (f i).2.1.nn (f i).2.2.nc, .slice (f i).2.2.kA (f i).2.1.kn (f i).2.2.kc, .int .i64 (f i).2.1.turn][j]? := by
        intro j hj
        have := g j hj
        rw [add_add, add_plain] at this
        rw [← this, Nat.add_assoc]
      exact ⟨by simpa using e 0 (by omega), by simpa using e 1 (by omega), by simpa using e 2 (by omega), by simpa using e 3 (by omega), by simpa using e 4 (by omega), by simpa using e 5 (by omega), h2⟩

set_option maxRecDepth 100000 in
theorem openDumpC {cs : List Value} {fuel : Nat} {x : DataW H × List MemPlace} (h : DataW.trod enc Try.prog W 0 (fun _ => true) true fuel 58 cs = some x) :
    ∃ (d : Dp) (l : DLoc), cs = [.int .i64 d.since, .int .i64 d.date, .slice l.lA d.ln l.lc, .slice l.iA d.m l.ic] ∧ DpIn W d l ∧ d.Fits := by
  obtain ⟨v0, v1, v2, v3, y0, y1, y2, y3, n, rfl, h0, h1, h2, h3⟩ := trod4 Try.underlying58 (by kernel_rfl) cellsDump h
  obtain ⟨z0, e0, _, w0⟩ := DataW.trod_int Try.underlying3 h0
  obtain ⟨z1, e1, _, w1⟩ := DataW.trod_int Try.underlying3 h1
  obtain ⟨a2, n2, c2, Z, e2, i2, l2⟩ := openBoolsC h2
  obtain ⟨a3, n3, c3, O, D, L, e3, i3, f3, m3, l3⟩ := openItemsC h3
  cases e0; cases e1; cases e2; cases e3
  exact ⟨⟨z0, z1, n2, Z, n3, O, D⟩, ⟨a2, c2, a3, c3, L⟩, rfl, ⟨i2, i3⟩, ⟨wf64 w0, wf64 w1, l2, l3, m3, f3⟩⟩

set_option maxRecDepth 100000 in
theorem openDump {r : Reach} {b0 : Nat} {v : Value} {d : DataW H} {p : List MemPlace} (hv : Value.okWide Try.prog W r b0 58 v) (h : DataW.Trod enc Try.prog W 0 (fun _ => true) true 58 v d p) :
    ∃ (e : Dp) (l : DLoc), v = dpV e l ∧ DpIn W e l ∧ e.Fits := by
  obtain ⟨cs, rfl, hsz⟩ := okWide_struct Try.underlying58 hv
  obtain ⟨fuel, hf⟩ := h
  obtain ⟨e, l, hcs, hI, hF⟩ := openDumpC hf
  refine ⟨e, l, ?_, hI, hF⟩
  unfold dpV
  congr 1
  apply Array.toList_inj.1
  simpa [Value.cells] using hcs
end
end Go.Proofs.Ytokalajliphcdaa

/-
  What was kept, with its levels, as it lies in memory: plain facts.
-/
namespace Go.Proofs.Ytokalajliphcdaa
open Go.RowKit Go.Deep
set_option linter.unusedVariables false

theorem infoRec : (Try.prog.info? 65).map (fun i => (i.zero, i.size, i.bytes)) = some (some (.agg #[.int .i64 0, .int .i64 0, .int .i64 0, .slice none 0 0, .slice none 0 0]), 5, 72) := by kernel_rfl

/-- The value of a thing kept, with its level. -/
def recV (v : Int) (d : Dp) (l : DLoc) : Value := .agg #[.int .i64 v, .int .i64 d.since, .int .i64 d.date, .slice l.lA d.ln l.lc, .slice l.iA d.m l.ic]

/-- n of them lie in memory from the address on, five cells each. -/
def IsRecs (w : World) (a : Option Addr) (n : Nat) (V : Nat → Int) (D : Nat → Dp) (L : Nat → DLoc) : Prop :=
  n = 0 ∨ ∃ b off, a = some ⟨b, off, none⟩ ∧ b < w.heap.size ∧ ∀ i, i < n →
    w.cell? ⟨b, off + i * 5, none⟩ = some (.int .i64 (V i)) ∧ w.cell? ⟨b, off + i * 5 + 1, none⟩ = some (.int .i64 (D i).since) ∧ w.cell? ⟨b, off + i * 5 + 2, none⟩ = some (.int .i64 (D i).date) ∧
    w.cell? ⟨b, off + i * 5 + 3, none⟩ = some (.slice (L i).lA (D i).ln (L i).lc) ∧ w.cell? ⟨b, off + i * 5 + 4, none⟩ = some (.slice (L i).iA (D i).m (L i).ic) ∧ DpIn w (D i) (L i)

theorem IsRecs.at {w : World} {a : Option Addr} {n : Nat} {V : Nat → Int} {D : Nat → Dp} {L : Nat → DLoc} (h : IsRecs w a n V D L) {k : Nat} (hk : k < n) :
    ∃ b off, a = some ⟨b, off, none⟩ ∧ b < w.heap.size ∧ ∀ i, i < n →
    w.cell? ⟨b, off + i * 5, none⟩ = some (.int .i64 (V i)) ∧ w.cell? ⟨b, off + i * 5 + 1, none⟩ = some (.int .i64 (D i).since) ∧ w.cell? ⟨b, off + i * 5 + 2, none⟩ = some (.int .i64 (D i).date) ∧
    w.cell? ⟨b, off + i * 5 + 3, none⟩ = some (.slice (L i).lA (D i).ln (L i).lc) ∧ w.cell? ⟨b, off + i * 5 + 4, none⟩ = some (.slice (L i).iA (D i).m (L i).ic) ∧ DpIn w (D i) (L i) := by
  rcases h with h | h
  · omega
  · exact h

theorem IsRecs.below {w w' : World} {a : Option Addr} {n : Nat} {V : Nat → Int} {D : Nat → Dp} {L : Nat → DLoc} (h : IsRecs w a n V D L) {B : Nat} (hB : w.heap.size ≤ B) (hb : Below B w w') : IsRecs w' a n V D L := by
  rcases h with h | ⟨b, off, ha, hlt, hc⟩
  · exact Or.inl h
  · have hs := hb.size
    refine Or.inr ⟨b, off, ha, by omega, fun i hi => ?_⟩
    obtain ⟨h0, h1, h2, h3, h4, h5⟩ := hc i hi
    have e : ∀ o, w'.cell? ⟨b, o, none⟩ = w.cell? ⟨b, o, none⟩ := fun o => hb.cell (p := ⟨b, o, none⟩) (by show b < B; omega)
    exact ⟨(e _).trans h0, (e _).trans h1, (e _).trans h2, (e _).trans h3, (e _).trans h4, h5.below hB hb⟩

/-- What the first k count. -/
def recsTo (D : Nat → Dp) : Nat → Nat | 0 => 0 | k + 1 => recsTo D k + (D k).size
theorem recsTo_succ (D : Nat → Dp) (k : Nat) : recsTo D (k + 1) = recsTo D k + (D k).size := rfl
theorem recsTo_mono (D : Nat → Dp) {k n : Nat} (h : k ≤ n) : recsTo D k ≤ recsTo D n := by
  induction h with
  | refl => exact Nat.le_refl _
  | step _ ih => rw [Nat.succ_eq_add_one, recsTo_succ]; omega
theorem recs_size (D : Nat → Dp) {i n : Nat} (h : i < n) : (D i).size ≤ recsTo D n := by
  have := recsTo_mono D (show i + 1 ≤ n by omega)
  rw [recsTo_succ] at this
  omega

def FitRecs (n : Nat) (V : Nat → Int) (D : Nat → Dp) : Prop := ∀ i, i < n → In64 (V i) ∧ (D i).Fits

/-- Two are one. -/
def sameRec (v u : Int) (d e : Dp) : Bool := (v == u) && d.same e
def sameRecs (n : Nat) (V U : Nat → Int) (D E : Nat → Dp) : Bool := (List.range n).all fun i => sameRec (V i) (U i) (D i) (E i)

theorem sameRecs_succ (k : Nat) (V U : Nat → Int) (D E : Nat → Dp) (h : sameRecs k V U D E = true) (hk : sameRec (V k) (U k) (D k) (E k) = true) : sameRecs (k + 1) V U D E = true := by
  unfold sameRecs at *
  rw [List.range_succ, List.all_append, h]; simpa using hk

theorem sameRecs_not (n k : Nat) (V U : Nat → Int) (D E : Nat → Dp) (hk : k < n) (h : sameRec (V k) (U k) (D k) (E k) = false) : false = sameRecs n V U D E := by
  symm
  rw [Bool.eq_false_iff]
  intro ha
  have := List.all_eq_true.1 ha k (by simpa using hk)
  simp [this] at h

theorem sameRecs_self (n : Nat) (V : Nat → Int) (D : Nat → Dp) : sameRecs n V V D D = true := by
  unfold sameRecs
  rw [List.all_eq_true]
  intro i hi
  unfold sameRec
  rw [Dp.same_self]
  simp

/-! ### What is needed of all that was kept, from the end on -/

/-- The level that the last k of n leave as the least, at first 10. -/
def leastFrom (V : Nat → Int) (n : Nat) : Nat → Int
  | 0 => 10
  | k + 1 => if V (n - 1 - k) < leastFrom V n k ∧ 0 ≤ V (n - 1 - k) then V (n - 1 - k) else leastFrom V n k

/-- The places that the last k of n leave, ascending. -/
def chainFrom (V : Nat → Int) (n : Nat) : Nat → List Nat
  | 0 => []
  | k + 1 => if V (n - 1 - k) < leastFrom V n k ∧ 0 ≤ V (n - 1 - k) then (n - 1 - k) :: chainFrom V n k else chainFrom V n k

def chainOf (n : Nat) (V : Nat → Int) : List Nat := if n ≤ 20 then chainFrom V n n else []

theorem chain_len (V : Nat → Int) (n : Nat) : ∀ k, (chainFrom V n k).length ≤ k
  | 0 => by simp [chainFrom]
  | k + 1 => by
    have := chain_len V n k
    unfold chainFrom
    split
    · simp; omega
    · omega

theorem chain_lt (V : Nat → Int) (n : Nat) : ∀ k, k ≤ n → ∀ x ∈ chainFrom V n k, x < n
  | 0, _, x, h => by simp [chainFrom] at h
  | k + 1, hk, x, h => by
    unfold chainFrom at h
    split at h
    · rcases List.mem_cons.1 h with rfl | h
      · omega
      · exact chain_lt V n k (by omega) x h
    · exact chain_lt V n k (by omega) x h
end Go.Proofs.Ytokalajliphcdaa

/-
  How what was kept, with its levels, handed in, is opened.
-/
namespace Go.Proofs.Ytokalajliphcdaa
open Go.ChangeShapes Go.WideShapes Go.ChangeAt Go.RowKit Go.Deep
set_option linter.unusedVariables false

theorem cellsRec : Try.prog.cellsOf 60 = 5 := by kernel_rfl

instance : Inhabited Dp := ⟨⟨0, 0, 0, fun _ => false, 0, fun _ => 0, fun _ => default⟩⟩
instance : Inhabited DLoc := ⟨⟨none, 0, none, 0, fun _ => default⟩⟩

section
variable {H : Type} {enc : TypeId × Value → H} {W : World}

theorem trod14 {P : Program} {base : Nat} {spare : Nat → Bool} {held : Bool} {t : TypeId} {f0 f1 : Field} {fuel : Nat} {cs : List Value} {x : DataW H × List MemPlace} (hs : P.underlying t = some (.struct #[f0, f1])) (h0 : f0.offset = 0) (h1 : f1.offset = 1) (c0 : P.cellsOf f0.type = 1) (c1 : P.cellsOf f1.type = 4)
    (hC : P.cellsOf t = 5) (h : DataW.trod enc P W base spare held fuel t cs = some x) :
    ∃ (v0 v1 v2 v3 v4 : Value) (y0 y1 : DataW H × List MemPlace) (n : Nat), cs = [v0, v1, v2, v3, v4] ∧ DataW.trod enc P W base spare held n f0.type [v0] = some y0 ∧ DataW.trod enc P W base spare held n f1.type [v1, v2, v3, v4] = some y1 := by
  obtain ⟨y0, y1, n, _, hl, g0, g1⟩ := trod_struct2 hs h
  rw [hC] at hl
  match cs, hl with
  | [v0, v1, v2, v3, v4], _ => exact ⟨v0, v1, v2, v3, v4, y0, y1, n, rfl, by simpa [h0, c0] using g0, by simpa [h1, c1] using g1⟩

set_option maxRecDepth 100000 in
theorem openRecC {cs : List Value} {fuel : Nat} {x : DataW H × List MemPlace} (h : DataW.trod enc Try.prog W 0 (fun _ => true) true fuel 60 cs = some x) :
    ∃ (v : Int) (d : Dp) (l : DLoc), cs = [.int .i64 v, .int .i64 d.since, .int .i64 d.date, .slice l.lA d.ln l.lc, .slice l.iA d.m l.ic] ∧ DpIn W d l ∧ In64 v ∧ d.Fits := by
  obtain ⟨v0, v1, v2, v3, v4, y0, y1, n, rfl, h0, h1⟩ := trod14 Try.underlying60 rfl rfl cellsInt cellsDump cellsRec h
  obtain ⟨o, e0, _, w0⟩ := DataW.trod_int Try.underlying3 h0
  obtain ⟨d, l, e1, hI, hf⟩ := openDumpC h1
  cases e0; cases e1
  exact ⟨o, d, l, rfl, hI, wf64 w0, hf⟩

theorem openRecsC {v : Value} {fuel : Nat} {x : DataW H × List MemPlace} (h : DataW.trod enc Try.prog W 0 (fun _ => true) true fuel 33 [v] = some x) :
    ∃ (a : Option Addr) (n c : Nat) (V : Nat → Int) (D : Nat → Dp) (L : Nat → DLoc), v = .slice a n c ∧ IsRecs W a n V D L ∧ FitRecs n V D ∧ n ≤ maxLen := by
  rcases open_slice Try.underlying33 h with ⟨h0, _⟩ | ⟨a, n, c, m, fl, DD, Pl, h0, _, hl, hm, hmm, _, hx⟩
  · cases h0
    exact ⟨none, 0, 0, fun _ => 0, fun _ => default, fun _ => default, rfl, Or.inl rfl, fun i hi => by omega, by unfold maxLen; omega⟩
  · cases h0
    simp at hmm
    have each : ∀ i, i < n → ∃ p : Int × Dp × DLoc, W.cells? 0 (a.add (i * 5)) 5 = some [.int .i64 p.1, .int .i64 p.2.1.since, .int .i64 p.2.1.date, .slice p.2.2.lA p.2.1.ln p.2.2.lc, .slice p.2.2.iA p.2.1.m p.2.2.ic] ∧ DpIn W p.2.1 p.2.2 ∧ In64 p.1 ∧ p.2.1.Fits := by
      intro i hi
      obtain ⟨cs', h1, h2⟩ := hx i (by omega)
      rw [cellsRec] at h1
      obtain ⟨o, d, l, rfl, h3, h4, h5⟩ := openRecC h2
      exact ⟨(o, d, l), h1, h3, h4, h5⟩
    obtain ⟨f, hf⟩ := choose_lt each
    refine ⟨some a, n, c, fun i => (f i).1, fun i => (f i).2.1, fun i => (f i).2.2, rfl, ?_, fun i hi => (hf i hi).2.2, by omega⟩
    by_cases hn : n = 0
    · exact Or.inl hn
    · obtain ⟨b, off, spot⟩ := a
      have h00 := (World.cells?_some (hf 0 (by omega)).1).2.2 0 (by omega)
      have hspot : spot = none := by
        have : W.cell? ⟨b, off, spot⟩ = some (.int .i64 (f 0).1) := by simpa [Addr.add] using h00
        simpa using World.cell?_spot this
      subst hspot
      have h00' : W.cell? ⟨b, off, none⟩ = some (.int .i64 (f 0).1) := by simpa [Addr.add] using h00
      refine Or.inr ⟨b, off, rfl, lt_of_cell h00', fun i hi => ?_⟩
      obtain ⟨h1, h2, _⟩ := hf i hi
      have g := (World.cells?_some h1).2.2
      have e : ∀ j, j < 5 → W.cell? ⟨b, off + i * 5 + j, none⟩ = [Value.int .i64 (f i).1, .int .i64 (f i).2.1.since, .int .i64 (f i).2.1.date, .slice (f i).2.2.lA (f i).2.1.ln (f i).2.2.lc, .slice (f i).2.2.iA (f i).2.1.m (f i).2.2.ic][j]? := by
        intro j hj
        have := g j hj
        rw [add_add, add_plain] at this
        rw [← this, Nat.add_assoc]
      exact ⟨by simpa using e 0 (by omega), by simpa using e 1 (by omega), by simpa using e 2 (by omega), by simpa using e 3 (by omega), by simpa using e 4 (by omega), h2⟩

theorem openRecs {a : Option Addr} {n c : Nat} {d : DataW H} {p : List MemPlace} (h : DataW.Trod enc Try.prog W 0 (fun _ => true) true 33 (.slice a n c) d p) : ∃ (V : Nat → Int) (D : Nat → Dp) (L : Nat → DLoc), IsRecs W a n V D L ∧ FitRecs n V D ∧ n ≤ maxLen := by
  obtain ⟨fuel, hf⟩ := h
  obtain ⟨a', n', c', V, D, L, hv, h2, h3, h4⟩ := openRecsC hf
  cases hv
  exact ⟨V, D, L, h2, h3, h4⟩
end
end Go.Proofs.Ytokalajliphcdaa

/-
  What turnedSince yields to whoever ranges over it: the places that were turned, in order; all of them, or the first ones, where a round has said that it wants no more.
-/
namespace Go.Proofs.Ytokalajliphcdaa
open Go.RowKit Go.Shelf
set_option linter.unusedVariables false
set_option linter.unusedSimpArgs false
attribute [local go_sem] Oper.semAt_some

/-- Those of the first k that were turned since. -/
def selT (D : Nat → Nd) (since : Int) (k : Nat) : List Nat := (List.range k).filter fun i => decide (since < (D i).turn)
theorem selT_yes {D : Nat → Nd} {since : Int} {k : Nat} (h : since < (D k).turn) : selT D since (k + 1) = selT D since k ++ [k] := by simp [selT, List.range_succ, List.filter_append, h]
theorem selT_no {D : Nat → Nd} {since : Int} {k : Nat} (h : ¬ since < (D k).turn) : selT D since (k + 1) = selT D since k := by simp [selT, List.range_succ, List.filter_append, h]
theorem selT_pre (D : Nat → Nd) (since : Int) {k n : Nat} (h : k ≤ n) : selT D since k <+: selT D since n := by
  induction h with
  | refl => exact List.prefix_refl _
  | step h ih =>
    rename_i m
    by_cases hm : since < (D m).turn
    · rw [selT_yes hm]; exact ih.trans (List.prefix_append _ _)
    · rw [selT_no hm]; exact ih

/-- What a round keeps: the blocks that the function reads. -/
def KeepsTwo (S b : Nat) (W W' : World) : Prop := W'.heap[S]? = W.heap[S]? ∧ W'.heap[b]? = W.heap[b]?

end Go.Proofs.Ytokalajliphcdaa

/-
  What was kept, from the end on.
-/
namespace Go.Proofs.Ytokalajliphcdaa
open Go.RowKit Go.Deep
set_option linter.unusedVariables false
set_option linter.unusedSimpArgs false

set_option maxRecDepth 100000 in
set_option maxHeartbeats 4000000 in
theorem backward1_in (q : Nat) (hq : 1 ≤ q) (l T b off n c : Nat) (a : Option Addr) (hA : 0 < n → a = some ⟨b, off, none⟩) (V : Nat → Int) (D : Nat → Dp) (L : Nat → DLoc) (hn : n ≤ 1048576) (J : Nat → World → Prop) (Jx : World → Prop)
    (hY : ∀ k W, k < n → J k W → YieldAt Fence.wide (q - 1) Try.prog l #[.int .i64 ((n - 1 - k : Nat) : Int), recV (V (n - 1 - k)) (D (n - 1 - k)) (L (n - 1 - k))] W fun e W' =>
      (e = .returned (.bool true) ∧ J (k + 1) W' ∧ KeepsTwo T b W W') ∨ (e = .returned (.bool false) ∧ Jx W'))
    (W : World) (hT : W.cell? ⟨T, 0, none⟩ = some (.slice a n c))
    (hc : ∀ i, i < n → W.cell? ⟨b, off + i * 5, none⟩ = some (.int .i64 (V i)) ∧ W.cell? ⟨b, off + i * 5 + 1, none⟩ = some (.int .i64 (D i).since) ∧ W.cell? ⟨b, off + i * 5 + 2, none⟩ = some (.int .i64 (D i).date) ∧
      W.cell? ⟨b, off + i * 5 + 3, none⟩ = some (.slice (L i).lA (D i).ln (L i).lc) ∧ W.cell? ⟨b, off + i * 5 + 4, none⟩ = some (.slice (L i).iA (D i).m (L i).ic)) (h0 : J 0 W) :
    CallsIn Fence.wide q Try.prog 57 #[.func (.yield l) #[] #[], .pointer (some ⟨T, 0, none⟩)] W fun e W' => (∃ v, e = .returned v) ∧ (J n W' ∨ Jx W') := by
  have HC : Hid _ := hc
  clear hc
  refine callsIn_of_wp Try.func57 rfl trivial ?_ rfl
  simp only [Try.ntmps57, List.size_toArray, List.length_cons, List.length_nil, Nat.reduceAdd, Nat.reduceSub, Array.replicate_succ, Array.replicate_zero, List.push_toArray, List.append_toArray, List.nil_append, List.cons_append]
  gi_wp2
  gi_loopw [3] (fun i wr => ∃ k : Nat, k ≤ n ∧ i = .int .i64 ((n : Int) - 1 - (k : Int)) ∧ J k wr ∧ wr.heap[T]? = W.heap[T]? ∧ wr.heap[b]? = W.heap[b]?) (fun i _ => (intOf i + 1).toNat)
  case atStart => exact ⟨0, Nat.zero_le _, by go_num, h0, rfl, rfl⟩
  case round =>
    obtain ⟨k, hk, rfl, hJ, hS, hb⟩ := hrel
    have HJ : Hid (J k wr ∧ wr.heap[T]? = W.heap[T]? ∧ wr.heap[b]? = W.heap[b]?) := ⟨hJ, hS, hb⟩
    clear hJ hS hb
    have ct : wr.cell? ⟨T, 0, none⟩ = some (.slice a n c) := (World.cell?_of_block (a := ⟨T, 0, none⟩) HJ.out.2.1).trans hT
    by_cases hlt : k < n
    · obtain rfl := hA (by omega)
      rw [show (n : Int) - 1 - (k : Int) = ((n - 1 - k : Nat) : Int) from by omega]
      have hlti : ((n - 1 - k : Nat) : Int) < (n : Int) := by omega
      have hge : decide ((0 : Int) ≤ ((n - 1 - k : Nat) : Int)) = true := by simp
      have hcb : ∀ o, wr.cell? ⟨b, o, none⟩ = W.cell? ⟨b, o, none⟩ := fun o => World.cell?_of_block (a := ⟨b, o, none⟩) HJ.out.2.2
      obtain ⟨e0, e1, e2, e3, e4⟩ := HC.out (n - 1 - k) (by omega)
      have c0 := (hcb _).trans e0
      have c1 := (hcb _).trans e1
      have c2 := (hcb _).trans e2
      have c3 := (hcb _).trans e3
      have c4 := (hcb _).trans e4
      clear hcb e0 e1 e2 e3 e4
      obtain ⟨fn, tmps, assign, body, hy, hR⟩ := hY k _ hlt HJ.out.1
      have HSl : Hid (∀ W3, KeepsTwo T b wr W3 → W3.heap[T]? = W.heap[T]? ∧ W3.heap[b]? = W.heap[b]?) := fun W3 h3 => ⟨h3.1.trans HJ.out.2.1, h3.2.trans HJ.out.2.2⟩
      clear HJ
      dsimp only [recV] at hy
      gi_wp2
      refine hR.mono ?_
      rintro e' W3 (⟨rfl, hJ3, hk3⟩ | ⟨rfl, hJx3⟩)
      · have HJ3 : Hid (J (k + 1) W3 ∧ W3.heap[T]? = W.heap[T]? ∧ W3.heap[b]? = W.heap[b]?) := ⟨hJ3, HSl.out W3 hk3⟩
        clear hJ3 hk3 hy hR HSl
        gi_wp2
        go_roundw
        case rel => exact ⟨k + 1, by omega, by go_num, HJ3.out⟩
        case measure => simp [intOf] <;> omega
      · have HX : Hid (Jx W3) := hJx3
        clear hJx3 hy hR HSl
        gi_wp2
        exact bodyPost_ret (results_none rfl _ _ _) rfl ⟨⟨_, rfl⟩, .inr HX.out⟩
    · obtain rfl : k = n := by omega
      have HR : Hid (J k wr) := HJ.out.1
      have hge : decide ((0 : Int) ≤ (k : Int) - 1 - (k : Int)) = false := by simp; omega
      clear HJ
      gi_wp2
      refine bodyPost_end (results_none rfl _ _ _) rfl ?_
      exact ⟨⟨_, rfl⟩, .inl HR.out⟩

set_option maxHeartbeats 1000000 in
/-- Backward: what it ranges over is boxed; the function value holds the box. -/
theorem backward_in (q : Nat) (a : Option Addr) (n c : Nat) (w : World) :
    CallsIn Fence.wide q Try.prog 45 #[.slice a n c] w fun e w' => e = .returned (.func (.func 57) #[] #[.pointer (some ⟨w.heap.size, 0, none⟩)]) ∧ w' = w.alloc (.cells #[.slice a n c] 36) := by
  refine callsIn_of_wp Try.func45 rfl trivial ?_ rfl
  simp only [Try.ntmps45, List.size_toArray, List.length_cons, List.length_nil, Nat.reduceAdd, Nat.reduceSub, Array.replicate_succ, Array.replicate_zero, List.push_toArray, List.append_toArray, List.nil_append, List.cons_append]
  gi_wp2
  go_ret
  exact ⟨rfl, rfl⟩

/-- What is left of neededFromEnd: the list is boxed. -/
theorem needed_in (q : Nat) (a : Option Addr) (n c : Nat) (w : World) :
    CallsIn Fence.wide q Try.prog 31 #[.slice a n c] w fun e w' => e = .returned (.func (.func 44) #[] #[.pointer (some ⟨w.heap.size, 0, none⟩)]) ∧ w' = w.alloc (.cells #[.slice a n c] 36) := by
  refine callsIn_of_wp Try.func31 rfl trivial ?_ rfl
  simp only [Try.ntmps31, List.size_toArray, List.length_cons, List.length_nil, Nat.reduceAdd, Nat.reduceSub, Array.replicate_succ, Array.replicate_zero, List.push_toArray, List.append_toArray, List.nil_append, List.cons_append]
  gi_wp2
  go_ret
  exact ⟨rfl, rfl⟩

/-- The first k places, from the end on. -/
def downs (n k : Nat) : List Nat := (List.range k).map fun i => n - 1 - i
theorem downs_succ (n k : Nat) : downs n (k + 1) = downs n k ++ [n - 1 - k] := by simp [downs, List.range_succ]
theorem downs_length (n k : Nat) : (downs n k).length = k := by simp [downs]

theorem backward_stops (q : Nat) (hq : 1 ≤ q) (T b off n c : Nat) (a : Option Addr) (hA : 0 < n → a = some ⟨b, off, none⟩) (V : Nat → Int) (D : Nat → Dp) (L : Nat → DLoc) (hn : n ≤ 1048576) (w0 : World)
    (hT : w0.cell? ⟨T, 0, none⟩ = some (.slice a n c)) (hTl : T < w0.heap.size) (hbl : 0 < n → b < w0.heap.size)
    (hc : ∀ i, i < n → w0.cell? ⟨b, off + i * 5, none⟩ = some (.int .i64 (V i)) ∧ w0.cell? ⟨b, off + i * 5 + 1, none⟩ = some (.int .i64 (D i).since) ∧ w0.cell? ⟨b, off + i * 5 + 2, none⟩ = some (.int .i64 (D i).date) ∧
      w0.cell? ⟨b, off + i * 5 + 3, none⟩ = some (.slice (L i).lA (D i).ln (L i).lc) ∧ w0.cell? ⟨b, off + i * 5 + 4, none⟩ = some (.slice (L i).iA (D i).m (L i).ic)) :
    SeqStopsK Fence.wide q Try.prog 57 #[.pointer (some ⟨T, 0, none⟩)] (fun x : Nat => #[.int .i64 (x : Int), recV (V x) (D x) (L x)]) (KeepsTwo T b) (fun xs => xs = downs n n) (fun _ => True) n w0 := by
  intro l J Jx W hW hJ hJx hY h0
  refine (backward1_in q hq l T b off n c a hA V D L hn (fun k W => J (downs n k) W) (fun W => ∃ p, Jx p W) ?_ W ((hW.cell (p := ⟨T, 0, none⟩) hTl).trans hT) ?_ h0).mono ?_
  · intro k W1 hk hp
    obtain ⟨fn, tmps, assign, body, hy, hR⟩ := hY (downs n k) (n - 1 - k) W1 hp (by rw [downs_length]; exact hk)
    refine ⟨fn, tmps, assign, body, hy, hR.mono ?_⟩
    rintro e W2 (⟨rfl, h1, h2⟩ | ⟨rfl, h1⟩)
    · exact Or.inl ⟨rfl, by rw [downs_succ]; exact h1, h2⟩
    · exact Or.inr ⟨rfl, _, h1⟩
  · intro i hi
    obtain ⟨c0, c1, c2, c3, c4⟩ := hc i hi
    have k : ∀ o v, w0.cell? ⟨b, o, none⟩ = some v → W.cell? ⟨b, o, none⟩ = some v := fun o v h => (hW.cell (p := ⟨b, o, none⟩) (hbl (by omega))).trans h
    exact ⟨k _ _ c0, k _ _ c1, k _ _ c2, k _ _ c3, k _ _ c4⟩
  · rintro e W2 ⟨hv, h1 | ⟨p, h2⟩⟩
    · exact ⟨hv, Or.inl ⟨_, rfl, h1⟩⟩
    · exact ⟨hv, Or.inr ⟨p, trivial, h2⟩⟩
end Go.Proofs.Ytokalajliphcdaa

/-
  A range over an iterator that lays blocks of its own and turns them between two rounds: what it laid goes with the caller's word as a set.
-/
namespace Go.Proofs.Ytokalajliphcdaa
open Go.RowKit Go.Deep
set_option linter.unusedVariables false

/-- J may be said behind a turn of a block of X, and where new blocks have come, which may join X. -/
def AbidesSet {β : Type} (J : β → (Nat → Prop) → World → Prop) : Prop :=
  ∀ s (X X' : Nat → Prop) W W' row, J s X W → W.grownBy W' row → (∀ r, row = some r → X r) → (∀ r, X' r → X r ∨ (W.heap.size ≤ r ∧ r < W'.heap.size)) → J s X' W'

structure KeepsSet (X : Nat → Prop) (W W' : World) : Prop where
  size : W.heap.size ≤ W'.heap.size
  same : ∀ r, X r → r < W.heap.size → W'.heap[r]? = W.heap[r]?

def SeqSet {α : Type} (F : Fence) (n : Nat) (P : Program) (g : Nat) (lb : Array Value) (encs : α → Array Value) (Z : Nat → Prop) (S Sp : List α → Prop) (N : Nat) (w : World) : Prop :=
  ∀ (l : Nat) (J Jx : List α → (Nat → Prop) → World → Prop) (W : World), Below w.heap.size w W → AbidesSet J → AbidesSet Jx →
    (∀ pre x X W1, J pre X W1 → pre.length < N → YieldAt F (n - 1) P l (encs x) W1 fun e W' =>
      (e = .returned (.bool true) ∧ J (pre ++ [x]) X W' ∧ KeepsSet (fun r => X r ∨ Z r) W1 W') ∨ (e = .returned (.bool false) ∧ Jx (pre ++ [x]) X W' ∧ KeepsSet (fun r => X r ∨ Z r) W1 W')) →
    J [] (fun _ => False) W →
    CallsIn F n P g (#[.func (.yield l) #[] #[]] ++ lb) W fun e W' => (∃ v, e = .returned v) ∧ ((∃ xs X, S xs ∧ J xs X W') ∨ (∃ pre X, Sp pre ∧ Jx pre X W'))

/-- How a round may be left. -/
def setPost {α : Type} (Z : Nat → Prop) (I : List α → (Nat → Prop) → World → Prop) (Ix : Code → List α → (Nat → Prop) → World → Prop) (xs : List α) (X : Nat → Prop) (W : World) : Exit → Act → World → Prop
  | .normal, _, W' => KeepsSet (fun r => X r ∨ Z r) W W' ∧ I xs X W'
  | .ret, _, W' => KeepsSet (fun r => X r ∨ Z r) W W' ∧ Ix .ret xs X W'
  | .exit id, _, W' => KeepsSet (fun r => X r ∨ Z r) W W' ∧ Ix (.exit id) xs X W'
  | .goto t, _, W' => KeepsSet (fun r => X r ∨ Z r) W W' ∧ Ix (.goto t) xs X W'
  | _, _, _ => False

section
variable {F : Fence} {n : Nat} {P : Program}

theorem AbidesSet.turn {β : Type} {J : β → (Nat → Prop) → World → Prop} (h : AbidesSet J) {s : β} {X : Nat → Prop} {W : World} {r : Nat} (hs : J s X W) (hr : X r) (o : Obj) : J s X (W.putObj r o) :=
  h s X X W _ (some r) hs (grownBy_putObj' W r o) (fun k e => by cases e; exact hr) (fun k hk => Or.inl hk)

theorem wpIn_rangeFunc_set {α : Type} {g : Operand} {ps : Array Tmp} {assign body : Code} {Q : Exit → Act → World → Prop} {a : Act} {w : World}
    (hro : F.round = none) (h1 : 1 ≤ n) {gf : Nat} {lb : Array Value} (hg : a.eval g = .func (.func gf) #[] lb) (hFg : F.fn gf) (eg : ∀ args w, (callFunc gf args).run P w = .ok (.enter gf args) w)
    {encs : α → Array Value} {Z : Nat → Prop} {S Sp : List α → Prop} {N : Nat} {w0 : World} (hseq : SeqSet F (n - 1) P gf lb encs Z S Sp N w0) (hZ : ∀ r, Z r → r < w.heap.size) (hb0 : Below w0.heap.size w0 w) (hps : ∀ x, (encs x).size = ps.size)
    (I : List α → (Nat → Prop) → World → Prop) (Ix : Code → List α → (Nat → Prop) → World → Prop) (hI : AbidesSet I) (hIx : ∀ c, AbidesSet (Ix c)) (h0 : I [] (fun _ => False) w) (Ax : α → (Nat → Prop) → Act → World → Prop) (hAx : ∀ x X a' W l r o', Ax x X a' W → W.heap[l]? = some (.loop r) → Ax x X a' (W.putObj l o'))
    (hassign : ∀ (l : Nat) (pre : List α) (x : α) (X : Nat → Prop) (W : World) (K : Act → World → Prop), I pre X W → (∀ a' W' (X' : Nat → Prop), (∀ r, X r → X' r) → (∀ r, X' r → X r ∨ (W.heap.size ≤ r ∧ r < W'.heap.size)) → KeepsSet (fun r => X r ∨ Z r) W W' → I pre X' W' → Ax x X' a' W' → K a' W') → assign.wpIn (F.inRound l) (n - 1 - 1) P (Exit.then K (fun _ _ _ => False)) { tmps := (ps.zip (encs x)).foldl (fun t (p, v) => t.setIfInBounds p v) a.tmps, defers := [] } W)
    (hbody : ∀ (l : Nat) (pre : List α) (x : α) (X : Nat → Prop) (a' : Act) (W : World), (∃ r, W.heap[l]? = some (.loop r)) → I pre X W → Ax x X a' W → pre.length < N → body.wpIn (F.inRound l) (n - 1 - 1) P (setPost Z I Ix (pre ++ [x]) X W) a' W)
    (hdone : ∀ (D : Nat) (xs : List α) (X : Nat → Prop) (W : World), w.heap.size ≤ D → X D → S xs → I xs X W → W.heap[D]? = some (.deferred (some [])) → Q .normal { a with defers := { target := .collected D, args := #[] } :: a.defers } W)
    (hstop : ∀ (D : Nat) (c : Code) (pre : List α) (X : Nat → Prop) (W : World), w.heap.size ≤ D → X D → Sp pre → Ix c pre X W → W.heap[D]? = some (.deferred (some [])) → c.wpIn F n P Q { a with defers := { target := .collected D, args := #[] } :: a.defers } W) :
    (Code.rangeFunc g ps assign body).wpIn F n P Q a w := by
  refine wpIn_rangeFunc ?_
  intro fn hfn
  rw [hro]
  obtain ⟨d, hd⟩ : ∃ d, d = w.heap.size := ⟨_, rfl⟩
  obtain ⟨rec, hrec⟩ : ∃ rec : LoopState → Option Code → Loop, rec = fun st pe => { state := st, pending := pe, fn, tmps := a.tmps, params := ps, assign, body, defers := d } := ⟨_, rfl⟩
  obtain ⟨U, hU⟩ : ∃ U, (w.alloc (.deferred (some []))).alloc (.loop (rec .ready none)) = U := ⟨_, rfl⟩
  have hUs : U.heap.size = d + 2 := by rw [← hU, hd]; simp
  have hl : U.heap[d + 1]? = some (.loop (rec .ready none)) := by
    rw [← hU, hd]; have := World.alloc_heap_new (w.alloc (.deferred (some []))) (.loop (rec .ready none)); rwa [World.size_alloc] at this
  have hk : U.heap[d]? = some (.deferred (some [])) := by
    rw [← hU, hd]; exact (blk_alloc_lt _ _ _ (by simp)).trans (World.alloc_heap_new w _)
  have hwU : Below w.heap.size w U := by rw [← hU]; exact ((Below.refl _ w).alloc (Nat.le_refl _) _).alloc (by simp) _
  -- the law's own two blocks
  let T : (Nat → Prop) → Nat → Prop := fun X r => X r ∨ r = d ∨ r = d + 1
  have hIU : I [] (T fun _ => False) U := by
    have s1 := hI [] (fun _ => False) (fun r => r = d) w _ none h0 (World.grownBy_alloc w (.deferred (some [])) none) (fun r e => by cases e) (fun r e => Or.inr (by subst e; simp; omega))
    have s2 := hI [] (fun r => r = d) (T fun _ => False) _ _ none s1 (World.grownBy_alloc _ (.loop (rec .ready none)) none) (fun r e => by cases e) (fun r e => by
      rcases e with e | e | e
      · exact e.elim
      · exact Or.inl e
      · right; subst e; simp; omega)
    rw [← hU]; exact s2
  refine ⟨d + 1, [{ target := .collected d, args := #[] }], U, { target := .fn (.func gf) lb, args := #[.func (.yield (d + 1)) #[] #[]] }, U, gf, #[.func (.yield (d + 1)) #[] #[]] ++ lb, U, ?_, ?_, ?_, ?_, fun _ => h1, ?_⟩
  · rw [← hU, hrec, hd]; exact run_enterLoop_outer _ _ _ _ _
  · simp only [resolve, hg]
    simp [go_sem]
  · intro f' hf'; simp [Target.leads] at hf'; subst hf'; exact hFg
  · simp [invoke, go_sem, eg]
  · have hab : ∀ {I' : List α → (Nat → Prop) → World → Prop} (st : Loop), AbidesSet I' → AbidesSet (fun pre X W => I' pre (T X) W ∧ W.heap[d + 1]? = some (.loop st) ∧ W.heap[d]? = some (.deferred (some [])) ∧ ¬ X d ∧ ¬ X (d + 1)) := by
      intro I' st hI' s X X' W W' row hs hgr hrow hX
      obtain ⟨h1, h2, h3, h4, h5⟩ := hs
      have q1 := (Array.getElem?_eq_some_iff.1 h2).1
      have q2 := (Array.getElem?_eq_some_iff.1 h3).1
      refine ⟨hI' s (T X) (T X') W W' row h1 hgr (fun r e => Or.inl (hrow r e)) (fun r e => ?_), (hgr.block _ q1 (fun e => h5 (hrow _ e.symm))).trans h2, (hgr.block _ q2 (fun e => h4 (hrow _ e.symm))).trans h3, fun e => ?_, fun e => ?_⟩
      · rcases e with e | e
        · rcases hX r e with e | e
          · exact Or.inl (Or.inl e)
          · exact Or.inr e
        · exact Or.inl (Or.inr e)
      · rcases hX _ e with e | e
        · exact h4 e
        · omega
      · rcases hX _ e with e | e
        · exact h5 e
        · omega
    refine (hseq (d + 1) (fun pre X W => I pre (T X) W ∧ W.heap[d + 1]? = some (.loop (rec .ready none)) ∧ W.heap[d]? = some (.deferred (some [])) ∧ ¬ X d ∧ ¬ X (d + 1))
      (fun pre X W => ∃ c, Ix c pre (T X) W ∧ W.heap[d + 1]? = some (.loop (rec .done (some c))) ∧ W.heap[d]? = some (.deferred (some [])) ∧ ¬ X d ∧ ¬ X (d + 1))
      U (hb0.trans (hwU.mono hb0.size)) (hab _ hI) (fun s X X' W W' row hs hgr hrow hX => by obtain ⟨c, hc⟩ := hs; exact ⟨c, hab _ (hIx c) s X X' W W' row hc hgr hrow hX⟩) ?_ ⟨hIU, hl, hk, id, id⟩).mono ?_
    · rintro pre x X W ⟨hi, hl, hk, hX1, hX2⟩ hlen
      have hlt : d + 1 < W.heap.size := (Array.getElem?_eq_some_iff.1 hl).1
      have hy := run_yield (P := P) (args := encs x) hl (by rw [hrec]; exact hps x)
      rw [hrec] at hy
      refine ⟨fn, _, assign, body, hy, roundIn_of_wpIn hfn (hassign _ pre x (T X) W _ hi ?_)⟩
      clear hy
      obtain ⟨V, hV⟩ : ∃ V, V = W := ⟨_, rfl⟩
      rw [← hV] at hl hk hlt hi ⊢
      clear hV
      intro a' W Y hYs hYn hka hia hax
      have hVk := hlt
      replace hl := (hka.same (d + 1) (Or.inl (Or.inr (Or.inr rfl))) hlt).trans hl
      replace hk := (hka.same d (Or.inl (Or.inr (Or.inl rfl))) (by omega)).trans hk
      replace hlt : d + 1 < W.heap.size := (Array.getElem?_eq_some_iff.1 hl).1
      replace hi := hia
      refine ⟨_, run_beginRound hl (by rw [hrec]), ?_⟩
      obtain ⟨W2, hW2⟩ : ∃ W2, W.putObj (d + 1) (.loop { rec .ready none with state := .busy }) = W2 := ⟨_, rfl⟩
      have hl2 : W2.heap[d + 1]? = some (.loop { rec .ready none with state := .busy }) := by rw [← hW2]; exact World.putObj_heap_same hlt
      have hk2 : W2.heap[d]? = some (.deferred (some [])) := by rw [← hW2]; exact (World.putObj_heap_other (by omega)).trans hk
      have hYl : Y (d + 1) := hYs _ (Or.inr (Or.inr rfl))
      have hYd : Y d := hYs _ (Or.inr (Or.inl rfl))
      have hi2 : I pre Y W2 := by rw [← hW2]; exact hI.turn hi hYl _
      have hs2 : W2.heap.size = W.heap.size := by rw [← hW2]; simp [World.putObj]
      rw [hW2]
      have hax2 : Ax x Y a' W2 := by rw [← hW2]; exact hAx _ _ _ _ _ _ _ hax hl
      have less : ∀ {I' : List α → (Nat → Prop) → World → Prop}, AbidesSet I' → ∀ {ys : List α} {U : World}, I' ys Y U → I' ys (T X) U := fun hI' ys U h => hI' ys Y (T X) U U none h (World.grownBy.refl _ _) (fun r e => by cases e) (fun r hr => Or.inl (hYs r hr))
      refine wpIn_mono (hbody _ pre x Y a' W2 ⟨_, hl2⟩ hi2 hax2 hlen) ?_
      have fin : ∀ (jump : Option Code) (W3 : World), KeepsSet (fun r => Y r ∨ Z r) W2 W3 →
          (Instr.endRound (d + 1) jump).run P W3 = .ok (.bool jump.isNone) (W3.putObj (d + 1) (.loop (rec (if jump.isNone then .ready else .done) jump))) ∧
          (W3.putObj (d + 1) (.loop (rec (if jump.isNone then .ready else .done) jump))).heap[d + 1]? = some (.loop (rec (if jump.isNone then .ready else .done) jump)) ∧
          (W3.putObj (d + 1) (.loop (rec (if jump.isNone then .ready else .done) jump))).heap[d]? = some (.deferred (some [])) ∧
          KeepsSet (fun r => X r ∨ Z r) V (W3.putObj (d + 1) (.loop (rec (if jump.isNone then .ready else .done) jump))) := fun jump W3 hk3 => by
        have hl3 := (hk3.same (d + 1) (Or.inl hYl) (by omega)).trans hl2
        have hd3 := (hk3.same d (Or.inl hYd) (by omega)).trans hk2
        have := run_endRound (P := P) jump hl3
        rw [hrec] at this ⊢
        refine ⟨this, World.putObj_heap_same (Array.getElem?_eq_some_iff.1 hl3).1, (World.putObj_heap_other (by omega)).trans hd3, ⟨?_, fun r hr hlr => ?_⟩⟩
        · have := hk3.size
          have := hka.size
          simp [World.putObj]
          omega
        · have hne : r ≠ d + 1 := by
            rintro rfl
            rcases hr with hr | hr
            · exact hX2 hr
            · have := hZ _ hr; omega
          refine (World.putObj_heap_other hne).trans ((hk3.same r (hr.imp (fun h => hYs r (Or.inl h)) id) (by have := hka.size; omega)).trans (Eq.trans ?_ (hka.same r (hr.imp Or.inl id) hlr)))
          rw [← hW2]
          exact World.putObj_heap_other hne
      rintro e a3 W3 hp
      cases e with
      | normal =>
        obtain ⟨hk3, hi3⟩ := hp
        obtain ⟨hr, hl4, hk4, hk5⟩ := fin none W3 hk3
        exact ⟨_, _, hr, .inl ⟨rfl, ⟨hI.turn (less hI hi3) (Or.inr (Or.inr rfl)) _, hl4, hk4, hX1, hX2⟩, hk5⟩⟩
      | ret =>
        obtain ⟨hk3, hi3⟩ := hp
        obtain ⟨hr, hl4, hk4, hk5⟩ := fin (some .ret) W3 hk3
        exact ⟨_, _, hr, .inr ⟨rfl, ⟨.ret, (hIx _).turn (less (hIx _) hi3) (Or.inr (Or.inr rfl)) _, hl4, hk4, hX1, hX2⟩, hk5⟩⟩
      | exit id =>
        obtain ⟨hk3, hi3⟩ := hp
        obtain ⟨hr, hl4, hk4, hk5⟩ := fin (some (.exit id)) W3 hk3
        exact ⟨_, _, hr, .inr ⟨rfl, ⟨.exit id, (hIx _).turn (less (hIx _) hi3) (Or.inr (Or.inr rfl)) _, hl4, hk4, hX1, hX2⟩, hk5⟩⟩
      | goto t =>
        obtain ⟨hk3, hi3⟩ := hp
        obtain ⟨hr, hl4, hk4, hk5⟩ := fin (some (.goto t)) W3 hk3
        exact ⟨_, _, hr, .inr ⟨rfl, ⟨.goto t, (hIx _).turn (less (hIx _) hi3) (Or.inr (Or.inr rfl)) _, hl4, hk4, hX1, hX2⟩, hk5⟩⟩
      | panic ch => exact hp.elim
      | outgrown => exact hp.elim
    · rintro e W2 ⟨⟨v, rfl⟩, (⟨xs, X, hS, hi, hl, hk, _, _⟩ | ⟨pre, X, hSp, c, hi, hl, hk, _, _⟩)⟩
      · exact ⟨none, _, by have := run_endLoop (P := P) hl (by rw [hrec]; simp); rw [hrec] at this; exact this, hdone d xs (T X) _ (by omega) (Or.inr (Or.inl rfl)) hS (hI.turn hi (Or.inr (Or.inr rfl)) _) ((World.putObj_heap_other (by omega)).trans hk)⟩
      · exact ⟨some c, _, by have := run_endLoop (P := P) hl (by rw [hrec]; simp); rw [hrec] at this; exact this, hstop d c pre (T X) _ (by omega) (Or.inr (Or.inl rfl)) hSp ((hIx c).turn hi (Or.inr (Or.inr rfl)) _) ((World.putObj_heap_other (by omega)).trans hk)⟩
end

theorem backward_set (q : Nat) (hq : 1 ≤ q) (T b off n c : Nat) (a : Option Addr) (hA : 0 < n → a = some ⟨b, off, none⟩) (V : Nat → Int) (D : Nat → Dp) (L : Nat → DLoc) (hn : n ≤ 1048576) (w0 : World)
    (hT : w0.cell? ⟨T, 0, none⟩ = some (.slice a n c)) (hTl : T < w0.heap.size) (hbl : 0 < n → b < w0.heap.size)
    (hc : ∀ i, i < n → w0.cell? ⟨b, off + i * 5, none⟩ = some (.int .i64 (V i)) ∧ w0.cell? ⟨b, off + i * 5 + 1, none⟩ = some (.int .i64 (D i).since) ∧ w0.cell? ⟨b, off + i * 5 + 2, none⟩ = some (.int .i64 (D i).date) ∧
      w0.cell? ⟨b, off + i * 5 + 3, none⟩ = some (.slice (L i).lA (D i).ln (L i).lc) ∧ w0.cell? ⟨b, off + i * 5 + 4, none⟩ = some (.slice (L i).iA (D i).m (L i).ic)) :
    SeqSet Fence.wide q Try.prog 57 #[.pointer (some ⟨T, 0, none⟩)] (fun x : Nat => #[.int .i64 (x : Int), recV (V x) (D x) (L x)]) (fun r => r = T ∨ (r = b ∧ 0 < n)) (fun xs => xs = downs n n) (fun _ => True) n w0 := by
  intro l J Jx W hW hJ hJx hY h0
  refine (backward1_in q hq l T b off n c a hA V D L hn (fun k W => J (downs n k) (fun _ => False) W ∧ T < W.heap.size ∧ (0 < n → b < W.heap.size)) (fun W => ∃ p X, Jx p X W) ?_ W ((hW.cell (p := ⟨T, 0, none⟩) hTl).trans hT) ?_ ⟨h0, Nat.lt_of_lt_of_le hTl hW.size, fun h => Nat.lt_of_lt_of_le (hbl h) hW.size⟩).mono ?_
  · rintro k W1 hk ⟨hp, hp1, hp2⟩
    obtain ⟨fn, tmps, assign, body, hy, hR⟩ := hY (downs n k) (n - 1 - k) _ W1 hp (by rw [downs_length]; exact hk)
    refine ⟨fn, tmps, assign, body, hy, hR.mono ?_⟩
    rintro e W2 (⟨rfl, h1, h2⟩ | ⟨rfl, h1, _⟩)
    · refine Or.inl ⟨rfl, ⟨by rw [downs_succ]; exact h1, Nat.lt_of_lt_of_le hp1 h2.size, fun h => Nat.lt_of_lt_of_le (hp2 h) h2.size⟩, h2.same T (Or.inr (Or.inl rfl)) hp1, h2.same b (Or.inr (Or.inr ⟨rfl, by omega⟩)) (hp2 (by omega))⟩
    · exact Or.inr ⟨rfl, _, _, h1⟩
  · intro i hi
    obtain ⟨c0, c1, c2, c3, c4⟩ := hc i hi
    have k : ∀ o v, w0.cell? ⟨b, o, none⟩ = some v → W.cell? ⟨b, o, none⟩ = some v := fun o v h => (hW.cell (p := ⟨b, o, none⟩) (hbl (by omega))).trans h
    exact ⟨k _ _ c0, k _ _ c1, k _ _ c2, k _ _ c3, k _ _ c4⟩
  · rintro e W2 ⟨hv, ⟨h1, _⟩ | ⟨p, X, h2⟩⟩
    · exact ⟨hv, Or.inl ⟨_, _, rfl, h1⟩⟩
    · exact ⟨hv, Or.inr ⟨p, X, trivial, h2⟩⟩
end Go.Proofs.Ytokalajliphcdaa

/-
  The places that are needed, as neededFromEnd yields them.
-/
namespace Go.Proofs.Ytokalajliphcdaa
open Go.RowKit Go.Deep
set_option linter.unusedVariables false
set_option linter.unusedSimpArgs false
attribute [local go_sem] Oper.semAt_some

/-- The least level that the first of these leave, at first 10; and which of them are chosen, in their order. -/
def leastOf (V : Nat → Int) (xs : List Nat) : Int := xs.foldl (fun m x => if V x < m ∧ 0 ≤ V x then V x else m) 10
def chosen (V : Nat → Int) (xs : List Nat) : List Nat := (xs.foldl (fun (p : List Nat × Int) x => if V x < p.2 ∧ 0 ≤ V x then (p.1 ++ [x], V x) else p) ([], 10)).1

theorem fold_least (V : Nat → Int) (xs : List Nat) : (xs.foldl (fun (p : List Nat × Int) x => if V x < p.2 ∧ 0 ≤ V x then (p.1 ++ [x], V x) else p) ([], 10)).2 = leastOf V xs := by
  unfold leastOf
  have : ∀ (xs : List Nat) (p : List Nat × Int), (xs.foldl (fun (p : List Nat × Int) x => if V x < p.2 ∧ 0 ≤ V x then (p.1 ++ [x], V x) else p) p).2 = xs.foldl (fun m x => if V x < m ∧ 0 ≤ V x then V x else m) p.2 := by
    intro xs
    induction xs with
    | nil => intro p; rfl
    | cons x xs ih =>
      intro p
      rw [List.foldl_cons, List.foldl_cons, ih]
      congr 1
      split <;> rfl
  exact this xs _

theorem least_yes {V : Nat → Int} {xs : List Nat} {x : Nat} (h : V x < leastOf V xs ∧ 0 ≤ V x) : leastOf V (xs ++ [x]) = V x ∧ chosen V (xs ++ [x]) = chosen V xs ++ [x] := by
  have hf := fold_least V xs
  constructor
  · have : leastOf V (xs ++ [x]) = if V x < leastOf V xs ∧ 0 ≤ V x then V x else leastOf V xs := by unfold leastOf; rw [List.foldl_append]; rfl
    rw [this, if_pos h]
  · unfold chosen
    rw [List.foldl_append, List.foldl_cons, List.foldl_nil]
    rw [hf, if_pos h]

theorem least_no {V : Nat → Int} {xs : List Nat} {x : Nat} (h : ¬ (V x < leastOf V xs ∧ 0 ≤ V x)) : leastOf V (xs ++ [x]) = leastOf V xs ∧ chosen V (xs ++ [x]) = chosen V xs := by
  have hf := fold_least V xs
  constructor
  · have : leastOf V (xs ++ [x]) = if V x < leastOf V xs ∧ 0 ≤ V x then V x else leastOf V xs := by unfold leastOf; rw [List.foldl_append]; rfl
    rw [this, if_neg h]
  · unfold chosen
    rw [List.foldl_append, List.foldl_cons, List.foldl_nil]
    rw [hf, if_neg h]

theorem chosen_le (V : Nat → Int) (xs : List Nat) : (chosen V xs).length ≤ xs.length := by
  have : ∀ (xs : List Nat) (p : List Nat × Int), (xs.foldl (fun (p : List Nat × Int) x => if V x < p.2 ∧ 0 ≤ V x then (p.1 ++ [x], V x) else p) p).1.length ≤ p.1.length + xs.length := by
    intro xs
    induction xs with
    | nil => intro p; simp
    | cons x xs ih =>
      intro p
      rw [List.foldl_cons]
      refine Nat.le_trans (ih _) ?_
      split <;> simp <;> omega
  simpa [chosen] using this xs ([], 10)

theorem chosen_length (V : Nat → Int) : ∀ k n, (chosen V (downs n k)).length ≤ k
  | 0, n => by simp [chosen, downs]
  | k + 1, n => by
    have := chosen_length V k n
    rw [downs_succ]
    by_cases h : V (n - 1 - k) < leastOf V (downs n k) ∧ 0 ≤ V (n - 1 - k)
    · rw [(least_yes h).2]; simp; omega
    · rw [(least_no h).2]; omega

theorem least_downs (V : Nat → Int) (n : Nat) : ∀ k, leastOf V (downs n k) = leastFrom V n k ∧ (chosen V (downs n k)).reverse = chainFrom V n k
  | 0 => by simp [leastOf, chosen, downs, leastFrom, chainFrom]
  | k + 1 => by
    obtain ⟨h1, h2⟩ := least_downs V n k
    rw [downs_succ]
    unfold leastFrom chainFrom
    by_cases h : V (n - 1 - k) < leastOf V (downs n k) ∧ 0 ≤ V (n - 1 - k)
    · rw [(least_yes h).1, (least_yes h).2, if_pos (h1 ▸ h), if_pos (h1 ▸ h), List.reverse_append, h2]
      exact ⟨rfl, rfl⟩
    · rw [(least_no h).1, (least_no h).2, if_neg (h1 ▸ h), if_neg (h1 ▸ h)]
      exact ⟨h1, h2⟩

set_option maxRecDepth 100000 in
set_option maxHeartbeats 4000000 in
theorem needed_set (q : Nat) (hq : 3 ≤ q) (T b off n c : Nat) (a : Option Addr) (hA : 0 < n → a = some ⟨b, off, none⟩) (V : Nat → Int) (D : Nat → Dp) (L : Nat → DLoc) (hn : n ≤ 1048576) (w0 : World)
    (hT : w0.cell? ⟨T, 0, none⟩ = some (.slice a n c)) (hTl : T < w0.heap.size) (hbl : 0 < n → b < w0.heap.size)
    (hc : ∀ i, i < n → w0.cell? ⟨b, off + i * 5, none⟩ = some (.int .i64 (V i)) ∧ w0.cell? ⟨b, off + i * 5 + 1, none⟩ = some (.int .i64 (D i).since) ∧ w0.cell? ⟨b, off + i * 5 + 2, none⟩ = some (.int .i64 (D i).date) ∧
      w0.cell? ⟨b, off + i * 5 + 3, none⟩ = some (.slice (L i).lA (D i).ln (L i).lc) ∧ w0.cell? ⟨b, off + i * 5 + 4, none⟩ = some (.slice (L i).iA (D i).m (L i).ic)) :
    SeqSet Fence.wide q Try.prog 44 #[.pointer (some ⟨T, 0, none⟩)] (fun x : Nat => #[.int .i64 (x : Int)]) (fun r => r = b ∧ 0 < n) (fun xs => xs = chosen V (downs n n)) (fun _ => True) n w0 := by
  intro l J Jx W hW hJ hJx hY h0
  have hTW : W.cell? ⟨T, 0, none⟩ = some (.slice a n c) := (hW.cell (p := ⟨T, 0, none⟩) hTl).trans hT
  have hTlW : T < W.heap.size := Nat.lt_of_lt_of_le hTl hW.size
  have ne1 : T ≠ W.heap.size := by omega
  have ne2 : T ≠ W.heap.size + 1 := by omega
  refine callsIn_of_wp_marks Try.func44 rfl trivial ?_ rfl
  simp only [Try.ntmps44, List.size_toArray, List.length_cons, List.length_nil, Nat.reduceAdd, Nat.reduceSub, Array.replicate_succ, Array.replicate_zero, List.push_toArray, List.append_toArray, List.nil_append, List.cons_append]
  have hq1 : 1 ≤ q := by omega
  have hq2 : 1 ≤ q - 1 := by omega
  have hq3 : 1 ≤ q - 1 - 1 := by omega
  gi_wp2_with (refine ⟨trivial, ?_⟩; gi_at_call 45; refine (backward_in _ a n c _).mono ?_; rintro e w' ⟨rfl, rfl⟩)
  obtain ⟨B, hB⟩ : ∃ B, W.heap.size = B := ⟨_, rfl⟩
  have hWW : Below W.heap.size W (((W.alloc (.cells #[.func (.yield l) #[] #[]] 82)).alloc (.cells #[.int .i64 10] 3)).alloc (.cells #[.slice a n c] 36)) := (((Below.refl _ W).alloc (Nat.le_refl _) _).alloc (by simp) _).alloc (by simp; omega) _
  have hgr : W.grownBy (((W.alloc (.cells #[.func (.yield l) #[] #[]] 82)).alloc (.cells #[.int .i64 10] 3)).alloc (.cells #[.slice a n c] 36)) none := ((World.grownBy_alloc _ _ none).trans (World.grownBy_alloc _ _ none)).trans (World.grownBy_alloc _ _ none)
  have hBY := ((Boxed.new W 82 (.func (.yield l) #[] #[])).alloc (.cells #[.int .i64 10] 3)).alloc (.cells #[.slice a n c] 36)
  have hBL := (Boxed.new (W.alloc (.cells #[.func (.yield l) #[] #[]] 82)) 3 (.int .i64 10)).alloc (.cells #[.slice a n c] 36)
  have hBT := Boxed.new ((W.alloc (.cells #[.func (.yield l) #[] #[]] 82)).alloc (.cells #[.int .i64 10] 3)) 36 (.slice a n c)
  have hsz : (((W.alloc (.cells #[.func (.yield l) #[] #[]] 82)).alloc (.cells #[.int .i64 10] 3)).alloc (.cells #[.slice a n c] 36)).heap.size = B + 3 := by simp; omega
  simp only [World.size_alloc, hB] at hBY hBL hBT
  simp only [hB]
  obtain ⟨W0, hW0⟩ : ∃ W0, W0 = (((W.alloc (.cells #[.func (.yield l) #[] #[]] 82)).alloc (.cells #[.int .i64 10] 3)).alloc (.cells #[.slice a n c] 36)) := ⟨_, rfl⟩
  rw [← hW0] at hWW hgr hBY hBL hBT hsz ⊢
  clear hW0
  let own : Nat → Prop := fun r => r = B ∨ r = B + 1 ∨ r = B + 1 + 1
  have hJ0 : J [] (fun r => False ∨ own r) W0 := hJ [] (fun _ => False) _ W W0 none h0 hgr (fun r e => by cases e) (fun r e => by
    rcases e with e | e | e | e
    · exact e.elim
    all_goals right; omega)
  have hbl0 : 0 < n → b < W0.heap.size := fun h => by have := hbl h; have := hW.size; omega
  have hc0 : ∀ i, i < n → W0.cell? ⟨b, off + i * 5, none⟩ = some (.int .i64 (V i)) ∧ W0.cell? ⟨b, off + i * 5 + 1, none⟩ = some (.int .i64 (D i).since) ∧ W0.cell? ⟨b, off + i * 5 + 2, none⟩ = some (.int .i64 (D i).date) ∧
      W0.cell? ⟨b, off + i * 5 + 3, none⟩ = some (.slice (L i).lA (D i).ln (L i).lc) ∧ W0.cell? ⟨b, off + i * 5 + 4, none⟩ = some (.slice (L i).iA (D i).m (L i).ic) := fun i hi => by
    obtain ⟨c0, c1, c2, c3, c4⟩ := hc i hi
    have hb1 := hbl (by omega)
    have k : ∀ o v, w0.cell? ⟨b, o, none⟩ = some v → W0.cell? ⟨b, o, none⟩ = some v := fun o v h => ((hWW.cell (p := ⟨b, o, none⟩) (by have := hW.size; show b < W.heap.size; omega)).trans (hW.cell (p := ⟨b, o, none⟩) hb1)).trans h
    exact ⟨k _ _ c0, k _ _ c1, k _ _ c2, k _ _ c3, k _ _ c4⟩
  have HSeq : Hid _ := backward_set (q - 1) hq2 (B + 1 + 1) b off n c a hA V D L hn W0 hBT.cell (by omega) hbl0 hc0
  have HY : Hid _ := hY
  clear hY hc hc0 hgr hBT
  refine wpIn_rangeFunc_set rfl hq1 (gf := 57) (lb := #[.pointer (some ⟨B + 1 + 1, 0, none⟩)]) rfl trivial (enters_of Try.func57 (by kernel_rfl) rfl) HSeq.out ?hZ (Below.refl _ _) (fun _ => rfl)
    (fun pre X U => J (chosen V pre) (fun r => X r ∨ own r) U ∧ Boxed U B 82 (.func (.yield l) #[] #[]) ∧ Boxed U (B + 1) 3 (.int .i64 (leastOf V pre)) ∧ (∀ r, X r → B + 3 ≤ r ∧ r < U.heap.size) ∧ B + 3 ≤ U.heap.size)
    (fun c pre X U => c = .ret ∧ ∃ p, Jx p (fun r => X r ∨ own r) U) ?hI ?hIx ⟨hJ0, hBY, hBL, fun r h => h.elim, by omega⟩
    (fun x X a' U => ∃ Bx, U.cell? ⟨Bx, 0, none⟩ = some (.int .i64 (V x)) ∧ X Bx ∧ a' = { tmps := #[.func (.yield l) #[] #[], .pointer (some ⟨T, 0, none⟩), .pointer (some ⟨B, 0, none⟩), .pointer (some ⟨B + 1, 0, none⟩), .int .i64 (x : Nat), .pointer (some ⟨Bx, 0, none⟩), .slice a n c, .func (.func 57) #[] #[.pointer (some ⟨B + 1 + 1, 0, none⟩)], .int .i64 (x : Nat), .agg #[.int .i64 (V x), .int .i64 (D x).since, .int .i64 (D x).date, .slice (L x).lA (D x).ln (L x).lc, .slice (L x).iA (D x).m (L x).ic], undef, undef, undef, undef, undef, undef, undef, undef, undef, undef, undef, undef, undef, undef, undef], defers := [] }) ?hAx ?assign ?body ?done ?stop
  case hZ => rintro r (rfl | ⟨rfl, h⟩); omega; exact hbl0 h
  case hI =>
    rintro pre X X' U U' row ⟨k1, k2, k3, k4, k5⟩ hgr hrow hX
    refine ⟨hJ _ _ _ U U' row k1 hgr (fun r e => Or.inl (hrow r e)) (fun r e => ?_), k2.kept hgr (fun e => by have := k4 _ (hrow _ e.symm); omega), k3.kept hgr (fun e => by have := k4 _ (hrow _ e.symm); omega), fun r hr => ?_, by have := hgr.size; omega⟩
    · rcases e with e | e
      · exact (hX r e).imp Or.inl id
      · exact Or.inl (Or.inr e)
    · have := hgr.size
      rcases hX r hr with e | e
      · have := k4 r e; omega
      · omega
  case hIx =>
    rintro c pre X X' U U' row ⟨k0, p, k1⟩ hgr hrow hX
    refine ⟨k0, p, hJx _ _ _ U U' row k1 hgr (fun r e => Or.inl (hrow r e)) (fun r e => ?_)⟩
    rcases e with e | e
    · exact (hX r e).imp Or.inl id
    · exact Or.inl (Or.inr e)
  case hAx =>
    rintro x X a' U l' r o' ⟨Bx, h1, h2, h3⟩ hl'
    refine ⟨Bx, ?_, h2, h3⟩
    refine (World.cell?_of_block (a := ⟨Bx, 0, none⟩) (World.putObj_heap_other ?_)).trans h1
    rintro rfl
    simp [World.cell?, hl'] at h1
  case assign =>
    rintro l' pre x X U K hi hK
    have HK : Hid _ := hK
    have HI : Hid _ := hi
    clear hK hi
    dsimp only [recV]
    gi_wp2
    obtain ⟨k1, k2, k3, k4, k5⟩ := HI.out
    have nb := (Blk.new U #[.int .i64 (V x), .int .i64 (D x).since, .int .i64 (D x).date, .slice (L x).lA (D x).ln (L x).lc, .slice (L x).iA (D x).m (L x).ic] 65).cell 0
    refine HK.out _ _ (fun r => X r ∨ r = U.heap.size) (fun r h => Or.inl h) (fun r h => h.imp id fun e => by subst e; simp) ⟨by simp, fun r hr hl => blk_alloc_lt _ _ _ hl⟩ ⟨?_, k2.alloc _, k3.alloc _, fun r h => ?_, by simp; omega⟩ ⟨U.heap.size, nb, Or.inr rfl, rfl⟩
    · refine hJ _ _ _ U _ none k1 (World.grownBy_alloc _ _ none) (fun r e => by cases e) (fun r e => ?_)
      rcases e with (e | e) | e
      · exact Or.inl (Or.inl e)
      · right; subst e; simp
      · exact Or.inl (Or.inr e)
    · rcases h with h | h
      · have := k4 r h; simp; omega
      · subst h; simp; omega
  case done =>
    rintro DD xs X U hD hX rfl ⟨k1, k2, k3, k4, k5⟩ hk
    have HK : Hid (J (chosen V (downs n n)) (fun r => X r ∨ own r) (U.putObj DD (.deferred none))) := hJ.turn k1 (Or.inl hX) _
    have HD : Hid _ := hk
    clear k1 k2 k3 hk
    gi_wp2
    refine ⟨by simp, .inl ⟨_, _, rfl, run_takeDeferred HD.out, ?_⟩⟩
    exact ⟨_, results_none rfl _ _ _, ⟨_, rfl⟩, .inl ⟨_, HK.out⟩⟩
  case stop =>
    rintro DD cc pre X U hD hX _ ⟨rfl, p, k1⟩ hk
    have HK : Hid (Jx p (fun r => X r ∨ own r) (U.putObj DD (.deferred none))) := hJx.turn k1 (Or.inl hX) _
    have HD : Hid _ := hk
    clear k1 hk
    gi_wp2
    refine ⟨by simp, .inl ⟨_, _, rfl, run_takeDeferred HD.out, ?_⟩⟩
    exact ⟨_, results_none rfl _ _ _, ⟨_, rfl⟩, .inr ⟨_, _, HK.out⟩⟩
  case body =>
    rintro l' pre x X a' U ⟨r, hr⟩ ⟨k1, k2, k3, k4, k5⟩ ⟨Bx, hx, hXB, rfl⟩ hlen
    have HI : Hid (J (chosen V pre) (fun r => X r ∨ own r) U) := k1
    have y0 := k2.cell
    have l0 := k3.cell
    have lf := k3.frozen
    by_cases hneg : V x < 0
    · have hneg' : decide (V x < 0) = true := decide_eq_true hneg
      have hno := least_no (V := V) (xs := pre) (x := x) (by omega)
      clear k1 lf
      gi_wp2
      exact ⟨⟨Nat.le_refl _, fun _ _ _ => rfl⟩, by rw [hno.2]; exact HI.out, k2, by rw [hno.1]; exact k3, k4, k5⟩
    · have hneg' : decide (V x < 0) = false := decide_eq_false hneg
      by_cases hge : leastOf V pre ≤ V x
      · have hge' : decide (leastOf V pre ≤ V x) = true := decide_eq_true hge
        have hno := least_no (V := V) (xs := pre) (x := x) (by omega)
        clear k1 lf
        gi_wp2
        exact ⟨⟨Nat.le_refl _, fun _ _ _ => rfl⟩, by rw [hno.2]; exact HI.out, k2, by rw [hno.1]; exact k3, k4, k5⟩
      · have hge' : decide (leastOf V pre ≤ V x) = false := decide_eq_false hge
        have hyes := least_yes (V := V) (xs := pre) (x := x) (by omega)
        obtain ⟨fn, tmps, assign, body, hy, hR⟩ := HY.out (chosen V pre) x _ U HI.out (Nat.lt_of_le_of_lt (chosen_le V pre) hlen)
        have hbB : 0 < n → b < B := fun h => by have := hbl h; have := hW.size; omega
        have hBxl := (k4 Bx hXB).2
        clear k1
        gi_wp2
        refine RoundIn.mono (⟨hR.1, fun c cs _ => hR.2 c cs (fun d h => by cases h)⟩ : RoundIn (Fence.wide.inRound l') (q - 1 - 1 - 1) Try.prog l fn tmps assign body U _) ?_
        clear hy hR
        rintro e' W3 (⟨rfl, hJ3, hk3⟩ | ⟨rfl, hJ3, hk3⟩)
        · have b3 : W3.cell? ⟨Bx, 0, none⟩ = some (.int .i64 (V x)) := (World.cell?_of_block (a := ⟨Bx, 0, none⟩) (hk3.same Bx (Or.inl (Or.inl hXB)) hBxl)).trans hx
          have y3 : Boxed W3 B 82 (.func (.yield l) #[] #[]) := (hk3.same B (Or.inl (Or.inr (Or.inl rfl))) (by omega)).trans k2
          have l3 : Boxed W3 (B + 1) 3 (.int .i64 (leastOf V pre)) := (hk3.same (B + 1) (Or.inl (Or.inr (Or.inr (Or.inl rfl)))) (by omega)).trans k3
          have H3 : Hid _ := And.intro hJ3 hk3
          have lc := l3.cell
          have lf3 := l3.frozen
          clear hJ3 hk3 hx y0 l0 lf
          gi_wp2
          refine ⟨⟨?_, fun r hr hl => ?_⟩, ?_, y3.kept (grownBy_setCell' W3 (B + 1) _) (fun e => by simp at e), by rw [hyes.1]; exact l3.set _, fun r h => ?_, ?_⟩
          · have := H3.out.2.size; simp [World.setCell]; omega
          · have hne : r ≠ B + 1 := by
              rintro rfl
              rcases hr with h | h | ⟨h, h'⟩
              · have := k4 _ h; omega
              · omega
              · have := hbB h'; omega
            refine (blk_setCell_other _ _ _ _ hne).trans (H3.out.2.same r ?_ hl)
            rcases hr with h | h | h
            · exact Or.inl (Or.inl h)
            · exact Or.inl (Or.inr (Or.inr (Or.inr h)))
            · exact Or.inr h
          · rw [hyes.2]
            exact hJ _ _ _ W3 _ (some (B + 1)) H3.out.1 (grownBy_setCell' W3 (B + 1) _) (fun r e => by cases e; exact Or.inr (Or.inr (Or.inl rfl))) (fun r h => Or.inl h)
          · have := k4 r h; have := H3.out.2.size; simp [World.setCell]; omega
          · have := H3.out.2.size; simp [World.setCell]; omega
        · have H3 : Hid _ := And.intro hJ3 hk3
          clear hJ3 hk3 hx y0 l0 lf
          gi_wp2
          refine ⟨⟨H3.out.2.size, fun r hr hl => H3.out.2.same r ?_ hl⟩, rfl, _, H3.out.1⟩
          rcases hr with h | h | h
          · exact Or.inl (Or.inl h)
          · exact Or.inl (Or.inr (Or.inr (Or.inr h)))
          · exact Or.inr h
end Go.Proofs.Ytokalajliphcdaa

/-
  Entries of a book as they lie in memory: plain facts.
-/
namespace Go.Proofs.Ytokalajliphcdaa
open Go.RowKit Go.Deep
set_option linter.unusedVariables false

/-- An entry: a level and a turn. -/
structure En where
  lev : Int
  date : Int
deriving DecidableEq

instance : Inhabited En := ⟨⟨0, 0⟩⟩

def enV (e : En) : Value := .agg #[.int .i64 e.lev, .int .i64 e.date]

/-- n entries lie in memory from the address on, two cells each. -/
def IsEns (w : World) (a : Option Addr) (n : Nat) (E : Nat → En) : Prop :=
  n = 0 ∨ ∃ b off, a = some ⟨b, off, none⟩ ∧ b < w.heap.size ∧ ∀ i, i < n → w.cell? ⟨b, off + i * 2, none⟩ = some (.int .i64 (E i).lev) ∧ w.cell? ⟨b, off + i * 2 + 1, none⟩ = some (.int .i64 (E i).date)

theorem IsEns.at {w : World} {a : Option Addr} {n : Nat} {E : Nat → En} (h : IsEns w a n E) {k : Nat} (hk : k < n) :
    ∃ b off, a = some ⟨b, off, none⟩ ∧ b < w.heap.size ∧ ∀ i, i < n → w.cell? ⟨b, off + i * 2, none⟩ = some (.int .i64 (E i).lev) ∧ w.cell? ⟨b, off + i * 2 + 1, none⟩ = some (.int .i64 (E i).date) := by
  rcases h with h | h
  · omega
  · exact h

theorem IsEns.below {w w' : World} {a : Option Addr} {n : Nat} {E : Nat → En} (h : IsEns w a n E) {B : Nat} (hB : w.heap.size ≤ B) (hb : Below B w w') : IsEns w' a n E := by
  rcases h with h | ⟨b, off, ha, hlt, hc⟩
  · exact Or.inl h
  · exact Or.inr ⟨b, off, ha, by have := hb.size; omega, fun i hi => ⟨by rw [hb.cell (p := ⟨b, off + i * 2, none⟩) (by show b < B; omega)]; exact (hc i hi).1, by rw [hb.cell (p := ⟨b, off + i * 2 + 1, none⟩) (by show b < B; omega)]; exact (hc i hi).2⟩⟩

theorem IsEns.congr {w : World} {a : Option Addr} {n : Nat} {E F : Nat → En} (h : IsEns w a n E) (he : ∀ i, i < n → E i = F i) : IsEns w a n F := by
  rcases h with h | ⟨b, off, ha, hlt, hc⟩
  · exact Or.inl h
  · exact Or.inr ⟨b, off, ha, hlt, fun i hi => by rw [← he i hi]; exact hc i hi⟩

theorem IsEns.of_blocks {W W' : World} {a : Option Addr} {k : Nat} {E : Nat → En} (h : IsEns W a k E) (hs : W.heap.size ≤ W'.heap.size) (hb : ∀ b o x, a = some ⟨b, o, x⟩ → W'.heap[b]? = W.heap[b]?) : IsEns W' a k E := by
  rcases h with h | ⟨b, off, rfl, hlt, hc⟩
  · exact Or.inl h
  · exact Or.inr ⟨b, off, rfl, by omega, fun i hi => ⟨by rw [← (hc i hi).1]; exact World.cell?_of_block (hb b off none rfl), by rw [← (hc i hi).2]; exact World.cell?_of_block (hb b off none rfl)⟩⟩

/-- Two are one. -/
def sameE (d e : En) : Bool := d.lev == e.lev && d.date == e.date
theorem sameE_iff (d e : En) : sameE d e = true ↔ d = e := by
  obtain ⟨a, b⟩ := d
  obtain ⟨x, y⟩ := e
  simp [sameE]

def eqEs (n : Nat) (E F : Nat → En) : Bool := (List.range n).all fun i => sameE (E i) (F i)

theorem eqEs_succ (k : Nat) (E F : Nat → En) (h : eqEs k E F = true) (h1 : sameE (E k) (F k) = true) : eqEs (k + 1) E F = true := by
  unfold eqEs at *
  rw [List.range_succ, List.all_append, h]; simp [h1]

theorem eqEs_not (n k : Nat) (E F : Nat → En) (hk : k < n) (h : sameE (E k) (F k) = false) : false = eqEs n E F := by
  symm
  rw [Bool.eq_false_iff]
  intro ha
  have := List.all_eq_true.1 ha k (by simpa using hk)
  rw [h] at this; cases this

theorem eqEs_self (n : Nat) (E F : Nat → En) (h : ∀ i, i < n → E i = F i) : eqEs n E F = true := by
  unfold eqEs
  rw [List.all_eq_true]
  intro i hi
  rw [h i (by simpa using hi)]
  exact (sameE_iff _ _).2 rfl

theorem eqEs_iff {n : Nat} {E F : Nat → En} : eqEs n E F = true ↔ ∀ i, i < n → E i = F i := by
  refine ⟨fun h i hi => ?_, eqEs_self n E F⟩
  unfold eqEs at h
  exact (sameE_iff _ _).1 (List.all_eq_true.1 h i (by simpa using hi))

/-- Entries as cells. -/
def entv : List En → List Value
  | [] => []
  | e :: l => .int .i64 e.lev :: .int .i64 e.date :: entv l

theorem entv_len : ∀ l : List En, (entv l).length = l.length * 2
  | [] => rfl
  | e :: l => by rw [entv, List.length_cons, List.length_cons, entv_len l, List.length_cons]; omega

theorem entv_app : ∀ l m : List En, entv (l ++ m) = entv l ++ entv m
  | [], m => rfl
  | e :: l, m => by rw [List.cons_append, entv, entv, entv_app l m]; rfl

theorem entv_one : ∀ l : List En, ∀ u ∈ entv l, u.oneCell' = true
  | [], u, h => by simp [entv] at h
  | e :: l, u, h => by
    simp only [entv, List.mem_cons] at h
    rcases h with rfl | rfl | h
    · rfl
    · rfl
    · exact entv_one l u h

theorem entv_get : ∀ (l : List En) (i : Nat), i < l.length → (entv l)[i * 2]? = some (.int .i64 (l.getD i default).lev) ∧ (entv l)[i * 2 + 1]? = some (.int .i64 (l.getD i default).date)
  | [], i, h => by simp at h
  | e :: l, 0, h => by simp [entv]
  | e :: l, i + 1, h => by
    have := entv_get l i (by simpa using h)
    have h2 : (i + 1) * 2 = i * 2 + 1 + 1 := by omega
    rw [h2, entv]
    simpa using this

/-- The first n as a list. -/
def enl (n : Nat) (E : Nat → En) : List En := (List.range n).map E
theorem enl_len (n : Nat) (E : Nat → En) : (enl n E).length = n := by simp [enl]
theorem enl_getD (n : Nat) (E : Nat → En) (i : Nat) (h : i < n) : (enl n E).getD i default = E i := by simp [enl, h]
theorem enl_succ (n : Nat) (E : Nat → En) : enl (n + 1) E = enl n E ++ [E n] := by simp [enl, List.range_succ]

theorem eowns_block {w : World} {B : Nat} {e : TypeId} {size n : Nat} {xs : List Value} {v : Value} (h : w.ownsRow B e size v n xs) {b : Nat} (hb : v.ownBlock = some b) : B ≤ b ∧ b < w.heap.size := h.lt b hb

theorem eowns_same {w w' : World} {B : Nat} {e : TypeId} {size n : Nat} {xs : List Value} {v : Value} (h : w.ownsRow B e size v n xs) (hw : ∀ b, v.ownBlock = some b → w'.heap[b]? = w.heap[b]?) : w'.ownsRow B e size v n xs := by
  refine ⟨h.1, ?_⟩
  rcases h.2 with h0 | ⟨g, cap, cur, hv, hB, hg, hr⟩
  · exact Or.inl h0
  · exact Or.inr ⟨g, cap, cur, hv, hB, (hw g (by rw [hv]; rfl)).trans hg, hr⟩

theorem ent_new_block (w : World) (o : Obj) : (w.alloc o).heap[w.heap.size]? = some o := by
  show (w.heap.push o)[w.heap.size]? = some o
  simp
end Go.Proofs.Ytokalajliphcdaa

/-
  What the helpers of the exact laws do at a book that lies in memory: counting it, copying it, holding two against each other, marking one.
-/
namespace Go.Proofs.Ytokalajliphcdaa
open Go.RowKit Go.Deep
set_option linter.unusedVariables false
set_option linter.unusedSimpArgs false

theorem entv_enl (n : Nat) (E : Nat → En) (j : Nat) : (entv (enl n E))[j]? = if j < n * 2 then some (if j % 2 = 0 then .int .i64 (E (j / 2)).lev else .int .i64 (E (j / 2)).date) else none := by
  by_cases h : j < n * 2
  · have h2 := entv_get (enl n E) (j / 2) (by rw [enl_len]; omega)
    rw [enl_getD n E _ (by omega)] at h2
    rw [if_pos h]
    by_cases e : j % 2 = 0
    · rw [if_pos e, ← h2.1, show j / 2 * 2 = j by omega]
    · rw [if_neg e, ← h2.2, show j / 2 * 2 + 1 = j by omega]
  · rw [if_neg h, List.getElem?_eq_none (by rw [entv_len, enl_len]; omega)]

theorem entv_set1 (n m : Nat) (E : Nat → En) (z : Int) : (entv (enl n E)).set (m * 2) (.int .i64 z) = entv (enl n (fun i => if i = m then ⟨z, (E m).date⟩ else E i)) := by
  apply List.ext_getElem?
  intro j
  rw [List.getElem?_set, entv_enl, entv_enl, entv_len, enl_len]
  by_cases e : m * 2 = j
  · subst e
    by_cases h : m * 2 < n * 2 <;> simp [h]
  · by_cases h : j < n * 2
    · rw [if_neg e, if_pos h, if_pos h]
      by_cases e2 : j / 2 = m
      · have : ¬ j % 2 = 0 := by omega
        simp [e2, this]
      · simp [e2]
    · rw [if_neg e, if_neg h, if_neg h]

theorem entv_set2 (n m : Nat) (E : Nat → En) (z : Int) : (entv (enl n E)).set (m * 2 + 1) (.int .i64 z) = entv (enl n (fun i => if i = m then ⟨(E m).lev, z⟩ else E i)) := by
  apply List.ext_getElem?
  intro j
  rw [List.getElem?_set, entv_enl, entv_enl, entv_len, enl_len]
  by_cases e : m * 2 + 1 = j
  · subst e
    by_cases h : m * 2 + 1 < n * 2
    · have h2 : (m * 2 + 1) / 2 = m := by omega
      have h3 : ¬ (m * 2 + 1) % 2 = 0 := by omega
      rw [if_pos rfl, if_pos h, if_pos h, h2, if_neg h3, if_pos rfl]
    · simp [h]
  · by_cases h : j < n * 2
    · rw [if_neg e, if_pos h, if_pos h]
      by_cases e2 : j / 2 = m
      · have : j % 2 = 0 := by omega
        simp [e2, this]
      · simp [e2]
    · rw [if_neg e, if_neg h, if_neg h]

theorem enl_ext {n : Nat} {E F : Nat → En} (h : ∀ i, i < n → E i = F i) : enl n E = enl n F := by
  unfold enl
  exact List.map_congr_left fun i hi => h i (by simpa using hi)

/-- The marks of entries. -/
def marksE (k : Nat) (i : Nat) : En := ⟨((k + 2 * i : Nat) : Int), ((k + 2 * i + 1 : Nat) : Int)⟩

theorem eowns_addr {w : World} {B : Nat} {e : TypeId} {size n c : Nat} {a : Option Addr} {xs : List Value} (h : w.ownsRow B e size (.slice a n c) n xs) (hn : 0 < n) : ∃ g, a = some ⟨g, 0, none⟩ ∧ g < w.heap.size := by
  rcases h.2 with ⟨h0, hz⟩ | ⟨g, cap, cur, hv, _, hg, _⟩
  · omega
  · cases hv
    exact ⟨g, rfl, (Array.getElem?_eq_some_iff.1 hg).1⟩
end Go.Proofs.Ytokalajliphcdaa

/-
  What BookChain of the specification answers.
-/
namespace Go.Proofs.Ytokalajliphcdaa
open Go.RowKit Go.Deep
set_option linter.unusedVariables false
set_option linter.unusedSimpArgs false

/-- Numbers as cells. -/
def natv (L : List Nat) : List Value := L.map fun x : Nat => Value.int .i64 (x : Int)
theorem natv_len (L : List Nat) : (natv L).length = L.length := by simp [natv]
theorem natv_one (L : List Nat) : ∀ u ∈ natv L, u.oneCell' = true := by
  intro u hu
  simp only [natv, List.mem_map] at hu
  obtain ⟨x, _, rfl⟩ := hu
  rfl

/-- A list of places in memory of one's own. -/
def OwnN (w : World) (B : Nat) (v : Value) (l : List Nat) : Prop := w.ownsRow B 3 1 v l.length (natv l)

theorem OwnN.below {w w' : World} {B : Nat} {v : Value} {l : List Nat} (h : OwnN w B v l) (hb : Below w.heap.size w w') : OwnN w' B v l :=
  eowns_same h fun b e => hb.block b (eowns_block h e).2

theorem OwnN.alloc {w : World} {B : Nat} {v : Value} {l : List Nat} (h : OwnN w B v l) (o : Obj) : OwnN (w.alloc o) B v l := World.ownsRow.alloc h o

theorem OwnN.lower {w : World} {B B' : Nat} {v : Value} {l : List Nat} (h : OwnN w B v l) (hB : B' ≤ B) : OwnN w B' v l := by
  refine ⟨h.1, ?_⟩
  rcases h.2 with h0 | ⟨g, cap, cur, hv, hb, hr⟩
  · exact Or.inl h0
  · exact Or.inr ⟨g, cap, cur, hv, by omega, hr⟩

theorem OwnN.empty (w : World) : OwnN (w.alloc (.cells #[] 3)) w.heap.size (.slice (some ⟨w.heap.size, 0, none⟩) 0 0) [] :=
  ⟨rfl, Or.inr ⟨w.heap.size, 0, #[], rfl, Nat.le_refl _, ent_new_block _ _, Nat.le_refl _, by unfold maxLen; omega, rfl, rfl⟩⟩
theorem OwnN.nil (w : World) (B : Nat) : OwnN w B (.slice none 0 0) [] := World.ownsRow_nil _ _ _ _

/-- A list of one in a new block. -/
theorem OwnN.one (w : World) (x : Nat) : OwnN (w.alloc (.cells #[.int .i64 (x : Int)] 3)) w.heap.size (.slice (some ⟨w.heap.size, 0, none⟩) 1 1) [x] :=
  ⟨rfl, Or.inr ⟨w.heap.size, 1, #[.int .i64 (x : Int)], rfl, Nat.le_refl _, ent_new_block _ _, Nat.le_refl _, by unfold maxLen; omega, rfl, rfl⟩⟩

theorem OwnN.reads {w : World} {B n c : Nat} {a : Option Addr} {l : List Nat} (h : OwnN w B (.slice a n c) l) : IsInts w a n (fun i => ((l.getD i 0 : Nat) : Int)) ∧ n = l.length ∧ n ≤ c ∧ c ≤ maxLen := by
  rcases h.2 with ⟨h0, hz⟩ | ⟨g, cap, cur, hv, hB, hg, hn, hm, hsz, htake⟩
  · cases h0
    exact ⟨Or.inl rfl, hz.symm, Nat.le_refl _, by unfold maxLen; omega⟩
  · cases hv
    refine ⟨Or.inr ⟨g, 0, rfl, (Array.getElem?_eq_some_iff.1 hg).1, fun i hi => ?_⟩, rfl, hn, hm⟩
    have h2 : (natv l)[i]? = some (.int .i64 ((l.getD i 0 : Nat) : Int)) := by simp [natv, hi]
    rw [← htake, Nat.mul_one, List.getElem?_take_of_lt hi] at h2
    simp only [World.cell?, hg]
    simpa using h2

/-- What lies in a row of one's own, as the source of an append. -/
theorem OwnN.src {w : World} {B n c g : Nat} {l : List Nat} (h : OwnN w B (.slice (some ⟨g, 0, none⟩) n c) l) : ∀ j u, (natv l)[j]? = some u → w.cell? ((⟨g, 0, none⟩ : Addr).add j) = some u := h.cells (g := g) rfl

theorem OwnN.addr {w : World} {B n c : Nat} {a : Option Addr} {l : List Nat} (h : OwnN w B (.slice a n c) l) (hne : a ≠ none) : ∃ g, a = some ⟨g, 0, none⟩ ∧ B ≤ g ∧ g < w.heap.size := by
  rcases h.2 with ⟨h0, _⟩ | ⟨g, cap, cur, hv, hB, hg, _⟩
  · cases h0; exact absurd rfl hne
  · cases hv
    exact ⟨g, rfl, hB, (Array.getElem?_eq_some_iff.1 hg).1⟩

set_option maxRecDepth 8000 in
set_option maxHeartbeats 4000000 in
theorem specBookChain_any (a : Option Addr) (n c : Nat) (V : Nat → Int) (D : Nat → Dp) (L : Nat → DLoc) (w : World) (hS : IsRecs w a n V D L) (hn : n ≤ maxLen) :
    Calls Try.prog 15 #[.slice a n c] w fun e w' => ∃ g m cc, e = .returned (.slice (some ⟨g, 0, none⟩) m cc) ∧ Below w.heap.size w w' ∧ OwnN w' w.heap.size (.slice (some ⟨g, 0, none⟩) m cc) (chainOf n V) := by
  have hn' := hn
  unfold maxLen at hn
  obtain ⟨i0, hi, hz0, hz1, hz2⟩ := info_parts infoInt
  have ho0 := OwnN.empty w
  have hb0 : Below w.heap.size w (w.alloc (.cells #[] 3)) := (Below.refl _ _).alloc (Nat.le_refl _) _
  by_cases h0 : n = 0
  · subst h0
    have HX : Hid (chainOf 0 V = []) := rfl
    go_enter Try.func15, Try.ntmps15
    go_wp2
    go_ret
    exact ⟨_, 0, 0, rfl, hb0, by rw [HX.out]; exact ho0⟩
  · have hnz : ((n : Int) == 0) = false := by simp; omega
    by_cases h20 : (20 : Int) < n
    · have h20' : decide ((20 : Int) < n) = true := decide_eq_true h20
      have HX : Hid (chainOf n V = []) := by show _ = _; unfold chainOf; rw [if_neg (by omega)]
      clear h20
      go_enter Try.func15, Try.ntmps15
      go_wp2
      go_ret
      exact ⟨_, 0, 0, rfl, hb0, by rw [HX.out]; exact ho0⟩
    · have h20' : decide ((20 : Int) < n) = false := decide_eq_false h20
      have HX : Hid (chainOf n V = chainFrom V n n) := by show _ = _; unfold chainOf; rw [if_pos (by omega)]
      have hn20 : n ≤ 20 := by omega
      clear h20
      go_enter Try.func15, Try.ntmps15
      go_wp2
      go_loopw [3, 4, 5] (fun o lv i wr => ∃ (k : Nat) (g m cc : Nat), k ≤ n ∧ i = .int .i64 ((n : Int) - 1 - k) ∧ lv = .int .i64 (leastFrom V n k) ∧ o = .slice (some ⟨g, 0, none⟩) m cc ∧ m = (chainFrom V n k).length ∧ OwnN wr w.heap.size o (chainFrom V n k) ∧ Below w.heap.size w wr) (fun _ _ i _ => (intOf i + 1).toNat)
      case atStart => exact ⟨0, w.heap.size, 0, 0, Nat.zero_le _, by rw [show ((n : Int) - 1 - ((0 : Nat) : Int)) = (n : Int) - 1 from by omega], rfl, rfl, rfl, ho0, hb0⟩
      case round =>
        obtain ⟨k, g, m, cc, hk, rfl, rfl, rfl, hm, ho, hb⟩ := hrel
        have hll := chain_len V n k
        have HM : Hid (m = (chainFrom V n k).length) := hm
        have hm20 : m ≤ 20 := by omega
        clear hm
        by_cases hlt : k < n
        · obtain ⟨x, hx⟩ : ∃ x : Nat, n - 1 - k = x := ⟨_, rfl⟩
          have hxi : (n : Int) - 1 - k = (x : Int) := by omega
          rw [hxi]
          obtain ⟨b, off, rfl, hlt2, hcc⟩ := (hS.below (Nat.le_refl _) hb).at (show x < n by omega)
          have c0 := (hcc x (by omega)).1
          have hxn : (x : Int) < (n : Int) := by omega
          have HLF : Hid (leastFrom V n (k + 1) = if V x < leastFrom V n k ∧ 0 ≤ V x then V x else leastFrom V n k) := by show _ = _; rw [leastFrom, hx]
          have HCF : Hid (chainFrom V n (k + 1) = if V x < leastFrom V n k ∧ 0 ≤ V x then x :: chainFrom V n k else chainFrom V n k) := by show _ = _; rw [chainFrom, hx]
          have HXI : Hid ((n : Int) - 1 - ((k + 1 : Nat) : Int) = (x : Int) - 1) := show _ = _ by omega
          have HB : Hid (Below w.heap.size w wr) := hb
          have hwr : w.heap.size ≤ wr.heap.size := hb.size
          clear hcc hxi hb hx
          by_cases hg : V x < leastFrom V n k ∧ 0 ≤ V x
          · have hd1 : decide (V x < leastFrom V n k) = true := decide_eq_true hg.1
            have hd2 : decide (0 ≤ V x) = true := decide_eq_true hg.2
            have HL2 : Hid (leastFrom V n (k + 1) = V x) := by show _ = _; rw [HLF.out, if_pos hg]
            have HC2 : Hid (chainFrom V n (k + 1) = [x] ++ chainFrom V n k) := by show _ = _; rw [HCF.out, if_pos hg]; rfl
            clear hg HLF HCF
            have hsrc := (ho.alloc (.cells #[.int .i64 (x : Int)] 3)).src
            have HSRC : Hid _ := hsrc
            have hone := (OwnN.one wr x).lower hwr
            clear hsrc ho
            go_wp2_with (at_builtin; refine wpList_append_own _ rfl _ _ 24 rfl w.heap.size 3 i0 (.int .i64 0) 1 8 Try.underlying24 hi hz0 hz1 hz2 rfl (by decide) _ _ _ rfl hone ⟨g, 0, none⟩ m cc (natv (chainFrom V n k)) rfl (by rw [natv_len, HM.out, Nat.mul_one]) HSRC.out (natv_one _) ?c3 ?c4 ?c5 ?_)
            case c3 => unfold maxLen; simp; omega
            case c4 => simp; omega
            case c5 => simp; omega
            intro v' w1 hown hgrow hnil
            have hO1 : OwnN w1 w.heap.size v' ([x] ++ chainFrom V n k) := by
              unfold OwnN
              rw [List.length_append, ← HM.out]
              have e : natv ([x] ++ chainFrom V n k) = natv [x] ++ natv (chainFrom V n k) := by simp [natv]
              rw [e]
              exact hown
            have hB1 : Below w.heap.size w w1 := (HB.out.alloc hwr (.cells #[.int .i64 (x : Int)] 3)).grown hgrow (by simp; omega) (fun q e => by cases e; exact hwr)
            obtain ⟨q1, c1, e1⟩ : ∃ q1 c1, v' = .slice (some ⟨q1, 0, none⟩) (1 + m) c1 := by
              rcases hown.2 with ⟨h0, hz⟩ | ⟨q, cap, cur, hv, _⟩
              · exfalso; simp at hz
              · exact ⟨q, cap, hv⟩
            subst e1
            have c0a : (wr.alloc (.cells #[.int .i64 (x : Int)] 3)).cell? ⟨b, off + x * 5, none⟩ = some (.int .i64 (V x)) := (((Below.refl wr.heap.size wr).alloc (Nat.le_refl _) (.cells #[.int .i64 (x : Int)] 3)).cell (p := ⟨b, off + x * 5, none⟩) hlt2).trans c0
            have c0b : w1.cell? ⟨b, off + x * 5, none⟩ = some (.int .i64 (V x)) := hgrow.cell c0a (by simp [Value.ownBlock]; omega)
            have HO1 : Hid _ := And.intro hO1 hB1
            have HM1 : Hid (1 + m = ([x] ++ chainFrom V n k).length) := by show _ = _; rw [List.length_append, ← HM.out]; rfl
            clear hown hgrow hnil hone hO1 hB1 HSRC c0a
            go_wp2
            go_roundw
            case rel => exact ⟨k + 1, q1, 1 + m, c1, by omega, by rw [HXI.out], by rw [HL2.out], rfl, by rw [HC2.out]; exact HM1.out, by rw [HC2.out]; exact HO1.out.1, HO1.out.2⟩
            case measure => simp [intOf] <;> omega
          · have HL2 : Hid (leastFrom V n (k + 1) = leastFrom V n k) := by show _ = _; rw [HLF.out, if_neg hg]
            have HC2 : Hid (chainFrom V n (k + 1) = chainFrom V n k) := by show _ = _; rw [HCF.out, if_neg hg]
            have HO1 : Hid _ := And.intro ho HB.out
            clear HLF HCF ho
            by_cases hg1 : V x < leastFrom V n k
            · have hd1 : decide (V x < leastFrom V n k) = true := decide_eq_true hg1
              have hd2 : decide (0 ≤ V x) = false := decide_eq_false (fun h => hg ⟨hg1, h⟩)
              clear hg hg1
              go_wp2
              go_roundw
              case rel => exact ⟨k + 1, g, m, cc, by omega, by rw [HXI.out], by rw [HL2.out], rfl, by rw [HC2.out]; exact HM.out, by rw [HC2.out]; exact HO1.out.1, HO1.out.2⟩
              case measure => simp [intOf] <;> omega
            · have hd1 : decide (V x < leastFrom V n k) = false := decide_eq_false hg1
              clear hg hg1
              go_wp2
              go_roundw
              case rel => exact ⟨k + 1, g, m, cc, by omega, by rw [HXI.out], by rw [HL2.out], rfl, by rw [HC2.out]; exact HM.out, by rw [HC2.out]; exact HO1.out.1, HO1.out.2⟩
              case measure => simp [intOf] <;> omega
        · obtain rfl : k = n := by omega
          have hneg : decide (0 ≤ ((k : Int) - 1 - (k : Int))) = false := decide_eq_false (by omega)
          have HO1 : Hid _ := And.intro ho hb
          clear ho hb
          go_wp2
          go_ret
          exact ⟨g, m, cc, rfl, HO1.out.2, by rw [HX.out]; exact HO1.out.1⟩
end Go.Proofs.Ytokalajliphcdaa

/-
  What is known of the library functions that the program calls, laid at this program.
-/
namespace Go.Proofs.Ytokalajliphcdaa
open Go.Shelf
def Try.lays112_ren : Go.Shelf.Ren := ⟨fun | 112 => 32 | n => n, fun | 28 => 24 | 3 => 3 | 4 => 4 | 0 => 0 | n => n, fun | n => n⟩
theorem Try.lays112 : Go.Proofs.Lays.n112 Try.prog Try.lays112_ren := {
  mixed := by kernel_rfl
  f112 := Try.func32.trans (congrArg some (by kernel_rfl))
  t0 := Try.underlying0
  a0 := Try.isAgg0
  z0 := Try.sizeOf0
  v0 := Try.zeroValue0
  t3 := Try.underlying3
  a3 := Try.isAgg3
  z3 := Try.sizeOf3
  v3 := Try.zeroValue3
  t4 := Try.underlying4
  a4 := Try.isAgg4
  z4 := Try.sizeOf4
  v4 := Try.zeroValue4
  t28 := Try.underlying24
  a28 := Try.isAgg24
  z28 := Try.sizeOf24
  v28 := Try.zeroValue24 }
open Go.RowKit Go.Lib Go.Sort in
theorem Try.slices_Reverse_int_arr (blk off cap : Nat) (d : Array Int) (w : World) (hH : Holds encI w blk off d) (hsz : d.size ≤ 9223372036854775807) :
    Calls Try.prog 32 #[.slice (some ⟨blk, off, none⟩) d.size cap] w fun e w' => e = .returned (.tuple #[]) ∧ ∃ n, w' = putRow encI (Sort.ahead w n) blk off d.reverse := Any.slices_Reverse_int_arr Try.lays112 blk off cap d w hH hsz
open Go.RowKit Go.Lib Go.Sort in
theorem Try.slices_Reverse_int (blk off cap : Nat) (zs : List Int) (w : World) (hH : Holds (Value.int .i64) w blk off zs.toArray) (hsz : zs.length ≤ 9223372036854775807) :
    Calls Try.prog 32 #[.slice (some ⟨blk, off, none⟩) zs.length cap] w fun e w' => e = .returned (.tuple #[]) ∧ ∃ n, w' = putRow (Value.int .i64) (Sort.ahead w n) blk off zs.reverse.toArray := Any.slices_Reverse_int Try.lays112 blk off cap zs w hH hsz
open Go.RowKit Go.Lib Go.Sort in
theorem Try.slices_Reverse_int_empty (a : Option Addr) (cap : Nat) (w : World) :
    Calls Try.prog 32 #[.slice a 0 cap] w fun e w' => e = .returned (.tuple #[]) ∧ w' = w := Any.slices_Reverse_int_empty Try.lays112 a cap w
open Go.RowKit Go.Lib Go.Sort in
theorem Try.slices_Reverse_int_cells (b off n c : Nat) (zs : List Int) (w : World) (hz : n ≤ zs.length) (hbig : n ≤ 9223372036854775807) (hc : ∀ j, j < zs.length → w.cell? ⟨b, off + j, none⟩ = some (.int .i64 (zs.getD j 0))) (hf : ∀ j, j < n → w.frozen? ⟨b, off + j, none⟩ = false) :
    Calls Try.prog 32 #[.slice (some ⟨b, off, none⟩) n c] w fun e w' => e = .returned (.tuple #[]) ∧ ∃ q, w' = (w.drewN q).setCells b off ((zs.take n).reverse.map (Value.int .i64)) := Any.slices_Reverse_int_cells Try.lays112 b off n c zs w hz hbig hc hf
end Go.Proofs.Ytokalajliphcdaa

/-
  What BookChain of the program answers: the places that are needed, ascending, in memory of its own.
-/
namespace Go.Proofs.Ytokalajliphcdaa
open Go.RowKit Go.Deep
set_option linter.unusedVariables false
set_option linter.unusedSimpArgs false
attribute [local go_sem] Oper.semAt_some

/-- What is stored into a row of one's own from place o on. -/
theorem owns_setCells {e : TypeId} {B g n cap : Nat} : ∀ (vs : List Value) (o : Nat) (xs : List Value) (w : World), w.ownsRow B e 1 (.slice (some ⟨g, 0, none⟩) n cap) n xs → xs.length = n → o + vs.length ≤ n →
    (w.setCells g o vs).ownsRow B e 1 (.slice (some ⟨g, 0, none⟩) n cap) n (xs.take o ++ vs ++ xs.drop (o + vs.length)) ∧ w.grownBy (w.setCells g o vs) (some g)
  | [], o, xs, w, h, hl, ho => by
    refine ⟨?_, World.grownBy.refl _ _⟩
    simpa [World.setCells] using h
  | v :: r, o, xs, w, h, hl, ho => by
    have h1 := h.stored o v
    have h2 := owns_setCells r (o + 1) (xs.set o v) (w.setCell ⟨g, o, none⟩ v) h1.1 (by simpa using hl) (by simp at ho ⊢; omega)
    refine ⟨?_, h1.2.trans h2.2⟩
    have ho' : o < xs.length := by simp at ho; omega
    have e1 : (xs.set o v).take (o + 1) = xs.take o ++ [v] := by
      rw [List.take_set, List.take_succ_eq_append_getElem ho', List.set_append, if_neg (by simp; omega), show o - (xs.take o).length = 0 from by simp; omega]
      rfl
    have e2 : (xs.set o v).drop (o + 1 + r.length) = xs.drop (o + (v :: r).length) := by
      rw [List.drop_set_of_lt (by omega)]
      congr 1
      simp; omega
    have := h2.1
    rw [e1, e2] at this
    simpa [World.setCells] using this

set_option maxHeartbeats 1000000 in
/-- Reverse, in memory of one's own. -/
theorem reverse_own (v : Value) (B : Nat) (l : List Nat) (w : World) (h : OwnN w B v l) (hn : l.length ≤ 1048576) :
    Calls Try.prog 32 #[v] w fun e w' => e = .returned (.tuple #[]) ∧ OwnN w' B v l.reverse ∧ w.grownBy w' v.ownBlock := by
  rcases h.2 with ⟨rfl, h0⟩ | ⟨g, cap, cur, rfl, hB, hg, hc, hm, hsz, htake⟩
  · have hl : l = [] := List.length_eq_zero_iff.1 (by simpa using h0)
    subst hl
    exact (Try.slices_Reverse_int_empty none 0 w).mono fun e w' ⟨he, hw⟩ => ⟨he, by subst hw; exact h, by subst hw; exact World.grownBy.refl _ _⟩
  · have hcell : ∀ j, j < l.length → w.cell? ⟨g, 0 + j, none⟩ = some (.int .i64 ((l.map fun x : Nat => (x : Int)).getD j 0)) := fun j hj => by
      have := h.cells (g := g) rfl j (.int .i64 ((l.map fun x : Nat => (x : Int)).getD j 0)) (by simp [natv, hj])
      rwa [show ((⟨g, 0, none⟩ : Addr).add j) = ⟨g, 0 + j, none⟩ from by unfold Addr.add; split <;> simp_all] at this
    refine (Try.slices_Reverse_int_cells g 0 l.length cap (l.map fun x : Nat => (x : Int)) w (by simp) (by omega) (fun j hj => hcell j (by simpa using hj)) (fun j hj => by simp [World.frozen?, hg])).mono ?_
    rintro e w' ⟨he, q, rfl⟩
    have h1 : (w.drewN q).ownsRow B 3 1 (.slice (some ⟨g, 0, none⟩) l.length cap) l.length (natv l) := eowns_same h (fun b _ => rfl)
    obtain ⟨s1, s2⟩ := owns_setCells (natv l.reverse) 0 (natv l) (w.drewN q) h1 (natv_len l) (by simp [natv])
    have ev : (((l.map fun x : Nat => (x : Int)).take l.length).reverse.map (Value.int .i64)) = natv l.reverse := by
      rw [List.take_of_length_le (by simp)]
      simp [natv, List.map_reverse]
    rw [ev]
    refine ⟨he, ?_, ?_⟩
    · unfold OwnN
      rw [List.length_reverse]
      have e2 : (natv l).take 0 ++ natv l.reverse ++ (natv l).drop (0 + (natv l.reverse).length) = natv l.reverse := by
        rw [List.drop_of_length_le (by simp [natv])]; simp
      rwa [e2] at s1
    · show w.grownBy _ (some g)
      exact (show w.grownBy (w.drewN q) (some g) from ⟨rfl, rfl, rfl, Nat.le_refl _, fun _ _ _ => rfl⟩).trans s2
/-- The blocks of the chain's own keep what they hold where others turn. -/
structure ChainI (B : Nat) (w : World) (l : List Nat) (X : Nat → Prop) (U : World) : Prop where
  all : ∃ v, Boxed U B 24 v ∧ OwnN U B v l ∧ ∀ g, v.ownBlock = some g → ¬ X g
  bel : Below B w U
  box : ¬ X B
  low : ∀ r, X r → B ≤ r ∧ r < U.heap.size
  len : B + 2 ≤ U.heap.size

theorem chainI_abides (B : Nat) (w : World) (hw : B ≤ w.heap.size) : AbidesSet (ChainI B w) := by
  intro l X X' U U' row h hgr hrow hX
  obtain ⟨v, hv, ho, hX1⟩ := h.all
  have hs := hgr.size
  have hbl := h.len
  refine ⟨⟨v, hv.kept hgr (fun e => h.box (hrow B e.symm)), ho.kept hgr ?_, fun g hg hXg => ?_⟩, h.bel.grown hgr (by omega) (fun r e => (h.low r (hrow r e)).1), fun hB => ?_, fun r hr => ?_, by omega⟩
  · cases hvb : v.ownBlock with
    | none => exact Or.inl rfl
    | some g => exact Or.inr (fun e => hX1 g hvb (hrow g e.symm))
  · rcases hX g hXg with e | e
    · exact hX1 g hg e
    · have := (eowns_block ho hg).2; omega
  · rcases hX B hB with e | e
    · exact h.box e
    · omega
  · rcases hX r hr with e | e
    · have := h.low r e; omega
    · omega

set_option maxRecDepth 100000 in
set_option maxHeartbeats 4000000 in
theorem implBookChain_any (a : Option Addr) (n c : Nat) (V : Nat → Int) (D : Nat → Dp) (L : Nat → DLoc) (w : World) (hS : IsRecs w a n V D L) (hn : n ≤ maxLen) :
    Calls Try.prog 17 #[.slice a n c] w fun e w' => ∃ b m cc, e = .returned (.slice b m cc) ∧ Below w.heap.size w w' ∧ OwnN w' w.heap.size (.slice b m cc) (chainOf n V) := by
  have hn' := hn
  unfold maxLen at hn'
  obtain ⟨i0, hi, hz0, hz1, hz2⟩ := info_parts infoInt
  by_cases hbig : 20 < n
  · have hb : decide ((20 : Int) < (n : Int)) = true := by simp; omega
    have hch : chainOf n V = [] := if_neg (by omega)
    rw [hch]
    clear hS
    go_enter Try.func17, Try.ntmps17
    go_wp2
    go_ret
    exact ⟨none, 0, 0, rfl, Below.refl _ _, OwnN.nil _ _⟩
  · have hb : decide ((20 : Int) < (n : Int)) = false := by simp; omega
    have hch : chainOf n V = (chosen V (downs n n)).reverse := by
      unfold chainOf
      rw [if_pos (by omega), (least_downs V n n).2]
    rw [hch]
    obtain ⟨b, off, hA, hbl, hcells⟩ : ∃ b off, (0 < n → a = some ⟨b, off, none⟩) ∧ (0 < n → b < w.heap.size) ∧ ∀ i, i < n → w.cell? ⟨b, off + i * 5, none⟩ = some (.int .i64 (V i)) ∧ w.cell? ⟨b, off + i * 5 + 1, none⟩ = some (.int .i64 (D i).since) ∧ w.cell? ⟨b, off + i * 5 + 2, none⟩ = some (.int .i64 (D i).date) ∧
        w.cell? ⟨b, off + i * 5 + 3, none⟩ = some (.slice (L i).lA (D i).ln (L i).lc) ∧ w.cell? ⟨b, off + i * 5 + 4, none⟩ = some (.slice (L i).iA (D i).m (L i).ic) := by
      rcases hS with h | ⟨b, off, ha, hlt, hc⟩
      · exact ⟨0, 0, fun h' => by omega, fun h' => by omega, fun i hi => by omega⟩
      · exact ⟨b, off, fun _ => ha, fun _ => hlt, fun i hi => ⟨(hc i hi).1, (hc i hi).2.1, (hc i hi).2.2.1, (hc i hi).2.2.2.1, (hc i hi).2.2.2.2.1⟩⟩
    clear hS
    refine (callsIn_wide (n := 6)).1 ?_
    refine callsIn_of_wp_marks Try.func17 rfl trivial ?_ rfl
    simp only [Try.ntmps17, List.size_toArray, List.length_cons, List.length_nil, Nat.reduceAdd, Nat.reduceSub, Array.replicate_succ, Array.replicate_zero, List.push_toArray, List.append_toArray, List.nil_append, List.cons_append]
    gi_wp2_with (refine ⟨trivial, ?_⟩; gi_at_call 31; refine (needed_in _ a n c _).mono ?_; rintro e w' ⟨rfl, rfl⟩)
    obtain ⟨B, hB⟩ : ∃ B, w.heap.size = B := ⟨_, rfl⟩
    have hWW : Below w.heap.size w ((w.alloc (.cells #[.slice none 0 0] 24)).alloc (.cells #[.slice a n c] 36)) := ((Below.refl _ w).alloc (Nat.le_refl _) _).alloc (by simp) _
    have hBC := (Boxed.new w 24 (.slice none 0 0)).alloc (.cells #[.slice a n c] 36)
    have hBT := Boxed.new (w.alloc (.cells #[.slice none 0 0] 24)) 36 (.slice a n c)
    have hsz : ((w.alloc (.cells #[.slice none 0 0] 24)).alloc (.cells #[.slice a n c] 36)).heap.size = B + 2 := by simp; omega
    simp only [World.size_alloc, hB] at hBC hBT
    simp only [hB]
    obtain ⟨W0, hW0⟩ : ∃ W0, W0 = ((w.alloc (.cells #[.slice none 0 0] 24)).alloc (.cells #[.slice a n c] 36)) := ⟨_, rfl⟩
    rw [← hW0] at hWW hBC hBT hsz ⊢
    clear hW0
    rw [hB] at hWW hbl
    have hbl0 : 0 < n → b < W0.heap.size := fun h => by have := hbl h; omega
    have hc0 : ∀ i, i < n → W0.cell? ⟨b, off + i * 5, none⟩ = some (.int .i64 (V i)) ∧ W0.cell? ⟨b, off + i * 5 + 1, none⟩ = some (.int .i64 (D i).since) ∧ W0.cell? ⟨b, off + i * 5 + 2, none⟩ = some (.int .i64 (D i).date) ∧
        W0.cell? ⟨b, off + i * 5 + 3, none⟩ = some (.slice (L i).lA (D i).ln (L i).lc) ∧ W0.cell? ⟨b, off + i * 5 + 4, none⟩ = some (.slice (L i).iA (D i).m (L i).ic) := fun i hi => by
      obtain ⟨c0, c1, c2, c3, c4⟩ := hcells i hi
      have k : ∀ o v, w.cell? ⟨b, o, none⟩ = some v → W0.cell? ⟨b, o, none⟩ = some v := fun o v h => (hWW.cell (p := ⟨b, o, none⟩) (hbl (by omega))).trans h
      exact ⟨k _ _ c0, k _ _ c1, k _ _ c2, k _ _ c3, k _ _ c4⟩
    have HSeq : Hid _ := needed_set 5 (by omega) (B + 1) b off n c a hA V D L (by omega) W0 hBT.cell (by omega) hbl0 hc0
    clear hc0 hcells hBT
    refine wpIn_rangeFunc_set rfl (by omega) (gf := 44) (lb := #[.pointer (some ⟨B + 1, 0, none⟩)]) rfl trivial (enters_of Try.func44 (by kernel_rfl) rfl) HSeq.out ?hZ (Below.refl _ _) (fun _ => rfl)
      (ChainI B w) (fun _ _ _ _ => False) (chainI_abides B w (by omega)) (fun _ _ _ _ _ _ _ h _ _ _ => h) ⟨⟨_, hBC, OwnN.nil _ _, fun g h => by simp [Value.ownBlock] at h⟩, hWW, id, fun r h => h.elim, by omega⟩
      (fun x X a' U => a' = { tmps := #[.slice a n c, undef, .slice none 0 0, .pointer (some ⟨B, 0, none⟩), .int .i64 (x : Nat), .slice a n c, .int .i64 (n : Nat), .bool false, .slice a n c, .func (.func 44) #[] #[.pointer (some ⟨B + 1, 0, none⟩)], .int .i64 (x : Nat), undef, undef, undef, undef, undef, undef, undef], defers := [] }) ?hAx ?assign ?body ?done ?stop
    case hZ => rintro r ⟨rfl, h⟩; exact hbl0 h
    case hAx => rintro x X a' U l' r o' h hl'; exact h
    case assign =>
      intro l' pre x X U K hi' hK
      have HK : Hid _ := hK
      clear hK
      gi_wp2
      exact HK.out _ U X (fun r h => h) (fun r h => Or.inl h) ⟨Nat.le_refl _, fun _ _ _ => rfl⟩ hi' rfl
    case stop =>
      rintro DD cc pre X U _ _ _ h _
      exact h.elim
    case done =>
      rintro DD ys X U hD hX rfl h hk
      obtain ⟨v, hv, ho, hX1⟩ := h.all
      have hlen : (chosen V (downs n n)).length ≤ 20 := Nat.le_trans (chosen_length V n n) (by omega)
      have hc := hv.cell
      have hDB : B + 2 ≤ DD := by omega
      have HB : Hid (Below B w U) := h.bel
      have hBU := h.len
      have hBX : B ≠ DD := by omega
      have HK : Hid (U.heap[DD]? = some (.deferred (some []))) := hk
      have HV : Hid (Boxed U B 24 v) := hv
      have HO : Hid (OwnN U B v (chosen V (downs n n))) := ho
      have hBn : some B ≠ v.ownBlock := hv.not_row (by decide) ho
      have hNb : v.ownBlock ≠ some DD := fun e => hX1 DD e hX
      obtain ⟨b1, m1, c1, rfl⟩ : ∃ b1 m1 c1, v = .slice b1 m1 c1 := by
        rcases ho.2 with ⟨h0, _⟩ | ⟨g, cap, cur, h0, _⟩
        · exact ⟨_, _, _, h0⟩
        · exact ⟨_, _, _, h0⟩
      have hRev : Hid _ := reverse_own _ B (chosen V (downs n n)) U ho (by omega)
      clear h hk hX1 hv ho HSeq
      gi_wp2_with (refine ⟨trivial, ?_⟩; gi_at_call 32; refine (callsIn_wide.2 hRev.out).mono ?_; rintro e w' ⟨rfl, ho2, hg2⟩; have hv2 := HV.out.kept hg2 hBn; have hc2 := hv2.cell; have HO2 : Hid _ := And.intro ho2 hg2; clear ho2 hg2 hv2)
      have hk2 : w'.heap[DD]? = some (.deferred (some [])) := (HO2.out.2.block DD (Array.getElem?_eq_some_iff.1 HK.out).1 (Ne.symm hNb)).trans HK.out
      refine ⟨by simp, .inl ⟨_, _, rfl, run_takeDeferred hk2, ?_⟩⟩
      have hsz2 := HO2.out.2.size
      have hb2 : Below B w w' := HB.out.grown HO2.out.2 (by omega) (fun k e => (eowns_block HO.out e).1)
      exact ⟨_, results_tmp rfl _ _ _, b1, m1, c1, rfl, by rw [hB]; exact hb2.grown (grownBy_putObj' w' DD (.deferred none)) (by omega) (fun k e => by cases e; omega), by rw [hB]; exact ownsRow_putObj HO2.out.1 _ hk2 rfl⟩
    case body =>
      rintro l' pre x X a' U ⟨r, hr⟩ h rfl hlen
      obtain ⟨v, hv, ho, hX1⟩ := h.all
      have hc := hv.cell
      have HH : Hid (ChainI B w pre X U) := h
      have hBU := h.len
      clear h
      gi_wp2_with (gi_at_builtin; refine wpListIn_append_own_at _ rfl _ _ 24 rfl B 3 i0 (.int .i64 0) 1 8 Try.underlying24 hi hz0 hz1 hz2 rfl (by decide) _ _ _ rfl (ho.alloc _) ⟨U.heap.size, 0, none⟩ 1 1 [.int .i64 (x : Nat)] rfl rfl (cell_one_new _ _ _) (by simp [Value.oneCell']) (by unfold maxLen; omega) (by omega) (by simp; omega) ?_; intro v' w1 hown' hgrow _ hat; obtain ⟨g', cap', rfl⟩ := ownsRow_succ hown'; obtain ⟨hv1, hv2, hr2, hk2, hb2⟩ := hv.appended (by decide) ho (by omega) (Nat.le_refl _) hown' hgrow; have hc1 := hv1.cell; have hf1 := hv1.frozen)
      have hgs := hgrow.size
      have hsz3 : U.heap.size ≤ (w1.setCell ⟨B, 0, none⟩ (.slice (some ⟨g', 0, none⟩) (pre.length + 1) cap')).heap.size := by simp [World.setCell] at hgs ⊢; omega
      refine ⟨⟨hsz3, fun r hr hl => ?_⟩, ⟨⟨_, hv2, ?_, ?_⟩, HH.out.bel.trans hb2, HH.out.box, fun r h => by have := HH.out.low r h; omega, by omega⟩⟩
      · have hne : r ≠ B := by
          rcases hr with h | ⟨rfl, h⟩
          · exact fun e => HH.out.box (e ▸ h)
          · have := hbl h; omega
        have hne2 : some r ≠ v.ownBlock := by
          intro e
          rcases hr with h | ⟨rfl, h⟩
          · exact hX1 r e.symm h
          · have := hbl h; have := (eowns_block ho e.symm).1; omega
        exact (blk_setCell_other _ _ _ _ hne).trans ((hgrow.block r (by simp; omega) hne2).trans (blk_alloc_lt _ _ _ hl))
      · unfold OwnN
        rw [List.length_append, show natv (pre ++ [x]) = natv pre ++ [.int .i64 (x : Nat)] from by simp [natv]]
        exact hr2
      · intro g hg hXg
        obtain rfl : g' = g := by simpa [Value.ownBlock] using hg
        rcases hat with e | e
        · exact hX1 g' e.symm hXg
        · have e2 : g' = U.heap.size + 1 := by simpa [Value.ownBlock] using e
          have := (HH.out.low g' hXg).2
          omega
end Go.Proofs.Ytokalajliphcdaa

/-
  What the small helpers of the exact laws do at a list of texts that lies in memory: szStringS counts it, toStringS makes a copy of it, eqStringS holds two of them against each other.
-/
namespace Go.Proofs.Ytokalajliphcdaa
open Go.RowKit
set_option linter.unusedVariables false

set_option maxHeartbeats 400000 in
theorem szStringS_any (a : Option Addr) (n c : Nat) (S : Nat → ByteArray) (left : Int) (w : World) (hS : IsStrs w a n S) (hm : Small n S) (hn : n ≤ maxLen) (h0 : 0 ≤ left) (h1 : left ≤ 1048576) :
    Calls Try.prog 82 #[.slice a n c, .int .i64 left] w fun e w' => w = w' ∧ ∃ r : Int, e = .returned (.int .i64 r) ∧ r ≤ left ∧ (0 ≤ r → r + n + sumTo S n ≤ left) := by
  unfold maxLen at hn
  by_cases hbig : left < n
  · go_enter Try.func82, Try.ntmps82
    go_wp2
    go_ret
    exact ⟨rfl, -1, rfl, by omega, fun h => by omega⟩
  · go_enter Try.func82, Try.ntmps82
    go_wp2
    go_loop [1, 5] (fun l i => ∃ (k : Nat) (r : Int), k ≤ n ∧ 0 ≤ r ∧ i = .int .i64 k ∧ l = .int .i64 r ∧ r + n + sumTo S k = left) (fun _ i => n - (intOf i).toNat)
    case atStart => exact ⟨0, left - n, Nat.zero_le _, by omega, rfl, rfl, by simp [sumTo]⟩
    case round =>
      obtain ⟨k, r, hk, hr, rfl, rfl, hsum⟩ := hrel
      by_cases hlt : k < n
      · obtain ⟨b, off, rfl, hlt2, hc⟩ := hS.at hlt
        have hck := hc k hlt
        have hmk := hm k hlt
        have hss := sumTo_succ S k
        have HS : Hid (sumTo S (k + 1) = sumTo S k + (S k).size) := hss
        have HM : Hid (r + n + sumTo S k = left) := hsum
        unfold maxLen at hmk
        have hr2 : r ≤ 1048576 := by omega
        clear hc hss hsum
        go_wp2
        · go_ret
          exact ⟨rfl, -1, rfl, by omega, fun h => by omega⟩
        · go_round
          case rel => exact ⟨k + 1, r - (S k).size, by omega, by omega, by go_num, by go_num, by have e1 := HS.out; have e2 := HM.out; omega⟩
          case measure => simp [intOf]; omega
      · go_wp2
        go_ret
        exact ⟨rfl, r, rfl, by omega, fun _ => by have : k = n := by omega
                                                  subst this; omega⟩

theorem infoStr : (Try.prog.info? 9).map (fun i => (i.zero, i.size, i.bytes)) = some (some (.string ByteArray.empty), 1, 16) := by kernel_rfl

theorem copy_step (S : Nat → ByteArray) (i k : Nat) : (if i = k then Value.string (S k) else if i < k then .string (S i) else .string ByteArray.empty) = if i < k + 1 then .string (S i) else .string ByteArray.empty := by
  by_cases h : i = k
  · subst h; simp
  · by_cases h2 : i < k
    · simp [h, h2, show i < k + 1 by omega]
    · simp [h, h2, show ¬ i < k + 1 by omega]

set_option maxHeartbeats 400000 in
theorem toStringS_any (a : Option Addr) (n c : Nat) (S : Nat → ByteArray) (w : World) (hS : IsStrs w a n S) (hn : n ≤ 1048576) :
    Calls Try.prog 84 #[.slice a n c] w fun e w' => e = .returned (.slice (some ⟨w.heap.size, 0, none⟩) n n) ∧ Below w.heap.size w w' ∧ w'.rowIs w.heap.size 9 n (fun i => .string (S i)) := by
  have hmk := fun w => run_make_row' (P := Try.prog) 87 9 (.string ByteArray.empty) 16 Try.underlying87 infoStr rfl .i64 .i64 n (by omega) (by omega) w
  go_enter Try.func84, Try.ntmps84
  go_wp2
  go_loopw [4] (fun i wr => ∃ k : Nat, k ≤ n ∧ i = .int .i64 k ∧ Below w.heap.size w wr ∧ wr.rowIs w.heap.size 9 n (fun j => if j < k then .string (S j) else .string ByteArray.empty)) (fun i _ => n - (intOf i).toNat)
  case atStart => exact ⟨0, Nat.zero_le _, rfl, (Below.refl _ _).alloc (Nat.le_refl _) _, (World.rowIs_made w (.string ByteArray.empty) n 9).congr (fun i _ => by simp)⟩
  case round =>
    obtain ⟨k, hk, rfl, hb, hrow⟩ := hrel
    by_cases hlt : k < n
    · obtain ⟨b, off, rfl, hlt2, hc⟩ := hS.at hlt
      have hck : wr.cell? ⟨b, off + k, none⟩ = some (.string (S k)) := by rw [hb.cell (p := ⟨b, off + k, none⟩) hlt2]; exact hc k hlt
      have hcr := hrow.cell hlt
      have hfr := hrow.frozen k
      have HB : Hid (Below w.heap.size w wr) := hb
      have HR : Hid (wr.rowIs w.heap.size 9 n (fun j => if j < k then .string (S j) else .string ByteArray.empty)) := hrow
      clear hc hb hrow
      go_wp2
      go_roundw
      case rel => exact ⟨k + 1, by omega, by go_num, HB.out.setCell (Nat.le_refl _) _, (HR.out.set k (.string (S k))).congr (fun i _ => copy_step S i k)⟩
      case measure => simp [intOf]; omega
    · have HB : Hid (Below w.heap.size w wr) := hb
      have HR : Hid (wr.rowIs w.heap.size 9 n (fun j => if j < k then .string (S j) else .string ByteArray.empty)) := hrow
      clear hb hrow
      go_wp2
      go_ret
      exact ⟨rfl, HB.out, HR.out.congr (fun i hi => by simp [show i < k by omega])⟩

set_option maxHeartbeats 400000 in
theorem eqStringS_any (a a' : Option Addr) (n c m c' : Nat) (S T : Nat → ByteArray) (w : World) (hS : IsStrs w a n S) (hT : IsStrs w a' m T) (hn : n ≤ maxLen) (hm : m ≤ maxLen) :
    Calls Try.prog 86 #[.slice a n c, .slice a' m c'] w fun e w' => (∃ q, w' = w.drewN q) ∧ e = .returned (.bool (decide (n = m) && eqS n S T)) := by
  unfold maxLen at hn hm
  by_cases hne : n = m
  · subst hne
    have hb : ((n : Int) != (n : Int)) = false := by simp
    go_enter Try.func86, Try.ntmps86
    go_wp2
    go_loopw [5] (fun i wr => ∃ k q : Nat, k ≤ n ∧ i = .int .i64 k ∧ wr = w.drewN q ∧ eqS k S T = true) (fun i _ => n - (intOf i).toNat)
    case atStart => exact ⟨0, 0, Nat.zero_le _, rfl, rfl, rfl⟩
    case round =>
      obtain ⟨k, q, hk, rfl, rfl, heq⟩ := hrel
      have HE : Hid (eqS k S T = true) := heq
      clear heq
      by_cases hlt : k < n
      · obtain ⟨b, off, rfl, hlt2, hc⟩ := hS.at hlt
        obtain ⟨b', off', rfl, hlt2', hc'⟩ := hT.at hlt
        have h1 := hc k hlt
        have h2 := hc' k hlt
        have hlti : (k : Int) < (n : Int) := by omega
        clear hc hc'
        go_wp2
        go_quiet (fail)
        go_wp2
        · go_ret
          exact ⟨⟨q + nq, by simp⟩, ret_bool (by rw [← eqS_not n k S T hlt ‹_›]; simp)⟩
        · go_roundw
          case rel => exact ⟨k + 1, q + nq, by omega, by go_num, rfl, eqS_succ k S T HE.out ‹_›⟩
          case measure => simp [intOf]; omega
      · have hkn : k = n := by omega
        have HK : Hid (k = n) := hkn
        clear hkn
        go_wp2
        go_ret
        exact ⟨⟨q, rfl⟩, ret_bool (by rw [← HK.out, HE.out]; simp)⟩
  · have hb : ((n : Int) != (m : Int)) = true := by simp; omega
    go_enter Try.func86, Try.ntmps86
    go_wp2
    go_ret
    exact ⟨⟨0, rfl⟩, ret_bool (by simp [hne])⟩

end Go.Proofs.Ytokalajliphcdaa

/-
  What the small helpers of the exact laws do at a list of numbers that lies in memory: szIntS counts it, toIntS makes a copy of it, eqIntS holds two of them against each other.
-/
namespace Go.Proofs.Ytokalajliphcdaa
open Go.RowKit
set_option linter.unusedVariables false

set_option maxHeartbeats 400000 in
theorem szIntS_any (a : Option Addr) (n c : Nat) (left : Int) (w : World) (hn : n ≤ maxLen) (h0 : 0 ≤ left) (h1 : left ≤ 1048576) :
    Calls Try.prog 83 #[.slice a n c, .int .i64 left] w fun e w' => w = w' ∧ ∃ r : Int, e = .returned (.int .i64 r) ∧ r ≤ left ∧ (0 ≤ r → r + n ≤ left) := by
  unfold maxLen at hn
  go_enter Try.func83, Try.ntmps83
  go_wp2
  · go_ret
    exact ⟨rfl, -1, rfl, by omega, fun h => by omega⟩
  · go_ret
    exact ⟨rfl, left - n, rfl, by omega, fun h => by omega⟩

theorem copyZ_step (Z : Nat → Int) (i k : Nat) : (if i = k then Value.int .i64 (Z k) else if i < k then .int .i64 (Z i) else .int .i64 0) = if i < k + 1 then .int .i64 (Z i) else .int .i64 0 := by
  by_cases h : i = k
  · subst h; simp
  · by_cases h2 : i < k
    · simp [h, h2, show i < k + 1 by omega]
    · simp [h, h2, show ¬ i < k + 1 by omega]

set_option maxHeartbeats 400000 in
theorem toIntS_any (a : Option Addr) (n c : Nat) (Z : Nat → Int) (w : World) (hS : IsInts w a n Z) (hn : n ≤ 1048576) :
    Calls Try.prog 85 #[.slice a n c] w fun e w' => e = .returned (.slice (some ⟨w.heap.size, 0, none⟩) n n) ∧ Below w.heap.size w w' ∧ w'.rowIs w.heap.size 3 n (fun i => .int .i64 (Z i)) := by
  have hmk := fun w => run_make_row' (P := Try.prog) 24 3 (.int .i64 0) 8 Try.underlying24 infoInt rfl .i64 .i64 n (by omega) (by omega) w
  go_enter Try.func85, Try.ntmps85
  go_wp2
  go_loopw [4] (fun i wr => ∃ k : Nat, k ≤ n ∧ i = .int .i64 k ∧ Below w.heap.size w wr ∧ wr.rowIs w.heap.size 3 n (fun j => if j < k then .int .i64 (Z j) else .int .i64 0)) (fun i _ => n - (intOf i).toNat)
  case atStart => exact ⟨0, Nat.zero_le _, rfl, (Below.refl _ _).alloc (Nat.le_refl _) _, (World.rowIs_made w (.int .i64 0) n 3).congr (fun i _ => by simp)⟩
  case round =>
    obtain ⟨k, hk, rfl, hb, hrow⟩ := hrel
    by_cases hlt : k < n
    · obtain ⟨b, off, rfl, hlt2, hc⟩ := hS.at hlt
      have hck : wr.cell? ⟨b, off + k, none⟩ = some (.int .i64 (Z k)) := by rw [hb.cell (p := ⟨b, off + k, none⟩) hlt2]; exact hc k hlt
      have hcr := hrow.cell hlt
      have hfr := hrow.frozen k
      have HB : Hid (Below w.heap.size w wr) := hb
      have HR : Hid (wr.rowIs w.heap.size 3 n (fun j => if j < k then .int .i64 (Z j) else .int .i64 0)) := hrow
      clear hc hb hrow
      go_wp2
      go_roundw
      case rel => exact ⟨k + 1, by omega, by go_num, HB.out.setCell (Nat.le_refl _) _, (HR.out.set k (.int .i64 (Z k))).congr (fun i _ => copyZ_step Z i k)⟩
      case measure => simp [intOf]; omega
    · have HB : Hid (Below w.heap.size w wr) := hb
      have HR : Hid (wr.rowIs w.heap.size 3 n (fun j => if j < k then .int .i64 (Z j) else .int .i64 0)) := hrow
      clear hb hrow
      go_wp2
      go_ret
      exact ⟨rfl, HB.out, HR.out.congr (fun i hi => by simp [show i < k by omega])⟩

set_option maxHeartbeats 400000 in
theorem eqIntS_any (a a' : Option Addr) (n c m c' : Nat) (Z Y : Nat → Int) (w : World) (hS : IsInts w a n Z) (hT : IsInts w a' m Y) (hn : n ≤ maxLen) (hm : m ≤ maxLen) :
    Calls Try.prog 9 #[.slice a n c, .slice a' m c'] w fun e w' => (∃ q, w' = w.drewN q) ∧ e = .returned (.bool (decide (n = m) && eqZ n Z Y)) := by
  unfold maxLen at hn hm
  by_cases hne : n = m
  · subst hne
    have hb : ((n : Int) != (n : Int)) = false := by simp
    go_enter Try.func9, Try.ntmps9
    go_wp2
    go_loopw [5] (fun i wr => ∃ k q : Nat, k ≤ n ∧ i = .int .i64 k ∧ wr = w.drewN q ∧ eqZ k Z Y = true) (fun i _ => n - (intOf i).toNat)
    case atStart => exact ⟨0, 0, Nat.zero_le _, rfl, rfl, rfl⟩
    case round =>
      obtain ⟨k, q, hk, rfl, rfl, heq⟩ := hrel
      have HE : Hid (eqZ k Z Y = true) := heq
      clear heq
      by_cases hlt : k < n
      · obtain ⟨b, off, rfl, hlt2, hc⟩ := hS.at hlt
        obtain ⟨b', off', rfl, hlt2', hc'⟩ := hT.at hlt
        have h1 := hc k hlt
        have h2 := hc' k hlt
        have hlti : (k : Int) < (n : Int) := by omega
        clear hc hc'
        by_cases hzy : Z k = Y k
        · have hzb : (Z k != Y k) = false := by simp [hzy]
          have HZ : Hid (Z k = Y k) := hzy
          clear hzy
          go_wp2
          go_quiet (fail)
          go_wp2
          go_roundw
          case rel => exact ⟨k + 1, q + nq, by omega, by go_num, rfl, eqZ_succ k Z Y HE.out HZ.out⟩
          case measure => simp [intOf]; omega
        · have hzb : (Z k != Y k) = true := by simp [hzy]
          have HZ : Hid (¬ Z k = Y k) := hzy
          clear hzy
          go_wp2
          go_quiet (fail)
          go_wp2
          go_ret
          exact ⟨⟨q + nq, by simp⟩, ret_bool (by rw [← eqZ_not n k Z Y hlt HZ.out]; simp)⟩
      · have hkn : k = n := by omega
        have HK : Hid (k = n) := hkn
        clear hkn
        go_wp2
        go_ret
        exact ⟨⟨q, rfl⟩, ret_bool (by rw [← HK.out, HE.out]; simp)⟩
  · have hb : ((n : Int) != (m : Int)) = true := by simp; omega
    go_enter Try.func9, Try.ntmps9
    go_wp2
    go_ret
    exact ⟨⟨0, rfl⟩, ret_bool (by simp [hne])⟩

end Go.Proofs.Ytokalajliphcdaa

/-
  What the small helpers of the exact laws do at a place of a tree and at a list of them.
-/
namespace Go.Proofs.Ytokalajliphcdaa
open Go.RowKit
set_option linter.unusedVariables false

set_option maxHeartbeats 400000 in
theorem szNode_any (d : Nd) (l : Loc) (left : Int) (w : World) (hI : NdIn w d l) (hf : d.Fits) (h0 : 0 ≤ left) (h1 : left ≤ 1048576) :
    Calls Try.prog 78 #[ndV d l, .int .i64 left] w fun e w' => Below w.heap.size w w' ∧ ∃ r : Int, e = .returned (.int .i64 r) ∧ r ≤ left ∧ (0 ≤ r → r + d.size ≤ left) := by
  unfold ndV Nd.size
  have ht := hf.text
  unfold maxLen at ht
  by_cases hbig : left < d.text.size
  · go_enter Try.func78, Try.ntmps78
    go_wp2
    go_ret
    exact ⟨(Below.refl _ _).alloc (Nat.le_refl _) _, -1, rfl, by omega, fun h => by omega⟩
  · go_enter Try.func78, Try.ntmps78
    go_wp2_with fail
    refine (szStringS_any l.nA d.nn l.nc d.names _ _ (hI.1.below (Nat.le_refl _) ((Below.refl _ _).alloc (Nat.le_refl _) _)) hf.names hf.nn (by omega) (by omega)).mono ?_
    rintro e w0 ⟨rfl, r, rfl, hr1, hr2⟩
    by_cases hr : r < 0
    · go_wp2
      go_ret
      exact ⟨(Below.refl _ _).alloc (Nat.le_refl _) _, -1, rfl, by omega, fun h => by omega⟩
    · have hr' : decide (r < 0) = false := by simp; omega
      have HR := hr2 (by omega)
      clear hr2
      go_wp2_with fail
      refine (szIntS_any l.kA d.kn l.kc _ _ hf.kn (by omega) (by omega)).mono ?_
      rintro e w0 ⟨rfl, r', rfl, hr1', hr2'⟩
      by_cases hr3 : r' < 0
      · go_wp2
        go_ret
        exact ⟨(Below.refl _ _).alloc (Nat.le_refl _) _, -1, rfl, by omega, fun h => by omega⟩
      · have hr3' : decide (r' < 0) = false := by simp; omega
        have HR' := hr2' (by omega)
        clear hr2'
        go_wp2
        go_ret
        exact ⟨(Below.refl _ _).alloc (Nat.le_refl _) _, r', rfl, by omega, fun h => by omega⟩

theorem toStringS_at (a : Option Addr) (n c : Nat) (S : Nat → ByteArray) (w : World) (hS : IsStrs w a n S) (hn : n ≤ 1048576) :
    Calls Try.prog 84 #[.slice a n c] w fun e w' => ∃ b, e = .returned (.slice (some ⟨b, 0, none⟩) n n) ∧ w.heap.size ≤ b ∧ b < w'.heap.size ∧ Below w.heap.size w w' ∧ IsStrs w' (some ⟨b, 0, none⟩) n S :=
  (toStringS_any a n c S w hS hn).mono fun e w' ⟨he, hb, hr⟩ => ⟨_, he, Nat.le_refl _, hr.lt, hb, IsStrs.row hr⟩

theorem toIntS_at (a : Option Addr) (n c : Nat) (Z : Nat → Int) (w : World) (hS : IsInts w a n Z) (hn : n ≤ 1048576) :
    Calls Try.prog 85 #[.slice a n c] w fun e w' => ∃ b, e = .returned (.slice (some ⟨b, 0, none⟩) n n) ∧ w.heap.size ≤ b ∧ b < w'.heap.size ∧ Below w.heap.size w w' ∧ IsInts w' (some ⟨b, 0, none⟩) n Z :=
  (toIntS_any a n c Z w hS hn).mono fun e w' ⟨he, hb, hr⟩ => ⟨_, he, Nat.le_refl _, hr.lt, hb, IsInts.row hr⟩

/-- What is known within toNode, the names being copied. -/
structure Node2 (w : World) (d : Nd) (l : Loc) (b : Nat) (W : World) : Prop where
  p : Blk W w.heap.size #[.int .i64 d.kind, .string d.text, .slice l.nA d.nn l.nc, .slice l.kA d.kn l.kc, .int .i64 d.turn] 114
  r : Blk W (w.heap.size + 1) #[.int .i64 0, .string ByteArray.empty, .slice none 0 0, .slice none 0 0, .int .i64 0] 89
  o : Blk W (w.heap.size + 1 + 1) #[.int .i64 d.kind, .string d.text, .slice (some ⟨b, 0, none⟩) d.nn d.nn, .slice none 0 0, .int .i64 0] 89
  bel : Below w.heap.size w W
  size : w.heap.size + 3 ≤ W.heap.size
  le : w.heap.size + 3 ≤ b
  lt : b < W.heap.size
  names : IsStrs W (some ⟨b, 0, none⟩) d.nn d.names

/-- What is known at toNode's end. -/
structure NodeEnd (w : World) (d : Nd) (b b' : Nat) (W : World) : Prop where
  r : Blk W (w.heap.size + 1) #[.int .i64 d.kind, .string d.text, .slice (some ⟨b, 0, none⟩) d.nn d.nn, .slice (some ⟨b', 0, none⟩) d.kn d.kn, .int .i64 d.turn] 89
  bel : Below w.heap.size w W
  names : IsStrs W (some ⟨b, 0, none⟩) d.nn d.names
  kids : IsInts W (some ⟨b', 0, none⟩) d.kn d.kids

set_option maxHeartbeats 1000000 in
theorem toNode_any (d : Nd) (l : Loc) (w : World) (hI : NdIn w d l) (hn : d.nn ≤ 1048576) (hk : d.kn ≤ 1048576) :
    Calls Try.prog 79 #[ndV d l] w fun e w' => ∃ l', e = .returned (ndV d l') ∧ Below w.heap.size w w' ∧ NdIn w' d l' ∧ l'.Past w.heap.size := by
  unfold ndV
  go_enter Try.func79, Try.ntmps79
  go_wp2_with fail
  refine at_world (F := New3 w _ _ _ _ _ _) (new3 w _ _ _ _ _ _) ?_
  rintro W ⟨hp, hr, ho, hb0, hs0⟩
  refine (toStringS_at l.nA d.nn l.nc d.names _ (hI.1.below (Nat.le_refl _) hb0) hn).mono ?_
  rintro e w1 ⟨b, rfl, hge, hlt, hb1, hS1⟩
  have hp1 := hp.below hb1 (by omega)
  have hr1 := hr.below hb1 (by omega)
  have ho1 := ho.below hb1 (by omega)
  have hk1 := (hI.2.below (Nat.le_refl _) hb0).below (Nat.le_refl _) hb1
  have hB1 := hb0.trans (hb1.mono (by omega))
  have o2 : w1.cell? ⟨w.heap.size + 1 + 1, 2, none⟩ = some (.slice none 0 0) := ho1.cell 2
  have f2 := ho1.frozen 2
  have p3 : w1.cell? ⟨w.heap.size, 3, none⟩ = some (.slice l.kA d.kn l.kc) := hp1.cell 3
  have hsz1 := hb1.size
  have F2 : Hid (Node2 w d l b _) := ⟨hp1.off (b' := w.heap.size + 1 + 1) (i := 2) (.slice (some ⟨b, 0, none⟩) d.nn d.nn) (by omega), hr1.off _ (by omega), ho1.set 2 _, bel_put hB1 _ (by omega), by simp; omega, by omega, by simp; omega, hS1.off _ (by omega)⟩
  clear hp hr ho hb0 hb1 hp1 hr1 ho1 hk1 hB1 hS1
  go_wp2_with fail
  refine at_world (F := Node2 w d l b) F2.out ?_
  clear F2 hge hlt f2 o2 p3 hs0 hsz1
  rintro W ⟨hp, hr, ho, hb0, hs0, hlb, hbl, hS⟩
  refine (toIntS_at l.kA d.kn l.kc d.kids _ (hI.2.below (Nat.le_refl _) hb0) hk).mono ?_
  rintro e w2 ⟨b', rfl, hge, hlt, hb1, hZ⟩
  have hp1 := hp.below hb1 (by omega)
  have hr1 := hr.below hb1 (by omega)
  have ho1 := ho.below hb1 (by omega)
  have hB1 := hb0.trans (hb1.mono (by omega))
  have hS1 := hS.below (Nat.le_refl _) hb1
  have hsz := hb1.size
  have o0 : w2.cell? ⟨w.heap.size + 1 + 1, 0, none⟩ = some (.int .i64 d.kind) := ho1.cell 0
  have o1 : w2.cell? ⟨w.heap.size + 1 + 1, 1, none⟩ = some (.string d.text) := ho1.cell 1
  have o2 : w2.cell? ⟨w.heap.size + 1 + 1, 2, none⟩ = some (.slice (some ⟨b, 0, none⟩) d.nn d.nn) := ho1.cell 2
  have o3 : w2.cell? ⟨w.heap.size + 1 + 1, 3, none⟩ = some (.slice none 0 0) := ho1.cell 3
  have o4 : w2.cell? ⟨w.heap.size + 1 + 1, 4, none⟩ = some (.int .i64 0) := ho1.cell 4
  have f3 := ho1.frozen 3
  have f4 := ho1.frozen 4
  have p4 : w2.cell? ⟨w.heap.size, 4, none⟩ = some (.int .i64 d.turn) := hp1.cell 4
  have r0 : w2.cell? ⟨w.heap.size + 1, 0, none⟩ = some (.int .i64 0) := hr1.cell 0
  have r1 : w2.cell? ⟨w.heap.size + 1, 1, none⟩ = some (.string ByteArray.empty) := hr1.cell 1
  have r2 : w2.cell? ⟨w.heap.size + 1, 2, none⟩ = some (.slice none 0 0) := hr1.cell 2
  have r3 : w2.cell? ⟨w.heap.size + 1, 3, none⟩ = some (.slice none 0 0) := hr1.cell 3
  have r4 : w2.cell? ⟨w.heap.size + 1, 4, none⟩ = some (.int .i64 0) := hr1.cell 4
  have g0 := hr1.frozen 0
  have g1 := hr1.frozen 1
  have g2 := hr1.frozen 2
  have g3 := hr1.frozen 3
  have g4 := hr1.frozen 4
  have FB : Hid (Blk w2 (w.heap.size + 1) _ _ ∧ Below w.heap.size w w2 ∧ IsStrs w2 (some ⟨b, 0, none⟩) d.nn d.names ∧ IsInts w2 (some ⟨b', 0, none⟩) d.kn d.kids) := ⟨hr1, hB1, hS1, hZ⟩
  clear hp hr ho hb0 hb1 hp1 hr1 ho1 hB1 hS1 hZ hS
  go_wp2_with fail
  obtain ⟨hr, hB, hS, hZ⟩ := FB.out
  refine end_world (F := NodeEnd w d b b')
    ⟨((((((hr.off _ (by omega)).off _ (by omega)).set 0 _).set 1 _).set 2 _).set 3 _).set 4 _,
     bel_put (bel_put (bel_put (bel_put (bel_put (bel_put (bel_put hB _ (by omega)) _ (by omega)) _ (by omega)) _ (by omega)) _ (by omega)) _ (by omega)) _ (by omega),
     ((((((hS.off _ (by omega)).off _ (by omega)).off _ (by omega)).off _ (by omega)).off _ (by omega)).off _ (by omega)).off _ (by omega),
     ((((((hZ.off _ (by omega)).off _ (by omega)).off _ (by omega)).off _ (by omega)).off _ (by omega)).off _ (by omega)).off _ (by omega)⟩ ?_
  clear hr hB hS hZ FB o0 o1 o2 o3 o4 f3 f4 p4 r0 r1 r2 r3 r4 g0 g1 g2 g3 g4
  rintro W ⟨hr, hB, hS, hZ⟩
  have r0 : W.cell? ⟨w.heap.size + 1, 0, none⟩ = some (.int .i64 d.kind) := hr.cell 0
  have r1 : W.cell? ⟨w.heap.size + 1, 1, none⟩ = some (.string d.text) := hr.cell 1
  have r2 : W.cell? ⟨w.heap.size + 1, 2, none⟩ = some (.slice (some ⟨b, 0, none⟩) d.nn d.nn) := hr.cell 2
  have r3 : W.cell? ⟨w.heap.size + 1, 3, none⟩ = some (.slice (some ⟨b', 0, none⟩) d.kn d.kn) := hr.cell 3
  have r4 : W.cell? ⟨w.heap.size + 1, 4, none⟩ = some (.int .i64 d.turn) := hr.cell 4
  exact bodyPost_ret (v := .agg #[.int .i64 d.kind, .string d.text, .slice (some ⟨b, 0, none⟩) d.nn d.nn, .slice (some ⟨b', 0, none⟩) d.kn d.kn, .int .i64 d.turn]) (by simp [results, Try.results79, go_sem, r0, r1, r2, r3, r4]) rfl ⟨⟨some ⟨b, 0, none⟩, d.nn, some ⟨b', 0, none⟩, d.kn⟩, rfl, hB, ⟨hS, hZ⟩, ⟨b, 0, rfl, by omega⟩, b', 0, rfl, by omega⟩
end Go.Proofs.Ytokalajliphcdaa

/-
  What the small helpers of the exact laws do at a list of places.
-/
namespace Go.Proofs.Ytokalajliphcdaa
open Go.RowKit
set_option linter.unusedVariables false
set_option linter.unusedSimpArgs false

/-- n places lie in a block of their own, so many of them laid. -/
structure NdRow (w : World) (b n k : Nat) (D : Nat → Nd) (L : Nat → Loc) : Prop where
  row : ∃ g, w.rowIs b 89 (n * 5) g ∧ ∀ i, i < k → g (i * 5) = .int .i64 (D i).kind ∧ g (i * 5 + 1) = .string (D i).text ∧ g (i * 5 + 2) = .slice (L i).nA (D i).nn (L i).nc ∧ g (i * 5 + 3) = .slice (L i).kA (D i).kn (L i).kc ∧ g (i * 5 + 4) = .int .i64 (D i).turn
  lists : ∀ i, i < k → NdIn w (D i) (L i) ∧ (L i).Past (b + 1)

theorem NdRow.nds {w : World} {b n : Nat} {D : Nat → Nd} {L : Nat → Loc} (h : NdRow w b n n D L) : IsNds w (some ⟨b, 0, none⟩) n D L := by
  obtain ⟨⟨g, hr, hg⟩, hl⟩ := h
  refine Or.inr ⟨b, 0, rfl, hr.lt, fun i hi => ?_⟩
  obtain ⟨g0, g1, g2, g3, g4⟩ := hg i hi
  rw [Nat.zero_add, ← g0, ← g1, ← g2, ← g3, ← g4]
  exact ⟨hr.cell (by omega), hr.cell (by omega), hr.cell (by omega), hr.cell (by omega), hr.cell (by omega), (hl i hi).1⟩

theorem NdRow.below {w w' : World} {b n k : Nat} {D : Nat → Nd} {L : Nat → Loc} (h : NdRow w b n k D L) {B : Nat} (hB : w.heap.size ≤ B) (hb : Below B w w') : NdRow w' b n k D L := by
  obtain ⟨⟨g, hr, hg⟩, hl⟩ := h
  have := hr.lt
  exact ⟨⟨g, rowIs_below hr hb (by omega), hg⟩, fun i hi => ⟨(hl i hi).1.below hB hb, (hl i hi).2⟩⟩

theorem NdRow.step {w : World} {b n k : Nat} {D : Nat → Nd} {L : Nat → Loc} (h : NdRow w b n k D L) {l : Loc} (hI : NdIn w (D k) l) (hp : l.Past (b + 1)) :
    NdRow (((((w.setCell ⟨b, k * 5, none⟩ (.int .i64 (D k).kind)).setCell ⟨b, k * 5 + 1, none⟩ (.string (D k).text)).setCell ⟨b, k * 5 + 2, none⟩ (.slice l.nA (D k).nn l.nc)).setCell ⟨b, k * 5 + 3, none⟩ (.slice l.kA (D k).kn l.kc)).setCell ⟨b, k * 5 + 4, none⟩ (.int .i64 (D k).turn)) b n (k + 1) D (fun i => if i = k then l else L i) := by
  obtain ⟨⟨g, hr, hg⟩, hl⟩ := h
  refine ⟨⟨_, ((((hr.set _ _).set _ _).set _ _).set _ _).set _ _, fun i hi => ?_⟩, fun i hi => ?_⟩
  · by_cases e : i = k
    · subst e
      simp
    · have := hg i (by omega)
      simp only [if_neg e]
      simp [show ¬ i * 5 = k * 5 by omega, show ¬ i * 5 = k * 5 + 1 by omega, show ¬ i * 5 = k * 5 + 2 by omega, show ¬ i * 5 = k * 5 + 3 by omega, show ¬ i * 5 = k * 5 + 4 by omega,
        show ¬ i * 5 + 1 = k * 5 by omega, show ¬ i * 5 + 1 = k * 5 + 2 by omega, show ¬ i * 5 + 1 = k * 5 + 3 by omega, show ¬ i * 5 + 1 = k * 5 + 4 by omega,
        show ¬ i * 5 + 2 = k * 5 by omega, show ¬ i * 5 + 2 = k * 5 + 1 by omega, show ¬ i * 5 + 2 = k * 5 + 3 by omega, show ¬ i * 5 + 2 = k * 5 + 4 by omega,
        show ¬ i * 5 + 3 = k * 5 by omega, show ¬ i * 5 + 3 = k * 5 + 1 by omega, show ¬ i * 5 + 3 = k * 5 + 2 by omega, show ¬ i * 5 + 3 = k * 5 + 4 by omega,
        show ¬ i * 5 + 4 = k * 5 by omega, show ¬ i * 5 + 4 = k * 5 + 1 by omega, show ¬ i * 5 + 4 = k * 5 + 2 by omega, show ¬ i * 5 + 4 = k * 5 + 3 by omega, e]
      exact this
  · by_cases e : i = k
    · subst e
      simp only [if_true]
      exact ⟨((((hI.off _ hp).off _ hp).off _ hp).off _ hp).off _ hp, hp⟩
    · obtain ⟨h1, h2⟩ := hl i (by omega)
      simp only [if_neg e]
      exact ⟨((((h1.off _ h2).off _ h2).off _ h2).off _ h2).off _ h2, h2⟩
end Go.Proofs.Ytokalajliphcdaa

/-
  What the exact laws' helpers answer that hold two places, two lists of places and two trees against each other.
-/
namespace Go.Proofs.Ytokalajliphcdaa
open Go.RowKit
set_option linter.unusedVariables false

set_option maxHeartbeats 1000000 in
theorem eqNode_any (d d' : Nd) (l l' : Loc) (w : World) (hI : NdIn w d l) (hI' : NdIn w d' l') (hf : d.Fits) (hf' : d'.Fits) :
    Calls Try.prog 80 #[ndV d l, ndV d' l'] w fun e w' => Below w.heap.size w w' ∧ e = .returned (.bool (d.same d')) := by
  have hn := hf.nn
  have hn' := hf'.nn
  have hk := hf.kn
  have hk' := hf'.kn
  unfold ndV
  go_enter Try.func80, Try.ntmps80
  go_wp2_with fail
  · go_ret
    exact ⟨((Below.refl _ _).alloc (Nat.le_refl _) _).alloc (by simp) _, ret_bool (same_kind ‹_›)⟩
  · go_ret
    exact ⟨((Below.refl _ _).alloc (Nat.le_refl _) _).alloc (by simp) _, ret_bool (same_text ‹_›)⟩
  have HK : Hid ((d.kind != d'.kind) = false ∧ (!d.text.toList == d'.text.toList) = false) := ⟨‹_›, ‹_›⟩
  refine at_world (F := New2 w _ _ _ _) (new2 w _ _ _ _) ?_
  rintro W ⟨hp, hp', hb, hs⟩
  have hI1 := hI.below (Nat.le_refl _) hb
  have hI1' := hI'.below (Nat.le_refl _) hb
  refine (eqStringS_any l.nA l'.nA d.nn l.nc d'.nn l'.nc d.names d'.names W hI1.1 hI1'.1 hn hn').mono ?_
  rintro e w1 ⟨⟨q, rfl⟩, rfl⟩
  have p3 : W.cell? ⟨w.heap.size, 3, none⟩ = some (.slice l.kA d.kn l.kc) := hp.cell 3
  have p4 : W.cell? ⟨w.heap.size, 4, none⟩ = some (.int .i64 d.turn) := hp.cell 4
  have q3 : W.cell? ⟨w.heap.size + 1, 3, none⟩ = some (.slice l'.kA d'.kn l'.kc) := hp'.cell 3
  have q4 : W.cell? ⟨w.heap.size + 1, 4, none⟩ = some (.int .i64 d'.turn) := hp'.cell 4
  have HI : Hid (IsInts W l.kA d.kn d.kids ∧ IsInts W l'.kA d'.kn d'.kids) := ⟨hI1.2, hI1'.2⟩
  have HB : Hid (Below w.heap.size w W) := hb
  clear hI1 hI1' hI hI' hp hp' hb hs hf hf'
  cases hq1 : (decide (d.nn = d'.nn) && eqS d.nn d.names d'.names) with
  | false =>
    have HQ : Hid ((decide (d.nn = d'.nn) && eqS d.nn d.names d'.names) = false) := hq1
    clear hq1
    go_wp2
    go_ret
    exact ⟨below_drewN HB.out _, ret_bool (same_names HQ.out)⟩
  | true =>
    have HQ : Hid ((decide (d.nn = d'.nn) && eqS d.nn d.names d'.names) = true) := hq1
    clear hq1
    go_wp2_with fail
    refine (eqIntS_any l.kA l'.kA d.kn l.kc d'.kn l'.kc d.kids d'.kids (W.drewN q) (HI.out.1.below (Nat.le_refl _) (below_drewN (Below.refl _ _) _)) (HI.out.2.below (Nat.le_refl _) (below_drewN (Below.refl _ _) _)) hk hk').mono ?_
    rintro e w1 ⟨⟨q', rfl⟩, rfl⟩
    cases hq1 : (decide (d.kn = d'.kn) && eqZ d.kn d.kids d'.kids) with
    | false =>
      have HZ : Hid ((decide (d.kn = d'.kn) && eqZ d.kn d.kids d'.kids) = false) := hq1
      clear hq1
      go_wp2
      go_ret
      exact ⟨below_drewN HB.out _, ret_bool (same_kids HZ.out)⟩
    | true =>
      have HZ : Hid ((decide (d.kn = d'.kn) && eqZ d.kn d.kids d'.kids) = true) := hq1
      clear hq1
      go_wp2
      · go_ret
        exact ⟨below_drewN HB.out _, ret_bool (same_turn ‹_›)⟩
      · go_ret
        exact ⟨below_drewN HB.out _, ret_bool (same_yes HK.out.1 HK.out.2 HQ.out HZ.out ‹_›)⟩

theorem NdRow.off {w : World} {b n k : Nat} {D : Nat → Nd} {L : Nat → Loc} (h : NdRow w b n k D L) {b' i : Nat} (v : Value) (hb : b' < b) : NdRow (w.setCell ⟨b', i, none⟩ v) b n k D L := by
  obtain ⟨⟨g, hr, hg⟩, hl⟩ := h
  exact ⟨⟨g, hr.setOther (a := ⟨b', i, none⟩) (show b ≠ b' by omega) v, hg⟩, fun i hi => ⟨(hl i hi).1.off v ((hl i hi).2.mono (by omega)), (hl i hi).2⟩⟩
end Go.Proofs.Ytokalajliphcdaa

/-
  What the small helpers of the exact laws do at a list of truth values that lies in memory: szBoolS counts it, toBoolS makes a copy of it, eqBoolS holds two of them against each other.
-/
namespace Go.Proofs.Ytokalajliphcdaa
open Go.RowKit
set_option linter.unusedVariables false

set_option maxHeartbeats 400000 in
theorem szBoolS_any (a : Option Addr) (n c : Nat) (left : Int) (w : World) (hn : n ≤ maxLen) (h0 : 0 ≤ left) (h1 : left ≤ 1048576) :
    Calls Try.prog 53 #[.slice a n c, .int .i64 left] w fun e w' => w = w' ∧ ∃ r : Int, e = .returned (.int .i64 r) ∧ r ≤ left ∧ (0 ≤ r → r + n ≤ left) := by
  unfold maxLen at hn
  go_enter Try.func53, Try.ntmps53
  go_wp2
  · go_ret
    exact ⟨rfl, -1, rfl, by omega, fun h => by omega⟩
  · go_ret
    exact ⟨rfl, left - n, rfl, by omega, fun h => by omega⟩

theorem copyB_step (Z : Nat → Bool) (i k : Nat) : (if i = k then Value.bool (Z k) else if i < k then .bool (Z i) else .bool false) = if i < k + 1 then .bool (Z i) else .bool false := by
  by_cases h : i = k
  · subst h; simp
  · by_cases h2 : i < k
    · simp [h, h2, show i < k + 1 by omega]
    · simp [h, h2, show ¬ i < k + 1 by omega]

set_option maxHeartbeats 400000 in
theorem toBoolS_any (a : Option Addr) (n c : Nat) (Z : Nat → Bool) (w : World) (hS : IsBools w a n Z) (hn : n ≤ 1048576) :
    Calls Try.prog 55 #[.slice a n c] w fun e w' => e = .returned (.slice (some ⟨w.heap.size, 0, none⟩) n n) ∧ Below w.heap.size w w' ∧ w'.rowIs w.heap.size 4 n (fun i => .bool (Z i)) := by
  have hmk := fun w => run_make_row' (P := Try.prog) 55 4 (.bool false) 1 Try.underlying55 infoBool rfl .i64 .i64 n (by omega) (by omega) w
  go_enter Try.func55, Try.ntmps55
  go_wp2
  go_loopw [4] (fun i wr => ∃ k : Nat, k ≤ n ∧ i = .int .i64 k ∧ Below w.heap.size w wr ∧ wr.rowIs w.heap.size 4 n (fun j => if j < k then .bool (Z j) else .bool false)) (fun i _ => n - (intOf i).toNat)
  case atStart => exact ⟨0, Nat.zero_le _, rfl, (Below.refl _ _).alloc (Nat.le_refl _) _, (World.rowIs_made w (.bool false) n 4).congr (fun i _ => by simp)⟩
  case round =>
    obtain ⟨k, hk, rfl, hb, hrow⟩ := hrel
    by_cases hlt : k < n
    · obtain ⟨b, off, rfl, hlt2, hc⟩ := hS.at hlt
      have hck : wr.cell? ⟨b, off + k, none⟩ = some (.bool (Z k)) := by rw [hb.cell (p := ⟨b, off + k, none⟩) hlt2]; exact hc k hlt
      have hcr := hrow.cell hlt
      have hfr := hrow.frozen k
      have HB : Hid (Below w.heap.size w wr) := hb
      have HR : Hid (wr.rowIs w.heap.size 4 n (fun j => if j < k then .bool (Z j) else .bool false)) := hrow
      clear hc hb hrow
      go_wp2
      go_roundw
      case rel => exact ⟨k + 1, by omega, by go_num, HB.out.setCell (Nat.le_refl _) _, (HR.out.set k (.bool (Z k))).congr (fun i _ => copyB_step Z i k)⟩
      case measure => simp [intOf]; omega
    · have HB : Hid (Below w.heap.size w wr) := hb
      have HR : Hid (wr.rowIs w.heap.size 4 n (fun j => if j < k then .bool (Z j) else .bool false)) := hrow
      clear hb hrow
      go_wp2
      go_ret
      exact ⟨rfl, HB.out, HR.out.congr (fun i hi => by simp [show i < k by omega])⟩

set_option maxHeartbeats 400000 in
theorem eqBoolS_any (a a' : Option Addr) (n c m c' : Nat) (Z Y : Nat → Bool) (w : World) (hS : IsBools w a n Z) (hT : IsBools w a' m Y) (hn : n ≤ maxLen) (hm : m ≤ maxLen) :
    Calls Try.prog 58 #[.slice a n c, .slice a' m c'] w fun e w' => (∃ q, w' = w.drewN q) ∧ e = .returned (.bool (decide (n = m) && eqB n Z Y)) := by
  unfold maxLen at hn hm
  by_cases hne : n = m
  · subst hne
    have hb : ((n : Int) != (n : Int)) = false := by simp
    go_enter Try.func58, Try.ntmps58
    go_wp2
    go_loopw [5] (fun i wr => ∃ k q : Nat, k ≤ n ∧ i = .int .i64 k ∧ wr = w.drewN q ∧ eqB k Z Y = true) (fun i _ => n - (intOf i).toNat)
    case atStart => exact ⟨0, 0, Nat.zero_le _, rfl, rfl, rfl⟩
    case round =>
      obtain ⟨k, q, hk, rfl, rfl, heq⟩ := hrel
      have HE : Hid (eqB k Z Y = true) := heq
      clear heq
      by_cases hlt : k < n
      · obtain ⟨b, off, rfl, hlt2, hc⟩ := hS.at hlt
        obtain ⟨b', off', rfl, hlt2', hc'⟩ := hT.at hlt
        have h1 := hc k hlt
        have h2 := hc' k hlt
        have hlti : (k : Int) < (n : Int) := by omega
        clear hc hc'
        by_cases hzy : Z k = Y k
        · have hzb : (!(Z k == Y k)) = false := by simp [hzy]
          have HZ : Hid (Z k = Y k) := hzy
          clear hzy
          go_wp2
          go_quiet (fail)
          go_wp2
          go_roundw
          case rel => exact ⟨k + 1, q + nq, by omega, by go_num, rfl, eqB_succ k Z Y HE.out HZ.out⟩
          case measure => simp [intOf]; omega
        · have hzb : (!(Z k == Y k)) = true := by simp [hzy]
          have HZ : Hid (¬ Z k = Y k) := hzy
          clear hzy
          go_wp2
          go_quiet (fail)
          go_wp2
          go_ret
          exact ⟨⟨q + nq, by simp⟩, ret_bool (by rw [← eqB_not n k Z Y hlt HZ.out]; simp)⟩
      · have hkn : k = n := by omega
        have HK : Hid (k = n) := hkn
        clear hkn
        go_wp2
        go_ret
        exact ⟨⟨q, rfl⟩, ret_bool (by rw [← HK.out, HE.out]; simp)⟩
  · have hb : ((n : Int) != (m : Int)) = true := by simp; omega
    go_enter Try.func58, Try.ntmps58
    go_wp2
    go_ret
    exact ⟨⟨0, rfl⟩, ret_bool (by simp [hne])⟩

end Go.Proofs.Ytokalajliphcdaa

/-
  What the small helpers of the exact laws do at places that were turned, and at lists of them.
-/
namespace Go.Proofs.Ytokalajliphcdaa
open Go.RowKit
set_option linter.unusedVariables false
set_option linter.unusedSimpArgs false

set_option maxHeartbeats 400000 in
theorem szItem_any (o : Int) (d : Nd) (l : Loc) (left : Int) (w : World) (hI : NdIn w d l) (hf : d.Fits) (h0 : 0 ≤ left) (h1 : left ≤ 1048576) :
    Calls Try.prog 70 #[itV o d l, .int .i64 left] w fun e w' => Below w.heap.size w w' ∧ ∃ r : Int, e = .returned (.int .i64 r) ∧ r ≤ left ∧ (0 ≤ r → r + d.size ≤ left) := by
  unfold itV
  go_enter Try.func70, Try.ntmps70
  go_wp2_with fail
  refine at_world (F := New1 w _ _) (new1 w _ _) ?_
  rintro W ⟨hp, hb, hs⟩
  refine (szNode_any d l left W (hI.below (Nat.le_refl _) hb) hf h0 h1).mono ?_
  rintro e w1 ⟨hb1, r, rfl, hr1, hr2⟩
  have hB := hb.trans (hb1.mono (by omega))
  by_cases hr3 : r < 0
  · have hr3' : decide (r < 0) = true := by simp; omega
    have HB : Hid (Below w.heap.size w w1) := hB
    clear hB hb1 hb hp hr2
    go_wp2
    go_ret
    exact ⟨HB.out, -1, rfl, by omega, fun h => by omega⟩
  · have hr3' : decide (r < 0) = false := by simp; omega
    have HB : Hid (Below w.heap.size w w1 ∧ (0 ≤ r → r + d.size ≤ left)) := ⟨hB, hr2⟩
    clear hB hb1 hb hp hr2
    go_wp2
    go_ret
    exact ⟨HB.out.1, r, rfl, by omega, HB.out.2⟩

set_option maxHeartbeats 400000 in
theorem szItemS_any (a : Option Addr) (n c : Nat) (O : Nat → Int) (D : Nat → Nd) (L : Nat → Loc) (left : Int) (w : World) (hS : IsIts w a n O D L) (hf : FitAll n D) (hn : n ≤ maxLen) (h0 : 0 ≤ left) (h1 : left ≤ 1048576) :
    Calls Try.prog 54 #[.slice a n c, .int .i64 left] w fun e w' => Below w.heap.size w w' ∧ ∃ r : Int, e = .returned (.int .i64 r) ∧ r ≤ left ∧ (0 ≤ r → r + n + sizeTo D n ≤ left) := by
  unfold maxLen at hn
  by_cases hbig : left < n
  · go_enter Try.func54, Try.ntmps54
    go_wp2
    go_ret
    exact ⟨Below.refl _ _, -1, rfl, by omega, fun h => by omega⟩
  · go_enter Try.func54, Try.ntmps54
    go_wp2
    go_loopw [1, 5] (fun l i wr => ∃ (k : Nat) (r : Int), k ≤ n ∧ 0 ≤ r ∧ i = .int .i64 k ∧ l = .int .i64 r ∧ r + n + sizeTo D k ≤ left ∧ Below w.heap.size w wr) (fun _ i _ => n - (intOf i).toNat)
    case atStart => exact ⟨0, left - n, Nat.zero_le _, by omega, rfl, rfl, by simp [sizeTo], Below.refl _ _⟩
    case round =>
      obtain ⟨k, r, hk, hr, rfl, rfl, hsum, hbel⟩ := hrel
      by_cases hlt : k < n
      · obtain ⟨b, off, rfl, hlt2, hc⟩ := (hS.below (Nat.le_refl _) hbel).at hlt
        obtain ⟨c0, c1, c2, c3, c4, c5, hI⟩ := hc k hlt
        clear hc
        go_wp2_with fail
        refine (szItem_any (O k) (D k) (L k) r wr hI (hf k hlt) hr (by omega)).mono ?_
        rintro e w1 ⟨hb1, r', rfl, hr1, hr2⟩
        have hB := hbel.trans (hb1.mono hbel.size)
        by_cases hr3 : r' < 0
        · have hr3' : decide (r' < 0) = true := by simp; omega
          have HB : Hid (Below w.heap.size w w1) := hB
          clear hB hb1 hbel c0 c1 c2 c3 c4 c5 hI hr2
          go_wp2
          go_ret
          exact ⟨HB.out, -1, rfl, by omega, fun h => by omega⟩
        · have hr3' : decide (r' < 0) = false := by simp; omega
          have HS : Hid (r' + n + sizeTo D (k + 1) ≤ left ∧ Below w.heap.size w w1) := ⟨by have := hr2 (by omega); rw [sizeTo_succ]; omega, hB⟩
          clear hB hb1 hbel c0 c1 c2 c3 c4 c5 hI hr2 hsum
          go_wp2
          go_roundw
          case rel => exact ⟨k + 1, r', by omega, by omega, by go_num, by go_num, HS.out.1, HS.out.2⟩
          case measure => simp [intOf]; omega
      · go_wp2
        go_ret
        exact ⟨hbel, r, rfl, by omega, fun _ => by have : k = n := by omega
                                                   subst this; omega⟩

/-- What is known at toItem's end. -/
structure ItemEnd (w : World) (o : Int) (d : Nd) (l : Loc) (W : World) : Prop where
  r : Blk W (w.heap.size + 1) #[.int .i64 o, .int .i64 d.kind, .string d.text, .slice l.nA d.nn l.nc, .slice l.kA d.kn l.kc, .int .i64 d.turn] 91
  bel : Below w.heap.size w W
  nd : NdIn W d l

set_option maxHeartbeats 1000000 in
theorem toItem_any (o : Int) (d : Nd) (l : Loc) (w : World) (hI : NdIn w d l) (hn : d.nn ≤ 1048576) (hk : d.kn ≤ 1048576) :
    Calls Try.prog 71 #[itV o d l] w fun e w' => ∃ l', e = .returned (itV o d l') ∧ Below w.heap.size w w' ∧ NdIn w' d l' ∧ l'.Past w.heap.size := by
  unfold itV
  go_enter Try.func71, Try.ntmps71
  go_wp2_with fail
  refine at_world (F := New3 w _ _ _ _ _ _) (new3 w _ _ _ _ _ _) ?_
  rintro W ⟨hp, hr, ho, hb0, hs0⟩
  refine (toNode_any d l W (hI.below (Nat.le_refl _) hb0) hn hk).mono ?_
  rintro e w1 ⟨l', rfl, hb1, hI1, hp1⟩
  unfold ndV
  have hr1 := hr.below hb1 (by omega)
  have ho1 := ho.below hb1 (by omega)
  have hB1 := hb0.trans (hb1.mono (by omega))
  have hsz := hb1.size
  have o0 : w1.cell? ⟨w.heap.size + 1 + 1, 0, none⟩ = some (.int .i64 o) := ho1.cell 0
  have o1 : w1.cell? ⟨w.heap.size + 1 + 1, 1, none⟩ = some (.int .i64 0) := ho1.cell 1
  have o2 : w1.cell? ⟨w.heap.size + 1 + 1, 2, none⟩ = some (.string ByteArray.empty) := ho1.cell 2
  have o3 : w1.cell? ⟨w.heap.size + 1 + 1, 3, none⟩ = some (.slice none 0 0) := ho1.cell 3
  have o4 : w1.cell? ⟨w.heap.size + 1 + 1, 4, none⟩ = some (.slice none 0 0) := ho1.cell 4
  have o5 : w1.cell? ⟨w.heap.size + 1 + 1, 5, none⟩ = some (.int .i64 0) := ho1.cell 5
  have f0 := ho1.frozen 0
  have f1 := ho1.frozen 1
  have f2 := ho1.frozen 2
  have f3 := ho1.frozen 3
  have f4 := ho1.frozen 4
  have f5 := ho1.frozen 5
  have r0 : w1.cell? ⟨w.heap.size + 1, 0, none⟩ = some (.int .i64 0) := hr1.cell 0
  have r1 : w1.cell? ⟨w.heap.size + 1, 1, none⟩ = some (.int .i64 0) := hr1.cell 1
  have r2 : w1.cell? ⟨w.heap.size + 1, 2, none⟩ = some (.string ByteArray.empty) := hr1.cell 2
  have r3 : w1.cell? ⟨w.heap.size + 1, 3, none⟩ = some (.slice none 0 0) := hr1.cell 3
  have r4 : w1.cell? ⟨w.heap.size + 1, 4, none⟩ = some (.slice none 0 0) := hr1.cell 4
  have r5 : w1.cell? ⟨w.heap.size + 1, 5, none⟩ = some (.int .i64 0) := hr1.cell 5
  have g0 := hr1.frozen 0
  have g1 := hr1.frozen 1
  have g2 := hr1.frozen 2
  have g3 := hr1.frozen 3
  have g4 := hr1.frozen 4
  have g5 := hr1.frozen 5
  have hpp := hp1.mono (show w.heap.size + 3 ≤ W.heap.size by omega)
  have FB : Hid (Blk w1 (w.heap.size + 1) _ _ ∧ Below w.heap.size w w1 ∧ NdIn w1 d l' ∧ l'.Past (w.heap.size + 3)) := ⟨hr1, hB1, hI1, hpp⟩
  clear hp hr ho hb0 hb1 hr1 ho1 hB1 hI1 hp1 hpp hs0 hsz
  go_wp2_with fail
  obtain ⟨hr, hB, hN, hP⟩ := FB.out
  have hP1 : l'.Past (w.heap.size + 1 + 1) := hP.mono (by omega)
  have hP2 : l'.Past (w.heap.size + 1 + 1 + 1) := hP
  refine end_world (F := ItemEnd w o d l')
    ⟨(((((((((((hr.off _ (by omega)).off _ (by omega)).off _ (by omega)).off _ (by omega)).off _ (by omega)).set 0 _).set 1 _).set 2 _).set 3 _).set 4 _).set 5 _),
     bel_put (bel_put (bel_put (bel_put (bel_put (bel_put (bel_put (bel_put (bel_put (bel_put (bel_put hB _ (by omega)) _ (by omega)) _ (by omega)) _ (by omega)) _ (by omega)) _ (by omega)) _ (by omega)) _ (by omega)) _ (by omega)) _ (by omega)) _ (by omega),
     ((((((((((hN.off _ hP2).off _ hP2).off _ hP2).off _ hP2).off _ hP2).off _ hP1).off _ hP1).off _ hP1).off _ hP1).off _ hP1).off _ hP1⟩ ?_
  clear hr hB hN FB o0 o1 o2 o3 o4 o5 f0 f1 f2 f3 f4 f5 r0 r1 r2 r3 r4 r5 g0 g1 g2 g3 g4 g5
  rintro W ⟨hr, hB, hN⟩
  have r0 : W.cell? ⟨w.heap.size + 1, 0, none⟩ = some (.int .i64 o) := hr.cell 0
  have r1 : W.cell? ⟨w.heap.size + 1, 1, none⟩ = some (.int .i64 d.kind) := hr.cell 1
  have r2 : W.cell? ⟨w.heap.size + 1, 2, none⟩ = some (.string d.text) := hr.cell 2
  have r3 : W.cell? ⟨w.heap.size + 1, 3, none⟩ = some (.slice l'.nA d.nn l'.nc) := hr.cell 3
  have r4 : W.cell? ⟨w.heap.size + 1, 4, none⟩ = some (.slice l'.kA d.kn l'.kc) := hr.cell 4
  have r5 : W.cell? ⟨w.heap.size + 1, 5, none⟩ = some (.int .i64 d.turn) := hr.cell 5
  exact bodyPost_ret (v := .agg #[.int .i64 o, .int .i64 d.kind, .string d.text, .slice l'.nA d.nn l'.nc, .slice l'.kA d.kn l'.kc, .int .i64 d.turn]) (by simp [results, Try.results71, go_sem, r0, r1, r2, r3, r4, r5]) rfl ⟨l', rfl, hB, hN, hP.mono (by omega)⟩

set_option maxHeartbeats 1000000 in
theorem toItemS_any (a : Option Addr) (n c : Nat) (O : Nat → Int) (D : Nat → Nd) (L : Nat → Loc) (w : World) (hS : IsIts w a n O D L) (hn : n ≤ 1048576) (hsm : ∀ i, i < n → (D i).nn ≤ 1048576 ∧ (D i).kn ≤ 1048576) :
    Calls Try.prog 56 #[.slice a n c] w fun e w' => e = .returned (.slice (some ⟨w.heap.size, 0, none⟩) n n) ∧ Below w.heap.size w w' ∧ ∃ L', ItRow w' w.heap.size n n O D L' := by
  have hmk := fun w => run_make_wide (P := Try.prog) 61 91 _ 88 6 Try.underlying61 infoItem .i64 .i64 n (by omega) (by omega) w
  go_enter Try.func56, Try.ntmps56
  go_wp2
  go_loopw [4] (fun i wr => ∃ (k : Nat) (L' : Nat → Loc), k ≤ n ∧ i = .int .i64 k ∧ Below w.heap.size w wr ∧ ItRow wr w.heap.size n k O D L') (fun i _ => n - (intOf i).toNat)
  case atStart =>
    obtain ⟨g, hg⟩ := rowIs_wide w #[.int .i64 0, .int .i64 0, .string ByteArray.empty, .slice none 0 0, .slice none 0 0, .int .i64 0] (n * 6) 91
    exact ⟨0, L, Nat.zero_le _, rfl, (Below.refl _ _).alloc (Nat.le_refl _) _, ⟨g, hg, fun i hi => by omega⟩, fun i hi => by omega⟩
  case round =>
    obtain ⟨k, L', hk, rfl, hb, hrow⟩ := hrel
    by_cases hlt : k < n
    · obtain ⟨b, off, rfl, hlt2, hc⟩ := (hS.below (Nat.le_refl _) hb).at hlt
      obtain ⟨c0, c1, c2, c3, c4, c5, hI⟩ := hc k hlt
      clear hc
      go_wp2_with fail
      refine (toItem_any (O k) (D k) (L k) wr hI (hsm k hlt).1 (hsm k hlt).2).mono ?_
      rintro e w1 ⟨l', rfl, hb1, hI1, hp1⟩
      unfold itV
      have hrow1 := hrow.below (Nat.le_refl _) hb1
      have hB := hb.trans (hb1.mono hb.size)
      have hwl : w.heap.size < wr.heap.size := by obtain ⟨⟨g, hr, _⟩, _⟩ := hrow; exact hr.lt
      have hpp := hp1.mono (show w.heap.size + 1 ≤ wr.heap.size by omega)
      have HR : Hid (ItRow w1 w.heap.size n k O D L' ∧ NdIn w1 (D k) l' ∧ l'.Past (w.heap.size + 1) ∧ Below w.heap.size w w1) := ⟨hrow1, hI1, hpp, hB⟩
      obtain ⟨⟨g, hr, _⟩, _⟩ := hrow1
      have d0 := hr.cell (show k * 6 < n * 6 by omega)
      have d1 := hr.cell (show k * 6 + 1 < n * 6 by omega)
      have d2 := hr.cell (show k * 6 + 2 < n * 6 by omega)
      have d3 := hr.cell (show k * 6 + 3 < n * 6 by omega)
      have d4 := hr.cell (show k * 6 + 4 < n * 6 by omega)
      have d5 := hr.cell (show k * 6 + 5 < n * 6 by omega)
      have e0 := hr.frozen (k * 6)
      have e1 := hr.frozen (k * 6 + 1)
      have e2 := hr.frozen (k * 6 + 2)
      have e3 := hr.frozen (k * 6 + 3)
      have e4 := hr.frozen (k * 6 + 4)
      have e5 := hr.frozen (k * 6 + 5)
      clear hb hrow hr hB hb1 hI1 hp1 hpp hI c0 c1 c2 c3 c4 c5
      go_wp2
      go_roundw
      case rel => exact ⟨k + 1, _, by omega, by go_num, bel_put (bel_put (bel_put (bel_put (bel_put (bel_put HR.out.2.2.2 _ (Nat.le_refl _)) _ (Nat.le_refl _)) _ (Nat.le_refl _)) _ (Nat.le_refl _)) _ (Nat.le_refl _)) _ (Nat.le_refl _), HR.out.1.step HR.out.2.1 HR.out.2.2.1⟩
      case measure => simp [intOf]; omega
    · have hkn : k = n := by omega
      have HR : Hid (Below w.heap.size w wr ∧ ∃ L', ItRow wr w.heap.size n n O D L') := ⟨hb, L', hkn ▸ hrow⟩
      clear hb hrow hkn
      go_wp2
      go_ret
      exact ⟨rfl, HR.out.1, HR.out.2⟩

set_option maxHeartbeats 1000000 in
theorem eqItem_any (o o' : Int) (d d' : Nd) (l l' : Loc) (w : World) (hI : NdIn w d l) (hI' : NdIn w d' l') (hf : d.Fits) (hf' : d'.Fits) :
    Calls Try.prog 72 #[itV o d l, itV o' d' l'] w fun e w' => Below w.heap.size w w' ∧ e = .returned (.bool (sameIt o o' d d')) := by
  unfold itV
  cases hoo : (o == o') with
  | false =>
    have hnb : (o != o') = true := by simp only [bne, hoo]; rfl
    have HX : Hid (false = sameIt o o' d d') := by show _ = _; unfold sameIt; rw [hoo]; rfl
    clear hoo
    go_enter Try.func72, Try.ntmps72
    go_wp2_with fail
    go_ret
    exact ⟨((Below.refl _ _).alloc (Nat.le_refl _) _).alloc (by simp) _, ret_bool HX.out⟩
  | true =>
    have hnb : (o != o') = false := by simpa [bne] using hoo
    have HX : Hid (d.same d' = sameIt o o' d d') := by show _ = _; unfold sameIt; rw [hoo]; rfl
    clear hoo
    go_enter Try.func72, Try.ntmps72
    go_wp2_with fail
    refine at_world (F := New2 w _ _ _ _) (new2 w _ _ _ _) ?_
    rintro W ⟨hp, hp', hb, hs⟩
    refine (eqNode_any d d' l l' W (hI.below (Nat.le_refl _) hb) (hI'.below (Nat.le_refl _) hb) hf hf').mono ?_
    rintro e w1 ⟨hb1, rfl⟩
    have HB : Hid (Below w.heap.size w w1) := hb.trans (hb1.mono (by omega))
    clear hp hp' hb hs hb1
    cases hq : d.same d' with
    | false =>
      have HQ : Hid (d.same d' = false) := hq
      clear hq
      go_wp2
      go_ret
      exact ⟨HB.out, ret_bool (by rw [← HX.out, HQ.out])⟩
    | true =>
      have HQ : Hid (d.same d' = true) := hq
      clear hq
      go_wp2
      go_ret
      exact ⟨HB.out, ret_bool (by rw [← HX.out, HQ.out])⟩

set_option maxHeartbeats 1000000 in
theorem eqItemS_any (a a' : Option Addr) (n c m c' : Nat) (O P : Nat → Int) (D E : Nat → Nd) (L M : Nat → Loc) (w : World) (hS : IsIts w a n O D L) (hT : IsIts w a' m P E M) (hf : FitAll n D) (hf' : FitAll m E) (hn : n ≤ maxLen) (hm : m ≤ maxLen) :
    Calls Try.prog 59 #[.slice a n c, .slice a' m c'] w fun e w' => Below w.heap.size w w' ∧ e = .returned (.bool (decide (n = m) && sameIts n O P D E)) := by
  unfold maxLen at hn hm
  by_cases hne : n = m
  · subst hne
    have hb : ((n : Int) != (n : Int)) = false := by simp
    go_enter Try.func59, Try.ntmps59
    go_wp2
    go_loopw [5] (fun i wr => ∃ k : Nat, k ≤ n ∧ i = .int .i64 k ∧ Below w.heap.size w wr ∧ sameIts k O P D E = true) (fun i _ => n - (intOf i).toNat)
    case atStart => exact ⟨0, Nat.zero_le _, rfl, Below.refl _ _, rfl⟩
    case round =>
      obtain ⟨k, hk, rfl, hbel, heq⟩ := hrel
      have HE : Hid (sameIts k O P D E = true) := heq
      clear heq
      by_cases hlt : k < n
      · have hSr := hS.below (Nat.le_refl _) hbel
        have hTr := hT.below (Nat.le_refl _) hbel
        obtain ⟨b, off, rfl, hlt2, hc⟩ := hSr.at hlt
        obtain ⟨b', off', rfl, hlt2', hc'⟩ := hTr.at hlt
        obtain ⟨c0, c1, c2, c3, c4, c5, hI⟩ := hc k hlt
        obtain ⟨d0, d1, d2, d3, d4, d5, hI'⟩ := hc' k hlt
        have hlti : (k : Int) < (n : Int) := by omega
        have C0 := Lat.cell (B := wr.heap.size) c0 hlt2
        have C1 := Lat.cell (B := wr.heap.size) c1 hlt2
        have C2 := Lat.cell (B := wr.heap.size) c2 hlt2
        have C3 := Lat.cell (B := wr.heap.size) c3 hlt2
        have C4 := Lat.cell (B := wr.heap.size) c4 hlt2
        have C5 := Lat.cell (B := wr.heap.size) c5 hlt2
        have D0 := Lat.cell (B := wr.heap.size) d0 hlt2'
        have D1 := Lat.cell (B := wr.heap.size) d1 hlt2'
        have D2 := Lat.cell (B := wr.heap.size) d2 hlt2'
        have D3 := Lat.cell (B := wr.heap.size) d3 hlt2'
        have D4 := Lat.cell (B := wr.heap.size) d4 hlt2'
        have D5 := Lat.cell (B := wr.heap.size) d5 hlt2'
        have hcall : Hid (∀ n : Lat wr.heap.size wr, Calls Try.prog 72 #[itV (O k) (D k) (L k), itV (P k) (E k) (M k)] n.val fun e w'' => e = .returned (.bool (sameIt (O k) (P k) (D k) (E k))) ∧ ∃ m : Lat wr.heap.size wr, w'' = m.val) := fun n =>
          Calls.lat_of (eqItem_any (O k) (P k) (D k) (E k) (L k) (M k) n.val (hI.below (Nat.le_refl _) n.bel) (hI'.below (Nat.le_refl _) n.bel) (hf k hlt) (hf' k hlt)) (fun e w' h => ⟨h.2, h.1.mono n.bel.size⟩)
        clear hc hc' hSr hTr c0 c1 c2 c3 c4 c5 d0 d1 d2 d3 d4 d5 hI hI'
        have HBL : Hid (Below w.heap.size w wr) := hbel
        clear hbel
        go_wp2_with fail
        refine wp_region_lat (B := wr.heap.size) (w0 := wr) (by kernel_rfl) (by kernel_rfl) (Below.refl _ _) ?_
        repeat (go_big_quiet_step (exact hcall.out _))
        refine wpQuiet_nil ?_
        rintro _ ⟨nq, rfl⟩
        have hB : Hid (Below w.heap.size w nq.val) := HBL.out.trans (nq.bel.mono HBL.out.size)
        clear hcall C0 C1 C2 C3 C4 C5 D0 D1 D2 D3 D4 D5
        cases hq : sameIt (O k) (P k) (D k) (E k) with
        | false =>
          have HQ : Hid (sameIt (O k) (P k) (D k) (E k) = false) := hq
          clear hq
          go_wp2
          go_ret
          exact ⟨hB.out, ret_bool (by rw [← sameIts_not n k O P D E hlt HQ.out]; simp)⟩
        | true =>
          have HQ : Hid (sameIt (O k) (P k) (D k) (E k) = true) := hq
          clear hq
          go_wp2
          go_roundw
          case rel => exact ⟨k + 1, by omega, by go_num, hB.out, sameIts_succ k O P D E HE.out HQ.out⟩
          case measure => simp [intOf]; omega
      · have hkn : k = n := by omega
        have HK : Hid (k = n ∧ Below w.heap.size w wr) := ⟨hkn, hbel⟩
        clear hkn hbel
        go_wp2
        go_ret
        exact ⟨HK.out.2, ret_bool (by rw [← HK.out.1, HE.out]; simp)⟩
  · have hb : ((n : Int) != (m : Int)) = true := by simp; omega
    go_enter Try.func59, Try.ntmps59
    go_wp2
    go_ret
    exact ⟨Below.refl _ _, ret_bool (by simp [hne])⟩
end Go.Proofs.Ytokalajliphcdaa

/-
  Bounds of a tree that is not too great.
-/
namespace Go.Proofs.Ytokalajliphcdaa
set_option linter.unusedVariables false

theorem small_of_size {D : Nat → Nd} {n : Nat} (h : sizeTo D n ≤ 1048576) : ∀ i, i < n → (D i).nn ≤ 1048576 ∧ (D i).kn ≤ 1048576 := fun i hi => by
  have := size_le_sizeTo D n i hi
  unfold Nd.size at this
  omega
end Go.Proofs.Ytokalajliphcdaa

/-
  What the helpers of the exact laws do at what is kept of a tree.
-/
namespace Go.Proofs.Ytokalajliphcdaa
open Go.RowKit
set_option linter.unusedVariables false
set_option linter.unusedSimpArgs false

set_option maxHeartbeats 1000000 in
theorem szDump_any (d : Dp) (l : DLoc) (left : Int) (w : World) (hI : DpIn w d l) (hf : d.Fits) (h0 : 0 ≤ left) (h1 : left ≤ 1048576) :
    Calls Try.prog 42 #[dpV d l, .int .i64 left] w fun e w' => Below w.heap.size w w' ∧ ∃ r : Int, e = .returned (.int .i64 r) ∧ r ≤ left ∧ (0 ≤ r → r + d.size ≤ left) := by
  unfold dpV Dp.size
  have hn := hf.ln
  go_enter Try.func42, Try.ntmps42
  go_wp2_with fail
  refine at_world (F := New1 w _ _) (new1 w _ _) ?_
  rintro W ⟨hp, hb, hs⟩
  refine (szBoolS_any l.lA d.ln l.lc left W hn h0 h1).mono ?_
  rintro e w1 ⟨rfl, r, rfl, hr1, hr2⟩
  by_cases hr3 : r < 0
  · have hr3' : decide (r < 0) = true := by simp; omega
    have HB : Hid (Below w.heap.size w W) := hb
    clear hb hp hr2
    go_wp2
    go_ret
    exact ⟨HB.out, -1, rfl, by omega, fun h => by omega⟩
  · have hr3' : decide (r < 0) = false := by simp; omega
    have p3 : W.cell? ⟨w.heap.size, 3, none⟩ = some (.slice l.iA d.m l.ic) := hp.cell 3
    have hr4 := hr2 (by omega)
    clear hr2 hp
    go_wp2_with fail
    refine (szItemS_any l.iA d.m l.ic d.ino d.nd l.L r W (hI.items.below (Nat.le_refl _) hb) hf.nds hf.m (by omega) (by omega)).mono ?_
    rintro e w2 ⟨hb2, r', rfl, hr1', hr2'⟩
    have HB : Hid (Below w.heap.size w w2 ∧ (0 ≤ r' → r' + d.m + sizeTo d.nd d.m ≤ r)) := ⟨hb.trans (hb2.mono (by omega)), hr2'⟩
    clear hb hb2 hr2' p3
    by_cases hr5 : r' < 0
    · have hr5' : decide (r' < 0) = true := by simp; omega
      go_wp2
      go_ret
      exact ⟨HB.out.1, -1, rfl, by omega, fun h => by omega⟩
    · have hr5' : decide (r' < 0) = false := by simp; omega
      go_wp2
      go_ret
      exact ⟨HB.out.1, r', rfl, by omega, fun h => by have := HB.out.2 h; omega⟩

theorem toBoolS_at (a : Option Addr) (n c : Nat) (Z : Nat → Bool) (w : World) (hS : IsBools w a n Z) (hn : n ≤ 1048576) :
    Calls Try.prog 55 #[.slice a n c] w fun e w' => ∃ b, e = .returned (.slice (some ⟨b, 0, none⟩) n n) ∧ w.heap.size ≤ b ∧ b < w'.heap.size ∧ Below w.heap.size w w' ∧ IsBools w' (some ⟨b, 0, none⟩) n Z :=
  (toBoolS_any a n c Z w hS hn).mono fun e w' ⟨he, hb, hr⟩ => ⟨_, he, Nat.le_refl _, hr.lt, hb, IsBools.row hr⟩

/-- What is known within toDump, the truth values being copied. -/
structure Dump2 (w : World) (d : Dp) (l : DLoc) (b : Nat) (W : World) : Prop where
  p : Blk W w.heap.size #[.int .i64 d.since, .int .i64 d.date, .slice l.lA d.ln l.lc, .slice l.iA d.m l.ic] 58
  r : Blk W (w.heap.size + 1) #[.int .i64 0, .int .i64 0, .slice none 0 0, .slice none 0 0] 63
  o : Blk W (w.heap.size + 1 + 1) #[.int .i64 d.since, .int .i64 d.date, .slice (some ⟨b, 0, none⟩) d.ln d.ln, .slice none 0 0] 63
  bel : Below w.heap.size w W
  size : w.heap.size + 3 ≤ W.heap.size
  le : w.heap.size + 3 ≤ b
  lt : b < W.heap.size
  live : IsBools W (some ⟨b, 0, none⟩) d.ln d.live

/-- What is known at toDump's end. -/
structure DumpEnd (w : World) (d : Dp) (b b' : Nat) (W : World) : Prop where
  r : Blk W (w.heap.size + 1) #[.int .i64 d.since, .int .i64 d.date, .slice (some ⟨b, 0, none⟩) d.ln d.ln, .slice (some ⟨b', 0, none⟩) d.m d.m] 63
  bel : Below w.heap.size w W
  live : IsBools W (some ⟨b, 0, none⟩) d.ln d.live
  items : ∃ L', ItRow W b' d.m d.m d.ino d.nd L'

set_option maxHeartbeats 1000000 in
theorem toDump_any (d : Dp) (l : DLoc) (w : World) (hI : DpIn w d l) (hsz : d.size ≤ 1048576) :
    Calls Try.prog 43 #[dpV d l] w fun e w' => ∃ l', e = .returned (dpV d l') ∧ Below w.heap.size w w' ∧ DpIn w' d l' := by
  unfold dpV
  have hln : d.ln ≤ 1048576 := by unfold Dp.size at hsz; omega
  have hm : d.m ≤ 1048576 := by unfold Dp.size at hsz; omega
  have HSM : Hid (∀ i, i < d.m → (d.nd i).nn ≤ 1048576 ∧ (d.nd i).kn ≤ 1048576) := small_of_size (by unfold Dp.size at hsz; omega)
  go_enter Try.func43, Try.ntmps43
  go_wp2_with fail
  refine at_world (F := New3 w _ _ _ _ _ _) (new3 w _ _ _ _ _ _) ?_
  rintro W ⟨hp, hr, ho, hb0, hs0⟩
  refine (toBoolS_at l.lA d.ln l.lc d.live _ (hI.live.below (Nat.le_refl _) hb0) hln).mono ?_
  rintro e w1 ⟨b, rfl, hge, hlt, hb1, hS1⟩
  have hp1 := hp.below hb1 (by omega)
  have hr1 := hr.below hb1 (by omega)
  have ho1 := ho.below hb1 (by omega)
  have hB1 := hb0.trans (hb1.mono (by omega))
  have o2 : w1.cell? ⟨w.heap.size + 1 + 1, 2, none⟩ = some (.slice none 0 0) := ho1.cell 2
  have f2 := ho1.frozen 2
  have p3 : w1.cell? ⟨w.heap.size, 3, none⟩ = some (.slice l.iA d.m l.ic) := hp1.cell 3
  have hsz1 := hb1.size
  have F2 : Hid (Dump2 w d l b _) := ⟨hp1.off (b' := w.heap.size + 1 + 1) (i := 2) (.slice (some ⟨b, 0, none⟩) d.ln d.ln) (by omega), hr1.off _ (by omega), ho1.set 2 _, bel_put hB1 _ (by omega), by simp; omega, by omega, by simp; omega, hS1.off _ (by omega)⟩
  clear hp hr ho hb0 hb1 hp1 hr1 ho1 hB1 hS1
  go_wp2_with fail
  refine at_world (F := Dump2 w d l b) F2.out ?_
  clear F2 hge hlt f2 o2 p3 hs0 hsz1
  rintro W ⟨hp, hr, ho, hb0, hs0, hlb, hbl, hS⟩
  refine (toItemS_any l.iA d.m l.ic d.ino d.nd l.L _ (hI.items.below (Nat.le_refl _) hb0) hm HSM.out).mono ?_
  rintro e w2 ⟨rfl, hb1, hrow⟩
  have hp1 := hp.below hb1 (by omega)
  have hr1 := hr.below hb1 (by omega)
  have ho1 := ho.below hb1 (by omega)
  have hB1 := hb0.trans (hb1.mono (by omega))
  have hS1 := hS.below (Nat.le_refl _) hb1
  have hsz := hb1.size
  have o0 : w2.cell? ⟨w.heap.size + 1 + 1, 0, none⟩ = some (.int .i64 d.since) := ho1.cell 0
  have o1 : w2.cell? ⟨w.heap.size + 1 + 1, 1, none⟩ = some (.int .i64 d.date) := ho1.cell 1
  have o2 : w2.cell? ⟨w.heap.size + 1 + 1, 2, none⟩ = some (.slice (some ⟨b, 0, none⟩) d.ln d.ln) := ho1.cell 2
  have o3 : w2.cell? ⟨w.heap.size + 1 + 1, 3, none⟩ = some (.slice none 0 0) := ho1.cell 3
  have f3 := ho1.frozen 3
  have r0 : w2.cell? ⟨w.heap.size + 1, 0, none⟩ = some (.int .i64 0) := hr1.cell 0
  have r1 : w2.cell? ⟨w.heap.size + 1, 1, none⟩ = some (.int .i64 0) := hr1.cell 1
  have r2 : w2.cell? ⟨w.heap.size + 1, 2, none⟩ = some (.slice none 0 0) := hr1.cell 2
  have r3 : w2.cell? ⟨w.heap.size + 1, 3, none⟩ = some (.slice none 0 0) := hr1.cell 3
  have g0 := hr1.frozen 0
  have g1 := hr1.frozen 1
  have g2 := hr1.frozen 2
  have g3 := hr1.frozen 3
  have FB : Hid (Blk w2 (w.heap.size + 1) _ _ ∧ Below w.heap.size w w2 ∧ IsBools w2 (some ⟨b, 0, none⟩) d.ln d.live ∧ ∃ L', ItRow w2 W.heap.size d.m d.m d.ino d.nd L') := ⟨hr1, hB1, hS1, hrow⟩
  have hs1 : w.heap.size + 3 ≤ W.heap.size := by omega
  have hbw : b < W.heap.size := hbl
  generalize W.heap.size = bW at *
  clear hp hr ho hb0 hb1 hp1 hr1 ho1 hB1 hS1 hrow hS hs0
  go_wp2_with fail
  obtain ⟨hr, hB, hS, L', hrow⟩ := FB.out
  refine end_world (F := DumpEnd w d b bW)
    ⟨((((hr.off _ (by omega)).set 0 _).set 1 _).set 2 _).set 3 _,
     bel_put (bel_put (bel_put (bel_put (bel_put hB _ (by omega)) _ (by omega)) _ (by omega)) _ (by omega)) _ (by omega),
     ((((hS.off _ (by omega)).off _ (by omega)).off _ (by omega)).off _ (by omega)).off _ (by omega),
     L', ((((hrow.off _ (by omega)).off _ (by omega)).off _ (by omega)).off _ (by omega)).off _ (by omega)⟩ ?_
  clear hr hB hS hrow FB o0 o1 o2 o3 f3 r0 r1 r2 r3 g0 g1 g2 g3
  rintro W ⟨hr, hB, hS, L2, hrow⟩
  have r0 : W.cell? ⟨w.heap.size + 1, 0, none⟩ = some (.int .i64 d.since) := hr.cell 0
  have r1 : W.cell? ⟨w.heap.size + 1, 1, none⟩ = some (.int .i64 d.date) := hr.cell 1
  have r2 : W.cell? ⟨w.heap.size + 1, 2, none⟩ = some (.slice (some ⟨b, 0, none⟩) d.ln d.ln) := hr.cell 2
  have r3 : W.cell? ⟨w.heap.size + 1, 3, none⟩ = some (.slice (some ⟨bW, 0, none⟩) d.m d.m) := hr.cell 3
  exact bodyPost_ret (v := .agg #[.int .i64 d.since, .int .i64 d.date, .slice (some ⟨b, 0, none⟩) d.ln d.ln, .slice (some ⟨bW, 0, none⟩) d.m d.m]) (by simp [results, Try.results43, go_sem, r0, r1, r2, r3]) rfl ⟨⟨some ⟨b, 0, none⟩, d.ln, some ⟨bW, 0, none⟩, d.m, L2⟩, rfl, hB, hS, hrow.its⟩

set_option maxHeartbeats 1000000 in
theorem eqDump_any (d e : Dp) (l k : DLoc) (w : World) (hI : DpIn w d l) (hI' : DpIn w e k) (hf : d.Fits) (hf' : e.Fits) :
    Calls Try.prog 46 #[dpV d l, dpV e k] w fun r w' => Below w.heap.size w w' ∧ r = .returned (.bool (d.same e)) := by
  unfold dpV
  have hl := hf.ln
  have hl' := hf'.ln
  cases h1 : (d.since == e.since) with
  | false =>
    have hnb : (d.since != e.since) = true := by simp only [bne, h1]; rfl
    have HX : Hid (false = d.same e) := by show _ = _; unfold Dp.same; rw [h1]; rfl
    clear h1
    go_enter Try.func46, Try.ntmps46
    go_wp2_with fail
    go_ret
    exact ⟨((Below.refl _ _).alloc (Nat.le_refl _) _).alloc (by simp) _, ret_bool HX.out⟩
  | true =>
  have hnb : (d.since != e.since) = false := by simpa [bne] using h1
  cases h2 : (d.date == e.date) with
  | false =>
    have hnc : (d.date != e.date) = true := by simp only [bne, h2]; rfl
    have HX : Hid (false = d.same e) := by show _ = _; unfold Dp.same; rw [h1, h2]; rfl
    clear h1 h2
    go_enter Try.func46, Try.ntmps46
    go_wp2_with fail
    go_ret
    exact ⟨((Below.refl _ _).alloc (Nat.le_refl _) _).alloc (by simp) _, ret_bool HX.out⟩
  | true =>
  have hnc : (d.date != e.date) = false := by simpa [bne] using h2
  have HX : Hid (((decide (d.ln = e.ln) && eqB d.ln d.live e.live) && (decide (d.m = e.m) && sameIts d.m d.ino e.ino d.nd e.nd)) = d.same e) := by show _ = _; unfold Dp.same; rw [h1, h2]; rfl
  clear h1 h2
  go_enter Try.func46, Try.ntmps46
  go_wp2_with fail
  refine at_world (F := New2 w _ _ _ _) (new2 w _ _ _ _) ?_
  rintro W ⟨hp, hp', hb, hs⟩
  refine (eqBoolS_any l.lA k.lA d.ln l.lc e.ln k.lc d.live e.live W (hI.live.below (Nat.le_refl _) hb) (hI'.live.below (Nat.le_refl _) hb) hl hl').mono ?_
  rintro r w1 ⟨⟨q, rfl⟩, rfl⟩
  have p3 : W.cell? ⟨w.heap.size, 3, none⟩ = some (.slice l.iA d.m l.ic) := hp.cell 3
  have q3 : W.cell? ⟨w.heap.size + 1, 3, none⟩ = some (.slice k.iA e.m k.ic) := hp'.cell 3
  have HB : Hid (Below w.heap.size w W) := hb
  clear hp hp' hb
  cases hq1 : (decide (d.ln = e.ln) && eqB d.ln d.live e.live) with
  | false =>
    have HQ : Hid ((decide (d.ln = e.ln) && eqB d.ln d.live e.live) = false) := hq1
    clear hq1
    go_wp2
    go_ret
    exact ⟨below_drewN HB.out _, ret_bool (by rw [← HX.out, HQ.out]; rfl)⟩
  | true =>
    have HQ : Hid ((decide (d.ln = e.ln) && eqB d.ln d.live e.live) = true) := hq1
    clear hq1
    go_wp2_with fail
    have hB2 := below_drewN HB.out q
    refine (eqItemS_any l.iA k.iA d.m l.ic e.m k.ic d.ino e.ino d.nd e.nd l.L k.L (W.drewN q) (hI.items.below (Nat.le_refl _) hB2) (hI'.items.below (Nat.le_refl _) hB2) hf.nds hf'.nds hf.m hf'.m).mono ?_
    rintro r w2 ⟨hb2, rfl⟩
    have HB2 : Hid (Below w.heap.size w w2) := hB2.trans (hb2.mono hB2.size)
    clear hb2 hB2 HB p3 q3
    cases hq1 : (decide (d.m = e.m) && sameIts d.m d.ino e.ino d.nd e.nd) with
    | false =>
      have HZ : Hid ((decide (d.m = e.m) && sameIts d.m d.ino e.ino d.nd e.nd) = false) := hq1
      clear hq1
      go_wp2
      go_ret
      exact ⟨HB2.out, ret_bool (by rw [← HX.out, HQ.out, HZ.out]; rfl)⟩
    | true =>
      have HZ : Hid ((decide (d.m = e.m) && sameIts d.m d.ino e.ino d.nd e.nd) = true) := hq1
      clear hq1
      go_wp2
      go_ret
      exact ⟨HB2.out, ret_bool (by rw [← HX.out, HQ.out, HZ.out]; rfl)⟩
end Go.Proofs.Ytokalajliphcdaa

/-
  What markText, markStringS and heldStringS do: each place of a list gets a text of its own, told by its number; and that it still holds it is asked.
-/
namespace Go.Proofs.Ytokalajliphcdaa
open Go.RowKit
set_option linter.unusedVariables false

/-- The last digit of a number, as a letter. -/
def dig (m : Nat) : UInt8 := UInt8.ofNat (48 + m % 10)
theorem dig_nat (m : Nat) : ((dig m).toNat : Int) = 48 + (m : Int) % 10 := by
  unfold dig
  rw [UInt8.toNat_ofNat']
  omega
/-- The digits of a number, at most f of them. -/
def digF : Nat → Nat → List UInt8 | 0, _ => [] | f + 1, k => if k = 0 then [] else digF f (k / 10) ++ [dig k]
/-- The text by which a place is marked. -/
def markOf (k : Nat) : List UInt8 := if k = 0 then [109, 48] else 109 :: digF 20 k

theorem digF_zero (f : Nat) : digF f 0 = [] := by cases f <;> simp [digF]
theorem digF_step (f k : Nat) (h : k ≠ 0) : digF (f + 1) k = digF f (k / 10) ++ [dig k] := by simp [digF, h]

theorem conv_digit (wr : World) (m : Nat) : (convert 79 9 (.slice (some ⟨wr.heap.size, 0, none⟩) 1 1)).run Try.prog (wr.alloc (.cells #[.int .u8 (48 + (m : Int) % 10)] 5)) = .ok (.string ⟨#[dig m]⟩) (wr.alloc (.cells #[.int .u8 (48 + (m : Int) % 10)] 5)) := by
  have e := dig_nat m
  refine run_convert_bytes_back _ 79 9 5 ⟨wr.heap.size, 0, none⟩ 1 [dig m] Try.underlying79 Try.underlying5 Try.underlying9 ?_
  intro j hj
  have : j = 0 := by simpa using hj
  subst this
  show World.cell? _ ((⟨wr.heap.size, 0, none⟩ : Addr).add 0) = some (.int .u8 ((dig m).toNat : Int))
  rw [e]
  simp [Addr.add]

theorem ret_nat {a b : Nat} (h : a = b) : Ending.returned (.int .i64 (a : Int)) = .returned (.int .i64 (b : Int)) := by rw [h]
theorem mret_str {a b : ByteArray} (h : a = b) : Ending.returned (.string a) = .returned (.string b) := by rw [h]

set_option maxRecDepth 100000 in
set_option maxHeartbeats 400000 in
theorem markText_any (k : Nat) (w : World) (h1 : 1 ≤ k) (h2 : k ≤ 1000000000) :
    Calls Try.prog 28 #[.int .i64 k] w fun e w' => e = .returned (.string ⟨(markOf k).toArray⟩) ∧ Below w.heap.size w w' := by
  have hle : decide ((k : Int) ≤ 0) = false := by simp; omega
  go_enter Try.func28, Try.ntmps28
  go_wp2
  go_loopw [0, 3] (fun kk o wr => ∃ (f m : Nat) (out : List UInt8), kk = .int .i64 m ∧ o = .string ⟨out.toArray⟩ ∧ m < 10 ^ f ∧ f ≤ 20 ∧ m ≤ 1000000000 ∧ digF f m ++ out = digF 20 k ∧ out.length + f = 20 ∧ Below w.heap.size w wr) (fun kk _ _ => (intOf kk).toNat)
  case atStart => exact ⟨20, k, [], rfl, rfl, by omega, Nat.le_refl _, h2, by simp, rfl, Below.refl _ _⟩
  case round =>
    obtain ⟨f, m, out, rfl, rfl, hm, hf, hm9, hd, hlen, hB⟩ := hrel
    have HD : Hid (digF f m ++ out = digF 20 k) := hd
    have HB : Hid (Below w.heap.size w wr) := hB
    clear hd hB
    by_cases h0 : m = 0
    · subst h0
      go_wp2
      go_ret
      refine ⟨mret_str ?_, HB.out⟩
      have hd := HD.out
      rw [digF_zero, List.nil_append] at hd
      unfold markOf
      rw [if_neg (by omega), ← hd]
      exact ByteArray.mk_append_mk [109] out
    · have hp : (0 : Int) < (m : Int) := by omega
      have hcv := conv_digit wr m
      have hol : out.length ≤ 20 := by omega
      obtain ⟨f', rfl⟩ : ∃ f', f = f' + 1 := ⟨f - 1, by cases f <;> simp at hm ⊢; omega⟩
      have HD2 : Hid (digF f' (m / 10) ++ (dig m :: out) = digF 20 k) := by
        show _ = _
        rw [← HD.out, digF_step f' m h0]; simp
      go_wp2
      go_roundw
      case rel => exact ⟨f', m / 10, dig m :: out, by go_num, congrArg Value.string (ByteArray.mk_append_mk [dig m] out), by rw [Nat.pow_succ] at hm; omega, by omega, by omega, HD2.out, by simp; omega, HB.out.alloc HB.out.size _⟩
      case measure => simp [intOf]; omega

/-- A list of texts in a row of one's own, not frozen. -/
structure Row (w : World) (g n : Nat) (S : Nat → ByteArray) : Prop where
  lt : g < w.heap.size
  cell : ∀ i, i < n → w.cell? ⟨g, 0 + i, none⟩ = some (.string (S i))
  free : ∀ i, i < n → w.frozen? ⟨g, 0 + i, none⟩ = false

theorem Row.below {w w' : World} {g n : Nat} {S : Nat → ByteArray} (h : Row w g n S) (hb : Below w.heap.size w w') : Row w' g n S :=
  ⟨Nat.lt_of_lt_of_le h.lt hb.size, fun i hi => (hb.cell (p := ⟨g, 0 + i, none⟩) h.lt).trans (h.cell i hi), fun i hi => (hb.frozen (p := ⟨g, 0 + i, none⟩) h.lt).trans (h.free i hi)⟩

/-- A store into the row. -/
theorem Row.set {w : World} {g n : Nat} {S : Nat → ByteArray} (h : Row w g n S) (k : Nat) (s : ByteArray) : Row (w.setCell ⟨g, 0 + k, none⟩ (.string s)) g n (fun i => if i = k then s else S i) := by
  refine ⟨by simp [World.setCell]; exact h.lt, fun i hi => ?_, fun i hi => ?_⟩
  · by_cases e : i = k
    · subst e
      rw [if_pos rfl]
      exact World.cell?_setCell_same' _ _ _ (by rw [h.cell i hi]; rfl)
    · rw [if_neg e, World.cell?_setCell_other (w := w) (a := ⟨g, 0 + k, none⟩) (b := ⟨g, 0 + i, none⟩) (v := .string s) (by intro h'; injection h' with h1 h2; omega)]; exact h.cell i hi
  · rw [World.frozen?_setCell]
    exact h.free i hi

/-- The texts by which n places are marked, from k on. -/
def marks (k : Nat) : Nat → ByteArray := fun i => ⟨(markOf (k + i)).toArray⟩

theorem mark_step (S : Nat → ByteArray) (k i m : Nat) : Value.string (if i = m then (⟨(markOf (k + m)).toArray⟩ : ByteArray) else if i < m then marks k i else S i) = Value.string (if i < m + 1 then marks k i else S i) := by
  by_cases h : i = m
  · subst h; simp [marks]
  · by_cases h2 : i < m
    · simp [h, h2, show i < m + 1 by omega]
    · simp [h, h2, show ¬ i < m + 1 by omega]

set_option maxHeartbeats 400000 in
theorem markStringS_any (g n c k B : Nat) (S : Nat → ByteArray) (w : World) (hR : Row w g n S) (hB : B ≤ g) (hn : n ≤ 1000000) (hk : 1 ≤ k) (hk2 : k ≤ 100000000) :
    Calls Try.prog 47 #[.slice (some ⟨g, 0, none⟩) n c, .int .i64 k] w fun e w' => e = .returned (.int .i64 ((k + n : Nat) : Int)) ∧ Below B w w' ∧ Row w' g n (marks k) := by
  go_enter Try.func47, Try.ntmps47
  go_wp2
  go_loopw [1, 5] (fun kk i wr => ∃ m : Nat, m ≤ n ∧ i = .int .i64 m ∧ kk = .int .i64 ((k + m : Nat) : Int) ∧ Below B w wr ∧ Row wr g n (fun j => if j < m then marks k j else S j)) (fun _ i _ => n - (intOf i).toNat)
  case atStart => exact ⟨0, Nat.zero_le _, rfl, rfl, Below.refl _ _, by simpa using hR⟩
  case round =>
    obtain ⟨m, hm, rfl, rfl, hb, hrow⟩ := hrel
    have HB : Hid (Below B w wr) := hb
    by_cases hlt : m < n
    · have hlti : (m : Int) < (n : Int) := by omega
      have HR : Hid _ := hrow
      clear hb hrow
      go_wp2_with fail
      refine (markText_any (k + m) _ (by omega) (by omega)).mono ?_
      rintro e w1 ⟨rfl, hb1⟩
      have hrow1 := HR.out.below hb1
      have hcm := hrow1.cell m hlt
      have hfm := hrow1.free m hlt
      rw [Nat.zero_add] at hcm hfm
      have HR1 : Hid _ := hrow1
      have HB1 : Hid (Below B w w1) := HB.out.trans (hb1.mono (by have := HR.out.lt; omega))
      clear hb1 hrow1 HR HB
      go_wp2
      go_roundw
      case rel => exact ⟨m + 1, by omega, by go_num, by go_num, HB1.out.setCell (p := ⟨g, m, none⟩) hB _, by
        have h := HR1.out.set m ⟨(markOf (k + m)).toArray⟩
        rw [Nat.zero_add] at h
        exact ⟨h.lt, fun i hi => by rw [h.cell i hi, mark_step S k i m], h.free⟩⟩
      case measure => simp [intOf]; omega
    · have hnm : m = n := by omega
      have HN : Hid (m = n) := hnm
      have HR : Hid _ := hrow
      clear hb hrow hnm
      go_wp2
      go_ret
      exact ⟨ret_nat (by rw [HN.out]), HB.out, HR.out.lt, fun i hi => by rw [HR.out.cell i hi, if_pos (by have := HN.out; omega)], HR.out.free⟩

theorem mark_same (k m : Nat) : ((marks k m).toList == markOf (k + m)) = true := by unfold marks; rw [ByteArray.toList_eq]; simp
end Go.Proofs.Ytokalajliphcdaa

/-
  A statement whose order is drawn and whose callees hand back new addresses: what follows it is walked once, for all of its orders.
-/
namespace Go.Proofs.Ytokalajliphcdaa
open Go.RowKit

theorem wp_cut1 {X : Type} (F : X → World → Prop) {P : Program} {c : Code} {K : Act → World → Prop} {Q : Exit → Act → World → Prop} {a : Act} {w : World} (A : X → Act)
    (leaf : (∀ x W, F x W → K (A x) W) → c.wp P (Exit.then K Q) a w) (k : ∀ x W, F x W → K (A x) W) : c.wp P (Exit.then K Q) a w := leaf k

theorem wp_cut2 {X Y : Type} (F : X → Y → World → Prop) {P : Program} {c : Code} {K : Act → World → Prop} {Q : Exit → Act → World → Prop} {a : Act} {w : World} (A : X → Y → Act)
    (leaf : (∀ x y W, F x y W → K (A x y) W) → c.wp P (Exit.then K Q) a w) (k : ∀ x y W, F x y W → K (A x y) W) : c.wp P (Exit.then K Q) a w := leaf k

theorem wp_cut3 {X Y Z : Type} (F : X → Y → Z → World → Prop) {P : Program} {c : Code} {K : Act → World → Prop} {Q : Exit → Act → World → Prop} {a : Act} {w : World} (A : X → Y → Z → Act)
    (leaf : (∀ x y z W, F x y z W → K (A x y z) W) → c.wp P (Exit.then K Q) a w) (k : ∀ x y z W, F x y z W → K (A x y z) W) : c.wp P (Exit.then K Q) a w := leaf k

/-- A statement is walked at a world of which no more is said than this. -/
theorem wp_world {P : Program} {c : Code} {Q : Exit → Act → World → Prop} {a : Act} {F : World → Prop} {w : World} (h : F w) (g : ∀ W, F W → c.wp P Q a W) : c.wp P Q a w := g w h

/-- .. whatever follows it. -/
theorem wp_cutq1 {X : Type} (F : X → World → Prop) {P : Program} {c : Code} {Q : Exit → Act → World → Prop} {a : Act} {w : World} (A : X → Act)
    (leaf : (∀ x W, F x W → Q .normal (A x) W) → c.wp P Q a w) (k : ∀ x W, F x W → Q .normal (A x) W) : c.wp P Q a w := leaf k

theorem wp_cutq2 {X Y : Type} (F : X → Y → World → Prop) {P : Program} {c : Code} {Q : Exit → Act → World → Prop} {a : Act} {w : World} (A : X → Y → Act)
    (leaf : (∀ x y W, F x y W → Q .normal (A x y) W) → c.wp P Q a w) (k : ∀ x y W, F x y W → Q .normal (A x y) W) : c.wp P Q a w := leaf k
end Go.Proofs.Ytokalajliphcdaa

/-
  A statement whose order is drawn and whose last operation waits for all others: that one is cut off, and walked behind them. Plain laws.
-/
namespace Go.Proofs.Ytokalajliphcdaa
open Go.RowKit

section
variable {P : Program} {md : Region.Mode} {Q : Exit → Act → World → Prop}

/-- What is asked ahead of the last operation. -/
def Peel (P : Program) (o : Oper) (Q : Exit → Act → World → Prop) : Exit → Act → World → Prop
  | .normal, a, w => o.wp P a w (fun a' w' => Q .normal a' w') Q
  | e, a, w => Q e a w

/-- All others come ahead of the last one, and none has a guard. -/
def peelOk (md : Region.Mode) (ops : Array Oper) (o : Oper) : Bool :=
  o.guard.isNone && (o.after.all fun e => !Region.binds md e || decide (e.on < ops.size)) && (List.range ops.size).all fun j =>
    (match ops[j]? with | some oj => oj.guard.isNone && oj.after.all (fun e => !Region.binds md e || decide (e.on < j)) | none => false) &&
    ((o.after.any fun e => Region.binds md e && e.on == j) || (List.range ops.size).any fun k => decide (j < k) && (match ops[k]? with | some ok => ok.after.any (fun e => Region.binds md e && e.on == j) | none => false))

structure PeelOk (md : Region.Mode) (ops : Array Oper) (o : Oper) : Prop where
  og : o.guard = none
  oa : ∀ e ∈ o.after, Region.binds md e = true → e.on < ops.size
  gs : ∀ (j : Nat) (oj : Oper), ops[j]? = some oj → oj.guard = none
  lt : ∀ (j : Nat) (oj : Oper), ops[j]? = some oj → ∀ e ∈ oj.after, Region.binds md e = true → e.on < j
  cov : ∀ j, j < ops.size → (∃ e ∈ o.after, Region.binds md e = true ∧ e.on = j) ∨ ∃ (k : Nat) (ok : Oper), j < k ∧ ops[k]? = some ok ∧ ∃ e ∈ ok.after, Region.binds md e = true ∧ e.on = j

theorem peelOk_spec {ops : Array Oper} {o : Oper} (h : peelOk md ops o = true) : PeelOk md ops o := by
  unfold peelOk at h
  simp only [Bool.and_eq_true, List.all_eq_true, List.mem_range] at h
  obtain ⟨⟨h1, h2⟩, h3⟩ := h
  have aux : ∀ (j : Nat) (oj : Oper), ops[j]? = some oj → oj.guard = none ∧ ∀ e ∈ oj.after, Region.binds md e = true → e.on < j := fun j oj hj => by
    have hlt : j < ops.size := (Array.getElem?_eq_some_iff.1 hj).1
    have := (h3 j hlt).1
    rw [hj] at this
    simp only [Bool.and_eq_true, Array.all_eq_true_iff_forall_mem, Bool.or_eq_true, Bool.not_eq_true', decide_eq_true_eq] at this
    exact ⟨by simpa using this.1, fun e he hb => (this.2 e he).resolve_left (by simp [hb])⟩
  refine ⟨by simpa using h1, fun e he hb => ?_, fun j oj hj => (aux j oj hj).1, fun j oj hj => (aux j oj hj).2, fun j hj => ?_⟩
  · simp only [Array.all_eq_true_iff_forall_mem, Bool.or_eq_true, Bool.not_eq_true', decide_eq_true_eq] at h2
    exact (h2 e he).resolve_left (by simp [hb])
  · have := (h3 j hj).2
    simp only [Bool.or_eq_true, Array.any_eq_true', Bool.and_eq_true, beq_iff_eq, List.any_eq_true, List.mem_range, decide_eq_true_eq] at this
    rcases this with ⟨e, he, hb, hon⟩ | ⟨k, hk, hjk, hm⟩
    · exact Or.inl ⟨e, he, hb, hon⟩
    · cases hok : ops[k]? with
      | none => rw [hok] at hm; cases hm
      | some ok =>
        rw [hok] at hm
        simp only [Array.any_eq_true', Bool.and_eq_true, beq_iff_eq] at hm
        obtain ⟨e, he, hb, hon⟩ := hm
        exact Or.inr ⟨k, ok, hjk, hok, e, he, hb, hon⟩

/-- What has come up, has so behind what it waits for. -/
def ListedOk (md : Region.Mode) (ops : Array Oper) (listed : Array Bool) : Prop :=
  listed.size = ops.size ∧ ∀ (j : Nat) (oj : Oper), ops[j]? = some oj → listed.getD j false = true → ∀ e ∈ oj.after, Region.binds md e = true → listed.getD e.on false = true

theorem getD_both {l : Array Bool} {j : Nat} (hj : j < l.size) (b : Bool) : l.getD j b = l[j] := by simp [hj]

theorem listed_all {ops : Array Oper} {o : Oper} (h : PeelOk md ops o) {listed : Array Bool} (hv : ListedOk md ops listed) (ho : ∀ e ∈ o.after, Region.binds md e = true → listed.getD e.on false = true) : ∀ d j, j < ops.size → ops.size - j ≤ d → listed.getD j false = true
  | 0, j, hj, hd => by omega
  | d + 1, j, hj, hd => by
    rcases h.cov j hj with ⟨e, he, hb, rfl⟩ | ⟨k, ok, hjk, hok, e, he, hb, rfl⟩
    · exact ho e he hb
    · have hk : k < ops.size := (Array.getElem?_eq_some_iff.1 hok).1
      exact hv.2 k ok hok (listed_all h hv ho d k hk (by omega)) e he hb

theorem ready_nil_all {ops : Array Oper} {o : Oper} (h : PeelOk md ops o) {listed : Array Bool} (hv : ListedOk md ops listed) (hr : Region.ready md ops listed = []) : ∀ j, j < ops.size → listed.getD j false = true := by
  intro j
  induction j using Nat.strongRecOn with
  | _ j ih =>
    intro hj
    cases hb : listed.getD j false with
    | true => rfl
    | false =>
      exfalso
      have hjl : j < listed.size := by rw [hv.1]; exact hj
      have : j ∈ Region.ready md ops listed := mem_ready.2 ⟨by rw [getD_both hjl] at hb ⊢; exact hb, ops[j], by simp [hj], fun e he hbn => ih e.on (h.lt j ops[j] (by simp [hj]) e he hbn) (Nat.lt_trans (h.lt j ops[j] (by simp [hj]) e he hbn) hj)⟩
      rw [hr] at this
      cases this

theorem listed_push {l : Array Bool} {j : Nat} (b : Bool) (hj : j < l.size) : (l.push false).getD j b = l.getD j b := by
  simp [Array.getElem_push, hj, Nat.lt_succ_of_lt hj]

theorem listed_push_last {l : Array Bool} (b : Bool) : (l.push false).getD l.size b = false := by simp

theorem wpOp_peel {ops : Array Oper} {o : Oper} (h : PeelOk md ops o) {i : Nat} (hi : i < ops.size) {K K' : Act → World → Prop} (hK : ∀ a w, K a w → K' a w) {a : Act} {w : World} (hh : wpOp P ops (Peel P o Q) i K a w) : wpOp P (ops.push o) Q i K' a w := by
  have e : (ops.push o)[i]? = ops[i]? := by rw [Array.getElem?_push]; simp [Nat.ne_of_lt hi]
  unfold wpOp at *
  rw [e]
  have hoi : ops[i]? = some ops[i] := by simp [hi]
  simp only [hoi] at hh ⊢
  have hg := h.gs i _ hoi
  have hw : ∀ y, Region.wanted ops[i] y = true := fun y => by simp [Region.wanted, hg]
  simp only [hw, if_true] at hh ⊢
  rcases hh with hh | ⟨h1, h2⟩
  · refine Or.inl ?_
    unfold Oper.wp at *
    generalize (execOp a.eval ops[i]).run P w = r at *
    cases r with
    | ok n w' =>
      cases n <;> simp only [Oper.upon] at hh ⊢
      case value v => exact hK _ _ hh
      case skip => exact hK _ _ hh
      case defer d => exact hK _ _ hh
      case enter f args =>
        refine Calls.mono hh fun e w'' he => ?_
        cases e with
        | returned u => exact hK _ _ he
        | panicked c => exact he
        | outgrown => exact he
      case row row args => exact Rows.mono hh fun u w'' he => hK _ _ he
    | halt x w' =>
      cases x <;> simp only [Oper.upon] at hh ⊢
      case panic u => exact hh
  · exact Or.inr ⟨h1, h2⟩

theorem wpAny_peel {ops : Array Oper} {o : Oper} (h : PeelOk md ops o) : ∀ (fuel : Nat) (listed : Array Bool) (a : Act) (w : World), ListedOk md ops listed → wpAny P md ops (Peel P o Q) fuel listed a w → wpAny P md (ops.push o) Q (fuel + 1) (listed.push false) a w := by
  intro fuel
  have lastOp : (ops.push o)[ops.size]? = some o := by simp
  have lastReady : ∀ listed, ListedOk md ops listed → Region.ready md ops listed = [] → ops.size ∈ Region.ready md (ops.push o) (listed.push false) := fun listed hv hr =>
    mem_ready.2 ⟨by rw [← hv.1]; exact listed_push_last _, o, lastOp, fun e he hb => by
      have := h.oa e he hb
      rw [listed_push _ (by rw [hv.1]; exact this)]
      exact ready_nil_all h hv hr e.on this⟩
  have readyOld : ∀ listed i, ListedOk md ops listed → i < ops.size → i ∈ Region.ready md (ops.push o) (listed.push false) → i ∈ Region.ready md ops listed := fun listed i hv hi hr => by
    rw [mem_ready] at hr ⊢
    obtain ⟨h0, oi, hoi, hall⟩ := hr
    rw [Array.getElem?_push] at hoi
    simp only [Nat.ne_of_lt hi, if_false] at hoi
    exact ⟨by rw [listed_push _ (by rw [hv.1]; exact hi)] at h0; exact h0, oi, hoi, fun e he hb => by
      have := h.lt i oi hoi e he hb
      rw [← hall e he hb, listed_push _ (by rw [hv.1]; omega)]⟩
  have doneLast : ∀ (f : Nat) listed a w, ListedOk md ops listed → Region.ready md ops listed = [] → Peel P o Q .normal a w → wpOp P (ops.push o) Q ops.size (wpAny P md (ops.push o) Q f ((listed.push false).setIfInBounds ops.size true)) a w := fun f listed a w hv hr hp => by
    unfold wpOp
    simp only [lastOp]
    have hw : Region.wanted o (yielded (ops.push o) a.tmps) = true := by simp [Region.wanted, h.og]
    simp only [hw, if_true]
    refine Or.inl (Oper.wp_mono (fun a' w' hq => wpAny_done ?_ hq f) hp)
    have hall := ready_nil_all h hv hr
    cases hrr : Region.ready md (ops.push o) ((listed.push false).setIfInBounds ops.size true) with
    | nil => rfl
    | cons x xs =>
      exfalso
      have hx : x ∈ Region.ready md (ops.push o) ((listed.push false).setIfInBounds ops.size true) := by rw [hrr]; simp
      obtain ⟨h0, ox, hox, _⟩ := mem_ready.1 hx
      have hxl : x < ops.size + 1 := by have := (Array.getElem?_eq_some_iff.1 hox).1; simpa using this
      have hsz := hv.1
      by_cases e : x = ops.size
      · subst e; simp [hsz] at h0
      · have hx' : x < ops.size := by omega
        rw [getD_set_ne true (Ne.symm e), listed_push _ (by omega)] at h0
        have := hall x hx'
        rw [getD_both (by omega)] at h0 this
        rw [h0] at this
        cases this
  have setPush : ∀ (listed : Array Bool) i, listed.size = ops.size → i < ops.size → (listed.push false).setIfInBounds i true = (listed.setIfInBounds i true).push false := fun listed i hs hi => by
    apply Array.ext_getElem?
    intro j
    by_cases e : j = i
    · subst e
      rw [Array.getElem?_push, Array.getElem?_setIfInBounds]
      simp [hs, Nat.ne_of_lt hi, hi, Nat.lt_succ_of_lt hi]
    · rw [Array.getElem?_push, Array.getElem?_setIfInBounds, if_neg (Ne.symm e), Array.getElem?_push, Array.size_setIfInBounds, Array.getElem?_setIfInBounds, if_neg (Ne.symm e)]
  have okSet : ∀ listed i, ListedOk md ops listed → i ∈ Region.ready md ops listed → ListedOk md ops (listed.setIfInBounds i true) := fun listed i hv hr => by
    obtain ⟨h0, oi, hoi, hall⟩ := mem_ready.1 hr
    refine ⟨by simpa using hv.1, fun j oj hj hl e he hb => ?_⟩
    by_cases ej : j = i
    · subst ej
      rw [hoi] at hj
      cases hj
      exact getD_set_true (hall e he hb)
    · rw [getD_set_ne false (Ne.symm ej)] at hl
      exact getD_set_true (hv.2 j oj hj hl e he hb)
  induction fuel with
  | zero =>
    intro listed a w hv hh
    obtain ⟨hr, hp⟩ := hh
    refine ⟨fun hn => ?_, fun i hi => ?_⟩
    · have := lastReady listed hv hr
      rw [hn] at this
      cases this
    · by_cases e : i = ops.size
      · subst e; exact doneLast 0 listed a w hv hr hp
      · have hlt : i < ops.size := by
          obtain ⟨_, oi, hoi, _⟩ := mem_ready.1 hi
          have := (Array.getElem?_eq_some_iff.1 hoi).1
          simp at this; omega
        have := readyOld listed i hv hlt hi
        rw [hr] at this
        cases this
  | succ fuel ih =>
    intro listed a w hv hh
    obtain ⟨hn, hstep⟩ := hh
    refine ⟨fun hnil => ?_, fun i hi => ?_⟩
    · exfalso
      cases hr : Region.ready md ops listed with
      | nil =>
        have := lastReady listed hv hr
        rw [hnil] at this
        cases this
      | cons x xs =>
        have hx : x ∈ Region.ready md ops listed := by rw [hr]; simp
        obtain ⟨h0, ox, hox, hall⟩ := mem_ready.1 hx
        have hxl : x < ops.size := (Array.getElem?_eq_some_iff.1 hox).1
        have : x ∈ Region.ready md (ops.push o) (listed.push false) := mem_ready.2 ⟨by rw [listed_push _ (by rw [hv.1]; exact hxl)]; exact h0, ox, by rw [Array.getElem?_push]; simp [Nat.ne_of_lt hxl, hox], fun e he hb => by
          have := h.lt x ox hox e he hb
          rw [listed_push _ (by rw [hv.1]; omega)]
          exact hall e he hb⟩
        rw [hnil] at this
        cases this
    · by_cases e : i = ops.size
      · subst e
        have hall : ∀ e ∈ o.after, Region.binds md e = true → listed.getD e.on false = true := fun e he hb => by
          obtain ⟨_, oi, hoi, hal⟩ := mem_ready.1 hi
          rw [lastOp] at hoi
          cases hoi
          rw [← hal e he hb, listed_push _ (by rw [hv.1]; exact h.oa e he hb)]
        have hr : Region.ready md ops listed = [] := by
          cases hrr : Region.ready md ops listed with
          | nil => rfl
          | cons x xs =>
            exfalso
            have hx : x ∈ Region.ready md ops listed := by rw [hrr]; simp
            obtain ⟨h0, ox, hox, _⟩ := mem_ready.1 hx
            have hxl : x < ops.size := (Array.getElem?_eq_some_iff.1 hox).1
            have := listed_all h hv hall ops.size x hxl (by omega)
            rw [getD_both (by rw [hv.1]; exact hxl)] at h0 this
            rw [h0] at this
            cases this
        exact doneLast (fuel + 1) listed a w hv hr (hn hr)
      · have hlt : i < ops.size := by
          obtain ⟨_, oi, hoi, _⟩ := mem_ready.1 hi
          have := (Array.getElem?_eq_some_iff.1 hoi).1
          simp at this; omega
        have hi' := readyOld listed i hv hlt hi
        refine wpOp_peel h hlt (fun a' w' hh => ?_) (hstep i hi')
        rw [setPush listed i hv.1 hlt]
        exact ih _ a' w' (okSet listed i hv hi') hh

theorem push_pop {ops : Array Oper} {o : Oper} (h : ops.back? = some o) : ops.pop.push o = ops := by
  rcases ops with ⟨l⟩
  rcases List.eq_nil_or_concat l with rfl | ⟨l', x, rfl⟩
  · simp at h
  · simp at h; subst h; simp

/-- The last operation is cut off; of the others a condition S on the world holds till they have all come up. -/
theorem wp_region_peel {id : Nat} {ops : Array Oper} {a : Act} {w : World} (S : World → Prop) (o : Oper) (hm : P.follows .mixedOrders = true) (hb : ops.back? = some o) (hok : peelOk .any ops.pop o = true)
    (hS : S w.drew) (h : S w.drew → wpAnyH P .any ops.pop (Peel P o Q) S ops.pop.size (Array.replicate ops.pop.size false) a w.drew) : (Code.region id ops true).wp P Q a w := by
  refine wp_region_any hm ?_
  have hp := push_pop hb
  have := wpAny_peel (Q := Q) (P := P) (peelOk_spec hok) ops.pop.size (Array.replicate ops.pop.size false) a w.drew ⟨by simp, fun j oj hj hl e he hbn => by
    rw [Array.getD_eq_getD_getElem?, Array.getElem?_replicate] at hl
    split at hl <;> cases hl⟩ (wpAny_of_held _ _ _ _ (h hS))
  have e1 : (Array.replicate ops.pop.size false).push false = Array.replicate ops.size false := by
    rw [← hp]; simp [Array.replicate_succ]
  have e2 : ops.pop.size + 1 = ops.size := by rw [← hp]; simp
  rw [hp, e1, e2] at this
  exact this

/-- Take number i first, where the last operation is cut off. -/
theorem peel_take {ops : Array Oper} {o : Oper} {S : World → Prop} {i : Nat} {oi : Oper} {v : Value} {fuel : Nat} {listed : Array Bool} {a : Act} {w : World} (hQ : ∀ c (a : Act) d v w, Q (.panic c) (a.put d v) w → Q (.panic c) a w) (hS : S w)
    (hi : ops[i]? = some oi) (hs : Region.noSelect ops = true) (hf : Region.free md ops listed i = true) (hr : (Region.ready md ops listed).contains i = true) (hw : Region.wanted oi (yielded ops a.tmps) = true) (hy : ∀ w, S w → (execOp a.eval oi).run P w = .ok (.value v) w)
    (h : wpAnyH P md ops (Peel P o Q) S fuel (listed.setIfInBounds i true) (a.put oi.dst v) w) : wpAnyH P md ops (Peel P o Q) S (fuel + 1) listed a w :=
  wpAnyH_take hi hs hf hr (fun c a w h => hQ c a _ _ w h) (Or.inl ⟨hw, hy⟩) hS h

/-- At a step of a drawn region: an append to a row of one's own. -/
theorem step_append_own (w : World) {ops : Array Oper} {o : Oper} {a : Act} {K : Act → World → Prop} {E : Prop} (hgd : o.guard = none) (s x : Operand) (t : TypeId)
    (ho : o.op = .call { callee := .builtin .append, args := #[s, x], argTypes := #[t, t] })
    (base : Nat) (e : TypeId) (i : TypeInfo) (z : Value) (size bytes : Nat) (ht : P.underlying t = some (.slice e)) (hi : P.info? e = some i) (hz : i.zero = some z)
    (hsize : i.size = size) (hby : i.bytes = bytes) (hzs : z.cells.size = size) (hsz : 0 < size)
    (v : Value) (n : Nat) (xs : List Value) (hs : a.eval s = v) (hown : w.ownsRow base e size v n xs)
    (ad : Addr) (m c : Nat) (news : List Value) (hx : a.eval x = .slice (some ad) m c) (hl : news.length = m * size) (hnews : ∀ j u, news[j]? = some u → w.cell? (ad.add j) = some u) (h1 : ∀ u ∈ news, u.oneCell' = true)
    (h63 : n + m ≤ maxLen) (hbytes : (n + m) * bytes ≤ 140737488355328) (hbase : base ≤ w.heap.size)
    (h : ∀ v' w', w'.ownsRow base e size v' (n + m) (xs ++ news) → w.grownBy w' v.ownBlock → (v' = .slice none 0 0 ↔ v = .slice none 0 0 ∧ m = 0) → K (a.put o.dst v') w') :
    if Region.wanted o (yielded ops a.tmps) = true then Oper.wp P o a w K Q else E := by
  have hw : Region.wanted o (yielded ops a.tmps) = true := by simp [Region.wanted, hgd]
  rw [if_pos hw]
  exact wp_append_own w s x t ho base e i z size bytes ht hi hz hsize hby hzs hsz v n xs hs hown ad m c news hx hl hnews h1 h63 hbytes hbase h
end
end Go.Proofs.Ytokalajliphcdaa
