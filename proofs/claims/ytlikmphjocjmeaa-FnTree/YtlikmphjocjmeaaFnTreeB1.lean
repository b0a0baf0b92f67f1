/-
  Texts that the proof needs, laid one behind the other.
-/
import Derived.Test.YtlikmphjocjmeaaProg
import Derived.WalkKit
import Derived.WalkSpells
import Derived.Below
import Derived.Deep.OwnRows
import Derived.Deep.QuietTactic
import Derived.BigQuiet
import Derived.WalkSmall
import Derived.Laws.AppendOwn
import Derived.OwnWalk
import Derived.Deep.RegionHeld3
import Derived.Deep.AppendLies
import Derived.Laws.Cover1
import Derived.Deep.RegionLaw

/-
  What NameOk of the specification answers at every text: whether it has 1 to 4 letters, each from a to z; it does not turn the world.
-/
namespace Go.Proofs.Ytlikmphjocjmeaa
open Go.RowKit
set_option linter.unusedVariables false

/-- A letter from a to z. -/
def letter (c : UInt8) : Bool := decide (97 ≤ (c.toNat : Int) ∧ (c.toNat : Int) ≤ 122)
/-- A name. -/
def nameOk (l : List UInt8) : Bool := l.all letter && decide (1 ≤ l.length) && decide (l.length ≤ 4)

theorem take_snoc (s : ByteArray) (k : Nat) (h : k < s.size) : s.data.toList.take (k + 1) = s.data.toList.take k ++ [s[k]] := by
  rw [List.take_succ_eq_append_getElem (by simpa using h)]; rfl

theorem letter_yes {c : UInt8} (h1 : ¬ (c.toNat : Int) < 97) (h2 : ¬ (122 : Int) < (c.toNat : Int)) : letter c = true := by
  unfold letter; simp; omega

theorem all_snoc (s : ByteArray) (k : Nat) (h : k < s.size) (ha : (s.data.toList.take k).all letter = true) (hc : letter s[k] = true) : (s.data.toList.take (k + 1)).all letter = true := by
  rw [take_snoc s k h, List.all_append, ha]; simp [hc]

theorem not_all (s : ByteArray) (k : Nat) (h : k < s.size) (hc : letter s[k] = false) : s.data.toList.all letter = false := by
  rw [Bool.eq_false_iff]
  intro ha
  have := List.all_eq_true.1 ha s[k] (by
    have : s[k] = s.data.toList[k]'(by simpa using h) := rfl
    rw [this]; exact List.getElem_mem _)
  rw [hc] at this; cases this

theorem ret_bool {a b : Bool} (h : a = b) : Ending.returned (.bool a) = .returned (.bool b) := by rw [h]

theorem letter_no {c : UInt8} (h : (c.toNat : Int) < 97 ∨ (122 : Int) < (c.toNat : Int)) : letter c = false := by
  unfold letter; simp; omega

theorem nameOk_bad (s : ByteArray) (k : Nat) (h : k < s.size) (hc : letter s[k] = false) : false = nameOk s.data.toList := by
  unfold nameOk; rw [not_all s k h hc]; rfl

theorem nameOk_long (s : ByteArray) (h : s.size < 1 ∨ 4 < s.size) : false = nameOk s.data.toList := by
  unfold nameOk
  have e : s.data.toList.length = s.size := by simp
  rcases h with h | h
  · rw [decide_eq_false (show ¬ 1 ≤ s.data.toList.length by omega)]; simp
  · rw [decide_eq_false (show ¬ s.data.toList.length ≤ 4 by omega)]; simp

theorem nameOk_end (s : ByteArray) (k : Nat) (hk : k ≤ s.size) (h : ¬ k < s.size) (ha : (s.data.toList.take k).all letter = true) (h1 : 1 ≤ s.size) : decide (s.size ≤ 4) = nameOk s.data.toList := by
  have e : s.data.toList.length = s.size := by simp
  rw [List.take_of_length_le (by omega)] at ha
  unfold nameOk
  rw [ha, show decide (1 ≤ s.data.toList.length) = true by simp; omega]; simp

set_option maxHeartbeats 400000 in
theorem specNameOk_any (s : ByteArray) (w : World) (hs : s.size ≤ maxLen) :
    Calls Try.prog 48 #[.string s] w fun e w' => e = .returned (.bool (nameOk s.data.toList)) ∧ w' = w := by
  unfold maxLen at hs
  go_enter Try.func48, Try.ntmps48
  go_wp2
  go_loop [3] (fun i => ∃ k : Nat, k ≤ s.size ∧ i = .int .i64 k ∧ (s.data.toList.take k).all letter = true) (fun i => s.size - (intOf i).toNat)
  case atStart => exact ⟨0, Nat.zero_le _, rfl, rfl⟩
  case round =>
    obtain ⟨k, hk, rfl, ha⟩ := hrel
    have HA : Hid ((s.data.toList.take k).all letter = true) := ha
    clear ha
    by_cases hlt : k < s.size
    · go_wp2
      · go_ret
        exact ⟨ret_bool (nameOk_bad s k hlt (letter_no ‹_›)), rfl⟩
      · go_round
        case rel => exact ⟨k + 1, by omega, by go_num, all_snoc s k hlt HA (letter_yes (by omega) (by omega))⟩
        case measure => simp [intOf]; omega
      · go_ret
        exact ⟨ret_bool (nameOk_bad s k hlt (letter_no (Or.inl ‹_›))), rfl⟩
    · go_wp2
      · go_ret
        exact ⟨ret_bool (by rw [← nameOk_end s k hk hlt HA (by omega)]; simp; omega), rfl⟩
      · go_ret
        exact ⟨ret_bool (nameOk_long s (by omega)), rfl⟩

end Go.Proofs.Ytlikmphjocjmeaa

/-
  Lists of texts as they lie in memory, and what is said of them: plain facts.
-/
namespace Go.Proofs.Ytlikmphjocjmeaa
open Go.RowKit
set_option linter.unusedVariables false

/-- n texts lie in memory from the address on. -/
def IsStrs (w : World) (a : Option Addr) (n : Nat) (S : Nat → ByteArray) : Prop :=
  n = 0 ∨ ∃ b off, a = some ⟨b, off, none⟩ ∧ b < w.heap.size ∧ ∀ i, i < n → w.cell? ⟨b, off + i, none⟩ = some (.string (S i))

def Small (n : Nat) (S : Nat → ByteArray) : Prop := ∀ i, i < n → (S i).size ≤ maxLen

theorem IsStrs.at {w : World} {a : Option Addr} {n : Nat} {S : Nat → ByteArray} (h : IsStrs w a n S) {k : Nat} (hk : k < n) :
    ∃ b off, a = some ⟨b, off, none⟩ ∧ b < w.heap.size ∧ ∀ i, i < n → w.cell? ⟨b, off + i, none⟩ = some (.string (S i)) := by
  rcases h with h | h
  · omega
  · exact h

theorem IsStrs.below {w w' : World} {a : Option Addr} {n : Nat} {S : Nat → ByteArray} (h : IsStrs w a n S) {B : Nat} (hB : w.heap.size ≤ B) (hb : Below B w w') : IsStrs w' a n S := by
  rcases h with h | ⟨b, off, ha, hlt, hc⟩
  · exact Or.inl h
  · exact Or.inr ⟨b, off, ha, by have := hb.size; omega, fun i hi => by rw [hb.cell (p := ⟨b, off + i, none⟩) (by show b < B; omega)]; exact hc i hi⟩

/-- The letters of the first k. -/
def sumTo (S : Nat → ByteArray) : Nat → Nat | 0 => 0 | k + 1 => sumTo S k + (S k).size

theorem sumTo_succ (S : Nat → ByteArray) (k : Nat) : sumTo S (k + 1) = sumTo S k + (S k).size := rfl

theorem size_le_sumTo (S : Nat → ByteArray) (n : Nat) : ∀ i, i < n → (S i).size ≤ sumTo S n := by
  induction n with
  | zero => intro i hi; omega
  | succ n ih => intro i hi; rw [sumTo_succ]; by_cases h : i < n
                 · have := ih i h; omega
                 · have : i = n := by omega
                   subst this; omega

def eqS (n : Nat) (S T : Nat → ByteArray) : Bool := (List.range n).all fun i => (S i).toList == (T i).toList

theorem eqS_succ (k : Nat) (S T : Nat → ByteArray) (h : eqS k S T = true) (hk : (!(S k).toList == (T k).toList) = false) : eqS (k + 1) S T = true := by
  unfold eqS at *
  rw [List.range_succ, List.all_append, h]; simpa using hk

theorem eqS_not (n k : Nat) (S T : Nat → ByteArray) (hk : k < n) (h : (!(S k).toList == (T k).toList) = true) : false = eqS n S T := by
  symm
  rw [Bool.eq_false_iff]
  intro ha
  have := List.all_eq_true.1 ha k (by simpa using hk)
  simp [this] at h

theorem eqS_self (n : Nat) (S T : Nat → ByteArray) (h : ∀ i, i < n → S i = T i) : eqS n S T = true := by
  unfold eqS
  rw [List.all_eq_true]
  intro i hi
  rw [h i (by simpa using hi)]
  simp

theorem IsStrs.row {w : World} {b n : Nat} {S : Nat → ByteArray} (h : w.rowIs b 9 n (fun i => .string (S i))) : IsStrs w (some ⟨b, 0, none⟩) n S :=
  Or.inr ⟨b, 0, rfl, h.lt, fun i hi => by rw [Nat.zero_add]; exact h.cell hi⟩

theorem Small.of_sum {n : Nat} {S : Nat → ByteArray} {r left : Int} (h : r + n + sumTo S n ≤ left) (h0 : 0 ≤ r) (h1 : left ≤ 1048576) : Small n S := fun i hi => by
  have := size_le_sumTo S n i hi
  unfold maxLen; omega
end Go.Proofs.Ytlikmphjocjmeaa

/-
  Lists of numbers as they lie in memory, and places of a tree: plain facts.
-/
namespace Go.Proofs.Ytlikmphjocjmeaa
open Go.RowKit
set_option linter.unusedVariables false

theorem infoInt : (Try.prog.info? 3).map (fun i => (i.zero, i.size, i.bytes)) = some (some (.int .i64 0), 1, 8) := by kernel_rfl

/-- n numbers lie in memory from the address on. -/
def IsInts (w : World) (a : Option Addr) (n : Nat) (Z : Nat → Int) : Prop :=
  n = 0 ∨ ∃ b off, a = some ⟨b, off, none⟩ ∧ b < w.heap.size ∧ ∀ i, i < n → w.cell? ⟨b, off + i, none⟩ = some (.int .i64 (Z i))

/-- Each is a number of 64 bits. -/
def In64 (z : Int) : Prop := -9223372036854775808 ≤ z ∧ z ≤ 9223372036854775807

theorem IsInts.at {w : World} {a : Option Addr} {n : Nat} {Z : Nat → Int} (h : IsInts w a n Z) {k : Nat} (hk : k < n) :
    ∃ b off, a = some ⟨b, off, none⟩ ∧ b < w.heap.size ∧ ∀ i, i < n → w.cell? ⟨b, off + i, none⟩ = some (.int .i64 (Z i)) := by
  rcases h with h | h
  · omega
  · exact h

theorem IsInts.below {w w' : World} {a : Option Addr} {n : Nat} {Z : Nat → Int} (h : IsInts w a n Z) {B : Nat} (hB : w.heap.size ≤ B) (hb : Below B w w') : IsInts w' a n Z := by
  rcases h with h | ⟨b, off, ha, hlt, hc⟩
  · exact Or.inl h
  · exact Or.inr ⟨b, off, ha, by have := hb.size; omega, fun i hi => by rw [hb.cell (p := ⟨b, off + i, none⟩) (by show b < B; omega)]; exact hc i hi⟩

def eqZ (n : Nat) (Z Y : Nat → Int) : Bool := (List.range n).all fun i => Z i == Y i

theorem eqZ_succ (k : Nat) (Z Y : Nat → Int) (h : eqZ k Z Y = true) (hk : Z k = Y k) : eqZ (k + 1) Z Y = true := by
  unfold eqZ at *
  rw [List.range_succ, List.all_append, h]; simpa using hk

theorem eqZ_not (n k : Nat) (Z Y : Nat → Int) (hk : k < n) (h : ¬ Z k = Y k) : false = eqZ n Z Y := by
  symm
  rw [Bool.eq_false_iff]
  intro ha
  have := List.all_eq_true.1 ha k (by simpa using hk)
  simp at this; exact h this

theorem eqZ_self (n : Nat) (Z Y : Nat → Int) (h : ∀ i, i < n → Z i = Y i) : eqZ n Z Y = true := by
  unfold eqZ
  rw [List.all_eq_true]
  intro i hi
  rw [h i (by simpa using hi)]
  simp

theorem IsInts.row {w : World} {b n : Nat} {Z : Nat → Int} (h : w.rowIs b 3 n (fun i => .int .i64 (Z i))) : IsInts w (some ⟨b, 0, none⟩) n Z :=
  Or.inr ⟨b, 0, rfl, h.lt, fun i hi => by rw [Nat.zero_add]; exact h.cell hi⟩
end Go.Proofs.Ytlikmphjocjmeaa

/-
  A block of memory and what it holds, cell by cell: plain facts.
-/
namespace Go.Proofs.Ytlikmphjocjmeaa
open Go.RowKit Go.Deep
set_option linter.unusedVariables false

/-- Block b holds these cells, none frozen. -/
def Blk (w : World) (b : Nat) (c : Array Value) (t : TypeId) : Prop := w.heap[b]? = some (.cells c t (0, 0))

theorem Blk.cell {w : World} {b : Nat} {c : Array Value} {t : TypeId} (h : Blk w b c t) (i : Nat) : w.cell? ⟨b, i, none⟩ = c[i]? := by
  unfold Blk at h
  simp [World.cell?, h]

theorem Blk.frozen {w : World} {b : Nat} {c : Array Value} {t : TypeId} (h : Blk w b c t) (i : Nat) : w.frozen? ⟨b, i, none⟩ = false := by
  unfold Blk at h
  simp [World.frozen?, h]

theorem Blk.lt {w : World} {b : Nat} {c : Array Value} {t : TypeId} (h : Blk w b c t) : b < w.heap.size := (Array.getElem?_eq_some_iff.1 h).1

theorem Blk.of_block {w w' : World} {b : Nat} {c : Array Value} {t : TypeId} (h : Blk w b c t) (e : w'.heap[b]? = w.heap[b]?) : Blk w' b c t := e.trans h

theorem Blk.new (w : World) (c : Array Value) (t : TypeId) : Blk (w.alloc (.cells c t)) w.heap.size c t := blk_alloc_new _ _

theorem Blk.alloc {w : World} {b : Nat} {c : Array Value} {t : TypeId} (h : Blk w b c t) (o : Obj) : Blk (w.alloc o) b c t := h.of_block (blk_alloc_lt _ _ _ h.lt)

theorem Blk.below {w w' : World} {b : Nat} {c : Array Value} {t : TypeId} (h : Blk w b c t) {B : Nat} (hb : Below B w w') (hB : b < B) : Blk w' b c t := h.of_block (hb.block b hB)

theorem Blk.set {w : World} {b : Nat} {c : Array Value} {t : TypeId} (h : Blk w b c t) (i : Nat) (v : Value) : Blk (w.setCell ⟨b, i, none⟩ v) b (c.setIfInBounds i v) t := by
  unfold Blk at *
  simp [World.setCell, Array.getElem?_modify, h]

theorem Blk.setOther {w : World} {b : Nat} {c : Array Value} {t : TypeId} (h : Blk w b c t) {a : Addr} (ha : b ≠ a.block) (v : Value) : Blk (w.setCell a v) b c t := h.of_block (blk_setCell_other _ _ _ _ ha)

theorem Blk.off {w : World} {b : Nat} {c : Array Value} {t : TypeId} (h : Blk w b c t) {b' i : Nat} (v : Value) (hb : b ≠ b') : Blk (w.setCell ⟨b', i, none⟩ v) b c t := h.setOther (a := ⟨b', i, none⟩) hb v

theorem bel_put {B : Nat} {a w : World} (h : Below B a w) {b i : Nat} (v : Value) (hb : B ≤ b) : Below B a (w.setCell ⟨b, i, none⟩ v) := h.setCell (p := ⟨b, i, none⟩) hb v

theorem IsInts.off {w : World} {b' off' n : Nat} {Z : Nat → Int} (h : IsInts w (some ⟨b', off', none⟩) n Z) {b i : Nat} (v : Value) (hb : b' ≠ b) : IsInts (w.setCell ⟨b, i, none⟩ v) (some ⟨b', off', none⟩) n Z := by
  rcases h with h | ⟨b0, o0, ha, hlt, hc⟩
  · exact Or.inl h
  · cases ha
    exact Or.inr ⟨b', off', rfl, by simpa [World.setCell] using hlt, fun i hi => by rw [← hc i hi]; exact World.cell?_of_block (blk_setCell_other _ _ _ _ hb)⟩

theorem IsStrs.off {w : World} {b' off' n : Nat} {S : Nat → ByteArray} (h : IsStrs w (some ⟨b', off', none⟩) n S) {b i : Nat} (v : Value) (hb : b' ≠ b) : IsStrs (w.setCell ⟨b, i, none⟩ v) (some ⟨b', off', none⟩) n S := by
  rcases h with h | ⟨b0, o0, ha, hlt, hc⟩
  · exact Or.inl h
  · cases ha
    exact Or.inr ⟨b', off', rfl, by simpa [World.setCell] using hlt, fun i hi => by rw [← hc i hi]; exact World.cell?_of_block (blk_setCell_other _ _ _ _ hb)⟩

/-- A call is walked at a world of which no more is said than this. -/
theorem at_world {P : Program} {f : FuncId} {args : Array Value} {K : Ending → World → Prop} {F : World → Prop} {w : World} (h : F w) (g : ∀ W, F W → Calls P f args W K) : Calls P f args w K := g w h

/-- .. and so is a body's end. -/
theorem end_world {P : Program} {fn : Func} {R : Ending → World → Prop} {e : Exit} {a : Act} {F : World → Prop} {w : World} (h : F w) (g : ∀ W, F W → bodyPost P fn R e a W) : bodyPost P fn R e a w := g w h

/-- One new block. -/
structure New1 (w : World) (c0 : Array Value) (t0 : TypeId) (W : World) : Prop where
  b0 : Blk W w.heap.size c0 t0
  bel : Below w.heap.size w W
  size : W.heap.size = w.heap.size + 1

/-- Two new blocks. -/
structure New2 (w : World) (c0 : Array Value) (t0 : TypeId) (c1 : Array Value) (t1 : TypeId) (W : World) : Prop where
  b0 : Blk W w.heap.size c0 t0
  b1 : Blk W (w.heap.size + 1) c1 t1
  bel : Below w.heap.size w W
  size : W.heap.size = w.heap.size + 2

/-- Three new blocks. -/
structure New3 (w : World) (c0 : Array Value) (t0 : TypeId) (c1 : Array Value) (t1 : TypeId) (c2 : Array Value) (t2 : TypeId) (W : World) : Prop where
  b0 : Blk W w.heap.size c0 t0
  b1 : Blk W (w.heap.size + 1) c1 t1
  b2 : Blk W (w.heap.size + 1 + 1) c2 t2
  bel : Below w.heap.size w W
  size : W.heap.size = w.heap.size + 3

theorem new1 (w : World) (c0 : Array Value) (t0 : TypeId) : New1 w c0 t0 (w.alloc (.cells c0 t0)) := ⟨Blk.new w c0 t0, (Below.refl _ _).alloc (Nat.le_refl _) _, by simp⟩

theorem new2 (w : World) (c0 : Array Value) (t0 : TypeId) (c1 : Array Value) (t1 : TypeId) : New2 w c0 t0 c1 t1 ((w.alloc (.cells c0 t0)).alloc (.cells c1 t1)) := by
  have h1 : (w.alloc (.cells c0 t0)).heap.size = w.heap.size + 1 := by simp
  refine ⟨(Blk.new w c0 t0).alloc _, ?_, ((Below.refl _ _).alloc (Nat.le_refl _) _).alloc (by omega) _, by simp⟩
  have := Blk.new (w.alloc (.cells c0 t0)) c1 t1
  rwa [h1] at this

theorem new3 (w : World) (c0 : Array Value) (t0 : TypeId) (c1 : Array Value) (t1 : TypeId) (c2 : Array Value) (t2 : TypeId) : New3 w c0 t0 c1 t1 c2 t2 (((w.alloc (.cells c0 t0)).alloc (.cells c1 t1)).alloc (.cells c2 t2)) := by
  obtain ⟨h0, h1, hb, hs⟩ := new2 w c0 t0 c1 t1
  refine ⟨h0.alloc _, h1.alloc _, ?_, hb.alloc (by omega) _, by simp⟩
  have := Blk.new ((w.alloc (.cells c0 t0)).alloc (.cells c1 t1)) c2 t2
  rwa [hs] at this
end Go.Proofs.Ytlikmphjocjmeaa

/-
  Places of a tree and lists of them as they lie in memory: plain facts.
-/
namespace Go.Proofs.Ytlikmphjocjmeaa
open Go.RowKit
set_option linter.unusedVariables false

/-- What a place of a tree holds: its kind, its text, so many names, so many places, its turn. -/
structure Nd where
  kind : Int
  text : ByteArray
  nn : Nat
  names : Nat → ByteArray
  kn : Nat
  kids : Nat → Int
  turn : Int

instance : Inhabited Nd := ⟨⟨0, ByteArray.empty, 0, fun _ => ByteArray.empty, 0, fun _ => 0, 0⟩⟩

/-- The bounds that hold of every place that was handed in. -/
structure Nd.Fits (d : Nd) : Prop where
  kind : In64 d.kind
  turn : In64 d.turn
  text : d.text.size ≤ maxLen
  names : Small d.nn d.names
  nn : d.nn ≤ maxLen
  kn : d.kn ≤ maxLen
  kids : ∀ i, i < d.kn → In64 (d.kids i)

/-- Where the two lists of a place lie. -/
structure Loc where
  nA : Option Addr
  nc : Nat
  kA : Option Addr
  kc : Nat

instance : Inhabited Loc := ⟨⟨none, 0, none, 0⟩⟩

/-- The value of a place. -/
def ndV (d : Nd) (l : Loc) : Value := .agg #[.int .i64 d.kind, .string d.text, .slice l.nA d.nn l.nc, .slice l.kA d.kn l.kc, .int .i64 d.turn]

/-- The two lists of a place lie in memory. -/
def NdIn (w : World) (d : Nd) (l : Loc) : Prop := IsStrs w l.nA d.nn d.names ∧ IsInts w l.kA d.kn d.kids

/-- n places lie in memory from the address on, five cells each. -/
def IsNds (w : World) (a : Option Addr) (n : Nat) (D : Nat → Nd) (L : Nat → Loc) : Prop :=
  n = 0 ∨ ∃ b off, a = some ⟨b, off, none⟩ ∧ b < w.heap.size ∧ ∀ i, i < n →
    w.cell? ⟨b, off + i * 5, none⟩ = some (.int .i64 (D i).kind) ∧ w.cell? ⟨b, off + i * 5 + 1, none⟩ = some (.string (D i).text) ∧
    w.cell? ⟨b, off + i * 5 + 2, none⟩ = some (.slice (L i).nA (D i).nn (L i).nc) ∧ w.cell? ⟨b, off + i * 5 + 3, none⟩ = some (.slice (L i).kA (D i).kn (L i).kc) ∧
    w.cell? ⟨b, off + i * 5 + 4, none⟩ = some (.int .i64 (D i).turn) ∧ NdIn w (D i) (L i)

theorem NdIn.below {w w' : World} {d : Nd} {l : Loc} (h : NdIn w d l) {B : Nat} (hB : w.heap.size ≤ B) (hb : Below B w w') : NdIn w' d l := ⟨h.1.below hB hb, h.2.below hB hb⟩

theorem IsNds.at {w : World} {a : Option Addr} {n : Nat} {D : Nat → Nd} {L : Nat → Loc} (h : IsNds w a n D L) {k : Nat} (hk : k < n) :
    ∃ b off, a = some ⟨b, off, none⟩ ∧ b < w.heap.size ∧ ∀ i, i < n →
    w.cell? ⟨b, off + i * 5, none⟩ = some (.int .i64 (D i).kind) ∧ w.cell? ⟨b, off + i * 5 + 1, none⟩ = some (.string (D i).text) ∧
    w.cell? ⟨b, off + i * 5 + 2, none⟩ = some (.slice (L i).nA (D i).nn (L i).nc) ∧ w.cell? ⟨b, off + i * 5 + 3, none⟩ = some (.slice (L i).kA (D i).kn (L i).kc) ∧
    w.cell? ⟨b, off + i * 5 + 4, none⟩ = some (.int .i64 (D i).turn) ∧ NdIn w (D i) (L i) := by
  rcases h with h | h
  · omega
  · exact h

theorem IsNds.below {w w' : World} {a : Option Addr} {n : Nat} {D : Nat → Nd} {L : Nat → Loc} (h : IsNds w a n D L) {B : Nat} (hB : w.heap.size ≤ B) (hb : Below B w w') : IsNds w' a n D L := by
  rcases h with h | ⟨b, off, ha, hlt, hc⟩
  · exact Or.inl h
  · have hs := hb.size
    refine Or.inr ⟨b, off, ha, by omega, fun i hi => ?_⟩
    obtain ⟨h0, h1, h2, h3, h4, h5⟩ := hc i hi
    have e : ∀ o, w'.cell? ⟨b, o, none⟩ = w.cell? ⟨b, o, none⟩ := fun o => hb.cell (p := ⟨b, o, none⟩) (by show b < B; omega)
    exact ⟨(e _).trans h0, (e _).trans h1, (e _).trans h2, (e _).trans h3, (e _).trans h4, h5.below hB hb⟩

/-- All of them fit. -/
def FitAll (n : Nat) (D : Nat → Nd) : Prop := ∀ i, i < n → (D i).Fits

/-- What a place counts. -/
def Nd.size (d : Nd) : Nat := d.text.size + d.nn + sumTo d.names d.nn + d.kn
/-- What the first k count. -/
def sizeTo (D : Nat → Nd) : Nat → Nat | 0 => 0 | k + 1 => sizeTo D k + (D k).size

theorem sizeTo_succ (D : Nat → Nd) (k : Nat) : sizeTo D (k + 1) = sizeTo D k + (D k).size := rfl

theorem size_le_sizeTo (D : Nat → Nd) (n : Nat) : ∀ i, i < n → (D i).size ≤ sizeTo D n := by
  induction n with
  | zero => intro i hi; omega
  | succ n ih => intro i hi; rw [sizeTo_succ]; by_cases h : i < n
                 · have := ih i h; omega
                 · have : i = n := by omega
                   subst this; omega

/-- The two lists lie in blocks from B on. -/
def Loc.Past (l : Loc) (B : Nat) : Prop := (∃ b off, l.nA = some ⟨b, off, none⟩ ∧ B ≤ b) ∧ ∃ b off, l.kA = some ⟨b, off, none⟩ ∧ B ≤ b

theorem Loc.Past.mono {l : Loc} {B B' : Nat} (h : l.Past B) (hb : B' ≤ B) : l.Past B' := by
  obtain ⟨⟨b, o, h1, h2⟩, b', o', h3, h4⟩ := h
  exact ⟨⟨b, o, h1, by omega⟩, b', o', h3, by omega⟩

theorem NdIn.off {w : World} {d : Nd} {l : Loc} (h : NdIn w d l) {b i : Nat} (v : Value) (hp : l.Past (b + 1)) : NdIn (w.setCell ⟨b, i, none⟩ v) d l := by
  obtain ⟨h1, h2⟩ := h
  obtain ⟨⟨b1, o1, e1, g1⟩, b2, o2, e2, g2⟩ := hp
  unfold NdIn
  rw [e1] at h1 ⊢
  rw [e2] at h2 ⊢
  exact ⟨h1.off v (by omega), h2.off v (by omega)⟩

theorem run_make_wide {P : Program} (t e : TypeId) (z : Value) (bytes s : Nat) (ht : P.underlying t = some (.slice e)) (hinfo : (P.info? e).map (fun i => (i.zero, i.size, i.bytes)) = some (some z, s, bytes))
    (kl kc : IntKind) (n : Nat) (hbytes : bytes * n ≤ 281474976710656) (h63 : n ≤ 9223372036854775807) (w : World) :
    (Instr.makeSlice t (.int kl (n : Int)) (.int kc (n : Int))).run P w = .ok (.slice (some ⟨w.heap.size, 0, none⟩) n n) (w.alloc (.cells (madeCells z.cells (n * s)) e)) := by
  obtain ⟨i, hi, hzz⟩ := Option.map_eq_some_iff.1 hinfo
  simp only [Prod.mk.injEq] at hzz
  obtain ⟨hz, hs, hb⟩ := hzz
  have hb' : (i.bytes : Int) * (n : Int) ≤ 281474976710656 := by
    have h : ((i.bytes * n : Nat) : Int) ≤ 281474976710656 := by rw [hb]; omega
    rwa [Int.natCast_mul] at h
  have hr := run_make (P := P) w t e i z ht hi hz kl kc n n (by omega) (Int.le_refl _) hb' (by omega)
  simp only [Int.toNat_natCast, hs] at hr
  exact hr

/-- Two places are one. -/
def Nd.same (d e : Nd) : Bool := (d.kind == e.kind) && (d.text.toList == e.text.toList) && (decide (d.nn = e.nn) && eqS d.nn d.names e.names) && (decide (d.kn = e.kn) && eqZ d.kn d.kids e.kids) && (d.turn == e.turn)

theorem Nd.same_self (d : Nd) : d.same d = true := by
  unfold Nd.same
  rw [eqS_self _ _ _ (fun _ _ => rfl), eqZ_self _ _ _ (fun _ _ => rfl)]
  simp
end Go.Proofs.Ytlikmphjocjmeaa

/-
  A region that draws its order, whose callees lay new memory and touch none of the old: walked once, in the order of the text, in every world that is as the first one was below a block.
-/
namespace Go.Proofs.Ytlikmphjocjmeaa
open Go.RowKit Go.Deep
set_option linter.unusedVariables false

/-- A world that is as w was below block B. -/
structure Lat (B : Nat) (w : World) where
  val : World
  bel : Below B w val

instance {B : Nat} {w : World} : Nonempty (Lat B w) := ⟨⟨w, Below.refl _ _⟩⟩

theorem Lat.cell {B : Nat} {w : World} {p : Addr} {v : Value} (h : w.cell? p = some v) (hp : p.block < B) : ∀ n : Lat B w, n.val.cell? p = some v := fun n => (n.bel.cell hp).trans h

theorem wp_region_lat {P : Program} {id : Nat} {Q : Exit → Act → World → Prop} {a : Act} {w w0 : World} {B : Nat} {l : List Oper} (hm : P.follows .mixedOrders = true) (hB : Region.lexB .any l.toArray = true) (hw : Below B w0 w)
    (h : wpQuiet P l.toArray (fun w' => ∃ n : Lat B w0, w' = n.val) (fun a' => ∀ w', (∃ n : Lat B w0, w' = n.val) → Q .normal a' w') l a) : (Code.region id l.toArray true).wp P Q a w :=
  wp_region_quiet (C := fun w' => ∃ n : Lat B w0, w' = n.val) hm hB ⟨⟨_, hw.drew⟩, rfl⟩ (by simpa using h)

/-- A callee that leaves all below a block as it was. -/
theorem Calls.lat_of {P : Program} {f : FuncId} {args : Array Value} {w0 : World} {B : Nat} {n : Lat B w0} {v : Value} {R : Ending → World → Prop}
    (h : Calls P f args n.val R) (hR : ∀ e w', R e w' → e = .returned v ∧ Below B n.val w') : Calls P f args n.val fun e w'' => e = .returned v ∧ ∃ m : Lat B w0, w'' = m.val :=
  h.mono fun e w' hr => ⟨(hR e w' hr).1, ⟨w', n.bel.trans (hR e w' hr).2⟩, rfl⟩
end Go.Proofs.Ytlikmphjocjmeaa

/-
  Places, lists of places and trees: when two are one; the value of a tree; plain facts.
-/
namespace Go.Proofs.Ytlikmphjocjmeaa
open Go.RowKit
set_option linter.unusedVariables false

theorem infoNode : (Try.prog.info? 36).map (fun i => (i.zero, i.size, i.bytes)) = some (some (.agg #[.int .i64 0, .string ByteArray.empty, .slice none 0 0, .slice none 0 0, .int .i64 0]), 5, 80) := by kernel_rfl

theorem same_kind {d e : Nd} (h : (d.kind != e.kind) = true) : false = d.same e := by
  have h' : (d.kind == e.kind) = false := by simpa using h
  unfold Nd.same; rw [h']; rfl
theorem same_text {d e : Nd} (h : (!d.text.toList == e.text.toList) = true) : false = d.same e := by
  have h' : (d.text.toList == e.text.toList) = false := by simpa using h
  unfold Nd.same; rw [h']; simp
theorem same_names {d e : Nd} (h : (decide (d.nn = e.nn) && eqS d.nn d.names e.names) = false) : false = d.same e := by
  unfold Nd.same; rw [h]; simp
theorem same_kids {d e : Nd} (h : (decide (d.kn = e.kn) && eqZ d.kn d.kids e.kids) = false) : false = d.same e := by
  unfold Nd.same; rw [h]; simp
theorem same_turn {d e : Nd} (h : (d.turn != e.turn) = true) : false = d.same e := by
  have h' : (d.turn == e.turn) = false := by simpa using h
  unfold Nd.same; rw [h']; simp
theorem same_yes {d e : Nd} (h1 : (d.kind != e.kind) = false) (h2 : (!d.text.toList == e.text.toList) = false) (h3 : (decide (d.nn = e.nn) && eqS d.nn d.names e.names) = true)
    (h4 : (decide (d.kn = e.kn) && eqZ d.kn d.kids e.kids) = true) (h5 : (d.turn != e.turn) = false) : true = d.same e := by
  have h1' : (d.kind == e.kind) = true := by simpa using h1
  have h2' : (d.text.toList == e.text.toList) = true := by simpa using h2
  have h5' : (d.turn == e.turn) = true := by simpa using h5
  unfold Nd.same; rw [h1', h2', h3, h4, h5']; rfl

/-- Two lists of places are one. -/
def sameAll (n : Nat) (D E : Nat → Nd) : Bool := (List.range n).all fun i => (D i).same (E i)

theorem sameAll_succ (k : Nat) (D E : Nat → Nd) (h : sameAll k D E = true) (hk : (D k).same (E k) = true) : sameAll (k + 1) D E = true := by
  unfold sameAll at *
  rw [List.range_succ, List.all_append, h]; simpa using hk

theorem sameAll_not (n k : Nat) (D E : Nat → Nd) (hk : k < n) (h : (D k).same (E k) = false) : false = sameAll n D E := by
  symm
  rw [Bool.eq_false_iff]
  intro ha
  have := List.all_eq_true.1 ha k (by simpa using hk)
  simp [this] at h

theorem sameAll_self (n : Nat) (D : Nat → Nd) : sameAll n D D = true := by
  unfold sameAll
  rw [List.all_eq_true]
  intro i hi
  exact Nd.same_self _

/-- The value of a tree. -/
def trV (a : Option Addr) (n c : Nat) (now : Int) : Value := .agg #[.slice a n c, .int .i64 now]

theorem rowIs_wide (w : World) (z : Array Value) (n : Nat) (t : TypeId) : ∃ g, (w.alloc (.cells (madeCells z n) t)).rowIs w.heap.size t n g :=
  ⟨fun i => (madeCells z n).getD i undef, _, Go.Deep.blk_alloc_new _ _, size_madeCells _ _, fun i hi => by
    have h : i < (madeCells z n).size := by rw [size_madeCells]; exact hi
    simp [Array.getElem?_eq_getElem h]⟩

theorem rowIs_below {w w' : World} {b n : Nat} {t : TypeId} {f : Nat → Value} (h : w.rowIs b t n f) {B : Nat} (hb : Below B w w') (hB : b < B) : w'.rowIs b t n f := h.of_block (hb.block b hB)
end Go.Proofs.Ytlikmphjocjmeaa

/-
  Lists of texts in a row of one's own: what an append to one leaves.
-/
namespace Go.Proofs.Ytlikmphjocjmeaa
open Go.RowKit
set_option linter.unusedVariables false

theorem new_block (w : World) (o : Obj) : (w.alloc o).heap[w.heap.size]? = some o := by
  show (w.heap.push o)[w.heap.size]? = some o
  simp

theorem grown_trans {a b c : World} {r : Option Nat} (h : a.grownBy b r) (k : b.grownBy c r) : a.grownBy c r :=
  ⟨k.os.trans h.os, k.tape.trans h.tape, k.output.trans h.output, Nat.le_trans h.size k.size, fun i hi hne => (k.block i (Nat.lt_of_lt_of_le hi h.size) hne).trans (h.block i hi hne)⟩

theorem grown_refl (a : World) (r : Option Nat) : a.grownBy a r := ⟨rfl, rfl, rfl, Nat.le_refl _, fun _ _ _ => rfl⟩

/-- A step that turns a row made since. -/
theorem grown_own {a b c : World} {r row : Option Nat} (h : a.grownBy b r) (k : b.grownBy c row) (hr : ∀ g, row = some g → a.heap.size ≤ g) : a.grownBy c r :=
  ⟨k.os.trans h.os, k.tape.trans h.tape, k.output.trans h.output, Nat.le_trans h.size k.size, fun i hi hne => (k.block i (Nat.lt_of_lt_of_le hi h.size) (fun e => by have := hr i e.symm; omega)).trans (h.block i hi hne)⟩

/-- A list of texts, as cells. -/
def strv (L : List ByteArray) : List Value := L.map Value.string
theorem strv_length (L : List ByteArray) : (strv L).length = L.length := by simp [strv]
theorem strv_append (L M : List ByteArray) : strv L ++ strv M = strv (L ++ M) := by simp [strv]
theorem strv_one (L : List ByteArray) : ∀ u ∈ strv L, u.oneCell' = true := by
  intro u hu
  simp only [strv, List.mem_map] at hu
  obtain ⟨s, _, rfl⟩ := hu
  rfl

theorem strv_cells (w : World) (L : List ByteArray) : ∀ j u, (strv L)[j]? = some u → (w.alloc (.cells (strv L).toArray 9)).cell? ((⟨w.heap.size, 0, none⟩ : Addr).add j) = some u := by
  intro j u h
  rw [show (⟨w.heap.size, 0, none⟩ : Addr).add j = ⟨w.heap.size, 0 + j, none⟩ by unfold Addr.add; split <;> simp_all]
  simp only [World.cell?, new_block]
  simpa using h

theorem new_strs (w : World) (L : List ByteArray) : ∀ i, i < L.length → (w.alloc (.cells (strv L).toArray 9)).cell? ⟨w.heap.size, 0 + i, none⟩ = some (.string (L.getD i ByteArray.empty)) := by
  intro i hi
  simp only [World.cell?, new_block]
  simp [strv, hi]

theorem getD_size {L : List ByteArray} {k : Nat} (h : (L.all fun s => decide (s.size ≤ k)) = true) (i : Nat) : (L.getD i ByteArray.empty).size ≤ k := by
  by_cases hi : i < L.length
  · have := List.all_eq_true.1 h (L[i]) (List.getElem_mem hi)
    simp [hi]; simpa using this
  · simp [hi]

/-- The names of drawn trees. -/
def nmL : List ByteArray := [⟨#[97]⟩, ⟨#[98]⟩, ⟨#[99]⟩, ⟨#[101, 116, 99]⟩, ⟨#[104, 111, 109, 101]⟩, ⟨#[122, 122]⟩]
def Nm (s : ByteArray) : Prop := s ∈ nmL
theorem Nm.size {s : ByteArray} (h : Nm s) : s.size ≤ 4 := by
  have : (nmL.all fun s => decide (s.size ≤ 4)) = true := rfl
  simpa using List.all_eq_true.1 this s h

theorem grown_alloc (w : World) (o : Obj) (r : Option Nat) : w.grownBy (w.alloc o) r := World.grownBy_alloc w o r

theorem infoStr : (Try.prog.info? 9).map (fun i => (i.zero, i.size, i.bytes)) = some (some (.string ByteArray.empty), 1, 16) := by kernel_rfl

/-- A slice value that owns a list of texts. -/
def OwnsStrs (w : World) (B : Nat) (v : Value) (L : List ByteArray) : Prop := w.ownsRow B 9 1 v L.length (strv L) ∧ v ≠ .slice none 0 0

theorem OwnsStrs.block {w : World} {B : Nat} {v : Value} {L : List ByteArray} (h : OwnsStrs w B v L) : ∀ g, v.ownBlock = some g → B ≤ g := by
  intro g hg
  rcases h.1.2 with ⟨rfl, _⟩ | ⟨g', cap, cur, rfl, hb, _⟩
  · simp [Value.ownBlock] at hg
  · simp [Value.ownBlock] at hg; omega

theorem OwnsStrs.grown {w w' : World} {B r : Nat} {v : Value} {L : List ByteArray} (h : OwnsStrs w B v L) (hg : w.grownBy w' (some r)) (hr : r < B) : OwnsStrs w' B v L :=
  ⟨World.ownsRow.kept h.1 hg (by
    cases hv : v.ownBlock with
    | none => exact Or.inl rfl
    | some g => exact Or.inr (fun e => by have := h.block g hv; simp at e; omega)), h.2⟩

/-- An empty row of its own. -/
theorem owns_empty (w : World) : OwnsStrs (w.alloc (.cells #[] 9)) w.heap.size (.slice (some ⟨w.heap.size, 0, none⟩) 0 0) [] :=
  ⟨⟨rfl, Or.inr ⟨w.heap.size, 0, #[], rfl, Nat.le_refl _, new_block _ _, Nat.le_refl _, by unfold maxLen; omega, rfl, rfl⟩⟩, by simp⟩

theorem OwnsStrs.alloc {w : World} {B : Nat} {v : Value} {L : List ByteArray} (h : OwnsStrs w B v L) (o : Obj) : OwnsStrs (w.alloc o) B v L := ⟨World.ownsRow.alloc h.1 o, h.2⟩

theorem all_snoc4 {L : List ByteArray} {k : Nat} (h : (L.all fun s => decide (s.size ≤ k)) = true) {s : ByteArray} (hs : s.size ≤ k) : ((L ++ [s]).all fun s => decide (s.size ≤ k)) = true := by
  rw [List.all_append, h]; simp [hs]

theorem all_weaken {L : List ByteArray} {k m : Nat} (h : (L.all fun s => decide (s.size ≤ k)) = true) (hkm : k ≤ m) : (L.all fun s => decide (s.size ≤ m)) = true := by
  rw [List.all_eq_true] at *
  intro s hs
  have := h s hs
  simp at this ⊢
  omega

theorem all_app {L M : List ByteArray} {k : Nat} (h : (L.all fun s => decide (s.size ≤ k)) = true) (h2 : (M.all fun s => decide (s.size ≤ k)) = true) : ((L ++ M).all fun s => decide (s.size ≤ k)) = true := by
  rw [List.all_append, h, h2]; rfl

theorem OwnsStrs.hands {w' : World} {B : Nat} {v : Value} {L : List ByteArray} (h : OwnsStrs w' B v L) : ∃ g cap, v = .slice (some ⟨g, 0, none⟩) L.length cap ∧ B ≤ g ∧ g < w'.heap.size ∧ (∀ i, i < L.length → w'.cell? ⟨g, 0 + i, none⟩ = some (.string (L.getD i ByteArray.empty))) ∧ L.length ≤ cap ∧ cap ≤ maxLen := by
  obtain ⟨⟨h1, h2⟩, hne⟩ := h
  rcases h2 with ⟨rfl, h0⟩ | ⟨g, cap, cur, rfl, hb, hblk, hn, hm, hsz, htake⟩
  · exact absurd rfl hne
  · have hglt : g < w'.heap.size := (Array.getElem?_eq_some_iff.1 hblk).1
    refine ⟨g, cap, rfl, hb, hglt, fun i hi => ?_, hn, hm⟩
    have hi2 : (strv L)[i]? = some (.string (L.getD i ByteArray.empty)) := by simp [strv, hi]
    rw [← htake, Nat.mul_one, List.getElem?_take_of_lt hi] at hi2
    simp only [World.cell?, hblk]
    simpa using hi2

theorem list_size {L : List ByteArray} {k : Nat} (h : (L.all fun s => decide (s.size ≤ k)) = true) : ∀ i, ((fun i => L.getD i ByteArray.empty) i).size ≤ k := fun i => getD_size h i

/-- What an append to a row of one's own leaves: nothing below it turns. -/
theorem own_append {w0 w w2 : World} {B : Nat} {v v' : Value} {L M : List ByteArray} {k : Nat} (hB : Below B w0 w) (hBw : B ≤ w.heap.size) (hO : OwnsStrs w B v L) (hk : L.length + M.length = k)
    (hown : w2.ownsRow B 9 1 v' k (strv L ++ strv M)) (hgrow : w.grownBy w2 v.ownBlock) (hnil : ¬ v' = .slice none 0 0) :
    OwnsStrs w2 B v' (L ++ M) ∧ Below B w0 w2 ∧ B ≤ w2.heap.size := by
  refine ⟨⟨?_, hnil⟩, hB.grown hgrow hBw hO.block, Nat.le_trans hBw hgrow.size⟩
  rw [List.length_append, hk, ← strv_append]
  exact hown


/-- An append to a row of one's own where a guard has let it by. -/
theorem wpList_append_ownW {P : Program} (w : World) {ops : Array Oper} {rest : List Oper} {o : Oper} {a : Act} {Q : Exit → Act → World → Prop} (hw : Region.wanted o (yielded ops a.tmps) = true) (s x : Operand) (t : TypeId)
    (ho : o.op = .call { callee := .builtin .append, args := #[s, x], argTypes := #[t, t] })
    (base : Nat) (e : TypeId) (i : TypeInfo) (z : Value) (size bytes : Nat) (ht : P.underlying t = some (.slice e)) (hi : P.info? e = some i) (hz : i.zero = some z)
    (hsize : i.size = size) (hby : i.bytes = bytes) (hzs : z.cells.size = size) (hsz : 0 < size)
    (v : Value) (n : Nat) (xs : List Value) (hs : a.eval s = v) (hown : w.ownsRow base e size v n xs)
    (ad : Addr) (m c : Nat) (news : List Value) (hx : a.eval x = .slice (some ad) m c) (hl : news.length = m * size) (hnews : ∀ j u, news[j]? = some u → w.cell? (ad.add j) = some u) (h1 : ∀ u ∈ news, u.oneCell' = true)
    (h63 : n + m ≤ maxLen) (hbytes : (n + m) * bytes ≤ 140737488355328) (hbase : base ≤ w.heap.size)
    (h : ∀ v' w', w'.ownsRow base e size v' (n + m) (xs ++ news) → w.grownBy w' v.ownBlock → (v' = .slice none 0 0 ↔ v = .slice none 0 0 ∧ m = 0) → wpList P ops Q rest (a.put o.dst v') w') : wpList P ops Q (o :: rest) a w :=
  wpList_step fun K hK => by
    rw [if_pos hw]
    exact wp_append_own w s x t ho base e i z size bytes ht hi hz hsize hby hzs hsz v n xs hs hown ad m c news hx hl hnews h1 h63 hbytes hbase fun v' w' h2 h3 h4 => hK _ _ (h v' w' h2 h3 h4)
end Go.Proofs.Ytlikmphjocjmeaa

/-
  A tree that a draw has made, as it lies in memory: its places in a row of their own, their lists elsewhere; what writing into the row leaves. Plain facts.
-/
namespace Go.Proofs.Ytlikmphjocjmeaa
open Go.RowKit Go.Deep
set_option linter.unusedVariables false

/-- An address, if it is one, is of a block that was there, not below B and not g. -/
def Off (W : World) (B g : Nat) (a : Option Addr) : Prop := ∀ b o x, a = some ⟨b, o, x⟩ → B ≤ b ∧ b ≠ g ∧ b < W.heap.size

/-- n places lie in block g, which is one's own from B on, with room for cap of them; their lists lie in other blocks. -/
structure OwnT (W : World) (B g cap n : Nat) (D : Nat → Nd) (L : Nat → Loc) : Prop where
  blk : ∃ cur : Array Value, W.heap[g]? = some (.cells cur 36 (0, 0)) ∧ cur.size = cap * 5
  base : B ≤ g
  room : n ≤ cap
  most : cap ≤ maxLen
  cells : ∀ i, i < n → W.cell? ⟨g, i * 5, none⟩ = some (.int .i64 (D i).kind) ∧ W.cell? ⟨g, i * 5 + 1, none⟩ = some (.string (D i).text) ∧
    W.cell? ⟨g, i * 5 + 2, none⟩ = some (.slice (L i).nA (D i).nn (L i).nc) ∧ W.cell? ⟨g, i * 5 + 3, none⟩ = some (.slice (L i).kA (D i).kn (L i).kc) ∧ W.cell? ⟨g, i * 5 + 4, none⟩ = some (.int .i64 (D i).turn)
  lists : ∀ i, i < n → NdIn W (D i) (L i) ∧ Off W B g (L i).nA ∧ Off W B g (L i).kA

section
variable {W W' : World} {B g cap n : Nat} {D D' : Nat → Nd} {L L' : Nat → Loc}

theorem OwnT.lt (h : OwnT W B g cap n D L) : g < W.heap.size := by
  obtain ⟨cur, hb, _⟩ := h.blk
  exact (Array.getElem?_eq_some_iff.1 hb).1

theorem OwnT.frozen (h : OwnT W B g cap n D L) (k : Nat) : W.frozen? ⟨g, k, none⟩ = false := by
  obtain ⟨cur, hb, _⟩ := h.blk
  simp [World.frozen?, hb]

theorem OwnT.nds (h : OwnT W B g cap n D L) : IsNds W (some ⟨g, 0, none⟩) n D L :=
  Or.inr ⟨g, 0, rfl, h.lt, fun i hi => by
    obtain ⟨h0, h1, h2, h3, h4⟩ := h.cells i hi
    rw [Nat.zero_add]
    exact ⟨h0, h1, h2, h3, h4, (h.lists i hi).1⟩⟩

theorem Off.grow {a : Option Addr} (h : Off W B g a) (hs : W.heap.size ≤ W'.heap.size) : Off W' B g a := fun b o x e => by
  obtain ⟨h1, h2, h3⟩ := h b o x e
  exact ⟨h1, h2, by omega⟩

theorem IsStrs.of_blocks {a : Option Addr} {k : Nat} {S : Nat → ByteArray} (h : IsStrs W a k S) (hs : W.heap.size ≤ W'.heap.size) (hb : ∀ b o x, a = some ⟨b, o, x⟩ → W'.heap[b]? = W.heap[b]?) : IsStrs W' a k S := by
  rcases h with h | ⟨b, off, rfl, hlt, hc⟩
  · exact Or.inl h
  · exact Or.inr ⟨b, off, rfl, by omega, fun i hi => by rw [← hc i hi]; exact World.cell?_of_block (hb b off none rfl)⟩

theorem IsInts.of_blocks {a : Option Addr} {k : Nat} {Z : Nat → Int} (h : IsInts W a k Z) (hs : W.heap.size ≤ W'.heap.size) (hb : ∀ b o x, a = some ⟨b, o, x⟩ → W'.heap[b]? = W.heap[b]?) : IsInts W' a k Z := by
  rcases h with h | ⟨b, off, rfl, hlt, hc⟩
  · exact Or.inl h
  · exact Or.inr ⟨b, off, rfl, by omega, fun i hi => by rw [← hc i hi]; exact World.cell?_of_block (hb b off none rfl)⟩

/-- What turns nothing but a block below B leaves it. -/
theorem OwnT.grown {r : Nat} (h : OwnT W B g cap n D L) (hg : W.grownBy W' (some r)) (hr : r < B) : OwnT W' B g cap n D L := by
  have hb : ∀ b, B ≤ b → b < W.heap.size → W'.heap[b]? = W.heap[b]? := fun b h1 h2 => hg.block b h2 (by simp; omega)
  have hgb := hb g h.base h.lt
  have hc : ∀ k, W'.cell? ⟨g, k, none⟩ = W.cell? ⟨g, k, none⟩ := fun k => World.cell?_of_block hgb
  refine ⟨?_, h.base, h.room, h.most, fun i hi => ?_, fun i hi => ?_⟩
  · rw [hgb]; exact h.blk
  · rw [hc, hc, hc, hc, hc]; exact h.cells i hi
  · obtain ⟨⟨h1, h2⟩, h3, h4⟩ := h.lists i hi
    exact ⟨⟨h1.of_blocks hg.size (fun b o x e => hb b (h3 b o x e).1 (h3 b o x e).2.2), h2.of_blocks hg.size (fun b o x e => hb b (h4 b o x e).1 (h4 b o x e).2.2)⟩, h3.grow hg.size, h4.grow hg.size⟩

theorem OwnT.below (h : OwnT W B g cap n D L) (hb : Below W.heap.size W W') : OwnT W' B g cap n D L := by
  have hgb : W'.heap[g]? = W.heap[g]? := hb.block g h.lt
  have hc : ∀ k, W'.cell? ⟨g, k, none⟩ = W.cell? ⟨g, k, none⟩ := fun k => World.cell?_of_block hgb
  refine ⟨?_, h.base, h.room, h.most, fun i hi => ?_, fun i hi => ?_⟩
  · rw [hgb]; exact h.blk
  · rw [hc, hc, hc, hc, hc]; exact h.cells i hi
  · obtain ⟨h1, h3, h4⟩ := h.lists i hi
    exact ⟨h1.below (Nat.le_refl _) hb, h3.grow hb.size, h4.grow hb.size⟩

/-- A cell of the row is written. -/
theorem OwnT.set (h : OwnT W B g cap n D L) {k : Nat} {v : Value}
    (hc : ∀ i, i < n → (if i * 5 = k then some v else W.cell? ⟨g, i * 5, none⟩) = some (.int .i64 (D' i).kind) ∧ (if i * 5 + 1 = k then some v else W.cell? ⟨g, i * 5 + 1, none⟩) = some (.string (D' i).text) ∧
      (if i * 5 + 2 = k then some v else W.cell? ⟨g, i * 5 + 2, none⟩) = some (.slice (L' i).nA (D' i).nn (L' i).nc) ∧ (if i * 5 + 3 = k then some v else W.cell? ⟨g, i * 5 + 3, none⟩) = some (.slice (L' i).kA (D' i).kn (L' i).kc) ∧ (if i * 5 + 4 = k then some v else W.cell? ⟨g, i * 5 + 4, none⟩) = some (.int .i64 (D' i).turn))
    (hl : ∀ i, i < n → NdIn W (D' i) (L' i) ∧ Off W B g (L' i).nA ∧ Off W B g (L' i).kA) : OwnT (W.setCell ⟨g, k, none⟩ v) B g cap n D' L' := by
  obtain ⟨cur, hb, hcs⟩ := h.blk
  have hs : (W.setCell ⟨g, k, none⟩ v).heap.size = W.heap.size := by simp [World.setCell]
  have hcell : ∀ j, j < cap * 5 → (W.setCell ⟨g, k, none⟩ v).cell? ⟨g, j, none⟩ = if j = k then some v else W.cell? ⟨g, j, none⟩ := fun j hj => by
    have hset : (W.setCell ⟨g, k, none⟩ v).heap[g]? = some (.cells (cur.setIfInBounds k v) 36 (0, 0)) := by simp [World.setCell, Array.getElem?_modify, hb]
    simp only [World.cell?, hset, hb]
    by_cases e : j = k
    · subst e; simp [hcs, hj]
    · simp [e, Ne.symm e]
  have hoth : ∀ b, b ≠ g → (W.setCell ⟨g, k, none⟩ v).heap[b]? = W.heap[b]? := fun b hbg => blk_setCell_other _ _ _ _ hbg
  have hroom := h.room
  refine ⟨⟨cur.setIfInBounds k v, by simp [World.setCell, Array.getElem?_modify, hb], by simp [hcs]⟩, h.base, h.room, h.most, fun i hi => ?_, fun i hi => ?_⟩
  · rw [hcell _ (by omega), hcell _ (by omega), hcell _ (by omega), hcell _ (by omega), hcell _ (by omega)]
    exact hc i hi
  · obtain ⟨⟨h1, h2⟩, h3, h4⟩ := hl i hi
    exact ⟨⟨h1.of_blocks (by omega) (fun b o x e => hoth b (h3 b o x e).2.1), h2.of_blocks (by omega) (fun b o x e => hoth b (h4 b o x e).2.1)⟩, h3.grow (by omega), h4.grow (by omega)⟩
end
end Go.Proofs.Ytlikmphjocjmeaa

/-
  What l2With does: a directory with a name more, in new memory.
-/
namespace Go.Proofs.Ytlikmphjocjmeaa
open Go.RowKit Go.Deep
set_option linter.unusedVariables false

/-- Numbers, as cells. -/
def intv (L : List Int) : List Value := L.map (Value.int .i64)
theorem intv_length (L : List Int) : (intv L).length = L.length := by simp [intv]
theorem intv_append (L M : List Int) : intv L ++ intv M = intv (L ++ M) := by simp [intv]
theorem intv_one (L : List Int) : ∀ u ∈ intv L, u.oneCell' = true := by
  intro u hu
  simp only [intv, List.mem_map] at hu
  obtain ⟨s, _, rfl⟩ := hu
  rfl

/-- The cells of a place. -/
def ndA (d : Nd) (l : Loc) : Array Value := #[.int .i64 d.kind, .string d.text, .slice l.nA d.nn l.nc, .slice l.kA d.kn l.kc, .int .i64 d.turn]
/-- The cells of a directory that is being made. -/
def outA (kind turn : Int) (vN vK : Value) : Array Value := #[.int .i64 kind, .string ByteArray.empty, vN, vK, .int .i64 turn]

/-- What is known within l2With. -/
structure WI (w : World) (d : Nd) (l : Loc) (NL : List ByteArray) (KL : List Int) (vN vK : Value) (W : World) : Prop where
  p : Blk W w.heap.size (ndA d l) 36
  r : Blk W (w.heap.size + 1) (outA 0 0 (.slice none 0 0) (.slice none 0 0)) 36
  o : Blk W (w.heap.size + 2) (outA d.kind d.turn vN vK) 36
  names : W.ownsRow (w.heap.size + 3) 9 1 vN NL.length (strv NL)
  kids : W.ownsRow (w.heap.size + 3) 3 1 vK KL.length (intv KL)
  apart : ∀ b, vN.ownBlock = some b → vK.ownBlock ≠ some b
  bel : Below w.heap.size w W
  size : w.heap.size + 3 ≤ W.heap.size

section
variable {w : World} {d : Nd} {l : Loc} {NL : List ByteArray} {KL : List Int} {vN vK : Value} {W W' : World}

theorem own_ge {B e n : Nat} {v : Value} {xs : List Value} (h : W.ownsRow B e 1 v n xs) : ∀ b, v.ownBlock = some b → B ≤ b ∧ b < W.heap.size := fun b hb => h.lt b hb

theorem WI.grow (h : WI w d l NL KL vN vK W) (hg : W.grownBy W' none) : WI w d l NL KL vN vK W' := by
  have hb : ∀ b, b < W.heap.size → W'.heap[b]? = W.heap[b]? := fun b hb => hg.block b hb (by simp)
  have hs := h.size
  exact ⟨h.p.of_block (hb _ (by omega)), h.r.of_block (hb _ (by omega)), h.o.of_block (hb _ (by omega)), h.names.kept hg (by cases hx : vN.ownBlock <;> simp), h.kids.kept hg (by cases hx : vK.ownBlock <;> simp), h.apart, h.bel.grown hg (by omega) (fun g hg => by cases hg), Nat.le_trans hs hg.size⟩

theorem WI.alloc (h : WI w d l NL KL vN vK W) (o : Obj) : WI w d l NL KL vN vK (W.alloc o) := h.grow (World.grownBy_alloc W o none)
theorem grown_drew (W : World) (q : Nat) : W.grownBy (W.drewN q) none := ⟨rfl, rfl, rfl, Nat.le_refl _, fun _ _ _ => rfl⟩
theorem WI.drew (h : WI w d l NL KL vN vK W) (q : Nat) : WI w d l NL KL vN vK (W.drewN q) := h.grow (grown_drew W q)

/-- A name more. -/
theorem WI.nameApp (h : WI w d l NL KL vN vK W) {s : ByteArray} {g cap : Nat} (hown : W'.ownsRow (w.heap.size + 3) 9 1 (.slice (some ⟨g, 0, none⟩) (NL.length + 1) cap) (NL.length + 1) (strv NL ++ strv [s])) (hgrow : W.grownBy W' vN.ownBlock) (hat : vN.ownBlock = some g ∨ g = W.heap.size) :
    WI w d l (NL ++ [s]) KL (.slice (some ⟨g, 0, none⟩) (NL.length + 1) cap) vK (W'.setCell ⟨w.heap.size + 2, 2, none⟩ (.slice (some ⟨g, 0, none⟩) (NL.length + 1) cap)) := by
  have hs := h.size
  have hb : ∀ b, b < w.heap.size + 3 → W'.heap[b]? = W.heap[b]? := fun b hb => hgrow.block b (by omega) (fun e => by have := own_ge h.names b e.symm; omega)
  have hkb : W'.ownsRow (w.heap.size + 3) 3 1 vK KL.length (intv KL) := h.kids.kept hgrow (by
    cases hv : vK.ownBlock with
    | none => exact Or.inl rfl
    | some b => exact Or.inr (fun e => h.apart b e.symm hv))
  have put : ∀ {e n v xs}, W'.ownsRow (w.heap.size + 3) e 1 v n xs → (W'.setCell ⟨w.heap.size + 2, 2, none⟩ (.slice (some ⟨g, 0, none⟩) (NL.length + 1) cap)).ownsRow (w.heap.size + 3) e 1 v n xs := fun hr => ⟨hr.1, by
    rcases hr.2 with h2 | ⟨g', cap', cur, hv, hb', hblk, rest⟩
    · exact Or.inl h2
    · exact Or.inr ⟨g', cap', cur, hv, hb', (blk_setCell_other _ _ _ _ (by show g' ≠ w.heap.size + 2; omega)).trans hblk, rest⟩⟩
  refine ⟨(h.p.of_block (hb _ (by omega))).off _ (by omega), (h.r.of_block (hb _ (by omega))).off _ (by omega), ?_, ?_, put hkb, ?_, bel_put (h.bel.grown hgrow (by omega) (fun b e => by have := own_ge h.names b e; omega)) _ (by omega), by have := hgrow.size; simp [World.setCell]; omega⟩
  · exact (h.o.of_block (hb _ (by omega))).set 2 _
  · rw [List.length_append, ← strv_append]; exact put hown
  · intro b e
    have : g = b := by simpa [Value.ownBlock] using e
    subst this
    rcases hat with hat | hat
    · exact h.apart _ hat
    · intro e2
      have := own_ge h.kids _ e2
      omega

/-- A place more. -/
theorem WI.kidApp (h : WI w d l NL KL vN vK W) {z : Int} {g cap : Nat} (hown : W'.ownsRow (w.heap.size + 3) 3 1 (.slice (some ⟨g, 0, none⟩) (KL.length + 1) cap) (KL.length + 1) (intv KL ++ intv [z])) (hgrow : W.grownBy W' vK.ownBlock) (hat : vK.ownBlock = some g ∨ g = W.heap.size) :
    WI w d l NL (KL ++ [z]) vN (.slice (some ⟨g, 0, none⟩) (KL.length + 1) cap) (W'.setCell ⟨w.heap.size + 2, 3, none⟩ (.slice (some ⟨g, 0, none⟩) (KL.length + 1) cap)) := by
  have hs := h.size
  have hb : ∀ b, b < w.heap.size + 3 → W'.heap[b]? = W.heap[b]? := fun b hb => hgrow.block b (by omega) (fun e => by have := own_ge h.kids b e.symm; omega)
  have hkb : W'.ownsRow (w.heap.size + 3) 9 1 vN NL.length (strv NL) := h.names.kept hgrow (by
    cases hv : vN.ownBlock with
    | none => exact Or.inl rfl
    | some b => exact Or.inr (fun e => h.apart b hv e.symm))
  have put : ∀ {e n v xs}, W'.ownsRow (w.heap.size + 3) e 1 v n xs → (W'.setCell ⟨w.heap.size + 2, 3, none⟩ (.slice (some ⟨g, 0, none⟩) (KL.length + 1) cap)).ownsRow (w.heap.size + 3) e 1 v n xs := fun hr => ⟨hr.1, by
    rcases hr.2 with h2 | ⟨g', cap', cur, hv, hb', hblk, rest⟩
    · exact Or.inl h2
    · exact Or.inr ⟨g', cap', cur, hv, hb', (blk_setCell_other _ _ _ _ (by show g' ≠ w.heap.size + 2; omega)).trans hblk, rest⟩⟩
  refine ⟨(h.p.of_block (hb _ (by omega))).off _ (by omega), (h.r.of_block (hb _ (by omega))).off _ (by omega), ?_, put hkb, ?_, ?_, bel_put (h.bel.grown hgrow (by omega) (fun b e => by have := own_ge h.kids b e; omega)) _ (by omega), by have := hgrow.size; simp [World.setCell]; omega⟩
  · exact (h.o.of_block (hb _ (by omega))).set 3 _
  · rw [List.length_append, ← intv_append]; exact put hown
  · intro b e e2
    have : g = b := by simpa [Value.ownBlock] using e2
    subst this
    rcases hat with hat | hat
    · exact h.apart _ e hat
    · have := own_ge h.names _ e
      omega
end

theorem strv_at (w : World) (s : ByteArray) : ∀ j u, (strv [s])[j]? = some u → (w.alloc (.cells #[.string s] 9)).cell? ((⟨w.heap.size, 0, none⟩ : Addr).add j) = some u := strv_cells w [s]
theorem intv_at (w : World) (z : Int) : ∀ j u, (intv [z])[j]? = some u → (w.alloc (.cells #[.int .i64 z] 3)).cell? ((⟨w.heap.size, 0, none⟩ : Addr).add j) = some u := fun j u h =>
  World.news_of_block (cs := #[.int .i64 z]) (t := 3) (fr := (0, 0)) (heap_alloc_new w _) j u (by simpa [intv] using h)
end Go.Proofs.Ytlikmphjocjmeaa

/-
  A list of Kids with room of its own. Plain facts.
-/
namespace Go.Proofs.Ytlikmphjocjmeaa
open Go.RowKit Go.Deep
set_option linter.unusedVariables false

/-- A list of Kids is nil, or lies in a block of its own. -/
def RoomK (W : World) (a : Option Addr) (n c : Nat) : Prop :=
  (a = none ∧ n = 0 ∧ c = 0) ∨ ∃ b cur, a = some ⟨b, 0, none⟩ ∧ W.heap[b]? = some (.cells cur 3 (0, 0)) ∧ cur.size = c ∧ n ≤ c ∧ c ≤ maxLen

/-- Two lists lie in different blocks. -/
def Apart (a a' : Option Addr) : Prop := ∀ b o x b' o' x', a = some ⟨b, o, x⟩ → a' = some ⟨b', o', x'⟩ → b ≠ b'

theorem Apart.symm {a a' : Option Addr} (h : Apart a a') : Apart a' a := fun b o x b' o' x' e e' hb => h b' o' x' b o x e' e hb.symm
theorem apart_none (a : Option Addr) : Apart none a := fun b o x b' o' x' e => by cases e
theorem apart_none' (a : Option Addr) : Apart a none := (apart_none a).symm

section
variable {W W' : World}

theorem RoomK.of_blocks {a : Option Addr} {n c : Nat} (h : RoomK W a n c) (hb : ∀ b o x, a = some ⟨b, o, x⟩ → W'.heap[b]? = W.heap[b]?) : RoomK W' a n c := by
  rcases h with h | ⟨b, cur, h1, h2, h3⟩
  · exact Or.inl h
  · exact Or.inr ⟨b, cur, h1, (hb b 0 none h1).trans h2, h3⟩

/-- As one's own, from any block below it. -/
theorem RoomK.owns {a : Option Addr} {n c B : Nat} {Z : Nat → Int} (h : RoomK W a n c) (hZ : IsInts W a n Z) (hB : ∀ b o x, a = some ⟨b, o, x⟩ → B ≤ b) : W.ownsRow B 3 1 (.slice a n c) n (intv ((List.range n).map Z)) := by
  rcases h with ⟨rfl, rfl, rfl⟩ | ⟨b, cur, rfl, h2, h3, h4, h5⟩
  · exact World.ownsRow_nil _ _ _ _
  · refine ⟨by simp [intv], Or.inr ⟨b, c, cur, rfl, hB _ _ _ rfl, h2, h4, h5, by omega, ?_⟩⟩
    apply List.ext_getElem?
    intro i
    by_cases hi : i < n
    · rw [Nat.mul_one, List.getElem?_take_of_lt hi]
      rcases hZ with h0 | ⟨b', o', e, hl, hc⟩
      · omega
      · cases e
        have := hc i hi
        rw [Nat.zero_add] at this
        simp [World.cell?, h2] at this
        simp [intv, hi, this]
    · rw [List.getElem?_eq_none (by simp; omega), List.getElem?_eq_none (by simp [intv]; omega)]

/-- .. and back. -/
theorem room_owns {B n : Nat} {v : Value} {xs : List Value} {a : Option Addr} {c : Nat} (h : W.ownsRow B 3 1 v n xs) (e : v = .slice a n c) : RoomK W a n c := by
  rcases h.2 with ⟨h0, h1⟩ | ⟨g, cap, cur, h0, hb, hblk, hn, hm, hsz, htake⟩
  · rw [e] at h0; cases h0; exact Or.inl ⟨rfl, rfl, rfl⟩
  · rw [e] at h0; cases h0; exact Or.inr ⟨g, cur, rfl, hblk, by omega, hn, hm⟩
end
end Go.Proofs.Ytlikmphjocjmeaa

/-
  A statement whose order is drawn and whose callees hand back new addresses: what follows it is walked once, for all of its orders.
-/
namespace Go.Proofs.Ytlikmphjocjmeaa
open Go.RowKit

theorem wp_cut1 {X : Type} (F : X → World → Prop) {P : Program} {c : Code} {K : Act → World → Prop} {Q : Exit → Act → World → Prop} {a : Act} {w : World} (A : X → Act)
    (leaf : (∀ x W, F x W → K (A x) W) → c.wp P (Exit.then K Q) a w) (k : ∀ x W, F x W → K (A x) W) : c.wp P (Exit.then K Q) a w := leaf k

theorem wp_cut2 {X Y : Type} (F : X → Y → World → Prop) {P : Program} {c : Code} {K : Act → World → Prop} {Q : Exit → Act → World → Prop} {a : Act} {w : World} (A : X → Y → Act)
    (leaf : (∀ x y W, F x y W → K (A x y) W) → c.wp P (Exit.then K Q) a w) (k : ∀ x y W, F x y W → K (A x y) W) : c.wp P (Exit.then K Q) a w := leaf k

theorem wp_cut3 {X Y Z : Type} (F : X → Y → Z → World → Prop) {P : Program} {c : Code} {K : Act → World → Prop} {Q : Exit → Act → World → Prop} {a : Act} {w : World} (A : X → Y → Z → Act)
    (leaf : (∀ x y z W, F x y z W → K (A x y z) W) → c.wp P (Exit.then K Q) a w) (k : ∀ x y z W, F x y z W → K (A x y z) W) : c.wp P (Exit.then K Q) a w := leaf k

/-- A statement is walked at a world of which no more is said than this. -/
theorem wp_world {P : Program} {c : Code} {Q : Exit → Act → World → Prop} {a : Act} {F : World → Prop} {w : World} (h : F w) (g : ∀ W, F W → c.wp P Q a W) : c.wp P Q a w := g w h

/-- .. whatever follows it. -/
theorem wp_cutq1 {X : Type} (F : X → World → Prop) {P : Program} {c : Code} {Q : Exit → Act → World → Prop} {a : Act} {w : World} (A : X → Act)
    (leaf : (∀ x W, F x W → Q .normal (A x) W) → c.wp P Q a w) (k : ∀ x W, F x W → Q .normal (A x) W) : c.wp P Q a w := leaf k

theorem wp_cutq2 {X Y : Type} (F : X → Y → World → Prop) {P : Program} {c : Code} {Q : Exit → Act → World → Prop} {a : Act} {w : World} (A : X → Y → Act)
    (leaf : (∀ x y W, F x y W → Q .normal (A x y) W) → c.wp P Q a w) (k : ∀ x y W, F x y W → Q .normal (A x y) W) : c.wp P Q a w := leaf k
end Go.Proofs.Ytlikmphjocjmeaa

/-
  What l2With answers: a directory with a name more, in new memory.
-/
namespace Go.Proofs.Ytlikmphjocjmeaa
open Go.RowKit Go.Deep
set_option linter.unusedVariables false

/-- So far: the names are short, the places are right. -/
structure WL (Q : Int → Prop) (k : Nat) (b : Bool) (NL : List ByteArray) (KL : List Int) : Prop where
  len : NL.length = k + (if b = true then 1 else 0)
  same : KL.length = NL.length
  short : ∀ s ∈ NL, Nm s
  right : ∀ z ∈ KL, Q z

theorem WL.one {Q : Int → Prop} {k : Nat} {b : Bool} {NL : List ByteArray} {KL : List Int} (h : WL Q k b NL KL) {s : ByteArray} {z : Int} (hs : Nm s) (hz : Q z) : WL Q (k + 1) b (NL ++ [s]) (KL ++ [z]) :=
  ⟨by rw [List.length_append, h.len]; simp; omega, by rw [List.length_append, List.length_append, h.same]; rfl, fun x hx => by
    rcases List.mem_append.1 hx with hx | hx
    · exact h.short x hx
    · simp at hx; subst hx; exact hs, fun x hx => by
    rcases List.mem_append.1 hx with hx | hx
    · exact h.right x hx
    · simp at hx; subst hx; exact hz⟩

theorem WL.ins {Q : Int → Prop} {k : Nat} {NL : List ByteArray} {KL : List Int} (h : WL Q k false NL KL) {s : ByteArray} {z : Int} (hs : Nm s) (hz : Q z) : WL Q k true (NL ++ [s]) (KL ++ [z]) :=
  ⟨by rw [List.length_append, h.len]; simp, by rw [List.length_append, List.length_append, h.same]; rfl, (h.one hs hz).short, (h.one hs hz).right⟩

/-- The directory that comes of it. -/
def withNd (d : Nd) (NL : List ByteArray) (KL : List Int) : Nd := ⟨d.kind, ByteArray.empty, NL.length, fun i => NL.getD i ByteArray.empty, KL.length, fun i => KL.getD i 0, d.turn⟩

/-- A new address. -/
def New (w w' : World) (a : Option Addr) : Prop := ∀ b o x, a = some ⟨b, o, x⟩ → w.heap.size ≤ b ∧ b < w'.heap.size

/-- It lies in new memory. -/
structure Made (w : World) (d : Nd) (NL : List ByteArray) (KL : List Int) (l' : Loc) (w' : World) : Prop where
  bel : Below w.heap.size w w'
  lies : NdIn w' (withNd d NL KL) l'
  nA : New w w' l'.nA
  kA : New w w' l'.kA
  room : RoomK w' l'.kA KL.length l'.kc
  apart : Apart l'.kA l'.nA

theorem owns_strs {W : World} {B : Nat} {v : Value} {L : List ByteArray} (h : W.ownsRow B 9 1 v L.length (strv L)) : ∃ a c, v = .slice a L.length c ∧ IsStrs W a L.length (fun i => L.getD i ByteArray.empty) ∧ ∀ b o x, a = some ⟨b, o, x⟩ → B ≤ b ∧ b < W.heap.size := by
  rcases h.2 with ⟨rfl, h0⟩ | ⟨g, cap, cur, rfl, hb, hblk, hn, hm, hsz, htake⟩
  · exact ⟨none, 0, by rw [h0], Or.inl h0, fun b o x e => by cases e⟩
  · have hglt : g < W.heap.size := (Array.getElem?_eq_some_iff.1 hblk).1
    refine ⟨some ⟨g, 0, none⟩, cap, rfl, Or.inr ⟨g, 0, rfl, hglt, fun i hi => ?_⟩, fun b o x e => by cases e; exact ⟨hb, hglt⟩⟩
    have hi2 : (strv L)[i]? = some (.string (L.getD i ByteArray.empty)) := by simp [strv, hi]
    rw [← htake, Nat.mul_one, List.getElem?_take_of_lt hi] at hi2
    simp only [World.cell?, hblk]
    simpa using hi2

theorem owns_ints {W : World} {B : Nat} {v : Value} {L : List Int} (h : W.ownsRow B 3 1 v L.length (intv L)) : ∃ a c, v = .slice a L.length c ∧ IsInts W a L.length (fun i => L.getD i 0) ∧ ∀ b o x, a = some ⟨b, o, x⟩ → B ≤ b ∧ b < W.heap.size := by
  rcases h.2 with ⟨rfl, h0⟩ | ⟨g, cap, cur, rfl, hb, hblk, hn, hm, hsz, htake⟩
  · exact ⟨none, 0, by rw [h0], Or.inl h0, fun b o x e => by cases e⟩
  · have hglt : g < W.heap.size := (Array.getElem?_eq_some_iff.1 hblk).1
    refine ⟨some ⟨g, 0, none⟩, cap, rfl, Or.inr ⟨g, 0, rfl, hglt, fun i hi => ?_⟩, fun b o x e => by cases e; exact ⟨hb, hglt⟩⟩
    have hi2 : (intv L)[i]? = some (.int .i64 (L.getD i 0)) := by simp [intv, hi]
    rw [← htake, Nat.mul_one, List.getElem?_take_of_lt hi] at hi2
    simp only [World.cell?, hblk]
    simpa using hi2

/-- What is known at l2With's end, behind the store into its answer. -/
structure WEnd (w : World) (d : Nd) (NL : List ByteArray) (KL : List Int) (l' : Loc) (W : World) : Prop where
  r : Blk W (w.heap.size + 1) (outA d.kind d.turn (.slice l'.nA NL.length l'.nc) (.slice l'.kA KL.length l'.kc)) 36
  made : Made w d NL KL l' W

theorem WI.fin {w : World} {d : Nd} {l : Loc} {NL : List ByteArray} {KL : List Int} {vN vK : Value} {W : World} (h : WI w d l NL KL vN vK W) :
    ∃ l' : Loc, vN = .slice l'.nA NL.length l'.nc ∧ vK = .slice l'.kA KL.length l'.kc ∧
      WEnd w d NL KL l' (((((W.setCell ⟨w.heap.size + 1, 0, none⟩ (.int .i64 d.kind)).setCell ⟨w.heap.size + 1, 1, none⟩ (.string ByteArray.empty)).setCell ⟨w.heap.size + 1, 2, none⟩ (.slice l'.nA NL.length l'.nc)).setCell ⟨w.heap.size + 1, 3, none⟩ (.slice l'.kA KL.length l'.kc)).setCell ⟨w.heap.size + 1, 4, none⟩ (.int .i64 d.turn)) := by
  obtain ⟨a1, c1, e1, h1, f1⟩ := owns_strs h.names
  obtain ⟨a2, c2, e2, h2, f2⟩ := owns_ints h.kids
  refine ⟨⟨a1, c1, a2, c2⟩, e1, e2, ⟨?_, ?_⟩⟩
  · exact ((((h.r.set 0 _).set 1 _).set 2 _).set 3 _).set 4 _
  · have hsz : ∀ (X : World) (i : Nat) (v : Value), (X.setCell ⟨w.heap.size + 1, i, none⟩ v).heap.size = X.heap.size := fun X i v => by simp [World.setCell]
    have hoth : ∀ (X : World) (i : Nat) (v : Value) (b : Nat), w.heap.size + 3 ≤ b → (X.setCell ⟨w.heap.size + 1, i, none⟩ v).heap[b]? = X.heap[b]? := fun X i v b hb => blk_setCell_other _ _ _ _ (by show b ≠ w.heap.size + 1; omega)
    refine ⟨bel_put (bel_put (bel_put (bel_put (bel_put h.bel _ (by omega)) _ (by omega)) _ (by omega)) _ (by omega)) _ (by omega), ⟨?_, ?_⟩, ?_, ?_, ?_, ?_⟩
    · exact h1.of_blocks (by simp only [hsz]; exact Nat.le_refl _) (fun b o x e => by have := (f1 b o x e).1; simp only [hoth _ _ _ b this])
    · exact h2.of_blocks (by simp only [hsz]; exact Nat.le_refl _) (fun b o x e => by have := (f2 b o x e).1; simp only [hoth _ _ _ b this])
    · intro b o x e; have := f1 b o x e; simp only [hsz]; omega
    · intro b o x e; have := f2 b o x e; simp only [hsz]; omega
    · exact (room_owns h.kids e2).of_blocks (fun b o x e => by have := (f2 b o x e).1; simp only [hoth _ _ _ b this])
    · intro b o x b' o' x' e e' hbb
      dsimp only at e e'
      subst e e' hbb e1 e2
      exact h.apart b rfl rfl

set_option maxHeartbeats 4000000 in
theorem l2With_any (Q : Int → Prop) (d : Nd) (l : Loc) (name : ByteArray) (kid : Int) (w : World) (hI : NdIn w d l) (hk : d.kn = d.nn) (hn : d.nn ≤ 1000) (hs : ∀ i, i < d.nn → Nm (d.names i)) (hs' : Nm name) (hq : ∀ i, i < d.nn → Q (d.kids i)) (hq' : Q kid) :
    Calls Try.prog 33 #[ndV d l, .string name, .int .i64 kid] w fun e w' => ∃ NL KL l', e = .returned (ndV (withNd d NL KL) l') ∧ Made w d NL KL l' w' ∧ WL Q d.nn true NL KL := by
  obtain ⟨i0, hi, hz0, hz1, hz2⟩ := info_parts infoStr
  obtain ⟨j0, hj, hy0, hy1, hy2⟩ := info_parts infoInt
  have HK : Hid (d.kn = d.nn) := hk
  clear hk
  unfold ndV
  go_enter Try.func33, Try.ntmps33
  go_wp2
  go_loopw [8, 9] (fun dn i wr => ∃ (k : Nat) (b : Bool) (NL : List ByteArray) (KL : List Int) (vN vK : Value), k ≤ d.nn ∧ i = .int .i64 k ∧ dn = .bool b ∧ WI w d l NL KL vN vK wr ∧ WL Q k b NL KL) (fun _ i _ => d.nn - (intOf i).toNat)
  case atStart =>
    have h3 := new3 w (ndA d l) 36 (outA 0 0 (.slice none 0 0) (.slice none 0 0)) 36 (outA d.kind d.turn (.slice none 0 0) (.slice none 0 0)) 36
    exact ⟨0, false, [], [], .slice none 0 0, .slice none 0 0, Nat.zero_le _, rfl, rfl, ⟨h3.b0, h3.b1, h3.b2, World.ownsRow_nil _ _ _ _, World.ownsRow_nil _ _ _ _, fun b e => by simp [Value.ownBlock] at e, h3.bel, by simp⟩, ⟨rfl, rfl, fun s hs => by simp at hs, fun s hs => by simp at hs⟩⟩
  case round =>
    obtain ⟨k, b, NL, KL, vN, vK, hkn, rfl, rfl, hin, hwl⟩ := hrel
    have hIr := hI.below (Nat.le_refl _) hin.bel
    have hsz := hin.size
    have hl0 : w.heap.size < wr.heap.size := by omega
    have hl2 : w.heap.size + 1 + 1 < wr.heap.size := by omega
    have p2 : wr.cell? ⟨w.heap.size, 2, none⟩ = some (.slice l.nA d.nn l.nc) := hin.p.cell 2
    have p3 : wr.cell? ⟨w.heap.size, 3, none⟩ = some (.slice l.kA d.kn l.kc) := hin.p.cell 3
    have o2 : wr.cell? ⟨w.heap.size + 1 + 1, 2, none⟩ = some vN := hin.o.cell 2
    have o3 : wr.cell? ⟨w.heap.size + 1 + 1, 3, none⟩ = some vK := hin.o.cell 3
    have of2 := hin.o.frozen 2
    have of3 := hin.o.frozen 3
    have hlen : NL.length ≤ 1002 := by have := hwl.len; split at this <;> omega
    have hsame : KL.length ≤ 1002 := by have := hwl.same; omega
    by_cases hlt : k < d.nn
    · obtain ⟨b1, off1, ha1, hlt1, hc1⟩ := hIr.1.at hlt
      obtain ⟨b2, off2, ha2, hlt2, hc2⟩ := hIr.2.at (show k < d.kn by have := HK.out; omega)
      have n0 := hc1 k hlt
      have k0 := hc2 k (by have := HK.out; omega)
      have hki : (k : Int) < (d.nn : Int) := by omega
      have hkk : (k : Int) < (d.kn : Int) := by have := HK.out; omega
      rw [ha1] at p2
      rw [ha2] at p3
      rw [ha1, ha2]
      cases b with
      | true =>
        have HX : Hid (WI w d l NL KL vN vK wr ∧ WL Q k true NL KL) := ⟨hin, hwl⟩
        clear hc1 hc2 hIr hin hwl
        go_wp2_with fail
        clear p2 p3 o2 o3 of2 of3 n0 k0 hl0 hl2 hsz hlen hsame
        obtain ⟨hXi, hXl⟩ := HX.out
        have hlenX : NL.length ≤ 1003 := by have := hXl.len; split at this <;> omega
        have hlenK : KL.length ≤ 1003 := by have := hXl.same; omega
        have hszX := hXi.size
        have hm0 : w.heap.size < wr.heap.size := by omega
        have hm2 : w.heap.size + 1 + 1 < wr.heap.size := by omega
        obtain ⟨b3, off3, ha3, hlt3, hc3⟩ := (hI.below (Nat.le_refl _) hXi.bel).1.at hlt
        rw [ha1] at ha3
        cases ha3
        have n1 := hc3 k hlt
        have P2 : wr.cell? ⟨w.heap.size, 2, none⟩ = some (.slice (some ⟨b1, off1, none⟩) d.nn l.nc) := by rw [← ha1]; exact hXi.p.cell 2
        have O2 : wr.cell? ⟨w.heap.size + 1 + 1, 2, none⟩ = some vN := hXi.o.cell 2
        have OF2 := hXi.o.frozen 2
        have hX := hXi.drew 1
        have hob := own_ge hX.names
        clear hXi hXl hc3
        apply wp_cut2 (X := Nat) (Y := Nat) (fun g cap W => WI w d l (NL ++ [d.names k]) KL (.slice (some ⟨g, 0, none⟩) (NL.length + 1) cap) vK W)
        · intro key
          have KEY : Hid _ := key
          clear key
          go_region_law (
            refine step_append_lies _ (by rfl) _ _ _ (by rfl) (w.heap.size + 3) 9 i0 (.string ByteArray.empty) 1 16 Try.underlying33 hi hz0 hz1 hz2 rfl (by decide) vN NL.length (strv NL) (by rfl) (hX.alloc _).names ⟨wr.heap.size, 0, none⟩ 1 1 (strv [d.names k]) (by rfl) (by rfl) (strv_at (wr.drewN 1) _) (strv_one _) (by decide) (by unfold maxLen; omega) (by omega) (by simp; omega) (wr.heap.size + 1) (by simp) ?_
            intro g cap w1 hown hgrow hat hlt
            have hq2 := (hX.alloc (.cells #[.string (d.names k)] 9)).o.of_block (hgrow.block _ (by simp; omega) (fun e => by have := hob _ e.symm; omega))
            have q2 : w1.cell? ⟨w.heap.size + 1 + 1, 2, none⟩ = some vN := hq2.cell 2
            have q2f := hq2.frozen 2)
          all_goals exact KEY.out g cap _ ((hX.alloc _).nameApp hown hgrow (by simpa using hat))
        · intro g cap W hF
          clear hX hob P2 O2 OF2 n1 hm0 hm2 hszX
          have hszX := hF.size
          have hm0 : w.heap.size < W.heap.size := by omega
          have hm2 : w.heap.size + 1 + 1 < W.heap.size := by omega
          obtain ⟨b3, off3, ha3, hlt3, hc3⟩ := (hI.below (Nat.le_refl _) hF.bel).2.at (show k < d.kn by have := HK.out; omega)
          rw [ha2] at ha3
          cases ha3
          have k1 := hc3 k (by have := HK.out; omega)
          have P3 : W.cell? ⟨w.heap.size, 3, none⟩ = some (.slice (some ⟨b2, off2, none⟩) d.kn l.kc) := by rw [← ha2]; exact hF.p.cell 3
          have O3 : W.cell? ⟨w.heap.size + 1 + 1, 3, none⟩ = some vK := hF.o.cell 3
          have OF3 := hF.o.frozen 3
          have hX := hF.drew 1
          have hob := own_ge hX.kids
          clear hF hc3
          go_wp2_with fail
          apply wp_cutq2 (X := Nat) (Y := Nat) (fun g' cap' W' => WI w d l (NL ++ [d.names k]) (KL ++ [d.kids k]) (.slice (some ⟨g, 0, none⟩) (NL.length + 1) cap) (.slice (some ⟨g', 0, none⟩) (KL.length + 1) cap') W')
          · intro key
            have KEY : Hid _ := key
            clear key
            go_region_law (
              refine step_append_lies _ (by rfl) _ _ _ (by rfl) (w.heap.size + 3) 3 j0 (.int .i64 0) 1 8 Try.underlying34 hj hy0 hy1 hy2 rfl (by decide) vK KL.length (intv KL) (by rfl) (hX.alloc _).kids ⟨W.heap.size, 0, none⟩ 1 1 (intv [d.kids k]) (by rfl) (by rfl) (intv_at (W.drewN 1) _) (intv_one _) (by decide) (by unfold maxLen; omega) (by omega) (by simp; omega) (W.heap.size + 1) (by simp) ?_
              intro g' cap' w1 hown hgrow hat hlt
              have hq3 := (hX.alloc (.cells #[.int .i64 (d.kids k)] 3)).o.of_block (hgrow.block _ (by simp; omega) (fun e => by have := hob _ e.symm; omega))
              have q3 : w1.cell? ⟨w.heap.size + 1 + 1, 3, none⟩ = some vK := hq3.cell 3
              have q3f := hq3.frozen 3)
            all_goals exact KEY.out g' cap' _ ((hX.alloc _).kidApp hown hgrow (by simpa using hat))
          · intro g' cap' W2 hF2
            have HF2 : Hid _ := hF2
            clear hF2 hX hob P3 O3 OF3 k1
            simp only [Exit.inBlock, Exit.then]
            go_wp2
            go_roundw
            case rel => exact ⟨k + 1, true, _, _, _, _, by omega, by go_num, rfl, HF2.out, HX.out.2.one (hs k hlt) (hq k hlt)⟩
            case measure => simp [intOf]; omega
      | false =>
        cases hgt : (Op.bytesLess (d.names k).toList name.toList || (d.names k).toList == name.toList) with
        | true =>
          have HX : Hid (WI w d l NL KL vN vK wr ∧ WL Q k false NL KL) := ⟨hin, hwl⟩
          clear hc1 hc2 hIr hin hwl
          go_wp2_with fail
          clear p2 p3 o2 o3 of2 of3 n0 k0 hl0 hl2 hsz hlen hsame hgt
          obtain ⟨hXi, hXl⟩ := HX.out
          have hlenX : NL.length ≤ 1003 := by have := hXl.len; split at this <;> omega
          have hlenK : KL.length ≤ 1003 := by have := hXl.same; omega
          have hszX := hXi.size
          have hm0 : w.heap.size < wr.heap.size := by omega
          have hm2 : w.heap.size + 1 + 1 < wr.heap.size := by omega
          obtain ⟨b3, off3, ha3, hlt3, hc3⟩ := (hI.below (Nat.le_refl _) hXi.bel).1.at hlt
          rw [ha1] at ha3
          cases ha3
          have n1 := hc3 k hlt
          have P2 : wr.cell? ⟨w.heap.size, 2, none⟩ = some (.slice (some ⟨b1, off1, none⟩) d.nn l.nc) := by rw [← ha1]; exact hXi.p.cell 2
          have O2 : wr.cell? ⟨w.heap.size + 1 + 1, 2, none⟩ = some vN := hXi.o.cell 2
          have OF2 := hXi.o.frozen 2
          have hX := hXi.drew 1
          have hob := own_ge hX.names
          clear hXi hXl hc3
          apply wp_cut2 (X := Nat) (Y := Nat) (fun g cap W => WI w d l (NL ++ [d.names k]) KL (.slice (some ⟨g, 0, none⟩) (NL.length + 1) cap) vK W)
          · intro key
            have KEY : Hid _ := key
            clear key
            go_region_law (
              refine step_append_lies _ (by rfl) _ _ _ (by rfl) (w.heap.size + 3) 9 i0 (.string ByteArray.empty) 1 16 Try.underlying33 hi hz0 hz1 hz2 rfl (by decide) vN NL.length (strv NL) (by rfl) (hX.alloc _).names ⟨wr.heap.size, 0, none⟩ 1 1 (strv [d.names k]) (by rfl) (by rfl) (strv_at (wr.drewN 1) _) (strv_one _) (by decide) (by unfold maxLen; omega) (by omega) (by simp; omega) (wr.heap.size + 1) (by simp) ?_
              intro g cap w1 hown hgrow hat hlt
              have hq2 := (hX.alloc (.cells #[.string (d.names k)] 9)).o.of_block (hgrow.block _ (by simp; omega) (fun e => by have := hob _ e.symm; omega))
              have q2 : w1.cell? ⟨w.heap.size + 1 + 1, 2, none⟩ = some vN := hq2.cell 2
              have q2f := hq2.frozen 2)
            all_goals exact KEY.out g cap _ ((hX.alloc _).nameApp hown hgrow (by simpa using hat))
          · intro g cap W hF
            clear hX hob P2 O2 OF2 n1 hm0 hm2 hszX
            have hszX := hF.size
            have hm0 : w.heap.size < W.heap.size := by omega
            have hm2 : w.heap.size + 1 + 1 < W.heap.size := by omega
            obtain ⟨b3, off3, ha3, hlt3, hc3⟩ := (hI.below (Nat.le_refl _) hF.bel).2.at (show k < d.kn by have := HK.out; omega)
            rw [ha2] at ha3
            cases ha3
            have k1 := hc3 k (by have := HK.out; omega)
            have P3 : W.cell? ⟨w.heap.size, 3, none⟩ = some (.slice (some ⟨b2, off2, none⟩) d.kn l.kc) := by rw [← ha2]; exact hF.p.cell 3
            have O3 : W.cell? ⟨w.heap.size + 1 + 1, 3, none⟩ = some vK := hF.o.cell 3
            have OF3 := hF.o.frozen 3
            have hX := hF.drew 1
            have hob := own_ge hX.kids
            clear hF hc3
            go_wp2_with fail
            apply wp_cutq2 (X := Nat) (Y := Nat) (fun g' cap' W' => WI w d l (NL ++ [d.names k]) (KL ++ [d.kids k]) (.slice (some ⟨g, 0, none⟩) (NL.length + 1) cap) (.slice (some ⟨g', 0, none⟩) (KL.length + 1) cap') W')
            · intro key
              have KEY : Hid _ := key
              clear key
              go_region_law (
                refine step_append_lies _ (by rfl) _ _ _ (by rfl) (w.heap.size + 3) 3 j0 (.int .i64 0) 1 8 Try.underlying34 hj hy0 hy1 hy2 rfl (by decide) vK KL.length (intv KL) (by rfl) (hX.alloc _).kids ⟨W.heap.size, 0, none⟩ 1 1 (intv [d.kids k]) (by rfl) (by rfl) (intv_at (W.drewN 1) _) (intv_one _) (by decide) (by unfold maxLen; omega) (by omega) (by simp; omega) (W.heap.size + 1) (by simp) ?_
                intro g' cap' w1 hown hgrow hat hlt
                have hq3 := (hX.alloc (.cells #[.int .i64 (d.kids k)] 3)).o.of_block (hgrow.block _ (by simp; omega) (fun e => by have := hob _ e.symm; omega))
                have q3 : w1.cell? ⟨w.heap.size + 1 + 1, 3, none⟩ = some vK := hq3.cell 3
                have q3f := hq3.frozen 3)
              all_goals exact KEY.out g' cap' _ ((hX.alloc _).kidApp hown hgrow (by simpa using hat))
            · intro g' cap' W2 hF2
              have HF2 : Hid _ := hF2
              clear hF2 hX hob P3 O3 OF3 k1
              simp only [Exit.inBlock, Exit.then]
              go_wp2
              go_roundw
              case rel => exact ⟨k + 1, false, _, _, _, _, by omega, by go_num, rfl, HF2.out, HX.out.2.one (hs k hlt) (hq k hlt)⟩
              case measure => simp [intOf]; omega
        | false =>
          have HL := hwl.ins hs' hq'
          clear hc1 hc2 hIr
          have hob := own_ge hin.names
          have hobk := own_ge hin.kids
          go_wp2_with (at_builtin; refine wpList_append_lies _ rfl _ _ 33 rfl (w.heap.size + 3) 9 i0 (.string ByteArray.empty) 1 16 Try.underlying33 hi hz0 hz1 hz2 rfl (by decide) vN NL.length (strv NL) rfl (hin.alloc _).names ⟨wr.heap.size, 0, none⟩ 1 1 (strv [name]) rfl rfl (strv_at wr name) (strv_one _) (by decide) (by unfold maxLen; omega) (by omega) (by simp; omega) (wr.heap.size + 1) (by simp) ?_)
          intro gn cn w1 hown hgrow hat hltg
          have hq2 := (hin.alloc (.cells #[.string name] 9)).o.of_block (hgrow.block _ (by simp; omega) (fun e => by have := hob _ e.symm; omega))
          have q2 : w1.cell? ⟨w.heap.size + 1 + 1, 2, none⟩ = some vN := hq2.cell 2
          have q3 : w1.cell? ⟨w.heap.size + 1 + 1, 3, none⟩ = some vK := hq2.cell 3
          have q2f := hq2.frozen 2
          have q3f := hq2.frozen 3
          have hin1 : WI w d l (NL ++ [name]) KL (.slice (some ⟨gn, 0, none⟩) (NL.length + 1) cn) vK (w1.setCell ⟨w.heap.size + 1 + 1, 2, none⟩ (.slice (some ⟨gn, 0, none⟩) (NL.length + 1) cn)) := (hin.alloc _).nameApp hown hgrow (by simpa using hat)
          have hs1 : w.heap.size + 3 ≤ w1.heap.size := by have := hin1.size; simpa [World.setCell] using this
          have hm1 : w.heap.size + 1 + 1 < w1.heap.size := by omega
          have hob1 := own_ge hin1.kids
          clear hown hgrow hat hltg hq2 hob hobk
          go_wp2_with (at_builtin; refine wpList_append_lies _ rfl _ _ 34 rfl (w.heap.size + 3) 3 j0 (.int .i64 0) 1 8 Try.underlying34 hj hy0 hy1 hy2 rfl (by decide) vK KL.length (intv KL) rfl (hin1.alloc _).kids ⟨w1.heap.size, 0, none⟩ 1 1 (intv [kid]) rfl rfl ?c1 (intv_one _) (by decide) (by unfold maxLen; omega) (by omega) (by simp [World.setCell]; omega) (w1.heap.size + 1) (by simp [World.setCell]) ?_)
          case c1 =>
            have := intv_at (w1.setCell ⟨w.heap.size + 1 + 1, 2, none⟩ (.slice (some ⟨gn, 0, none⟩) (NL.length + 1) cn)) kid
            rwa [show (w1.setCell ⟨w.heap.size + 1 + 1, 2, none⟩ (.slice (some ⟨gn, 0, none⟩) (NL.length + 1) cn)).heap.size = w1.heap.size by simp [World.setCell]] at this
          intro gk ck w3 hown hgrow hat hltg
          have hq3 := (hin1.alloc (.cells #[.int .i64 kid] 3)).o.of_block (hgrow.block _ (by simp [World.setCell]; omega) (fun e => by have := hob1 _ e.symm; omega))
          have r3 : w3.cell? ⟨w.heap.size + 1 + 1, 3, none⟩ = some vK := hq3.cell 3
          have r3f := hq3.frozen 3
          have hin2 : WI w d l (NL ++ [name]) (KL ++ [kid]) (.slice (some ⟨gn, 0, none⟩) (NL.length + 1) cn) (.slice (some ⟨gk, 0, none⟩) (KL.length + 1) ck) (w3.setCell ⟨w.heap.size + 1 + 1, 3, none⟩ (.slice (some ⟨gk, 0, none⟩) (KL.length + 1) ck)) := (hin1.alloc _).kidApp hown hgrow (by simpa [World.setCell] using hat)
          clear hown hgrow hat hltg hq3 hob1 hin1 q2 q3 q2f q3f hs1 hm1
          clear hin hwl o2 o3 of2 of3
          obtain ⟨NL2, hNL2⟩ : ∃ x, x = NL ++ [name] := ⟨_, rfl⟩
          obtain ⟨KL2, hKL2⟩ : ∃ x, x = KL ++ [kid] := ⟨_, rfl⟩
          rw [← hNL2, ← hKL2] at hin2 HL
          clear hNL2 hKL2
          have HX0 : Hid (WL Q k true NL2 KL2) := HL
          clear HL
          go_wp2_with fail
          generalize (Value.slice (some ⟨gn, 0, none⟩) (NL.length + 1) cn) = vN2 at *
          obtain ⟨W6, hW6⟩ : ∃ X, X = w3.setCell ⟨w.heap.size + 1 + 1, 3, none⟩ (.slice (some ⟨gk, 0, none⟩) (KL.length + 1) ck) := ⟨_, rfl⟩
          rw [← hW6] at hin2 ⊢
          clear hW6 r3 r3f
          generalize (Value.slice (some ⟨gk, 0, none⟩) (KL.length + 1) ck) = vK2 at *
          have HX : Hid (WI w d l NL2 KL2 vN2 vK2 W6 ∧ WL Q k true NL2 KL2) := ⟨hin2, HX0.out⟩
          clear hin2 HX0 p2 p3 n0 k0 hl0 hl2 hsz hlen hsame hgt
          obtain ⟨hXi, hXl⟩ := HX.out
          have hlenX : NL2.length ≤ 1003 := by have := hXl.len; split at this <;> omega
          have hlenK : KL2.length ≤ 1003 := by have := hXl.same; omega
          have hszX := hXi.size
          have hm0 : w.heap.size < W6.heap.size := by omega
          have hm2 : w.heap.size + 1 + 1 < W6.heap.size := by omega
          obtain ⟨b3, off3, ha3, hlt3, hc3⟩ := (hI.below (Nat.le_refl _) hXi.bel).1.at hlt
          rw [ha1] at ha3
          cases ha3
          have n1 := hc3 k hlt
          have P2 : W6.cell? ⟨w.heap.size, 2, none⟩ = some (.slice (some ⟨b1, off1, none⟩) d.nn l.nc) := by rw [← ha1]; exact hXi.p.cell 2
          have O2 : W6.cell? ⟨w.heap.size + 1 + 1, 2, none⟩ = some vN2 := hXi.o.cell 2
          have OF2 := hXi.o.frozen 2
          have hX := hXi.drew 1
          have hob := own_ge hX.names
          clear hXi hXl hc3
          apply wp_cut2 (X := Nat) (Y := Nat) (fun g cap W => WI w d l (NL2 ++ [d.names k]) KL2 (.slice (some ⟨g, 0, none⟩) (NL2.length + 1) cap) vK2 W)
          · intro key
            have KEY : Hid _ := key
            clear key
            go_region_law (
              refine step_append_lies _ (by rfl) _ _ _ (by rfl) (w.heap.size + 3) 9 i0 (.string ByteArray.empty) 1 16 Try.underlying33 hi hz0 hz1 hz2 rfl (by decide) vN2 NL2.length (strv NL2) (by rfl) (hX.alloc _).names ⟨W6.heap.size, 0, none⟩ 1 1 (strv [d.names k]) (by rfl) (by rfl) (strv_at (W6.drewN 1) _) (strv_one _) (by decide) (by unfold maxLen; omega) (by omega) (by simp; omega) (W6.heap.size + 1) (by simp) ?_
              intro g cap w1 hown hgrow hat hlt
              have hq2 := (hX.alloc (.cells #[.string (d.names k)] 9)).o.of_block (hgrow.block _ (by simp; omega) (fun e => by have := hob _ e.symm; omega))
              have q2 : w1.cell? ⟨w.heap.size + 1 + 1, 2, none⟩ = some vN2 := hq2.cell 2
              have q2f := hq2.frozen 2)
            all_goals exact KEY.out g cap _ ((hX.alloc _).nameApp hown hgrow (by simpa using hat))
          · intro g cap W hF
            clear hX hob P2 O2 OF2 n1 hm0 hm2 hszX
            have hszX := hF.size
            have hm0 : w.heap.size < W.heap.size := by omega
            have hm2 : w.heap.size + 1 + 1 < W.heap.size := by omega
            obtain ⟨b3, off3, ha3, hlt3, hc3⟩ := (hI.below (Nat.le_refl _) hF.bel).2.at (show k < d.kn by have := HK.out; omega)
            rw [ha2] at ha3
            cases ha3
            have k1 := hc3 k (by have := HK.out; omega)
            have P3 : W.cell? ⟨w.heap.size, 3, none⟩ = some (.slice (some ⟨b2, off2, none⟩) d.kn l.kc) := by rw [← ha2]; exact hF.p.cell 3
            have O3 : W.cell? ⟨w.heap.size + 1 + 1, 3, none⟩ = some vK2 := hF.o.cell 3
            have OF3 := hF.o.frozen 3
            have hX := hF.drew 1
            have hob := own_ge hX.kids
            clear hF hc3
            go_wp2_with fail
            apply wp_cutq2 (X := Nat) (Y := Nat) (fun g' cap' W' => WI w d l (NL2 ++ [d.names k]) (KL2 ++ [d.kids k]) (.slice (some ⟨g, 0, none⟩) (NL2.length + 1) cap) (.slice (some ⟨g', 0, none⟩) (KL2.length + 1) cap') W')
            · intro key
              have KEY : Hid _ := key
              clear key
              go_region_law (
                refine step_append_lies _ (by rfl) _ _ _ (by rfl) (w.heap.size + 3) 3 j0 (.int .i64 0) 1 8 Try.underlying34 hj hy0 hy1 hy2 rfl (by decide) vK2 KL2.length (intv KL2) (by rfl) (hX.alloc _).kids ⟨W.heap.size, 0, none⟩ 1 1 (intv [d.kids k]) (by rfl) (by rfl) (intv_at (W.drewN 1) _) (intv_one _) (by decide) (by unfold maxLen; omega) (by omega) (by simp; omega) (W.heap.size + 1) (by simp) ?_
                intro g' cap' w1 hown hgrow hat hlt
                have hq3 := (hX.alloc (.cells #[.int .i64 (d.kids k)] 3)).o.of_block (hgrow.block _ (by simp; omega) (fun e => by have := hob _ e.symm; omega))
                have q3 : w1.cell? ⟨w.heap.size + 1 + 1, 3, none⟩ = some vK2 := hq3.cell 3
                have q3f := hq3.frozen 3)
              all_goals exact KEY.out g' cap' _ ((hX.alloc _).kidApp hown hgrow (by simpa using hat))
            · intro g' cap' W2 hF2
              have HF2 : Hid _ := hF2
              clear hF2 hX hob P3 O3 OF3 k1
              simp only [Exit.inBlock, Exit.then]
              go_wp2
              go_roundw
              case rel => exact ⟨k + 1, true, _, _, _, _, by omega, by go_num, rfl, HF2.out, HX.out.2.one (hs k hlt) (hq k hlt)⟩
              case measure => simp [intOf]; omega
    · have hke : k = d.nn := by omega
      have hwl' : WL Q d.nn b NL KL := hke ▸ hwl
      clear hwl hke hIr
      cases b with
      | true =>
        have HX : Hid (WI w d l NL KL vN vK wr ∧ WL Q d.nn true NL KL) := ⟨hin, hwl'⟩
        clear hin hwl' p3 o2 o3 of2 of3 hsame
        obtain ⟨l', rfl, rfl, hend⟩ := HX.out.1.fin
        have HE : Hid _ := hend
        have c0 := HX.out.1.o.cell 0
        have c1 := HX.out.1.o.cell 1
        have c2 := HX.out.1.o.cell 2
        have c3 := HX.out.1.o.cell 3
        have c4 := HX.out.1.o.cell 4
        have g0 := HX.out.1.r.cell 0
        have g1 := HX.out.1.r.cell 1
        have g2 := HX.out.1.r.cell 2
        have g3 := HX.out.1.r.cell 3
        have g4 := HX.out.1.r.cell 4
        have f0 := HX.out.1.r.frozen 0
        have f1 := HX.out.1.r.frozen 1
        have f2 := HX.out.1.r.frozen 2
        have f3 := HX.out.1.r.frozen 3
        have f4 := HX.out.1.r.frozen 4
        simp only [outA] at c0 c1 c2 c3 c4 g0 g1 g2 g3 g4
        have HXL : Hid (WL Q d.nn true NL KL) := HX.out.2
        clear hend HX
        go_wp2
        refine end_world (F := WEnd w d NL KL l') HE.out ?_
        clear HE c0 c1 c2 c3 c4 g0 g1 g2 g3 g4 f0 f1 f2 f3 f4
        rintro WF ⟨hr, hm⟩
        have r0 := hr.cell 0
        have r1 := hr.cell 1
        have r2 := hr.cell 2
        have r3 := hr.cell 3
        have r4 := hr.cell 4
        simp only [outA] at r0 r1 r2 r3 r4
        exact bodyPost_ret (v := .agg (outA d.kind d.turn (.slice l'.nA (NL).length l'.nc) (.slice l'.kA (KL).length l'.kc))) (by simp [results, Try.results33, go_sem, r0, r1, r2, r3, r4, outA]) rfl ⟨NL, KL, l', rfl, hm, HXL.out⟩
      | false =>
        have HL := hwl'.ins hs' hq'
        have hob := own_ge hin.names
        have hobk := own_ge hin.kids
        go_wp2_with (at_builtin; refine wpList_append_lies _ rfl _ _ 33 rfl (w.heap.size + 3) 9 i0 (.string ByteArray.empty) 1 16 Try.underlying33 hi hz0 hz1 hz2 rfl (by decide) vN NL.length (strv NL) rfl (hin.alloc _).names ⟨wr.heap.size, 0, none⟩ 1 1 (strv [name]) rfl rfl (strv_at wr name) (strv_one _) (by decide) (by unfold maxLen; omega) (by omega) (by simp; omega) (wr.heap.size + 1) (by simp) ?_)
        intro gn cn w1 hown hgrow hat hltg
        have hq2 := (hin.alloc (.cells #[.string name] 9)).o.of_block (hgrow.block _ (by simp; omega) (fun e => by have := hob _ e.symm; omega))
        have q2 : w1.cell? ⟨w.heap.size + 1 + 1, 2, none⟩ = some vN := hq2.cell 2
        have q3 : w1.cell? ⟨w.heap.size + 1 + 1, 3, none⟩ = some vK := hq2.cell 3
        have q2f := hq2.frozen 2
        have q3f := hq2.frozen 3
        have hin1 : WI w d l (NL ++ [name]) KL (.slice (some ⟨gn, 0, none⟩) (NL.length + 1) cn) vK (w1.setCell ⟨w.heap.size + 1 + 1, 2, none⟩ (.slice (some ⟨gn, 0, none⟩) (NL.length + 1) cn)) := (hin.alloc _).nameApp hown hgrow (by simpa using hat)
        have hs1 : w.heap.size + 3 ≤ w1.heap.size := by have := hin1.size; simpa [World.setCell] using this
        have hm1 : w.heap.size + 1 + 1 < w1.heap.size := by omega
        have hob1 := own_ge hin1.kids
        clear hown hgrow hat hltg hq2 hob hobk
        go_wp2_with (at_builtin; refine wpList_append_lies _ rfl _ _ 34 rfl (w.heap.size + 3) 3 j0 (.int .i64 0) 1 8 Try.underlying34 hj hy0 hy1 hy2 rfl (by decide) vK KL.length (intv KL) rfl (hin1.alloc _).kids ⟨w1.heap.size, 0, none⟩ 1 1 (intv [kid]) rfl rfl ?c1 (intv_one _) (by decide) (by unfold maxLen; omega) (by omega) (by simp [World.setCell]; omega) (w1.heap.size + 1) (by simp [World.setCell]) ?_)
        case c1 =>
          have := intv_at (w1.setCell ⟨w.heap.size + 1 + 1, 2, none⟩ (.slice (some ⟨gn, 0, none⟩) (NL.length + 1) cn)) kid
          rwa [show (w1.setCell ⟨w.heap.size + 1 + 1, 2, none⟩ (.slice (some ⟨gn, 0, none⟩) (NL.length + 1) cn)).heap.size = w1.heap.size by simp [World.setCell]] at this
        intro gk ck w3 hown hgrow hat hltg
        have hq3 := (hin1.alloc (.cells #[.int .i64 kid] 3)).o.of_block (hgrow.block _ (by simp [World.setCell]; omega) (fun e => by have := hob1 _ e.symm; omega))
        have r3 : w3.cell? ⟨w.heap.size + 1 + 1, 3, none⟩ = some vK := hq3.cell 3
        have r3f := hq3.frozen 3
        have hin2 : WI w d l (NL ++ [name]) (KL ++ [kid]) (.slice (some ⟨gn, 0, none⟩) (NL.length + 1) cn) (.slice (some ⟨gk, 0, none⟩) (KL.length + 1) ck) (w3.setCell ⟨w.heap.size + 1 + 1, 3, none⟩ (.slice (some ⟨gk, 0, none⟩) (KL.length + 1) ck)) := (hin1.alloc _).kidApp hown hgrow (by simpa [World.setCell] using hat)
        have hr3 := (hin1.alloc (.cells #[.int .i64 kid] 3)).r.of_block (hgrow.block _ (by simp [World.setCell]; omega) (fun e => by have := hob1 _ e.symm; omega))
        clear hown hgrow hat hltg hob1 hin1 q2 q3 q2f q3f hs1 hm1
        clear hin hwl' o2 o3 of2 of3
        obtain ⟨NL2, hNL2⟩ : ∃ x, x = NL ++ [name] := ⟨_, rfl⟩
        obtain ⟨KL2, hKL2⟩ : ∃ x, x = KL ++ [kid] := ⟨_, rfl⟩
        rw [← hNL2, ← hKL2] at hin2 HL
        clear hNL2 hKL2
        obtain ⟨l', e1, e2, hend⟩ := hin2.fin
        rw [← e1, ← e2] at hend
        have HE : Hid _ := hend
        have c0 := hq3.cell 0
        have c1 := hq3.cell 1
        have c2 := hq3.cell 2
        have c4 := hq3.cell 4
        have g0 := hr3.cell 0
        have g1 := hr3.cell 1
        have g2 := hr3.cell 2
        have g3 := hr3.cell 3
        have g4 := hr3.cell 4
        have f0 := hr3.frozen 0
        have f1 := hr3.frozen 1
        have f2 := hr3.frozen 2
        have f3 := hr3.frozen 3
        have f4 := hr3.frozen 4
        simp only [outA] at c0 c1 c2 c4 g0 g1 g2 g3 g4
        have HXL : Hid (WL Q d.nn true NL2 KL2) := HL
        clear hend hin2 HL hq3 hr3 e1 e2
        go_wp2
        refine end_world (F := WEnd w d NL2 KL2 l') HE.out ?_
        clear HE c0 c1 c2 c4 g0 g1 g2 g3 g4 f0 f1 f2 f3 f4
        rintro WF ⟨hr, hm⟩
        have r0 := hr.cell 0
        have r1 := hr.cell 1
        have r2 := hr.cell 2
        have r3 := hr.cell 3
        have r4 := hr.cell 4
        simp only [outA] at r0 r1 r2 r3 r4
        exact bodyPost_ret (v := .agg (outA d.kind d.turn (.slice l'.nA NL2.length l'.nc) (.slice l'.kA KL2.length l'.kc))) (by simp [results, Try.results33, go_sem, r0, r1, r2, r3, r4, outA]) rfl ⟨NL2, KL2, l', rfl, hm, HXL.out⟩
end Go.Proofs.Ytlikmphjocjmeaa

/-
  What pick, of and l11Open do: the reader of a code gives, at each call, some number below the one it is asked for, and turns nothing but its own place.
-/
namespace Go.Proofs.Ytlikmphjocjmeaa
open Go.RowKit
set_option linter.unusedVariables false

/-- Block r is a reader of a code of len bytes, at place p. -/
structure IsRd (W : World) (r : Nat) (a : Option Addr) (len cap : Nat) (zs : Nat → Int) (p : Nat) : Prop where
  blk : W.heap[r]? = some (.cells #[.slice a len cap, .int .i64 p] 59 (0, 0))
  few : len ≤ 2000
  code : len = 0 ∨ ∃ b off, a = some ⟨b, off, none⟩ ∧ b < r ∧ ∀ i, i < len → W.cell? ⟨b, off + i, none⟩ = some (.int .u8 (zs i)) ∧ 0 ≤ zs i ∧ zs i ≤ 255

theorem IsRd.c0 {W : World} {r : Nat} {a : Option Addr} {len cap : Nat} {zs : Nat → Int} {p : Nat} (h : IsRd W r a len cap zs p) : W.cell? ⟨r, 0, none⟩ = some (.slice a len cap) := by
  simp [World.cell?, h.blk]
theorem IsRd.c1 {W : World} {r : Nat} {a : Option Addr} {len cap : Nat} {zs : Nat → Int} {p : Nat} (h : IsRd W r a len cap zs p) : W.cell? ⟨r, 1, none⟩ = some (.int .i64 p) := by
  simp [World.cell?, h.blk]
theorem IsRd.fz {W : World} {r : Nat} {a : Option Addr} {len cap : Nat} {zs : Nat → Int} {p : Nat} (h : IsRd W r a len cap zs p) (i : Nat) : W.frozen? ⟨r, i, none⟩ = false := by
  simp [World.frozen?, h.blk]
theorem IsRd.lt {W : World} {r : Nat} {a : Option Addr} {len cap : Nat} {zs : Nat → Int} {p : Nat} (h : IsRd W r a len cap zs p) : r < W.heap.size := by
  obtain ⟨hlt, _⟩ := Array.getElem?_eq_some_iff.1 h.blk
  exact hlt

theorem IsRd.kept {W W' : World} {r : Nat} {a : Option Addr} {len cap : Nat} {zs : Nat → Int} {p : Nat} (h : IsRd W r a len cap zs p) (hb : ∀ k, k ≤ r → W'.heap[k]? = W.heap[k]?) : IsRd W' r a len cap zs p := by
  refine ⟨(hb r (Nat.le_refl _)).trans h.blk, h.few, ?_⟩
  rcases h.code with h0 | ⟨b, off, ha, hlt, hc⟩
  · exact Or.inl h0
  · exact Or.inr ⟨b, off, ha, hlt, fun i hi => ⟨(World.cell?_of_block (a := ⟨b, off + i, none⟩) (hb b (by omega))).trans (hc i hi).1, (hc i hi).2⟩⟩

/-- Behind the store into the reader's place. -/
theorem IsRd.next {W : World} {r : Nat} {a : Option Addr} {len cap : Nat} {zs : Nat → Int} {p : Nat} (h : IsRd W r a len cap zs p) : IsRd (W.setCell ⟨r, 1, none⟩ (.int .i64 ((p : Int) + 1))) r a len cap zs (p + 1) := by
  refine ⟨?_, h.few, ?_⟩
  · simp [World.setCell, Array.getElem?_modify, h.blk]
  · rcases h.code with h0 | ⟨b, off, ha, hlt, hc⟩
    · exact Or.inl h0
    · exact Or.inr ⟨b, off, ha, hlt, fun i hi => ⟨(World.cell?_of_block (a := ⟨b, off + i, none⟩) (Below.heap_setCell _ _ _ _ (by show b ≠ r; omega))).trans (hc i hi).1, (hc i hi).2⟩⟩

theorem grown_set (w : World) (r o : Nat) (v : Value) (q : Nat) : w.grownBy ((w.setCell ⟨r, o, none⟩ v).drewN q) (some r) :=
  ⟨rfl, rfl, rfl, by simp [World.setCell], fun k hk hne => Below.heap_setCell w ⟨r, o, none⟩ v k (fun e => hne (by rw [e]))⟩

theorem IsRd.drewN {W : World} {r : Nat} {a : Option Addr} {len cap : Nat} {zs : Nat → Int} {p : Nat} (h : IsRd W r a len cap zs p) (q : Nat) : IsRd (W.drewN q) r a len cap zs p :=
  h.kept fun _ _ => rfl

theorem ret_i64 {a b : Int} (h : a = b) : Ending.returned (.int .i64 a) = .returned (.int .i64 b) := by rw [h]

theorem wrap_i64 (n : Int) (h0 : 0 ≤ n) (h1 : n < 9223372036854775808) : IntKind.i64.wrap n = n := by
  simp [IntKind.wrap, IntKind.bits, IntKind.signed]; omega

theorem xor_i64 (a b : Nat) (ha : a < 1152921504606846976) (hb : b < 1152921504606846976) : bits .xor .i64 (a : Int) (b : Int) = ((a ^^^ b : Nat) : Int) := by
  have hx : a ^^^ b < 2 ^ 60 := Nat.xor_lt_two_pow (by omega) (by omega)
  have h1 : (BitVec.ofInt 64 (a : Int)).toNat = a := by
    rw [BitVec.ofInt_natCast, BitVec.toNat_ofNat]; exact Nat.mod_eq_of_lt (by omega)
  have h2 : (BitVec.ofInt 64 (b : Int)).toNat = b := by
    rw [BitVec.ofInt_natCast, BitVec.toNat_ofNat]; exact Nat.mod_eq_of_lt (by omega)
  show IntKind.i64.wrap ((BitVec.ofInt 64 (a : Int) ^^^ BitVec.ofInt 64 (b : Int)).toNat : Int) = _
  rw [BitVec.toNat_xor, h1, h2, wrap_i64 _ (by omega) (by omega)]

/-- What is drawn behind the code's end is no less than 0. -/
theorem mix_nonneg (X : Int) (h0 : 0 ≤ X) (h1 : X < 1152921504606846976) : 0 ≤ bits .xor .i64 X (X / 64) := by
  obtain ⟨x, rfl⟩ := Int.eq_ofNat_of_zero_le h0
  have e : ((x : Int) / 64) = ((x / 64 : Nat) : Int) := by omega
  rw [e, xor_i64 x (x / 64) (by omega) (by omega)]
  omega

set_option maxHeartbeats 1000000 in
theorem pick_any (w : World) (r : Nat) (a : Option Addr) (len cap : Nat) (zs : Nat → Int) (p : Nat) (n : Int) (hR : IsRd w r a len cap zs p) (hp : p ≤ 1000000) (h1 : 1 ≤ n) (h2 : n ≤ 1000000) :
    Calls Try.prog 31 #[.pointer (some ⟨r, 0, none⟩), .int .i64 n] w fun e w' => ∃ x : Int, e = .returned (.int .i64 x) ∧ 0 ≤ x ∧ x < n ∧ w.grownBy w' (some r) ∧ IsRd w' r a len cap zs (p + 1) := by
  have c0 := hR.c0
  have c1 := hR.c1
  have fz := hR.fz
  have hf := hR.few
  have N0 := hR.next.c0
  have N1 := hR.next.c1
  have HN : Hid _ := hR.next
  have hn1 : decide (n < 1) = false := by simp; omega
  by_cases h0 : len = 0
  · subst h0
    clear hR
    go_enter Try.func31, Try.ntmps31
    go_wp2
    go_ret
    exact ⟨0, rfl, by omega, by omega, grown_set w r 1 _ 0, HN.out⟩
  · obtain ⟨b, off, rfl, hlt, hc⟩ := hR.code.resolve_left h0
    have hne : ((len : Int) == 0) = false := by simp; omega
    have NC : ∀ i, i < len → (w.setCell ⟨r, 1, none⟩ (.int .i64 ((p : Int) + 1))).cell? ⟨b, off + i, none⟩ = some (.int .u8 (zs i)) := fun i hi =>
      (World.cell?_of_block (a := ⟨b, off + i, none⟩) (Below.heap_setCell _ _ _ _ (by show b ≠ r; omega))).trans (hc i hi).1
    clear hR
    by_cases hpl : p < len
    · have hcp := NC p hpl
      have hz := (hc p hpl).2
      have hpl' : (p : Int) < (len : Int) := by omega
      clear NC hc
      go_enter Try.func31, Try.ntmps31
      go_wp2
      go_ret
      refine ⟨_, rfl, ?_, ?_, grown_set w r 1 _ 0, HN.out⟩
      · exact Int.emod_nonneg _ (by omega)
      · exact Int.emod_lt_of_pos _ (by omega)
    · have hd : decide ((p : Int) < (len : Int)) = false := by simp; omega
      have hlp : 0 < len := by omega
      have i1 : p % len < len := Nat.mod_lt _ hlp
      have i2 : (p * 7 + 3) % len < len := Nat.mod_lt _ hlp
      have e1 : ((p : Int) % (len : Int)).toNat = p % len := by omega
      have e2 : (((p : Int) * 7 + 3) % (len : Int)).toNat = (p * 7 + 3) % len := by rw [show ((p : Int) * 7 + 3) = ((p * 7 + 3 : Nat) : Int) from by omega, ← Int.natCast_emod, Int.toNat_natCast]
      have a1 := NC _ i1
      have a2 := NC _ i2
      have z1 := (hc _ i1).2
      have z2 := (hc _ i2).2
      have a3 := a2
      rw [← e2] at a3
      have b1 : 0 ≤ (p : Int) % (len : Int) := Int.emod_nonneg _ (by omega)
      have b2 : (p : Int) % (len : Int) < (len : Int) := Int.emod_lt_of_pos _ (by omega)
      have b3 : 0 ≤ ((p : Int) * 7 + 3) % (len : Int) := Int.emod_nonneg _ (by omega)
      have b4 : ((p : Int) * 7 + 3) % (len : Int) < (len : Int) := Int.emod_lt_of_pos _ (by omega)
      have d1 : 0 ≤ (p : Int) / (len : Int) := Int.ediv_nonneg (by omega) (by omega)
      have d2 : (p : Int) / (len : Int) ≤ 1000000 := by
        have : (p : Int) / (len : Int) ≤ p := Int.ediv_le_self _ (by omega)
        omega
      clear NC hc i1 i2 e1 e2
      go_enter Try.func31, Try.ntmps31
      go_wp2
      go_quiet (fail)
      go_wp2
      go_ret
      refine ⟨_, rfl, ?_, ?_, grown_set w r 1 _ nq, HN.out.drewN nq⟩
      · exact Int.tmod_nonneg _ (mix_nonneg _ (by omega) (by omega))
      · exact Int.tmod_lt_of_pos _ (by omega)

set_option maxHeartbeats 400000 in
theorem of_any (w : World) (r : Nat) (a : Option Addr) (len cap : Nat) (zs : Nat → Int) (p : Nat) (hR : IsRd w r a len cap zs p) (hp : p ≤ 1000000)
    (b off m c : Nat) (S : Nat → ByteArray) (hb : b ≠ r) (hm : 1 ≤ m) (hm2 : m ≤ 1000) (hc : ∀ i, i < m → w.cell? ⟨b, off + i, none⟩ = some (.string (S i))) :
    Calls Try.prog 34 #[.pointer (some ⟨r, 0, none⟩), .slice (some ⟨b, off, none⟩) m c] w fun e w' => ∃ i, i < m ∧ e = .returned (.string (S i)) ∧ w.grownBy w' (some r) ∧ IsRd w' r a len cap zs (p + 1) := by
  go_enter Try.func34, Try.ntmps34
  go_wp2_with fail
  refine (pick_any w r a len cap zs p m hR hp (by omega) (by omega)).mono ?_
  rintro e w1 ⟨x, rfl, hx0, hx1, hg, hR1⟩
  obtain ⟨i, rfl⟩ := Int.eq_ofNat_of_zero_le hx0
  have hi : i < m := by omega
  have hci : w1.cell? ⟨b, off + i, none⟩ = some (.string (S i)) := hg.cell (hc i hi) (by simp; exact hb)
  have HG : Hid (w.grownBy w1 (some r)) := hg
  have HR : Hid (IsRd w1 r a len cap zs (p + 1)) := hR1
  clear hc hg hR1 hR
  go_wp2
  go_ret
  exact ⟨i, hi, rfl, HG.out, HR.out⟩

theorem u8_bounds {n : Int} (h : (Lit.int .u8 n).wf = true) : 0 ≤ n ∧ n ≤ 255 := by
  simpa [Lit.wf, IntKind.min, IntKind.max, IntKind.signed, IntKind.bits] using h

set_option maxHeartbeats 400000 in
/-- The reader of a code: the code's first 2000 bytes, from place 0 on. -/
theorem l11Open_any (w : World) (a : Option Addr) (len cap : Nat) (zs : Nat → Int) (hlen : len ≤ maxLen) (hcap : len ≤ cap)
    (hcode : len = 0 ∨ ∃ b off, a = some ⟨b, off, none⟩ ∧ b < w.heap.size ∧ ∀ i, i < len → w.cell? ⟨b, off + i, none⟩ = some (.int .u8 (zs i)) ∧ 0 ≤ zs i ∧ zs i ≤ 255) :
    Calls Try.prog 17 #[.slice a len cap] w fun e w' => e = .returned (.pointer (some ⟨w.heap.size, 0, none⟩)) ∧ Below w.heap.size w w' ∧ ∃ len', IsRd w' w.heap.size a len' cap zs 0 := by
  unfold maxLen at hlen
  have HC : Hid _ := hcode
  clear hcode
  have key : ∀ l, l ≤ len → l ≤ 2000 → IsRd (w.alloc (.cells #[.slice a l cap, .int .i64 0] 59)) w.heap.size a l cap zs 0 := fun l hl hl2 => by
    refine ⟨new_block _ _, hl2, ?_⟩
    rcases HC.out with h | ⟨b, off, ha, hb, hc⟩
    · exact Or.inl (by omega)
    · exact Or.inr ⟨b, off, ha, hb, fun i hi => ⟨(World.cell?_of_block (a := ⟨b, off + i, none⟩) (Below.heap_alloc _ _ b hb)).trans (hc i (by omega)).1, (hc i (by omega)).2⟩⟩
  have HK : Hid _ := key
  clear key
  by_cases h : (2000 : Int) < len
  · go_enter Try.func17, Try.ntmps17
    go_wp2
    go_ret
    exact ⟨rfl, (Below.refl _ _).alloc (Nat.le_refl _) _, 2000, HK.out 2000 (by omega) (by omega)⟩
  · go_enter Try.func17, Try.ntmps17
    go_wp2
    go_ret
    exact ⟨rfl, (Below.refl _ _).alloc (Nat.le_refl _) _, len, HK.out len (by omega) (by omega)⟩
end Go.Proofs.Ytlikmphjocjmeaa

/-
  What the draws of ways give: some list of at most nine texts of at most five letters each, in new memory; nothing that was there turns but the reader's own place.
-/
namespace Go.Proofs.Ytlikmphjocjmeaa
open Go.RowKit
set_option linter.unusedVariables false

theorem IsRd.grown {W W' : World} {r : Nat} {a : Option Addr} {len cap : Nat} {zs : Nat → Int} {p : Nat} (h : IsRd W r a len cap zs p) {row : Option Nat} (hg : W.grownBy W' row) (hr : ∀ g, row = some g → r < g) : IsRd W' r a len cap zs p :=
  h.kept fun k hk => hg.block k (Nat.lt_of_le_of_lt hk h.lt) (fun e => by have := hr k e.symm; omega)

theorem IsRd.alloc {W : World} {r : Nat} {a : Option Addr} {len cap : Nat} {zs : Nat → Int} {p : Nat} (h : IsRd W r a len cap zs p) (o : Obj) : IsRd (W.alloc o) r a len cap zs p :=
  h.kept fun k hk => Below.heap_alloc W o k (Nat.lt_of_le_of_lt hk h.lt)

def names7 : List ByteArray := [⟨#[97]⟩, ⟨#[98]⟩, ⟨#[99]⟩, ⟨#[97]⟩, ⟨#[98]⟩, ⟨#[101, 116, 99]⟩, ⟨#[104, 111, 109, 101]⟩]

theorem names7_nm (i : Nat) (hi : i < 7) : Nm (names7.getD i ByteArray.empty) := by
  unfold Nm
  match i, hi with
  | 0, _ => simp [names7, nmL]
  | 1, _ => simp [names7, nmL]
  | 2, _ => simp [names7, nmL]
  | 3, _ => simp [names7, nmL]
  | 4, _ => simp [names7, nmL]
  | 5, _ => simp [names7, nmL]
  | 6, _ => simp [names7, nmL]

set_option maxHeartbeats 400000 in
theorem l1Name_nm (w : World) (r : Nat) (a : Option Addr) (len cap : Nat) (zs : Nat → Int) (p : Nat) (hR : IsRd w r a len cap zs p) (hp : p ≤ 1000000) :
    Calls Try.prog 50 #[.pointer (some ⟨r, 0, none⟩)] w fun e w' => ∃ s : ByteArray, e = .returned (.string s) ∧ Nm s ∧ w.grownBy w' (some r) ∧ IsRd w' r a len cap zs (p + 1) := by
  have HL : Hid (r < w.heap.size) := hR.lt
  have H7 : Hid (∀ i, i < 7 → (w.alloc (.cells #[.string ⟨#[97]⟩, .string ⟨#[98]⟩, .string ⟨#[99]⟩, .string ⟨#[97]⟩, .string ⟨#[98]⟩, .string ⟨#[101, 116, 99]⟩, .string ⟨#[104, 111, 109, 101]⟩] 9)).cell? ⟨w.heap.size, 0 + i, none⟩ = some (.string (names7.getD i ByteArray.empty))) := new_strs w names7
  go_enter Try.func50, Try.ntmps50
  go_wp2_with fail
  refine (of_any _ r a len cap zs p (hR.alloc _) hp w.heap.size 0 7 7 (fun i => names7.getD i ByteArray.empty) (by have := HL.out; omega) (by omega) (by omega) H7.out).mono ?_
  rintro e w1 ⟨i, hi, rfl, hg, hR1⟩
  have HG : Hid (w.grownBy w1 (some r)) := grown_trans (grown_alloc w _ _) hg
  have HR : Hid (IsRd w1 r a len cap zs (p + 1)) := hR1
  clear hg hR1 hR H7
  go_wp2
  go_ret
  exact ⟨_, rfl, names7_nm i hi, HG.out, HR.out⟩

theorem l1Name_any (w : World) (r : Nat) (a : Option Addr) (len cap : Nat) (zs : Nat → Int) (p : Nat) (hR : IsRd w r a len cap zs p) (hp : p ≤ 1000000) :
    Calls Try.prog 50 #[.pointer (some ⟨r, 0, none⟩)] w fun e w' => ∃ s : ByteArray, e = .returned (.string s) ∧ s.size ≤ 4 ∧ w.grownBy w' (some r) ∧ IsRd w' r a len cap zs (p + 1) :=
  (l1Name_nm w r a len cap zs p hR hp).mono fun e w' ⟨s, h1, h2, h3⟩ => ⟨s, h1, h2.size, h3⟩

/-- What an append of texts to a row of one's own leaves. -/
theorem owns_step {w wr w2 : World} {r : Nat} {a : Option Addr} {len cap : Nat} {zs : Nat → Int} {q : Nat} {v v' : Value} {L M : List ByteArray}
    (hr : r < w.heap.size) (hg : w.grownBy wr (some r)) (hR : IsRd wr r a len cap zs q) (hO : OwnsStrs wr w.heap.size v L) (o : Obj)
    (hown : w2.ownsRow w.heap.size 9 1 v' (L.length + M.length) (strv L ++ strv M)) (hgrow : (wr.alloc o).grownBy w2 v.ownBlock) (hnil : ¬ v' = .slice none 0 0) :
    OwnsStrs w2 w.heap.size v' (L ++ M) ∧ w.grownBy w2 (some r) ∧ IsRd w2 r a len cap zs q := by
  refine ⟨?_, grown_own (grown_trans hg (grown_alloc wr o _)) hgrow hO.block, (hR.alloc o).grown hgrow (fun g e => by have := hO.block g e; omega)⟩
  unfold OwnsStrs
  rw [List.length_append, ← strv_append]
  exact ⟨hown, hnil⟩

def bent4 : List ByteArray := [⟨#[]⟩, ⟨#[65]⟩, ⟨#[97, 98, 99, 100, 101]⟩, ⟨#[97, 47, 98]⟩]
def six : List ByteArray := [⟨#[97]⟩, ⟨#[98]⟩, ⟨#[99]⟩, ⟨#[100]⟩, ⟨#[101]⟩, ⟨#[102]⟩]

/-- A code that was handed in: len bytes. -/
def IsCode (w : World) (a : Option Addr) (len : Nat) (zs : Nat → Int) : Prop :=
  len = 0 ∨ ∃ b off, a = some ⟨b, off, none⟩ ∧ b < w.heap.size ∧ ∀ i, i < len → w.cell? ⟨b, off + i, none⟩ = some (.int .u8 (zs i)) ∧ 0 ≤ zs i ∧ zs i ≤ 255

theorem IsCode.below {w w' : World} {a : Option Addr} {len : Nat} {zs : Nat → Int} (h : IsCode w a len zs) (hb : Below w.heap.size w w') : IsCode w' a len zs := by
  rcases h with h | ⟨b, off, ha, hlt, hc⟩
  · exact Or.inl h
  · exact Or.inr ⟨b, off, ha, Nat.lt_of_lt_of_le hlt hb.size, fun i hi => ⟨(hb.cell (p := ⟨b, off + i, none⟩) hlt).trans (hc i hi).1, (hc i hi).2⟩⟩

/-- A drawn list: it lies in memory; at most nine texts of at most five letters. -/
structure Drawn (w : World) (g n cap : Nat) (S : Nat → ByteArray) : Prop where
  lt : g < w.heap.size
  cell : ∀ i, i < n → w.cell? ⟨g, 0 + i, none⟩ = some (.string (S i))
  room : n ≤ cap
  most : cap ≤ maxLen
  few : n ≤ 9
  short : ∀ i, (S i).size ≤ 5

theorem Drawn.strs {w : World} {g n cap : Nat} {S : Nat → ByteArray} (h : Drawn w g n cap S) : IsStrs w (some ⟨g, 0, none⟩) n S := Or.inr ⟨g, 0, rfl, h.lt, h.cell⟩
theorem Drawn.small {w : World} {g n cap : Nat} {S : Nat → ByteArray} (h : Drawn w g n cap S) : Small n S := fun i _ => by have := h.short i; unfold maxLen; omega
theorem Drawn.below {w w' : World} {g n cap : Nat} {S : Nat → ByteArray} (h : Drawn w g n cap S) (hb : Below w.heap.size w w') : Drawn w' g n cap S :=
  ⟨Nat.lt_of_lt_of_le h.lt hb.size, fun i hi => (hb.cell (p := ⟨g, 0 + i, none⟩) h.lt).trans (h.cell i hi), h.room, h.most, h.few, h.short⟩
theorem Drawn.len {w : World} {g n cap : Nat} {S : Nat → ByteArray} (h : Drawn w g n cap S) : n ≤ maxLen := by have := h.few; unfold maxLen; omega

theorem OwnsStrs.drawn {w : World} {B : Nat} {v : Value} {L : List ByteArray} (h : OwnsStrs w B v L) (h9 : L.length ≤ 9) (h5 : (L.all fun s => decide (s.size ≤ 5)) = true) :
    ∃ g cap, v = .slice (some ⟨g, 0, none⟩) L.length cap ∧ Drawn w g L.length cap (fun i => L.getD i ByteArray.empty) := by
  obtain ⟨g, cap, hv, _, hlt, hc, hn, hm⟩ := h.hands
  exact ⟨g, cap, hv, hlt, hc, hn, hm, h9, list_size h5⟩

theorem below_grown {w w' w'' : World} {r : Nat} (h : Below w.heap.size w w') (hr : w.heap.size ≤ r) (hg : w'.grownBy w'' (some r)) : Below w.heap.size w w'' :=
  h.grown hg h.size (fun k e => by simp at e; omega)

end Go.Proofs.Ytlikmphjocjmeaa

/-
  What the parts of TreeOk of the specification answer: texts, names, places, one place by itself.
-/
namespace Go.Proofs.Ytlikmphjocjmeaa
open Go.RowKit
set_option linter.unusedVariables false

/-- A text that can be in a file. -/
def textOk (s : ByteArray) : Bool := s.data.toList.all letter && decide (s.size ≤ 6)

set_option maxHeartbeats 400000 in
theorem l2Text_any (s : ByteArray) (w : World) (hs : s.size ≤ maxLen) :
    Calls Try.prog 39 #[.string s] w fun e w' => e = .returned (.bool (textOk s)) ∧ w' = w := by
  unfold maxLen at hs
  go_enter Try.func39, Try.ntmps39
  go_wp2
  go_loop [3] (fun i => ∃ k : Nat, k ≤ s.size ∧ i = .int .i64 k ∧ (s.data.toList.take k).all letter = true) (fun i => s.size - (intOf i).toNat)
  case atStart => exact ⟨0, Nat.zero_le _, rfl, rfl⟩
  case round =>
    obtain ⟨k, hk, rfl, ha⟩ := hrel
    have HA : Hid ((s.data.toList.take k).all letter = true) := ha
    clear ha
    by_cases hlt : k < s.size
    · go_wp2
      · go_ret
        exact ⟨ret_bool (by unfold textOk; rw [not_all s k hlt (letter_no ‹_›)]; rfl), rfl⟩
      · go_round
        case rel => exact ⟨k + 1, by omega, by go_num, all_snoc s k hlt HA (letter_yes (by omega) (by omega))⟩
        case measure => simp [intOf]; omega
      · go_ret
        exact ⟨ret_bool (by unfold textOk; rw [not_all s k hlt (letter_no (Or.inl ‹_›))]; rfl), rfl⟩
    · go_wp2
      go_ret
      refine ⟨ret_bool ?_, rfl⟩
      have e : s.data.toList.length = s.size := by simp
      have h := HA.out
      rw [List.take_of_length_le (by omega)] at h
      unfold textOk
      rw [h]
      simp
      omega

/-- The order of texts, by their bytes. -/
def lessEq (s t : ByteArray) : Bool := Op.bytesLess s.toList t.toList || s.toList == t.toList

/-- The names are names, in order, each once: the first k of them. -/
def dirNames (S : Nat → ByteArray) (k : Nat) : Bool := (List.range k).all fun i => nameOk (S i).data.toList && (i == 0 || !lessEq (S i) (S (i - 1)))

theorem dirNames_bad (S : Nat → ByteArray) (k n : Nat) (hk : k < n) (h : (nameOk (S k).data.toList && (k == 0 || !lessEq (S k) (S (k - 1)))) = false) : false = dirNames S n := by
  symm
  rw [Bool.eq_false_iff]
  intro ha
  have := List.all_eq_true.1 ha k (by simpa using hk)
  rw [h] at this
  cases this

theorem dirNames_succ (S : Nat → ByteArray) (k : Nat) (h : dirNames S k = true) (hk : (nameOk (S k).data.toList && (k == 0 || !lessEq (S k) (S (k - 1)))) = true) : dirNames S (k + 1) = true := by
  unfold dirNames at *
  rw [List.range_succ, List.all_append, h]; simpa using hk

theorem dirNames_one (S : Nat → ByteArray) (h : nameOk (S 0).data.toList = true) : dirNames S 1 = true := dirNames_succ S 0 rfl (by rw [h]; rfl)

set_option maxHeartbeats 400000 in
theorem l2Names_any (a : Option Addr) (n c : Nat) (S : Nat → ByteArray) (w : World) (hS : IsStrs w a n S) (hm : Small n S) (hn : n ≤ maxLen) :
    Calls Try.prog 40 #[.slice a n c] w fun e w' => (∃ q, w' = w.drewN q) ∧ e = .returned (.bool (dirNames S n)) := by
  unfold maxLen at hn
  go_enter Try.func40, Try.ntmps40
  go_wp2
  go_loopw [3] (fun i wr => ∃ k q : Nat, k ≤ n ∧ i = .int .i64 k ∧ wr = w.drewN q ∧ dirNames S k = true) (fun i _ => n - (intOf i).toNat)
  case atStart => exact ⟨0, 0, Nat.zero_le _, rfl, rfl, rfl⟩
  case round =>
    obtain ⟨k, q, hk, rfl, hwr, heq⟩ := hrel
    have HE : Hid (dirNames S k = true ∧ wr = w.drewN q) := ⟨heq, hwr⟩
    have hSr : IsStrs wr a n S := by rw [hwr]; exact hS.below (Nat.le_refl _) (below_drewN (Below.refl _ _) _)
    clear heq hwr
    by_cases hlt : k < n
    · obtain ⟨b, off, rfl, hlt2, hc⟩ := hSr.at hlt
      have h1 := hc k hlt
      have hlti : (k : Int) < (n : Int) := by omega
      have hmk := hm k hlt
      have hcall : Hid (∀ q, Calls Try.prog 48 #[.string (S k)] (wr.drewN q) fun e w' => e = .returned (.bool (nameOk (S k).data.toList)) ∧ w' = wr.drewN q) := fun q => specNameOk_any (S k) _ hmk
      cases hnm : nameOk (S k).data.toList with
      | false =>
        rw [hnm] at hcall
        have HN : Hid (nameOk (S k).data.toList = false) := hnm
        clear hc hnm
        go_wp2_with fail
        go_quiet (exact Calls.quiet_of_same (hcall.out _))
        go_wp2
        go_ret
        exact ⟨⟨q + nq, by rw [HE.out.2, World.drewN_drewN]⟩, ret_bool (dirNames_bad S k n hlt (by rw [HN.out]; rfl))⟩
      | true =>
        rw [hnm] at hcall
        have HN : Hid (nameOk (S k).data.toList = true) := hnm
        clear hnm
        by_cases hk0 : k = 0
        · subst hk0
          clear hc
          rw [Nat.add_zero] at h1
          go_wp2_with fail
          go_quiet (exact Calls.quiet_of_same (hcall.out _))
          go_wp2
          go_roundw
          case rel => exact ⟨1, q + nq, by omega, by go_num, by rw [HE.out.2, World.drewN_drewN], dirNames_one S HN.out⟩
          case measure => simp [intOf]; omega
        · have h2 : wr.cell? ⟨b, off + (k - 1), none⟩ = some (.string (S (k - 1))) := hc (k - 1) (by omega)
          have hk0' : decide (0 < k) = true := by simp; omega
          have hk1 : ((k - 1 : Nat) : Int) < (n : Int) := by omega
          have hwr : IntKind.i64.wrap ((k : Int) - 1) = ((k - 1 : Nat) : Int) := by rw [IntKind.wrap_i64]; omega
          clear hc
          go_wp2_with fail
          cases hle : lessEq (S k) (S (k - 1)) with
          | true =>
            have hle' : (Op.bytesLess (S k).toList (S (k - 1)).toList || (S k).toList == (S (k - 1)).toList) = true := hle
            have HL : Hid (lessEq (S k) (S (k - 1)) = true) := hle
            clear hle
            go_quiet (exact Calls.quiet_of_same (hcall.out _))
            go_wp2
            go_ret
            exact ⟨⟨q + nq, by rw [HE.out.2, World.drewN_drewN]⟩, ret_bool (dirNames_bad S k n hlt (by rw [HN.out, HL.out]; simp; omega))⟩
          | false =>
            have hle' : (Op.bytesLess (S k).toList (S (k - 1)).toList || (S k).toList == (S (k - 1)).toList) = false := hle
            have HL : Hid (lessEq (S k) (S (k - 1)) = false) := hle
            clear hle
            go_quiet (exact Calls.quiet_of_same (hcall.out _))
            go_wp2
            go_roundw
            case rel => exact ⟨k + 1, q + nq, by omega, by go_num, by rw [HE.out.2, World.drewN_drewN], dirNames_succ S k HE.out.1 (by rw [HN.out, HL.out]; simp)⟩
            case measure => simp [intOf]; omega
    · have hkn : k = n := by omega
      have HK : Hid (k = n) := hkn
      clear hkn
      go_wp2
      go_ret
      exact ⟨⟨q, HE.out.2⟩, ret_bool (by rw [← HK.out, HE.out.1])⟩
end Go.Proofs.Ytlikmphjocjmeaa

/-
  What l2Kids and l2Node of the specification answer.
-/
namespace Go.Proofs.Ytlikmphjocjmeaa
open Go.RowKit
set_option linter.unusedVariables false

/-- A place in a directory leads to one that is there and is not free. -/
def kidOk (n : Nat) (D : Nat → Nd) (z : Int) : Bool := decide (1 ≤ z) && decide (z < n) && (D z.toNat).kind != 0
/-- The first k places in a directory. -/
def kidsOk (n : Nat) (D : Nat → Nd) (Z : Nat → Int) (k : Nat) : Bool := (List.range k).all fun i => kidOk n D (Z i)

theorem kidsOk_succ {n : Nat} {D : Nat → Nd} {Z : Nat → Int} {k : Nat} (h : kidsOk n D Z k = true) (hk : kidOk n D (Z k) = true) : kidsOk n D Z (k + 1) = true := by
  unfold kidsOk at *
  rw [List.range_succ, List.all_append, h]; simpa using hk

theorem kidsOk_bad {n : Nat} {D : Nat → Nd} {Z : Nat → Int} {k m : Nat} (hk : k < m) (h : kidOk n D (Z k) = false) : kidsOk n D Z m = false := by
  rw [Bool.eq_false_iff]
  intro ha
  have := List.all_eq_true.1 ha k (by simpa using hk)
  simp [h] at this

/-- What is known within l2Kids. -/
structure KidsIn (w : World) (a : Option Addr) (n c : Nat) (now : Int) (d : Nd) (l : Loc) (W : World) : Prop where
  t : Blk W w.heap.size #[.slice a n c, .int .i64 now] 25
  d : Blk W (w.heap.size + 1) #[.int .i64 d.kind, .string d.text, .slice l.nA d.nn l.nc, .slice l.kA d.kn l.kc, .int .i64 d.turn] 36
  bel : Below w.heap.size w W

theorem KidsIn.drew {w : World} {a : Option Addr} {n c : Nat} {now : Int} {d : Nd} {l : Loc} {W : World} (h : KidsIn w a n c now d l W) (q : Nat) : KidsIn w a n c now d l (W.drewN q) := ⟨h.t, h.d, below_drewN h.bel q⟩

set_option maxHeartbeats 1000000 in
theorem l2Kids_any (a : Option Addr) (n c : Nat) (now : Int) (D : Nat → Nd) (L : Nat → Loc) (d : Nd) (l : Loc) (w : World) (hS : IsNds w a n D L) (hI : NdIn w d l) (hf : d.Fits) (hn : n ≤ maxLen) :
    Calls Try.prog 41 #[trV a n c now, ndV d l] w fun e w' => Below w.heap.size w w' ∧ e = .returned (.bool (kidsOk n D d.kids d.kn && decide (d.kn = d.nn))) := by
  have hkn := hf.kn
  have hnn := hf.nn
  unfold maxLen at hkn hnn hn
  unfold trV ndV
  go_enter Try.func41, Try.ntmps41
  go_wp2
  go_loopw [5] (fun i wr => ∃ k : Nat, k ≤ d.kn ∧ i = .int .i64 k ∧ KidsIn w a n c now d l wr ∧ kidsOk n D d.kids k = true) (fun i _ => d.kn - (intOf i).toNat)
  case atStart =>
    have h := new2 w #[.slice a n c, .int .i64 now] 25 #[.int .i64 d.kind, .string d.text, .slice l.nA d.nn l.nc, .slice l.kA d.kn l.kc, .int .i64 d.turn] 36
    exact ⟨0, Nat.zero_le _, rfl, ⟨h.b0, h.b1, h.bel⟩, rfl⟩
  case round =>
    obtain ⟨k, hk, rfl, hin, heq⟩ := hrel
    obtain ⟨ht, hd, hbel⟩ := hin
    have t0 : wr.cell? ⟨w.heap.size, 0, none⟩ = some (.slice a n c) := ht.cell 0
    have d2 : wr.cell? ⟨w.heap.size + 1, 2, none⟩ = some (.slice l.nA d.nn l.nc) := hd.cell 2
    have d3 : wr.cell? ⟨w.heap.size + 1, 3, none⟩ = some (.slice l.kA d.kn l.kc) := hd.cell 3
    have hSr := hS.below (Nat.le_refl _) hbel
    have hIr := hI.2.below (Nat.le_refl _) hbel
    have HE : Hid (kidsOk n D d.kids k = true ∧ KidsIn w a n c now d l wr) := ⟨heq, ht, hd, hbel⟩
    clear heq ht hd hbel
    by_cases hlt : k < d.kn
    · obtain ⟨b, off, hka, hlt2, hc⟩ := hIr.at hlt
      rw [hka] at d3
      have h1 := hc k hlt
      have hlti : (k : Int) < (d.kn : Int) := by omega
      clear hc
      have hz := hf.kids k hlt
      unfold In64 at hz
      have bad : kidOk n D (d.kids k) = false → Hid (kidsOk n D d.kids d.kn = false) := fun h => kidsOk_bad hlt h
      by_cases hz1 : d.kids k < 1
      · have H : Hid (kidsOk n D d.kids d.kn = false) := bad (by unfold kidOk; rw [decide_eq_false (show ¬ 1 ≤ d.kids k by omega)]; rfl)
        clear bad
        go_wp2_with fail
        go_ret
        exact ⟨HE.out.2.bel, ret_bool (by rw [H.out]; rfl)⟩
      · by_cases hz2 : (n : Int) ≤ d.kids k
        · have H : Hid (kidsOk n D d.kids d.kn = false) := bad (by unfold kidOk; rw [decide_eq_false (show ¬ d.kids k < n by omega)]; simp)
          clear bad
          go_wp2_with fail
          go_ret
          exact ⟨HE.out.2.bel, ret_bool (by rw [H.out]; rfl)⟩
        · obtain ⟨j, hj⟩ : ∃ j : Nat, d.kids k = j := ⟨(d.kids k).toNat, by omega⟩
          have hjn : j < n := by omega
          obtain ⟨b', off', ha, hlt2', hc'⟩ := hSr.at hjn
          have g0 := (hc' j hjn).1
          have hko : kidOk n D (d.kids k) = ((D j).kind != 0) := by
            unfold kidOk; rw [decide_eq_true (show 1 ≤ d.kids k by omega), decide_eq_true (show d.kids k < n by omega), hj]; simp
          clear hc' hSr
          rw [ha] at t0
          rw [hj] at h1 hz1 hz2 hz
          cases hkd : ((D j).kind == 0) with
          | true =>
            have H : Hid (kidsOk n D d.kids d.kn = false) := bad (by rw [hko]; simp only [bne, hkd]; rfl)
            clear bad hko
            go_wp2_with fail
            go_ret
            exact ⟨HE.out.2.bel, ret_bool (by rw [H.out]; rfl)⟩
          | false =>
            have H : Hid (kidOk n D (d.kids k) = true) := hko.trans (by simp only [bne, hkd]; rfl)
            clear bad hko
            go_wp2_with fail
            go_roundw
            case rel => exact ⟨k + 1, by omega, by go_num, HE.out.2, kidsOk_succ HE.out.1 H.out⟩
            case measure => simp [intOf]; omega
    · have hke : k = d.kn := by omega
      have HK : Hid (kidsOk n D d.kids d.kn = true) := by have := HE.out.1; rw [hke] at this; exact this
      clear hke hSr hIr
      go_wp2
      go_ret
      refine ⟨HE.out.2.bel, ret_bool ?_⟩
      rw [HK.out, Bool.true_and]
      by_cases h : d.kn = d.nn
      · simp [h]
      · rw [decide_eq_false h]
        simp
        omega
end Go.Proofs.Ytlikmphjocjmeaa

/-
  What l2Node of the specification answers.
-/
namespace Go.Proofs.Ytlikmphjocjmeaa
open Go.RowKit
set_option linter.unusedVariables false

/-- A free place. -/
def freeOk (d : Nd) : Bool := (d.text.toList == []) && decide (d.nn = 0) && decide (d.kn = 0) && (d.turn == 0)
/-- A file. -/
def fileOk (now : Int) (d : Nd) : Bool := textOk d.text && decide (d.nn = 0) && decide (d.kn = 0) && decide (1 ≤ d.turn) && decide (d.turn ≤ now)
/-- A directory. -/
def dirOk (n : Nat) (D : Nat → Nd) (now : Int) (d : Nd) : Bool := (d.text.toList == []) && dirNames d.names d.nn && (kidsOk n D d.kids d.kn && decide (d.kn = d.nn)) && decide (1 ≤ d.turn) && decide (d.turn ≤ now)
/-- A place that is right by itself. -/
def ndOk (n : Nat) (D : Nat → Nd) (now : Int) (d : Nd) : Bool := if d.kind = 0 then freeOk d else if d.kind = 1 then fileOk now d else if d.kind = 2 then dirOk n D now d else false

set_option maxHeartbeats 1000000 in
theorem l2Node_any (a : Option Addr) (n c : Nat) (now : Int) (D : Nat → Nd) (L : Nat → Loc) (d : Nd) (l : Loc) (w : World) (hS : IsNds w a n D L) (hI : NdIn w d l) (hf : d.Fits) (hn : n ≤ maxLen) :
    Calls Try.prog 23 #[trV a n c now, ndV d l] w fun e w' => Below w.heap.size w w' ∧ e = .returned (.bool (ndOk n D now d)) := by
  have hkn := hf.kn
  have hnn := hf.nn
  unfold maxLen at hkn hnn
  unfold trV ndV
  by_cases h0 : d.kind = 0
  · have H : Hid (ndOk n D now d = freeOk d) := if_pos h0
    have b0 : (d.kind == 0) = true := by simp [h0]
    clear h0
    go_enter Try.func23, Try.ntmps23
    go_wp2_with fail
    all_goals
      go_ret
      exact ⟨((Below.refl _ _).alloc (Nat.le_refl _) _).alloc (by simp) _, ret_bool (by rw [H.out]; unfold freeOk; simp [*])⟩
  · have n0 : (d.kind == 0) = false := by simp [h0]
    by_cases h1 : d.kind = 1
    · have H : Hid (ndOk n D now d = fileOk now d) := (if_neg h0).trans (if_pos h1)
      have b1 : (d.kind == 1) = true := by simp [h1]
      clear h0 h1
      go_enter Try.func23, Try.ntmps23
      go_wp2_with fail
      refine (l2Text_any d.text _ hf.text).mono ?_
      rintro e w1 ⟨rfl, rfl⟩
      cases htx : textOk d.text with
      | false =>
        have HT : Hid (textOk d.text = false) := htx
        clear htx
        go_wp2_with fail
        go_ret
        exact ⟨((Below.refl _ _).alloc (Nat.le_refl _) _).alloc (by simp) _, ret_bool (by rw [H.out]; unfold fileOk; rw [HT.out]; rfl)⟩
      | true =>
        have HT : Hid (textOk d.text = true) := htx
        clear htx
        go_wp2_with fail
        all_goals
          go_ret
          exact ⟨((Below.refl _ _).alloc (Nat.le_refl _) _).alloc (by simp) _, ret_bool (by rw [H.out]; unfold fileOk; rw [HT.out]; (first | (simp [*]; done) | (simp [*]; omega)))⟩
    · have n1 : (d.kind == 1) = false := by simp [h1]
      by_cases h2 : d.kind = 2
      · have H : Hid (ndOk n D now d = dirOk n D now d) := ((if_neg h0).trans (if_neg h1)).trans (if_pos h2)
        have b2 : (d.kind == 2) = true := by simp [h2]
        clear h0 h1 h2
        go_enter Try.func23, Try.ntmps23
        go_wp2_with fail
        rotate_left
        · go_ret
          exact ⟨((Below.refl _ _).alloc (Nat.le_refl _) _).alloc (by simp) _, ret_bool (by rw [H.out]; unfold dirOk; simp [*])⟩
        have htx : Hid (d.text.toList = []) := ‹d.text.toList = []›
        refine at_world (F := New2 w _ _ _ _) (new2 w _ _ _ _) ?_
        rintro W ⟨ht, hd, hb, hs⟩
        refine (l2Names_any l.nA d.nn l.nc d.names W (hI.1.below (Nat.le_refl _) hb) hf.names hf.nn).mono ?_
        rintro e w1 ⟨⟨q, rfl⟩, rfl⟩
        have t0 : W.cell? ⟨w.heap.size, 0, none⟩ = some (.slice a n c) := ht.cell 0
        have t1 : W.cell? ⟨w.heap.size, 1, none⟩ = some (.int .i64 now) := ht.cell 1
        have d0 : W.cell? ⟨w.heap.size + 1, 0, none⟩ = some (.int .i64 d.kind) := hd.cell 0
        have d1 : W.cell? ⟨w.heap.size + 1, 1, none⟩ = some (.string d.text) := hd.cell 1
        have d2 : W.cell? ⟨w.heap.size + 1, 2, none⟩ = some (.slice l.nA d.nn l.nc) := hd.cell 2
        have d3 : W.cell? ⟨w.heap.size + 1, 3, none⟩ = some (.slice l.kA d.kn l.kc) := hd.cell 3
        have d4 : W.cell? ⟨w.heap.size + 1, 4, none⟩ = some (.int .i64 d.turn) := hd.cell 4
        cases hnm : dirNames d.names d.nn with
        | false =>
          have HN : Hid (dirNames d.names d.nn = false) := hnm
          have HB : Hid (Below w.heap.size w W) := hb
          clear hnm ht hd hb hs
          go_wp2_with fail
          go_ret
          exact ⟨below_drewN HB.out _, ret_bool (by rw [H.out]; unfold dirOk; rw [HN.out]; simp)⟩
        | true =>
          have HN : Hid (dirNames d.names d.nn = true) := hnm
          have HB : Hid (Below w.heap.size w W ∧ Blk W w.heap.size _ _ ∧ Blk W (w.heap.size + 1) _ _) := ⟨hb, ht, hd⟩
          clear hnm ht hd hb
          go_wp2_with fail
          have hbq := below_drewN HB.out.1 q
          refine (l2Kids_any a n c now D L d l (W.drewN q) (hS.below (Nat.le_refl _) hbq) (hI.below (Nat.le_refl _) hbq) hf hn).mono ?_
          rintro e w1 ⟨hb1, rfl⟩
          have hb1' : Below W.heap.size W w1 := (below_drewN (Below.refl _ _) q).trans hb1
          have hB := HB.out.1.trans (hb1'.mono HB.out.1.size)
          have T1 : w1.cell? ⟨w.heap.size, 1, none⟩ = some (.int .i64 now) := (HB.out.2.1.below hb1' (by omega)).cell 1
          have D4 : w1.cell? ⟨w.heap.size + 1, 4, none⟩ = some (.int .i64 d.turn) := (HB.out.2.2.below hb1' (by omega)).cell 4
          have HBB : Hid (Below w.heap.size w w1) := hB
          clear t0 t1 d0 d1 d2 d3 d4 hB hb1 hb1' HB hbq
          cases hkk : (kidsOk n D d.kids d.kn && decide (d.kn = d.nn)) with
          | false =>
            have HK : Hid ((kidsOk n D d.kids d.kn && decide (d.kn = d.nn)) = false) := hkk
            clear hkk
            go_wp2_with fail
            go_ret
            exact ⟨HBB.out, ret_bool (by rw [H.out]; unfold dirOk; rw [HK.out]; simp)⟩
          | true =>
            have HK : Hid ((kidsOk n D d.kids d.kn && decide (d.kn = d.nn)) = true) := hkk
            clear hkk
            go_wp2_with fail
            all_goals
              go_ret
              exact ⟨HBB.out, ret_bool (by rw [H.out]; unfold dirOk; rw [HK.out, HN.out, htx.out]; (first | (simp [*]; done) | (simp [*]; omega)))⟩
      · have n2 : (d.kind == 2) = false := by simp [h2]
        have H : Hid (ndOk n D now d = false) := ((if_neg h0).trans (if_neg h1)).trans (if_neg h2)
        clear h0 h1 h2
        go_enter Try.func23, Try.ntmps23
        go_wp2_with fail
        go_ret
        exact ⟨((Below.refl _ _).alloc (Nat.le_refl _) _).alloc (by simp) _, ret_bool H.out.symm⟩
end Go.Proofs.Ytlikmphjocjmeaa

/-
  What l2Refs of the specification answers: how many names a place has.
-/
namespace Go.Proofs.Ytlikmphjocjmeaa
open Go.RowKit
set_option linter.unusedVariables false

/-- How many of the first k are z. -/
def cnt (Z : Nat → Int) (z : Int) : Nat → Nat | 0 => 0 | k + 1 => cnt Z z k + (if Z k = z then 1 else 0)
/-- How many names a place has in the first i directories. -/
def refsTo (D : Nat → Nd) (z : Int) : Nat → Nat | 0 => 0 | i + 1 => refsTo D z i + cnt (D i).kids z (D i).kn

theorem cnt_le (Z : Nat → Int) (z : Int) (k : Nat) : cnt Z z k ≤ k := by
  induction k with
  | zero => exact Nat.le_refl _
  | succ k ih => unfold cnt; split <;> omega

theorem refsTo_le (D : Nat → Nd) (z : Int) (i : Nat) : refsTo D z i ≤ sizeTo D i := by
  induction i with
  | zero => exact Nat.le_refl _
  | succ i ih =>
    unfold refsTo
    rw [sizeTo_succ]
    have := cnt_le (D i).kids z (D i).kn
    unfold Nd.size
    omega

theorem sizeTo_mono (D : Nat → Nd) {i j : Nat} (h : i ≤ j) : sizeTo D i ≤ sizeTo D j := by
  induction j with
  | zero => have : i = 0 := by omega
            subst this; exact Nat.le_refl _
  | succ j ih =>
    by_cases e : i = j + 1
    · subst e; exact Nat.le_refl _
    · have := ih (by omega)
      rw [sizeTo_succ]; omega

/-- What is known within l2Refs. -/
structure RefsIn (w : World) (a : Option Addr) (n c : Nat) (now : Int) (W : World) : Prop where
  t : Blk W w.heap.size #[.slice a n c, .int .i64 now] 25
  bel : Below w.heap.size w W

theorem RefsIn.drew {w : World} {a : Option Addr} {n c : Nat} {now : Int} {W : World} (h : RefsIn w a n c now W) (q : Nat) : RefsIn w a n c now (W.drewN q) := ⟨h.t, below_drewN h.bel q⟩

set_option maxHeartbeats 1000000 in
theorem l2Refs_any (a : Option Addr) (n c : Nat) (now ino : Int) (D : Nat → Nd) (L : Nat → Loc) (w : World) (hS : IsNds w a n D L) (hsz : sizeTo D n ≤ 1048576) (hn : n ≤ maxLen) :
    Calls Try.prog 25 #[trV a n c now, .int .i64 ino] w fun e w' => Below w.heap.size w w' ∧ e = .returned (.int .i64 (refsTo D ino n)) := by
  unfold maxLen at hn
  unfold trV
  go_enter Try.func25, Try.ntmps25
  go_wp2
  go_loopw [5, 6] (fun r i wr => ∃ k : Nat, k ≤ n ∧ i = .int .i64 k ∧ r = .int .i64 (refsTo D ino k) ∧ RefsIn w a n c now wr) (fun _ i _ => n - (intOf i).toNat)
  case atStart => exact ⟨0, Nat.zero_le _, rfl, rfl, (new1 w _ _).b0, (new1 w _ _).bel⟩
  case round =>
    obtain ⟨k, hk, rfl, rfl, hin⟩ := hrel
    have t0 : wr.cell? ⟨w.heap.size, 0, none⟩ = some (.slice a n c) := hin.t.cell 0
    by_cases hlt : k < n
    · have HIN : Hid (RefsIn w a n c now wr) := hin
      have hSr := hS.below (Nat.le_refl _) hin.bel
      have hrk := refsTo_le D ino k
      have hmono := sizeTo_mono D (show k + 1 ≤ n from hlt)
      rw [sizeTo_succ] at hmono
      have hkk : (D k).kn ≤ (D k).size := by unfold Nd.size; omega
      clear hin
      go_wp2_with fail
      go_loopw [5, 7] (fun r i wr => ∃ j : Nat, j ≤ (D k).kn ∧ i = .int .i64 j ∧ r = .int .i64 ((refsTo D ino k + cnt (D k).kids ino j : Nat) : Int) ∧ RefsIn w a n c now wr) (fun _ i _ => (D k).kn - (intOf i).toNat)
      case atStart => exact ⟨0, Nat.zero_le _, rfl, rfl, HIN.out⟩
      case round =>
        obtain ⟨j, hj, rfl, rfl, hin⟩ := hrel
        have t0 : wr.cell? ⟨w.heap.size, 0, none⟩ = some (.slice a n c) := hin.t.cell 0
        have hSr := hS.below (Nat.le_refl _) hin.bel
        obtain ⟨b, off, ha, hlt2, hc⟩ := hSr.at hlt
        obtain ⟨_, _, _, c3, _, hI⟩ := hc k hlt
        have HIN : Hid (RefsIn w a n c now wr) := hin
        rw [ha] at t0
        have hlti : (k : Int) < (n : Int) := by omega
        have hcj := cnt_le (D k).kids ino j
        clear hc hin hSr
        by_cases hltj : j < (D k).kn
        · obtain ⟨b', off', ha', hlt2', hc'⟩ := hI.2.at hltj
          have h1 := hc' j hltj
          rw [ha'] at c3
          clear hc' hI
          by_cases hz : (D k).kids j = ino
          · have hzb : ((D k).kids j == ino) = true := by simp [hz]
            have HZ : Hid (cnt (D k).kids ino (j + 1) = cnt (D k).kids ino j + 1) := by show cnt (D k).kids ino (j + 1) = _; rw [cnt, if_pos hz]
            clear hz
            go_wp2
            go_roundw
            case rel => exact ⟨j + 1, by omega, by go_num, by rw [HZ.out]; go_num, HIN.out⟩
            case measure => simp [intOf]; omega
          · have hzb : ((D k).kids j == ino) = false := by simp [hz]
            have HZ : Hid (cnt (D k).kids ino (j + 1) = cnt (D k).kids ino j) := by show cnt (D k).kids ino (j + 1) = _; rw [cnt, if_neg hz]; rfl
            clear hz
            go_wp2
            go_roundw
            case rel => exact ⟨j + 1, by omega, by go_num, by rw [HZ.out], HIN.out⟩
            case measure => simp [intOf]; omega
        · have hje : j = (D k).kn := by omega
          have HZ : Hid (refsTo D ino (k + 1) = refsTo D ino k + cnt (D k).kids ino j) := by show refsTo D ino (k + 1) = _; rw [refsTo, hje]
          clear hje
          go_wp2
          go_roundw
          case rel => exact ⟨k + 1, by omega, by go_num, by rw [HZ.out], HIN.out⟩
          case measure => simp [intOf]; omega
    · have hke : k = n := by omega
      have HK : Hid (refsTo D ino k = refsTo D ino n ∧ Below w.heap.size w wr) := ⟨by rw [hke], hin.bel⟩
      clear hke hin
      go_wp2
      go_ret
      exact ⟨HK.out.2, by rw [HK.out.1]; rfl⟩
end Go.Proofs.Ytlikmphjocjmeaa

/-
  Which places are reached from the root: plain facts. Marks that grow round by round come to just these within as many rounds as there are places.
-/
namespace Go.Proofs.Ytlikmphjocjmeaa
set_option linter.unusedVariables false

/-- A place that is reached from the root. -/
inductive Reach (n : Nat) (D : Nat → Nd) : Nat → Prop
  | root : Reach n D 0
  | step {i j : Nat} : Reach n D i → i < n → j < (D i).kn → Reach n D ((D i).kids j).toNat

/-- So many of the first k are marked. -/
def cntB (m : Nat → Bool) : Nat → Nat | 0 => 0 | k + 1 => cntB m k + (if m k = true then 1 else 0)

theorem cntB_le (m : Nat → Bool) (k : Nat) : cntB m k ≤ k := by
  induction k with
  | zero => exact Nat.le_refl _
  | succ k ih => unfold cntB; split <;> omega

theorem cntB_mono {m m' : Nat → Bool} (h : ∀ j, m j = true → m' j = true) (k : Nat) : cntB m k ≤ cntB m' k := by
  induction k with
  | zero => exact Nat.le_refl _
  | succ k ih =>
    unfold cntB
    by_cases hk : m k = true
    · rw [if_pos hk, if_pos (h k hk)]; omega
    · rw [if_neg hk]; omega

theorem cntB_lt {m m' : Nat → Bool} (h : ∀ j, m j = true → m' j = true) {i : Nat} (h1 : ¬ m i = true) (h2 : m' i = true) (k : Nat) (hi : i < k) : cntB m k + 1 ≤ cntB m' k := by
  induction k with
  | zero => omega
  | succ k ih =>
    unfold cntB
    by_cases e : i = k
    · subst e
      rw [if_neg h1, if_pos h2]
      have := cntB_mono h i
      omega
    · have := ih (by omega)
      by_cases hk : m k = true
      · rw [if_pos hk, if_pos (h k hk)]; omega
      · rw [if_neg hk]; omega

theorem cntB_one {m : Nat → Bool} (h : m 0 = true) (k : Nat) (hk : 1 ≤ k) : 1 ≤ cntB m k := by
  induction k with
  | zero => omega
  | succ k ih =>
    unfold cntB
    by_cases e : k = 0
    · subst e
      rw [if_pos h]; omega
    · have := ih (by omega)
      omega

/-- What is marked leads to what is marked. -/
def Closed (n : Nat) (D : Nat → Nd) (m : Nat → Bool) : Prop := ∀ i, i < n → m i = true → ∀ j, j < (D i).kn → m ((D i).kids j).toNat = true
/-- What is marked is reached. -/
def Sound (n : Nat) (D : Nat → Nd) (m : Nat → Bool) : Prop := ∀ i, m i = true → Reach n D i

/-- Behind r rounds. -/
structure Rounds (n : Nat) (D : Nat → Nd) (r : Nat) (m : Nat → Bool) : Prop where
  sound : Sound n D m
  root : m 0 = true
  more : Closed n D m ∨ r + 1 ≤ cntB m n

/-- Within a round that began with m0: the first i directories are through. -/
structure Pass (n : Nat) (D : Nat → Nd) (m0 : Nat → Bool) (i : Nat) (m : Nat → Bool) : Prop where
  sound : Sound n D m
  sub : ∀ j, m0 j = true → m j = true
  shut : Closed n D m0 → ∀ j, m j = true → m0 j = true
  kids : ∀ i', i' < i → m0 i' = true → ∀ j, j < (D i').kn → m ((D i').kids j).toNat = true

theorem Rounds.start {n : Nat} {D : Nat → Nd} (hn : 1 ≤ n) : Rounds n D 0 (fun j => decide (j = 0)) :=
  ⟨fun i hi => by simp at hi; subst hi; exact .root, by simp, Or.inr (cntB_one (by simp) n hn)⟩

theorem Rounds.pass {n : Nat} {D : Nat → Nd} {r : Nat} {m : Nat → Bool} (h : Rounds n D r m) : Pass n D m 0 m := ⟨h.sound, fun _ h => h, fun _ _ h => h, fun i' hi => by omega⟩

/-- One mark more. -/
theorem Pass.put {n : Nat} {D : Nat → Nd} {m0 : Nat → Bool} {i : Nat} {m : Nat → Bool} (h : Pass n D m0 i m) (hi : i < n) (hm : m i = true) {j : Nat} (hj : j < (D i).kn) :
    Pass n D m0 i (fun x => if x = ((D i).kids j).toNat then true else m x) := by
  refine ⟨fun x hx => ?_, fun x hx => ?_, fun hc x hx => ?_, fun i' hi' hm' j' hj' => ?_⟩
  · by_cases e : x = ((D i).kids j).toNat
    · subst e; exact .step (h.sound i hm) hi hj
    · simp only [if_neg e] at hx; exact h.sound x hx
  · by_cases e : x = ((D i).kids j).toNat
    · simp [e]
    · simp only [if_neg e]; exact h.sub x hx
  · by_cases e : x = ((D i).kids j).toNat
    · subst e; exact hc i hi (h.shut hc i hm) j hj
    · simp only [if_neg e] at hx; exact h.shut hc x hx
  · have := h.kids i' hi' hm' j' hj'
    by_cases e : ((D i').kids j').toNat = ((D i).kids j).toNat
    · simp [e]
    · simp only [if_neg e]; exact this

theorem Pass.next {n : Nat} {D : Nat → Nd} {m0 : Nat → Bool} {i : Nat} {m : Nat → Bool} (h : Pass n D m0 i m) (hk : m0 i = true → ∀ j, j < (D i).kn → m ((D i).kids j).toNat = true) : Pass n D m0 (i + 1) m :=
  ⟨h.sound, h.sub, h.shut, fun i' hi' hm => by
    by_cases e : i' = i
    · subst e; exact hk hm
    · exact h.kids i' (by omega) hm⟩

theorem Pass.done {n : Nat} {D : Nat → Nd} {m0 : Nat → Bool} {m : Nat → Bool} {r : Nat} (h0 : Rounds n D r m0) (h : Pass n D m0 n m) (hk : ∀ i, i < n → ∀ j, j < (D i).kn → 0 ≤ (D i).kids j ∧ (D i).kids j < n) : Rounds n D (r + 1) m := by
  refine ⟨h.sound, h.sub 0 h0.root, ?_⟩
  by_cases hc : Closed n D m0
  · left
    intro i hi hm j hj
    exact h.sub _ (hc i hi (h.shut hc i hm) j hj)
  · right
    have hr : r + 1 ≤ cntB m0 n := h0.more.resolve_left hc
    unfold Closed at hc
    simp only [Classical.not_forall] at hc
    obtain ⟨i, hi, hm, j, hj, hx⟩ := hc
    have hb := hk i hi j hj
    have := cntB_lt h.sub hx (h.kids i hi hm j hj) n (by omega)
    omega

/-- The marks at the end are just the places that are reached. -/
theorem Rounds.fin {n : Nat} {D : Nat → Nd} {m : Nat → Bool} (h : Rounds n D n m) (hk : ∀ i, i < n → ∀ j, j < (D i).kn → 0 ≤ (D i).kids j ∧ (D i).kids j < n) (i : Nat) : m i = true ↔ Reach n D i := by
  have hc : Closed n D m := by
    rcases h.more with hc | hc
    · exact hc
    · have := cntB_le m n; omega
  refine ⟨h.sound i, fun hr => ?_⟩
  induction hr with
  | root => exact h.root
  | step hr hi hj ih => exact hc _ hi ih _ hj
end Go.Proofs.Ytlikmphjocjmeaa

/-
  What l2Marks of the specification answers: which places are reached from the root.
-/
namespace Go.Proofs.Ytlikmphjocjmeaa
open Go.RowKit
set_option linter.unusedVariables false

theorem infoBool : (Try.prog.info? 4).map (fun i => (i.zero, i.size, i.bytes)) = some (some (.bool false), 1, 1) := by kernel_rfl

/-- What is known within l2Marks. -/
structure MarksIn (w : World) (a : Option Addr) (n c : Nat) (now : Int) (m : Nat → Bool) (W : World) : Prop where
  t : Blk W w.heap.size #[.slice a n c, .int .i64 now] 25
  row : W.rowIs (w.heap.size + 1) 4 n (fun j => .bool (m j))
  bel : Below w.heap.size w W

theorem MarksIn.put {w : World} {a : Option Addr} {n c : Nat} {now : Int} {m : Nat → Bool} {W : World} (h : MarksIn w a n c now m W) (x : Nat) :
    MarksIn w a n c now (fun j => if j = x then true else m j) (W.setCell ⟨w.heap.size + 1, x, none⟩ (.bool true)) :=
  ⟨h.t.off _ (by omega), (h.row.set x (.bool true)).congr (fun i _ => by by_cases e : i = x <;> simp [e]), bel_put h.bel _ (by omega)⟩

theorem marks_start (w : World) (a : Option Addr) (n c : Nat) (now : Int) : MarksIn w a n c now (fun j => decide (j = 0))
    ((w.alloc (.cells #[.slice a n c, .int .i64 now] 25)).alloc (.cells ((madeCells #[.bool false] n).setIfInBounds 0 (.bool true)) 4)) := by
  have h := new2 w #[.slice a n c, .int .i64 now] 25 ((madeCells #[.bool false] n).setIfInBounds 0 (.bool true)) 4
  refine ⟨h.b0, ⟨_, h.b1, by simp [size_madeCells], fun i hi => ?_⟩, h.bel⟩
  rw [Array.getElem?_setIfInBounds]
  by_cases e : 0 = i
  · subst e
    simp [size_madeCells, hi]
  · rw [if_neg e]
    have : ¬ i = 0 := fun h => e h.symm
    simp [madeCells, hi, Nat.mod_one, this]

set_option maxHeartbeats 2000000 in
theorem l2Marks_any (a : Option Addr) (n c : Nat) (now : Int) (D : Nat → Nd) (L : Nat → Loc) (w : World) (hS : IsNds w a n D L) (h1 : 1 ≤ n) (hn : n ≤ 1048576) (hsm : ∀ i, i < n → (D i).kn ≤ maxLen) (hk : ∀ i, i < n → ∀ j, j < (D i).kn → 0 ≤ (D i).kids j ∧ (D i).kids j < n) :
    Calls Try.prog 24 #[trV a n c now] w fun e w' => Below w.heap.size w w' ∧ e = .returned (.slice (some ⟨w.heap.size + 1, 0, none⟩) n n) ∧ ∃ m : Nat → Bool, w'.rowIs (w.heap.size + 1) 4 n (fun j => .bool (m j)) ∧ ∀ j, m j = true ↔ Reach n D j := by
  have hmk := fun w => run_make_row' (P := Try.prog) 46 4 (.bool false) 1 Try.underlying46 infoBool rfl .i64 .i64 n (by omega) (by omega) w
  have hm0 : (madeCells #[Value.bool false] n)[0]? = some (.bool false) := by simp [madeCells, show 0 < n from h1]
  unfold trV
  go_enter Try.func24, Try.ntmps24
  go_wp2
  go_loopw [4] (fun i wr => ∃ (r : Nat) (m : Nat → Bool), r ≤ n ∧ i = .int .i64 r ∧ MarksIn w a n c now m wr ∧ Rounds n D r m) (fun i _ => n - (intOf i).toNat)
  case atStart => exact ⟨0, _, Nat.zero_le _, rfl, marks_start w a n c now, Rounds.start h1⟩
  case round =>
    obtain ⟨r, m0, hr, rfl, hin, hrd⟩ := hrel
    have t0 : wr.cell? ⟨w.heap.size, 0, none⟩ = some (.slice a n c) := hin.t.cell 0
    by_cases hlt : r < n
    · have HIN : Hid (MarksIn w a n c now m0 wr ∧ Rounds n D r m0) := ⟨hin, hrd⟩
      clear hin hrd hmk hm0
      go_wp2_with fail
      go_loopw [5] (fun i wr => ∃ (i' : Nat) (m : Nat → Bool), i' ≤ n ∧ i = .int .i64 i' ∧ MarksIn w a n c now m wr ∧ Pass n D m0 i' m) (fun i _ => n - (intOf i).toNat)
      case atStart => exact ⟨0, m0, Nat.zero_le _, rfl, HIN.out.1, HIN.out.2.pass⟩
      case round =>
        obtain ⟨i, m1, hi, rfl, hin, hps⟩ := hrel
        have t0 : wr.cell? ⟨w.heap.size, 0, none⟩ = some (.slice a n c) := hin.t.cell 0
        by_cases hlti : i < n
        · have HI : Hid (MarksIn w a n c now m1 wr ∧ Pass n D m0 i m1) := ⟨hin, hps⟩
          clear hin hps
          go_wp2_with fail
          go_loopw [6] (fun j wr => ∃ (j' : Nat) (m : Nat → Bool), j' ≤ (D i).kn ∧ j = .int .i64 j' ∧ MarksIn w a n c now m wr ∧ Pass n D m0 i m ∧ (m0 i = true → ∀ x, x < j' → m ((D i).kids x).toNat = true)) (fun j _ => (D i).kn - (intOf j).toNat)
          case atStart => exact ⟨0, m1, Nat.zero_le _, rfl, HI.out.1, HI.out.2, fun _ x hx => by omega⟩
          case round =>
            obtain ⟨j, m, hj, rfl, hin, hps, hkd⟩ := hrel
            have t0 : wr.cell? ⟨w.heap.size, 0, none⟩ = some (.slice a n c) := hin.t.cell 0
            have hSr := hS.below (Nat.le_refl _) hin.bel
            obtain ⟨b, off, ha, hlt2, hc⟩ := hSr.at hlti
            obtain ⟨_, _, _, c3, _, hI⟩ := hc i hlti
            rw [ha] at t0
            have hii : (i : Int) < (n : Int) := by omega
            have hknb := hsm i hlti
            unfold maxLen at hknb
            have mi : wr.cell? ⟨w.heap.size + 1, i, none⟩ = some (.bool (m i)) := hin.row.cell hlti
            clear hc hSr
            by_cases hltj : j < (D i).kn
            · obtain ⟨b', off', ha', hlt2', hc'⟩ := hI.2.at hltj
              have hz := hc' j hltj
              rw [ha'] at c3
              obtain ⟨hk0, hk1⟩ := hk i hlti j hltj
              obtain ⟨x, hx⟩ : ∃ x : Nat, (D i).kids j = x := ⟨((D i).kids j).toNat, by omega⟩
              have hxn : x < n := by omega
              have hjj : (j : Int) < ((D i).kn : Int) := by omega
              rw [hx] at hz
              cases hmi : m i with
              | true =>
                rw [hmi] at mi
                have xc : wr.cell? ⟨w.heap.size + 1, x, none⟩ = some (.bool (m x)) := hin.row.cell hxn
                have xf := hin.row.frozen x
                have HALL : Hid (MarksIn w a n c now m wr ∧ Pass n D m0 i m ∧ (m0 i = true → ∀ x, x < j → m ((D i).kids x).toNat = true) ∧ m i = true ∧ ((D i).kids j).toNat = x) := ⟨hin, hps, hkd, hmi, by rw [hx]; rfl⟩
                clear hin hps hkd hmi hc' hI hx hk0 hk1
                go_wp2
                go_roundw
                case rel =>
                  obtain ⟨h1, h2, h3, h4, h5⟩ := HALL.out
                  have h6 := h2.put hlti h4 hltj
                  rw [h5] at h6
                  refine ⟨j + 1, _, by omega, by go_num, h1.put x, h6, fun h0 y hy => ?_⟩
                  by_cases e : y = j
                  · subst e; simp [h5]
                  · have := h3 h0 y (by omega)
                    by_cases e2 : ((D i).kids y).toNat = x
                    · simp [e2]
                    · simp only [if_neg e2]; exact this
                case measure => simp [intOf]; omega
              | false =>
                rw [hmi] at mi
                have HALL : Hid (MarksIn w a n c now m wr ∧ Pass n D m0 (i + 1) m) := ⟨hin, hps.next (fun h0 => by have := hps.sub i h0; rw [hmi] at this; cases this)⟩
                clear hin hps hkd hmi hc' hI hx hk0 hk1
                go_wp2
                go_roundw
                case rel => exact ⟨i + 1, m, by omega, by go_num, HALL.out.1, HALL.out.2⟩
                case measure => simp [intOf]; omega
            · have hje : j = (D i).kn := by omega
              have HALL : Hid (MarksIn w a n c now m wr ∧ Pass n D m0 (i + 1) m) := ⟨hin, hps.next (fun h0 y hy => hkd h0 y (by omega))⟩
              clear hin hps hkd hje hI
              go_wp2
              go_roundw
              case rel => exact ⟨i + 1, m, by omega, by go_num, HALL.out.1, HALL.out.2⟩
              case measure => simp [intOf]; omega
        · have hie : i = n := by omega
          have HALL : Hid (MarksIn w a n c now m1 wr ∧ Rounds n D (r + 1) m1) := ⟨hin, Pass.done HIN.out.2 (hie ▸ hps) hk⟩
          clear hin hps hie
          go_wp2
          go_roundw
          case rel => exact ⟨r + 1, m1, by omega, by go_num, HALL.out.1, HALL.out.2⟩
          case measure => simp [intOf]; omega
    · have hre : r = n := by omega
      have HALL : Hid (MarksIn w a n c now m0 wr ∧ Rounds n D n m0) := ⟨hin, hre ▸ hrd⟩
      clear hin hrd hre hmk hm0
      go_wp2
      go_ret
      exact ⟨HALL.out.1.bel, rfl, m0, HALL.out.1.row, HALL.out.2.fin hk⟩
end Go.Proofs.Ytlikmphjocjmeaa

/-
  What TreeOk of the specification answers.
-/
namespace Go.Proofs.Ytlikmphjocjmeaa
open Go.RowKit
set_option linter.unusedVariables false

/-- A tree that is one. -/
structure TreeGood (n : Nat) (D : Nat → Nd) (now : Int) : Prop where
  some : 1 ≤ n
  few : n ≤ 10
  begun : 1 ≤ now
  soon : now ≤ 1000
  root : (D 0).kind = 2
  nodes : ∀ i, i < n → ndOk n D now (D i) = true
  reach : ∀ i, 1 ≤ i → i < n → (Reach n D i ↔ (D i).kind ≠ 0)
  one : ∀ i, 1 ≤ i → i < n → (D i).kind = 2 → refsTo D i n = 1

/-- Places in the directories of such a tree lead to places. -/
theorem kids_in {n : Nat} {D : Nat → Nd} {now : Int} (h : ∀ i, i < n → ndOk n D now (D i) = true) : ∀ i, i < n → ∀ j, j < (D i).kn → 0 ≤ (D i).kids j ∧ (D i).kids j < n := by
  intro i hi j hj
  have := h i hi
  unfold ndOk at this
  split at this
  · unfold freeOk at this; simp at this; omega
  · split at this
    · unfold fileOk at this; simp at this; omega
    · split at this
      · unfold dirOk at this
        simp only [Bool.and_eq_true] at this
        have hk := List.all_eq_true.1 this.1.1.2.1 j (by simpa using hj)
        unfold kidOk at hk
        simp at hk
        omega
      · cases this

theorem tree_mark {n : Nat} {D : Nat → Nd} {now : Int} (h : TreeGood n D now) {m : Bool} {i : Nat} (hm : m = true ↔ Reach n D i) (h1 : 1 ≤ i) (h2 : i < n) : m = ((D i).kind != 0) := by
  have := h.reach i h1 h2
  cases hk : ((D i).kind != 0) with
  | true => exact hm.2 (this.2 (by simpa using hk))
  | false =>
    rw [Bool.eq_false_iff]
    intro hm'
    exact this.1 (hm.1 hm') (by simpa using hk)

set_option maxHeartbeats 2000000 in
theorem specTreeOk_any (a : Option Addr) (n c : Nat) (now : Int) (D : Nat → Nd) (L : Nat → Loc) (w : World) (hS : IsNds w a n D L) (hf : FitAll n D) (hn : n ≤ maxLen) (hsz : sizeTo D n ≤ 1048576) :
    Calls Try.prog 8 #[trV a n c now] w fun e w' => Below w.heap.size w w' ∧ ∃ r : Bool, e = .returned (.bool r) ∧ (r = true ↔ TreeGood n D now) := by
  by_cases hhead : 1 ≤ n ∧ n ≤ 10 ∧ 1 ≤ now ∧ now ≤ 1000 ∧ (D 0).kind = 2
  · obtain ⟨h1, h2, h3, h4, h5⟩ := hhead
    obtain ⟨b, off, rfl, hlt2, hc⟩ := hS.at (show 0 < n from h1)
    have c0 := (hc 0 h1).1
    rw [Nat.zero_mul, Nat.add_zero] at c0
    have hk0 : ((D 0).kind != 2) = false := by simp [h5]
    have H5 : Hid ((D 0).kind = 2) := h5
    have hb1 : decide ((n : Int) < 1) = false := by simp; omega
    have hb2 : decide (10 < (n : Int)) = false := by simp; omega
    have hb3 : decide (now < 1) = false := by simp; omega
    have hb4 : decide (1000 < now) = false := by simp; omega
    clear hc h5
    unfold trV
    go_enter Try.func8, Try.ntmps8
    go_wp2_with fail
    go_loopw [3] (fun i wr => ∃ k : Nat, k ≤ n ∧ i = .int .i64 k ∧ RefsIn w (some ⟨b, off, none⟩) n c now wr ∧ ∀ i, i < k → ndOk n D now (D i) = true) (fun i _ => n - (intOf i).toNat)
    case atStart => exact ⟨0, Nat.zero_le _, rfl, ⟨(new1 w _ _).b0, (new1 w _ _).bel⟩, fun i hi => by omega⟩
    case round =>
      obtain ⟨k, hk, rfl, hin, hall⟩ := hrel
      have t0 : wr.cell? ⟨w.heap.size, 0, none⟩ = some (.slice (some ⟨b, off, none⟩) n c) := hin.t.cell 0
      have t1 : wr.cell? ⟨w.heap.size, 1, none⟩ = some (.int .i64 now) := hin.t.cell 1
      have hSr := hS.below (Nat.le_refl _) hin.bel
      have hwl : w.heap.size < wr.heap.size := hin.t.lt
      clear c0
      by_cases hlt : k < n
      · obtain ⟨b', off', ha, hlt2', hc⟩ := hSr.at hlt
        cases ha
        obtain ⟨c0, c1, c2, c3, c4, hI⟩ := hc k hlt
        have hki : (k : Int) < (n : Int) := by omega
        have C0 := Lat.cell (B := wr.heap.size) c0 hlt2'
        have C1 := Lat.cell (B := wr.heap.size) c1 hlt2'
        have C2 := Lat.cell (B := wr.heap.size) c2 hlt2'
        have C3 := Lat.cell (B := wr.heap.size) c3 hlt2'
        have C4 := Lat.cell (B := wr.heap.size) c4 hlt2'
        have T0 := Lat.cell (B := wr.heap.size) t0 hwl
        have T1 := Lat.cell (B := wr.heap.size) t1 hwl
        have hcall : Hid (∀ q : Lat wr.heap.size wr, Calls Try.prog 23 #[trV (some ⟨b, off, none⟩) n c now, ndV (D k) (L k)] q.val fun e w'' => e = .returned (.bool (ndOk n D now (D k))) ∧ ∃ m : Lat wr.heap.size wr, w'' = m.val) := fun q =>
          Calls.lat_of (l2Node_any _ n c now D L (D k) (L k) q.val (hSr.below (Nat.le_refl _) q.bel) (hI.below (Nat.le_refl _) q.bel) (hf k hlt) hn) (fun e w' h => ⟨h.2, h.1.mono q.bel.size⟩)
        have HIN : Hid (RefsIn w (some ⟨b, off, none⟩) n c now wr ∧ ∀ i, i < k → ndOk n D now (D i) = true) := ⟨hin, hall⟩
        clear hc c0 c1 c2 c3 c4 hI hSr hin hall
        go_wp2_with fail
        refine wp_region_lat (B := wr.heap.size) (w0 := wr) (by kernel_rfl) (by kernel_rfl) (Below.refl _ _) ?_
        repeat (go_big_quiet_step (exact hcall.out _))
        refine wpQuiet_nil ?_
        rintro _ ⟨nq, rfl⟩
        have HN : Hid (RefsIn w (some ⟨b, off, none⟩) n c now nq.val) := ⟨HIN.out.1.t.below nq.bel hwl, HIN.out.1.bel.trans (nq.bel.mono HIN.out.1.bel.size)⟩
        clear hcall C0 C1 C2 C3 C4 T0 T1 t0 t1 hwl hlt2'
        cases hq : ndOk n D now (D k) with
        | false =>
          have HQ : Hid (ndOk n D now (D k) = false) := hq
          clear hq
          go_wp2
          go_ret
          exact ⟨HN.out.bel, false, rfl, fun h => (by cases h), fun h => by have := h.nodes k hlt; rw [HQ.out] at this; cases this⟩
        | true =>
          have HQ : Hid (ndOk n D now (D k) = true) := hq
          clear hq
          go_wp2
          go_roundw
          case rel => exact ⟨k + 1, by omega, by go_num, HN.out, fun i hi => by
            by_cases e : i = k
            · subst e; exact HQ.out
            · exact HIN.out.2 i (by omega)⟩
          case measure => simp [intOf]; omega
      · have hke : k = n := by omega
        have hall' : Hid (∀ i, i < n → ndOk n D now (D i) = true) := fun i hi => hall i (by omega)
        have HIN : Hid (RefsIn w (some ⟨b, off, none⟩) n c now wr) := hin
        clear hke hall hin
        go_wp2_with fail
        refine (l2Marks_any _ n c now D L wr hSr h1 (by omega) (fun i hi => (hf i hi).kn) (kids_in hall'.out)).mono ?_
        rintro e w1 ⟨hb1, rfl, m, hrow, hm⟩
        have HM : Hid (RefsIn w (some ⟨b, off, none⟩) n c now w1 ∧ w1.rowIs (wr.heap.size + 1) 4 n (fun j => .bool (m j)) ∧ ∀ j, m j = true ↔ Reach n D j) := ⟨⟨HIN.out.t.below hb1 hwl, HIN.out.bel.trans (hb1.mono HIN.out.bel.size)⟩, hrow, hm⟩
        clear hb1 hrow hm hSr t0 t1
        have hw2 : w.heap.size < wr.heap.size + 1 := by omega
        generalize wr.heap.size + 1 = bm at *
        go_wp2_with fail
        go_loopw [5] (fun i wr => ∃ k : Nat, 1 ≤ k ∧ k ≤ n ∧ i = .int .i64 k ∧ RefsIn w (some ⟨b, off, none⟩) n c now wr ∧ wr.rowIs bm 4 n (fun j => .bool (m j)) ∧ ∀ i, 1 ≤ i → i < k → m i = ((D i).kind != 0) ∧ ((D i).kind = 2 → refsTo D i n = 1)) (fun i _ => n - (intOf i).toNat)
        case atStart => exact ⟨1, Nat.le_refl _, h1, rfl, HM.out.1, HM.out.2.1, fun i h h' => by omega⟩
        case round =>
          obtain ⟨k, hk1, hk, rfl, hin, hrow, hall⟩ := hrel
          have t0 : wr.cell? ⟨w.heap.size, 0, none⟩ = some (.slice (some ⟨b, off, none⟩) n c) := hin.t.cell 0
          have t1 : wr.cell? ⟨w.heap.size, 1, none⟩ = some (.int .i64 now) := hin.t.cell 1
          have hSr := hS.below (Nat.le_refl _) hin.bel
          have hwl : w.heap.size < wr.heap.size := hin.t.lt
          have hbl : bm < wr.heap.size := hrow.lt
          by_cases hlt : k < n
          · obtain ⟨b', off', ha, hlt2', hc⟩ := hSr.at hlt
            cases ha
            obtain ⟨c0, c1, c2, c3, c4, hI⟩ := hc k hlt
            have hki : (k : Int) < (n : Int) := by omega
            have HIN : Hid (RefsIn w (some ⟨b, off, none⟩) n c now wr ∧ wr.rowIs bm 4 n (fun j => .bool (m j)) ∧ (∀ i, 1 ≤ i → i < k → m i = ((D i).kind != 0) ∧ ((D i).kind = 2 → refsTo D i n = 1)) ∧ IsNds wr (some ⟨b, off, none⟩) n D L) := ⟨hin, hrow, hall, hSr⟩
            have HMM : Hid (∀ j, m j = true ↔ Reach n D j) := HM.out.2.2
            clear hc hI hin hrow hall hSr HM
            go_wp2_with fail
            refine at_world (F := New1 wr _ _) (new1 wr _ _) ?_
            rintro W ⟨hp, hb, hs⟩
            refine (l2Refs_any _ n c now k D L W (HIN.out.2.2.2.below (Nat.le_refl _) hb) hsz hn).mono ?_
            rintro e w2 ⟨hb2, rfl⟩
            have hbw : Below wr.heap.size wr w2 := hb.trans (hb2.mono (by omega))
            have n0 : w2.cell? ⟨wr.heap.size, 0, none⟩ = some (.int .i64 (D k).kind) := (hp.below hb2 (by omega)).cell 0
            have hrow2 : w2.rowIs bm 4 n (fun j => .bool (m j)) := rowIs_below HIN.out.2.1 hbw hbl
            have mk : w2.cell? ⟨bm, k, none⟩ = some (.bool (m k)) := hrow2.cell hlt
            have HN : Hid (RefsIn w (some ⟨b, off, none⟩) n c now w2 ∧ w2.rowIs bm 4 n (fun j => .bool (m j))) := ⟨⟨HIN.out.1.t.below hbw hwl, HIN.out.1.bel.trans (hbw.mono HIN.out.1.bel.size)⟩, hrow2⟩
            clear hp hb hs hb2 hbw hrow2 c0 c1 c2 c3 c4 t0 t1
            cases hmk : m k with
            | true =>
              rw [hmk] at mk
              cases hkz : ((D k).kind != 0) with
              | false =>
                have HX : Hid (¬ m k = ((D k).kind != 0)) := by show ¬ _; rw [hmk, hkz]; simp
                clear hmk
                go_wp2_with fail
                go_quiet (fail)
                go_wp2
                go_ret
                exact ⟨below_drewN HN.out.1.bel _, false, rfl, fun h => (by cases h), fun h => absurd (tree_mark h (HMM.out k) hk1 hlt) HX.out⟩
              | true =>
                have HX : Hid (m k = ((D k).kind != 0)) := by show _ = _; rw [hmk, hkz]
                clear hmk
                cases hd2 : ((D k).kind == 2) with
                | false =>
                  have H2 : Hid (¬ (D k).kind = 2) := show ¬ (D k).kind = 2 by simpa using hd2
                  go_wp2_with fail
                  go_quiet (fail)
                  go_wp2
                  go_roundw
                  case rel => exact ⟨k + 1, by omega, by omega, by go_num, HN.out.1.drew _, HN.out.2, fun i hi1 hi2 => by
                    by_cases e : i = k
                    · subst e; exact ⟨HX.out, fun h => absurd h H2.out⟩
                    · exact HIN.out.2.2.1 i hi1 (by omega)⟩
                  case measure => simp [intOf]; omega
                | true =>
                  have H2 : Hid ((D k).kind = 2) := show (D k).kind = 2 by simpa using hd2
                  by_cases hr1 : refsTo D k n = 1
                  · have hrb : (((refsTo D k n : Nat) : Int) != 1) = false := by simp [hr1]
                    have HR : Hid (refsTo D k n = 1) := hr1
                    clear hr1
                    go_wp2_with fail
                    go_quiet (fail)
                    go_wp2
                    go_roundw
                    case rel => exact ⟨k + 1, by omega, by omega, by go_num, HN.out.1.drew _, HN.out.2, fun i hi1 hi2 => by
                      by_cases e : i = k
                      · subst e; exact ⟨HX.out, fun _ => HR.out⟩
                      · exact HIN.out.2.2.1 i hi1 (by omega)⟩
                    case measure => simp [intOf]; omega
                  · have hrb : (((refsTo D k n : Nat) : Int) != 1) = true := by simp; omega
                    have HR : Hid (¬ refsTo D k n = 1) := hr1
                    clear hr1
                    go_wp2_with fail
                    go_quiet (fail)
                    go_wp2
                    go_ret
                    exact ⟨below_drewN HN.out.1.bel _, false, rfl, fun h => (by cases h), fun h => absurd (h.one k hk1 hlt H2.out) HR.out⟩
            | false =>
              rw [hmk] at mk
              cases hkz : ((D k).kind != 0) with
              | true =>
                have HX : Hid (¬ m k = ((D k).kind != 0)) := by show ¬ _; rw [hmk, hkz]; simp
                clear hmk
                go_wp2_with fail
                go_quiet (fail)
                go_wp2
                go_ret
                exact ⟨below_drewN HN.out.1.bel _, false, rfl, fun h => (by cases h), fun h => absurd (tree_mark h (HMM.out k) hk1 hlt) HX.out⟩
              | false =>
                have HX : Hid (m k = ((D k).kind != 0)) := by show _ = _; rw [hmk, hkz]
                clear hmk
                have hd2 : ((D k).kind == 2) = false := by
                  have : (D k).kind = 0 := by simpa using hkz
                  rw [this]; rfl
                have H2 : Hid (¬ (D k).kind = 2) := show ¬ (D k).kind = 2 by simpa using hd2
                go_wp2_with fail
                go_quiet (fail)
                go_wp2
                go_roundw
                case rel => exact ⟨k + 1, by omega, by omega, by go_num, HN.out.1.drew _, HN.out.2, fun i hi1 hi2 => by
                  by_cases e : i = k
                  · subst e; exact ⟨HX.out, fun h => absurd h H2.out⟩
                  · exact HIN.out.2.2.1 i hi1 (by omega)⟩
                case measure => simp [intOf]; omega
          · have HALL : Hid (Below w.heap.size w wr ∧ TreeGood n D now) := ⟨hin.bel, ⟨h1, h2, h3, h4, H5.out, hall'.out, fun i hi1 hi2 => by
              have := (hall i hi1 (by omega)).1
              rw [← HM.out.2.2 i, this]; simp, fun i hi1 hi2 hk2 => (hall i hi1 (by omega)).2 hk2⟩⟩
            clear hin hrow hall hSr
            go_wp2
            go_ret
            exact ⟨HALL.out.1, true, rfl, fun _ => HALL.out.2, fun _ => rfl⟩
  · have no : Hid (¬ TreeGood n D now) := fun h => hhead ⟨h.some, h.few, h.begun, h.soon, h.root⟩
    unfold maxLen at hn
    unfold trV
    by_cases g1 : n < 1
    · have hb1 : decide ((n : Int) < 1) = true := by simp; omega
      clear hhead
      go_enter Try.func8, Try.ntmps8
      go_wp2_with fail
      go_ret
      exact ⟨(Below.refl _ _).alloc (Nat.le_refl _) _, false, rfl, fun h => (by cases h), fun h => absurd h no.out⟩
    · have hb1 : decide ((n : Int) < 1) = false := by simp; omega
      by_cases g2 : 10 < n
      · have hb2 : decide (10 < (n : Int)) = true := by simp; omega
        clear hhead
        go_enter Try.func8, Try.ntmps8
        go_wp2_with fail
        go_ret
        exact ⟨(Below.refl _ _).alloc (Nat.le_refl _) _, false, rfl, fun h => (by cases h), fun h => absurd h no.out⟩
      · have hb2 : decide (10 < (n : Int)) = false := by simp; omega
        by_cases g3 : now < 1
        · have hb3 : decide (now < 1) = true := by simp; omega
          clear hhead
          go_enter Try.func8, Try.ntmps8
          go_wp2_with fail
          go_ret
          exact ⟨(Below.refl _ _).alloc (Nat.le_refl _) _, false, rfl, fun h => (by cases h), fun h => absurd h no.out⟩
        · have hb3 : decide (now < 1) = false := by simp; omega
          by_cases g4 : 1000 < now
          · have hb4 : decide (1000 < now) = true := by simp; omega
            clear hhead
            go_enter Try.func8, Try.ntmps8
            go_wp2_with fail
            go_ret
            exact ⟨(Below.refl _ _).alloc (Nat.le_refl _) _, Or.inl ⟨rfl, no.out⟩⟩
          · have hb4 : decide (1000 < now) = false := by simp; omega
            have g5 : ¬ (D 0).kind = 2 := fun h => hhead ⟨by omega, by omega, by omega, by omega, h⟩
            have hb5 : ((D 0).kind != 2) = true := by simpa using g5
            obtain ⟨b, off, rfl, hlt2, hc⟩ := hS.at (show 0 < n by omega)
            have c0 := (hc 0 (by omega)).1
            rw [Nat.zero_mul, Nat.add_zero] at c0
            clear hc g5 hhead
            go_enter Try.func8, Try.ntmps8
            go_wp2_with fail
            go_ret
            exact ⟨(Below.refl _ _).alloc (Nat.le_refl _) _, Or.inl ⟨rfl, no.out⟩⟩
end Go.Proofs.Ytlikmphjocjmeaa

/-
  What lettersAlone and NameOk of the program answer at every text; they do not turn the world.
-/
namespace Go.Proofs.Ytlikmphjocjmeaa
open Go.RowKit
set_option linter.unusedVariables false

/-- Letters alone. -/
def lettersOk (s : ByteArray) : Bool := s.data.toList.all letter

set_option maxHeartbeats 400000 in
theorem lettersAlone_any (s : ByteArray) (w : World) (hs : s.size ≤ maxLen) :
    Calls Try.prog 49 #[.string s] w fun e w' => e = .returned (.bool (lettersOk s)) ∧ w' = w := by
  unfold maxLen at hs
  go_enter Try.func49, Try.ntmps49
  go_wp2
  go_loop [6] (fun i => ∃ k : Nat, k ≤ s.size ∧ i = .int .i64 k ∧ (s.data.toList.take k).all letter = true) (fun i => s.size - (intOf i).toNat)
  case atStart => exact ⟨0, Nat.zero_le _, rfl, rfl⟩
  case round =>
    obtain ⟨k, hk, rfl, ha⟩ := hrel
    have HA : Hid ((s.data.toList.take k).all letter = true) := ha
    clear ha
    by_cases hlt : k < s.size
    · go_wp2
      · go_ret
        exact ⟨ret_bool (not_all s k hlt (letter_no ‹_›)).symm, rfl⟩
      · go_round
        case rel => exact ⟨k + 1, by omega, by go_num, all_snoc s k hlt HA (letter_yes (by omega) (by omega))⟩
        case measure => simp [intOf]; omega
      · go_ret
        exact ⟨ret_bool (not_all s k hlt (letter_no (Or.inl ‹_›))).symm, rfl⟩
    · go_wp2
      go_ret
      refine ⟨ret_bool ?_, rfl⟩
      have h := HA.out
      rw [List.take_of_length_le (by simp; omega)] at h
      exact h.symm

theorem nameOk_mid (s : ByteArray) (h1 : 1 ≤ s.size) (h4 : s.size ≤ 4) : lettersOk s = nameOk s.data.toList := by
  have e : s.data.toList.length = s.size := by simp
  unfold lettersOk nameOk
  rw [decide_eq_true (show 1 ≤ s.data.toList.length by omega), decide_eq_true (show s.data.toList.length ≤ 4 by omega)]; simp

set_option maxHeartbeats 400000 in
theorem implNameOk_any (s : ByteArray) (w : World) (hs : s.size ≤ maxLen) :
    Calls Try.prog 44 #[.string s] w fun e w' => e = .returned (.bool (nameOk s.data.toList)) ∧ w' = w := by
  have hs' := hs
  unfold maxLen at hs'
  by_cases h1 : s.size < 1
  · have hb : decide ((1 : Int) ≤ s.size) = false := by simp; omega
    go_enter Try.func44, Try.ntmps44
    go_wp2
    go_ret
    exact ⟨ret_bool (nameOk_long s (Or.inl h1)), rfl⟩
  · have hb : decide ((1 : Int) ≤ s.size) = true := by simp; omega
    by_cases h4 : 4 < s.size
    · have hb4 : decide ((s.size : Int) ≤ 4) = false := by simp; omega
      go_enter Try.func44, Try.ntmps44
      go_wp2
      go_ret
      exact ⟨ret_bool (nameOk_long s (Or.inr h4)), rfl⟩
    · have hb4 : decide ((s.size : Int) ≤ 4) = true := by simp; omega
      go_enter Try.func44, Try.ntmps44
      go_wp2_with (go_at_call 49; refine (lettersAlone_any _ _ hs).mono ?_; rintro e w' ⟨rfl, rfl⟩)
      go_ret
      exact ⟨ret_bool (nameOk_mid s (by omega) (by omega)), rfl⟩
end Go.Proofs.Ytlikmphjocjmeaa

/-
  What PathOk of the program and PathOk of the specification answer at every list of texts: whether it has at most 5, each of them a name; neither turns the world.
-/
namespace Go.Proofs.Ytlikmphjocjmeaa
open Go.RowKit
set_option linter.unusedVariables false

def namesOk (n : Nat) (S : Nat → ByteArray) : Bool := (List.range n).all fun i => nameOk (S i).data.toList
def pathOk (n : Nat) (S : Nat → ByteArray) : Bool := namesOk n S && decide (n ≤ 5)

theorem namesOk_succ (k : Nat) (S : Nat → ByteArray) (h : namesOk k S = true) (hk : nameOk (S k).data.toList = true) : namesOk (k + 1) S = true := by
  unfold namesOk at *
  rw [List.range_succ, List.all_append, h]; simpa using hk

theorem namesOk_not (n k : Nat) (S : Nat → ByteArray) (hk : k < n) (h : nameOk (S k).data.toList = false) : namesOk n S = false := by
  rw [Bool.eq_false_iff]
  intro ha
  have := List.all_eq_true.1 ha k (by simpa using hk)
  simp [this] at h

theorem pathOk_not (n k : Nat) (S : Nat → ByteArray) (hk : k < n) (h : nameOk (S k).data.toList = false) : false = pathOk n S := by
  unfold pathOk; rw [namesOk_not n k S hk h]; rfl

theorem pathOk_end (n : Nat) (S : Nat → ByteArray) (h : namesOk n S = true) : decide ((n : Int) ≤ 5) = pathOk n S := by
  unfold pathOk; rw [h]; simp; omega

set_option maxHeartbeats 400000 in
theorem implPathOk_any (a : Option Addr) (n c : Nat) (S : Nat → ByteArray) (w : World) (hS : IsStrs w a n S) (hm : Small n S) (hn : n ≤ maxLen) :
    Calls Try.prog 28 #[.slice a n c] w fun e w' => e = .returned (.bool (pathOk n S)) ∧ w' = w := by
  unfold maxLen at hn
  by_cases h5 : 5 < n
  · go_enter Try.func28, Try.ntmps28
    go_wp2
    go_ret
    exact ⟨ret_bool (by unfold pathOk; simp; omega), rfl⟩
  · have hd : decide ((5 : Int) < n) = false := by simp; omega
    go_enter Try.func28, Try.ntmps28
    go_wp2
    go_loop [10] (fun i => ∃ k : Nat, k ≤ n ∧ i = .int .i64 k ∧ namesOk k S = true) (fun i => n - (intOf i).toNat)
    case atStart => exact ⟨0, Nat.zero_le _, rfl, rfl⟩
    case round =>
      obtain ⟨k, hk, rfl, ha⟩ := hrel
      have HA : Hid (namesOk k S = true) := ha
      clear ha
      by_cases hlt : k < n
      · obtain ⟨b, off, rfl, hlt2, hc⟩ := hS.at hlt
        have hck := hc k hlt
        have hmk := hm k hlt
        clear hc
        cases hok : nameOk (S k).data.toList
        · go_wp2_with (go_at_call 44; refine (implNameOk_any _ _ hmk).mono ?_; rintro e w' ⟨rfl, rfl⟩)
          go_ret
          exact ⟨ret_bool (pathOk_not n k S hlt hok), rfl⟩
        · go_wp2_with (go_at_call 44; refine (implNameOk_any _ _ hmk).mono ?_; rintro e w' ⟨rfl, rfl⟩)
          go_round
          case rel => exact ⟨k + 1, by omega, by go_num, namesOk_succ k S HA.out hok⟩
          case measure => simp [intOf]; omega
      · have HK : Hid (k = n) := show k = n by omega
        go_wp2
        go_ret
        exact ⟨ret_bool (by rw [← pathOk_end n S (HK.out ▸ HA.out)]; simp; omega), rfl⟩
end Go.Proofs.Ytlikmphjocjmeaa

/-
  Where a way leads in a tree: plain facts. Names of a directory are told apart, so a way leads to one place at most.
-/
namespace Go.Proofs.Ytlikmphjocjmeaa
set_option linter.unusedVariables false

theorem less_trans : ∀ a b c : List UInt8, Op.bytesLess a b = true → Op.bytesLess b c = true → Op.bytesLess a c = true
  | _, [], _, h, _ => by simp [Op.bytesLess] at h
  | _, _ :: _, [], _, h => by simp [Op.bytesLess] at h
  | [], _ :: _, _ :: _, _, _ => by simp [Op.bytesLess]
  | a :: x, b :: y, c :: z, h1, h2 => by
    have ih := less_trans x y z
    simp only [Op.bytesLess, Bool.or_eq_true, Bool.and_eq_true, decide_eq_true_eq, beq_iff_eq] at *
    rcases h1 with h1 | ⟨rfl, h1⟩
    · rcases h2 with h2 | ⟨rfl, h2⟩
      · exact Or.inl (UInt8.lt_iff_toNat_lt.2 (Nat.lt_trans (UInt8.lt_iff_toNat_lt.1 h1) (UInt8.lt_iff_toNat_lt.1 h2)))
      · exact Or.inl h1
    · rcases h2 with h2 | ⟨rfl, h2⟩
      · exact Or.inl h2
      · exact Or.inr ⟨rfl, ih h1 h2⟩

theorem less_irrefl : ∀ a : List UInt8, Op.bytesLess a a = false
  | [] => rfl
  | a :: x => by
    have ih := less_irrefl x
    have : ¬ a < a := fun hh => by have := UInt8.lt_iff_toNat_lt.1 hh; omega
    simp [Op.bytesLess, ih, this]

theorem less_tot : ∀ a b : List UInt8, (!Op.bytesLess a b) = (Op.bytesLess b a || b == a)
  | [], [] => rfl
  | [], b :: y => by simp [Op.bytesLess]
  | a :: x, [] => by simp [Op.bytesLess]
  | a :: x, b :: y => by
    have ih := less_tot x y
    simp only [Op.bytesLess]
    have e1 : (b :: y == a :: x) = (b == a && y == x) := by simp [List.cons_beq_cons]
    rw [e1]
    rcases Nat.lt_trichotomy a.toNat b.toNat with h | h | h
    · have h1 : a < b := UInt8.lt_iff_toNat_lt.2 h
      have h2 : ¬ b < a := fun hh => by have := UInt8.lt_iff_toNat_lt.1 hh; omega
      have h3 : (b == a) = false := by simp; intro hh; subst hh; omega
      rw [decide_eq_true h1, decide_eq_false h2, h3]; rfl
    · have h1 : a = b := UInt8.toNat_inj.1 h
      subst h1
      have h2 : ¬ a < a := fun hh => by have := UInt8.lt_iff_toNat_lt.1 hh; omega
      rw [decide_eq_false h2]
      simpa using ih
    · have h1 : b < a := UInt8.lt_iff_toNat_lt.2 h
      have h2 : ¬ a < b := fun hh => by have := UInt8.lt_iff_toNat_lt.1 hh; omega
      have h3 : (a == b) = false := by simp; intro hh; subst hh; omega
      rw [decide_eq_true h1, decide_eq_false h2, h3]; rfl

/-- Names in order ascend. -/
theorem names_up {S : Nat → ByteArray} {n : Nat} (h : dirNames S n = true) {i j : Nat} (hij : i < j) (hj : j < n) : Op.bytesLess (S i).toList (S j).toList = true := by
  induction j with
  | zero => omega
  | succ j ih =>
    have h1 := List.all_eq_true.1 h (j + 1) (by simpa using hj)
    simp only [Bool.and_eq_true, Bool.or_eq_true] at h1
    have h2 : lessEq (S (j + 1)) (S j) = false := by
      rcases h1.2 with h2 | h2
      · simp at h2
      · simpa using h2
    have h3 : Op.bytesLess (S j).toList (S (j + 1)).toList = true := by
      have := less_tot (S j).toList (S (j + 1)).toList
      rw [show (Op.bytesLess (S (j + 1)).toList (S j).toList || (S (j + 1)).toList == (S j).toList) = lessEq (S (j + 1)) (S j) from rfl, h2] at this
      simpa using this
    by_cases e : i = j
    · subst e; exact h3
    · exact less_trans _ _ _ (ih (by omega) (by omega)) h3

theorem names_inj {S : Nat → ByteArray} {n : Nat} (h : dirNames S n = true) {i j : Nat} (hi : i < n) (hj : j < n) (e : (S i).toList = (S j).toList) : i = j := by
  rcases Nat.lt_trichotomy i j with hl | hl | hl
  · have := names_up h hl hj
    rw [e, less_irrefl] at this; cases this
  · exact hl
  · have := names_up h hl hi
    rw [e, less_irrefl] at this; cases this

/-- A place that has names is a directory. -/
theorem dir_of_names {n : Nat} {D : Nat → Nd} {now : Int} {d : Nd} (h : ndOk n D now d = true) (hn : 0 < d.nn) : d.kind = 2 ∧ dirNames d.names d.nn = true ∧ d.kn = d.nn := by
  unfold ndOk at h
  split at h
  · unfold freeOk at h; simp at h; omega
  · split at h
    · unfold fileOk at h; simp at h; omega
    · split at h
      · rename_i hk
        unfold dirOk at h
        simp only [Bool.and_eq_true, decide_eq_true_eq] at h
        exact ⟨hk, h.1.1.1.2, h.1.1.2.2⟩
      · cases h

/-- Behind k names of a way one stands at place x. -/
inductive Leads (D : Nat → Nd) (S : Nat → ByteArray) : Nat → Nat → Prop
  | root : Leads D S 0 0
  | step {k x i : Nat} : Leads D S k x → i < (D x).nn → ((D x).names i).toList = (S k).toList → Leads D S (k + 1) ((D x).kids i).toNat

theorem Leads.lt {n : Nat} {D : Nat → Nd} {now : Int} {S : Nat → ByteArray} (h : TreeGood n D now) {k x : Nat} (hl : Leads D S k x) : x < n := by
  induction hl with
  | root => exact h.some
  | step hl hi he ih =>
    rename_i k x i
    have := (dir_of_names (h.nodes x ih) (by omega)).2.2
    have hk := kids_in h.nodes x ih i (by omega)
    omega

theorem Leads.one {n : Nat} {D : Nat → Nd} {now : Int} {S : Nat → ByteArray} (h : TreeGood n D now) {k x : Nat} (hx : Leads D S k x) : ∀ {y : Nat}, Leads D S k y → x = y := by
  induction hx with
  | root => intro y hy; cases hy; rfl
  | step hl hi he ih =>
    intro y hy
    cases hy with
    | step hl' hi' he' =>
      have e := ih hl'
      subst e
      have := names_inj (dir_of_names (h.nodes _ (hl.lt h)) (by omega)).2.1 hi hi' (he.trans he'.symm)
      subst this
      rfl

/-- Where a name fails, the way leads nowhere. -/
theorem Leads.stuck {n : Nat} {D : Nat → Nd} {now : Int} {S : Nat → ByteArray} (h : TreeGood n D now) {k x : Nat} (hx : Leads D S k x) (hno : ∀ i, i < (D x).nn → ¬ ((D x).names i).toList = (S k).toList) {m : Nat} (hm : k < m) : ¬ ∃ y, Leads D S m y := by
  induction m with
  | zero => omega
  | succ m ih =>
    rintro ⟨y, hy⟩
    cases hy with
    | step hl hi he =>
      by_cases e : k = m
      · subst e
        have := hx.one h hl
        subst this
        exact hno _ hi he
      · exact ih (by omega) ⟨_, hl⟩

/-- The place at the end of a way; -1, if there is none. -/
structure FindAre (n : Nat) (D : Nat → Nd) (now : Int) (m : Nat) (S : Nat → ByteArray) (r : Int) : Prop where
  yes : TreeGood n D now → pathOk m S = true → ∀ x, Leads D S m x → r = (x : Int)
  no : ¬ (TreeGood n D now ∧ pathOk m S = true ∧ ∃ x, Leads D S m x) → r = -1

theorem FindAre.one {n : Nat} {D : Nat → Nd} {now : Int} {m : Nat} {S : Nat → ByteArray} {r r' : Int} (h : FindAre n D now m S r) (h' : FindAre n D now m S r') : r = r' := by
  by_cases g : TreeGood n D now ∧ pathOk m S = true ∧ ∃ x, Leads D S m x
  · obtain ⟨g1, g2, x, g3⟩ := g
    rw [h.yes g1 g2 x g3, h'.yes g1 g2 x g3]
  · rw [h.no g, h'.no g]

theorem findAre_end {n : Nat} {D : Nat → Nd} {now : Int} {m : Nat} {S : Nat → ByteArray} {x : Nat} (h : TreeGood n D now) (hp : pathOk m S = true) (hx : Leads D S m x) : FindAre n D now m S x :=
  ⟨fun _ _ y hy => by rw [hx.one h hy], fun g => absurd ⟨h, hp, x, hx⟩ g⟩

theorem findAre_no {n : Nat} {D : Nat → Nd} {now : Int} {m : Nat} {S : Nat → ByteArray} (hx : ¬ (TreeGood n D now ∧ pathOk m S = true ∧ ∃ x, Leads D S m x)) : FindAre n D now m S (-1) :=
  ⟨fun h1 h2 y hy => absurd ⟨h1, h2, y, hy⟩ hx, fun _ => rfl⟩
end Go.Proofs.Ytlikmphjocjmeaa

/-
  What TreeFind of the specification answers.
-/
namespace Go.Proofs.Ytlikmphjocjmeaa
open Go.RowKit
set_option linter.unusedVariables false

/-- The first place of a name in a directory; -1, if there is none. -/
def nameIx (d : Nd) (s : ByteArray) : Int := match (List.range d.nn).find? (fun i => (d.names i).toList == s.toList) with | some i => (i : Int) | none => -1

theorem nameIx_none {d : Nd} {s : ByteArray} (h : ∀ i, i < d.nn → ¬ (d.names i).toList = s.toList) : nameIx d s = -1 := by
  unfold nameIx
  rw [List.find?_eq_none.2 (fun i hi => by simpa using h i (by simpa using hi))]

theorem nameIx_some {d : Nd} {s : ByteArray} {k : Nat} (hk : k < d.nn) (he : (d.names k).toList = s.toList) (h : ∀ i, i < k → ¬ (d.names i).toList = s.toList) : nameIx d s = k := by
  unfold nameIx
  have : (List.range d.nn).find? (fun i => (d.names i).toList == s.toList) = some k := by
    rw [List.find?_range_eq_some]
    exact ⟨by simpa using he, by simpa using hk, fun j hj => by simpa using h j hj⟩
  rw [this]

theorem nameIx_spec (d : Nd) (s : ByteArray) : (nameIx d s = -1 ∧ ∀ i, i < d.nn → ¬ (d.names i).toList = s.toList) ∨ ∃ i : Nat, nameIx d s = i ∧ i < d.nn ∧ (d.names i).toList = s.toList := by
  unfold nameIx
  split
  · rename_i i hi
    have h1 := List.find?_some hi
    have h2 := List.mem_of_find?_eq_some hi
    exact Or.inr ⟨i, rfl, by simpa using h2, by simpa using h1⟩
  · rename_i hi
    have := List.find?_eq_none.1 hi
    exact Or.inl ⟨rfl, fun i hlt => by simpa using this i (by simpa using hlt)⟩

/-- What is known within l2Name. -/
structure NmIn (w : World) (d : Nd) (l : Loc) (W : World) : Prop where
  d : Blk W w.heap.size #[.int .i64 d.kind, .string d.text, .slice l.nA d.nn l.nc, .slice l.kA d.kn l.kc, .int .i64 d.turn] 36
  bel : Below w.heap.size w W

set_option maxHeartbeats 1000000 in
theorem l2Name_any (d : Nd) (l : Loc) (s : ByteArray) (w : World) (hI : NdIn w d l) (hn : d.nn ≤ maxLen) :
    Calls Try.prog 51 #[ndV d l, .string s] w fun e w' => Below w.heap.size w w' ∧ e = .returned (.int .i64 (nameIx d s)) := by
  unfold maxLen at hn
  unfold ndV
  go_enter Try.func51, Try.ntmps51
  go_wp2
  go_loopw [5] (fun i wr => ∃ k : Nat, k ≤ d.nn ∧ i = .int .i64 k ∧ NmIn w d l wr ∧ ∀ i, i < k → ¬ (d.names i).toList = s.toList) (fun i _ => d.nn - (intOf i).toNat)
  case atStart => exact ⟨0, Nat.zero_le _, rfl, ⟨(new1 w _ _).b0, (new1 w _ _).bel⟩, fun i hi => by omega⟩
  case round =>
    obtain ⟨k, hk, rfl, hin, hall⟩ := hrel
    have d2 : wr.cell? ⟨w.heap.size, 2, none⟩ = some (.slice l.nA d.nn l.nc) := hin.d.cell 2
    have hIr := hI.1.below (Nat.le_refl _) hin.bel
    have HE : Hid (NmIn w d l wr ∧ ∀ i, i < k → ¬ (d.names i).toList = s.toList) := ⟨hin, hall⟩
    clear hin hall
    by_cases hlt : k < d.nn
    · obtain ⟨b, off, ha, hlt2, hc⟩ := hIr.at hlt
      rw [ha] at d2
      have h1 := hc k hlt
      have hlti : (k : Int) < (d.nn : Int) := by omega
      clear hc
      cases he : ((d.names k).toList == s.toList) with
      | true =>
        have HX : Hid ((d.names k).toList = s.toList) := show _ = _ by simpa using he
        go_wp2_with fail
        go_ret
        exact ⟨HE.out.1.bel, by rw [nameIx_some hlt HX.out HE.out.2]; rfl⟩
      | false =>
        have HX : Hid (¬ (d.names k).toList = s.toList) := show ¬ _ by simpa using he
        go_wp2_with fail
        go_roundw
        case rel => exact ⟨k + 1, by omega, by go_num, HE.out.1, fun i hi => by
          by_cases e : i = k
          · subst e; exact HX.out
          · exact HE.out.2 i (by omega)⟩
        case measure => simp [intOf]; omega
    · clear hIr
      go_wp2
      go_ret
      exact ⟨HE.out.1.bel, by rw [nameIx_none (fun i hi => HE.out.2 i (by omega))]; rfl⟩
end Go.Proofs.Ytlikmphjocjmeaa

/-
  A tree that is being drawn: what is known of it, and what its steps leave. Plain facts.
-/
namespace Go.Proofs.Ytlikmphjocjmeaa
open Go.RowKit Go.Deep
set_option linter.unusedVariables false

/-- A place of a tree of n places that is being drawn. -/
structure NiceNd (n m : Nat) (d : Nd) : Prop where
  same : d.kn = d.nn
  few : d.nn ≤ m
  short : ∀ j, j < d.nn → Nm (d.names j)
  kids : ∀ j, j < d.nn → 0 ≤ d.kids j ∧ d.kids j < n
  text : d.text.size ≤ 10
  kind : 1 ≤ d.kind ∧ d.kind ≤ 2
  turn : 0 ≤ d.turn ∧ d.turn ≤ 1000

/-- A tree that is being drawn. -/
structure Nice (n m : Nat) (D : Nat → Nd) : Prop where
  some : 1 ≤ n
  few : n ≤ 10
  root : (D 0).kind = 2
  each : ∀ i, i < n → NiceNd n m (D i)

theorem NiceNd.more {n n' m m' : Nat} {d : Nd} (h : NiceNd n m d) (hn : n ≤ n') (hm : m ≤ m') : NiceNd n' m' d :=
  ⟨h.same, Nat.le_trans h.few hm, h.short, fun j hj => ⟨(h.kids j hj).1, by have := (h.kids j hj).2; omega⟩, h.text, h.kind, h.turn⟩

theorem Nice.more {n m m' : Nat} {D : Nat → Nd} (h : Nice n m D) (hm : m ≤ m') : Nice n m' D := ⟨h.some, h.few, h.root, fun i hi => (h.each i hi).more (Nat.le_refl _) hm⟩

/-- One place is another. -/
def putNd (D : Nat → Nd) (i : Nat) (d : Nd) : Nat → Nd := fun j => if j = i then d else D j
def putLoc (L : Nat → Loc) (i : Nat) (l : Loc) : Nat → Loc := fun j => if j = i then l else L j

theorem putNd_same (D : Nat → Nd) (i : Nat) (d : Nd) : putNd D i d i = d := by simp [putNd]
theorem putNd_ne (D : Nat → Nd) {i j : Nat} (d : Nd) (h : j ≠ i) : putNd D i d j = D j := by simp [putNd, h]

theorem Nice.put {n m : Nat} {D : Nat → Nd} (h : Nice n m D) {i : Nat} {d : Nd} (hi : i < n) (hd : NiceNd n m d) (hk : d.kind = (D i).kind) : Nice n m (putNd D i d) :=
  ⟨h.some, h.few, by
    by_cases e : (0 : Nat) = i
    · subst e; rw [putNd_same, hk]; exact h.root
    · rw [putNd_ne D d e]; exact h.root, fun j hj => by
    by_cases e : j = i
    · subst e; rw [putNd_same]; exact hd
    · rw [putNd_ne D d e]; exact h.each j hj⟩

section
variable {W : World} {B g cap n : Nat} {D : Nat → Nd} {L : Nat → Loc}

/-- The turn of a place is written. -/
theorem OwnT.setTurn (h : OwnT W B g cap n D L) {i : Nat} (hi : i < n) (z : Int) : OwnT (W.setCell ⟨g, i * 5 + 4, none⟩ (.int .i64 z)) B g cap n (putNd D i { D i with turn := z }) L := by
  refine h.set (fun j hj => ?_) (fun j hj => ?_)
  · obtain ⟨h0, h1, h2, h3, h4⟩ := h.cells j hj
    by_cases e : j = i
    · subst e
      rw [putNd_same]
      simp [h0, h1, h2, h3]
    · rw [putNd_ne D _ e]
      rw [if_neg (by omega), if_neg (by omega), if_neg (by omega), if_neg (by omega), if_neg (by omega)]
      exact ⟨h0, h1, h2, h3, h4⟩
  · by_cases e : j = i
    · subst e; rw [putNd_same]; exact h.lists j hj
    · rw [putNd_ne D _ e]; exact h.lists j hj

/-- The text of a place is written. -/
theorem OwnT.setText (h : OwnT W B g cap n D L) {i : Nat} (hi : i < n) (s : ByteArray) : OwnT (W.setCell ⟨g, i * 5 + 1, none⟩ (.string s)) B g cap n (putNd D i { D i with text := s }) L := by
  refine h.set (fun j hj => ?_) (fun j hj => ?_)
  · obtain ⟨h0, h1, h2, h3, h4⟩ := h.cells j hj
    by_cases e : j = i
    · subst e
      rw [putNd_same]
      simp [h0, h2, h3, h4]
    · rw [putNd_ne D _ e]
      rw [if_neg (by omega), if_neg (by omega), if_neg (by omega), if_neg (by omega), if_neg (by omega)]
      exact ⟨h0, h1, h2, h3, h4⟩
  · by_cases e : j = i
    · subst e; rw [putNd_same]; exact h.lists j hj
    · rw [putNd_ne D _ e]; exact h.lists j hj
end

theorem NiceNd.setTurn {n m : Nat} {d : Nd} (h : NiceNd n m d) {z : Int} (h0 : 0 ≤ z) (h1 : z ≤ 1000) : NiceNd n m { d with turn := z } := ⟨h.same, h.few, h.short, h.kids, h.text, h.kind, ⟨h0, h1⟩⟩
theorem NiceNd.setText {n m : Nat} {d : Nd} (h : NiceNd n m d) {s : ByteArray} (hs : s.size ≤ 10) : NiceNd n m { d with text := s } := ⟨h.same, h.few, h.short, h.kids, hs, h.kind, h.turn⟩
end Go.Proofs.Ytlikmphjocjmeaa

/-
  What is known within l2Grow, and what its steps leave. Plain facts.
-/
namespace Go.Proofs.Ytlikmphjocjmeaa
open Go.RowKit Go.Deep
set_option linter.unusedVariables false

/-- The row and the lists of a tree lie in none of these blocks. -/
structure Away (X : Nat → Prop) (g n : Nat) (L : Nat → Loc) : Prop where
  row : ¬ X g
  lists : ∀ i, i < n → (∀ b o x, (L i).nA = some ⟨b, o, x⟩ → ¬ X b) ∧ (∀ b o x, (L i).kA = some ⟨b, o, x⟩ → ¬ X b)

section
variable {W W' : World} {B g cap n : Nat} {D : Nat → Nd} {L : Nat → Loc} {X : Nat → Prop}

theorem OwnT.other (h : OwnT W B g cap n D L) (ha : Away X g n L) (hs : W.heap.size ≤ W'.heap.size) (hb : ∀ b, B ≤ b → b < W.heap.size → ¬ X b → W'.heap[b]? = W.heap[b]?) : OwnT W' B g cap n D L := by
  have hgb := hb g h.base h.lt ha.row
  have hc : ∀ k, W'.cell? ⟨g, k, none⟩ = W.cell? ⟨g, k, none⟩ := fun k => World.cell?_of_block hgb
  refine ⟨?_, h.base, h.room, h.most, fun i hi => ?_, fun i hi => ?_⟩
  · rw [hgb]; exact h.blk
  · rw [hc, hc, hc, hc, hc]; exact h.cells i hi
  · obtain ⟨⟨h1, h2⟩, h3, h4⟩ := h.lists i hi
    have a := ha.lists i hi
    exact ⟨⟨h1.of_blocks hs (fun b o x e => hb b (h3 b o x e).1 (h3 b o x e).2.2 (a.1 b o x e)), h2.of_blocks hs (fun b o x e => hb b (h4 b o x e).1 (h4 b o x e).2.2 (a.2 b o x e))⟩, h3.grow hs, h4.grow hs⟩

theorem OwnT.setOther (h : OwnT W B g cap n D L) (ha : Away X g n L) {b : Nat} (hb : X b) (k : Nat) (v : Value) : OwnT (W.setCell ⟨b, k, none⟩ v) B g cap n D L :=
  h.other ha (by simp [World.setCell]) (fun b' _ _ hx => blk_setCell_other _ _ _ _ (by show b' ≠ b; intro e; subst e; exact hx hb))

theorem away_low (h : OwnT W B g cap n D L) {m : Nat} (hm : W.heap.size ≤ m) : Away (fun b => b = m ∨ b = m + 1) g n L :=
  ⟨by have := h.lt; omega, fun i hi => ⟨fun b o x e => by have := ((h.lists i hi).2.1 b o x e).2.2; omega, fun b o x e => by have := ((h.lists i hi).2.2 b o x e).2.2; omega⟩⟩

/-- The names of a place are written. -/
theorem OwnT.setNames (h : OwnT W B g cap n D L) {i : Nat} (hi : i < n) (k c : Nat) (S : Nat → ByteArray) (a : Option Addr) (hS : IsStrs W a k S) (ho : Off W B g a) :
    OwnT (W.setCell ⟨g, i * 5 + 2, none⟩ (.slice a k c)) B g cap n (putNd D i { D i with nn := k, names := S }) (putLoc L i { L i with nA := a, nc := c }) := by
  refine h.set (fun j hj => ?_) (fun j hj => ?_)
  · obtain ⟨h0, h1, h2, h3, h4⟩ := h.cells j hj
    by_cases e : j = i
    · subst e
      rw [putNd_same]
      simp [h0, h1, h3, h4, putLoc]
    · rw [putNd_ne D _ e]
      rw [if_neg (by omega), if_neg (by omega), if_neg (by omega), if_neg (by omega), if_neg (by omega)]
      simp only [putLoc, if_neg e]
      exact ⟨h0, h1, h2, h3, h4⟩
  · by_cases e : j = i
    · subst e
      rw [putNd_same]
      simp only [putLoc, if_true]
      obtain ⟨⟨_, h2⟩, _, h4⟩ := h.lists j hj
      exact ⟨⟨hS, h2⟩, ho, h4⟩
    · rw [putNd_ne D _ e]
      simp only [putLoc, if_neg e]
      exact h.lists j hj

/-- The places of a place are written. -/
theorem OwnT.setKids (h : OwnT W B g cap n D L) {i : Nat} (hi : i < n) (k c : Nat) (Z : Nat → Int) (a : Option Addr) (hZ : IsInts W a k Z) (ho : Off W B g a) :
    OwnT (W.setCell ⟨g, i * 5 + 3, none⟩ (.slice a k c)) B g cap n (putNd D i { D i with kn := k, kids := Z }) (putLoc L i { L i with kA := a, kc := c }) := by
  refine h.set (fun j hj => ?_) (fun j hj => ?_)
  · obtain ⟨h0, h1, h2, h3, h4⟩ := h.cells j hj
    by_cases e : j = i
    · subst e
      rw [putNd_same]
      simp [h0, h1, h2, h4, putLoc]
    · rw [putNd_ne D _ e]
      rw [if_neg (by omega), if_neg (by omega), if_neg (by omega), if_neg (by omega), if_neg (by omega)]
      simp only [putLoc, if_neg e]
      exact ⟨h0, h1, h2, h3, h4⟩
  · by_cases e : j = i
    · subst e
      rw [putNd_same]
      simp only [putLoc, if_true]
      obtain ⟨⟨h1, _⟩, h3, _⟩ := h.lists j hj
      exact ⟨⟨h1, hZ⟩, h3, ho⟩
    · rw [putNd_ne D _ e]
      simp only [putLoc, if_neg e]
      exact h.lists j hj

/-- The kind of a place is written. -/
theorem OwnT.setKind (h : OwnT W B g cap n D L) {i : Nat} (hi : i < n) (z : Int) : OwnT (W.setCell ⟨g, i * 5, none⟩ (.int .i64 z)) B g cap n (putNd D i { D i with kind := z }) L := by
  refine h.set (fun j hj => ?_) (fun j hj => ?_)
  · obtain ⟨h0, h1, h2, h3, h4⟩ := h.cells j hj
    by_cases e : j = i
    · subst e
      rw [putNd_same]
      simp [h1, h2, h3, h4]
    · rw [putNd_ne D _ e]
      rw [if_neg (by omega), if_neg (by omega), if_neg (by omega), if_neg (by omega), if_neg (by omega)]
      exact ⟨h0, h1, h2, h3, h4⟩
  · by_cases e : j = i
    · subst e; rw [putNd_same]; exact h.lists j hj
    · rw [putNd_ne D _ e]; exact h.lists j hj

theorem put_put (D : Nat → Nd) (i : Nat) (d e : Nd) : putNd (putNd D i d) i e = putNd D i e := by
  funext j; by_cases h : j = i <;> simp [putNd, h]
theorem putL_putL (L : Nat → Loc) (i : Nat) (l m : Loc) : putLoc (putLoc L i l) i m = putLoc L i m := by
  funext j; by_cases h : j = i <;> simp [putLoc, h]

/-- A place is written whole. -/
theorem OwnT.setNode (h : OwnT W B g cap n D L) {i : Nat} (hi : i < n) (d : Nd) (l : Loc) (hd : NdIn W d l) (hn : Off W B g l.nA) (hk : Off W B g l.kA) :
    OwnT (((((W.setCell ⟨g, i * 5, none⟩ (.int .i64 d.kind)).setCell ⟨g, i * 5 + 1, none⟩ (.string d.text)).setCell ⟨g, i * 5 + 2, none⟩ (.slice l.nA d.nn l.nc)).setCell ⟨g, i * 5 + 3, none⟩ (.slice l.kA d.kn l.kc)).setCell ⟨g, i * 5 + 4, none⟩ (.int .i64 d.turn)) B g cap n (putNd D i d) (putLoc L i l) := by
  have hsz : ∀ (X : World) (k : Nat) (v : Value), (X.setCell ⟨g, k, none⟩ v).heap.size = X.heap.size := fun X k v => by simp [World.setCell]
  have oth : ∀ (X : World) (k : Nat) (v : Value) (b : Nat), b ≠ g → (X.setCell ⟨g, k, none⟩ v).heap[b]? = X.heap[b]? := fun X k v b hb => blk_setCell_other _ _ _ _ hb
  have h1 := h.setKind hi d.kind
  have h2 := h1.setText hi d.text
  have s2 : IsStrs ((W.setCell ⟨g, i * 5, none⟩ (.int .i64 d.kind)).setCell ⟨g, i * 5 + 1, none⟩ (.string d.text)) l.nA d.nn d.names := hd.1.of_blocks (by simp only [hsz]; exact Nat.le_refl _) (fun b o x e => by rw [oth _ _ _ b (hn b o x e).2.1, oth _ _ _ b (hn b o x e).2.1])
  have h3 := h2.setNames hi d.nn l.nc d.names l.nA s2 (hn.grow (by simp only [hsz]; exact Nat.le_refl _))
  have s3 : IsInts (((W.setCell ⟨g, i * 5, none⟩ (.int .i64 d.kind)).setCell ⟨g, i * 5 + 1, none⟩ (.string d.text)).setCell ⟨g, i * 5 + 2, none⟩ (.slice l.nA d.nn l.nc)) l.kA d.kn d.kids := hd.2.of_blocks (by simp only [hsz]; exact Nat.le_refl _) (fun b o x e => by rw [oth _ _ _ b (hk b o x e).2.1, oth _ _ _ b (hk b o x e).2.1, oth _ _ _ b (hk b o x e).2.1])
  have h4 := h3.setKids hi d.kn l.kc d.kids l.kA s3 (hk.grow (by simp only [hsz]; exact Nat.le_refl _))
  have h5 := h4.setTurn hi d.turn
  simp only [put_put, putL_putL, putNd_same] at h5
  have e : putLoc L i { (putLoc L i { L i with nA := l.nA, nc := l.nc }) i with kA := l.kA, kc := l.kc } = putLoc L i l := by
    congr 1
    simp [putLoc]
  rw [e] at h5
  exact h5
end
end Go.Proofs.Ytlikmphjocjmeaa

/-
  The lists of Kids of a tree that is being drawn are its own: each lies in a block of its own, with room as its cap says. Plain facts.
-/
namespace Go.Proofs.Ytlikmphjocjmeaa
open Go.RowKit Go.Deep
set_option linter.unusedVariables false

structure KidsOwn (W : World) (n : Nat) (D : Nat → Nd) (L : Nat → Loc) : Prop where
  room : ∀ i, i < n → RoomK W (L i).kA (D i).kn (L i).kc
  kids : ∀ i j, i < n → j < n → i ≠ j → Apart (L i).kA (L j).kA
  names : ∀ i j, i < n → j < n → Apart (L i).kA (L j).nA

section
variable {W W' : World} {n : Nat} {D D' : Nat → Nd} {L : Nat → Loc}

theorem KidsOwn.of_blocks (h : KidsOwn W n D L) (hb : ∀ i, i < n → ∀ b o x, (L i).kA = some ⟨b, o, x⟩ → W'.heap[b]? = W.heap[b]?) : KidsOwn W' n D L :=
  ⟨fun i hi => (h.room i hi).of_blocks (hb i hi), h.kids, h.names⟩

theorem KidsOwn.same (h : KidsOwn W n D L) (hk : ∀ i, i < n → (D' i).kn = (D i).kn) : KidsOwn W n D' L :=
  ⟨fun i hi => by rw [hk i hi]; exact h.room i hi, h.kids, h.names⟩

/-- A place is written whole, with lists of its own. -/
theorem KidsOwn.put (h : KidsOwn W n D L) {i : Nat} (d : Nd) (l : Loc) (hr : RoomK W l.kA d.kn l.kc) (hl : Apart l.kA l.nA) (hk : ∀ j, j < n → j ≠ i → Apart l.kA (L j).kA) (hn : ∀ j, j < n → j ≠ i → Apart l.kA (L j).nA) (hn' : ∀ j, j < n → j ≠ i → Apart (L j).kA l.nA) : KidsOwn W n (putNd D i d) (putLoc L i l) := by
  refine ⟨fun j hj => ?_, fun j j' hj hj' hne => ?_, fun j j' hj hj' => ?_⟩
  · by_cases e : j = i
    · subst e; rw [putNd_same]; simp only [putLoc, if_true]; exact hr
    · rw [putNd_ne D _ e]; simp only [putLoc, if_neg e]; exact h.room j hj
  · by_cases e : j = i
    · by_cases e' : j' = i
      · omega
      · simp only [putLoc, if_pos e, if_neg e']; exact hk j' hj' e'
    · by_cases e' : j' = i
      · simp only [putLoc, if_pos e', if_neg e]; exact (hk j hj e).symm
      · simp only [putLoc, if_neg e', if_neg e]; exact h.kids j j' hj hj' hne
  · by_cases e : j = i
    · by_cases e' : j' = i
      · simp only [putLoc, if_pos e, if_pos e']; exact hl
      · simp only [putLoc, if_pos e, if_neg e']; exact hn j' hj' e'
    · by_cases e' : j' = i
      · simp only [putLoc, if_pos e', if_neg e]; exact hn' j hj e
      · simp only [putLoc, if_neg e', if_neg e]; exact h.names j j' hj hj'

/-- A place with no lists more. -/
theorem KidsOwn.app (h : KidsOwn W n D L) (d : Nd) (l : Loc) (hd : d.kn = 0) (hk : l.kA = none) (hc : l.kc = 0) (hn : l.nA = none) : KidsOwn W (n + 1) (putNd D n d) (putLoc L n l) := by
  have h0 : ∀ j, j < n + 1 → j ≠ n → j < n := fun j h1 h2 => by omega
  refine ⟨fun j hj => ?_, fun j j' hj hj' hne => ?_, fun j j' hj hj' => ?_⟩
  · by_cases e : j = n
    · subst e; rw [putNd_same]; simp only [putLoc, if_true]; exact Or.inl ⟨hk, hd, hc⟩
    · rw [putNd_ne D _ e]; simp only [putLoc, if_neg e]; exact h.room j (h0 j hj e)
  · by_cases e : j = n
    · simp only [putLoc, if_pos e]; rw [hk]; exact apart_none _
    · by_cases e' : j' = n
      · simp only [putLoc, if_pos e']; rw [hk]; exact apart_none' _
      · simp only [putLoc, if_neg e', if_neg e]; exact h.kids j j' (h0 j hj e) (h0 j' hj' e') hne
  · by_cases e : j = n
    · simp only [putLoc, if_pos e]; rw [hk]; exact apart_none _
    · by_cases e' : j' = n
      · simp only [putLoc, if_pos e']; rw [hn]; exact apart_none' _
      · simp only [putLoc, if_neg e', if_neg e]; exact h.names j j' (h0 j hj e) (h0 j' hj' e')
end
end Go.Proofs.Ytlikmphjocjmeaa

/-
  A place more in a tree that is being drawn; what is known within l2Grow. Plain facts.
-/
namespace Go.Proofs.Ytlikmphjocjmeaa
open Go.RowKit Go.Deep
set_option linter.unusedVariables false

def loc00 : Loc := ⟨none, 0, none, 0⟩
/-- A place with nothing but a kind. -/
def kindNd (k : Int) : Nd := ⟨k, ByteArray.empty, 0, fun _ => ByteArray.empty, 0, fun _ => 0, 0⟩
def kindCells (k : Int) : List Value := [.int .i64 k, .string ByteArray.empty, .slice none 0 0, .slice none 0 0, .int .i64 0]
/-- A place with nothing but a kind and a turn. -/
def leafNd (k z : Int) : Nd := ⟨k, ByteArray.empty, 0, fun _ => ByteArray.empty, 0, fun _ => 0, z⟩
def leafCells (k z : Int) : List Value := [.int .i64 k, .string ByteArray.empty, .slice none 0 0, .slice none 0 0, .int .i64 z]

section
variable {W W' : World} {B g cap n : Nat} {D : Nat → Nd} {L : Nat → Loc} {X : Nat → Prop}

/-- The row as one's own. -/
theorem OwnT.owns (h : OwnT W B g cap n D L) {cur : Array Value} (hc : W.heap[g]? = some (.cells cur 36 (0, 0))) (hs : cur.size = cap * 5) :
    W.ownsRow B 36 5 (.slice (some ⟨g, 0, none⟩) n cap) n (cur.toList.take (n * 5)) := by
  have hr := h.room
  refine ⟨by simp [hs]; omega, Or.inr ⟨g, cap, cur, rfl, h.base, hc, h.room, h.most, hs, rfl⟩⟩

/-- A place more, behind all. -/
theorem OwnT.appL (h : OwnT W B g cap n D L) {cur : Array Value} (hc : W.heap[g]? = some (.cells cur 36 (0, 0))) (hs : cur.size = cap * 5) {g' cap' : Nat} {k z : Int}
    (hown : W'.ownsRow B 36 5 (.slice (some ⟨g', 0, none⟩) (n + 1) cap') (n + 1) (cur.toList.take (n * 5) ++ leafCells k z)) (hgrow : W.grownBy W' (some g)) (hat : g = g' ∨ W.heap.size ≤ g') :
    OwnT W' B g' cap' (n + 1) (putNd D n (leafNd k z)) (putLoc L n loc00) := by
  have hr := h.room
  rcases hown.2 with ⟨h0, _⟩ | ⟨g2, cap2, cur2, hv, hb2, hblk2, hn2, hm2, hs2, ht2⟩
  · cases h0
  cases hv
  have hl : (cur.toList.take (n * 5)).length = n * 5 := by simp [hs]; omega
  have cell2 : ∀ j, j < (n + 1) * 5 → W'.cell? ⟨g', j, none⟩ = (cur.toList.take (n * 5) ++ leafCells k z)[j]? := fun j hj => by
    rw [← ht2, List.getElem?_take_of_lt hj]
    simp [World.cell?, hblk2]
  have old : ∀ j, j < n * 5 → W'.cell? ⟨g', j, none⟩ = W.cell? ⟨g, j, none⟩ := fun j hj => by
    rw [cell2 j (by omega), List.getElem?_append_left (by omega), List.getElem?_take_of_lt hj]
    simp [World.cell?, hc]
  have new : ∀ j, j < 5 → W'.cell? ⟨g', n * 5 + j, none⟩ = (leafCells k z)[j]? := fun j hj => by
    rw [cell2 _ (by omega), List.getElem?_append_right (by omega), hl]
    congr 1
    omega
  have hoff : ∀ a, Off W B g a → Off W' B g' a := fun a ha b o x e => by
    obtain ⟨h1, h2, h3⟩ := ha b o x e
    exact ⟨h1, by rcases hat with rfl | hat <;> omega, by have := hgrow.size; omega⟩
  have hblk : ∀ a, Off W B g a → ∀ b o x, a = some ⟨b, o, x⟩ → W'.heap[b]? = W.heap[b]? := fun a ha b o x e => by
    obtain ⟨h1, h2, h3⟩ := ha b o x e
    exact hgrow.block b h3 (by simpa using h2)
  refine ⟨⟨cur2, hblk2, hs2⟩, hb2, hn2, hm2, fun i hi => ?_, fun i hi => ?_⟩
  · by_cases e : i = n
    · subst e
      rw [putNd_same]
      have n0 := new 0 (by omega)
      have n1 := new 1 (by omega)
      have n2 := new 2 (by omega)
      have n3 := new 3 (by omega)
      have n4 := new 4 (by omega)
      simp only [putLoc, if_true]
      exact ⟨n0, n1, n2, n3, n4⟩
    · rw [putNd_ne D _ e]
      simp only [putLoc, if_neg e]
      rw [old _ (by omega), old _ (by omega), old _ (by omega), old _ (by omega), old _ (by omega)]
      exact h.cells i (by omega)
  · by_cases e : i = n
    · subst e
      rw [putNd_same]
      simp only [putLoc, if_true]
      exact ⟨⟨Or.inl rfl, Or.inl rfl⟩, fun b o x e => by simp [loc00] at e, fun b o x e => by simp [loc00] at e⟩
    · rw [putNd_ne D _ e]
      simp only [putLoc, if_neg e]
      obtain ⟨⟨h1, h2⟩, h3, h4⟩ := h.lists i (by omega)
      exact ⟨⟨h1.of_blocks hgrow.size (hblk _ h3), h2.of_blocks hgrow.size (hblk _ h4)⟩, hoff _ h3, hoff _ h4⟩

theorem OwnT.app (h : OwnT W B g cap n D L) {cur : Array Value} (hc : W.heap[g]? = some (.cells cur 36 (0, 0))) (hs : cur.size = cap * 5) {g' cap' : Nat} {k : Int}
    (hown : W'.ownsRow B 36 5 (.slice (some ⟨g', 0, none⟩) (n + 1) cap') (n + 1) (cur.toList.take (n * 5) ++ kindCells k)) (hgrow : W.grownBy W' (some g)) (hat : g = g' ∨ W.heap.size ≤ g') :
    OwnT W' B g' cap' (n + 1) (putNd D n (kindNd k)) (putLoc L n loc00) := OwnT.appL (k := k) (z := 0) h hc hs hown hgrow hat
end

/-- What is known within l2Grow. -/
structure GI (w : World) (X : Nat → Prop) (r : Nat) (a : Option Addr) (len cp : Nat) (zs : Nat → Int) (q g cap n : Nat) (D : Nat → Nd) (L : Nat → Loc) (now : Int) (W : World) : Prop where
  rd : IsRd W r a len cp zs q
  t : Blk W w.heap.size #[.slice (some ⟨g, 0, none⟩) n cap, .int .i64 now] 25
  res : Blk W (w.heap.size + 1) #[.slice none 0 0, .int .i64 0] 25
  own : OwnT W (r + 1) g cap n D L
  away : Away (fun b => b = w.heap.size ∨ b = w.heap.size + 1) g n L
  bel : Below r w W
  rlt : r < w.heap.size
  awX : Away X g n L
  kept : ∀ b, X b → W.heap[b]? = w.heap[b]?
  hX : ∀ b, X b → b < w.heap.size ∧ b ≠ r
  kids : KidsOwn W n D L

section
variable {w : World} {X : Nat → Prop} {r : Nat} {a : Option Addr} {len cp : Nat} {zs : Nat → Int} {q g cap n : Nat} {D : Nat → Nd} {L : Nat → Loc} {now : Int} {W W' : World}

theorem GI.size (h : GI w X r a len cp zs q g cap n D L now W) : w.heap.size + 2 ≤ W.heap.size := by have := h.res.lt; omega

/-- The reader goes on. -/
theorem GI.read (h : GI w X r a len cp zs q g cap n D L now W) (hg : W.grownBy W' (some r)) {q' : Nat} (hr : IsRd W' r a len cp zs q') : GI w X r a len cp zs q' g cap n D L now W' := by
  have hs := h.size
  have hl := h.rlt
  exact ⟨hr, h.t.of_block (hg.block _ (by omega) (by simp; omega)), h.res.of_block (hg.block _ (by omega) (by simp; omega)), h.own.grown hg (by omega), h.away, h.bel.grown hg (by omega) (fun k e => by simp at e; omega), h.rlt, h.awX, fun b hb => (hg.block b (by have := h.hX b hb; omega) (by have := h.hX b hb; simp; omega)).trans (h.kept b hb), h.hX, h.kids.of_blocks (fun i hi b o x e => by have h1 := (h.own.lists i hi).2.2 b o x e; have h2 := (h.away.lists i hi).2 b o x e; exact hg.block b (by omega) (by simp; omega))⟩

/-- Nothing that was there turns. -/
theorem GI.below (h : GI w X r a len cp zs q g cap n D L now W) (hb : Below W.heap.size W W') : GI w X r a len cp zs q g cap n D L now W' := by
  have hs := h.size
  have hl := h.rlt
  exact ⟨h.rd.kept (fun k hk => hb.block k (by omega)), h.t.below hb h.t.lt, h.res.below hb h.res.lt, h.own.below hb, h.away, h.bel.trans (hb.mono (by omega)), h.rlt, h.awX, fun b hx => (hb.block b (by have := h.hX b hx; omega)).trans (h.kept b hx), h.hX, h.kids.of_blocks (fun i hi b o x e => by have h1 := (h.own.lists i hi).2.2 b o x e; have h2 := (h.away.lists i hi).2 b o x e; exact hb.block b (by omega))⟩
theorem GI.drew (h : GI w X r a len cp zs q g cap n D L now W) (k : Nat) : GI w X r a len cp zs q g cap n D L now (W.drewN k) := h.below (below_drewN (Below.refl _ _) k)
theorem GI.alloc (h : GI w X r a len cp zs q g cap n D L now W) (o : Obj) : GI w X r a len cp zs q g cap n D L now (W.alloc o) := h.below ((Below.refl _ _).alloc (Nat.le_refl _) _)

/-- Now is written. -/
theorem GI.setNow (h : GI w X r a len cp zs q g cap n D L now W) (z : Int) : GI w X r a len cp zs q g cap n D L z (W.setCell ⟨w.heap.size, 1, none⟩ (.int .i64 z)) := by
  have hl := h.rlt
  exact ⟨h.rd.kept (fun k hk => blk_setCell_other _ _ _ _ (by show k ≠ w.heap.size; omega)), h.t.set 1 _, h.res.off _ (by omega), h.own.setOther h.away (Or.inl rfl) _ _, h.away, bel_put h.bel _ (by omega), h.rlt, h.awX, fun b hx => (blk_setCell_other _ _ _ _ (by show b ≠ w.heap.size; have := h.hX b hx; omega)).trans (h.kept b hx), h.hX, h.kids.of_blocks (fun i hi b o x e => by have h1 := (h.own.lists i hi).2.2 b o x e; have h2 := (h.away.lists i hi).2 b o x e; exact blk_setCell_other _ _ _ _ (by show b ≠ w.heap.size; omega))⟩

/-- A cell of the row is written. -/
theorem GI.put (h : GI w X r a len cp zs q g cap n D L now W) {k : Nat} {v : Value} {D' : Nat → Nd} (hkn : ∀ i, i < n → (D' i).kn = (D i).kn) (ho : OwnT (W.setCell ⟨g, k, none⟩ v) (r + 1) g cap n D' L) : GI w X r a len cp zs q g cap n D' L now (W.setCell ⟨g, k, none⟩ v) := by
  have hb := h.own.base
  have hr := h.away.row
  exact ⟨h.rd.kept (fun j hj => blk_setCell_other _ _ _ _ (by show j ≠ g; omega)), h.t.off _ (by omega), h.res.off _ (by omega), ho, h.away, bel_put h.bel _ (by omega), h.rlt, h.awX, fun b hx => (blk_setCell_other _ _ _ _ (by show b ≠ g; intro e; subst e; exact h.awX.row hx)).trans (h.kept b hx), h.hX, (h.kids.of_blocks (fun i hi b o x e => by have h1 := (h.own.lists i hi).2.2 b o x e; have h2 := (h.away.lists i hi).2 b o x e; exact blk_setCell_other _ _ _ _ (by show b ≠ g; omega))).same hkn⟩

/-- A place is written whole. -/
theorem GI.putNode (h : GI w X r a len cp zs q g cap n D L now W) {i : Nat} (hi : i < n) (d : Nd) (l : Loc) (hd : NdIn W d l) (hrm : RoomK W l.kA d.kn l.kc) (hap : Apart l.kA l.nA) (hfar : ∀ j, j < n → j ≠ i → Apart l.kA (L j).kA ∧ Apart l.kA (L j).nA ∧ Apart (L j).kA l.nA) (hn : ∀ b o x, l.nA = some ⟨b, o, x⟩ → w.heap.size + 2 ≤ b ∧ b ≠ g ∧ b < W.heap.size) (hk : ∀ b o x, l.kA = some ⟨b, o, x⟩ → w.heap.size + 2 ≤ b ∧ b ≠ g ∧ b < W.heap.size) :
    GI w X r a len cp zs q g cap n (putNd D i d) (putLoc L i l) now (((((W.setCell ⟨g, i * 5, none⟩ (.int .i64 d.kind)).setCell ⟨g, i * 5 + 1, none⟩ (.string d.text)).setCell ⟨g, i * 5 + 2, none⟩ (.slice l.nA d.nn l.nc)).setCell ⟨g, i * 5 + 3, none⟩ (.slice l.kA d.kn l.kc)).setCell ⟨g, i * 5 + 4, none⟩ (.int .i64 d.turn)) := by
  have hl := h.rlt
  have hb := h.own.base
  have hr := h.away.row
  have ho := h.own.setNode hi d l hd (fun b o x e => by have := hn b o x e; omega) (fun b o x e => by have := hk b o x e; omega)
  have oth : ∀ (X : World) (k : Nat) (v : Value) (b : Nat), b ≠ g → (X.setCell ⟨g, k, none⟩ v).heap[b]? = X.heap[b]? := fun X k v b hb => blk_setCell_other _ _ _ _ hb
  have all : ∀ b, b ≠ g → (((((W.setCell ⟨g, i * 5, none⟩ (.int .i64 d.kind)).setCell ⟨g, i * 5 + 1, none⟩ (.string d.text)).setCell ⟨g, i * 5 + 2, none⟩ (.slice l.nA d.nn l.nc)).setCell ⟨g, i * 5 + 3, none⟩ (.slice l.kA d.kn l.kc)).setCell ⟨g, i * 5 + 4, none⟩ (.int .i64 d.turn)).heap[b]? = W.heap[b]? := fun b hb => by
    rw [oth _ _ _ b hb, oth _ _ _ b hb, oth _ _ _ b hb, oth _ _ _ b hb, oth _ _ _ b hb]
  refine ⟨h.rd.kept (fun j hj => all j (by omega)), h.t.of_block (all _ (by omega)), h.res.of_block (all _ (by omega)), ho, ⟨hr, fun j hj => ?_⟩, bel_put (bel_put (bel_put (bel_put (bel_put h.bel (b := g) _ (by omega)) (b := g) _ (by omega)) (b := g) _ (by omega)) (b := g) _ (by omega)) (b := g) _ (by omega), h.rlt, ⟨h.awX.row, fun j hj => ?_⟩, fun b hx => (all b (fun e => by subst e; exact h.awX.row hx)).trans (h.kept b hx), h.hX, ?_⟩
  · by_cases e : j = i
    · subst e
      simp only [putLoc, if_true]
      exact ⟨fun b o x e => by have := hn b o x e; omega, fun b o x e => by have := hk b o x e; omega⟩
    · simp only [putLoc, if_neg e]
      exact h.away.lists j hj
  · by_cases e : j = i
    · subst e
      simp only [putLoc, if_true]
      exact ⟨fun b o x e => by intro hx; have := hn b o x e; have := h.hX b hx; omega, fun b o x e => by intro hx; have := hk b o x e; have := h.hX b hx; omega⟩
    · simp only [putLoc, if_neg e]
      exact h.awX.lists j hj
  · refine KidsOwn.put (h.kids.of_blocks (fun i hi b o x e => by have h1 := (h.own.lists i hi).2.2 b o x e; exact all b (by omega))) d l (hrm.of_blocks (fun b o x e => all b (hk b o x e).2.1)) hap (fun j hj e => (hfar j hj e).1) (fun j hj e => (hfar j hj e).2.1) (fun j hj e => (hfar j hj e).2.2)

/-- What l2With makes of a place of a tree that is being drawn. -/
theorem nice_with {n m : Nat} {d : Nd} {NL : List ByteArray} {KL : List Int} (h : NiceNd n m d) (hw : WL (fun z => 0 ≤ z ∧ z < (n : Int)) d.nn true NL KL) : NiceNd n (m + 1) (withNd d NL KL) := by
  have h1 := hw.len
  have h2 := hw.same
  simp at h1
  refine ⟨h2, by show NL.length ≤ m + 1; have := h.few; omega, fun j hj => ?_, fun j hj => ?_, by show ByteArray.empty.size ≤ 10; simp, h.kind, h.turn⟩
  · have hj' : j < NL.length := hj
    have : (withNd d NL KL).names j = NL[j] := by simp [withNd, hj']
    rw [this]
    exact hw.short _ (List.getElem_mem hj')
  · have hj' : j < KL.length := by have : j < NL.length := hj; omega
    have : (withNd d NL KL).kids j = KL[j] := by simp [withNd, hj']
    rw [this]
    exact hw.right _ (List.getElem_mem hj')
end
end Go.Proofs.Ytlikmphjocjmeaa
