/-
  Texts that the proof needs, laid one behind the other.
-/
import Derived.Test.YtoblndhmkehoaaaFnDumpB1
import Derived.WalkSmall
import Derived.Laws.IdiomStrings
import Derived.Deep.RegionWith
import Derived.Maps.AppendAt
import Derived.RangeFuncNested
import Derived.RangeFuncBound
import Derived.RangeFuncCalls
import Derived.RangeFuncLeaves
import Derived.Shelf.Abstract
import Derived.Shelf.RegionOpen
import Derived.WalkKit
import Derived.OwnWalkIn
import Derived.TacticsInMore
import Derived.LoopNIn
import Derived.LoopIn
import Derived.OrdersIn
import Derived.Shelf.LaysM
import Derived.Shelf.Strconv.Clone
import Derived.Test.YtoblndhmkehoaaaProg
import Derived.Laws.Shifts
import Derived.Laws.AppendOwn
import Derived.OwnWalk

/-
  What markText, markStringS and heldStringS do: each place of a list gets a text of its own, told by its number; and that it still holds it is asked.
-/
namespace Go.Proofs.Ytoblndhmkehoaaa
open Go.RowKit
set_option linter.unusedVariables false

/-- The last digit of a number, as a letter. -/
def dig (m : Nat) : UInt8 := UInt8.ofNat (48 + m % 10)
theorem dig_nat (m : Nat) : ((dig m).toNat : Int) = 48 + (m : Int) % 10 := by
  unfold dig
  rw [UInt8.toNat_ofNat']
  omega
/-- The digits of a number, at most f of them. -/
def digF : Nat → Nat → List UInt8 | 0, _ => [] | f + 1, k => if k = 0 then [] else digF f (k / 10) ++ [dig k]
/-- The text by which a place is marked. -/
def markOf (k : Nat) : List UInt8 := if k = 0 then [109, 48] else 109 :: digF 20 k

theorem digF_zero (f : Nat) : digF f 0 = [] := by cases f <;> simp [digF]
theorem digF_step (f k : Nat) (h : k ≠ 0) : digF (f + 1) k = digF f (k / 10) ++ [dig k] := by simp [digF, h]

theorem conv_digit (wr : World) (m : Nat) : (convert 22 9 (.slice (some ⟨wr.heap.size, 0, none⟩) 1 1)).run Try.prog (wr.alloc (.cells #[.int .u8 (48 + (m : Int) % 10)] 5)) = .ok (.string ⟨#[dig m]⟩) (wr.alloc (.cells #[.int .u8 (48 + (m : Int) % 10)] 5)) := by
  have e := dig_nat m
  refine run_convert_bytes_back _ 22 9 5 ⟨wr.heap.size, 0, none⟩ 1 [dig m] Try.underlying22 Try.underlying5 Try.underlying9 ?_
  intro j hj
  have : j = 0 := by simpa using hj
  subst this
  show World.cell? _ ((⟨wr.heap.size, 0, none⟩ : Addr).add 0) = some (.int .u8 ((dig m).toNat : Int))
  rw [e]
  simp [Addr.add]

theorem ret_nat {a b : Nat} (h : a = b) : Ending.returned (.int .i64 (a : Int)) = .returned (.int .i64 (b : Int)) := by rw [h]
theorem mret_str {a b : ByteArray} (h : a = b) : Ending.returned (.string a) = .returned (.string b) := by rw [h]

/-- A list of texts in a row of one's own, not frozen. -/
structure Row (w : World) (g n : Nat) (S : Nat → ByteArray) : Prop where
  lt : g < w.heap.size
  cell : ∀ i, i < n → w.cell? ⟨g, 0 + i, none⟩ = some (.string (S i))
  free : ∀ i, i < n → w.frozen? ⟨g, 0 + i, none⟩ = false

theorem Row.below {w w' : World} {g n : Nat} {S : Nat → ByteArray} (h : Row w g n S) (hb : Below w.heap.size w w') : Row w' g n S :=
  ⟨Nat.lt_of_lt_of_le h.lt hb.size, fun i hi => (hb.cell (p := ⟨g, 0 + i, none⟩) h.lt).trans (h.cell i hi), fun i hi => (hb.frozen (p := ⟨g, 0 + i, none⟩) h.lt).trans (h.free i hi)⟩

/-- A store into the row. -/
theorem Row.set {w : World} {g n : Nat} {S : Nat → ByteArray} (h : Row w g n S) (k : Nat) (s : ByteArray) : Row (w.setCell ⟨g, 0 + k, none⟩ (.string s)) g n (fun i => if i = k then s else S i) := by
  refine ⟨by simp [World.setCell]; exact h.lt, fun i hi => ?_, fun i hi => ?_⟩
  · by_cases e : i = k
    · subst e
      rw [if_pos rfl]
      exact World.cell?_setCell_same' _ _ _ (by rw [h.cell i hi]; rfl)
    · rw [if_neg e, World.cell?_setCell_other (w := w) (a := ⟨g, 0 + k, none⟩) (b := ⟨g, 0 + i, none⟩) (v := .string s) (by intro h'; injection h' with h1 h2; omega)]; exact h.cell i hi
  · rw [World.frozen?_setCell]
    exact h.free i hi

/-- The texts by which n places are marked, from k on. -/
def marks (k : Nat) : Nat → ByteArray := fun i => ⟨(markOf (k + i)).toArray⟩

theorem mark_step (S : Nat → ByteArray) (k i m : Nat) : Value.string (if i = m then (⟨(markOf (k + m)).toArray⟩ : ByteArray) else if i < m then marks k i else S i) = Value.string (if i < m + 1 then marks k i else S i) := by
  by_cases h : i = m
  · subst h; simp [marks]
  · by_cases h2 : i < m
    · simp [h, h2, show i < m + 1 by omega]
    · simp [h, h2, show ¬ i < m + 1 by omega]

theorem mark_same (k m : Nat) : ((marks k m).toList == markOf (k + m)) = true := by unfold marks; rw [ByteArray.toList_eq]; simp
end Go.Proofs.Ytoblndhmkehoaaa

/-
  What the helpers that mark a list do at a row of one's own, and that it is told to hold its marks.
-/
namespace Go.Proofs.Ytoblndhmkehoaaa
open Go.RowKit Go.Deep
set_option linter.unusedVariables false
set_option linter.unusedSimpArgs false

theorem intv0_set (n m : Nat) (Z : Nat → Int) (z : Int) : (intv0 n Z).set m (.int .i64 z) = intv0 n (fun i => if i = m then z else Z i) := by
  apply List.ext_getElem?
  intro j
  rw [List.getElem?_set]
  by_cases e : m = j
  · subst e
    by_cases h : m < n <;> simp [intv0, h]
  · by_cases h : j < n <;> simp [intv0, h, e, Ne.symm e]

theorem boolv_set (n m : Nat) (Z : Nat → Bool) (z : Bool) : (boolv n Z).set m (.bool z) = boolv n (fun i => if i = m then z else Z i) := by
  apply List.ext_getElem?
  intro j
  rw [List.getElem?_set]
  by_cases e : m = j
  · subst e
    by_cases h : m < n <;> simp [boolv, h]
  · by_cases h : j < n <;> simp [boolv, h, e, Ne.symm e]

theorem intv0_ext {n : Nat} {Z Y : Nat → Int} (h : ∀ i, i < n → Z i = Y i) : intv0 n Z = intv0 n Y := by
  unfold intv0
  exact List.map_congr_left fun i hi => by rw [h i (by simpa using hi)]
theorem boolv_ext {n : Nat} {Z Y : Nat → Bool} (h : ∀ i, i < n → Z i = Y i) : boolv n Z = boolv n Y := by
  unfold boolv
  exact List.map_congr_left fun i hi => by rw [h i (by simpa using hi)]

theorem owns_addr {w : World} {B : Nat} {e : TypeId} {size n c : Nat} {a : Option Addr} {xs : List Value} (h : w.ownsRow B e size (.slice a n c) n xs) (hn : 0 < n) : ∃ g, a = some ⟨g, 0, none⟩ ∧ g < w.heap.size := by
  rcases h.2 with ⟨h0, hz⟩ | ⟨g, cap, cur, hv, _, hg, _⟩
  · omega
  · cases hv
    exact ⟨g, rfl, (Array.getElem?_eq_some_iff.1 hg).1⟩

/-- The marks of truth values. -/
def markB (k : Nat) : Nat → Bool := fun i => decide ((k + i) % 3 = 0)

theorem mod3 (k m : Nat) : (((k : Int) + (m : Int)) % 3 == 0) = markB k m := by
  unfold markB
  by_cases e : (k + m) % 3 = 0
  · rw [decide_eq_true e]
    have : ((k : Int) + (m : Int)) % 3 = 0 := by omega
    simp [this]
  · rw [decide_eq_false e]
    have : ¬ ((k : Int) + (m : Int)) % 3 = 0 := by omega
    simp [this]

theorem strv_set (n m : Nat) (S : Nat → ByteArray) (s : ByteArray) : (strv (lst n S)).set m (.string s) = strv (lst n (fun i => if i = m then s else S i)) := by
  apply List.ext_getElem?
  intro j
  rw [List.getElem?_set]
  by_cases e : m = j
  · subst e
    by_cases h : m < n <;> simp [strv, lst, h]
  · by_cases h : j < n <;> simp [strv, lst, h, e, Ne.symm e]

theorem strv_ext {n : Nat} {S T : Nat → ByteArray} (h : ∀ i, i < n → S i = T i) : strv (lst n S) = strv (lst n T) := by
  unfold lst
  congr 1
  exact List.map_congr_left fun i hi => h i (by simpa using hi)

theorem grown_of_below {w w' : World} (h : Below w.heap.size w w') (r : Option Nat) : w.grownBy w' r := ⟨h.os, h.tape, h.output, h.size, fun k hk _ => h.block k hk⟩
end Go.Proofs.Ytoblndhmkehoaaa

/-
  What is kept, in memory of one's own, when one of its lists is written into. Plain facts.
-/
namespace Go.Proofs.Ytoblndhmkehoaaa
open Go.RowKit Go.Deep
set_option linter.unusedVariables false
set_option linter.unusedSimpArgs false

section
variable {W W' : World} {B k : Nat} {Z Z' : Nat → Bool} {m : Nat} {O O' : Nat → Int} {D D' : Nat → Nd} {L : Nat → Loc} {lv iv : Value}

theorem OD.turn (h : OD W B k Z m O D L lv iv) {d0 : Nat} (hd0 : d0 < 2 + 2 * m) (hg : W.grownBy W' (valD lv iv D L d0).ownBlock) (hrow : ∀ d, d < 2 + 2 * m → d ≠ d0 → rowD k Z' m O' D' L d = rowD k Z m O D L d) (hval : ∀ d, d < 2 + 2 * m → valD lv iv D' L d = valD lv iv D L d)
    (hown : W'.ownsRow B (rowD k Z' m O' D' L d0).e (rowD k Z' m O' D' L d0).size (valD lv iv D L d0) (rowD k Z' m O' D' L d0).n (rowD k Z' m O' D' L d0).xs) : OD W' B k Z' m O' D' L lv iv := by
  refine ⟨⟨fun d hl => ?_, fun d1 d2 g1 g2 hne b h1 h2 => ?_⟩⟩
  · rw [hval d hl]
    by_cases e : d = d0
    · subst e; exact hown
    · rw [hrow d hl e]
      exact owns_kept (h.rows.own d hl) hg fun b hb => Ne.symm (Ne.symm (h.rows.apart d d0 hl hd0 e b hb))
  · rw [hval d1 g1] at h1
    rw [hval d2 g2] at h2
    exact h.rows.apart d1 d2 g1 g2 hne b h1 h2

/-- The same lengths everywhere: the same addresses. -/
theorem val_same (hl : ∀ i, i < m → (D' i).nn = (D i).nn ∧ (D' i).kn = (D i).kn) : ∀ d, d < 2 + 2 * m → valD lv iv D' L d = valD lv iv D L d := fun d hd => by
  unfold valD
  by_cases e0 : d = 0
  · rw [if_pos e0, if_pos e0]
  · by_cases e1 : d = 1
    · rw [if_neg e0, if_pos e1, if_neg e0, if_pos e1]
    · rw [if_neg e0, if_neg e1, if_neg e0, if_neg e1, (hl ((d - 2) / 2) (by omega)).1, (hl ((d - 2) / 2) (by omega)).2]

/-- The truth values are others. -/
theorem OD.turnLive (h : OD W B k Z m O D L lv iv) (hg : W.grownBy W' lv.ownBlock) (hown : W'.ownsRow B 4 1 lv k (boolv k Z')) : OD W' B k Z' m O D L lv iv :=
  h.turn (d0 := 0) (by omega) (by simpa [valD] using hg) (fun d hl hne => rowD_rest hne) (fun d hl => rfl) (by simpa [rowD, valD] using hown)

/-- The list of places holds others, of the same lists. -/
theorem OD.turnItems (h : OD W B k Z m O D L lv iv) (hl : ∀ i, i < m → (D' i).nn = (D i).nn ∧ (D' i).kn = (D i).kn ∧ (D' i).names = (D i).names ∧ (D' i).kids = (D i).kids) (hg : W.grownBy W' iv.ownBlock) (hown : W'.ownsRow B 40 6 iv m (rowsI O' D' L m)) : OD W' B k Z m O' D' L lv iv :=
  h.turn (d0 := 1) (by omega) (by simpa [valD] using hg) (fun d hd hne => by
    unfold rowD
    by_cases e0 : d = 0
    · rw [if_pos e0, if_pos e0]
    · obtain ⟨a1, a2, a3, a4⟩ := hl ((d - 2) / 2) (by omega)
      rw [if_neg e0, if_neg hne, if_neg e0, if_neg hne, a1, a2, a3, a4]) (val_same fun i hi => ⟨(hl i hi).1, (hl i hi).2.1⟩) (by simpa [rowD, valD] using hown)

/-- The names of a place are others. -/
theorem OD.turnNames (h : OD W B k Z m O D L lv iv) {i : Nat} (hi : i < m) (S : Nat → ByteArray) (hg : W.grownBy W' (Value.slice (L i).nA (D i).nn (L i).nc).ownBlock) (hown : W'.ownsRow B 9 1 (.slice (L i).nA (D i).nn (L i).nc) (D i).nn (strv (lst (D i).nn S))) :
    OD W' B k Z m O (fun j => if j = i then { D i with names := S } else D j) L lv iv := by
  have hd : (2 + 2 * i - 2) / 2 = i := by omega
  have hv : valD lv iv D L (2 + 2 * i) = .slice (L i).nA (D i).nn (L i).nc := by unfold valD; rw [if_neg (by omega), if_neg (by omega), if_pos (by omega), hd]
  refine h.turn (d0 := 2 + 2 * i) (by omega) (by rw [hv]; exact hg) (fun d hdl hne => ?_) (val_same fun j hj => by by_cases e : j = i <;> simp [e]) ?_
  · have hrows : rowsI O (fun j => if j = i then { D i with names := S } else D j) L m = rowsI O D L m := by
      have key : ∀ q, rowsI O (fun j => if j = i then { D i with names := S } else D j) L q = rowsI O D L q := fun q => by
        induction q with
        | zero => rfl
        | succ q ih =>
          rw [rowsI, rowsI, ih]
          by_cases e : q = i
          · subst e; simp [it6]
          · simp [e]
      exact key m
    unfold rowD
    by_cases e0 : d = 0
    · rw [if_pos e0, if_pos e0]
    · by_cases e1 : d = 1
      · rw [if_neg e0, if_pos e1, if_neg e0, if_pos e1, hrows]
      · rw [if_neg e0, if_neg e1, if_neg e0, if_neg e1]
        by_cases e : (d - 2) / 2 = i
        · have : d % 2 ≠ 0 := by omega
          rw [if_neg this, if_neg this]
          simp [e]
        · simp [e]
  · rw [hv]
    unfold rowD
    rw [if_neg (by omega), if_neg (by omega), if_pos (by omega), hd]
    simpa using hown

/-- The places in a directory are others. -/
theorem OD.turnKids (h : OD W B k Z m O D L lv iv) {i : Nat} (hi : i < m) (K : Nat → Int) (hg : W.grownBy W' (Value.slice (L i).kA (D i).kn (L i).kc).ownBlock) (hown : W'.ownsRow B 3 1 (.slice (L i).kA (D i).kn (L i).kc) (D i).kn (intv0 (D i).kn K)) :
    OD W' B k Z m O (fun j => if j = i then { D i with kids := K } else D j) L lv iv := by
  have hd : (3 + 2 * i - 2) / 2 = i := by omega
  have hv : valD lv iv D L (3 + 2 * i) = .slice (L i).kA (D i).kn (L i).kc := by unfold valD; rw [if_neg (by omega), if_neg (by omega), if_neg (by omega), hd]
  refine h.turn (d0 := 3 + 2 * i) (by omega) (by rw [hv]; exact hg) (fun d hdl hne => ?_) (val_same fun j hj => by by_cases e : j = i <;> simp [e]) ?_
  · have hrows : rowsI O (fun j => if j = i then { D i with kids := K } else D j) L m = rowsI O D L m := by
      have key : ∀ q, rowsI O (fun j => if j = i then { D i with kids := K } else D j) L q = rowsI O D L q := fun q => by
        induction q with
        | zero => rfl
        | succ q ih =>
          rw [rowsI, rowsI, ih]
          by_cases e : q = i
          · subst e; simp [it6]
          · simp [e]
      exact key m
    unfold rowD
    by_cases e0 : d = 0
    · rw [if_pos e0, if_pos e0]
    · by_cases e1 : d = 1
      · rw [if_neg e0, if_pos e1, if_neg e0, if_pos e1, hrows]
      · rw [if_neg e0, if_neg e1, if_neg e0, if_neg e1]
        by_cases e : (d - 2) / 2 = i
        · have : d % 2 = 0 := by omega
          rw [if_pos this, if_pos this]
          simp [e]
        · simp [e]
  · rw [hv]
    unfold rowD
    rw [if_neg (by omega), if_neg (by omega), if_neg (by omega), hd]
    simpa using hown
end
end Go.Proofs.Ytoblndhmkehoaaa

/-
  What markItemS does at what is kept, in memory of one's own: every list holds its own marks afterwards.
-/
namespace Go.Proofs.Ytoblndhmkehoaaa
open Go.RowKit Go.Deep
set_option linter.unusedVariables false
set_option linter.unusedSimpArgs false

section
variable {O O' : Nat → Int} {D D' : Nat → Nd} {L : Nat → Loc}

theorem rowsI_set {m i r : Nat} {u : Value} (hi : i < m) (hr : r < 6) (hx : it6 (O' i) (D' i) (L i) = (it6 (O i) (D i) (L i)).set r u) (ho : ∀ j, j < m → j ≠ i → O' j = O j ∧ D' j = D j) : (rowsI O D L m).set (i * 6 + r) u = rowsI O' D' L m := by
  apply List.ext_getElem?
  intro q
  by_cases hq : q < m * 6
  · have h1 := rowsI_get (O := O') (D := D') (L := L) m (q / 6) (by omega) (q % 6) (by omega)
    have h2 := rowsI_get (O := O) (D := D) (L := L) m (q / 6) (by omega) (q % 6) (by omega)
    rw [show q / 6 * 6 + q % 6 = q by omega] at h1 h2
    rw [h1, List.getElem?_set]
    by_cases e : q / 6 = i
    · rw [e, hx, List.getElem?_set]
      by_cases e2 : i * 6 + r = q
      · have e3 : r = q % 6 := by omega
        rw [if_pos e2, if_pos (by rw [rowsI_len]; omega), if_pos e3, if_pos (by simp [it6]; omega)]
      · have e3 : r ≠ q % 6 := by omega
        rw [if_neg e2, if_neg e3, h2, e]
    · obtain ⟨a1, a2⟩ := ho (q / 6) (by omega) e
      rw [if_neg (by omega), h2, a1, a2]
  · rw [List.getElem?_eq_none (by rw [List.length_set, rowsI_len]; omega), List.getElem?_eq_none (by rw [rowsI_len]; omega)]
end

section
variable {W : World} {B k : Nat} {Z : Nat → Bool} {m : Nat} {O : Nat → Int} {D : Nat → Nd} {L : Nat → Loc} {lv iv : Value} {g ic : Nat}

/-- The cells of a place that was turned. -/
theorem OD.cells (h : OD W B k Z m O D L lv (.slice (some ⟨g, 0, none⟩) m ic)) {i : Nat} (hi : i < m) : W.cell? ⟨g, i * 6, none⟩ = some (.int .i64 (O i)) ∧ W.cell? ⟨g, i * 6 + 1, none⟩ = some (.int .i64 (D i).kind) ∧ W.cell? ⟨g, i * 6 + 2, none⟩ = some (.string (D i).text) ∧
    W.cell? ⟨g, i * 6 + 3, none⟩ = some (.slice (L i).nA (D i).nn (L i).nc) ∧ W.cell? ⟨g, i * 6 + 4, none⟩ = some (.slice (L i).kA (D i).kn (L i).kc) ∧ W.cell? ⟨g, i * 6 + 5, none⟩ = some (.int .i64 (D i).turn) := by
  have key : ∀ r, r < 6 → W.cell? ⟨g, i * 6 + r, none⟩ = (it6 (O i) (D i) (L i))[r]? := fun r hr => by
    rw [h.ownI.cellAt (i * 6 + r) (by omega), rowsI_get m i hi r hr]
  exact ⟨key 0 (by omega), key 1 (by omega), key 2 (by omega), key 3 (by omega), key 4 (by omega), key 5 (by omega)⟩

theorem OD.free (h : OD W B k Z m O D L lv (.slice (some ⟨g, 0, none⟩) m ic)) (j : Nat) : W.frozen? ⟨g, j, none⟩ = false := h.ownI.frozenAt j

theorem OD.putIno (h : OD W B k Z m O D L lv (.slice (some ⟨g, 0, none⟩) m ic)) {i : Nat} (hi : i < m) (z : Int) : OD (W.setCell ⟨g, i * 6, none⟩ (.int .i64 z)) B k Z m (fun j => if j = i then z else O j) D L lv (.slice (some ⟨g, 0, none⟩) m ic) := by
  obtain ⟨h1, h2⟩ := h.ownI.stored (i * 6 + 0) (.int .i64 z)
  rw [rowsI_set (O' := fun j => if j = i then z else O j) (D' := D) hi (by omega) (by simp [it6]) (fun j hj e => by simp [e])] at h1
  exact h.turnItems (fun j hj => ⟨rfl, rfl, rfl, rfl⟩) h2 h1

theorem OD.putKind (h : OD W B k Z m O D L lv (.slice (some ⟨g, 0, none⟩) m ic)) {i : Nat} (hi : i < m) (z : Int) : OD (W.setCell ⟨g, i * 6 + 1, none⟩ (.int .i64 z)) B k Z m O (fun j => if j = i then { D i with kind := z } else D j) L lv (.slice (some ⟨g, 0, none⟩) m ic) := by
  obtain ⟨h1, h2⟩ := h.ownI.stored (i * 6 + 1) (.int .i64 z)
  rw [rowsI_set (O' := O) (D' := fun j => if j = i then { D i with kind := z } else D j) hi (by omega) (by simp [it6]) (fun j hj e => by simp [e])] at h1
  exact h.turnItems (fun j hj => by by_cases e : j = i <;> simp [e]) h2 h1

theorem OD.putText (h : OD W B k Z m O D L lv (.slice (some ⟨g, 0, none⟩) m ic)) {i : Nat} (hi : i < m) (s : ByteArray) : OD (W.setCell ⟨g, i * 6 + 2, none⟩ (.string s)) B k Z m O (fun j => if j = i then { D i with text := s } else D j) L lv (.slice (some ⟨g, 0, none⟩) m ic) := by
  obtain ⟨h1, h2⟩ := h.ownI.stored (i * 6 + 2) (.string s)
  rw [rowsI_set (O' := O) (D' := fun j => if j = i then { D i with text := s } else D j) hi (by omega) (by simp [it6]) (fun j hj e => by simp [e])] at h1
  exact h.turnItems (fun j hj => by by_cases e : j = i <;> simp [e]) h2 h1

theorem OD.putTurn (h : OD W B k Z m O D L lv (.slice (some ⟨g, 0, none⟩) m ic)) {i : Nat} (hi : i < m) (z : Int) : OD (W.setCell ⟨g, i * 6 + 5, none⟩ (.int .i64 z)) B k Z m O (fun j => if j = i then { D i with turn := z } else D j) L lv (.slice (some ⟨g, 0, none⟩) m ic) := by
  obtain ⟨h1, h2⟩ := h.ownI.stored (i * 6 + 5) (.int .i64 z)
  rw [rowsI_set (O' := O) (D' := fun j => if j = i then { D i with turn := z } else D j) hi (by omega) (by simp [it6]) (fun j hj e => by simp [e])] at h1
  exact h.turnItems (fun j hj => by by_cases e : j = i <;> simp [e]) h2 h1

theorem OD.ownN (h : OD W B k Z m O D L lv iv) {i : Nat} (hi : i < m) : W.ownsRow B 9 1 (.slice (L i).nA (D i).nn (L i).nc) (D i).nn (strv (lst (D i).nn (D i).names)) := by
  have hd : (2 + 2 * i - 2) / 2 = i := by omega
  have := h.rows.own (2 + 2 * i) (by omega)
  unfold rowD valD at this
  rw [if_neg (by omega), if_neg (by omega), if_pos (by omega), if_neg (by omega), if_neg (by omega), if_pos (by omega), hd] at this
  exact this

theorem OD.ownK (h : OD W B k Z m O D L lv iv) {i : Nat} (hi : i < m) : W.ownsRow B 3 1 (.slice (L i).kA (D i).kn (L i).kc) (D i).kn (intv0 (D i).kn (D i).kids) := by
  have hd : (3 + 2 * i - 2) / 2 = i := by omega
  have := h.rows.own (3 + 2 * i) (by omega)
  unfold rowD valD at this
  rw [if_neg (by omega), if_neg (by omega), if_neg (by omega), if_neg (by omega), if_neg (by omega), if_neg (by omega), hd] at this
  exact this
end

/-- Blocks below B, and those from H on, are kept. -/
structure Fr (B H : Nat) (w w' : World) : Prop where
  bel : Below B w w'
  far : ∀ b, H ≤ b → b < w.heap.size → w'.heap[b]? = w.heap[b]?

theorem Fr.refl (B H : Nat) (w : World) : Fr B H w w := ⟨Below.refl _ _, fun _ _ _ => rfl⟩
theorem Fr.put {B H : Nat} {a w : World} (h : Fr B H a w) {b i : Nat} (v : Value) (hb : B ≤ b) (hH : b < H) : Fr B H a (w.setCell ⟨b, i, none⟩ v) := ⟨bel_put h.bel v hb, fun j hj hl => (blk_setCell_other _ _ _ _ (show j ≠ b by omega)).trans (h.far j hj hl)⟩
theorem Fr.below {B H : Nat} {a w w' : World} (h : Fr B H a w) (hB : B ≤ w.heap.size) (hb : Below w.heap.size w w') : Fr B H a w' := ⟨h.bel.trans (hb.mono hB), fun j hj hl => (hb.block j (Nat.lt_of_lt_of_le hl h.bel.size)).trans (h.far j hj hl)⟩
theorem Fr.grow {B H : Nat} {a w w' : World} {r : Option Nat} (h : Fr B H a w) (hg : w.grownBy w' r) (hB : B ≤ w.heap.size) (hr : ∀ b, r = some b → B ≤ b ∧ b < H) : Fr B H a w' := ⟨h.bel.grown hg hB (fun b e => (hr b e).1), fun j hj hl => (hg.block j (Nat.lt_of_lt_of_le hl h.bel.size) (fun e => by have := (hr j e.symm).2; omega)).trans (h.far j hj hl)⟩

theorem Fr.trans {B H : Nat} {a b c : World} (h : Fr B H a b) (_hB : B ≤ b.heap.size) (k : Fr B H b c) : Fr B H a c := ⟨h.bel.trans k.bel, fun j hj hl => (k.far j hj (Nat.lt_of_lt_of_le hl h.bel.size)).trans (h.far j hj hl)⟩

theorem valD_n {lv iv : Value} {D : Nat → Nd} {L : Nat → Loc} {j : Nat} : valD lv iv D L (2 + 2 * j) = .slice (L j).nA (D j).nn (L j).nc := by unfold valD; rw [if_neg (by omega), if_neg (by omega), if_pos (by omega), show (2 + 2 * j - 2) / 2 = j by omega]
theorem valD_k {lv iv : Value} {D : Nat → Nd} {L : Nat → Loc} {j : Nat} : valD lv iv D L (3 + 2 * j) = .slice (L j).kA (D j).kn (L j).kc := by unfold valD; rw [if_neg (by omega), if_neg (by omega), if_neg (by omega), show (3 + 2 * j - 2) / 2 = j by omega]

/-- The first mark of place j. -/
def kap (D : Nat → Nd) (k0 : Nat) : Nat → Nat | 0 => k0 | j + 1 => kap D k0 j + (4 + (D j).nn + (D j).kn)
/-- A place, marked from q on. -/
def markNd (d : Nd) (q : Nat) : Nd := ⟨((q + 1 : Nat) : Int), ⟨(markOf (q + 2)).toArray⟩, d.nn, marks (q + 3), d.kn, fun i => ((q + 3 + d.nn + i : Nat) : Int), ((q + 3 + d.nn + d.kn : Nat) : Int)⟩
def markO (D : Nat → Nd) (k0 : Nat) (O : Nat → Int) (j : Nat) : Nat → Int := fun i => if i < j then ((kap D k0 i : Nat) : Int) else O i
def markD (D : Nat → Nd) (k0 j : Nat) : Nat → Nd := fun i => if i < j then markNd (D i) (kap D k0 i) else D i

theorem kap_mono (D : Nat → Nd) (k0 : Nat) {i j : Nat} (h : i ≤ j) : kap D k0 i ≤ kap D k0 j := by
  induction h with
  | refl => exact Nat.le_refl _
  | step _ ih => rw [kap]; omega

theorem kap_ge (D : Nat → Nd) (k0 i : Nat) : k0 ≤ kap D k0 i := kap_mono D k0 (Nat.zero_le i)
end Go.Proofs.Ytoblndhmkehoaaa

/-
  What is kept and holds its marks is told to.
-/
namespace Go.Proofs.Ytoblndhmkehoaaa
open Go.RowKit Go.Deep
set_option linter.unusedVariables false
set_option linter.unusedSimpArgs false

theorem ownd_strs {w : World} {B n c : Nat} {a : Option Addr} {S : Nat → ByteArray} (h : w.ownsRow B 9 1 (.slice a n c) n (strv (lst n S))) : IsStrs w a n S := by
  by_cases hn : n = 0
  · exact Or.inl hn
  · obtain ⟨g, rfl, hg⟩ := owns_addr h (by omega)
    exact Or.inr ⟨g, 0, rfl, hg, fun i hi => by rw [Nat.zero_add, h.cellAt i (by omega)]; simp [strv, lst, hi]⟩

theorem ownd_ints {w : World} {B n c : Nat} {a : Option Addr} {Z : Nat → Int} (h : w.ownsRow B 3 1 (.slice a n c) n (intv0 n Z)) : IsInts w a n Z := by
  by_cases hn : n = 0
  · exact Or.inl hn
  · obtain ⟨g, rfl, hg⟩ := owns_addr h (by omega)
    exact Or.inr ⟨g, 0, rfl, hg, fun i hi => by rw [Nat.zero_add, h.cellAt i (by omega)]; simp [intv0, hi]⟩

theorem ownd_bools {w : World} {B n c : Nat} {a : Option Addr} {Z : Nat → Bool} (h : w.ownsRow B 4 1 (.slice a n c) n (boolv n Z)) : IsBools w a n Z := by
  by_cases hn : n = 0
  · exact Or.inl hn
  · obtain ⟨g, rfl, hg⟩ := owns_addr h (by omega)
    exact Or.inr ⟨g, 0, rfl, hg, fun i hi => by rw [Nat.zero_add, h.cellAt i (by omega)]; simp [boolv, hi]⟩
end Go.Proofs.Ytoblndhmkehoaaa

/-
  What DumpOf answers, said once for the specification and the program: one thing kept, in memory of its own.
-/
namespace Go.Proofs.Ytoblndhmkehoaaa
open Go.RowKit Go.Deep
set_option linter.unusedVariables false
set_option linter.unusedSimpArgs false

theorem OD.ext {W : World} {B k n : Nat} {Z : Nat → Bool} {O O' : Nat → Int} {D D' : Nat → Nd} {L : Nat → Loc} {lv iv : Value} (h : OD W B k Z n O D L lv iv) (he : ∀ i, i < n → O' i = O i ∧ D' i = D i) : OD W B k Z n O' D' L lv iv := by
  have hr : ∀ d, d < 2 + 2 * n → rowD k Z n O' D' L d = rowD k Z n O D L d := fun d hd => by
    unfold rowD
    by_cases e0 : d = 0
    · rw [if_pos e0, if_pos e0]
    · by_cases e1 : d = 1
      · rw [if_neg e0, if_pos e1, if_neg e0, if_pos e1, rowsI_ext n (fun i hi => ⟨(he i hi).1, (he i hi).2, rfl⟩)]
      · rw [if_neg e0, if_neg e1, if_neg e0, if_neg e1, (he ((d - 2) / 2) (by omega)).2]
  have hv : ∀ d, d < 2 + 2 * n → valD lv iv D' L d = valD lv iv D L d := fun d hd => by
    unfold valD
    by_cases e0 : d = 0
    · rw [if_pos e0, if_pos e0]
    · by_cases e1 : d = 1
      · rw [if_neg e0, if_pos e1, if_neg e0, if_pos e1]
      · rw [if_neg e0, if_neg e1, if_neg e0, if_neg e1, (he ((d - 2) / 2) (by omega)).2]
  exact ⟨⟨fun d hd => by rw [hr d hd, hv d hd]; exact h.rows.own d hd, fun d1 d2 g1 g2 hne b e1 e2 => by rw [hv d1 g1] at e1; rw [hv d2 g2] at e2; exact h.rows.apart d1 d2 g1 g2 hne b e1 e2⟩⟩

/-- Something kept, in memory of its own. -/
def OwnDp (W : World) (B : Nat) (d : Dp) (l : DLoc) : Prop := OD W B d.ln d.live d.m d.ino d.nd l.L (.slice l.lA d.ln l.lc) (.slice l.iA d.m l.ic)

theorem OwnDp.dpIn {W : World} {B : Nat} {d : Dp} {l : DLoc} (h : OwnDp W B d l) : DpIn W d l := by
  refine ⟨ownd_bools h.ownL, ?_⟩
  by_cases hm : d.m = 0
  · exact Or.inl hm
  · obtain ⟨g, hg, hgl⟩ := owns_addr h.ownI (by omega)
    refine Or.inr ⟨g, 0, hg, hgl, fun i hi => ?_⟩
    have h' : OD W B d.ln d.live d.m d.ino d.nd l.L (.slice l.lA d.ln l.lc) (.slice (some ⟨g, 0, none⟩) d.m l.ic) := by rw [← hg]; exact h
    obtain ⟨c0, c1, c2, c3, c4, c5⟩ := h'.cells hi
    rw [Nat.zero_add]
    exact ⟨c0, c1, c2, c3, c4, c5, ownd_strs (h.ownN hi), ownd_ints (h.ownK hi)⟩

/-- What is kept of a tree that is ok. -/
def dpOf (n : Nat) (D : Nat → Nd) (now since : Int) : Dp := ⟨since, now, n, fun i => (D i).kind != 0, (selTo D since n).length, fun i => ((selTo D since n).getD i 0 : Nat), fun i => D ((selTo D since n).getD i 0)⟩
/-- Nothing. -/
def dpNone : Dp := ⟨0, 0, 0, fun _ => false, 0, fun _ => 0, fun _ => ⟨0, ByteArray.empty, 0, fun _ => ByteArray.empty, 0, fun _ => 0, 0⟩⟩

theorem selTo_lt {D : Nat → Nd} {since : Int} {n i : Nat} (h : i < (selTo D since n).length) : (selTo D since n).getD i 0 < n := by
  have hm : (selTo D since n).getD i 0 ∈ selTo D since n := by
    rw [List.getD_eq_getElem?_getD, List.getElem?_eq_getElem h]
    exact List.getElem_mem h
  have := List.mem_filter.1 hm
  simpa using this.1

theorem ndOk_same {n : Nat} {D : Nat → Nd} {now : Int} {d : Nd} (h : ndOk n D now d = true) : d.kn = d.nn := by
  unfold ndOk at h
  split at h
  · unfold freeOk at h; simp at h; omega
  · split at h
    · unfold fileOk at h; simp at h; omega
    · split at h
      · unfold dirOk at h; simp at h; exact h.1.1.2.2
      · cases h

theorem kap_le {D : Nat → Nd} {k0 c : Nat} : ∀ m, (∀ i, i < m → (D i).nn + (D i).kn ≤ c) → kap D k0 m ≤ k0 + m * (4 + c)
  | 0, _ => by simp [kap]
  | m + 1, h => by
    have h1 := kap_le (D := D) (k0 := k0) m (fun i hi => h i (by omega))
    have h2 := h m (by omega)
    rw [kap, Nat.succ_mul]
    omega

/-- The bounds that an answer keeps. -/
structure DpSmall (d : Dp) : Prop where
  fits : d.Fits
  ln : d.ln ≤ 10
  m : d.m ≤ 10
  kap : kap d.nd (1 + d.ln) d.m ≤ 90000000
  nds : ∀ i, i < d.m → (d.nd i).nn ≤ 1000000 ∧ (d.nd i).kn ≤ 1000000

theorem dpNone_small : DpSmall dpNone :=
  ⟨⟨by unfold In64 dpNone; simp, by unfold In64 dpNone; simp, by unfold maxLen dpNone; simp, by unfold maxLen dpNone; simp, fun i hi => absurd hi (Nat.not_lt_zero _), fun i hi => absurd hi (Nat.not_lt_zero _)⟩, by simp [dpNone], by simp [dpNone], by simp [dpNone, kap], fun i hi => absurd hi (Nat.not_lt_zero _)⟩

theorem dpOf_small {n : Nat} {D : Nat → Nd} {now since : Int} (hg : TreeGood n D now) (hf : FitAll n D) (hsz : sizeTo D n ≤ 1048576) (h0 : 0 ≤ since) (h1 : since ≤ now) : DpSmall (dpOf n D now since) := by
  have hl := selTo_len D since n
  have hfew := hg.few
  have hsoon := hg.soon
  have hnd : ∀ i, i < (selTo D since n).length → ((D ((selTo D since n).getD i 0)).nn + (D ((selTo D since n).getD i 0)).kn ≤ 1048576) ∧ (D ((selTo D since n).getD i 0)).kn = (D ((selTo D since n).getD i 0)).nn := fun i hi => by
    have h2 := selTo_lt hi
    have h3 := size_le_sizeTo D n _ h2
    unfold Nd.size at h3
    exact ⟨by omega, ndOk_same (hg.nodes _ h2)⟩
  refine ⟨⟨?_, ?_, ?_, ?_, fun i hi => ?_, fun i hi => hf _ (selTo_lt hi)⟩, hfew, by show (selTo D since n).length ≤ 10; omega, ?_, fun i hi => ?_⟩
  · show In64 since; unfold In64; omega
  · show In64 now; unfold In64; omega
  · show n ≤ maxLen; unfold maxLen; omega
  · show (selTo D since n).length ≤ maxLen; unfold maxLen; omega
  · have := selTo_lt hi
    show In64 (((selTo D since n).getD i 0 : Nat) : Int)
    unfold In64
    omega
  · have h2 := kap_le (D := fun i => D ((selTo D since n).getD i 0)) (k0 := 1 + n) (c := 1048576) (selTo D since n).length (fun i hi => (hnd i hi).1)
    have h3 : (selTo D since n).length * (4 + 1048576) ≤ 10 * (4 + 1048576) := Nat.mul_le_mul_right _ (by omega)
    show kap (fun i => D ((selTo D since n).getD i 0)) (1 + n) (selTo D since n).length ≤ 90000000
    omega
  · have := hnd i hi
    exact ⟨by show (D ((selTo D since n).getD i 0)).nn ≤ 1000000; omega, by show (D ((selTo D since n).getD i 0)).kn ≤ 1000000; omega⟩

/-- One answer, whoever is asked. -/
theorem dump_ans (n : Nat) (D : Nat → Nd) (now since : Int) (hf : FitAll n D) (hsz : sizeTo D n ≤ 1048576) : ∃ (d : Dp) (ok : Bool), DpSmall d ∧ ∀ w e w', DumpOfPost w n D now since e w' → Below w.heap.size w w' ∧ ∃ l, e = .returned (.tuple #[dpV d l, .bool ok]) ∧ OwnDp w' w.heap.size d l := by
  by_cases hgo : TreeGood n D now ∧ 0 ≤ since ∧ since ≤ now
  · refine ⟨dpOf n D now since, true, dpOf_small hgo.1 hf hsz hgo.2.1 hgo.2.2, fun w e w' h => ⟨h.1, ?_⟩⟩
    rcases h.2 with ⟨hno, _⟩ | ⟨_, _, _, la, lc, m, ia, ic, O, E, M, he, hod, hsel⟩
    · exact absurd hgo hno
    · have hm := hsel.len
      subst hm
      exact ⟨⟨la, lc, ia, ic, M⟩, he, hod.ext (fun i hi => ⟨((hsel.each i hi).1).symm, ((hsel.each i hi).2).symm⟩)⟩
  · refine ⟨dpNone, false, dpNone_small, fun w e w' h => ⟨h.1, ?_⟩⟩
    rcases h.2 with ⟨_, he⟩ | ⟨h1, h2, h3, _⟩
    · exact ⟨⟨none, 0, none, 0, fun _ => ⟨none, 0, none, 0⟩⟩, he, OD.start _ _ _ _ _ _⟩
    · exact absurd ⟨h1, h2, h3⟩ hgo
end Go.Proofs.Ytoblndhmkehoaaa

/-
  What NodeSame of the specification answers at two places.
-/
namespace Go.Proofs.Ytoblndhmkehoaaa
open Go.RowKit
set_option linter.unusedVariables false
end Go.Proofs.Ytoblndhmkehoaaa

/-
  What TreeSame of the specification answers at two trees.
-/
namespace Go.Proofs.Ytoblndhmkehoaaa
open Go.RowKit
set_option linter.unusedVariables false

/-- Two trees are one. -/
def treeSame (n m : Nat) (D E : Nat → Nd) (now now' : Int) : Bool := (decide (n = m) && sameAll n D E) && (now == now')

/-- What is known within TreeSame. -/
structure TSIn (w : World) (a a' : Option Addr) (n c m c' : Nat) (now now' : Int) (t : TypeId) (W : World) : Prop where
  p : Blk W w.heap.size #[.slice a n c, .int .i64 now] t
  p' : Blk W (w.heap.size + 1) #[.slice a' m c', .int .i64 now'] t
  bel : Below w.heap.size w W

theorem TSIn.below {w : World} {a a' : Option Addr} {n c m c' : Nat} {now now' : Int} {t : TypeId} {W W' : World} (h : TSIn w a a' n c m c' now now' t W) (hb : Below W.heap.size W W') : TSIn w a a' n c m c' now now' t W' :=
  ⟨h.p.below hb h.p.lt, h.p'.below hb h.p'.lt, h.bel.trans (hb.mono (by have := h.p.lt; omega))⟩

end Go.Proofs.Ytoblndhmkehoaaa

/-
  Plain facts of what is kept of trees that are ok.
-/
namespace Go.Proofs.Ytoblndhmkehoaaa
open Go.RowKit Go.Deep
set_option linter.unusedVariables false
set_option linter.unusedSimpArgs false

/-- One answer, whoever is asked, and what it is. -/
theorem dump_ans2 (n : Nat) (D : Nat → Nd) (now since : Int) (hf : FitAll n D) (hsz : sizeTo D n ≤ 1048576) : ∃ (d : Dp) (ok : Bool), DpSmall d ∧ (ok = true ↔ TreeGood n D now ∧ 0 ≤ since ∧ since ≤ now) ∧ (ok = true → d = dpOf n D now since) ∧ (ok = false → d = dpNone) ∧
    ∀ w e w', DumpOfPost w n D now since e w' → Below w.heap.size w w' ∧ ∃ l, e = .returned (.tuple #[dpV d l, .bool ok]) ∧ OwnDp w' w.heap.size d l := by
  by_cases hgo : TreeGood n D now ∧ 0 ≤ since ∧ since ≤ now
  · refine ⟨dpOf n D now since, true, dpOf_small hgo.1 hf hsz hgo.2.1 hgo.2.2, ⟨fun _ => hgo, fun _ => rfl⟩, fun _ => rfl, (fun h => by cases h), fun w e w' h => ⟨h.1, ?_⟩⟩
    rcases h.2 with ⟨hno, _⟩ | ⟨_, _, _, la, lc, m, ia, ic, O, E, M, he, hod, hsel⟩
    · exact absurd hgo hno
    · have hm := hsel.len
      subst hm
      exact ⟨⟨la, lc, ia, ic, M⟩, he, hod.ext (fun i hi => ⟨((hsel.each i hi).1).symm, ((hsel.each i hi).2).symm⟩)⟩
  · refine ⟨dpNone, false, dpNone_small, ⟨(fun h => by cases h), fun h => absurd h hgo⟩, (fun h => by cases h), fun _ => rfl, fun w e w' h => ⟨h.1, ?_⟩⟩
    rcases h.2 with ⟨_, he⟩ | ⟨h1, h2, h3, _⟩
    · exact ⟨⟨none, 0, none, 0, fun _ => ⟨none, 0, none, 0⟩⟩, he, OD.start _ _ _ _ _ _⟩
    · exact absurd ⟨h1, h2, h3⟩ hgo

theorem dp_same_iff {d e : Dp} : d.same e = true ↔ d.since = e.since ∧ d.date = e.date ∧ (d.ln = e.ln ∧ ∀ i, i < d.ln → d.live i = e.live i) ∧ (d.m = e.m ∧ ∀ i, i < d.m → d.ino i = e.ino i ∧ (d.nd i).same (e.nd i) = true) := by
  unfold Dp.same eqB sameIts sameIt
  simp only [Bool.and_eq_true, beq_iff_eq, decide_eq_true_eq, List.all_eq_true, List.mem_range]
  constructor
  · rintro ⟨⟨⟨a, b⟩, c⟩, d⟩; exact ⟨a, b, c, d⟩
  · rintro ⟨a, b, c, d⟩; exact ⟨⟨⟨a, b⟩, c⟩, d⟩

theorem nd_same_iff {d e : Nd} : d.same e = true ↔ d.kind = e.kind ∧ d.text.toList = e.text.toList ∧ (d.nn = e.nn ∧ ∀ i, i < d.nn → (d.names i).toList = (e.names i).toList) ∧ (d.kn = e.kn ∧ ∀ i, i < d.kn → d.kids i = e.kids i) ∧ d.turn = e.turn := by
  unfold Nd.same eqS eqZ
  simp only [Bool.and_eq_true, beq_iff_eq, decide_eq_true_eq, List.all_eq_true, List.mem_range]
  constructor
  · rintro ⟨⟨⟨⟨a, b⟩, c⟩, d⟩, e⟩; exact ⟨a, b, c, d, e⟩
  · rintro ⟨a, b, c, d, e⟩; exact ⟨⟨⟨⟨a, b⟩, c⟩, d⟩, e⟩

theorem tree_same_iff {n m : Nat} {D E : Nat → Nd} {now now' : Int} : treeSame n m D E now now' = true ↔ n = m ∧ (∀ i, i < n → (D i).same (E i) = true) ∧ now = now' := by
  unfold treeSame sameAll
  simp only [Bool.and_eq_true, beq_iff_eq, decide_eq_true_eq, List.all_eq_true, List.mem_range]
  constructor
  · rintro ⟨⟨a, b⟩, c⟩; exact ⟨a, b, c⟩
  · rintro ⟨a, b, c⟩; exact ⟨⟨a, b⟩, c⟩

/-- A free place of a tree that is ok. -/
theorem good_free {n : Nat} {D : Nat → Nd} {now : Int} (h : TreeGood n D now) {i : Nat} (hi : i < n) (hk : (D i).kind = 0) : (D i).text.toList = [] ∧ (D i).nn = 0 ∧ (D i).kn = 0 ∧ (D i).turn = 0 := by
  have hn := h.nodes i hi
  unfold ndOk at hn
  rw [if_pos hk] at hn
  unfold freeOk at hn
  simp at hn
  exact ⟨hn.1.1.1, hn.1.1.2, hn.1.2, hn.2⟩

/-- A place that is none. -/
theorem good_turn {n : Nat} {D : Nat → Nd} {now : Int} (h : TreeGood n D now) {i : Nat} (hi : i < n) (hk : (D i).kind ≠ 0) : 1 ≤ (D i).turn ∧ (D i).turn ≤ now := by
  have hn := h.nodes i hi
  unfold ndOk at hn
  rw [if_neg hk] at hn
  split at hn
  · unfold fileOk at hn; simp at hn; exact ⟨hn.1.2, hn.2⟩
  · split at hn
    · unfold dirOk at hn; simp at hn; exact ⟨hn.1.2, hn.2⟩
    · cases hn

/-- Whole: all that is not free. -/
theorem sel_whole {n : Nat} {D : Nat → Nd} {now : Int} (h : TreeGood n D now) : selTo D 0 n = (List.range n).filter fun i => (D i).kind != 0 := by
  unfold selTo
  apply List.filter_congr
  intro i hi
  have hi' : i < n := by simpa using hi
  unfold turnedB
  by_cases hk : (D i).kind = 0
  · simp [hk]
  · have := good_turn h hi' hk
    simp [hk]
    omega

theorem mem_sel {D : Nat → Nd} {since : Int} {n i : Nat} : i ∈ selTo D since n ↔ i < n ∧ turnedB D since i = true := by
  unfold selTo
  simp [List.mem_filter]

theorem mem_at {l : List Nat} {i : Nat} (h : i ∈ l) : ∃ j, j < l.length ∧ l.getD j 0 = i := by
  obtain ⟨j, hj, e⟩ := List.getElem_of_mem h
  exact ⟨j, hj, by rw [List.getD_eq_getElem?_getD, List.getElem?_eq_getElem hj]; exact e⟩

/-- What is kept whole is one just if the trees are. -/
theorem whole_same {n m : Nat} {D E : Nat → Nd} {now now' : Int} (h : TreeGood n D now) (h' : TreeGood m E now') : (dpOf n D now 0).same (dpOf m E now' 0) = treeSame n m D E now now' := by
  rw [Bool.eq_iff_iff, dp_same_iff, tree_same_iff]
  constructor
  · rintro ⟨_, hd, ⟨hl, hlive⟩, hm, hits⟩
    have hl' : n = m := hl
    subst hl'
    have hlive' : ∀ i, i < n → ((D i).kind != 0) = ((E i).kind != 0) := hlive
    have hits' : ∀ i, i < (selTo D 0 n).length → ((selTo D 0 n).getD i 0 : Int) = ((selTo E 0 n).getD i 0 : Int) ∧ (D ((selTo D 0 n).getD i 0)).same (E ((selTo E 0 n).getD i 0)) = true := hits
    refine ⟨rfl, fun i hi => ?_, hd⟩
    by_cases hk : (D i).kind = 0
    · have hk' : (E i).kind = 0 := by
        have := hlive' i hi
        simp [hk] at this
        exact this
      obtain ⟨a1, a2, a3, a4⟩ := good_free h hi hk
      obtain ⟨b1, b2, b3, b4⟩ := good_free h' hi hk'
      rw [nd_same_iff]
      exact ⟨by rw [hk, hk'], by rw [a1, b1], ⟨by rw [a2, b2], fun j hj => by omega⟩, ⟨by rw [a3, b3], fun j hj => by omega⟩, by rw [a4, b4]⟩
    · have ht := good_turn h hi hk
      obtain ⟨j, hj, e⟩ := mem_at (mem_sel.2 ⟨hi, by unfold turnedB; simp [hk]; omega⟩ : i ∈ selTo D 0 n)
      obtain ⟨h1, h2⟩ := hits' j hj
      rw [e] at h1 h2
      have h3 : (selTo E 0 n).getD j 0 = i := by omega
      rw [h3] at h2
      exact h2
  · rintro ⟨rfl, hs, rfl⟩
    have hsel : selTo D 0 n = selTo E 0 n := by
      rw [sel_whole h, sel_whole h']
      apply List.filter_congr
      intro i hi
      have := nd_same_iff.1 (hs i (by simpa using hi))
      simp [this.1]
    refine ⟨rfl, rfl, ⟨rfl, fun i hi => ?_⟩, ?_, fun i hi => ?_⟩
    · show ((D i).kind != 0) = ((E i).kind != 0)
      rw [(nd_same_iff.1 (hs i hi)).1]
    · show (selTo D 0 n).length = (selTo E 0 n).length
      rw [hsel]
    · have hi' : i < (selTo D 0 n).length := hi
      have h2 := selTo_lt hi'
      show (((selTo D 0 n).getD i 0 : Nat) : Int) = (((selTo E 0 n).getD i 0 : Nat) : Int) ∧ (D ((selTo D 0 n).getD i 0)).same (E ((selTo E 0 n).getD i 0)) = true
      rw [← hsel]
      exact ⟨rfl, hs _ h2⟩

/-- Another turn: another thing. -/
theorem later_same {n : Nat} {D : Nat → Nd} {now : Int} : (dpOf n D (now + 1) 0).same (dpOf n D now 0) = false := by
  rw [Bool.eq_false_iff]
  intro h
  have h2 : now + 1 = now := (dp_same_iff.1 h).2.1
  omega

/-- A turn more is ok, too. -/
theorem good_more {n : Nat} {D : Nat → Nd} {now : Int} (h : TreeGood n D now) (h1 : now + 1 ≤ 1000) : TreeGood n D (now + 1) := by
  refine ⟨h.some, h.few, by have := h.begun; omega, h1, h.root, fun i hi => ?_, h.reach, h.one⟩
  have hn := h.nodes i hi
  unfold ndOk at hn ⊢
  split at hn
  · rename_i hk; rw [if_pos hk]; exact hn
  · rename_i hk
    rw [if_neg hk]
    split at hn
    · rename_i hk1
      rw [if_pos hk1]
      unfold fileOk at hn ⊢
      simp at hn ⊢
      exact ⟨⟨⟨⟨hn.1.1.1.1, hn.1.1.1.2⟩, hn.1.1.2⟩, hn.1.2⟩, by omega⟩
    · rename_i hk1
      rw [if_neg hk1]
      split at hn
      · rename_i hk2
        rw [if_pos hk2]
        unfold dirOk at hn ⊢
        simp at hn ⊢
        exact ⟨⟨hn.1.1, hn.1.2⟩, by omega⟩
      · cases hn
end Go.Proofs.Ytoblndhmkehoaaa

/-
  What turnedSince yields to whoever ranges over it: the places that were turned, in order; all of them, or the first ones, where a round has said that it wants no more.
-/
namespace Go.Proofs.Ytoblndhmkehoaaa
open Go.RowKit Go.Shelf
set_option linter.unusedVariables false
set_option linter.unusedSimpArgs false
attribute [local go_sem] Oper.semAt_some

/-- Those of the first k that were turned since. -/
def selT (D : Nat → Nd) (since : Int) (k : Nat) : List Nat := (List.range k).filter fun i => decide (since < (D i).turn)
theorem selT_yes {D : Nat → Nd} {since : Int} {k : Nat} (h : since < (D k).turn) : selT D since (k + 1) = selT D since k ++ [k] := by simp [selT, List.range_succ, List.filter_append, h]
theorem selT_no {D : Nat → Nd} {since : Int} {k : Nat} (h : ¬ since < (D k).turn) : selT D since (k + 1) = selT D since k := by simp [selT, List.range_succ, List.filter_append, h]
theorem selT_pre (D : Nat → Nd) (since : Int) {k n : Nat} (h : k ≤ n) : selT D since k <+: selT D since n := by
  induction h with
  | refl => exact List.prefix_refl _
  | step h ih =>
    rename_i m
    by_cases hm : since < (D m).turn
    · rw [selT_yes hm]; exact ih.trans (List.prefix_append _ _)
    · rw [selT_no hm]; exact ih

/-- What a round keeps: the blocks that the function reads. -/
def KeepsTwo (S b : Nat) (W W' : World) : Prop := W'.heap[S]? = W.heap[S]? ∧ W'.heap[b]? = W.heap[b]?

set_option maxRecDepth 100000 in
set_option maxHeartbeats 4000000 in
theorem turned1_in (q : Nat) (hq : 1 ≤ q) (l T S b off n c : Nat) (now since : Int) (D : Nat → Nd) (L : Nat → Loc) (hn : n ≤ 10) (J Jx : List Nat → World → Prop)
    (hY : ∀ pre x W, x < n → since < (D x).turn → J pre W → pre.length < (selT D since n).length → YieldAt Fence.wide (q - 1) Try.prog l #[.int .i64 (x : Nat), ndV (D x) (L x)] W fun e W' =>
      (e = .returned (.bool true) ∧ J (pre ++ [x]) W' ∧ KeepsTwo S b W W') ∨ (e = .returned (.bool false) ∧ Jx (pre ++ [x]) W'))
    (hJa : ∀ pre W o, J pre W → J pre (W.alloc o))
    (W : World) (hT : W.cell? ⟨T, 0, none⟩ = some (.slice (some ⟨b, off, none⟩) n c)) (hSs : W.cell? ⟨S, 0, none⟩ = some (.int .i64 since)) (hSl : S < W.heap.size) (hbl : b < W.heap.size)
    (hc : ∀ i, i < n → W.cell? ⟨b, off + i * 5, none⟩ = some (.int .i64 (D i).kind) ∧ W.cell? ⟨b, off + i * 5 + 1, none⟩ = some (.string (D i).text) ∧
      W.cell? ⟨b, off + i * 5 + 2, none⟩ = some (.slice (L i).nA (D i).nn (L i).nc) ∧ W.cell? ⟨b, off + i * 5 + 3, none⟩ = some (.slice (L i).kA (D i).kn (L i).kc) ∧ W.cell? ⟨b, off + i * 5 + 4, none⟩ = some (.int .i64 (D i).turn)) (h0 : J [] W) :
    CallsIn Fence.wide q Try.prog 51 #[.func (.yield l) #[] #[], .pointer (some ⟨T, 0, none⟩), .pointer (some ⟨S, 0, none⟩)] W fun e W' => (∃ v, e = .returned v) ∧
      (J (selT D since n) W' ∨ (∃ pre : List Nat, pre <+: selT D since n ∧ Jx pre W')) := by
  have HC : Hid _ := hc
  clear hc
  refine callsIn_of_wp Try.func51 rfl trivial ?_ rfl
  simp only [Try.ntmps51, List.size_toArray, List.length_cons, List.length_nil, Nat.reduceAdd, Nat.reduceSub, Array.replicate_succ, Array.replicate_zero, List.push_toArray, List.append_toArray, List.nil_append, List.cons_append]
  gi_wp2
  gi_loopw [9] (fun i wr => ∃ k : Nat, k ≤ n ∧ i = .int .i64 k ∧ J (selT D since k) wr ∧ wr.heap[S]? = W.heap[S]? ∧ wr.heap[b]? = W.heap[b]? ∧ S < wr.heap.size ∧ b < wr.heap.size) (fun i _ => n - (intOf i).toNat)
  case atStart => exact ⟨0, Nat.zero_le _, rfl, h0, rfl, rfl, hSl, hbl⟩
  case round =>
    obtain ⟨k, hk, rfl, hJ, hS, hb, hSl', hbl'⟩ := hrel
    have HJ : Hid (J (selT D since k) wr ∧ wr.heap[S]? = W.heap[S]? ∧ wr.heap[b]? = W.heap[b]?) := ⟨hJ, hS, hb⟩
    clear hJ hS hb
    by_cases hlt : k < n
    · have hlti : (k : Int) < (n : Int) := by omega
      have hcb : ∀ o, wr.cell? ⟨b, o, none⟩ = W.cell? ⟨b, o, none⟩ := fun o => World.cell?_of_block (a := ⟨b, o, none⟩) HJ.out.2.2
      obtain ⟨e0, e1, e2, e3, e4⟩ := HC.out k hlt
      have c0 := (hcb _).trans e0
      have c1 := (hcb _).trans e1
      have c2 := (hcb _).trans e2
      have c3 := (hcb _).trans e3
      have c4 := (hcb _).trans e4
      have cs : wr.cell? ⟨S, 0, none⟩ = some (.int .i64 since) := (World.cell?_of_block (a := ⟨S, 0, none⟩) HJ.out.2.1).trans hSs
      have hSne : S ≠ wr.heap.size := by omega
      have hbne : b ≠ wr.heap.size := by omega
      clear hcb e0 e1 e2 e3 e4
      by_cases ht : since < (D k).turn
      · have hbt : decide (since < (D k).turn) = true := by simp; omega
        have HTK : Hid (since < (D k).turn) := ht
        have HS2 : Hid (selT D since (k + 1) = selT D since k ++ [k]) := selT_yes ht
        have HP : Hid (selT D since (k + 1) <+: selT D since n) := selT_pre D since (by omega)
        have hpl : (selT D since k).length < (selT D since n).length := by
          have := HP.out.length_le
          rw [HS2.out] at this
          simp at this
          omega
        clear ht
        have hJ1 := hJa _ _ (.cells #[.int .i64 (D k).kind, .string (D k).text, .slice (L k).nA (D k).nn (L k).nc, .slice (L k).kA (D k).kn (L k).kc, .int .i64 (D k).turn] 38) HJ.out.1
        obtain ⟨fn, tmps, assign, body, hy, hR⟩ := hY (selT D since k) k _ hlt HTK.out hJ1 hpl
        have HSl : Hid (∀ W3, KeepsTwo S b (wr.alloc (.cells #[.int .i64 (D k).kind, .string (D k).text, .slice (L k).nA (D k).nn (L k).nc, .slice (L k).kA (D k).kn (L k).kc, .int .i64 (D k).turn] 38)) W3 → W3.heap[S]? = W.heap[S]? ∧ W3.heap[b]? = W.heap[b]? ∧ S < W3.heap.size ∧ b < W3.heap.size) := fun W3 h3 => by
          have a1 : W3.heap[S]? = W.heap[S]? := h3.1.trans ((Go.Deep.blk_alloc_lt _ _ _ hSl').trans HJ.out.2.1)
          have a2 : W3.heap[b]? = W.heap[b]? := h3.2.trans ((Go.Deep.blk_alloc_lt _ _ _ hbl').trans HJ.out.2.2)
          exact ⟨a1, a2, (Array.getElem?_eq_some_iff.1 (a1.trans (Array.getElem?_eq_getElem hSl))).1, (Array.getElem?_eq_some_iff.1 (a2.trans (Array.getElem?_eq_getElem hbl))).1⟩
        clear hJ1 HJ
        dsimp only [ndV] at hy
        gi_wp2
        refine hR.mono ?_
        rintro e' W3 (⟨rfl, hJ3, hk3⟩ | ⟨rfl, hJx3⟩)
        · have HJ3 : Hid (J (selT D since k ++ [k]) W3 ∧ W3.heap[S]? = W.heap[S]? ∧ W3.heap[b]? = W.heap[b]? ∧ S < W3.heap.size ∧ b < W3.heap.size) := ⟨hJ3, HSl.out W3 hk3⟩
          clear hJ3 hk3 hy hR HSl
          gi_wp2
          go_roundw
          case rel => exact ⟨k + 1, by omega, by go_num, by rw [HS2.out]; exact HJ3.out.1, HJ3.out.2⟩
          case measure => simp [intOf]; omega
        · have HX : Hid (Jx (selT D since k ++ [k]) W3) := hJx3
          clear hJx3 hy hR HSl
          gi_wp2
          refine bodyPost_ret (results_none rfl _ _ _) rfl ?_
          refine ⟨⟨_, rfl⟩, .inr ⟨selT D since k ++ [k], ?_, HX.out⟩⟩
          have := HP.out
          rwa [HS2.out] at this
      · have hbt : decide (since < (D k).turn) = false := by simp; omega
        have HS2 : Hid (selT D since (k + 1) = selT D since k) := selT_no ht
        clear ht
        gi_wp2
        refine ⟨fun f hf => (by cases hf), ?_⟩
        rename_i hKK xr hr wr' heqr
        refine hKK _ _ ?_
        clear heqr hKK
        gi_wp2
        go_roundw
        case rel => exact ⟨k + 1, by omega, by go_num, by rw [HS2.out]; exact hJa _ _ _ HJ.out.1, (Go.Deep.blk_alloc_lt _ _ _ hSl').trans HJ.out.2.1, (Go.Deep.blk_alloc_lt _ _ _ hbl').trans HJ.out.2.2, by simp; omega, by simp; omega⟩
        case measure => simp [intOf]; omega
    · obtain rfl : k = n := by omega
      gi_wp2
      refine bodyPost_end (results_none rfl _ _ _) rfl ?_
      exact ⟨⟨_, rfl⟩, .inl HJ.out.1⟩

set_option maxHeartbeats 1000000 in
/-- turnedSince: the tree and the turn are boxed; the function value holds the boxes. -/
theorem turned_in (q : Nat) (a : Option Addr) (n c : Nat) (now since : Int) (w : World) :
    CallsIn Fence.wide q Try.prog 27 #[trV a n c now, .int .i64 since] w fun e w' => e = .returned (.func (.func 51) #[] #[.pointer (some ⟨w.heap.size, 0, none⟩), .pointer (some ⟨w.heap.size + 1, 0, none⟩)]) ∧ w' = (w.alloc (.cells #[.slice a n c, .int .i64 now] 25)).alloc (.cells #[.int .i64 since] 3) := by
  unfold trV
  refine callsIn_of_wp Try.func27 rfl trivial ?_ rfl
  simp only [Try.ntmps27, List.size_toArray, List.length_cons, List.length_nil, Nat.reduceAdd, Nat.reduceSub, Array.replicate_succ, Array.replicate_zero, List.push_toArray, List.append_toArray, List.nil_append, List.cons_append]
  gi_wp2
  go_ret
  exact ⟨rfl, rfl⟩
end Go.Proofs.Ytoblndhmkehoaaa

/-
  A statement whose order is drawn, within a round of a range over a function: it is walked as anywhere else. Plain laws.
-/
namespace Go.Proofs.Ytoblndhmkehoaaa
open Go.RowKit
set_option linter.unusedVariables false

section
variable {P : Program} {md : Region.Mode} {Q : Exit → Act → World → Prop} {ops : Array Oper} {l n : Nat}

def noDefer (o : Oper) : Bool := match o.op with | .defer _ => false | _ => true

theorem oper_round {o : Oper} {a : Act} {w : World} {K : Act → World → Prop} (hd : noDefer o = true) (h : o.wp P a w K Q) : o.wpIn (Fence.wide.inRound l) n P a w K Q := by
  have hd' : ∀ c, o.op ≠ .defer c := fun c e => by simp [noDefer, e] at hd
  unfold Oper.wpIn
  refine ⟨fun _ _ => trivial, ?_⟩
  rw [Oper.semAt_eq _ _ _ hd']
  unfold Oper.wp at h
  generalize (execOp a.eval o).run P w = r at *
  cases r with
  | ok x w' =>
    cases x with
    | value v => exact h
    | skip => exact h
    | defer d => exact h
    | enter f args => exact ⟨fun e => by simp [Fence.wide] at e, CallsIn.inRound l (callsIn_wide.2 h)⟩
    | row row args => exact ⟨fun e => by simp [Fence.wide] at e, fun c cs _ => let ⟨v, w', r, s⟩ := h c cs; ⟨v, w', r, stepsIn_wide.2 s⟩⟩
    | _ => exact absurd h (by simp [Oper.upon])
  | halt x w' =>
    cases x <;> first | exact h | exact absurd h (by simp [Oper.upon])

theorem wpAnyIn_of_any (hd : ∀ o ∈ ops.toList, noDefer o = true) (hQ : ¬ LetsOut Q) : ∀ (fuel : Nat) (listed : Array Bool) (a : Act) (w : World), wpAny P md ops Q fuel listed a w → wpAnyIn (Fence.wide.inRound l) n P md ops Q fuel listed a w
  | 0, _, _, _, h => h
  | fuel + 1, listed, a, w, h => ⟨h.1, fun i hi => by
    have h1 := h.2 i hi
    unfold wpOp at h1
    unfold wpOpIn
    cases ho : ops[i]? with
    | none => simp only [ho] at h1 ⊢; exact wpAnyIn_of_any hd hQ fuel _ a w h1
    | some o =>
      have hdo : noDefer o = true := hd o (by have := Array.mem_of_getElem? ho; simpa using this)
      simp only [ho] at h1 ⊢
      by_cases hw : Region.wanted o (yielded ops a.tmps) = true
      · rw [if_pos hw] at h1 ⊢
        rcases h1 with h1 | ⟨_, h1⟩
        · exact Oper.wpIn_mono (fun a w h => wpAnyIn_of_any hd hQ fuel _ a w h) (oper_round hdo h1)
        · exact absurd h1 hQ
      · rw [if_neg hw] at h1 ⊢
        exact ⟨fun _ _ => trivial, wpAnyIn_of_any hd hQ fuel _ _ w h1⟩⟩

theorem wpIn_region_peel {id : Nat} {a : Act} {w : World} (S : World → Prop) (o : Oper) (hm : P.follows .mixedOrders = true) (hd : (ops.toList.all noDefer) = true) (hQ : ¬ LetsOut Q) (hb : ops.back? = some o) (hok : peelOk .any ops.pop o = true)
    (hS : S w.drew) (h : S w.drew → wpAnyH P .any ops.pop (Peel P o Q) S ops.pop.size (Array.replicate ops.pop.size false) a w.drew) : (Code.region id ops true).wpIn (Fence.wide.inRound l) n P Q a w := by
  refine wpIn_region_any hm (wpAnyIn_of_any (List.all_eq_true.1 hd) hQ _ _ _ _ ?_)
  have hp := push_pop hb
  have := wpAny_peel (Q := Q) (P := P) (peelOk_spec hok) ops.pop.size (Array.replicate ops.pop.size false) a w.drew ⟨by simp, fun j oj hj hl e he hbn => by
    rw [Array.getD_eq_getD_getElem?, Array.getElem?_replicate] at hl
    split at hl <;> cases hl⟩ (wpAny_of_held _ _ _ _ (h hS))
  have e1 : (Array.replicate ops.pop.size false).push false = Array.replicate ops.size false := by
    rw [← hp]; simp [Array.replicate_succ]
  have e2 : ops.pop.size + 1 = ops.size := by rw [← hp]; simp
  rw [hp, e1, e2] at this
  exact this
end
end Go.Proofs.Ytoblndhmkehoaaa

/-
  What DumpOf of the program holds between two rounds. Plain facts.
-/
namespace Go.Proofs.Ytoblndhmkehoaaa
open Go.RowKit Go.Deep Go.Shelf
set_option linter.unusedVariables false
set_option linter.unusedSimpArgs false

theorem OD.sameAt {W W' : World} {B k : Nat} {Z : Nat → Bool} {m : Nat} {O : Nat → Int} {D : Nat → Nd} {L : Nat → Loc} {lv iv : Value} (h : OD W B k Z m O D L lv iv) (hw : ∀ d b, d < 2 + 2 * m → (valD lv iv D L d).ownBlock = some b → W'.heap[b]? = W.heap[b]?) : OD W' B k Z m O D L lv iv :=
  ⟨⟨fun d hl => owns_same (h.rows.own d hl) fun b hb => hw d b hl hb, h.rows.apart⟩⟩

theorem owns_cells {W : World} {B : Nat} {e : TypeId} {size k : Nat} {v : Value} {xs : List Value} (h : W.ownsRow B e size v k xs) : ∀ (j : Nat) (o : Obj), v.ownBlock = some j → W.heap[j]? = some o → o.isCells = true := by
  intro j o ej hj
  rcases h.2 with ⟨rfl, _⟩ | ⟨g, cap, cur, rfl, _, hgb, _⟩
  · simp [Value.ownBlock] at ej
  · obtain rfl : g = j := by simpa [Value.ownBlock] using ej
    rw [hgb] at hj; cases hj; rfl

/-- What is known between two rounds: X are blocks of the caller's that are no rows. -/
structure IOf (w : World) (X : Nat → Prop) (a : Option Addr) (n c : Nat) (now since : Int) (Z : Nat → Bool) (V : Nat) (la : Option Addr) (lc m : Nat) (ia : Option Addr) (ic : Nat) (O : Nat → Int) (E : Nat → Nd) (M : Nat → Loc) (W : World) : Prop where
  p : Blk W w.heap.size #[.slice a n c, .int .i64 now] 25
  r : Blk W (w.heap.size + 1) #[.int .i64 0, .int .i64 0, .slice none 0 0, .slice none 0 0] 31
  v : Blk W V #[.int .i64 since, .int .i64 now, .slice la n lc, .slice ia m ic] 31
  bel : Below w.heap.size w W
  far : w.heap.size + 2 ≤ V
  od : OD W (w.heap.size + 2) n Z m O E M (.slice la n lc) (.slice ia m ic)
  off : ∀ d b, d < 2 + 2 * m → (valD (.slice la n lc) (.slice ia m ic) E M d).ownBlock = some b → ¬ X b ∧ b ≠ V
  lt : ∀ b, X b → b < W.heap.size

section
variable {w : World} {X : Nat → Prop} {a : Option Addr} {n c : Nat} {now since : Int} {Z : Nat → Bool} {V : Nat} {la : Option Addr} {lc m : Nat} {ia : Option Addr} {ic : Nat} {O : Nat → Int} {E : Nat → Nd} {M : Nat → Loc} {W W1 W' : World}

theorem IOf.below (h : IOf w X a n c now since Z V la lc m ia ic O E M W) (hb : Below W.heap.size W W') : IOf w X a n c now since Z V la lc m ia ic O E M W' :=
  ⟨h.p.below hb h.p.lt, h.r.below hb h.r.lt, h.v.below hb h.v.lt, h.bel.trans (hb.mono (by have := h.p.lt; omega)), h.far, h.od.below hb, h.off, fun b hX => Nat.lt_of_lt_of_le (h.lt b hX) hb.size⟩

theorem IOf.more {Y : Nat → Prop} (h : IOf w X a n c now since Z V la lc m ia ic O E M W) (hY : ∀ b, Y b → (X b ∨ W.heap.size ≤ b) ∧ b < W'.heap.size) (hb : Below W.heap.size W W') : IOf w Y a n c now since Z V la lc m ia ic O E M W' :=
  ⟨h.p.below hb h.p.lt, h.r.below hb h.r.lt, h.v.below hb h.v.lt, h.bel.trans (hb.mono (by have := h.p.lt; omega)), h.far, h.od.below hb, fun d b hd hv => ⟨fun hy => by
    rcases (hY b hy).1 with e | e
    · exact (h.off d b hd hv).1 e
    · have := (owns_block (h.od.rows.own d hd) hv).2; omega, (h.off d b hd hv).2⟩, fun b hy => (hY b hy).2⟩

/-- Blocks that are no cells may turn. -/
theorem IOf.turned {row : Option Nat} {B : Nat} (h : IOf w X a n c now since Z V la lc m ia ic O E M W) (hg : W.grownBy W' row) (hB : w.heap.size ≤ B) (hr : ∀ r, row = some r → B ≤ r ∧ ∃ o : Obj, W.heap[r]? = some o ∧ o.isCells = false) : IOf w X a n c now since Z V la lc m ia ic O E M W' := by
  have kb : ∀ {b : Nat} {cs : Array Value} {t : TypeId}, Blk W b cs t → Blk W' b cs t := fun {b cs t} hb => blk_grown hb hg (fun e => by
    obtain ⟨_, o, ho, hc⟩ := hr b e
    rw [hb] at ho
    cases ho
    cases hc)
  refine ⟨kb h.p, kb h.r, kb h.v, h.bel.grown hg h.bel.size (fun k e => by have := (hr k e).1; omega), h.far, h.od.sameAt (fun d b hd hv => hg.block b (owns_block (h.od.rows.own d hd) hv).2 (fun e => ?_)), h.off, fun b hX => Nat.lt_of_lt_of_le (h.lt b hX) hg.size⟩
  obtain ⟨_, o, ho, hc⟩ := hr b e.symm
  have := owns_cells (h.od.rows.own d hd) b o hv ho
  rw [this] at hc
  cases hc

/-- One place that was turned more, stored. -/
theorem IOf.item (h : IOf w X a n c now since Z V la lc m ia ic O E M W) {x : Nd} {o : Int} {l : Loc} (hN : NewNn W x l W1) {b c' : Nat} (hg : W1.grownBy W' (Value.slice ia m ic).ownBlock)
    (hown : W'.ownsRow (w.heap.size + 2) 40 6 (.slice (some ⟨b, 0, none⟩) (m + 1) c') (m + 1) (rowsI O E M m ++ it6 o x l)) (hb : (Value.slice ia m ic).ownBlock = some b ∨ W1.heap.size ≤ b) :
    IOf w X a n c now since Z V la lc (m + 1) (some ⟨b, 0, none⟩) c' (fun i => if i = m then o else O i) (fun i => if i = m then x else E i) (fun i => if i = m then l else M i) (W'.setCell ⟨V, 3, none⟩ (.slice (some ⟨b, 0, none⟩) (m + 1) c')) := by
  have h1 := h.below hN.bel
  have hfar := h.far
  have hsz := hN.bel.size
  have hof : ∀ j, (Value.slice ia m ic).ownBlock = some j → w.heap.size + 2 ≤ j ∧ j < W.heap.size ∧ ¬ X j ∧ j ≠ V := fun j e => ⟨(owns_block h.od.ownI e).1, (owns_block h.od.ownI e).2, h.off 1 j (by omega) (by simpa [valD] using e)⟩
  have hne : ∀ j, j ≤ w.heap.size + 1 ∨ j = V → (Value.slice ia m ic).ownBlock ≠ some j := fun j hj e => by
    obtain ⟨h2, _, _, h3⟩ := hof j e
    rcases hj with h4 | h4
    · omega
    · exact h3 h4
  have hVl := h.v.lt
  have hbel : Below w.heap.size w W' := h1.bel.grown hg (by have := h1.bel.size; omega) (fun j e => by have := (hof j e).1; omega)
  have hbV : b ≠ V := fun e => by
    rcases hb with h2 | h2
    · exact (hof b h2).2.2.2 e
    · omega
  have hbX : ¬ X b := fun e => by
    rcases hb with h2 | h2
    · exact (hof b h2).2.2.1 e
    · have := h.lt b e; omega
  have hoff : ∀ d b', d < 2 + 2 * (m + 1) → (valD (.slice la n lc) (.slice (some ⟨b, 0, none⟩) (m + 1) c') (fun i => if i = m then x else E i) (fun i => if i = m then l else M i) d).ownBlock = some b' → ¬ X b' ∧ b' ≠ V := fun d b' hd hv => by
    by_cases e1 : d = 1
    · subst e1
      have e : b = b' := by simpa [valD, Value.ownBlock] using hv
      exact e ▸ ⟨hbX, hbV⟩
    · by_cases e0 : d = 0
      · subst e0
        exact h.off 0 b' (by omega) (by simpa [valD] using hv)
      · unfold valD at hv
        rw [if_neg e0, if_neg e1] at hv
        by_cases hm : (d - 2) / 2 = m
        · simp only [hm, if_true] at hv
          have hfr : W.heap.size ≤ b' := by
            split at hv
            · exact (owns_block hN.names hv).1
            · exact (owns_block hN.kids hv).1
          exact ⟨fun e => by have := h.lt b' e; omega, by omega⟩
        · simp only [hm, if_false] at hv
          exact h.off d b' (by omega) (by unfold valD; rw [if_neg e0, if_neg e1]; exact hv)
  have hod := h.od.item (W' := W') hN (by have := h.p.lt; omega) hg hown (fun b' e => by simp [Value.ownBlock] at e; rw [← e]; exact hb)
  refine ⟨(blk_grown h1.p hg (hne _ (by omega))).off _ (by omega), (blk_grown h1.r hg (hne _ (by omega))).off _ (by omega), (blk_grown h1.v hg (hne _ (Or.inr rfl))).set 3 _, bel_put hbel _ (by omega), hfar, ?_, hoff, fun b' hX => ?_⟩
  · exact hod.sameAt fun d b' hd hv => blk_setCell_other _ _ _ _ (by show b' ≠ V; exact (hoff d b' hd hv).2)
  · have := h.lt b' hX
    have h3 := hg.size
    simp
    omega

/-- What the step leaves of other blocks. -/
theorem IOf.keep (h : IOf w X a n c now since Z V la lc m ia ic O E M W) {x : Nd} {l : Loc} (hN : NewNn W x l W1) {v : Value} (hg : W1.grownBy W' (Value.slice ia m ic).ownBlock) {s : Nat} (hs : X s ∨ s < w.heap.size) (hsV : s ≠ V) (hsl : s < W.heap.size) : (W'.setCell ⟨V, 3, none⟩ v).heap[s]? = W.heap[s]? := by
  have h2 := hN.bel.size
  refine (blk_setCell_other _ _ _ _ (show s ≠ V from hsV)).trans ((hg.block s (by omega) (fun e => ?_)).trans (hN.bel.block s hsl))
  have h3 := h.off 1 s (by omega) (by simpa [valD] using e.symm)
  have h4 := (owns_block h.od.ownI e.symm).1
  rcases hs with h5 | h5
  · exact h3.1 h5
  · omega

theorem keeps_bel {W W' : World} (hb : Below W.heap.size W W') : KeepsOthers W W' := ⟨hb.size, fun k o hk _ => (hb.block k (Array.getElem?_eq_some_iff.1 hk).1).trans hk⟩

theorem IOf.others (h : IOf w X a n c now since Z V la lc m ia ic O E M W) {x : Nd} {l : Loc} (hN : NewNn W x l W1) {v : Value} (hg : W1.grownBy W' (Value.slice ia m ic).ownBlock) : KeepsOthers W (W'.setCell ⟨V, 3, none⟩ v) :=
  ((keeps_bel hN.bel).trans (KeepsOthers.of_grownBy hg fun j o ej hj => owns_cells (owns_same h.od.ownI (w' := W1) (fun b hb => hN.bel.block b (owns_block h.od.ownI hb).2)) j o ej hj)).trans (KeepsOthers.setCell _ _ _)
end

theorem rowd_below {W W' : World} {b n : Nat} {t : TypeId} {f : Nat → Value} (h : W.rowIs b t n f) (hb : Below W.heap.size W W') : W'.rowIs b t n f := by
  obtain ⟨c, h1, h2⟩ := h
  exact ⟨c, (hb.block b (Array.getElem?_eq_some_iff.1 h1).1).trans h1, h2⟩

theorem row_owns {W : World} {B b n : Nat} {Z : Nat → Bool} (h : W.rowIs b 4 n (fun i => .bool (Z i))) (hB : B ≤ b) (hn : n ≤ maxLen) : W.ownsRow B 4 1 (.slice (some ⟨b, 0, none⟩) n n) n (boolv n Z) := by
  obtain ⟨cur, h1, h2, h3⟩ := h
  refine ⟨by rw [boolv_len]; omega, Or.inr ⟨b, n, cur, rfl, hB, h1, Nat.le_refl _, hn, by omega, ?_⟩⟩
  apply List.ext_getElem?
  intro i
  rw [List.getElem?_take]
  by_cases hi : i < n
  · rw [if_pos (by omega), Array.getElem?_toList, h3 i hi]
    simp [boolv, hi]
  · rw [if_neg (by omega)]
    simp [boolv, hi]

/-- At the start: nothing was turned yet. -/
theorem IOf.start {w w1 W : World} {a : Option Addr} {n c : Nat} {now since : Int} {Z : Nat → Bool} {V b2 : Nat} {D : Nat → Nd} {L : Nat → Loc} (h : Blk w1 w.heap.size #[.slice a n c, .int .i64 now] 25 ∧ Blk w1 (w.heap.size + 1) #[.int .i64 0, .int .i64 0, .slice none 0 0, .slice none 0 0] 31 ∧ Below w.heap.size w w1)
    (hb : Below w1.heap.size w1 W) (hv : Blk W V #[.int .i64 0, .int .i64 0, .slice none 0 0, .slice none 0 0] 31) (hrow : W.rowIs b2 4 n (fun i => .bool (Z i))) (hV : w1.heap.size ≤ V) (hb2 : w1.heap.size ≤ b2) (hn : n ≤ maxLen) :
    IOf w (fun _ => False) a n c now since Z V (some ⟨b2, 0, none⟩) n 0 none 0 (fun _ => 0) D L ((((W.setCell ⟨V, 0, none⟩ (.int .i64 since)).setCell ⟨V, 1, none⟩ (.int .i64 now)).setCell ⟨V, 2, none⟩ (.slice (some ⟨b2, 0, none⟩) n n)).setCell ⟨V, 3, none⟩ (.slice none 0 0)) := by
  have hne : b2 ≠ V := fun e => by
    obtain ⟨cur, k1, _, _⟩ := hrow
    rw [e] at k1
    have k2 := k1.symm.trans hv
    simp at k2
  obtain ⟨h1, h2, h3⟩ := h
  have l2 := h2.lt
  have hB : Below w.heap.size w W := h3.trans (hb.mono (by omega))
  have hown := row_owns (B := w.heap.size + 2) hrow (by omega) hn
  have hvs : ∀ d, d < 2 + 2 * 0 → d = 0 ∨ d = 1 := fun d hd => by omega
  have hod : OD W (w.heap.size + 2) n Z 0 (fun _ => 0) D L (.slice (some ⟨b2, 0, none⟩) n n) (.slice none 0 0) := ⟨⟨fun d hd => by
    rcases hvs d hd with rfl | rfl
    · exact hown
    · exact World.ownsRow_nil _ _ _ _, fun d d' hd hd' hne b e e' => by
    rcases hvs d hd with rfl | rfl
    · rcases hvs d' hd' with rfl | rfl
      · exact hne rfl
      · simp [valD, Value.ownBlock] at e'
    · simp [valD, Value.ownBlock] at e⟩⟩
  have hoff : ∀ d b, d < 2 + 2 * 0 → (valD (.slice (some ⟨b2, 0, none⟩) n n) (.slice none 0 0) D L d).ownBlock = some b → ¬ False ∧ b ≠ V := fun d b hd e => ⟨id, by
    rcases hvs d hd with rfl | rfl
    · have e' : b2 = b := by simpa [valD, Value.ownBlock] using e
      exact e' ▸ hne
    · simp [valD, Value.ownBlock] at e⟩
  have off : ∀ {j : Nat} {cs : Array Value} {t : TypeId}, Blk W j cs t → j ≠ V → Blk ((((W.setCell ⟨V, 0, none⟩ (.int .i64 since)).setCell ⟨V, 1, none⟩ (.int .i64 now)).setCell ⟨V, 2, none⟩ (.slice (some ⟨b2, 0, none⟩) n n)).setCell ⟨V, 3, none⟩ (.slice none 0 0)) j cs t := fun hj hV => (((hj.off _ hV).off _ hV).off _ hV).off _ hV
  refine ⟨off (h1.below hb h1.lt) (by have := h1.lt; omega), off (h2.below hb h2.lt) (by omega), (((hv.set 0 _).set 1 _).set 2 _).set 3 _, bel_put (bel_put (bel_put (bel_put hB _ (by omega)) _ (by omega)) _ (by omega)) _ (by omega), by omega, ?_, hoff, fun b hX => hX.elim⟩
  refine hod.sameAt fun d b hd e => ?_
  have hbV := (hoff d b hd e).2
  exact (blk_setCell_other _ _ _ _ (show b ≠ V from hbV)).trans ((blk_setCell_other _ _ _ _ (show b ≠ V from hbV)).trans ((blk_setCell_other _ _ _ _ (show b ≠ V from hbV)).trans (blk_setCell_other _ _ _ _ (show b ≠ V from hbV))))

theorem IOf.fresh {w w1 U : World} {a : Option Addr} {n c : Nat} {now since : Int} {Z : Nat → Bool} {b2 : Nat} {D : Nat → Nd} {L : Nat → Loc} (h : Blk w1 w.heap.size #[.slice a n c, .int .i64 now] 25 ∧ Blk w1 (w.heap.size + 1) #[.int .i64 0, .int .i64 0, .slice none 0 0, .slice none 0 0] 31 ∧ Below w.heap.size w w1)
    (hb : Below w1.heap.size w1 U) (hrow : U.rowIs b2 4 n (fun i => .bool (Z i))) (hb2 : w1.heap.size ≤ b2) (hn : n ≤ maxLen) :
    IOf w (fun _ => False) a n c now since Z U.heap.size (some ⟨b2, 0, none⟩) n 0 none 0 (fun _ => 0) D L (U.alloc (.cells #[.int .i64 since, .int .i64 now, .slice (some ⟨b2, 0, none⟩) n n, .slice none 0 0] 31)) := by
  have hb' := hb.alloc hb.size (.cells #[.int .i64 0, .int .i64 0, .slice none 0 0, .slice none 0 0] 31)
  have hU : Below U.heap.size U (U.alloc (.cells #[.int .i64 0, .int .i64 0, .slice none 0 0, .slice none 0 0] 31)) := (Below.refl _ _).alloc (Nat.le_refl _) _
  have := IOf.start (since := since) (D := D) (L := L) h hb' (Blk.new U _ _) (rowd_below hrow hU) hb.size hb2 hn
  simpa [go_sem] using this

/-- A place that is yielded. -/
abbrev Pl (D : Nat → Nd) (n : Nat) (since : Int) := { x : Nat // x < n ∧ since < (D x).turn }

/-- Between two rounds, these places having come. -/
def RndI (w : World) (a : Option Addr) (n c : Nat) (now since : Int) (D : Nat → Nd) (V b2 S : Nat) (pre : List (Pl D n since)) (W : World) : Prop :=
  ∃ ia ic O E M, IOf w (fun j => j = S) a n c now since (fun i => (D i).kind != 0) V (some ⟨b2, 0, none⟩) n pre.length ia ic O E M W ∧ ∀ i, i < pre.length → O i = ((pre.map (·.1)).getD i 0 : Nat) ∧ E i = D ((pre.map (·.1)).getD i 0)

theorem rndI_own {w : World} {a : Option Addr} {n c : Nat} {now since : Int} {D : Nat → Nd} {V b2 S B : Nat} (hB : w.heap.size ≤ B) : OwnFrom B (RndI w a n c now since D V b2 S) := by
  rintro pre A A' row ⟨ia, ic, O, E, M, h, hs⟩ hg hr
  exact ⟨ia, ic, O, E, M, h.turned hg hB hr, hs⟩

theorem own_ne {W : World} {B e t : Nat} {size k : Nat} {v : Value} {xs : List Value} {j : Nat} {cs : Array Value} (h : W.ownsRow B e size v k xs) (hb : Blk W j cs t) (hne : e ≠ t) : v.ownBlock ≠ some j := fun ej => by
  rcases h.2 with ⟨rfl, _⟩ | ⟨g, cap, cur, rfl, _, hgb, _⟩
  · simp [Value.ownBlock] at ej
  · obtain rfl : g = j := by simpa [Value.ownBlock] using ej
    rw [hb] at hgb
    simp at hgb
    exact hne hgb.2.symm

/-- What a round leaves. -/
theorem rnd_step {w : World} {a : Option Addr} {n c : Nat} {now since : Int} {D : Nat → Nd} {V b2 S B b0 : Nat} {pre : List (Pl D n since)} {x : Pl D n since} {ia : Option Addr} {ic : Nat} {O : Nat → Int} {E : Nat → Nd} {M : Nat → Loc} {W W1 W' : World}
    (h : IOf w (fun j => j = S) a n c now since (fun i => (D i).kind != 0) V (some ⟨b2, 0, none⟩) n pre.length ia ic O E M W) (hsel : ∀ i, i < pre.length → O i = ((pre.map (·.1)).getD i 0 : Nat) ∧ E i = D ((pre.map (·.1)).getD i 0))
    {l : Loc} (hN : NewNn W (D x.1) l W1) {g c' : Nat} (hg : W1.grownBy W' (Value.slice ia pre.length ic).ownBlock)
    (hown : W'.ownsRow (w.heap.size + 2) 40 6 (.slice (some ⟨g, 0, none⟩) (pre.length + 1) c') (pre.length + 1) (rowsI O E M pre.length ++ it6 (x.1 : Nat) (D x.1) l)) (hb : (Value.slice ia pre.length ic).ownBlock = some g ∨ W1.heap.size ≤ g) (hSV : S ≠ V) (hb0 : b0 < w.heap.size) :
    KeepsFrom B W (W'.setCell ⟨V, 3, none⟩ (.slice (some ⟨g, 0, none⟩) (pre.length + 1) c')) ∧ KeepsTwo S b0 W (W'.setCell ⟨V, 3, none⟩ (.slice (some ⟨g, 0, none⟩) (pre.length + 1) c')) ∧ RndI w a n c now since D V b2 S (pre ++ [x]) (W'.setCell ⟨V, 3, none⟩ (.slice (some ⟨g, 0, none⟩) (pre.length + 1) c')) := by
  have hfar := h.far
  have hsz := h.bel.size
  refine ⟨(h.others hN hg).from _, ⟨h.keep hN hg (Or.inl rfl) hSV (h.lt S rfl), h.keep hN hg (Or.inr hb0) (by omega) (by omega)⟩, some ⟨g, 0, none⟩, c', (fun i => if i = pre.length then ((x.1 : Nat) : Int) else O i), (fun i => if i = pre.length then D x.1 else E i), (fun i => if i = pre.length then l else M i), ?_, ?_⟩
  · rw [List.length_append]
    exact h.item hN hg hown hb
  · intro i hi
    rw [List.map_append]
    simp only [List.length_append, List.length_singleton] at hi
    by_cases e : i = pre.length
    · have e2 : (pre.map (·.1) ++ [x].map (·.1)).getD i 0 = x.1 := by rw [List.getD_eq_getElem?_getD, List.getElem?_append_right (by rw [List.length_map]; omega), List.length_map, e]; simp
      rw [e2]
      exact ⟨if_pos e, if_pos e⟩
    · have hi' : i < pre.length := by omega
      have := hsel i hi'
      have e2 : (pre.map (·.1) ++ [x].map (·.1)).getD i 0 = (pre.map (·.1)).getD i 0 := by rw [List.getD_eq_getElem?_getD, List.getD_eq_getElem?_getD, List.getElem?_append_left (by rw [List.length_map]; exact hi')]
      rw [e2]
      exact ⟨(if_neg e).trans this.1, (if_neg e).trans this.2⟩

/-- At the call's end. -/
theorem rnd_done {w : World} {X : Nat → Prop} {a : Option Addr} {n c : Nat} {now since : Int} {Z : Nat → Bool} {V : Nat} {la : Option Addr} {lc m : Nat} {ia : Option Addr} {ic : Nat} {O : Nat → Int} {E : Nat → Nd} {M : Nat → Loc} {U : World} {K : Nat} (h : IOf w X a n c now since Z V la lc m ia ic O E M U) (hK : U.heap[K]? = some (.deferred (some []))) (hl : w.heap.size + 2 ≤ K) :
    let U4 := (((U.setCell ⟨w.heap.size + 1, 0, none⟩ (.int .i64 since)).setCell ⟨w.heap.size + 1, 1, none⟩ (.int .i64 now)).setCell ⟨w.heap.size + 1, 2, none⟩ (.slice la n lc)).setCell ⟨w.heap.size + 1, 3, none⟩ (.slice ia m ic)
    U4.heap[K]? = some (.deferred (some [])) ∧ Blk (U4.putObj K (.deferred none)) (w.heap.size + 1) #[.int .i64 since, .int .i64 now, .slice la n lc, .slice ia m ic] 31 ∧ Below w.heap.size w (U4.putObj K (.deferred none)) ∧ OD (U4.putObj K (.deferred none)) w.heap.size n Z m O E M (.slice la n lc) (.slice ia m ic) := by
  intro U4
  have hset : ∀ b, b ≠ w.heap.size + 1 → U4.heap[b]? = U.heap[b]? := fun b hb => (blk_setCell_other _ _ _ _ (show b ≠ w.heap.size + 1 from hb)).trans ((blk_setCell_other _ _ _ _ (show b ≠ w.heap.size + 1 from hb)).trans ((blk_setCell_other _ _ _ _ (show b ≠ w.heap.size + 1 from hb)).trans (blk_setCell_other _ _ _ _ (show b ≠ w.heap.size + 1 from hb))))
  have hK4 : U4.heap[K]? = some (.deferred (some [])) := (hset K (by omega)).trans hK
  have hr : Blk U4 (w.heap.size + 1) #[.int .i64 since, .int .i64 now, .slice la n lc, .slice ia m ic] 31 := (((h.r.set 0 _).set 1 _).set 2 _).set 3 _
  have hb4 : Below w.heap.size w U4 := bel_put (bel_put (bel_put (bel_put h.bel _ (by omega)) _ (by omega)) _ (by omega)) _ (by omega)
  have hg := grownBy_putObj' U4 K (.deferred none)
  refine ⟨hK4, blk_grown hr hg (fun e => by simp at e; omega), hb4.grown hg hb4.size (fun k e => by cases e; omega), ?_⟩
  refine (h.od.lower (by omega)).sameAt fun d b hd hv => ?_
  have h1 := owns_block (h.od.rows.own d hd) hv
  have hbK : b ≠ K := fun e => by
    have := owns_cells (h.od.rows.own d hd) b _ hv (e ▸ hK)
    cases this
  exact (World.putObj_heap_other hbK).trans (hset b (by omega))

theorem sel_same {n : Nat} {D : Nat → Nd} {now since : Int} (hg : TreeGood n D now) (h0 : 0 ≤ since) : selT D since n = selTo D since n := by
  unfold selT selTo
  apply List.filter_congr
  intro i hi
  have hi' : i < n := by simpa using hi
  have hn := hg.nodes i hi'
  unfold turnedB
  by_cases hk : (D i).kind = 0
  · unfold ndOk at hn
    rw [if_pos hk] at hn
    have ht : (D i).turn = 0 := by
      unfold freeOk at hn
      simp at hn
      exact hn.2
    simp [hk, ht]
    omega
  · simp [hk]

theorem turned_stops (q : Nat) (hq : 1 ≤ q) (T S b off n c : Nat) (now since : Int) (D : Nat → Nd) (L : Nat → Loc) (hn : n ≤ 10) (w0 : World)
    (hT : w0.cell? ⟨T, 0, none⟩ = some (.slice (some ⟨b, off, none⟩) n c)) (hTl : T < w0.heap.size) (hSs : w0.cell? ⟨S, 0, none⟩ = some (.int .i64 since)) (hSl : S < w0.heap.size) (hbl : b < w0.heap.size)
    (hc : ∀ i, i < n → w0.cell? ⟨b, off + i * 5, none⟩ = some (.int .i64 (D i).kind) ∧ w0.cell? ⟨b, off + i * 5 + 1, none⟩ = some (.string (D i).text) ∧
      w0.cell? ⟨b, off + i * 5 + 2, none⟩ = some (.slice (L i).nA (D i).nn (L i).nc) ∧ w0.cell? ⟨b, off + i * 5 + 3, none⟩ = some (.slice (L i).kA (D i).kn (L i).kc) ∧ w0.cell? ⟨b, off + i * 5 + 4, none⟩ = some (.int .i64 (D i).turn)) :
    SeqStopsK Fence.wide q Try.prog 51 #[.pointer (some ⟨T, 0, none⟩), .pointer (some ⟨S, 0, none⟩)] (fun x : Pl D n since => #[.int .i64 (x.1 : Nat), ndV (D x.1) (L x.1)]) (KeepsTwo S b) (fun xs => xs.map (·.1) = selT D since n) (fun _ => True) (selT D since n).length w0 := by
  intro l J Jx W hW hJ hJx hY h0
  refine (turned1_in q hq l T S b off n c now since D L hn (fun pre W => ∃ p : List (Pl D n since), p.map (·.1) = pre ∧ J p W) (fun pre W => ∃ p, Jx p W) ?_ ?_ W ((hW.cell (p := ⟨T, 0, none⟩) hTl).trans hT) ((hW.cell (p := ⟨S, 0, none⟩) hSl).trans hSs) (Nat.lt_of_lt_of_le hSl hW.size) (Nat.lt_of_lt_of_le hbl hW.size) ?_ ⟨[], rfl, h0⟩).mono ?_
  · rintro pre x W1 hx ht ⟨p, rfl, hp⟩ hlen
    obtain ⟨fn, tmps, assign, body, hy, hR⟩ := hY p ⟨x, hx, ht⟩ W1 hp (by simpa using hlen)
    refine ⟨fn, tmps, assign, body, hy, hR.mono ?_⟩
    rintro e W2 (⟨rfl, h1, h2⟩ | ⟨rfl, h1⟩)
    · exact Or.inl ⟨rfl, ⟨p ++ [⟨x, hx, ht⟩], by simp, h1⟩, h2⟩
    · exact Or.inr ⟨rfl, _, h1⟩
  · rintro pre W1 o ⟨p, rfl, hp⟩
    exact ⟨p, rfl, hJ p W1 _ none hp ⟨rfl, rfl, rfl, by simp, fun k hk _ => Go.Deep.blk_alloc_lt _ _ _ hk⟩ (fun r e => by cases e)⟩
  · intro i hi
    obtain ⟨c0, c1, c2, c3, c4⟩ := hc i hi
    have k : ∀ o v, w0.cell? ⟨b, o, none⟩ = some v → W.cell? ⟨b, o, none⟩ = some v := fun o v h => (hW.cell (p := ⟨b, o, none⟩) hbl).trans h
    exact ⟨k _ _ c0, k _ _ c1, k _ _ c2, k _ _ c3, k _ _ c4⟩
  · rintro e W2 ⟨hv, ⟨p, h1, h2⟩ | ⟨pre, _, p, h2⟩⟩
    · exact ⟨hv, Or.inl ⟨p, h1, h2⟩⟩
    · exact ⟨hv, Or.inr ⟨p, trivial, h2⟩⟩
end Go.Proofs.Ytoblndhmkehoaaa

/-
  What is known of the library functions that the program calls, laid at this program.
-/
namespace Go.Proofs.Ytoblndhmkehoaaa
open Go.Shelf
def Try.laysM316_ren : Go.Shelf.Ren := ⟨fun | 316 => 65 | n => n, fun | 9 => 9 | 3 => 3 | 4 => 4 | 37 => 22 | 0 => 0 | 127 => 96 | 5 => 5 | n => n, fun | n => n⟩
theorem Try.laysM316 : Go.Proofs.LaysM.n316 Try.prog Try.laysM316_ren := {
  mixed := by kernel_rfl
  f316 := Try.func65.trans (congrArg some (by kernel_rfl))
  t0 := Try.underlying0
  a0 := Try.isAgg0
  z0 := Try.sizeOf0
  v0 := Try.zeroValue0
  t3 := Try.underlying3
  a3 := Try.isAgg3
  z3 := Try.sizeOf3
  v3 := Try.zeroValue3
  t4 := Try.underlying4
  a4 := Try.isAgg4
  z4 := Try.sizeOf4
  v4 := Try.zeroValue4
  t9 := Try.underlying9
  a9 := Try.isAgg9
  z9 := Try.sizeOf9
  v9 := Try.zeroValue9
  t37 := Try.underlying22
  a37 := Try.isAgg22
  z37 := Try.sizeOf22
  v37 := Try.zeroValue22
  t127 := Try.underlying96
  a127 := Try.isAgg96
  z127 := Try.sizeOf96
  v127 := Try.zeroValue96
  t5 := Try.underlying5
  a5 := Try.isAgg5
  z5 := Try.sizeOf5
  v5 := Try.zeroValue5
  i0 := by kernel_rfl
  i3 := by kernel_rfl
  i4 := by kernel_rfl
  i5 := by kernel_rfl
  i9 := by kernel_rfl
  i37 := by kernel_rfl
  i127 := by kernel_rfl }
open Go.RowKit in
theorem Try.stringslite_Clone (s : ByteArray) (w : World) (hlim : s.size ≤ 281474976710656) :
    Calls Try.prog 65 #[.string s] w fun e w' => e = .returned (.string s) ∧ Below w.heap.size w w' := Any.stringslite_Clone Try.laysM316 s w hlim
end Go.Proofs.Ytoblndhmkehoaaa

/-
  What strings.Clone answers.
-/
namespace Go.Proofs.Ytoblndhmkehoaaa
open Go.RowKit Go.Shelf

set_option maxHeartbeats 400000 in
theorem stringsClone_any (s : ByteArray) (w : World) (hs : s.size ≤ 1048576) :
    Calls Try.prog 52 #[.string s] w fun e w' => e = .returned (.string s) ∧ Below w.heap.size w w' := by
  go_enter Try.func52, Try.ntmps52
  go_wp2_with fail
  refine (Try.stringslite_Clone s _ (by omega)).mono ?_
  rintro e w1 ⟨rfl, hb⟩
  have HB : Hid (Below w.heap.size w w1) := hb
  clear hb
  go_wp2
  go_ret
  exact ⟨rfl, HB.out⟩
end Go.Proofs.Ytoblndhmkehoaaa

/-
  What copyNode of the program answers: a place in new memory.
-/
namespace Go.Proofs.Ytoblndhmkehoaaa
open Go.RowKit Go.Deep
set_option linter.unusedVariables false
set_option linter.unusedSimpArgs false

/-- What is known within copyNode. -/
structure CN (w : World) (d : Nd) (l : Loc) (W : World) : Prop where
  p : Blk W w.heap.size #[.int .i64 d.kind, .string d.text, .slice l.nA d.nn l.nc, .slice l.kA d.kn l.kc, .int .i64 d.turn] 38
  r : Blk W (w.heap.size + 1) #[.int .i64 0, .string ByteArray.empty, .slice none 0 0, .slice none 0 0, .int .i64 0] 38
  bel : Below w.heap.size w W

theorem CN.below {w : World} {d : Nd} {l : Loc} {W W' : World} (h : CN w d l W) (hb : Below W.heap.size W W') : CN w d l W' := ⟨h.p.below hb h.p.lt, h.r.below hb h.r.lt, h.bel.trans (hb.mono (by have := h.p.lt; omega))⟩

theorem CN.grown {w : World} {d : Nd} {l : Loc} {W W' : World} {r : Option Nat} (h : CN w d l W) (hg : W.grownBy W' r) (hr : ∀ b, r = some b → w.heap.size + 2 ≤ b) : CN w d l W' := by
  have hp := h.p.lt
  exact ⟨h.p.of_block (hg.block _ h.p.lt (fun e => by have := hr _ e.symm; omega)), h.r.of_block (hg.block _ h.r.lt (fun e => by have := hr _ e.symm; omega)), h.bel.grown hg (by omega) (fun b e => by have := hr b e; omega)⟩

theorem src_text (W : World) (s : ByteArray) : Src (W.alloc (.cells #[.string s] 9)) 1 (.slice (some ⟨W.heap.size, 0, none⟩) 1 1) 1 [.string s] :=
  ⟨rfl, by intro u hu; simp at hu; subst hu; rfl, Or.inr ⟨⟨W.heap.size, 0, none⟩, 1, rfl, fun j u hu => by
    rw [addr_add, Nat.zero_add, (Blk.new W #[.string s] 9).cell j]
    simpa using hu⟩⟩

theorem lst_more (n : Nat) (S : Nat → ByteArray) : strv (lst (n + 1) S) = strv (lst n S) ++ [.string (S n)] := by simp [strv, lst, List.range_succ]

set_option maxHeartbeats 4000000 in
theorem copyNode_any (d : Nd) (l : Loc) (w : World) (hI : NdIn w d l) (hnn : d.nn ≤ 1048576) (hkn : d.kn ≤ 1048576) (htx : d.text.size ≤ 1048576) (hnm : ∀ i, i < d.nn → (d.names i).size ≤ 1048576) :
    Calls Try.prog 28 #[ndV d l] w fun e w' => ∃ l', e = .returned (ndV d l') ∧ NewNn w d l' w' := by
  obtain ⟨i0, hi, hz0, hz1, hz2⟩ := info_parts infoStr
  obtain ⟨j0, hj, hy0, hy1, hy2⟩ := info_parts infoInt
  unfold ndV
  go_enter Try.func28, Try.ntmps28
  go_wp2_with fail
  go_loopw [3, 10] (fun v i wr => ∃ (k : Nat) (na : Option Addr) (nc : Nat), k ≤ d.nn ∧ i = .int .i64 k ∧ v = .slice na k nc ∧ CN w d l wr ∧ wr.ownsRow (w.heap.size + 2) 9 1 (.slice na k nc) k (strv (lst k d.names))) (fun _ i _ => d.nn - (intOf i).toNat)
  case atStart =>
    have h := new2 w #[.int .i64 d.kind, .string d.text, .slice l.nA d.nn l.nc, .slice l.kA d.kn l.kc, .int .i64 d.turn] 38 #[.int .i64 0, .string ByteArray.empty, .slice none 0 0, .slice none 0 0, .int .i64 0] 38
    exact ⟨0, none, 0, Nat.zero_le _, rfl, rfl, ⟨h.b0, h.b1, h.bel⟩, World.ownsRow_nil _ _ _ _⟩
  case round =>
    obtain ⟨k, na, nc, hk, rfl, rfl, hin, hown⟩ := hrel
    have HIN : Hid (CN w d l wr) := hin
    have HOW : Hid (wr.ownsRow (w.heap.size + 2) 9 1 (.slice na k nc) k (strv (lst k d.names))) := hown
    have hwl := hin.r.lt
    clear hin hown
    by_cases hlt : k < d.nn
    · obtain ⟨b, off, hA, hlt2, hc⟩ := (hI.1.below (Nat.le_refl _) HIN.out.bel).at hlt
      have g0 := hc k hlt
      have hlti : (k : Int) < (d.nn : Int) := by omega
      have HA : Hid (l.nA = some ⟨b, off, none⟩) := hA
      rw [hA]
      clear hc hA
      go_wp2_with fail
      refine (stringsClone_any (d.names k) wr (hnm k hlt)).mono ?_
      rintro e W1 ⟨rfl, hb1⟩
      have hC1 := HIN.out.below hb1
      have hO1 := owns_same HOW.out (w' := W1) (fun b hb => hb1.block b (owns_block HOW.out hb).2)
      have hsz1 := hb1.size
      have HC1 : Hid (CN w d l (W1.alloc (.cells #[.string (d.names k)] 9)) ∧ (W1.alloc (.cells #[.string (d.names k)] 9)).ownsRow (w.heap.size + 2) 9 1 (.slice na k nc) k (strv (lst k d.names))) := ⟨hC1.below ((Below.refl _ _).alloc (Nat.le_refl _) _), hO1.alloc _⟩
      clear hb1 hC1 hO1
      go_wp2_with (at_builtin; go_must (refine wpList_append_src (by rfl) _ _ 35 rfl (w.heap.size + 2) 9 i0 (.string ByteArray.empty) 1 16 Try.underlying35 hi hz0 hz1 hz2 rfl (by decide) (.slice na k nc) k _ (by rfl) HC1.out.2 _ 1 _ (by rfl) (src_text W1 (d.names k)) (by unfold maxLen; omega) (by omega) (by simp; omega) ?_))
      intro vL W3 hown hgrow hnil hat
      rcases hown.2 with ⟨_, h0⟩ | ⟨gL, cL, cur, hvL, _, _, _⟩
      · omega
      subst hvL
      have HR : Hid (CN w d l W3 ∧ W3.ownsRow (w.heap.size + 2) 9 1 (.slice (some ⟨gL, 0, none⟩) (k + 1) cL) (k + 1) (strv (lst (k + 1) d.names))) := ⟨HC1.out.1.grown hgrow (fun b e => (owns_block HC1.out.2 e).1), by rw [lst_more]; exact hown⟩
      clear hown hgrow hnil hat HC1
      go_wp2_with fail
      go_roundw
      case rel => exact ⟨k + 1, some ⟨gL, 0, none⟩, cL, by omega, by go_num, by go_num, HR.out.1, HR.out.2⟩
      case measure => simp [intOf]; omega
    · obtain rfl : k = d.nn := by omega
      have p3 : wr.cell? ⟨w.heap.size, 3, none⟩ = some (.slice l.kA d.kn l.kc) := HIN.out.p.cell 3
      have HSk : Hid (Src wr 1 (.slice l.kA d.kn l.kc) d.kn (intv0 d.kn d.kids)) := (hI.2.below (Nat.le_refl _) HIN.out.bel).src _
      go_wp2_with (at_builtin; go_must (refine wpList_append_src (by rfl) _ _ 36 rfl (wr.heap.size) 3 j0 (.int .i64 0) 1 8 Try.underlying36 hj hy0 hy1 hy2 rfl (by decide) (.slice none 0 0) 0 [] (by rfl) (World.ownsRow_nil _ _ _ _) _ d.kn _ (by rfl) HSk.out (by unfold maxLen; omega) (by omega) (Nat.le_refl _) ?_))
      intro vK W4 hown hgrow hnil hat
      obtain ⟨ka, kc, rfl, hown'⟩ : ∃ ka kc, vK = .slice ka d.kn kc ∧ W4.ownsRow wr.heap.size 3 1 (.slice ka d.kn kc) d.kn (intv0 d.kn d.kids) := by
        try rw [Nat.zero_add, List.nil_append] at hown
        rcases hown.2 with ⟨hv, h0⟩ | ⟨g, cap, cur, hv, _⟩
        · exact ⟨none, 0, by rw [hv, h0], by rw [hv, h0] at hown; rw [h0]; exact hown⟩
        · exact ⟨some ⟨g, 0, none⟩, cap, hv, by rw [hv] at hown; exact hown⟩
      have HC4 : Hid (CN w d l W4) := HIN.out.grown hgrow (fun b e => by simp [Value.ownBlock] at e)
      have HN4 : Hid (W4.ownsRow (w.heap.size + 2) 9 1 (.slice na d.nn nc) d.nn (strv (lst d.nn d.names)) ∧ W4.ownsRow (w.heap.size + 2) 3 1 (.slice ka d.kn kc) d.kn (intv0 d.kn d.kids)) := ⟨owns_kept HOW.out hgrow (fun b _ e => by simp [Value.ownBlock] at e), owns_lower hown' (by omega)⟩
      have HAP : Hid (∀ b, (Value.slice na d.nn nc).ownBlock = some b → (Value.slice ka d.kn kc).ownBlock ≠ some b) := fun b h1 h2 => by
        have a1 := (owns_block HOW.out h1).2
        have a2 := (owns_block hown' h2).1
        omega
      have hwl4 := HC4.out.r.lt
      have HSt : Hid (∀ W, Below W4.heap.size W4 W → W.cell? ⟨w.heap.size, 0, none⟩ = some (.int .i64 d.kind) ∧ W.cell? ⟨w.heap.size, 1, none⟩ = some (.string d.text) ∧ W.cell? ⟨w.heap.size, 4, none⟩ = some (.int .i64 d.turn)) := fun W hW => ⟨(HC4.out.below hW).p.cell 0, (HC4.out.below hW).p.cell 1, (HC4.out.below hW).p.cell 4⟩
      clear hown hown' hgrow hnil hat HSk p3 HOW HIN hwl
      go_wp2_with fail
      refine wp_region_noPanic ?_
      refine wp_region_peel (fun W' => W'.cell? ⟨w.heap.size, 0, none⟩ = some (.int .i64 d.kind) ∧ W'.cell? ⟨w.heap.size, 1, none⟩ = some (.string d.text) ∧ W'.cell? ⟨w.heap.size, 4, none⟩ = some (.int .i64 d.turn)) _ (by kernel_rfl) rfl (by kernel_rfl) ?_ (fun hHeld => ?_)
      · exact HSt.out _ (below_drewN (Below.refl _ _) 1)
      simp only [List.pop_toArray, List.dropLast, List.size_toArray, List.length_cons, List.length_nil, Nat.reduceAdd, Nat.reduceSub, List.getElem_toArray, List.getElem_cons_succ, List.getElem_cons_zero]
      refine peel_take (i := 0) (oi := ?oi0) (v := ?v0) (fun _ _ _ _ _ h => h) hHeld ?hi0 (by kernel_rfl) (by kernel_rfl) (by kernel_rfl) ?hw0 ?hy0 ?rest0
      case hi0 =>
        simp only [List.getElem?_toArray, List.getElem?_cons_zero]
        rfl
      case hw0 => rfl
      case hy0 =>
        intro w hSw
        obtain ⟨s0, s1, s2⟩ := hSw
        go_simp
        try with_reducible rfl
      try simp only [Act.put, List.setIfInBounds_toArray, List.set_cons_zero, List.set_cons_succ]
      refine peel_take (i := 1) (oi := ?oi1) (v := ?v1) (fun _ _ _ _ _ h => h) hHeld ?hi1 (by kernel_rfl) (by kernel_rfl) (by kernel_rfl) ?hw1 ?hy1 ?rest1
      case hi1 =>
        simp only [List.getElem?_toArray, List.getElem?_cons_succ, List.getElem?_cons_zero]
        rfl
      case hw1 => rfl
      case hy1 =>
        intro w hSw
        obtain ⟨s0, s1, s2⟩ := hSw
        go_simp
        try with_reducible rfl
      try simp only [Act.put, List.setIfInBounds_toArray, List.set_cons_zero, List.set_cons_succ]
      refine peel_take (i := 2) (oi := ?oi2) (v := ?v2) (fun _ _ _ _ _ h => h) hHeld ?hi2 (by kernel_rfl) (by kernel_rfl) (by kernel_rfl) ?hw2 ?hy2 ?rest2
      case hi2 =>
        simp only [List.getElem?_toArray, List.getElem?_cons_succ, List.getElem?_cons_zero]
        rfl
      case hw2 => rfl
      case hy2 =>
        intro w hSw
        obtain ⟨s0, s1, s2⟩ := hSw
        go_simp
        try with_reducible rfl
      try simp only [Act.put, List.setIfInBounds_toArray, List.set_cons_zero, List.set_cons_succ]
      refine peel_take (i := 3) (oi := ?oi3) (v := ?v3) (fun _ _ _ _ _ h => h) hHeld ?hi3 (by kernel_rfl) (by kernel_rfl) (by kernel_rfl) ?hw3 ?hy3 ?rest3
      case hi3 =>
        simp only [List.getElem?_toArray, List.getElem?_cons_succ, List.getElem?_cons_zero]
        rfl
      case hw3 => rfl
      case hy3 =>
        intro w hSw
        obtain ⟨s0, s1, s2⟩ := hSw
        go_simp
        try with_reducible rfl
      try simp only [Act.put, List.setIfInBounds_toArray, List.set_cons_zero, List.set_cons_succ]
      refine peel_take (i := 5) (oi := ?oi5) (v := ?v5) (fun _ _ _ _ _ h => h) hHeld ?hi5 (by kernel_rfl) (by kernel_rfl) (by kernel_rfl) ?hw5 ?hy5 ?rest5
      case hi5 =>
        simp only [List.getElem?_toArray, List.getElem?_cons_succ, List.getElem?_cons_zero]
        rfl
      case hw5 => rfl
      case hy5 =>
        intro w hSw
        obtain ⟨s0, s1, s2⟩ := hSw
        go_simp
        try with_reducible rfl
      try simp only [Act.put, List.setIfInBounds_toArray, List.set_cons_zero, List.set_cons_succ]
      refine peel_take (i := 6) (oi := ?oi6) (v := ?v6) (fun _ _ _ _ _ h => h) hHeld ?hi6 (by kernel_rfl) (by kernel_rfl) (by kernel_rfl) ?hw6 ?hy6 ?rest6
      case hi6 =>
        simp only [List.getElem?_toArray, List.getElem?_cons_succ, List.getElem?_cons_zero]
        rfl
      case hw6 => rfl
      case hy6 =>
        intro w hSw
        obtain ⟨s0, s1, s2⟩ := hSw
        go_simp
        try with_reducible rfl
      try simp only [Act.put, List.setIfInBounds_toArray, List.set_cons_zero, List.set_cons_succ]
      refine peel_take (i := 7) (oi := ?oi7) (v := ?v7) (fun _ _ _ _ _ h => h) hHeld ?hi7 (by kernel_rfl) (by kernel_rfl) (by kernel_rfl) ?hw7 ?hy7 ?rest7
      case hi7 =>
        simp only [List.getElem?_toArray, List.getElem?_cons_succ, List.getElem?_cons_zero]
        rfl
      case hw7 => rfl
      case hy7 =>
        intro w hSw
        obtain ⟨s0, s1, s2⟩ := hSw
        go_simp
        try with_reducible rfl
      try simp only [Act.put, List.setIfInBounds_toArray, List.set_cons_zero, List.set_cons_succ]
      refine peel_take (i := 8) (oi := ?oi8) (v := ?v8) (fun _ _ _ _ _ h => h) hHeld ?hi8 (by kernel_rfl) (by kernel_rfl) (by kernel_rfl) ?hw8 ?hy8 ?rest8
      case hi8 =>
        simp only [List.getElem?_toArray, List.getElem?_cons_succ, List.getElem?_cons_zero]
        rfl
      case hw8 => rfl
      case hy8 =>
        intro w hSw
        obtain ⟨s0, s1, s2⟩ := hSw
        go_simp
        try with_reducible rfl
      try simp only [Act.put, List.setIfInBounds_toArray, List.set_cons_zero, List.set_cons_succ]
      refine wpAnyH_ready (rs := [4]) (by kernel_rfl) (by simp) ?_
      refine AllReadyH.cons (o := ?o4) ?ho4 (fun K hK => ?st4) AllReadyH.nil
      case ho4 =>
        simp only [List.getElem?_toArray, List.getElem?_cons_succ, List.getElem?_cons_zero]
        rfl
      go_simp
      refine (stringsClone_any d.text W4.drew htx).mono ?_
      rintro e W5 ⟨rfl, hb5⟩
      have hb5' : Below W4.heap.size W4 W5 := (below_drewN (Below.refl _ _) 1).trans hb5
      refine hK.out _ _ (HSt.out W5 hb5') (fun hHeld => ?re4)
      clear hK K
      try simp only [Act.put, List.setIfInBounds_toArray, List.set_cons_zero, List.set_cons_succ]
      refine wpAnyH_ready (rs := [9]) (by kernel_rfl) (by simp) ?_
      refine AllReadyH.cons (o := ?o9) ?ho9 (fun K hK => ?st9) AllReadyH.nil
      case ho9 =>
        simp only [List.getElem?_toArray, List.getElem?_cons_succ, List.getElem?_cons_zero]
        rfl
      go_simp
      refine hK.out _ _ (HSt.out W5 hb5') (fun hHeld => ?re9)
      clear hK K
      try simp only [Act.put, List.setIfInBounds_toArray, List.set_cons_zero, List.set_cons_succ]
      refine wpAnyH_done (by kernel_rfl) ?_ _
      show Oper.wp _ _ _ _ _ _
      have hC5 := HC4.out.below hb5'
      have r0 : W5.cell? ⟨w.heap.size + 1, 0, none⟩ = some (.int .i64 0) := hC5.r.cell 0
      have r1 : W5.cell? ⟨w.heap.size + 1, 1, none⟩ = some (.string ByteArray.empty) := hC5.r.cell 1
      have r2 : W5.cell? ⟨w.heap.size + 1, 2, none⟩ = some (.slice none 0 0) := hC5.r.cell 2
      have r3 : W5.cell? ⟨w.heap.size + 1, 3, none⟩ = some (.slice none 0 0) := hC5.r.cell 3
      have r4 : W5.cell? ⟨w.heap.size + 1, 4, none⟩ = some (.int .i64 0) := hC5.r.cell 4
      have g0 := hC5.r.frozen 0
      have g1 := hC5.r.frozen 1
      have g2 := hC5.r.frozen 2
      have g3 := hC5.r.frozen 3
      have g4 := hC5.r.frozen 4
      have HC5 : Hid (CN w d l W5 ∧ W5.ownsRow (w.heap.size + 2) 9 1 (.slice na d.nn nc) d.nn (strv (lst d.nn d.names)) ∧ W5.ownsRow (w.heap.size + 2) 3 1 (.slice ka d.kn kc) d.kn (intv0 d.kn d.kids)) := ⟨hC5, owns_same HN4.out.1 (fun b hb => hb5'.block b (owns_block HN4.out.1 hb).2), owns_same HN4.out.2 (fun b hb => hb5'.block b (owns_block HN4.out.2 hb).2)⟩
      clear hC5 hb5 hb5' HSt hHeld HC4 HN4
      go_simp
      refine NoPanic.normal ?_
      go_wp2_with fail
      refine end_world (F := fun W => Blk W (w.heap.size + 1) #[.int .i64 d.kind, .string d.text, .slice na d.nn nc, .slice ka d.kn kc, .int .i64 d.turn] 38 ∧ NewNn w d ⟨na, nc, ka, kc⟩ W) ?_ ?_
      · obtain ⟨hc, h1, h2⟩ := HC5.out
        refine ⟨((((hc.r.set 0 _).set 1 _).set 2 _).set 3 _).set 4 _, bel_put (bel_put (bel_put (bel_put (bel_put hc.bel _ (by omega)) _ (by omega)) _ (by omega)) _ (by omega)) _ (by omega), ?_, ?_, HAP.out⟩
        · refine owns_lower (owns_same h1 fun b hb => ?_) (by omega)
          have := (owns_block h1 hb).1
          have hne : b ≠ w.heap.size + 1 := by omega
          exact ((((blk_setCell_other _ _ _ _ hne).trans (blk_setCell_other _ _ _ _ hne)).trans (blk_setCell_other _ _ _ _ hne)).trans (blk_setCell_other _ _ _ _ hne)).trans (blk_setCell_other _ _ _ _ hne)
        · refine owns_lower (owns_same h2 fun b hb => ?_) (by omega)
          have := (owns_block h2 hb).1
          have hne : b ≠ w.heap.size + 1 := by omega
          exact ((((blk_setCell_other _ _ _ _ hne).trans (blk_setCell_other _ _ _ _ hne)).trans (blk_setCell_other _ _ _ _ hne)).trans (blk_setCell_other _ _ _ _ hne)).trans (blk_setCell_other _ _ _ _ hne)
      clear HC5 r0 r1 r2 r3 r4 g0 g1 g2 g3 g4
      rintro W ⟨hr, hN⟩
      have r0 : W.cell? ⟨w.heap.size + 1, 0, none⟩ = some (.int .i64 d.kind) := hr.cell 0
      have r1 : W.cell? ⟨w.heap.size + 1, 1, none⟩ = some (.string d.text) := hr.cell 1
      have r2 : W.cell? ⟨w.heap.size + 1, 2, none⟩ = some (.slice na d.nn nc) := hr.cell 2
      have r3 : W.cell? ⟨w.heap.size + 1, 3, none⟩ = some (.slice ka d.kn kc) := hr.cell 3
      have r4 : W.cell? ⟨w.heap.size + 1, 4, none⟩ = some (.int .i64 d.turn) := hr.cell 4
      exact bodyPost_ret (v := .agg #[.int .i64 d.kind, .string d.text, .slice na d.nn nc, .slice ka d.kn kc, .int .i64 d.turn]) (by simp [results, Try.results28, go_sem, r0, r1, r2, r3, r4]) rfl ⟨⟨na, nc, ka, kc⟩, rfl, hN⟩
end Go.Proofs.Ytoblndhmkehoaaa

/-
  What slices.Equal answers at two lists of texts; it turns no memory.
-/
namespace Go.Proofs.Ytoblndhmkehoaaa
open Go.RowKit
set_option linter.unusedVariables false

set_option maxHeartbeats 400000 in
theorem slicesEqual_any (a a' : Option Addr) (n c m c' : Nat) (S T : Nat → ByteArray) (w : World) (hS : IsStrs w a n S) (hT : IsStrs w a' m T) (hn : n ≤ maxLen) (hm : m ≤ maxLen) :
    Calls Try.prog 34 #[.slice a n c, .slice a' m c'] w fun e w' => (∃ q, w' = w.drewN q) ∧ e = .returned (.bool (decide (n = m) && eqS n S T)) := by
  unfold maxLen at hn hm
  by_cases hne : n = m
  · subst hne
    have hb : ((n : Int) != (n : Int)) = false := by simp
    go_enter Try.func34, Try.ntmps34
    go_wp2
    go_loopw [13] (fun i wr => ∃ k q : Nat, k ≤ n ∧ i = .int .i64 k ∧ wr = w.drewN q ∧ eqS k S T = true) (fun i _ => n - (intOf i).toNat)
    case atStart => exact ⟨0, 0, Nat.zero_le _, rfl, rfl, rfl⟩
    case round =>
      obtain ⟨k, q, hk, rfl, rfl, heq⟩ := hrel
      have HE : Hid (eqS k S T = true) := heq
      clear heq
      by_cases hlt : k < n
      · obtain ⟨b, off, rfl, hlt2, hc⟩ := hS.at hlt
        obtain ⟨b', off', rfl, hlt2', hc'⟩ := hT.at hlt
        have h1 := hc k hlt
        have h2 := hc' k hlt
        have hlti : (k : Int) < (n : Int) := by omega
        clear hc hc'
        go_wp2
        go_quiet (fail)
        go_wp2
        · go_ret
          exact ⟨⟨q + nq, by simp⟩, ret_bool (by rw [← eqS_not n k S T hlt ‹_›]; simp)⟩
        · go_roundw
          case rel => exact ⟨k + 1, q + nq, by omega, by go_num, rfl, eqS_succ k S T HE.out ‹_›⟩
          case measure => simp [intOf]; omega
      · have hkn : k = n := by omega
        have HK : Hid (k = n) := hkn
        clear hkn
        go_wp2
        go_ret
        exact ⟨⟨q, rfl⟩, ret_bool (by rw [← HK.out, HE.out]; simp)⟩
  · have hb : ((n : Int) != (m : Int)) = true := by simp; omega
    go_enter Try.func34, Try.ntmps34
    go_wp2
    go_ret
    exact ⟨⟨0, rfl⟩, ret_bool (by simp [hne])⟩
end Go.Proofs.Ytoblndhmkehoaaa

/-
  What NodeSame of the program answers at two places, and slices.Equal at two lists of numbers.
-/
namespace Go.Proofs.Ytoblndhmkehoaaa
open Go.RowKit
set_option linter.unusedVariables false

set_option maxHeartbeats 400000 in
theorem intsEqual_any (a a' : Option Addr) (n c m c' : Nat) (Z Y : Nat → Int) (w : World) (hS : IsInts w a n Z) (hT : IsInts w a' m Y) (hn : n ≤ maxLen) (hm : m ≤ maxLen) :
    Calls Try.prog 35 #[.slice a n c, .slice a' m c'] w fun e w' => (∃ q, w' = w.drewN q) ∧ e = .returned (.bool (decide (n = m) && eqZ n Z Y)) := by
  unfold maxLen at hn hm
  by_cases hne : n = m
  · subst hne
    have hb : ((n : Int) != (n : Int)) = false := by simp
    go_enter Try.func35, Try.ntmps35
    go_wp2
    go_loopw [13] (fun i wr => ∃ k q : Nat, k ≤ n ∧ i = .int .i64 k ∧ wr = w.drewN q ∧ eqZ k Z Y = true) (fun i _ => n - (intOf i).toNat)
    case atStart => exact ⟨0, 0, Nat.zero_le _, rfl, rfl, rfl⟩
    case round =>
      obtain ⟨k, q, hk, rfl, rfl, heq⟩ := hrel
      have HE : Hid (eqZ k Z Y = true) := heq
      clear heq
      by_cases hlt : k < n
      · obtain ⟨b, off, rfl, hlt2, hc⟩ := hS.at hlt
        obtain ⟨b', off', rfl, hlt2', hc'⟩ := hT.at hlt
        have h1 := hc k hlt
        have h2 := hc' k hlt
        have hlti : (k : Int) < (n : Int) := by omega
        clear hc hc'
        by_cases hzy : Z k = Y k
        · have hzb : (Z k != Y k) = false := by simp [hzy]
          have HZ : Hid (Z k = Y k) := hzy
          clear hzy
          go_wp2
          go_quiet (fail)
          go_wp2
          go_roundw
          case rel => exact ⟨k + 1, q + nq, by omega, by go_num, rfl, eqZ_succ k Z Y HE.out HZ.out⟩
          case measure => simp [intOf]; omega
        · have hzb : (Z k != Y k) = true := by simp [hzy]
          have HZ : Hid (¬ Z k = Y k) := hzy
          clear hzy
          go_wp2
          go_quiet (fail)
          go_wp2
          go_ret
          exact ⟨⟨q + nq, by simp⟩, ret_bool (by rw [← eqZ_not n k Z Y hlt HZ.out]; simp)⟩
      · have hkn : k = n := by omega
        have HK : Hid (k = n) := hkn
        clear hkn
        go_wp2
        go_ret
        exact ⟨⟨q, rfl⟩, ret_bool (by rw [← HK.out, HE.out]; simp)⟩
  · have hb : ((n : Int) != (m : Int)) = true := by simp; omega
    go_enter Try.func35, Try.ntmps35
    go_wp2
    go_ret
    exact ⟨⟨0, rfl⟩, ret_bool (by simp [hne])⟩

set_option maxHeartbeats 1000000 in
theorem implNodeSame_any (d d' : Nd) (l l' : Loc) (w : World) (hI : NdIn w d l) (hI' : NdIn w d' l') (hf : d.Fits) (hf' : d'.Fits) :
    Calls Try.prog 11 #[ndV d l, ndV d' l'] w fun e w' => Below w.heap.size w w' ∧ e = .returned (.bool (d.same d')) := by
  have hn := hf.nn
  have hn' := hf'.nn
  have hk := hf.kn
  have hk' := hf'.kn
  unfold ndV
  cases b1 : (d.kind == d'.kind) with
  | false =>
    have H : Hid (false = d.same d') := same_kind (by simpa using b1)
    go_enter Try.func11, Try.ntmps11
    go_wp2_with fail
    go_ret
    exact ⟨((Below.refl _ _).alloc (Nat.le_refl _) _).alloc (by simp) _, ret_bool H.out⟩
  | true =>
    cases b2 : (d.text.toList == d'.text.toList) with
    | false =>
      have H : Hid (false = d.same d') := same_text (by rw [b2]; rfl)
      go_enter Try.func11, Try.ntmps11
      go_wp2_with fail
      go_ret
      exact ⟨((Below.refl _ _).alloc (Nat.le_refl _) _).alloc (by simp) _, ret_bool H.out⟩
    | true =>
      cases b3 : (d.turn == d'.turn) with
      | false =>
        have H : Hid (false = d.same d') := same_turn (by simpa using b3)
        go_enter Try.func11, Try.ntmps11
        go_wp2_with fail
        go_ret
        exact ⟨((Below.refl _ _).alloc (Nat.le_refl _) _).alloc (by simp) _, ret_bool H.out⟩
      | true =>
        have HK : Hid ((d.kind != d'.kind) = false ∧ (!d.text.toList == d'.text.toList) = false ∧ (d.turn != d'.turn) = false) := ⟨by simpa using b1, by rw [b2]; rfl, by simpa using b3⟩
        go_enter Try.func11, Try.ntmps11
        go_wp2_with fail
        refine at_world (F := New2 w _ _ _ _) (new2 w _ _ _ _) ?_
        rintro W ⟨hp, hp', hb, hs⟩
        have hI1 := hI.below (Nat.le_refl _) hb
        have hI1' := hI'.below (Nat.le_refl _) hb
        refine (slicesEqual_any l.nA l'.nA d.nn l.nc d'.nn l'.nc d.names d'.names W hI1.1 hI1'.1 hn hn').mono ?_
        rintro e w1 ⟨⟨q, rfl⟩, rfl⟩
        have p3 : W.cell? ⟨w.heap.size, 3, none⟩ = some (.slice l.kA d.kn l.kc) := hp.cell 3
        have q3 : W.cell? ⟨w.heap.size + 1, 3, none⟩ = some (.slice l'.kA d'.kn l'.kc) := hp'.cell 3
        have HI : Hid (IsInts W l.kA d.kn d.kids ∧ IsInts W l'.kA d'.kn d'.kids) := ⟨hI1.2, hI1'.2⟩
        have HB : Hid (Below w.heap.size w W) := hb
        clear hI1 hI1' hI hI' hp hp' hb hs hf hf'
        cases hq1 : (decide (d.nn = d'.nn) && eqS d.nn d.names d'.names) with
        | false =>
          have HQ : Hid ((decide (d.nn = d'.nn) && eqS d.nn d.names d'.names) = false) := hq1
          clear hq1
          go_wp2
          go_ret
          exact ⟨below_drewN HB.out _, ret_bool (same_names HQ.out)⟩
        | true =>
          have HQ : Hid ((decide (d.nn = d'.nn) && eqS d.nn d.names d'.names) = true) := hq1
          clear hq1
          go_wp2_with fail
          refine (intsEqual_any l.kA l'.kA d.kn l.kc d'.kn l'.kc d.kids d'.kids (W.drewN q) (HI.out.1.below (Nat.le_refl _) (below_drewN (Below.refl _ _) _)) (HI.out.2.below (Nat.le_refl _) (below_drewN (Below.refl _ _) _)) hk hk').mono ?_
          rintro e w1 ⟨⟨q', rfl⟩, rfl⟩
          have HZ : Hid ((decide (d.kn = d'.kn) && eqZ d.kn d.kids d'.kids) = d.same d') := by
            show _ = _
            unfold Nd.same
            rw [b1, b2, b3, HQ.out]; simp
          rw [HZ.out]
          go_wp2
          go_ret
          exact ⟨below_drewN HB.out _, rfl⟩
end Go.Proofs.Ytoblndhmkehoaaa

/-
  What lettersAlone and NameOk of the program answer at every text; they do not turn the world.
-/
namespace Go.Proofs.Ytoblndhmkehoaaa
open Go.RowKit
set_option linter.unusedVariables false

/-- Letters alone. -/
def lettersOk (s : ByteArray) : Bool := s.data.toList.all letter

set_option maxHeartbeats 400000 in
theorem lettersAlone_any (s : ByteArray) (w : World) (hs : s.size ≤ maxLen) :
    Calls Try.prog 75 #[.string s] w fun e w' => e = .returned (.bool (lettersOk s)) ∧ w' = w := by
  unfold maxLen at hs
  go_enter Try.func75, Try.ntmps75
  go_wp2
  go_loop [6] (fun i => ∃ k : Nat, k ≤ s.size ∧ i = .int .i64 k ∧ (s.data.toList.take k).all letter = true) (fun i => s.size - (intOf i).toNat)
  case atStart => exact ⟨0, Nat.zero_le _, rfl, rfl⟩
  case round =>
    obtain ⟨k, hk, rfl, ha⟩ := hrel
    have HA : Hid ((s.data.toList.take k).all letter = true) := ha
    clear ha
    by_cases hlt : k < s.size
    · go_wp2
      · go_ret
        exact ⟨ret_bool (not_all s k hlt (letter_no ‹_›)).symm, rfl⟩
      · go_round
        case rel => exact ⟨k + 1, by omega, by go_num, all_snoc s k hlt HA (letter_yes (by omega) (by omega))⟩
        case measure => simp [intOf]; omega
      · go_ret
        exact ⟨ret_bool (not_all s k hlt (letter_no (Or.inl ‹_›))).symm, rfl⟩
    · go_wp2
      go_ret
      refine ⟨ret_bool ?_, rfl⟩
      have h := HA.out
      rw [List.take_of_length_le (by simp; omega)] at h
      exact h.symm

theorem nameOk_mid (s : ByteArray) (h1 : 1 ≤ s.size) (h4 : s.size ≤ 4) : lettersOk s = nameOk s.data.toList := by
  have e : s.data.toList.length = s.size := by simp
  unfold lettersOk nameOk
  rw [decide_eq_true (show 1 ≤ s.data.toList.length by omega), decide_eq_true (show s.data.toList.length ≤ 4 by omega)]; simp

set_option maxHeartbeats 400000 in
theorem implNameOk_any (s : ByteArray) (w : World) (hs : s.size ≤ maxLen) :
    Calls Try.prog 76 #[.string s] w fun e w' => e = .returned (.bool (nameOk s.data.toList)) ∧ w' = w := by
  have hs' := hs
  unfold maxLen at hs'
  by_cases h1 : s.size < 1
  · have hb : decide ((1 : Int) ≤ s.size) = false := by simp; omega
    go_enter Try.func76, Try.ntmps76
    go_wp2
    go_ret
    exact ⟨ret_bool (nameOk_long s (Or.inl h1)), rfl⟩
  · have hb : decide ((1 : Int) ≤ s.size) = true := by simp; omega
    by_cases h4 : 4 < s.size
    · have hb4 : decide ((s.size : Int) ≤ 4) = false := by simp; omega
      go_enter Try.func76, Try.ntmps76
      go_wp2
      go_ret
      exact ⟨ret_bool (nameOk_long s (Or.inr h4)), rfl⟩
    · have hb4 : decide ((s.size : Int) ≤ 4) = true := by simp; omega
      go_enter Try.func76, Try.ntmps76
      go_wp2_with (go_at_call 75; refine (lettersAlone_any _ _ hs).mono ?_; rintro e w' ⟨rfl, rfl⟩)
      go_ret
      exact ⟨ret_bool (nameOk_mid s (by omega) (by omega)), rfl⟩
end Go.Proofs.Ytoblndhmkehoaaa

/-
  What the small parts of TreeOk of the program answer: turns, texts, names, places.
-/
namespace Go.Proofs.Ytoblndhmkehoaaa
open Go.RowKit
set_option linter.unusedVariables false

theorem less_total : ∀ a b : List UInt8, (!Op.bytesLess a b) = (Op.bytesLess b a || b == a)
  | [], [] => rfl
  | [], b :: y => by simp [Op.bytesLess]
  | a :: x, [] => by simp [Op.bytesLess]
  | a :: x, b :: y => by
    have ih := less_total x y
    simp only [Op.bytesLess]
    have e1 : (b :: y == a :: x) = (b == a && y == x) := by simp [List.cons_beq_cons]
    rw [e1]
    rcases Nat.lt_trichotomy a.toNat b.toNat with h | h | h
    · have h1 : a < b := UInt8.lt_iff_toNat_lt.2 h
      have h2 : ¬ b < a := fun hh => by have := UInt8.lt_iff_toNat_lt.1 hh; omega
      have h3 : (b == a) = false := by simp; intro hh; subst hh; omega
      rw [decide_eq_true h1, decide_eq_false h2, h3]; rfl
    · have h1 : a = b := UInt8.toNat_inj.1 h
      subst h1
      have h2 : ¬ a < a := fun hh => by have := UInt8.lt_iff_toNat_lt.1 hh; omega
      rw [decide_eq_false h2]
      simpa using ih
    · have h1 : b < a := UInt8.lt_iff_toNat_lt.2 h
      have h2 : ¬ a < b := fun hh => by have := UInt8.lt_iff_toNat_lt.1 hh; omega
      have h3 : (a == b) = false := by simp; intro hh; subst hh; omega
      rw [decide_eq_true h1, decide_eq_false h2, h3]; rfl

/-- A turn up to a last one. -/
def turnIn (z y : Int) : Bool := decide (1 ≤ z) && decide (z ≤ y)

theorem turnOk_any (z y : Int) (w : World) : Calls Try.prog 36 #[.int .i64 z, .int .i64 y] w fun e w' => e = .returned (.bool (turnIn z y)) ∧ w' = w := by
  by_cases h : 1 ≤ z
  · have hb : decide (1 ≤ z) = true := by simp; omega
    have HE : Hid (decide (z ≤ y) = turnIn z y) := by show _ = _; unfold turnIn; rw [hb]; rfl
    go_enter Try.func36, Try.ntmps36
    go_wp2
    go_ret
    exact ⟨ret_bool HE.out, rfl⟩
  · have hb : decide (1 ≤ z) = false := by simp; omega
    have HE : Hid (false = turnIn z y) := by show _ = _; unfold turnIn; rw [hb]; rfl
    go_enter Try.func36, Try.ntmps36
    go_wp2
    go_ret
    exact ⟨ret_bool HE.out, rfl⟩

theorem implTextOk_any (s : ByteArray) (w : World) (hs : s.size ≤ maxLen) :
    Calls Try.prog 69 #[.string s] w fun e w' => e = .returned (.bool (textOk s)) ∧ w' = w := by
  have hs' := hs
  unfold maxLen at hs'
  by_cases h : s.size ≤ 6
  · have hb : decide ((s.size : Int) ≤ 6) = true := by simp; omega
    have HE : Hid (s.data.toList.all letter = textOk s) := by show _ = _; unfold textOk; rw [decide_eq_true h, Bool.and_true]
    go_enter Try.func69, Try.ntmps69
    go_wp2_with (go_at_call 75; refine (lettersAlone_any _ _ hs).mono ?_; rintro e w' ⟨rfl, rfl⟩)
    go_ret
    exact ⟨ret_bool HE.out, rfl⟩
  · have hb : decide ((s.size : Int) ≤ 6) = false := by simp; omega
    have HE : Hid (false = textOk s) := by show _ = _; unfold textOk; rw [decide_eq_false h, Bool.and_false]
    go_enter Try.func69, Try.ntmps69
    go_wp2
    go_ret
    exact ⟨ret_bool HE.out, rfl⟩

set_option maxHeartbeats 1000000 in
theorem implNamesOk_any (a : Option Addr) (n c : Nat) (S : Nat → ByteArray) (w : World) (hS : IsStrs w a n S) (hm : Small n S) (hn : n ≤ maxLen) :
    Calls Try.prog 70 #[.slice a n c] w fun e w' => (∃ q, w' = w.drewN q) ∧ e = .returned (.bool (dirNames S n)) := by
  unfold maxLen at hn
  go_enter Try.func70, Try.ntmps70
  go_wp2
  go_loopw [7] (fun i wr => ∃ k q : Nat, k ≤ n ∧ i = .int .i64 k ∧ wr = w.drewN q ∧ dirNames S k = true) (fun i _ => n - (intOf i).toNat)
  case atStart => exact ⟨0, 0, Nat.zero_le _, rfl, rfl, rfl⟩
  case round =>
    obtain ⟨k, q, hk, rfl, hwr, heq⟩ := hrel
    have HE : Hid (dirNames S k = true ∧ wr = w.drewN q) := ⟨heq, hwr⟩
    have hSr : IsStrs wr a n S := by rw [hwr]; exact hS.below (Nat.le_refl _) (below_drewN (Below.refl _ _) _)
    clear heq hwr
    by_cases hlt : k < n
    · obtain ⟨b, off, rfl, hlt2, hc⟩ := hSr.at hlt
      have h1 := hc k hlt
      have hlti : (k : Int) < (n : Int) := by omega
      have hmk := hm k hlt
      have hcall : Hid (Calls Try.prog 76 #[.string (S k)] wr fun e w' => e = .returned (.bool (nameOk (S k).data.toList)) ∧ w' = wr) := implNameOk_any (S k) _ hmk
      cases hnm : nameOk (S k).data.toList with
      | false =>
        rw [hnm] at hcall
        have HN : Hid (nameOk (S k).data.toList = false) := hnm
        clear hc hnm
        go_wp2_with (go_at_call 76; refine hcall.out.mono ?_; rintro e w' ⟨rfl, rfl⟩)
        go_ret
        exact ⟨⟨q, HE.out.2⟩, ret_bool (dirNames_bad S k n hlt (by rw [HN.out]; rfl))⟩
      | true =>
        rw [hnm] at hcall
        have HN : Hid (nameOk (S k).data.toList = true) := hnm
        clear hnm
        by_cases hk0 : k = 0
        · subst hk0
          clear hc
          rw [Nat.add_zero] at h1
          go_wp2_with (go_at_call 76; refine hcall.out.mono ?_; rintro e w' ⟨rfl, rfl⟩)
          go_roundw
          case rel => exact ⟨1, q, by omega, by go_num, HE.out.2, dirNames_one S HN.out⟩
          case measure => simp [intOf]; omega
        · have h2 : wr.cell? ⟨b, off + (k - 1), none⟩ = some (.string (S (k - 1))) := hc (k - 1) (by omega)
          have hk0' : decide (0 < k) = true := by simp; omega
          have hk1 : ((k - 1 : Nat) : Int) < (n : Int) := by omega
          have hwr : IntKind.i64.wrap ((k : Int) - 1) = ((k - 1 : Nat) : Int) := by rw [IntKind.wrap_i64]; omega
          clear hc
          cases hle : lessEq (S k) (S (k - 1)) with
          | true =>
            have hle' : (!Op.bytesLess (S (k - 1)).toList (S k).toList) = true := (less_total _ _).trans hle
            have HL : Hid (lessEq (S k) (S (k - 1)) = true) := hle
            clear hle
            go_wp2_with (go_at_call 76; refine hcall.out.mono ?_; rintro e w' ⟨rfl, rfl⟩)
            go_ret
            exact ⟨⟨q, HE.out.2⟩, ret_bool (dirNames_bad S k n hlt (by rw [HN.out, HL.out]; simp; omega))⟩
          | false =>
            have hle' : (!Op.bytesLess (S (k - 1)).toList (S k).toList) = false := (less_total _ _).trans hle
            have HL : Hid (lessEq (S k) (S (k - 1)) = false) := hle
            clear hle
            go_wp2_with (go_at_call 76; refine hcall.out.mono ?_; rintro e w' ⟨rfl, rfl⟩)
            go_roundw
            case rel => exact ⟨k + 1, q, by omega, by go_num, HE.out.2, dirNames_succ S k HE.out.1 (by rw [HN.out, HL.out]; simp)⟩
            case measure => simp [intOf]; omega
    · have hkn : k = n := by omega
      have HK : Hid (k = n) := hkn
      clear hkn
      go_wp2
      go_ret
      exact ⟨⟨q, HE.out.2⟩, ret_bool (by rw [← HK.out, HE.out.1])⟩

set_option maxHeartbeats 1000000 in
theorem implKidsOk_any (a : Option Addr) (n c : Nat) (now : Int) (D : Nat → Nd) (L : Nat → Loc) (kA : Option Addr) (kn kc : Nat) (Z : Nat → Int) (w : World) (hS : IsNds w a n D L) (hI : IsInts w kA kn Z) (hkn : kn ≤ maxLen) (hZ : ∀ i, i < kn → In64 (Z i)) (hn : n ≤ maxLen) :
    Calls Try.prog 63 #[trV a n c now, .slice kA kn kc] w fun e w' => Below w.heap.size w w' ∧ e = .returned (.bool (kidsOk n D Z kn)) := by
  unfold maxLen at hkn hn
  unfold trV
  go_enter Try.func63, Try.ntmps63
  go_wp2
  go_loopw [9] (fun i wr => ∃ k : Nat, k ≤ kn ∧ i = .int .i64 k ∧ RefsIn w a n c now wr ∧ kidsOk n D Z k = true) (fun i _ => kn - (intOf i).toNat)
  case atStart => exact ⟨0, Nat.zero_le _, rfl, ⟨(new1 w _ _).b0, (new1 w _ _).bel⟩, rfl⟩
  case round =>
    obtain ⟨k, hk, rfl, hin, heq⟩ := hrel
    have t0 : wr.cell? ⟨w.heap.size, 0, none⟩ = some (.slice a n c) := hin.t.cell 0
    have hSr := hS.below (Nat.le_refl _) hin.bel
    have hIr := hI.below (Nat.le_refl _) hin.bel
    have HE : Hid (kidsOk n D Z k = true ∧ RefsIn w a n c now wr) := ⟨heq, hin⟩
    clear heq hin
    by_cases hlt : k < kn
    · obtain ⟨b, off, rfl, hlt2, hc⟩ := hIr.at hlt
      have h1 := hc k hlt
      have hlti : (k : Int) < (kn : Int) := by omega
      clear hc
      have hz := hZ k hlt
      unfold In64 at hz
      have bad : kidOk n D (Z k) = false → Hid (kidsOk n D Z kn = false) := fun h => kidsOk_bad hlt h
      by_cases hz1 : Z k < 1
      · have H : Hid (kidsOk n D Z kn = false) := bad (by unfold kidOk; rw [decide_eq_false (show ¬ 1 ≤ Z k by omega)]; rfl)
        clear bad
        go_wp2_with fail
        go_ret
        exact ⟨HE.out.2.bel, ret_bool (by rw [H.out])⟩
      · by_cases hz2 : (n : Int) ≤ Z k
        · have H : Hid (kidsOk n D Z kn = false) := bad (by unfold kidOk; rw [decide_eq_false (show ¬ Z k < n by omega)]; simp)
          clear bad
          go_wp2_with fail
          go_ret
          exact ⟨HE.out.2.bel, ret_bool (by rw [H.out])⟩
        · obtain ⟨j, hj⟩ : ∃ j : Nat, Z k = j := ⟨(Z k).toNat, by omega⟩
          have hjn : j < n := by omega
          obtain ⟨b', off', ha, hlt2', hc'⟩ := hSr.at hjn
          have g0 := (hc' j hjn).1
          have hko : kidOk n D (Z k) = ((D j).kind != 0) := by
            unfold kidOk; rw [decide_eq_true (show 1 ≤ Z k by omega), decide_eq_true (show Z k < n by omega), hj]; simp
          clear hc' hSr
          rw [ha] at t0
          rw [hj] at h1 hz1 hz2 hz
          cases hkd : ((D j).kind == 0) with
          | true =>
            have H : Hid (kidsOk n D Z kn = false) := bad (by rw [hko]; simp only [bne, hkd]; rfl)
            clear bad hko
            go_wp2_with fail
            go_ret
            exact ⟨HE.out.2.bel, ret_bool (by rw [H.out])⟩
          | false =>
            have H : Hid (kidOk n D (Z k) = true) := hko.trans (by simp only [bne, hkd]; rfl)
            clear bad hko
            go_wp2_with fail
            go_roundw
            case rel => exact ⟨k + 1, by omega, by go_num, HE.out.2, kidsOk_succ HE.out.1 H.out⟩
            case measure => simp [intOf]; omega
    · have hke : k = kn := by omega
      have HK : Hid (kidsOk n D Z kn = true) := by have := HE.out.1; rw [hke] at this; exact this
      clear hke hSr hIr
      go_wp2
      go_ret
      exact ⟨HE.out.2.bel, ret_bool (by rw [HK.out])⟩
end Go.Proofs.Ytoblndhmkehoaaa

/-
  What placeOk of the program answers: whether a place is right by itself.
-/
namespace Go.Proofs.Ytoblndhmkehoaaa
open Go.RowKit
set_option linter.unusedVariables false

/-- The empty place. -/
def nd0 : Nd := ⟨0, ByteArray.empty, 0, fun _ => ByteArray.empty, 0, fun _ => 0, 0⟩
def loc0 : Loc := ⟨none, 0, none, 0⟩
theorem nd0_fits : nd0.Fits := ⟨⟨by decide, by decide⟩, ⟨by decide, by decide⟩, by unfold nd0 maxLen; simp, fun i hi => by unfold nd0 at hi; simp at hi, by unfold nd0 maxLen; simp, by unfold nd0 maxLen; simp, fun i hi => by unfold nd0 at hi; simp at hi⟩
theorem nd0_in (w : World) : NdIn w nd0 loc0 := ⟨Or.inl rfl, Or.inl rfl⟩

theorem same_free (d : Nd) (h : d.kind = 0) : d.same nd0 = freeOk d := by
  unfold Nd.same freeOk nd0
  rw [h]
  by_cases hn : d.nn = 0
  · by_cases hk : d.kn = 0
    · rw [hn, hk]; simp [eqS, eqZ]
    · simp [hk]
  · simp [hn]

/-- What a file has. -/
def fileIs (d : Nd) : Bool := textOk d.text && decide (d.nn = 0) && decide (d.kn = 0)
/-- What a directory has. -/
def dirIs (d : Nd) : Bool := (d.text.toList == []) && dirNames d.names d.nn && decide (d.kn = d.nn)

theorem fileOk_eq (now : Int) (d : Nd) : fileOk now d = (fileIs d && turnIn d.turn now) := by
  unfold fileOk fileIs turnIn; simp only [Bool.and_assoc]

theorem dirOk_eq (n : Nat) (D : Nat → Nd) (now : Int) (d : Nd) : dirOk n D now d = (dirIs d && kidsOk n D d.kids d.kn && turnIn d.turn now) := by
  unfold dirOk dirIs turnIn
  cases (d.text.toList == []) <;> cases dirNames d.names d.nn <;> cases kidsOk n D d.kids d.kn <;> cases decide (d.kn = d.nn) <;> simp

set_option maxHeartbeats 1000000 in
theorem implFileOk_any (d : Nd) (l : Loc) (w : World) (hf : d.Fits) :
    Calls Try.prog 56 #[ndV d l] w fun e w' => Below w.heap.size w w' ∧ e = .returned (.bool (fileIs d)) := by
  have hkn := hf.kn
  have hnn := hf.nn
  unfold maxLen at hkn hnn
  unfold ndV
  go_enter Try.func56, Try.ntmps56
  go_wp2_with fail
  refine (implTextOk_any d.text _ hf.text).mono ?_
  rintro e w1 ⟨rfl, rfl⟩
  cases htx : textOk d.text with
  | false =>
    have HT : Hid (textOk d.text = false) := htx
    clear htx
    go_wp2_with fail
    go_ret
    exact ⟨(Below.refl _ _).alloc (Nat.le_refl _) _, ret_bool (by unfold fileIs; rw [HT.out]; rfl)⟩
  | true =>
    have HT : Hid (textOk d.text = true) := htx
    clear htx
    go_wp2_with fail
    all_goals
      go_ret
      refine ⟨(Below.refl _ _).alloc (Nat.le_refl _) _, ret_bool ?_⟩
      unfold fileIs
      rw [HT.out]
      by_cases h1 : d.nn = 0 <;> by_cases h2 : d.kn = 0 <;> simp_all

set_option maxHeartbeats 1000000 in
theorem implDirOk_any (d : Nd) (l : Loc) (w : World) (hI : NdIn w d l) (hf : d.Fits) :
    Calls Try.prog 57 #[ndV d l] w fun e w' => Below w.heap.size w w' ∧ e = .returned (.bool (dirIs d)) := by
  have hkn := hf.kn
  have hnn := hf.nn
  unfold maxLen at hkn hnn
  unfold ndV
  cases ht : (d.text.toList == []) with
  | false =>
    have HT : Hid ((d.text.toList == []) = false) := ht
    go_enter Try.func57, Try.ntmps57
    go_wp2_with fail
    go_ret
    exact ⟨(Below.refl _ _).alloc (Nat.le_refl _) _, ret_bool (by unfold dirIs; rw [HT.out]; rfl)⟩
  | true =>
    have HT : Hid ((d.text.toList == []) = true) := ht
    go_enter Try.func57, Try.ntmps57
    go_wp2_with fail
    refine at_world (F := New1 w _ _) (new1 w _ _) ?_
    rintro W ⟨hp, hb, hs⟩
    refine (implNamesOk_any l.nA d.nn l.nc d.names W (hI.1.below (Nat.le_refl _) hb) hf.names hf.nn).mono ?_
    rintro e w1 ⟨⟨q, rfl⟩, rfl⟩
    have p2 : W.cell? ⟨w.heap.size, 2, none⟩ = some (.slice l.nA d.nn l.nc) := hp.cell 2
    have p3 : W.cell? ⟨w.heap.size, 3, none⟩ = some (.slice l.kA d.kn l.kc) := hp.cell 3
    have HB : Hid (Below w.heap.size w W) := hb
    clear hp hb hs ht
    cases hnm : dirNames d.names d.nn with
    | false =>
      have HN : Hid (dirNames d.names d.nn = false) := hnm
      clear hnm
      go_wp2_with fail
      go_ret
      exact ⟨below_drewN HB.out _, ret_bool (by unfold dirIs; rw [HN.out]; simp)⟩
    | true =>
      have HN : Hid (dirNames d.names d.nn = true) := hnm
      clear hnm
      go_wp2_with fail
      all_goals
        go_ret
        refine ⟨below_drewN HB.out _, ret_bool ?_⟩
        unfold dirIs; rw [HN.out, HT.out]
        by_cases h : d.kn = d.nn
        · simp [h]
        · rw [decide_eq_false h]; simp; omega

set_option maxHeartbeats 1000000 in
theorem placeOk_any (a : Option Addr) (n c : Nat) (now : Int) (D : Nat → Nd) (L : Nat → Loc) (d : Nd) (l : Loc) (w : World) (hS : IsNds w a n D L) (hI : NdIn w d l) (hf : d.Fits) (hn : n ≤ maxLen) :
    Calls Try.prog 48 #[trV a n c now, ndV d l] w fun e w' => Below w.heap.size w w' ∧ e = .returned (.bool (ndOk n D now d)) := by
  unfold trV ndV
  by_cases h0 : d.kind = 0
  · have H : Hid (d.same nd0 = ndOk n D now d) := (same_free d h0).trans (if_pos h0).symm
    have b0 : (d.kind == 0) = true := by simp [h0]
    clear h0
    go_enter Try.func48, Try.ntmps48
    go_wp2_with fail
    refine at_world (F := New2 w _ _ _ _) (new2 w _ _ _ _) ?_
    rintro W ⟨hp, hp', hb, hs⟩
    refine (implNodeSame_any d nd0 l loc0 W (hI.below (Nat.le_refl _) hb) (nd0_in _) hf nd0_fits).mono ?_
    rintro e w1 ⟨hb1, rfl⟩
    have HB : Hid (Below w.heap.size w w1) := hb.trans (hb1.mono (by omega))
    clear hp hp' hb hs hb1
    rw [H.out]
    go_wp2
    go_ret
    exact ⟨HB.out, rfl⟩
  · have n0 : (d.kind == 0) = false := by simp [h0]
    by_cases h1 : d.kind = 1
    · have H : Hid (ndOk n D now d = (fileIs d && turnIn d.turn now)) := ((if_neg h0).trans (if_pos h1)).trans (fileOk_eq now d)
      have b1 : (d.kind == 1) = true := by simp [h1]
      clear h0 h1
      go_enter Try.func48, Try.ntmps48
      go_wp2_with fail
      refine at_world (F := New2 w _ _ _ _) (new2 w _ _ _ _) ?_
      rintro W ⟨hp, hp', hb, hs⟩
      refine (implFileOk_any d l W hf).mono ?_
      rintro e w1 ⟨hb1, rfl⟩
      have p1 : w1.cell? ⟨w.heap.size, 1, none⟩ = some (.int .i64 now) := (hp.below hb1 (by omega)).cell 1
      have d4 : w1.cell? ⟨w.heap.size + 1, 4, none⟩ = some (.int .i64 d.turn) := (hp'.below hb1 (by omega)).cell 4
      have HB : Hid (Below w.heap.size w w1) := hb.trans (hb1.mono (by omega))
      clear hp hp' hb hs hb1
      cases hq : fileIs d with
      | false =>
        have HQ : Hid (false = ndOk n D now d) := by show _ = _; rw [H.out, hq]; rfl
        clear hq
        go_wp2
        go_ret
        exact ⟨HB.out, ret_bool HQ.out⟩
      | true =>
        have HQ : Hid (turnIn d.turn now = ndOk n D now d) := by show _ = _; rw [H.out, hq]; rfl
        clear hq
        go_wp2_with (go_at_call 36; refine (turnOk_any _ _ _).mono ?_; rintro e w' ⟨rfl, rfl⟩)
        go_ret
        exact ⟨HB.out, ret_bool HQ.out⟩
    · have n1 : (d.kind == 1) = false := by simp [h1]
      by_cases h2 : d.kind = 2
      · have H : Hid (ndOk n D now d = (dirIs d && kidsOk n D d.kids d.kn && turnIn d.turn now)) := ((if_neg h0).trans ((if_neg h1).trans (if_pos h2))).trans (dirOk_eq n D now d)
        have b2 : (d.kind == 2) = true := by simp [h2]
        clear h0 h1 h2
        go_enter Try.func48, Try.ntmps48
        go_wp2_with fail
        refine at_world (F := New2 w _ _ _ _) (new2 w _ _ _ _) ?_
        rintro W ⟨hp, hp', hb, hs⟩
        refine (implDirOk_any d l W (hI.below (Nat.le_refl _) hb) hf).mono ?_
        rintro e w1 ⟨hb1, rfl⟩
        have hp1 := hp.below hb1 (by omega)
        have hp1' := hp'.below hb1 (by omega)
        have p0 : w1.cell? ⟨w.heap.size, 0, none⟩ = some (.slice a n c) := hp1.cell 0
        have p1 : w1.cell? ⟨w.heap.size, 1, none⟩ = some (.int .i64 now) := hp1.cell 1
        have d3 : w1.cell? ⟨w.heap.size + 1, 3, none⟩ = some (.slice l.kA d.kn l.kc) := hp1'.cell 3
        have hwl := hp1'.lt
        have HB : Hid (Below w.heap.size w w1 ∧ Blk w1 w.heap.size _ _ ∧ Blk w1 (w.heap.size + 1) _ _) := ⟨hb.trans (hb1.mono (by omega)), hp1, hp1'⟩
        clear hp hp' hb hs hb1 hp1 hp1'
        cases hq : dirIs d with
        | false =>
          have HQ : Hid (false = ndOk n D now d) := by show _ = _; rw [H.out, hq]; rfl
          clear hq
          go_wp2
          go_ret
          exact ⟨HB.out.1, ret_bool HQ.out⟩
        | true =>
          have HQ1 : Hid (ndOk n D now d = (kidsOk n D d.kids d.kn && turnIn d.turn now)) := by show _ = _; rw [H.out, hq]; rfl
          clear hq
          go_wp2_with fail
          refine (implKidsOk_any a n c now D L l.kA d.kn l.kc d.kids w1 (hS.below (Nat.le_refl _) HB.out.1) (hI.2.below (Nat.le_refl _) HB.out.1) hf.kn hf.kids hn).mono ?_
          rintro e w2 ⟨hb2, rfl⟩
          have p1' : w2.cell? ⟨w.heap.size, 1, none⟩ = some (.int .i64 now) := (HB.out.2.1.below hb2 (by omega)).cell 1
          have d4 : w2.cell? ⟨w.heap.size + 1, 4, none⟩ = some (.int .i64 d.turn) := (HB.out.2.2.below hb2 (by omega)).cell 4
          have HB2 : Hid (Below w.heap.size w w2) := HB.out.1.trans (hb2.mono (by omega))
          clear hb2 p0 p1 d3
          cases hq : kidsOk n D d.kids d.kn with
          | false =>
            have HQ : Hid (false = ndOk n D now d) := by show _ = _; rw [HQ1.out, hq]; rfl
            clear hq
            go_wp2
            go_ret
            exact ⟨HB2.out, ret_bool HQ.out⟩
          | true =>
            have HQ : Hid (turnIn d.turn now = ndOk n D now d) := by show _ = _; rw [HQ1.out, hq]; rfl
            clear hq
            go_wp2_with (go_at_call 36; refine (turnOk_any _ _ _).mono ?_; rintro e w' ⟨rfl, rfl⟩)
            go_ret
            exact ⟨HB2.out, ret_bool HQ.out⟩
      · have n2 : (d.kind == 2) = false := by simp [h2]
        have H : Hid (false = ndOk n D now d) := ((if_neg h0).trans ((if_neg h1).trans (if_neg h2))).symm
        clear h0 h1 h2
        go_enter Try.func48, Try.ntmps48
        go_wp2_with fail
        go_ret
        exact ⟨((Below.refl _ _).alloc (Nat.le_refl _) _).alloc (by simp) _, ret_bool H.out⟩
end Go.Proofs.Ytoblndhmkehoaaa

/-
  When what is kept is right: plain facts.
-/
namespace Go.Proofs.Ytoblndhmkehoaaa
open Go.RowKit
set_option linter.unusedVariables false

/-- A place that there is. -/
def liveIn (n : Nat) (Z : Nat → Bool) (z : Int) : Bool := decide (0 ≤ z) && decide (z < n) && Z z.toNat
/-- .. and that is not the root. -/
def kidIn (n : Nat) (Z : Nat → Bool) (z : Int) : Bool := decide (1 ≤ z) && decide (z < n) && Z z.toNat
def kidsIn (n : Nat) (Z : Nat → Bool) (K : Nat → Int) (k : Nat) : Bool := (List.range k).all fun i => kidIn n Z (K i)

theorem kidsIn_succ {n : Nat} {Z : Nat → Bool} {K : Nat → Int} {k : Nat} (h : kidsIn n Z K k = true) (hk : kidIn n Z (K k) = true) : kidsIn n Z K (k + 1) = true := by
  unfold kidsIn at *
  rw [List.range_succ, List.all_append, h]; simpa using hk

theorem kidsIn_bad {n : Nat} {Z : Nat → Bool} {K : Nat → Int} {k m : Nat} (hk : k < m) (h : kidIn n Z (K k) = false) : kidsIn n Z K m = false := by
  rw [Bool.eq_false_iff]
  intro ha
  have := List.all_eq_true.1 ha k (by simpa using hk)
  rw [h] at this; cases this

/-- What was turned may be there. -/
def nodeIn (d : Dp) (o : Int) (x : Nd) : Bool := if x.kind = 1 then fileIs x && decide (0 < o) else if x.kind = 2 then dirIs x && kidsIn d.ln d.live x.kids x.kn else false
def turnedIn (d : Dp) (x : Nd) : Bool := decide (d.since < x.turn) && decide (x.turn ≤ d.date)
def itIn (d : Dp) (o : Int) (x : Nd) : Bool := liveIn d.ln d.live o && turnedIn d x && nodeIn d o x
/-- The first k are right, and in order. -/
def stepIn (d : Dp) (i : Nat) : Bool := itIn d (d.ino i) (d.nd i) && (i == 0 || decide (d.ino (i - 1) < d.ino i))
def itsIn (d : Dp) (k : Nat) : Bool := (List.range k).all (stepIn d)
def headIn (d : Dp) : Bool := decide (0 ≤ d.since) && decide (d.since ≤ d.date) && (decide (1 ≤ d.date) && decide (d.date ≤ 1000)) && (decide (1 ≤ d.ln) && decide (d.ln ≤ 10)) && d.live 0
def Dp.ok (d : Dp) : Bool := headIn d && itsIn d d.m

theorem itsIn_succ {d : Dp} {k : Nat} (h : itsIn d k = true) (hk : stepIn d k = true) : itsIn d (k + 1) = true := by
  unfold itsIn at *
  rw [List.range_succ, List.all_append, h]; simpa using hk

theorem ok_bad {d : Dp} {k : Nat} (hk : k < d.m) (h : stepIn d k = false) : false = d.ok := by
  have : itsIn d d.m = false := by
    rw [Bool.eq_false_iff]
    intro ha
    have := List.all_eq_true.1 ha k (by simpa using hk)
    rw [h] at this; cases this
  unfold Dp.ok; rw [this]; simp

theorem ok_head {d : Dp} (h : headIn d = false) : false = d.ok := by unfold Dp.ok; rw [h]; rfl

theorem step_item {d : Dp} {k : Nat} (h : itIn d (d.ino k) (d.nd k) = false) : stepIn d k = false := by unfold stepIn; rw [h]; rfl
theorem step_zero {d : Dp} (h : itIn d (d.ino 0) (d.nd 0) = true) : stepIn d 0 = true := by unfold stepIn; rw [h]; rfl
theorem step_low {d : Dp} {k : Nat} (hk : k ≠ 0) (h : d.ino k ≤ d.ino (k - 1)) : stepIn d k = false := by
  unfold stepIn; rw [decide_eq_false (show ¬ d.ino (k - 1) < d.ino k by omega)]; simp [hk]
theorem step_more {d : Dp} {k : Nat} (h : itIn d (d.ino k) (d.nd k) = true) (h' : d.ino (k - 1) < d.ino k) : stepIn d k = true := by
  unfold stepIn; rw [h, decide_eq_true h']; simp

/-- The bits of truth values. -/
def bvv (Z : Nat → Bool) : Nat → Nat | 0 => 0 | k + 1 => bvv Z k + if Z k then 2 ^ k else 0

theorem bvv_lt (Z : Nat → Bool) : ∀ k, bvv Z k < 2 ^ k
  | 0 => by simp [bvv]
  | k + 1 => by
    have := bvv_lt Z k
    rw [bvv, Nat.pow_succ]
    split <;> omega

theorem bvv_test (Z : Nat → Bool) (i : Nat) : ∀ k, (bvv Z k).testBit i = (decide (i < k) && Z i)
  | 0 => by simp [bvv]
  | k + 1 => by
    have hl := bvv_lt Z k
    have ih := bvv_test Z i k
    rw [bvv]
    cases hz : Z k with
    | false =>
      simp only [Bool.false_eq_true, if_false, Nat.add_zero]
      rw [ih]
      by_cases e : i = k
      · subst e; simp [hz]
      · by_cases e2 : i < k
        · simp [e2, show i < k + 1 by omega]
        · simp [e2, show ¬ i < k + 1 by omega]
    | true =>
      simp only [if_true]
      rw [Nat.add_comm]
      by_cases e : i = k
      · subst e
        rw [Nat.testBit_two_pow_add_eq, ih]
        simp [hz]
      · by_cases e2 : i < k
        · rw [Nat.testBit_two_pow_add_gt e2, ih]
          simp [e2, show i < k + 1 by omega]
        · have h1 : 2 ^ k + bvv Z k < 2 ^ i := by
            have : 2 ^ (k + 1) ≤ 2 ^ i := Nat.pow_le_pow_right (by omega) (by omega)
            rw [Nat.pow_succ] at this
            omega
          rw [Nat.testBit_lt_two_pow h1]
          simp [show ¬ i < k + 1 by omega]
end Go.Proofs.Ytoblndhmkehoaaa

/-
  The bits of a number in which the program keeps which places are not free.
-/
namespace Go.Proofs.Ytoblndhmkehoaaa
open Go.RowKit
set_option linter.unusedVariables false

theorem wrap16 {z : Int} (h0 : 0 ≤ z) (h1 : z < 65536) : IntKind.u16.wrap z = z := by
  simp [IntKind.wrap, IntKind.bits, IntKind.signed]
  omega

theorem shl16 {k : Nat} (hk : k ≤ 10) : IntKind.u16.wrap ((2 : Int) ^ k) = ((2 ^ k : Nat) : Int) := by
  have hp : 2 ^ k ≤ 2 ^ 10 := Nat.pow_le_pow_right (by omega) hk
  have h1 : 2 ^ k < 65536 := by omega
  have e : (2 : Int) ^ k = ((2 ^ k : Nat) : Int) := by simp
  rw [e]
  clear e hp
  generalize 2 ^ k = y at h1 ⊢
  exact wrap16 (by omega) (by omega)

theorem or16 {x k : Nat} (hk : k ≤ 10) (hx : x < 2 ^ k) : bits .or .u16 (x : Int) ((2 ^ k : Nat) : Int) = ((x + 2 ^ k : Nat) : Int) := by
  have hp : 2 ^ k ≤ 2 ^ 10 := Nat.pow_le_pow_right (by omega) hk
  have hor : x ||| 2 ^ k = x + 2 ^ k := by
    have := Nat.two_pow_add_eq_or_of_lt hx 1
    rw [Nat.mul_one] at this
    rw [Nat.or_comm, ← this, Nat.add_comm]
  unfold bits
  simp only [show IntKind.u16.bits = 16 from rfl, BitVec.ofInt_natCast, BitVec.toNat_or, BitVec.toNat_ofNat]
  rw [Nat.mod_eq_of_lt (show x < 2 ^ 16 by omega), Nat.mod_eq_of_lt (show 2 ^ k < 2 ^ 16 by omega), hor]
  exact wrap16 (by omega) (by omega)

theorem and16 {y : Nat} (hy : y < 65536) : bits .and .u16 (y : Int) 1 = ((y % 2 : Nat) : Int) := by
  unfold bits
  have h1 : (BitVec.ofInt IntKind.u16.bits 1).toNat = 1 := by decide
  simp only [BitVec.ofInt_natCast, BitVec.toNat_and, BitVec.toNat_ofNat]
  rw [h1, show IntKind.u16.bits = 16 from rfl, Nat.mod_eq_of_lt (show y < 2 ^ 16 by omega), Nat.and_one_is_mod]
  exact wrap16 (by omega) (by omega)

theorem has16 {Z : Nat → Bool} {n j : Nat} (hn : n ≤ 10) : (bits .and .u16 (((bvv Z n : Nat) : Int) / 2 ^ j) 1 == 1) = (decide (j < n) && Z j) := by
  have hlt := bvv_lt Z n
  have hp : 2 ^ n ≤ 2 ^ 10 := Nat.pow_le_pow_right (by omega) hn
  have e1 : (((bvv Z n : Nat) : Int) / 2 ^ j) = ((bvv Z n / 2 ^ j : Nat) : Int) := by simp
  have h2 : bvv Z n / 2 ^ j ≤ bvv Z n := Nat.div_le_self _ _
  rw [e1, and16 (by omega), ← bvv_test Z j n, Nat.testBit_eq_decide_div_mod_eq]
  rcases Nat.mod_two_eq_zero_or_one (bvv Z n / 2 ^ j) with h | h <;> rw [h] <;> rfl

set_option maxHeartbeats 1000000 in
theorem bitsOfList_any (a : Option Addr) (n c : Nat) (Z : Nat → Bool) (w : World) (hS : IsBools w a n Z) (hn : n ≤ 10) :
    Calls Try.prog 37 #[.slice a n c] w fun e w' => w' = w ∧ e = .returned (.int .u16 (bvv Z n : Nat)) := by
  go_enter Try.func37, Try.ntmps37
  go_wp2
  go_loopw [3, 8] (fun v i wr => ∃ k : Nat, k ≤ n ∧ i = .int .i64 k ∧ v = .int .u16 (bvv Z k : Nat) ∧ wr = w) (fun _ i _ => n - (intOf i).toNat)
  case atStart => exact ⟨0, Nat.zero_le _, rfl, rfl, rfl⟩
  case round =>
    obtain ⟨k, hk, rfl, rfl, rfl⟩ := hrel
    by_cases hlt : k < n
    · obtain ⟨b, off, rfl, hlt2, hc⟩ := hS.at hlt
      have g0 := hc k hlt
      have hlti : (k : Int) < (n : Int) := by omega
      clear hc
      cases hz : Z k with
      | false =>
        rw [hz] at g0
        have HE : Hid (bvv Z (k + 1) = bvv Z k) := by show _ = _; rw [bvv, hz]; rfl
        clear hz
        go_wp2
        go_roundw
        case rel => exact ⟨k + 1, by omega, by go_num, by rw [HE.out], trivial⟩
        case measure => simp [intOf]; omega
      | true =>
        rw [hz] at g0
        have HE : Hid (bvv Z (k + 1) = bvv Z k + 2 ^ k) := by show _ = _; rw [bvv, hz]; rfl
        have HS : Hid (IntKind.u16.wrap ((2 : Int) ^ k) = ((2 ^ k : Nat) : Int) ∧ bits .or .u16 ((bvv Z k : Nat) : Int) ((2 ^ k : Nat) : Int) = ((bvv Z k + 2 ^ k : Nat) : Int)) := ⟨shl16 (by omega), or16 (by omega) (bvv_lt Z k)⟩
        clear hz
        go_wp2
        go_roundw
        case rel => exact ⟨k + 1, by omega, by go_num, by rw [HS.out.1, HS.out.2, HE.out], trivial⟩
        case measure => simp [intOf]; omega
    · obtain rfl : k = n := by omega
      go_wp2
      go_ret
      exact ⟨rfl, rfl⟩

set_option maxHeartbeats 1000000 in
theorem has_any (Z : Nat → Bool) (n : Nat) (z : Int) (w : World) (hn : n ≤ 10) (hz : In64 z) :
    Calls Try.prog 38 #[.int .u16 (bvv Z n : Nat), .int .i64 z] w fun e w' => w' = w ∧ e = .returned (.bool (liveIn n Z z)) := by
  unfold In64 at hz
  by_cases h0 : 0 ≤ z
  · by_cases h10 : z < 10
    · obtain ⟨j, rfl⟩ : ∃ j : Nat, z = j := ⟨z.toNat, by omega⟩
      have hb0 : decide ((0 : Int) ≤ (j : Int)) = true := by simp
      have hb1 : decide ((j : Int) < 10) = true := by simp; omega
      have H16 : Hid _ := has16 (Z := Z) (n := n) (j := j) hn
      have HX : Hid ((decide (j < n) && Z j) = liveIn n Z j) := by show _ = _; unfold liveIn; simp
      have hj0 : (0 : Int) ≤ (j : Int) := by omega
      go_enter Try.func38, Try.ntmps38
      go_wp2
      go_ret
      exact ⟨rfl, ret_bool (by rw [← HX.out, ← H16.out])⟩
    · have hb0 : decide ((0 : Int) ≤ z) = true := by simp; omega
      have hb1 : decide (z < 10) = false := by simp; omega
      have HX : Hid (false = liveIn n Z z) := by show _ = _; unfold liveIn; rw [decide_eq_false (show ¬ z < n by omega)]; simp
      go_enter Try.func38, Try.ntmps38
      go_wp2
      go_ret
      exact ⟨rfl, ret_bool HX.out⟩
  · have hb0 : decide ((0 : Int) ≤ z) = false := by simp; omega
    have HX : Hid (false = liveIn n Z z) := by show _ = _; unfold liveIn; rw [decide_eq_false h0]; rfl
    go_enter Try.func38, Try.ntmps38
    go_wp2
    go_ret
    exact ⟨rfl, ret_bool HX.out⟩
end Go.Proofs.Ytoblndhmkehoaaa

/-
  The bits of a tree, and the list that is told of them.
-/
namespace Go.Proofs.Ytoblndhmkehoaaa
open Go.RowKit
set_option linter.unusedVariables false
set_option linter.unusedSimpArgs false

/-- What is known within bitsOfTree. -/
structure T1In (w : World) (a : Option Addr) (n c : Nat) (now : Int) (W : World) : Prop where
  p : Blk W w.heap.size #[.slice a n c, .int .i64 now] 25
  bel : Below w.heap.size w W

theorem T1In.below {w : World} {a : Option Addr} {n c : Nat} {now : Int} {W W' : World} (h : T1In w a n c now W) (hb : Below W.heap.size W W') : T1In w a n c now W' :=
  ⟨h.p.below hb h.p.lt, h.bel.trans (hb.mono (by have := h.p.lt; omega))⟩

set_option maxHeartbeats 1000000 in
theorem bitsOfTree_any (a : Option Addr) (n c : Nat) (now : Int) (D : Nat → Nd) (L : Nat → Loc) (w : World) (hS : IsNds w a n D L) (hn : n ≤ 10) :
    Calls Try.prog 25 #[trV a n c now] w fun e w' => Below w.heap.size w w' ∧ e = .returned (.int .u16 (bvv (fun i => (D i).kind != 0) n : Nat)) := by
  unfold trV
  go_enter Try.func25, Try.ntmps25
  go_wp2
  go_loopw [3, 9] (fun v i wr => ∃ k : Nat, k ≤ n ∧ i = .int .i64 k ∧ v = .int .u16 (bvv (fun i => (D i).kind != 0) k : Nat) ∧ T1In w a n c now wr) (fun _ i _ => n - (intOf i).toNat)
  case atStart =>
    have h := new1 w #[.slice a n c, .int .i64 now] 25
    exact ⟨0, Nat.zero_le _, rfl, rfl, ⟨h.b0, h.bel⟩⟩
  case round =>
    obtain ⟨k, hk, rfl, rfl, hin⟩ := hrel
    by_cases hlt : k < n
    · obtain ⟨b, off, hA, hlt2, hc⟩ := (hS.below (Nat.le_refl _) hin.bel).at hlt
      obtain ⟨c0, c1, c2, c3, c4, _⟩ := hc k hlt
      have hlti : (k : Int) < (n : Int) := by omega
      have hwne : b ≠ wr.heap.size := by omega
      have HE : Hid (∀ o, T1In w a n c now (wr.alloc o)) := fun o => hin.below ((Below.refl _ _).alloc (Nat.le_refl _) _)
      have HA : Hid (a = some ⟨b, off, none⟩) := hA
      rw [hA]
      clear hc hin hA
      cases hz : ((D k).kind != 0) with
      | false =>
        have HB : Hid (bvv (fun i => (D i).kind != 0) (k + 1) = bvv (fun i => (D i).kind != 0) k) := by show _ = _; rw [bvv]; simp [hz]
        go_wp2_with fail
        go_roundw
        case rel => exact ⟨k + 1, by omega, by go_num, by rw [HB.out], by rw [← HA.out]; exact HE.out _⟩
        case measure => simp [intOf]; omega
      | true =>
        have HB : Hid (bvv (fun i => (D i).kind != 0) (k + 1) = bvv (fun i => (D i).kind != 0) k + 2 ^ k) := by show _ = _; rw [bvv]; simp [hz]
        have HS : Hid (IntKind.u16.wrap ((2 : Int) ^ k) = ((2 ^ k : Nat) : Int) ∧ bits .or .u16 ((bvv (fun i => (D i).kind != 0) k : Nat) : Int) ((2 ^ k : Nat) : Int) = ((bvv (fun i => (D i).kind != 0) k + 2 ^ k : Nat) : Int)) := ⟨shl16 (by omega), or16 (by omega) (bvv_lt _ k)⟩
        go_wp2_with fail
        go_roundw
        case rel => exact ⟨k + 1, by omega, by go_num, by rw [HS.out.1, HS.out.2, HB.out], by rw [← HA.out]; exact HE.out _⟩
        case measure => simp [intOf]; omega
    · obtain rfl : k = n := by omega
      have HB : Hid (Below w.heap.size w wr) := hin.bel
      clear hin
      go_wp2
      go_ret
      exact ⟨HB.out, rfl⟩

set_option maxHeartbeats 1000000 in
theorem list_any (Z : Nat → Bool) (n : Nat) (w : World) (hn : n ≤ 10) :
    Calls Try.prog 26 #[.int .u16 (bvv Z n : Nat), .int .i64 n] w fun e w' => e = .returned (.slice (some ⟨w.heap.size, 0, none⟩) n n) ∧ Below w.heap.size w w' ∧ w'.rowIs w.heap.size 4 n (fun i => .bool (Z i)) := by
  have hmk := fun w => run_make_row' (P := Try.prog) 28 4 (.bool false) 1 Try.underlying28 infoBool rfl .i64 .i64 n (by omega) (by omega) w
  go_enter Try.func26, Try.ntmps26
  go_wp2
  go_loopw [11] (fun i wr => ∃ k : Nat, k ≤ n ∧ i = .int .i64 k ∧ Below w.heap.size w wr ∧ wr.rowIs w.heap.size 4 n (fun j => if j < k then .bool (Z j) else .bool false)) (fun i _ => n - (intOf i).toNat)
  case atStart => exact ⟨0, Nat.zero_le _, rfl, (Below.refl _ _).alloc (Nat.le_refl _) _, (World.rowIs_made w (.bool false) n 4).congr (fun i _ => by simp)⟩
  case round =>
    obtain ⟨k, hk, rfl, hb, hrow⟩ := hrel
    by_cases hlt : k < n
    · have hcr := hrow.cell hlt
      have hfr := hrow.frozen k
      have hlti : (k : Int) < (n : Int) := by omega
      have HB : Hid (Below w.heap.size w wr) := hb
      have HR : Hid (wr.rowIs w.heap.size 4 n (fun j => if j < k then .bool (Z j) else .bool false)) := hrow
      have HL : Hid (liveIn n Z (k : Int) = Z k) := by show _ = _; unfold liveIn; simp [hlt]
      clear hb hrow
      go_wp2_with fail
      refine (has_any Z n (k : Int) wr hn ⟨by omega, by omega⟩).mono ?_
      rintro e w2 ⟨rfl, rfl⟩
      rw [HL.out]
      go_wp2_with fail
      go_roundw
      case rel => exact ⟨k + 1, by omega, by go_num, HB.out.setCell (Nat.le_refl _) _, (HR.out.set k (.bool (Z k))).congr (fun i _ => by
        by_cases h : i = k
        · subst h; simp
        · by_cases h2 : i < k
          · simp [h, h2, show i < k + 1 by omega]
          · simp [h, h2, show ¬ i < k + 1 by omega])⟩
      case measure => simp [intOf]; omega
    · have HB : Hid (Below w.heap.size w wr) := hb
      have HR : Hid (wr.rowIs w.heap.size 4 n (fun j => if j < k then .bool (Z j) else .bool false)) := hrow
      clear hb hrow
      go_wp2
      go_ret
      exact ⟨rfl, HB.out, HR.out.congr (fun i hi => by simp [show i < k by omega])⟩
end Go.Proofs.Ytoblndhmkehoaaa

/-
  What refsOf and namedOnce of the program answer.
-/
namespace Go.Proofs.Ytoblndhmkehoaaa
open Go.RowKit
set_option linter.unusedVariables false

/-- What is known within refsOf. -/
structure RefRow (w : World) (a : Option Addr) (n c : Nat) (now : Int) (f : Nat → Nat) (W : World) : Prop where
  t : Blk W w.heap.size #[.slice a n c, .int .i64 now] 25
  row : W.rowIs (w.heap.size + 1) 3 n (fun j => .int .i64 (f j))
  bel : Below w.heap.size w W

theorem RefRow.put {w : World} {a : Option Addr} {n c : Nat} {now : Int} {f : Nat → Nat} {W : World} (h : RefRow w a n c now f W) (x : Nat) {g : Nat → Nat} (hg : ∀ j, j < n → g j = if j = x then f j + 1 else f j) :
    RefRow w a n c now g (W.setCell ⟨w.heap.size + 1, x, none⟩ (.int .i64 ((f x : Int) + 1))) :=
  ⟨h.t.off _ (by omega), (h.row.set x (.int .i64 ((f x : Int) + 1))).congr (fun i hi => by
    rw [hg i hi]
    by_cases e : i = x
    · subst e; simp
    · simp [e]), bel_put h.bel _ (by omega)⟩

theorem RefRow.alloc {w : World} {a : Option Addr} {n c : Nat} {now : Int} {f : Nat → Nat} {W : World} (h : RefRow w a n c now f W) (o : Obj) : RefRow w a n c now f (W.alloc o) :=
  ⟨h.t.alloc _, rowIs_below h.row ((Below.refl W.heap.size W).alloc (Nat.le_refl _) _) h.row.lt, h.bel.alloc (by have := h.t.lt; omega) _⟩

theorem RefRow.to {w : World} {a : Option Addr} {n c : Nat} {now : Int} {f g : Nat → Nat} {W : World} (h : RefRow w a n c now f W) (hg : ∀ j, j < n → f j = g j) : RefRow w a n c now g W :=
  ⟨h.t, h.row.congr (fun i hi => by rw [hg i hi]), h.bel⟩

theorem refs_start (w : World) (a : Option Addr) (n c : Nat) (now : Int) : RefRow w a n c now (fun _ => 0)
    ((w.alloc (.cells #[.slice a n c, .int .i64 now] 25)).alloc (.cells (madeCells #[.int .i64 0] n) 3)) := by
  have h := new2 w #[.slice a n c, .int .i64 now] 25 (madeCells #[.int .i64 0] n) 3
  refine ⟨h.b0, ⟨_, h.b1, by simp [size_madeCells], fun i hi => ?_⟩, h.bel⟩
  simp [madeCells, hi, Nat.mod_one]

set_option maxHeartbeats 2000000 in
theorem refsOf_any (a : Option Addr) (n c : Nat) (now : Int) (D : Nat → Nd) (L : Nat → Loc) (w : World) (hS : IsNds w a n D L) (hn : n ≤ 1048576) (hsz : sizeTo D n ≤ 1048576) (hsm : ∀ i, i < n → (D i).kn ≤ maxLen) (hk : ∀ i, i < n → ∀ j, j < (D i).kn → 0 ≤ (D i).kids j ∧ (D i).kids j < n) :
    Calls Try.prog 43 #[trV a n c now] w fun e w' => Below w.heap.size w w' ∧ e = .returned (.slice (some ⟨w.heap.size + 1, 0, none⟩) n n) ∧ w'.rowIs (w.heap.size + 1) 3 n (fun j => .int .i64 (refsTo D j n)) := by
  have hmk := fun w => run_make_row' (P := Try.prog) 36 3 (.int .i64 0) 8 Try.underlying36 infoInt rfl .i64 .i64 n (by omega) (by omega) w
  unfold trV
  go_enter Try.func43, Try.ntmps43
  go_wp2
  go_loopw [15] (fun i wr => ∃ k : Nat, k ≤ n ∧ i = .int .i64 k ∧ RefRow w a n c now (fun j => refsTo D j k) wr) (fun i _ => n - (intOf i).toNat)
  case atStart => exact ⟨0, Nat.zero_le _, rfl, (refs_start w a n c now).to (fun _ _ => rfl)⟩
  case round =>
    obtain ⟨k, hk', rfl, hin⟩ := hrel
    by_cases hlt : k < n
    · have hSr := hS.below (Nat.le_refl _) hin.bel
      obtain ⟨b, off, rfl, hlt2, hc⟩ := hSr.at hlt
      obtain ⟨c0, c1, c2, c3, c4, hI⟩ := hc k hlt
      have hki : (k : Int) < (n : Int) := by omega
      have hkn := hsm k hlt
      unfold maxLen at hkn
      have HIN : Hid (RefRow w (some ⟨b, off, none⟩) n c now (fun j => refsTo D j k) wr ∧ NdIn wr (D k) (L k)) := ⟨hin, hI⟩
      clear hc hI hin hSr hmk
      go_wp2
      go_loopw [22] (fun i wr' => ∃ j : Nat, j ≤ (D k).kn ∧ i = .int .i64 j ∧ RefRow w (some ⟨b, off, none⟩) n c now (fun x => refsTo D x k + cnt (D k).kids x j) wr') (fun i _ => (D k).kn - (intOf i).toNat)
      case atStart => exact ⟨0, Nat.zero_le _, rfl, (HIN.out.1.alloc _).to (fun _ _ => rfl)⟩
      case round =>
        obtain ⟨j, hj, rfl, hin⟩ := hrel
        by_cases hltj : j < (D k).kn
        · have hIr := (hS.below (Nat.le_refl _) hin.bel)
          obtain ⟨b2, off2, ha2, _, hc2⟩ := hIr.at hlt
          cases ha2
          obtain ⟨b', off', ha', hlt2', hc'⟩ := (hc2 k hlt).2.2.2.2.2.2.at hltj
          have hz := hc' j hltj
          obtain ⟨hk0, hk1⟩ := hk k hlt j hltj
          obtain ⟨x, hx⟩ : ∃ x : Nat, (D k).kids j = x := ⟨((D k).kids j).toNat, by omega⟩
          have hxn : x < n := by omega
          have hjj : (j : Int) < ((D k).kn : Int) := by omega
          rw [hx] at hz
          obtain ⟨v, hv⟩ : ∃ v : Nat, v = refsTo D x k + cnt (D k).kids x j := ⟨_, rfl⟩
          have hvb : v ≤ 1048576 := by
            have h1 := refsTo_le D x k
            have h2 := cnt_le (D k).kids x j
            have h3 := sizeTo_mono D (show k + 1 ≤ n by omega)
            rw [sizeTo_succ] at h3
            unfold Nd.size at h3
            omega
          have xc : wr.cell? ⟨w.heap.size + 1, x, none⟩ = some (.int .i64 v) := by rw [hv]; exact hin.row.cell hxn
          have xf := hin.row.frozen x
          have HALL : Hid (RefRow w (some ⟨b, off, none⟩) n c now (fun x => refsTo D x k + cnt (D k).kids x j) wr ∧ (D k).kids j = x ∧ v = refsTo D x k + cnt (D k).kids x j) := ⟨hin, hx, hv⟩
          have hxi : (x : Int) < (n : Int) := by omega
          rw [ha']
          clear hin hIr hc2 hc' hx hk0 hk1 hv c0 c1 c2 c3 c4
          go_wp2
          go_roundw
          case rel =>
            obtain ⟨h1, h2, h3⟩ := HALL.out
            refine ⟨j + 1, by omega, by go_num, ?_⟩
            have h4 := h1.put (g := fun y => refsTo D y k + cnt (D k).kids y (j + 1)) x (fun y _ => by
              show _ + cnt (D k).kids y (j + 1) = _
              rw [cnt, h2]
              by_cases e : y = x
              · subst e; simp; omega
              · have : ¬ (x : Int) = (y : Int) := by omega
                simp [e, this])
            rw [h3]
            exact h4
          case measure => simp [intOf]; omega
        · have hje : j = (D k).kn := by omega
          have HALL : Hid (RefRow w (some ⟨b, off, none⟩) n c now (fun x => refsTo D x (k + 1)) wr) := hin.to (fun y _ => by rw [refsTo, hje])
          clear hin hje c0 c1 c2 c3 c4
          go_wp2
          go_roundw
          case rel => exact ⟨k + 1, by omega, by go_num, HALL.out⟩
          case measure => simp [intOf]; omega
    · have hke : k = n := by omega
      have HALL : Hid (RefRow w a n c now (fun x => refsTo D x n) wr) := hin.to (fun y _ => by rw [hke])
      clear hin hke hmk
      go_wp2
      go_ret
      exact ⟨HALL.out.bel, rfl, HALL.out.row⟩
end Go.Proofs.Ytoblndhmkehoaaa

/-
  What namedOnce of the program answers: whether each directory but the root has one name.
-/
namespace Go.Proofs.Ytoblndhmkehoaaa
open Go.RowKit
set_option linter.unusedVariables false

set_option maxHeartbeats 2000000 in
theorem namedOnce_any (a : Option Addr) (n c : Nat) (now : Int) (D : Nat → Nd) (L : Nat → Loc) (w : World) (hS : IsNds w a n D L) (hn : n ≤ 1048576) (hsz : sizeTo D n ≤ 1048576) (hsm : ∀ i, i < n → (D i).kn ≤ maxLen) (hk : ∀ i, i < n → ∀ j, j < (D i).kn → 0 ≤ (D i).kids j ∧ (D i).kids j < n) :
    Calls Try.prog 50 #[trV a n c now] w fun e w' => Below w.heap.size w w' ∧ ∃ r : Bool, e = .returned (.bool r) ∧ (r = true ↔ ∀ i, 1 ≤ i → i < n → (D i).kind = 2 → refsTo D i n = 1) := by
  unfold trV
  go_enter Try.func50, Try.ntmps50
  go_wp2_with fail
  refine at_world (F := New1 w _ _) (new1 w _ _) ?_
  rintro W ⟨hp, hb, hs⟩
  refine (refsOf_any a n c now D L W (hS.below (Nat.le_refl _) hb) hn hsz hsm hk).mono ?_
  rintro e w1 ⟨hb1, rfl, hrow⟩
  have hp1 := hp.below hb1 (by omega)
  have HIN : Hid (RefsIn w a n c now w1 ∧ w1.rowIs (W.heap.size + 1) 3 n (fun j => .int .i64 (refsTo D j n))) := ⟨⟨hp1, hb.trans (hb1.mono (by omega))⟩, hrow⟩
  clear hp hb hs hb1 hrow hp1
  generalize W.heap.size + 1 = bm at *
  go_wp2
  go_loopw [8] (fun i wr => ∃ k : Nat, k ≤ n ∧ i = .int .i64 k ∧ RefsIn w a n c now wr ∧ wr.rowIs bm 3 n (fun j => .int .i64 (refsTo D j n)) ∧ ∀ i, 1 ≤ i → i < k → (D i).kind = 2 → refsTo D i n = 1) (fun i _ => n - (intOf i).toNat)
  case atStart => exact ⟨0, Nat.zero_le _, rfl, HIN.out.1, HIN.out.2, fun i h1 h2 => by omega⟩
  case round =>
    obtain ⟨k, hk', rfl, hin, hrow, hall⟩ := hrel
    by_cases hlt : k < n
    · have hSr := hS.below (Nat.le_refl _) hin.bel
      obtain ⟨b, off, rfl, hlt2, hc⟩ := hSr.at hlt
      have c0 := (hc k hlt).1
      have t0 : wr.cell? ⟨w.heap.size, 0, none⟩ = some (.slice (some ⟨b, off, none⟩) n c) := hin.t.cell 0
      have hki : (k : Int) < (n : Int) := by omega
      have rc : wr.cell? ⟨bm, k, none⟩ = some (.int .i64 (refsTo D k n)) := hrow.cell hlt
      have HR : Hid (RefsIn w (some ⟨b, off, none⟩) n c now wr ∧ wr.rowIs bm 3 n (fun j => .int .i64 (refsTo D j n)) ∧ ∀ i, 1 ≤ i → i < k → (D i).kind = 2 → refsTo D i n = 1) := ⟨hin, hrow, hall⟩
      clear hc hin hrow hall hSr HIN
      by_cases hk0 : k = 0
      · subst hk0
        rw [Nat.zero_mul, Nat.add_zero] at c0
        go_wp2
        go_roundw
        case rel => exact ⟨1, by omega, by go_num, HR.out.1, HR.out.2.1, fun i h1 h2 => by omega⟩
        case measure => simp [intOf]; omega
      · have hkb : ((k : Int) != 0) = true := by simp; omega
        cases hd2 : ((D k).kind == 2) with
        | false =>
          have H2 : Hid (¬ (D k).kind = 2) := show ¬ (D k).kind = 2 by simpa using hd2
          go_wp2
          go_roundw
          case rel => exact ⟨k + 1, by omega, by go_num, HR.out.1, HR.out.2.1, fun i h1 h2 h3 => by
            by_cases e : i = k
            · subst e; exact absurd h3 H2.out
            · exact HR.out.2.2 i h1 (by omega) h3⟩
          case measure => simp [intOf]; omega
        | true =>
          have H2 : Hid ((D k).kind = 2) := show (D k).kind = 2 by simpa using hd2
          by_cases hr1 : refsTo D k n = 1
          · have hrb : (((refsTo D k n : Nat) : Int) != 1) = false := by simp [hr1]
            have HX : Hid (refsTo D k n = 1) := hr1
            clear hr1
            go_wp2
            go_roundw
            case rel => exact ⟨k + 1, by omega, by go_num, HR.out.1, HR.out.2.1, fun i h1 h2 h3 => by
              by_cases e : i = k
              · subst e; exact HX.out
              · exact HR.out.2.2 i h1 (by omega) h3⟩
            case measure => simp [intOf]; omega
          · have hrb : (((refsTo D k n : Nat) : Int) != 1) = true := by simp; omega
            have HX : Hid (¬ refsTo D k n = 1) := hr1
            clear hr1
            go_wp2
            go_ret
            exact ⟨HR.out.1.bel, false, rfl, fun h => (by cases h), fun h => absurd (h k (by omega) hlt H2.out) HX.out⟩
    · have HALL : Hid (Below w.heap.size w wr ∧ ∀ i, 1 ≤ i → i < n → (D i).kind = 2 → refsTo D i n = 1) := ⟨hin.bel, fun i h1 h2 h3 => hall i h1 (by omega) h3⟩
      clear hin hrow hall HIN
      go_wp2
      go_ret
      exact ⟨HALL.out.1, true, rfl, fun _ => HALL.out.2, fun _ => rfl⟩
end Go.Proofs.Ytoblndhmkehoaaa

/-
  Which places are reached from the root, by a stack: plain facts. A place is put on the stack when it is marked; what is marked and no longer on the stack leads to what is marked.
-/
namespace Go.Proofs.Ytoblndhmkehoaaa
set_option linter.unusedVariables false

/-- Between two rounds. -/
structure Stk (n : Nat) (D : Nat → Nd) (m : Nat → Bool) (L : List Nat) : Prop where
  sound : Sound n D m
  root : m 0 = true
  on : ∀ i, i ∈ L → i < n ∧ m i = true
  done : ∀ i, i < n → m i = true → i ∉ L → ∀ j, j < (D i).kn → m ((D i).kids j).toNat = true
  few : L.length ≤ cntB m n

/-- Within a round, whose place is x: the first k of its places are through. -/
structure StkIn (n : Nat) (D : Nat → Nd) (x k : Nat) (m : Nat → Bool) (L : List Nat) : Prop where
  sound : Sound n D m
  root : m 0 = true
  cur : x < n ∧ m x = true
  on : ∀ i, i ∈ L → i < n ∧ m i = true
  done : ∀ i, i < n → m i = true → i ∉ L → i ≠ x → ∀ j, j < (D i).kn → m ((D i).kids j).toNat = true
  kids : ∀ j, j < k → m ((D x).kids j).toNat = true
  few : L.length + 1 ≤ cntB m n

theorem Stk.start {n : Nat} {D : Nat → Nd} (hn : 1 ≤ n) : Stk n D (fun j => decide (j = 0)) [0] :=
  ⟨fun i hi => by simp at hi; subst hi; exact .root, by simp, fun i hi => by simp at hi; subst hi; exact ⟨hn, by simp⟩, fun i _ hm hi => by simp at hm hi; exact absurd hm hi, by
    have := cntB_one (m := fun j => decide (j = 0)) (by simp) n hn
    simpa using this⟩

theorem Stk.pop {n : Nat} {D : Nat → Nd} {m : Nat → Bool} {L : List Nat} {x : Nat} (h : Stk n D m (L ++ [x])) : StkIn n D x 0 m L :=
  ⟨h.sound, h.root, h.on x (by simp), fun i hi => h.on i (by simp [hi]), fun i hi hm hL hx => h.done i hi hm (by simp [hL, hx]), fun j hj => by omega, by have := h.few; simpa using this⟩

theorem StkIn.push {n : Nat} {D : Nat → Nd} {x k : Nat} {m : Nat → Bool} {L : List Nat} (h : StkIn n D x k m L) (hk : k < (D x).kn) {z : Nat} (hz : ((D x).kids k).toNat = z) (hzn : z < n) (hm : m z = false) :
    StkIn n D x (k + 1) (fun j => if j = z then true else m j) (L ++ [z]) := by
  have up : ∀ j, m j = true → (if j = z then true else m j) = true := fun j hj => by by_cases e : j = z <;> simp [e, hj]
  refine ⟨fun i hi => ?_, up 0 h.root, ⟨h.cur.1, up x h.cur.2⟩, fun i hi => ?_, fun i hi hmi hL hx j hj => ?_, fun j hj => ?_, ?_⟩
  · by_cases e : i = z
    · subst e; rw [← hz]; exact .step (h.sound x h.cur.2) h.cur.1 hk
    · simp only [if_neg e] at hi; exact h.sound i hi
  · rcases List.mem_append.1 hi with hi | hi
    · exact ⟨(h.on i hi).1, up i (h.on i hi).2⟩
    · simp at hi; subst hi; exact ⟨hzn, by simp⟩
  · have hne : i ≠ z := fun e => hL (by simp [e])
    simp only [if_neg hne] at hmi
    exact up _ (h.done i hi hmi (fun hi' => hL (by simp [hi'])) hx j hj)
  · by_cases e : j = k
    · subst e; simp [hz]
    · exact up _ (h.kids j (by omega))
  · have := cntB_lt up (i := z) (by simp [hm]) (by simp) n hzn
    have h2 := h.few
    simp only [List.length_append, List.length_singleton]
    omega

theorem StkIn.pass {n : Nat} {D : Nat → Nd} {x k : Nat} {m : Nat → Bool} {L : List Nat} (h : StkIn n D x k m L) (hm : m ((D x).kids k).toNat = true) : StkIn n D x (k + 1) m L :=
  ⟨h.sound, h.root, h.cur, h.on, h.done, fun j hj => by
    by_cases e : j = k
    · subst e; exact hm
    · exact h.kids j (by omega), h.few⟩

theorem StkIn.out {n : Nat} {D : Nat → Nd} {x : Nat} {m : Nat → Bool} {L : List Nat} (h : StkIn n D x (D x).kn m L) : Stk n D m L :=
  ⟨h.sound, h.root, h.on, fun i hi hm hL => by
    by_cases e : i = x
    · subst e; exact h.kids
    · exact h.done i hi hm hL e, by have := h.few; omega⟩

theorem Stk.fin {n : Nat} {D : Nat → Nd} {m : Nat → Bool} (h : Stk n D m []) (i : Nat) : m i = true ↔ Reach n D i := by
  refine ⟨h.sound i, fun hr => ?_⟩
  induction hr with
  | root => exact h.root
  | step hr hi hj ih => exact h.done _ hi ih (by simp) _ hj
end Go.Proofs.Ytoblndhmkehoaaa

/-
  What reached of the program answers: which places are reached from the root, marked with a stack.
-/
namespace Go.Proofs.Ytoblndhmkehoaaa
open Go.RowKit Go.Deep
set_option linter.unusedVariables false

/-- A list of numbers, as cells. -/
def natv (L : List Nat) : List Value := L.map fun (i : Nat) => Value.int .i64 (i : Int)
theorem natv_length (L : List Nat) : (natv L).length = L.length := by simp [natv]
theorem natv_append (L M : List Nat) : natv L ++ natv M = natv (L ++ M) := by simp [natv]
theorem natv_one (L : List Nat) : ∀ u ∈ natv L, u.oneCell' = true := by
  intro u hu
  simp only [natv, List.mem_map] at hu
  obtain ⟨s, _, rfl⟩ := hu
  rfl

/-- The mark at a place. -/
def bitAt (W : World) (b j : Nat) : Bool := match W.cell? ⟨b, j, none⟩ with | some (.bool x) => x | _ => false
/-- How long a slice is. -/
def lenOf : Value → Nat | .slice _ n _ => n | _ => 0

theorem cntB_congr {m m' : Nat → Bool} {k : Nat} (h : ∀ j, j < k → m j = m' j) : cntB m k = cntB m' k := by
  induction k with
  | zero => rfl
  | succ k ih => unfold cntB; rw [ih (fun j hj => h j (by omega)), h k (by omega)]

/-- What is known within reached. -/
structure StkW (w : World) (a : Option Addr) (n c : Nat) (now : Int) (m : Nat → Bool) (L : List Nat) (s : Value) (W : World) : Prop where
  t : Blk W w.heap.size #[.slice a n c, .int .i64 now] 25
  row : W.rowIs (w.heap.size + 1) 4 n (fun j => .bool (m j))
  own : W.ownsRow (w.heap.size + 2) 3 1 s L.length (natv L)
  some : s ≠ .slice none 0 0
  bel : Below w.heap.size w W
  size : w.heap.size + 2 ≤ W.heap.size

theorem StkW.shape {w : World} {a : Option Addr} {n c : Nat} {now : Int} {m : Nat → Bool} {L : List Nat} {s : Value} {W : World} (h : StkW w a n c now m L s W) :
    ∃ g cap, s = .slice (Option.some ⟨g, 0, none⟩) L.length cap ∧ w.heap.size + 2 ≤ g ∧ g < W.heap.size ∧ L.length ≤ cap ∧ cap ≤ maxLen ∧ ∀ i, i < L.length → W.cell? ⟨g, i, none⟩ = Option.some (.int .i64 (L.getD i 0 : Nat)) := by
  obtain ⟨h1, h2⟩ := h.own
  rcases h2 with ⟨rfl, h0⟩ | ⟨g, cap, cur, rfl, hb, hblk, hn, hm, hsz, htake⟩
  · exact absurd rfl h.some
  · have hglt : g < W.heap.size := (Array.getElem?_eq_some_iff.1 hblk).1
    refine ⟨g, cap, rfl, hb, hglt, hn, hm, fun i hi => ?_⟩
    have hi2 : (natv L)[i]? = Option.some (.int .i64 (L.getD i 0 : Nat)) := by simp [natv, hi]
    rw [← htake, Nat.mul_one, List.getElem?_take_of_lt hi] at hi2
    simp only [World.cell?, hblk]
    simpa using hi2

/-- The last one is taken off. -/
theorem StkW.pop {w : World} {a : Option Addr} {n c : Nat} {now : Int} {m : Nat → Bool} {L : List Nat} {x g cap : Nat} {k : Nat} {W : World} (h : StkW w a n c now m (L ++ [x]) (.slice (Option.some ⟨g, 0, none⟩) k cap) W) :
    StkW w a n c now m L (.slice (Option.some ⟨g, 0, none⟩) L.length cap) W := by
  refine ⟨h.t, h.row, ?_, by simp, h.bel, h.size⟩
  obtain ⟨h1, h2⟩ := h.own
  rcases h2 with ⟨h2, h0⟩ | ⟨g', cap', cur, hv, hb, hblk, hn, hm, hsz, htake⟩
  · cases h2
  · cases hv
    refine ⟨by simp [natv], Or.inr ⟨g, cap, cur, rfl, hb, hblk, by simp at hn; omega, hm, hsz, ?_⟩⟩
    have e : natv (L ++ [x]) = natv L ++ natv [x] := (natv_append L [x]).symm
    rw [e] at htake
    have h5 : (natv L ++ natv [x]).take L.length = natv L := by
      have := List.take_left (l₁ := natv L) (l₂ := natv [x])
      rwa [natv_length] at this
    have := congrArg (List.take L.length) htake
    rw [List.take_take, Nat.min_eq_left (by simp), h5] at this
    rw [Nat.mul_one]
    exact this

theorem StkW.mark {w : World} {a : Option Addr} {n c : Nat} {now : Int} {m : Nat → Bool} {L : List Nat} {s : Value} {W : World} (h : StkW w a n c now m L s W) (x : Nat) :
    StkW w a n c now (fun j => if j = x then true else m j) L s (W.setCell ⟨w.heap.size + 1, x, none⟩ (.bool true)) := by
  refine ⟨h.t.off _ (by omega), (h.row.set x (.bool true)).congr (fun i _ => by by_cases e : i = x <;> simp [e]), ⟨h.own.1, ?_⟩, h.some, bel_put h.bel _ (by omega), by simpa [World.setCell] using h.size⟩
  rcases h.own.2 with h2 | ⟨g, cap, cur, hv, hb, hblk, rest⟩
  · exact Or.inl h2
  · exact Or.inr ⟨g, cap, cur, hv, hb, (blk_setCell_other _ _ _ _ (by show g ≠ w.heap.size + 1; omega)).trans hblk, rest⟩

theorem StkW.alloc {w : World} {a : Option Addr} {n c : Nat} {now : Int} {m : Nat → Bool} {L : List Nat} {s : Value} {W : World} (h : StkW w a n c now m L s W) (o : Obj) : StkW w a n c now m L s (W.alloc o) :=
  ⟨h.t.alloc _, rowIs_below h.row ((Below.refl W.heap.size W).alloc (Nat.le_refl _) _) h.row.lt, h.own.alloc o, h.some, h.bel.alloc (by have := h.t.lt; omega) _, by have := h.size; simp; omega⟩

/-- One more is put on it. -/
theorem StkW.push {w : World} {a : Option Addr} {n c : Nat} {now : Int} {m : Nat → Bool} {L : List Nat} {s s' : Value} {W W' : World} (h : StkW w a n c now m L s W) {x : Nat}
    (hown : W'.ownsRow (w.heap.size + 2) 3 1 s' (L.length + 1) (natv L ++ natv [x])) (hg : W.grownBy W' s.ownBlock) (hs : ¬ s' = .slice none 0 0) : StkW w a n c now m (L ++ [x]) s' W' := by
  have hob : ∀ g, s.ownBlock = Option.some g → w.heap.size + 2 ≤ g := by
    intro g hg
    obtain ⟨g', cap, rfl, hb, _⟩ := h.shape
    simp [Value.ownBlock] at hg
    omega
  have blk : ∀ b, b < w.heap.size + 2 → b < W.heap.size → W'.heap[b]? = W.heap[b]? := fun b hb hlt => hg.block b hlt (fun e => by have := hob b e.symm; omega)
  have hrow := h.row
  refine ⟨h.t.of_block (blk _ (by omega) h.t.lt), ?_, ?_, hs, h.bel.grown hg (by have := h.t.lt; omega) (fun g hg' => by have := hob g hg'; omega), Nat.le_trans h.size hg.size⟩
  · obtain ⟨cs, hb, r⟩ := hrow
    exact ⟨cs, (blk _ (by omega) h.row.lt).trans hb, r⟩
  · rw [List.length_append, ← natv_append]; exact hown

theorem StkW.meas {w : World} {a : Option Addr} {n c : Nat} {now : Int} {m : Nat → Bool} {L : List Nat} {s : Value} {W : World} (h : StkW w a n c now m L s W) :
    2 * (n - cntB (fun j => bitAt W (w.heap.size + 1) j) n) + lenOf s = 2 * (n - cntB m n) + L.length := by
  have e : cntB (fun j => bitAt W (w.heap.size + 1) j) n = cntB m n := cntB_congr (fun j hj => by
    unfold bitAt
    rw [h.row.cell hj])
  obtain ⟨g, cap, rfl, _⟩ := h.shape
  rw [e]
  rfl

theorem StkW.drew {w : World} {a : Option Addr} {n c : Nat} {now : Int} {m : Nat → Bool} {L : List Nat} {s : Value} {W : World} (h : StkW w a n c now m L s W) (q : Nat) : StkW w a n c now m L s (W.drewN q) :=
  ⟨h.t, h.row, h.own, h.some, below_drewN h.bel q, h.size⟩

theorem natv_cells (w : World) (x : Nat) : ∀ j u, (natv [x])[j]? = some u → (w.alloc (.cells #[.int .i64 (x : Int)] 3)).cell? ((⟨w.heap.size, 0, none⟩ : Addr).add j) = some u := by
  intro j u h
  have hj : j = 0 := by
    rcases Nat.eq_zero_or_pos j with h0 | h0
    · exact h0
    · rw [List.getElem?_eq_none (by simp [natv]; omega)] at h; cases h
  subst hj
  have := cell_one_new w (.int .i64 (x : Int)) 3
  simp [natv] at h
  subst h
  rw [show (⟨w.heap.size, 0, none⟩ : Addr).add 0 = ⟨w.heap.size, 0, none⟩ by unfold Addr.add; split <;> simp_all]
  exact (Blk.new w #[.int .i64 (x : Int)] 3).cell 0

theorem stk_start (w : World) (a : Option Addr) (n c : Nat) (now : Int) : StkW w a n c now (fun j => decide (j = 0)) [0] (.slice (some ⟨w.heap.size + 1 + 1, 0, none⟩) 1 1)
    (((w.alloc (.cells #[.slice a n c, .int .i64 now] 25)).alloc (.cells ((madeCells #[.bool false] n).setIfInBounds 0 (.bool true)) 4)).alloc (.cells #[.int .i64 0] 3)) := by
  have h := marks_start w a n c now
  have h3 := new3 w #[.slice a n c, .int .i64 now] 25 ((madeCells #[.bool false] n).setIfInBounds 0 (.bool true)) 4 #[.int .i64 0] 3
  refine ⟨h3.b0, rowIs_below h.row ((Below.refl _ _).alloc (Nat.le_refl _) _) h.row.lt, ⟨rfl, Or.inr ⟨w.heap.size + 1 + 1, 1, _, rfl, by omega, h3.b2, Nat.le_refl _, by unfold maxLen; omega, rfl, rfl⟩⟩, by simp, h3.bel, by have := h3.size; omega⟩

set_option maxHeartbeats 2000000 in
theorem reached_any (a : Option Addr) (n c : Nat) (now : Int) (D : Nat → Nd) (L : Nat → Loc) (w : World) (hS : IsNds w a n D L) (h1 : 1 ≤ n) (hn : n ≤ 1048576) (hsm : ∀ i, i < n → (D i).kn ≤ maxLen) (hk : ∀ i, i < n → ∀ j, j < (D i).kn → 0 ≤ (D i).kids j ∧ (D i).kids j < n) :
    Calls Try.prog 64 #[trV a n c now] w fun e w' => Below w.heap.size w w' ∧ e = .returned (.slice (some ⟨w.heap.size + 1, 0, none⟩) n n) ∧ ∃ m : Nat → Bool, w'.rowIs (w.heap.size + 1) 4 n (fun j => .bool (m j)) ∧ ∀ j, m j = true ↔ Reach n D j := by
  have hmk := fun w => run_make_row' (P := Try.prog) 28 4 (.bool false) 1 Try.underlying28 infoBool rfl .i64 .i64 n (by omega) (by omega) w
  have hm0 : (madeCells #[Value.bool false] n)[0]? = some (.bool false) := by simp [madeCells, show 0 < n from h1]
  obtain ⟨i0, hi, hz0, hz1, hz2⟩ := info_parts infoInt
  unfold trV
  go_enter Try.func64, Try.ntmps64
  go_wp2
  go_loopw [4] (fun s wr => ∃ (m : Nat → Bool) (L : List Nat), StkW w a n c now m L s wr ∧ Stk n D m L) (fun s wr => 2 * (n - cntB (fun j => bitAt wr (w.heap.size + 1) j) n) + lenOf s)
  case atStart => exact ⟨_, _, stk_start w a n c now, Stk.start h1⟩
  case round =>
    obtain ⟨m0, K, hin, hst⟩ := hrel
    have hfew := hst.few
    have hfew2 := cntB_le m0 n
    have hmeas := hin.meas
    obtain ⟨g, cap, rfl, hg1, hg2, hcap, hcapm, hcells⟩ := hin.shape
    unfold maxLen at hcapm
    clear hmk hm0
    rcases List.eq_nil_or_concat K with rfl | ⟨K', x, rfl⟩
    · have HALL : Hid (StkW w a n c now m0 [] (.slice (some ⟨g, 0, none⟩) 0 cap) wr ∧ Stk n D m0 []) := ⟨hin, hst⟩
      have h00 : ((([] : List Nat).length : Nat)) = 0 := rfl
      rw [h00]
      clear hin hst hcells
      go_wp2
      go_ret
      exact ⟨HALL.out.1.bel, rfl, m0, HALL.out.1.row, HALL.out.2.fin⟩
    · rw [List.concat_eq_append] at *
      have hxc : wr.cell? ⟨g, K'.length, none⟩ = some (.int .i64 (x : Nat)) := by
        have := hcells K'.length (by simp)
        simpa using this
      have hlen : (K' ++ [x]).length = K'.length + 1 := by simp
      rw [hlen] at hfew hmeas hcap ⊢
      obtain ⟨hxn, hmx⟩ := hst.on x (by simp)
      have hSr := hS.below (Nat.le_refl _) hin.bel
      obtain ⟨b, off, rfl, hlt2, hc⟩ := hSr.at hxn
      have c3 := (hc x hxn).2.2.2.1
      have t0 : wr.cell? ⟨w.heap.size, 0, none⟩ = some (.slice (some ⟨b, off, none⟩) n c) := hin.t.cell 0
      have hknb := hsm x hxn
      unfold maxLen at hknb
      have hxi : (x : Int) < (n : Int) := by omega
      have HST : Hid (StkW w (some ⟨b, off, none⟩) n c now m0 K' (.slice (some ⟨g, 0, none⟩) K'.length cap) wr ∧ StkIn n D x 0 m0 K' ∧ 2 * (n - cntB m0 n) + K'.length + 1 = 2 * (n - cntB (fun j => bitAt wr (w.heap.size + 1) j) n) + lenOf (.slice (some ⟨g, 0, none⟩) (K'.length + 1) cap)) := ⟨hin.pop, hst.pop, hmeas.symm⟩
      clear hin hst hmeas hc hcells hSr hmx
      generalize hkl : K'.length = kl at *
      have hwr : IntKind.i64.wrap ((kl : Int) + 1 - 1) = (kl : Int) := by rw [IntKind.wrap_i64]; omega
      have hwr2 : IntKind.i64.wrap (((kl + 1 : Nat) : Int) - 1) = (kl : Int) := by rw [IntKind.wrap_i64]; omega
      have hki : (kl : Int) < ((kl + 1 : Nat) : Int) := by omega
      go_wp2_with fail
      go_quiet (fail)
      have HS1 := HST.out.1.drew nq
      have HS : Hid (StkW w (some ⟨b, off, none⟩) n c now m0 K' (.slice (some ⟨g, 0, none⟩) kl cap) (wr.drewN nq)) := HS1
      clear HS1
      go_wp2
      go_loopw [4, 36] (fun s i wr' => ∃ (j : Nat) (m : Nat → Bool) (K : List Nat), j ≤ (D x).kn ∧ i = .int .i64 j ∧ StkW w (some ⟨b, off, none⟩) n c now m K s wr' ∧ StkIn n D x j m K ∧ 2 * (n - cntB m n) + K.length ≤ 2 * (n - cntB m0 n) + kl) (fun _ i _ => (D x).kn - (intOf i).toNat)
      case atStart => exact ⟨0, m0, K', Nat.zero_le _, rfl, HS.out, HST.out.2.1, by omega⟩
      case round =>
        obtain ⟨j, m, K, hj, rfl, hin, hst, hms⟩ := hrel
        have hfew3 := hst.few
        have hfew4 := cntB_le m n
        by_cases hltj : j < (D x).kn
        · have hSr := hS.below (Nat.le_refl _) hin.bel
          obtain ⟨b2, off2, ha2, _, hc2⟩ := hSr.at hxn
          cases ha2
          obtain ⟨b', off', ha', hlt2', hc'⟩ := (hc2 x hxn).2.2.2.2.2.2.at hltj
          have hz := hc' j hltj
          obtain ⟨hk0, hk1⟩ := hk x hxn j hltj
          obtain ⟨z, hz'⟩ : ∃ z : Nat, (D x).kids j = z := ⟨((D x).kids j).toNat, by omega⟩
          have hzn : z < n := by omega
          have hzt : ((D x).kids j).toNat = z := by rw [hz']; rfl
          have hjj : (j : Int) < ((D x).kn : Int) := by omega
          have hzi : (z : Int) < (n : Int) := by omega
          rw [hz'] at hz
          have mz : wr.cell? ⟨w.heap.size + 1, z, none⟩ = some (.bool (m z)) := hin.row.cell hzn
          have mf := hin.row.frozen z
          rw [ha']
          clear hSr hc2 hc' hk0 hk1 t0 c3 hxc hwr hwr2 hki hg1 hg2
          cases hmz : m z with
          | true =>
            rw [hmz] at mz
            have HALL : Hid (StkW w (some ⟨b, off, none⟩) n c now m K u4 wr ∧ StkIn n D x (j + 1) m K ∧ 2 * (n - cntB m n) + K.length ≤ 2 * (n - cntB m0 n) + kl) := ⟨hin, hst.pass (by rw [hzt]; exact hmz), hms⟩
            clear hin hst hms hmz
            go_wp2
            go_roundw
            case rel => exact ⟨j + 1, m, K, by omega, by go_num, HALL.out.1, HALL.out.2.1, HALL.out.2.2⟩
            case measure => simp [intOf]; omega
          | false =>
            rw [hmz] at mz
            have hst2 := hst.push hltj hzt hzn hmz
            have hcl := cntB_lt (m := m) (m' := fun j => if j = z then true else m j) (fun y hy => by by_cases e : y = z <;> simp [e, hy]) (i := z) (by simp [hmz]) (by simp) n hzn
            have hfew5 := cntB_le (fun j => if j = z then true else m j) n
            have hin2 := hin.mark z
            have HALL : Hid (StkIn n D x (j + 1) (fun j => if j = z then true else m j) (K ++ [z]) ∧ 2 * (n - cntB (fun j => if j = z then true else m j) n) + (K ++ [z]).length ≤ 2 * (n - cntB m0 n) + kl) := ⟨hst2, by rw [List.length_append]; simp only [List.length_singleton]; omega⟩
            have HIN : Hid (StkW w (some ⟨b, off, none⟩) n c now (fun j => if j = z then true else m j) K u4 (wr.setCell ⟨w.heap.size + 1, z, none⟩ (.bool true))) := hin2
            have hsz := hin.size
            clear hin hst hms hmz hst2 hcl hin2
            go_wp2_with (at_builtin; refine wpList_append_own _ rfl _ _ 36 rfl (w.heap.size + 2) 3 i0 (.int .i64 0) 1 8 Try.underlying36 hi hz0 hz1 hz2 rfl (by decide) _ _ _ rfl (HIN.out.alloc _).own ⟨_, 0, none⟩ 1 1 (natv [z]) rfl rfl ?c1 ?c2 ?c3 ?c4 ?c5 ?_)
            case c1 =>
              have := natv_cells (wr.setCell ⟨w.heap.size + 1, z, none⟩ (.bool true)) z
              rwa [show (wr.setCell ⟨w.heap.size + 1, z, none⟩ (.bool true)).heap.size = wr.heap.size by simp [World.setCell]] at this
            case c2 => exact natv_one _
            case c3 => unfold maxLen; omega
            case c4 => omega
            case c5 => simp [World.setCell]; omega
            intro v' w1 hown hgrow hnil
            have HN : Hid (StkW w (some ⟨b, off, none⟩) n c now (fun j => if j = z then true else m j) (K ++ [z]) v' w1) := (HIN.out.alloc _).push hown hgrow hnil
            clear hown hgrow hnil
            go_wp2
            go_roundw
            case rel => exact ⟨j + 1, _, K ++ [z], by omega, by go_num, HN.out, HALL.out.1, HALL.out.2⟩
            case measure => simp [intOf]; omega
        · have hje : j = (D x).kn := by omega
          have hmeas := hin.meas
          have HALL : Hid (StkW w (some ⟨b, off, none⟩) n c now m K u4 wr ∧ Stk n D m K ∧ 2 * (n - cntB m n) + K.length ≤ 2 * (n - cntB m0 n) + kl ∧ 2 * (n - cntB (fun j => bitAt wr (w.heap.size + 1) j) n) + lenOf u4 = 2 * (n - cntB m n) + K.length) := ⟨hin, (hje ▸ hst).out, hms, hmeas⟩
          clear hin hst hms hje hmeas
          go_wp2
          go_roundw
          case rel => exact ⟨m, K, HALL.out.1, HALL.out.2.1⟩
          case measure =>
            have h1 := HALL.out.2.2
            have h2 := HST.out.2.2
            simp at h2 ⊢
            omega
end Go.Proofs.Ytoblndhmkehoaaa

/-
  What TreeOk of the program has to keep.
-/
namespace Go.Proofs.Ytoblndhmkehoaaa
open Go.RowKit

/-- What TreeOk of the program has to keep. -/
def ImplTreeOk : Prop := ∀ (a : Option Addr) (n c : Nat) (now : Int) (D : Nat → Nd) (L : Nat → Loc) (w : World), IsNds w a n D L → FitAll n D → n ≤ maxLen → sizeTo D n ≤ 1048576 → In64 now →
    Calls Try.prog 24 #[trV a n c now] w fun e w' => Below w.heap.size w w' ∧ ∃ r : Bool, e = .returned (.bool r) ∧ (r = true ↔ TreeGood n D now)
end Go.Proofs.Ytoblndhmkehoaaa

/-
  What reachOk and TreeOk of the program answer.
-/
namespace Go.Proofs.Ytoblndhmkehoaaa
open Go.RowKit
set_option linter.unusedVariables false

set_option maxHeartbeats 2000000 in
theorem reachOk_any (a : Option Addr) (n c : Nat) (now : Int) (D : Nat → Nd) (L : Nat → Loc) (w : World) (hS : IsNds w a n D L) (h1 : 1 ≤ n) (hn : n ≤ 1048576) (hsm : ∀ i, i < n → (D i).kn ≤ maxLen) (hk : ∀ i, i < n → ∀ j, j < (D i).kn → 0 ≤ (D i).kids j ∧ (D i).kids j < n) :
    Calls Try.prog 49 #[trV a n c now] w fun e w' => Below w.heap.size w w' ∧ ∃ r : Bool, e = .returned (.bool r) ∧ (r = true ↔ ∀ i, i < n → (Reach n D i ↔ (D i).kind ≠ 0)) := by
  unfold trV
  go_enter Try.func49, Try.ntmps49
  go_wp2_with fail
  refine at_world (F := New1 w _ _) (new1 w _ _) ?_
  rintro W ⟨hp, hb, hs⟩
  refine (reached_any a n c now D L W (hS.below (Nat.le_refl _) hb) h1 hn hsm hk).mono ?_
  rintro e w1 ⟨hb1, rfl, m, hrow, hm⟩
  have hp1 := hp.below hb1 (by omega)
  have HIN : Hid (RefsIn w a n c now w1 ∧ w1.rowIs (W.heap.size + 1) 4 n (fun j => .bool (m j))) := ⟨⟨hp1, hb.trans (hb1.mono (by omega))⟩, hrow⟩
  have HM : Hid (∀ j, m j = true ↔ Reach n D j) := hm
  clear hp hb hs hb1 hrow hp1 hm
  generalize W.heap.size + 1 = bm at *
  go_wp2
  go_loopw [8] (fun i wr => ∃ k : Nat, k ≤ n ∧ i = .int .i64 k ∧ RefsIn w a n c now wr ∧ wr.rowIs bm 4 n (fun j => .bool (m j)) ∧ ∀ i, i < k → (Reach n D i ↔ (D i).kind ≠ 0)) (fun i _ => n - (intOf i).toNat)
  case atStart => exact ⟨0, Nat.zero_le _, rfl, HIN.out.1, HIN.out.2, fun i h2 => by omega⟩
  case round =>
    obtain ⟨k, hk', rfl, hin, hrow, hall⟩ := hrel
    by_cases hlt : k < n
    · have hSr := hS.below (Nat.le_refl _) hin.bel
      obtain ⟨b, off, rfl, hlt2, hc⟩ := hSr.at hlt
      have c0 := (hc k hlt).1
      have t0 : wr.cell? ⟨w.heap.size, 0, none⟩ = some (.slice (some ⟨b, off, none⟩) n c) := hin.t.cell 0
      have hki : (k : Int) < (n : Int) := by omega
      have rc : wr.cell? ⟨bm, k, none⟩ = some (.bool (m k)) := hrow.cell hlt
      have HR : Hid (RefsIn w (some ⟨b, off, none⟩) n c now wr ∧ wr.rowIs bm 4 n (fun j => .bool (m j)) ∧ ∀ i, i < k → (Reach n D i ↔ (D i).kind ≠ 0)) := ⟨hin, hrow, hall⟩
      clear hc hin hrow hall hSr HIN
      cases hkz : ((D k).kind == 0) with
      | true =>
        have HZ : Hid ((D k).kind = 0) := show (D k).kind = 0 by simpa using hkz
        cases hmk : m k with
        | true =>
          rw [hmk] at rc
          have HX : Hid (Reach n D k) := (HM.out k).1 hmk
          clear hmk
          go_wp2
          go_ret
          exact ⟨HR.out.1.bel, false, rfl, fun h => (by cases h), fun h => absurd HZ.out ((h k hlt).1 HX.out)⟩
        | false =>
          rw [hmk] at rc
          have HX : Hid (Reach n D k ↔ (D k).kind ≠ 0) := ⟨fun h => (by have := (HM.out k).2 h; rw [hmk] at this; cases this), fun h => absurd HZ.out h⟩
          clear hmk
          go_wp2
          go_roundw
          case rel => exact ⟨k + 1, by omega, by go_num, HR.out.1, HR.out.2.1, fun i h2 => by
            by_cases e : i = k
            · subst e; exact HX.out
            · exact HR.out.2.2 i (by omega)⟩
          case measure => simp [intOf]; omega
      | false =>
        have HZ : Hid (¬ (D k).kind = 0) := show ¬ (D k).kind = 0 by simpa using hkz
        cases hmk : m k with
        | false =>
          rw [hmk] at rc
          have HX : Hid (¬ Reach n D k) := fun h => (by have := (HM.out k).2 h; rw [hmk] at this; cases this)
          clear hmk
          go_wp2
          go_ret
          exact ⟨HR.out.1.bel, false, rfl, fun h => (by cases h), fun h => absurd ((h k hlt).2 HZ.out) HX.out⟩
        | true =>
          rw [hmk] at rc
          have HX : Hid (Reach n D k ↔ (D k).kind ≠ 0) := ⟨fun _ => HZ.out, fun _ => (HM.out k).1 hmk⟩
          clear hmk
          go_wp2
          go_roundw
          case rel => exact ⟨k + 1, by omega, by go_num, HR.out.1, HR.out.2.1, fun i h2 => by
            by_cases e : i = k
            · subst e; exact HX.out
            · exact HR.out.2.2 i (by omega)⟩
          case measure => simp [intOf]; omega
    · have HALL : Hid (Below w.heap.size w wr ∧ ∀ i, i < n → (Reach n D i ↔ (D i).kind ≠ 0)) := ⟨hin.bel, fun i h2 => hall i (by omega)⟩
      clear hin hrow hall HIN
      go_wp2
      go_ret
      exact ⟨HALL.out.1, true, rfl, fun _ => HALL.out.2, fun _ => rfl⟩

set_option maxHeartbeats 2000000 in
theorem implTreeOk : ImplTreeOk := by
  intro a n c now D L w hS hf hn hsz hnow
  have hn' := hn
  unfold maxLen at hn'
  have out : ∀ (e : Ending) (w' : World), Below w.heap.size w w' → e = .returned (.bool false) → ¬ TreeGood n D now → Below w.heap.size w w' ∧ ∃ r : Bool, e = .returned (.bool r) ∧ (r = true ↔ TreeGood n D now) :=
    fun e w' hb he hg => ⟨hb, false, he, fun h => (by cases h), fun h => absurd h hg⟩
  by_cases g1 : n < 1
  · have hb1 : decide ((n : Int) < 1) = true := by simp; omega
    have HG : Hid (¬ TreeGood n D now) := fun h => by have := h.some; omega
    unfold trV
    go_enter Try.func24, Try.ntmps24
    go_wp2_with fail
    go_ret
    exact out _ _ ((Below.refl _ _).alloc (Nat.le_refl _) _) rfl HG.out
  · have hb1 : decide ((n : Int) < 1) = false := by simp; omega
    by_cases g2 : 10 < n
    · have hb2 : decide (10 < (n : Int)) = true := by simp; omega
      have HG : Hid (¬ TreeGood n D now) := fun h => by have := h.few; omega
      unfold trV
      go_enter Try.func24, Try.ntmps24
      go_wp2_with fail
      go_ret
      exact out _ _ ((Below.refl _ _).alloc (Nat.le_refl _) _) rfl HG.out
    · have hb2 : decide (10 < (n : Int)) = false := by simp; omega
      cases hto : turnIn now 1000 with
      | false =>
        have HG : Hid (¬ TreeGood n D now) := fun h => by
          have h1 := h.begun
          have h2 := h.soon
          unfold turnIn at hto
          rw [decide_eq_true h1, decide_eq_true h2] at hto
          cases hto
        unfold trV
        go_enter Try.func24, Try.ntmps24
        go_wp2_with (go_at_call 36; refine (turnOk_any _ _ _).mono ?_; rintro e w' ⟨rfl, rfl⟩; rw [hto])
        go_ret
        exact out _ _ ((Below.refl _ _).alloc (Nat.le_refl _) _) rfl HG.out
      | true =>
        have HT : Hid (1 ≤ now ∧ now ≤ 1000) := by
          show 1 ≤ now ∧ now ≤ 1000
          unfold turnIn at hto
          simpa using hto
        obtain ⟨b, off, rfl, hlt2, hc⟩ := hS.at (show 0 < n by omega)
        have c0 := (hc 0 (by omega)).1
        rw [Nat.zero_mul, Nat.add_zero] at c0
        clear hc
        by_cases g5 : (D 0).kind = 2
        · have hb5 : ((D 0).kind != 2) = false := by simp [g5]
          have H5 : Hid ((D 0).kind = 2) := g5
          clear g5
          unfold trV
          go_enter Try.func24, Try.ntmps24
          go_wp2_with (go_at_call 36; refine (turnOk_any _ _ _).mono ?_; rintro e w' ⟨rfl, rfl⟩; rw [hto])
          clear c0
          go_loopw [30] (fun i wr => ∃ k : Nat, k ≤ n ∧ i = .int .i64 k ∧ RefsIn w (some ⟨b, off, none⟩) n c now wr ∧ ∀ i, i < k → ndOk n D now (D i) = true) (fun i _ => n - (intOf i).toNat)
          case atStart => exact ⟨0, Nat.zero_le _, rfl, ⟨(new1 w _ _).b0, (new1 w _ _).bel⟩, fun i hi => by omega⟩
          case round =>
            obtain ⟨k, hk, rfl, hin, hall⟩ := hrel
            have t0 : wr.cell? ⟨w.heap.size, 0, none⟩ = some (.slice (some ⟨b, off, none⟩) n c) := hin.t.cell 0
            have t1 : wr.cell? ⟨w.heap.size, 1, none⟩ = some (.int .i64 now) := hin.t.cell 1
            have hSr := hS.below (Nat.le_refl _) hin.bel
            have hwl : w.heap.size < wr.heap.size := hin.t.lt
            by_cases hlt : k < n
            · obtain ⟨b', off', ha, hlt2', hc⟩ := hSr.at hlt
              cases ha
              obtain ⟨c0, c1, c2, c3, c4, hI⟩ := hc k hlt
              have hki : (k : Int) < (n : Int) := by omega
              have HIN : Hid (RefsIn w (some ⟨b, off, none⟩) n c now wr ∧ ∀ i, i < k → ndOk n D now (D i) = true) := ⟨hin, hall⟩
              clear hc hin hall
              go_wp2_with fail
              refine at_world (F := New1 wr _ _) (new1 wr _ _) ?_
              rintro W ⟨hp, hb, hs⟩
              refine (placeOk_any _ n c now D L (D k) (L k) W (hSr.below (Nat.le_refl _) hb) (hI.below (Nat.le_refl _) hb) (hf k hlt) hn).mono ?_
              rintro e w1 ⟨hb1', rfl⟩
              have hbw : Below wr.heap.size wr w1 := hb.trans (hb1'.mono (by omega))
              have HN : Hid (RefsIn w (some ⟨b, off, none⟩) n c now w1) := ⟨HIN.out.1.t.below hbw hwl, HIN.out.1.bel.trans (hbw.mono HIN.out.1.bel.size)⟩
              clear hp hb hs hb1' hbw c0 c1 c2 c3 c4 hI hSr t0 t1
              cases hq : ndOk n D now (D k) with
              | false =>
                have HQ : Hid (¬ TreeGood n D now) := fun h => by have := h.nodes k hlt; rw [hq] at this; cases this
                clear hq
                go_wp2
                go_ret
                exact out _ _ HN.out.bel rfl HQ.out
              | true =>
                have HQ : Hid (ndOk n D now (D k) = true) := hq
                clear hq
                go_wp2
                go_roundw
                case rel => exact ⟨k + 1, by omega, by go_num, HN.out, fun i hi => by
                  by_cases e : i = k
                  · subst e; exact HQ.out
                  · exact HIN.out.2 i (by omega)⟩
                case measure => simp [intOf]; omega
            · have hke : k = n := by omega
              have HALL : Hid (∀ i, i < n → ndOk n D now (D i) = true) := fun i hi => hall i (by omega)
              have HIN : Hid (RefsIn w (some ⟨b, off, none⟩) n c now wr) := hin
              clear hke hall hin
              go_wp2_with fail
              refine (reachOk_any _ n c now D L wr hSr (by omega) (by omega) (fun i hi => (hf i hi).kn) (kids_in HALL.out)).mono ?_
              rintro e w1 ⟨hb1', r, rfl, hr⟩
              have hN1 : RefsIn w (some ⟨b, off, none⟩) n c now w1 := ⟨HIN.out.t.below hb1' hwl, HIN.out.bel.trans (hb1'.mono HIN.out.bel.size)⟩
              have T0 : w1.cell? ⟨w.heap.size, 0, none⟩ = some (.slice (some ⟨b, off, none⟩) n c) := hN1.t.cell 0
              have T1 : w1.cell? ⟨w.heap.size, 1, none⟩ = some (.int .i64 now) := hN1.t.cell 1
              have HN1 : Hid (RefsIn w (some ⟨b, off, none⟩) n c now w1 ∧ (r = true ↔ ∀ i, i < n → (Reach n D i ↔ (D i).kind ≠ 0))) := ⟨hN1, hr⟩
              clear hb1' hN1 hr t0 t1 hSr
              cases r with
              | false =>
                have HQ : Hid (¬ TreeGood n D now) := fun h => by
                  have := HN1.out.2.2 (fun i hi => by
                    by_cases e : i = 0
                    · subst e; exact ⟨fun _ => by rw [H5.out]; decide, fun _ => .root⟩
                    · exact h.reach i (by omega) hi)
                  cases this
                go_wp2
                go_ret
                exact out _ _ HN1.out.1.bel rfl HQ.out
              | true =>
                go_wp2_with fail
                refine (namedOnce_any _ n c now D L w1 (hS.below (Nat.le_refl _) HN1.out.1.bel) (by omega) hsz (fun i hi => (hf i hi).kn) (kids_in HALL.out)).mono ?_
                rintro e w2 ⟨hb2', r2, rfl, hr2⟩
                have HE : Hid (Below w.heap.size w w2 ∧ (r2 = true ↔ TreeGood n D now)) := ⟨HN1.out.1.bel.trans (hb2'.mono HN1.out.1.bel.size),
                  fun h => ⟨by omega, by omega, HT.out.1, HT.out.2, H5.out, HALL.out, fun i _ hi => HN1.out.2.1 (by trivial) i hi, hr2.1 h⟩, fun h => hr2.2 h.one⟩
                clear hb2' hr2
                go_wp2
                go_ret
                exact ⟨HE.out.1, r2, rfl, HE.out.2⟩
        · have hb5 : ((D 0).kind != 2) = true := by simpa using g5
          have HG : Hid (¬ TreeGood n D now) := fun h => g5 h.root
          clear g5
          unfold trV
          go_enter Try.func24, Try.ntmps24
          go_wp2_with (go_at_call 36; refine (turnOk_any _ _ _).mono ?_; rintro e w' ⟨rfl, rfl⟩; rw [hto])
          go_ret
          exact out _ _ ((Below.refl _ _).alloc (Nat.le_refl _) _) rfl HG.out
end Go.Proofs.Ytoblndhmkehoaaa

/-
  What DumpOf of the program answers.
-/
namespace Go.Proofs.Ytoblndhmkehoaaa
open Go.RowKit Go.Deep Go.Shelf
set_option linter.unusedVariables false
set_option linter.unusedSimpArgs false
attribute [local go_sem] Oper.semAt_some

theorem dump_no {w w1 : World} (h : Blk w1 (w.heap.size + 1) #[.int .i64 0, .int .i64 0, .slice none 0 0, .slice none 0 0] 31 ∧ Below w.heap.size w w1) :
    Blk ((((w1.setCell ⟨w.heap.size + 1, 0, none⟩ (.int .i64 0)).setCell ⟨w.heap.size + 1, 1, none⟩ (.int .i64 0)).setCell ⟨w.heap.size + 1, 2, none⟩ (.slice none 0 0)).setCell ⟨w.heap.size + 1, 3, none⟩ (.slice none 0 0)) (w.heap.size + 1) #[.int .i64 0, .int .i64 0, .slice none 0 0, .slice none 0 0] 31 ∧ Below w.heap.size w ((((w1.setCell ⟨w.heap.size + 1, 0, none⟩ (.int .i64 0)).setCell ⟨w.heap.size + 1, 1, none⟩ (.int .i64 0)).setCell ⟨w.heap.size + 1, 2, none⟩ (.slice none 0 0)).setCell ⟨w.heap.size + 1, 3, none⟩ (.slice none 0 0)) :=
  ⟨(((h.1.set 0 _).set 1 _).set 2 _).set 3 _, bel_put (bel_put (bel_put (bel_put h.2 _ (by omega)) _ (by omega)) _ (by omega)) _ (by omega)⟩

set_option maxRecDepth 100000 in
set_option maxHeartbeats 4000000 in
theorem implDumpOf_any (a : Option Addr) (n c : Nat) (now since : Int) (D : Nat → Nd) (L : Nat → Loc) (w : World) (hS : IsNds w a n D L) (hf : FitAll n D) (hn : n ≤ maxLen) (hsz : sizeTo D n ≤ 1048576) (hnow : In64 now) :
    Calls Try.prog 8 #[trV a n c now, .int .i64 since] w (DumpOfPost w n D now since) := by
  have hn' := hn
  unfold maxLen at hn'
  unfold trV
  obtain ⟨y0, hy, hy0, hy1, hy2⟩ := info_parts infoItem
  refine (callsIn_wide (n := 3)).1 ?_
  refine callsIn_of_wp_marks Try.func8 rfl trivial ?_ rfl
  simp only [Try.ntmps8, List.size_toArray, List.length_cons, List.length_nil, Nat.reduceAdd, Nat.reduceSub, Array.replicate_succ, Array.replicate_zero, List.push_toArray, List.append_toArray, List.nil_append, List.cons_append]
  have h2 := new2 w #[.slice a n c, .int .i64 now] 25 #[.int .i64 0, .int .i64 0, .slice none 0 0, .slice none 0 0] 31
  obtain ⟨hp, hr, hb, hs⟩ := h2
  have HT : Hid (∀ W, Below w.heap.size w W → Calls Try.prog 24 #[.agg #[.slice a n c, .int .i64 now]] W fun e w' => Below W.heap.size W w' ∧ ∃ r : Bool, e = .returned (.bool r) ∧ (r = true ↔ TreeGood n D now)) := fun W hb => implTreeOk a n c now D L W (hS.below (Nat.le_refl _) hb) hf hn hsz hnow
  gi_wp2_with (refine ⟨trivial, ?_⟩; gi_at_call 24; refine (callsIn_wide.2 (HT.out _ hb)).mono ?_)
  rintro e w1 ⟨hb1, ok, rfl, hok⟩
  have hp1 := hp.below hb1 (by omega)
  have hr1 := hr.below hb1 (by omega)
  have hB1 := hb.trans (hb1.mono (by omega))
  have hs1 : w.heap.size + 2 ≤ w1.heap.size := by have := hb1.size; omega
  have p0 : w1.cell? ⟨w.heap.size, 0, none⟩ = some (.slice a n c) := hp1.cell 0
  have p1 : w1.cell? ⟨w.heap.size, 1, none⟩ = some (.int .i64 now) := hp1.cell 1
  have r0 : w1.cell? ⟨w.heap.size + 1, 0, none⟩ = some (.int .i64 0) := hr1.cell 0
  have r1 : w1.cell? ⟨w.heap.size + 1, 1, none⟩ = some (.int .i64 0) := hr1.cell 1
  have r2 : w1.cell? ⟨w.heap.size + 1, 2, none⟩ = some (.slice none 0 0) := hr1.cell 2
  have r3 : w1.cell? ⟨w.heap.size + 1, 3, none⟩ = some (.slice none 0 0) := hr1.cell 3
  have g0 := hr1.frozen 0
  have g1 := hr1.frozen 1
  have g2 := hr1.frozen 2
  have g3 := hr1.frozen 3
  have H1 : Hid (Blk w1 w.heap.size #[.slice a n c, .int .i64 now] 25 ∧ Blk w1 (w.heap.size + 1) #[.int .i64 0, .int .i64 0, .slice none 0 0, .slice none 0 0] 31 ∧ Below w.heap.size w w1) := ⟨hp1, hr1, hB1⟩
  clear hp hr hb hs hb1 hp1 hr1 hB1 HT
  by_cases hgo : ok = true ∧ 0 ≤ since ∧ since ≤ now
  · obtain ⟨rfl, hs0, hs1'⟩ := hgo
    have HG : Hid (TreeGood n D now) := hok.1 rfl
    have hb1 : decide (since < 0) = false := by simp; omega
    have hb2 : decide (now < since) = false := by simp; omega
    clear hok r0 r1 r2 r3 g0 g1 g2 g3
    gi_wp2
    have hn10 : n ≤ 10 := HG.out.few
    rw [wpIn_wide]
    apply wp_cutq2 (X := Nat) (Y := Nat) (fun V b2 W => IOf w (fun _ => False) a n c now since (fun i => (D i).kind != 0) V (some ⟨b2, 0, none⟩) n 0 none 0 (fun _ => 0) D L W)
    · intro key
      have KEY : Hid _ := key
      clear key
      refine wp_region_noPanic ?_
      refine wp_region_peel (fun W' => W'.cell? ⟨w.heap.size, 0, none⟩ = some (.slice a n c) ∧ W'.cell? ⟨w.heap.size, 1, none⟩ = some (.int .i64 now)) _ (by kernel_rfl) rfl (by kernel_rfl) ?_ (fun hHeld => ?_)
      · exact ⟨p0, p1⟩
      simp only [List.pop_toArray, List.dropLast, List.size_toArray, List.length_cons, List.length_nil, Nat.reduceAdd, Nat.reduceSub, List.getElem_toArray, List.getElem_cons_succ, List.getElem_cons_zero]
      refine peel_take (i := 0) (oi := ?oi0a) (v := ?v0a) (fun _ _ _ _ _ h => h) hHeld ?hi0a (by kernel_rfl) (by kernel_rfl) (by kernel_rfl) ?hw0a ?hy0a ?rest0a
      case hi0a =>
        simp only [List.getElem?_toArray, List.getElem?_cons_zero]
        rfl
      case hw0a => rfl
      case hy0a =>
        intro w hSw
        obtain ⟨s0, s1⟩ := hSw
        go_simp
        try with_reducible rfl
      try simp only [Act.put, List.setIfInBounds_toArray, List.set_cons_zero, List.set_cons_succ]
      refine peel_take (i := 1) (oi := ?oi1a) (v := ?v1a) (fun _ _ _ _ _ h => h) hHeld ?hi1a (by kernel_rfl) (by kernel_rfl) (by kernel_rfl) ?hw1a ?hy1a ?rest1a
      case hi1a =>
        simp only [List.getElem?_toArray, List.getElem?_cons_succ, List.getElem?_cons_zero]
        rfl
      case hw1a => rfl
      case hy1a =>
        intro w hSw
        obtain ⟨s0, s1⟩ := hSw
        go_simp
        try with_reducible rfl
      try simp only [Act.put, List.setIfInBounds_toArray, List.set_cons_zero, List.set_cons_succ]
      refine peel_take (i := 2) (oi := ?oi2a) (v := ?v2a) (fun _ _ _ _ _ h => h) hHeld ?hi2a (by kernel_rfl) (by kernel_rfl) (by kernel_rfl) ?hw2a ?hy2a ?rest2a
      case hi2a =>
        simp only [List.getElem?_toArray, List.getElem?_cons_succ, List.getElem?_cons_zero]
        rfl
      case hw2a => rfl
      case hy2a =>
        intro w hSw
        obtain ⟨s0, s1⟩ := hSw
        go_simp
        try with_reducible rfl
      try simp only [Act.put, List.setIfInBounds_toArray, List.set_cons_zero, List.set_cons_succ]
      refine peel_take (i := 3) (oi := ?oi3a) (v := ?v3a) (fun _ _ _ _ _ h => h) hHeld ?hi3a (by kernel_rfl) (by kernel_rfl) (by kernel_rfl) ?hw3a ?hy3a ?rest3a
      case hi3a =>
        simp only [List.getElem?_toArray, List.getElem?_cons_succ, List.getElem?_cons_zero]
        rfl
      case hw3a => rfl
      case hy3a =>
        intro w hSw
        obtain ⟨s0, s1⟩ := hSw
        go_simp
        try with_reducible rfl
      try simp only [Act.put, List.setIfInBounds_toArray, List.set_cons_zero, List.set_cons_succ]
      refine peel_take (i := 5) (oi := ?oi5a) (v := ?v5a) (fun _ _ _ _ _ h => h) hHeld ?hi5a (by kernel_rfl) (by kernel_rfl) (by kernel_rfl) ?hw5a ?hy5a ?rest5a
      case hi5a =>
        simp only [List.getElem?_toArray, List.getElem?_cons_succ, List.getElem?_cons_zero]
        rfl
      case hw5a => rfl
      case hy5a =>
        intro w hSw
        obtain ⟨s0, s1⟩ := hSw
        go_simp
        try with_reducible rfl
      try simp only [Act.put, List.setIfInBounds_toArray, List.set_cons_zero, List.set_cons_succ]
      refine peel_take (i := 6) (oi := ?oi6a) (v := ?v6a) (fun _ _ _ _ _ h => h) hHeld ?hi6a (by kernel_rfl) (by kernel_rfl) (by kernel_rfl) ?hw6a ?hy6a ?rest6a
      case hi6a =>
        simp only [List.getElem?_toArray, List.getElem?_cons_succ, List.getElem?_cons_zero]
        rfl
      case hw6a => rfl
      case hy6a =>
        intro w hSw
        obtain ⟨s0, s1⟩ := hSw
        go_simp
        try with_reducible rfl
      try simp only [Act.put, List.setIfInBounds_toArray, List.set_cons_zero, List.set_cons_succ]
      refine peel_take (i := 7) (oi := ?oi7a) (v := ?v7a) (fun _ _ _ _ _ h => h) hHeld ?hi7a (by kernel_rfl) (by kernel_rfl) (by kernel_rfl) ?hw7a ?hy7a ?rest7a
      case hi7a =>
        simp only [List.getElem?_toArray, List.getElem?_cons_succ, List.getElem?_cons_zero]
        rfl
      case hw7a => rfl
      case hy7a =>
        intro w hSw
        obtain ⟨s0, s1⟩ := hSw
        go_simp
        try with_reducible rfl
      try simp only [Act.put, List.setIfInBounds_toArray, List.set_cons_zero, List.set_cons_succ]
      have hB0 : Below w1.heap.size w1 w1.drew := (Below.refl _ _).drew
      refine wpAnyH_ready (rs := [4, 10]) (by kernel_rfl) (by simp) ?_
      refine AllReadyH.cons (o := ?o4q1a) ?ho4q1a (fun K hK => ?st4q1a) ?more4q1a
      case ho4q1a =>
        simp only [List.getElem?_toArray, List.getElem?_cons_succ, List.getElem?_cons_zero]
        rfl
      case st4q1a =>
        go_simp
        refine (bitsOfTree_any a n c now D L w1.drew (hS.below (Nat.le_refl _) (H1.out.2.2.trans (hB0.mono (by omega)))) hn10).mono ?_
        rintro e wq1a ⟨hbq1a, rfl⟩
        have hBq1a : Below w1.heap.size w1 wq1a := (hB0.trans (hbq1a.mono (hB0.size)))
        refine hK.out _ _ ⟨(hBq1a.cell (p := ⟨w.heap.size, 0, none⟩) (show w.heap.size < w1.heap.size by omega)).trans p0, (hBq1a.cell (p := ⟨w.heap.size, 1, none⟩) (show w.heap.size < w1.heap.size by omega)).trans p1⟩ (fun hHeld => ?_)
        clear hK K
        try simp only [Act.put, List.setIfInBounds_toArray, List.set_cons_zero, List.set_cons_succ]
        refine wpAnyH_ready (rs := [8, 10]) (by kernel_rfl) (by simp) ?_
        refine AllReadyH.cons (o := ?o8q2a) ?ho8q2a (fun K hK => ?st8q2a) ?more8q2a
        case ho8q2a =>
          simp only [List.getElem?_toArray, List.getElem?_cons_succ, List.getElem?_cons_zero]
          rfl
        case st8q2a =>
          go_simp
          refine (list_any (fun i => (D i).kind != 0) n wq1a hn10).mono ?_
          rintro e wq2a ⟨rfl, hbq2a, hrq2a⟩
          try simp only [World.size_alloc] at hrq2a
          have hBq2a : Below w1.heap.size w1 wq2a := (hBq1a.trans (hbq2a.mono (hBq1a.size)))
          refine hK.out _ _ ⟨(hBq2a.cell (p := ⟨w.heap.size, 0, none⟩) (show w.heap.size < w1.heap.size by omega)).trans p0, (hBq2a.cell (p := ⟨w.heap.size, 1, none⟩) (show w.heap.size < w1.heap.size by omega)).trans p1⟩ (fun hHeld => ?_)
          clear hK K
          try simp only [Act.put, List.setIfInBounds_toArray, List.set_cons_zero, List.set_cons_succ]
          refine wpAnyH_ready (rs := [9, 10]) (by kernel_rfl) (by simp) ?_
          refine AllReadyH.cons (o := ?o9q3a) ?ho9q3a (fun K hK => ?st9q3a) ?more9q3a
          case ho9q3a =>
            simp only [List.getElem?_toArray, List.getElem?_cons_succ, List.getElem?_cons_zero]
            rfl
          case st9q3a =>
            go_simp
            refine hK.out _ _ hHeld (fun hHeld => ?_)
            clear hK K
            try simp only [Act.put, List.setIfInBounds_toArray, List.set_cons_zero, List.set_cons_succ]
            refine wpAnyH_ready (rs := [10]) (by kernel_rfl) (by simp) ?_
            refine AllReadyH.cons (o := ?o10q4a) ?ho10q4a (fun K hK => ?st10q4a) AllReadyH.nil
            case ho10q4a =>
              simp only [List.getElem?_toArray, List.getElem?_cons_succ, List.getElem?_cons_zero]
              rfl
            go_simp
            have hbq4a : Below wq2a.heap.size wq2a (wq2a.alloc (.cells #[.int .i64 0, .int .i64 0, .slice none 0 0, .slice none 0 0] 31)) := (Below.refl _ _).alloc (Nat.le_refl _) _
            have hBq4a : Below w1.heap.size w1 (wq2a.alloc (.cells #[.int .i64 0, .int .i64 0, .slice none 0 0, .slice none 0 0] 31)) := (hBq2a.trans (hbq4a.mono (hBq2a.size)))
            have hvq4a : Blk (wq2a.alloc (.cells #[.int .i64 0, .int .i64 0, .slice none 0 0, .slice none 0 0] 31)) (wq2a.heap.size) #[.int .i64 0, .int .i64 0, .slice none 0 0, .slice none 0 0] 31 := Blk.new _ _ _
            refine hK.out _ _ ⟨(hBq4a.cell (p := ⟨w.heap.size, 0, none⟩) (show w.heap.size < w1.heap.size by omega)).trans p0, (hBq4a.cell (p := ⟨w.heap.size, 1, none⟩) (show w.heap.size < w1.heap.size by omega)).trans p1⟩ (fun hHeld => ?_)
            clear hK K
            try simp only [Act.put, List.setIfInBounds_toArray, List.set_cons_zero, List.set_cons_succ]
            refine wpAnyH_done (by kernel_rfl) ?_ _
            have HS : Hid _ := IOf.fresh (now := now) (since := since) (D := D) (L := L) H1.out hBq2a hrq2a (by have := hBq1a.size; first | omega | (simp at this; omega)) (by unfold maxLen; omega)
            show Oper.wp _ _ _ _ _ _
            go_simp
            generalize wq1a.heap.size = b2 at HS ⊢
            generalize wq2a.heap.size = V at HS ⊢
            exact NoPanic.normal (KEY.out _ _ _ HS.out)
          refine AllReadyH.cons (o := ?o10q3b) ?ho10q3b (fun K hK => ?st10q3b) AllReadyH.nil
          case ho10q3b =>
            simp only [List.getElem?_toArray, List.getElem?_cons_succ, List.getElem?_cons_zero]
            rfl
          go_simp
          have hbq3b : Below wq2a.heap.size wq2a (wq2a.alloc (.cells #[.int .i64 0, .int .i64 0, .slice none 0 0, .slice none 0 0] 31)) := (Below.refl _ _).alloc (Nat.le_refl _) _
          have hBq3b : Below w1.heap.size w1 (wq2a.alloc (.cells #[.int .i64 0, .int .i64 0, .slice none 0 0, .slice none 0 0] 31)) := (hBq2a.trans (hbq3b.mono (hBq2a.size)))
          have hvq3b : Blk (wq2a.alloc (.cells #[.int .i64 0, .int .i64 0, .slice none 0 0, .slice none 0 0] 31)) (wq2a.heap.size) #[.int .i64 0, .int .i64 0, .slice none 0 0, .slice none 0 0] 31 := Blk.new _ _ _
          refine hK.out _ _ ⟨(hBq3b.cell (p := ⟨w.heap.size, 0, none⟩) (show w.heap.size < w1.heap.size by omega)).trans p0, (hBq3b.cell (p := ⟨w.heap.size, 1, none⟩) (show w.heap.size < w1.heap.size by omega)).trans p1⟩ (fun hHeld => ?_)
          clear hK K
          try simp only [Act.put, List.setIfInBounds_toArray, List.set_cons_zero, List.set_cons_succ]
          refine wpAnyH_ready (rs := [9]) (by kernel_rfl) (by simp) ?_
          refine AllReadyH.cons (o := ?o9q6a) ?ho9q6a (fun K hK => ?st9q6a) AllReadyH.nil
          case ho9q6a =>
            simp only [List.getElem?_toArray, List.getElem?_cons_succ, List.getElem?_cons_zero]
            rfl
          go_simp
          refine hK.out _ _ hHeld (fun hHeld => ?_)
          clear hK K
          try simp only [Act.put, List.setIfInBounds_toArray, List.set_cons_zero, List.set_cons_succ]
          refine wpAnyH_done (by kernel_rfl) ?_ _
          have HS : Hid _ := IOf.fresh (now := now) (since := since) (D := D) (L := L) H1.out hBq2a hrq2a (by have := hBq1a.size; first | omega | (simp at this; omega)) (by unfold maxLen; omega)
          show Oper.wp _ _ _ _ _ _
          go_simp
          generalize wq1a.heap.size = b2 at HS ⊢
          generalize wq2a.heap.size = V at HS ⊢
          exact NoPanic.normal (KEY.out _ _ _ HS.out)
        refine AllReadyH.cons (o := ?o10q2b) ?ho10q2b (fun K hK => ?st10q2b) AllReadyH.nil
        case ho10q2b =>
          simp only [List.getElem?_toArray, List.getElem?_cons_succ, List.getElem?_cons_zero]
          rfl
        go_simp
        have hbq2b : Below wq1a.heap.size wq1a (wq1a.alloc (.cells #[.int .i64 0, .int .i64 0, .slice none 0 0, .slice none 0 0] 31)) := (Below.refl _ _).alloc (Nat.le_refl _) _
        have hBq2b : Below w1.heap.size w1 (wq1a.alloc (.cells #[.int .i64 0, .int .i64 0, .slice none 0 0, .slice none 0 0] 31)) := (hBq1a.trans (hbq2b.mono (hBq1a.size)))
        have hvq2b : Blk (wq1a.alloc (.cells #[.int .i64 0, .int .i64 0, .slice none 0 0, .slice none 0 0] 31)) (wq1a.heap.size) #[.int .i64 0, .int .i64 0, .slice none 0 0, .slice none 0 0] 31 := Blk.new _ _ _
        refine hK.out _ _ ⟨(hBq2b.cell (p := ⟨w.heap.size, 0, none⟩) (show w.heap.size < w1.heap.size by omega)).trans p0, (hBq2b.cell (p := ⟨w.heap.size, 1, none⟩) (show w.heap.size < w1.heap.size by omega)).trans p1⟩ (fun hHeld => ?_)
        clear hK K
        try simp only [Act.put, List.setIfInBounds_toArray, List.set_cons_zero, List.set_cons_succ]
        refine wpAnyH_ready (rs := [8]) (by kernel_rfl) (by simp) ?_
        refine AllReadyH.cons (o := ?o8q8a) ?ho8q8a (fun K hK => ?st8q8a) AllReadyH.nil
        case ho8q8a =>
          simp only [List.getElem?_toArray, List.getElem?_cons_succ, List.getElem?_cons_zero]
          rfl
        go_simp
        refine (list_any (fun i => (D i).kind != 0) n (wq1a.alloc (.cells #[.int .i64 0, .int .i64 0, .slice none 0 0, .slice none 0 0] 31)) hn10).mono ?_
        rintro e wq8a ⟨rfl, hbq8a, hrq8a⟩
        try simp only [World.size_alloc] at hrq8a
        have hBq8a : Below w1.heap.size w1 wq8a := (hBq2b.trans (hbq8a.mono (hBq2b.size)))
        refine hK.out _ _ ⟨(hBq8a.cell (p := ⟨w.heap.size, 0, none⟩) (show w.heap.size < w1.heap.size by omega)).trans p0, (hBq8a.cell (p := ⟨w.heap.size, 1, none⟩) (show w.heap.size < w1.heap.size by omega)).trans p1⟩ (fun hHeld => ?_)
        clear hK K
        try simp only [Act.put, List.setIfInBounds_toArray, List.set_cons_zero, List.set_cons_succ]
        refine wpAnyH_ready (rs := [9]) (by kernel_rfl) (by simp) ?_
        refine AllReadyH.cons (o := ?o9q9a) ?ho9q9a (fun K hK => ?st9q9a) AllReadyH.nil
        case ho9q9a =>
          simp only [List.getElem?_toArray, List.getElem?_cons_succ, List.getElem?_cons_zero]
          rfl
        go_simp
        refine hK.out _ _ hHeld (fun hHeld => ?_)
        clear hK K
        try simp only [Act.put, List.setIfInBounds_toArray, List.set_cons_zero, List.set_cons_succ]
        refine wpAnyH_done (by kernel_rfl) ?_ _
        have hv := (hvq2b.below hbq8a hvq2b.lt)
        have hr := hrq8a
        have z0 := hv.cell 0
        have z1 := hv.cell 1
        have z2 := hv.cell 2
        have z3 := hv.cell 3
        have f0 := hv.frozen 0
        have f1 := hv.frozen 1
        have f2 := hv.frozen 2
        have f3 := hv.frozen 3
        simp at z0 z1 z2 z3
        have HS : Hid _ := IOf.start (since := since) (D := D) (L := L) H1.out hBq8a hv hr hBq1a.size (by have := hBq2b.size; first | omega | (simp at this; omega)) (by unfold maxLen; omega)
        clear hv hr
        show Oper.wp _ _ _ _ _ _
        go_simp
        generalize wq1a.heap.size + 1 = b2 at HS ⊢
        generalize wq1a.heap.size = V at HS ⊢
        exact NoPanic.normal (KEY.out _ _ _ HS.out)
      refine AllReadyH.cons (o := ?o10q1b) ?ho10q1b (fun K hK => ?st10q1b) AllReadyH.nil
      case ho10q1b =>
        simp only [List.getElem?_toArray, List.getElem?_cons_succ, List.getElem?_cons_zero]
        rfl
      go_simp
      have hbq1b : Below w1.drew.heap.size w1.drew (w1.drew.alloc (.cells #[.int .i64 0, .int .i64 0, .slice none 0 0, .slice none 0 0] 31)) := (Below.refl _ _).alloc (Nat.le_refl _) _
      have hBq1b : Below w1.heap.size w1 (w1.drew.alloc (.cells #[.int .i64 0, .int .i64 0, .slice none 0 0, .slice none 0 0] 31)) := (hB0.trans (hbq1b.mono (hB0.size)))
      have hvq1b : Blk (w1.drew.alloc (.cells #[.int .i64 0, .int .i64 0, .slice none 0 0, .slice none 0 0] 31)) (w1.heap.size) #[.int .i64 0, .int .i64 0, .slice none 0 0, .slice none 0 0] 31 := Blk.new _ _ _
      refine hK.out _ _ ⟨(hBq1b.cell (p := ⟨w.heap.size, 0, none⟩) (show w.heap.size < w1.heap.size by omega)).trans p0, (hBq1b.cell (p := ⟨w.heap.size, 1, none⟩) (show w.heap.size < w1.heap.size by omega)).trans p1⟩ (fun hHeld => ?_)
      clear hK K
      try simp only [Act.put, List.setIfInBounds_toArray, List.set_cons_zero, List.set_cons_succ]
      refine wpAnyH_ready (rs := [4]) (by kernel_rfl) (by simp) ?_
      refine AllReadyH.cons (o := ?o4q11a) ?ho4q11a (fun K hK => ?st4q11a) AllReadyH.nil
      case ho4q11a =>
        simp only [List.getElem?_toArray, List.getElem?_cons_succ, List.getElem?_cons_zero]
        rfl
      go_simp
      refine (bitsOfTree_any a n c now D L (w1.drew.alloc (.cells #[.int .i64 0, .int .i64 0, .slice none 0 0, .slice none 0 0] 31)) (hS.below (Nat.le_refl _) (H1.out.2.2.trans (hBq1b.mono (by omega)))) hn10).mono ?_
      rintro e wq11a ⟨hbq11a, rfl⟩
      have hBq11a : Below w1.heap.size w1 wq11a := (hBq1b.trans (hbq11a.mono (hBq1b.size)))
      refine hK.out _ _ ⟨(hBq11a.cell (p := ⟨w.heap.size, 0, none⟩) (show w.heap.size < w1.heap.size by omega)).trans p0, (hBq11a.cell (p := ⟨w.heap.size, 1, none⟩) (show w.heap.size < w1.heap.size by omega)).trans p1⟩ (fun hHeld => ?_)
      clear hK K
      try simp only [Act.put, List.setIfInBounds_toArray, List.set_cons_zero, List.set_cons_succ]
      refine wpAnyH_ready (rs := [8]) (by kernel_rfl) (by simp) ?_
      refine AllReadyH.cons (o := ?o8q12a) ?ho8q12a (fun K hK => ?st8q12a) AllReadyH.nil
      case ho8q12a =>
        simp only [List.getElem?_toArray, List.getElem?_cons_succ, List.getElem?_cons_zero]
        rfl
      go_simp
      refine (list_any (fun i => (D i).kind != 0) n wq11a hn10).mono ?_
      rintro e wq12a ⟨rfl, hbq12a, hrq12a⟩
      try simp only [World.size_alloc] at hrq12a
      have hBq12a : Below w1.heap.size w1 wq12a := (hBq11a.trans (hbq12a.mono (hBq11a.size)))
      refine hK.out _ _ ⟨(hBq12a.cell (p := ⟨w.heap.size, 0, none⟩) (show w.heap.size < w1.heap.size by omega)).trans p0, (hBq12a.cell (p := ⟨w.heap.size, 1, none⟩) (show w.heap.size < w1.heap.size by omega)).trans p1⟩ (fun hHeld => ?_)
      clear hK K
      try simp only [Act.put, List.setIfInBounds_toArray, List.set_cons_zero, List.set_cons_succ]
      refine wpAnyH_ready (rs := [9]) (by kernel_rfl) (by simp) ?_
      refine AllReadyH.cons (o := ?o9q13a) ?ho9q13a (fun K hK => ?st9q13a) AllReadyH.nil
      case ho9q13a =>
        simp only [List.getElem?_toArray, List.getElem?_cons_succ, List.getElem?_cons_zero]
        rfl
      go_simp
      refine hK.out _ _ hHeld (fun hHeld => ?_)
      clear hK K
      try simp only [Act.put, List.setIfInBounds_toArray, List.set_cons_zero, List.set_cons_succ]
      refine wpAnyH_done (by kernel_rfl) ?_ _
      have hv := ((hvq1b.below hbq11a hvq1b.lt).below hbq12a (hvq1b.below hbq11a hvq1b.lt).lt)
      have hr := hrq12a
      have z0 := hv.cell 0
      have z1 := hv.cell 1
      have z2 := hv.cell 2
      have z3 := hv.cell 3
      have f0 := hv.frozen 0
      have f1 := hv.frozen 1
      have f2 := hv.frozen 2
      have f3 := hv.frozen 3
      simp at z0 z1 z2 z3
      have HS : Hid _ := IOf.start (since := since) (D := D) (L := L) H1.out hBq12a hv hr hB0.size (by have := hBq11a.size; first | omega | (simp at this; omega)) (by unfold maxLen; omega)
      clear hv hr
      show Oper.wp _ _ _ _ _ _
      go_simp
      generalize wq11a.heap.size = b2 at HS ⊢
      generalize w1.heap.size = V at HS ⊢
      exact NoPanic.normal (KEY.out _ _ _ HS.out)
    · intro V b2 W hI
      have hVl := hI.v.lt
      have hfar := hI.far
      have hwl := hI.p.lt
      have t0 : W.cell? ⟨w.heap.size, 0, none⟩ = some (.slice a n c) := hI.p.cell 0
      have t1 : W.cell? ⟨w.heap.size, 1, none⟩ = some (.int .i64 now) := hI.p.cell 1
      have HI : Hid _ := hI
      clear hI p0 p1 H1
      gi_wp2_with (refine ⟨trivial, ?_⟩; gi_at_call 27; refine (turned_in _ a n c now since _).mono ?_; rintro e w' ⟨rfl, rfl⟩)
      have hw2 : w.heap.size + 2 ≤ W.heap.size := by have := HI.out.v.lt; omega
      obtain ⟨b, off, rfl, hbl, hc⟩ := hS.at HG.out.some
      obtain ⟨W0, hW0⟩ : ∃ W0, W0 = (W.alloc (.cells #[.slice (some ⟨b, off, none⟩) n c, .int .i64 now] 25)).alloc (.cells #[.int .i64 since] 3) := ⟨_, rfl⟩
      have hT := (Blk.new W #[.slice (some ⟨b, off, none⟩) n c, .int .i64 now] 25).alloc (.cells #[.int .i64 since] 3)
      have hSb : Blk ((W.alloc (.cells #[.slice (some ⟨b, off, none⟩) n c, .int .i64 now] 25)).alloc (.cells #[.int .i64 since] 3)) (W.heap.size + 1) #[.int .i64 since] 3 := by
        have := Blk.new (W.alloc (.cells #[.slice (some ⟨b, off, none⟩) n c, .int .i64 now] 25)) #[.int .i64 since] 3
        simpa using this
      have hWW : Below W.heap.size W ((W.alloc (.cells #[.slice (some ⟨b, off, none⟩) n c, .int .i64 now] 25)).alloc (.cells #[.int .i64 since] 3)) := ((Below.refl _ _).alloc (Nat.le_refl _) _).alloc (by simp) _
      have hsz0 : ((W.alloc (.cells #[.slice (some ⟨b, off, none⟩) n c, .int .i64 now] 25)).alloc (.cells #[.int .i64 since] 3)).heap.size = W.heap.size + 2 := by simp
      rw [← hW0] at hT hSb hWW hsz0 ⊢
      clear hW0
      have hI0 := HI.out.more (Y := fun j => j = W.heap.size + 1) (W' := W0) (fun j hj => ⟨Or.inr (by omega), by omega⟩) hWW
      have hSl : W.heap.size + 1 < W0.heap.size := by omega
      have hbl0 : b < W0.heap.size := by omega
      have hc0 : ∀ i, i < n → W0.cell? ⟨b, off + i * 5, none⟩ = some (.int .i64 (D i).kind) ∧ W0.cell? ⟨b, off + i * 5 + 1, none⟩ = some (.string (D i).text) ∧ W0.cell? ⟨b, off + i * 5 + 2, none⟩ = some (.slice (L i).nA (D i).nn (L i).nc) ∧ W0.cell? ⟨b, off + i * 5 + 3, none⟩ = some (.slice (L i).kA (D i).kn (L i).kc) ∧ W0.cell? ⟨b, off + i * 5 + 4, none⟩ = some (.int .i64 (D i).turn) := fun i hi => by
        obtain ⟨c0, c1, c2, c3, c4, _⟩ := hc i hi
        have k : ∀ o v, w.cell? ⟨b, o, none⟩ = some v → W0.cell? ⟨b, o, none⟩ = some v := fun o v h => (hI0.bel.cell (p := ⟨b, o, none⟩) hbl).trans h
        exact ⟨k _ _ c0, k _ _ c1, k _ _ c2, k _ _ c3, k _ _ c4⟩
      have hTc : W0.cell? ⟨W.heap.size, 0, none⟩ = some (.slice (some ⟨b, off, none⟩) n c) := hT.cell 0
      have HSeq : Hid _ := turned_stops 2 (by omega) W.heap.size (W.heap.size + 1) b off n c now since D L hn10 W0 hTc (by omega) (hSb.cell 0) hSl hbl0 hc0
      have HI0 : Hid _ := hI0
      have HC : Hid _ := hc
      clear hI0 hT hSb hWW hc0 hTc HI t0 t1 hc hwl
      have hkb : ∀ (U : World) (l : Nat) (o o' : Obj), W0.heap.size ≤ l → U.heap[l]? = some o → o.isCells = false → o.isWalk = false → KeepsTwo (W.heap.size + 1) b U (U.putObj l o') := fun U l o o' hl _ _ _ => ⟨World.putObj_heap_other (by omega), World.putObj_heap_other (by omega)⟩
      refine wpIn_rangeFunc_ownH rfl (by omega) (gf := 51) (lb := #[.pointer (some ⟨W.heap.size, 0, none⟩), .pointer (some ⟨W.heap.size + 1, 0, none⟩)]) rfl trivial (enters_of Try.func51 (by kernel_rfl) rfl)
        HSeq.out (fun h1 h2 => ⟨h2.1.trans h1.1, h2.2.trans h1.2⟩) hkb (Below.refl _ _) (fun _ => rfl)
        (RndI w (some ⟨b, off, none⟩) n c now since D V b2 (W.heap.size + 1)) (fun _ _ _ => False) (rndI_own (by omega)) (fun _ s A B row h _ _ => h.elim) ⟨none, 0, _, _, _, HI0.out, fun i hi => absurd hi (Nat.not_lt_zero _)⟩
        (fun x a' U => ∃ Bx, Blk U Bx #[.int .i64 (D x.1).kind, .string (D x.1).text, .slice (L x.1).nA (D x.1).nn (L x.1).nc, .slice (L x.1).kA (D x.1).kn (L x.1).kc, .int .i64 (D x.1).turn] 38 ∧ a' = { tmps := #[.agg #[.slice (some ⟨b, off, none⟩) n c, .int .i64 now], .int .i64 since, .pointer (some ⟨w.heap.size, 0, none⟩), undef, .pointer (some ⟨w.heap.size + 1, 0, none⟩), .bool false, .pointer (some ⟨V, 0, none⟩), .int .i64 (x.1 : Nat), .pointer (some ⟨Bx, 0, none⟩), .agg #[.slice (some ⟨b, off, none⟩) n c, .int .i64 now], .bool true, .bool false, .bool false, .int .i64 since, .bool false, .bool false, .bool false, .int .i64 since, .pointer (some ⟨w.heap.size, 1, none⟩), .int .i64 now, .bool false, .bool false, undef, .int .i64 since, .pointer (some ⟨w.heap.size, 1, none⟩), .int .i64 now, .agg #[.slice (some ⟨b, off, none⟩) n c, .int .i64 now], .int .u16 (bvv (fun i => (D i).kind != 0) n : Nat), .pointer (some ⟨w.heap.size, 0, none⟩), .slice (some ⟨b, off, none⟩) n c, .int .i64 (n : Nat), .slice (some ⟨b2, 0, none⟩) n n, .agg #[.int .i64 since, .int .i64 now, .slice (some ⟨b2, 0, none⟩) n n, .slice none 0 0], .agg #[.slice (some ⟨b, off, none⟩) n c, .int .i64 now], .int .i64 since, .func (.func 51) #[] #[.pointer (some ⟨W.heap.size, 0, none⟩), .pointer (some ⟨W.heap.size + 1, 0, none⟩)], .int .i64 (x.1 : Nat), .agg #[.int .i64 (D x.1).kind, .string (D x.1).text, .slice (L x.1).nA (D x.1).nn (L x.1).nc, .slice (L x.1).kA (D x.1).kn (L x.1).kc, .int .i64 (D x.1).turn], undef, undef, undef, undef, undef, undef, undef, undef, undef, undef], defers := [] }) ?_ ?assign ?body ?done ?stop
      case assign =>
        rintro l pre x U K hi hK
        dsimp only [ndV]
        gi_wp2
        exact hK _ _ ((KeepsOthers.alloc _ _).from _) ⟨blk_alloc_lt _ _ _ (hi.choose_spec.choose_spec.choose_spec.choose_spec.choose_spec.1.lt _ rfl), blk_alloc_lt _ _ _ (by have := hi.choose_spec.choose_spec.choose_spec.choose_spec.choose_spec.1.bel.size; omega)⟩ (by
          obtain ⟨ia, ic, O, E, M, h1, h2⟩ := hi
          exact ⟨ia, ic, O, E, M, h1.below ((Below.refl _ _).alloc (Nat.le_refl _) _), h2⟩) ⟨U.heap.size, Blk.new _ _ _, rfl⟩
      case body =>
        rintro l pre x a' U hl ⟨rr, hrr⟩ ⟨ia, ic, O, E, M, hI, hsel⟩ ⟨Bx, hX, rfl⟩ hlt
        have v3 : U.cell? ⟨V, 3, none⟩ = some (.slice ia pre.length ic) := hI.v.cell 3
        have x0 : U.cell? ⟨Bx, 0, none⟩ = some (.int .i64 (D x.1).kind) := hX.cell 0
        have x1 : U.cell? ⟨Bx, 1, none⟩ = some (.string (D x.1).text) := hX.cell 1
        have x2 : U.cell? ⟨Bx, 2, none⟩ = some (.slice (L x.1).nA (D x.1).nn (L x.1).nc) := hX.cell 2
        have x3 : U.cell? ⟨Bx, 3, none⟩ = some (.slice (L x.1).kA (D x.1).kn (L x.1).kc) := hX.cell 3
        have x4 : U.cell? ⟨Bx, 4, none⟩ = some (.int .i64 (D x.1).turn) := hX.cell 4
        have hp10 : pre.length < 10 := by
          have h1 : (selT D since n).length ≤ n := by have := List.length_filter_le (fun i => decide (since < (D i).turn)) (List.range n); simpa [selT] using this
          omega
        have HU : Hid (IOf w (fun j => j = W.heap.size + 1) (some ⟨b, off, none⟩) n c now since (fun i => (D i).kind != 0) V (some ⟨b2, 0, none⟩) n pre.length ia ic O E M U) := hI
        have HX : Hid (Blk U Bx #[.int .i64 (D x.1).kind, .string (D x.1).text, .slice (L x.1).nA (D x.1).nn (L x.1).nc, .slice (L x.1).kA (D x.1).kn (L x.1).kc, .int .i64 (D x.1).turn] 38) := hX
        have hVU := hI.v.lt
        have hBU := hX.lt
        clear hI hX hrr hlt
        gi_wp2
        refine wpIn_region_peel (fun W' => W'.cell? ⟨V, 3, none⟩ = some (.slice ia pre.length ic) ∧ W'.cell? ⟨Bx, 0, none⟩ = some (.int .i64 (D x.1).kind) ∧ W'.cell? ⟨Bx, 1, none⟩ = some (.string (D x.1).text) ∧ W'.cell? ⟨Bx, 2, none⟩ = some (.slice (L x.1).nA (D x.1).nn (L x.1).nc) ∧ W'.cell? ⟨Bx, 3, none⟩ = some (.slice (L x.1).kA (D x.1).kn (L x.1).kc) ∧ W'.cell? ⟨Bx, 4, none⟩ = some (.int .i64 (D x.1).turn)) _ (by kernel_rfl) (by kernel_rfl) (fun ⟨_, _, h⟩ => h) rfl (by kernel_rfl) ?_ (fun hHeld => ?_)
        · exact ⟨v3, x0, x1, x2, x3, x4⟩
        simp only [List.pop_toArray, List.dropLast, List.size_toArray, List.length_cons, List.length_nil, Nat.reduceAdd, Nat.reduceSub, List.getElem_toArray, List.getElem_cons_succ, List.getElem_cons_zero]
        refine peel_take (i := 0) (oi := ?oi0c) (v := ?v0c) (fun _ _ _ _ _ h => h) hHeld ?hi0c (by kernel_rfl) (by kernel_rfl) (by kernel_rfl) ?hw0c ?hy0c ?rest0c
        case hi0c =>
          simp only [List.getElem?_toArray, List.getElem?_cons_zero]
          rfl
        case hw0c => rfl
        case hy0c =>
          intro w hSw
          obtain ⟨s0, s1, s2, s3, s4, s5⟩ := hSw
          go_simp
          try with_reducible rfl
        try simp only [Act.put, List.setIfInBounds_toArray, List.set_cons_zero, List.set_cons_succ]
        refine peel_take (i := 1) (oi := ?oi1c) (v := ?v1c) (fun _ _ _ _ _ h => h) hHeld ?hi1c (by kernel_rfl) (by kernel_rfl) (by kernel_rfl) ?hw1c ?hy1c ?rest1c
        case hi1c =>
          simp only [List.getElem?_toArray, List.getElem?_cons_succ, List.getElem?_cons_zero]
          rfl
        case hw1c => rfl
        case hy1c =>
          intro w hSw
          obtain ⟨s0, s1, s2, s3, s4, s5⟩ := hSw
          go_simp
          try with_reducible rfl
        try simp only [Act.put, List.setIfInBounds_toArray, List.set_cons_zero, List.set_cons_succ]
        refine peel_take (i := 2) (oi := ?oi2c) (v := ?v2c) (fun _ _ _ _ _ h => h) hHeld ?hi2c (by kernel_rfl) (by kernel_rfl) (by kernel_rfl) ?hw2c ?hy2c ?rest2c
        case hi2c =>
          simp only [List.getElem?_toArray, List.getElem?_cons_succ, List.getElem?_cons_zero]
          rfl
        case hw2c => rfl
        case hy2c =>
          intro w hSw
          obtain ⟨s0, s1, s2, s3, s4, s5⟩ := hSw
          go_simp
          try with_reducible rfl
        try simp only [Act.put, List.setIfInBounds_toArray, List.set_cons_zero, List.set_cons_succ]
        refine peel_take (i := 3) (oi := ?oi3c) (v := ?v3c) (fun _ _ _ _ _ h => h) hHeld ?hi3c (by kernel_rfl) (by kernel_rfl) (by kernel_rfl) ?hw3c ?hy3c ?rest3c
        case hi3c =>
          simp only [List.getElem?_toArray, List.getElem?_cons_succ, List.getElem?_cons_zero]
          rfl
        case hw3c => rfl
        case hy3c =>
          intro w hSw
          obtain ⟨s0, s1, s2, s3, s4, s5⟩ := hSw
          go_simp
          try with_reducible rfl
        try simp only [Act.put, List.setIfInBounds_toArray, List.set_cons_zero, List.set_cons_succ]
        refine wpAnyH_ready (rs := [4]) (by kernel_rfl) (by simp) ?_
        refine AllReadyH.cons (o := ?o4c) ?ho4c (fun K hK => ?st4c) AllReadyH.nil
        case ho4c =>
          simp only [List.getElem?_toArray, List.getElem?_cons_succ, List.getElem?_cons_zero]
          rfl
        go_simp
        have hNd : NdIn U.drew (D x.1) (L x.1) := by
          obtain ⟨b', o', _, _, hc'⟩ := (hS.below (Nat.le_refl _) (HU.out.bel.trans ((Below.refl U.heap.size U).drew.mono (by have := HU.out.bel.size; omega)))).at x.2.1
          exact (hc' x.1 x.2.1).2.2.2.2.2
        have hsm := size_le_sizeTo D n x.1 x.2.1
        unfold Nd.size at hsm
        refine (copyNode_any (D x.1) (L x.1) U.drew hNd (by omega) (by omega) (by omega) (fun i hi => by have := size_le_sumTo (D x.1).names (D x.1).nn i hi; omega)).mono ?_
        clear hNd hsm
        rintro e w4 ⟨l4, rfl, hN0⟩
        have hN : NewNn U (D x.1) l4 w4 := ⟨(Below.refl _ U).drew.trans hN0.bel, hN0.names, hN0.kids, hN0.apart⟩
        have hI4 := HU.out.below hN.bel
        have hX4 := HX.out.below hN.bel hBU
        refine hK.out _ _ ⟨hI4.v.cell 3, hX4.cell 0, hX4.cell 1, hX4.cell 2, hX4.cell 3, hX4.cell 4⟩ (fun hHeld => ?_)
        dsimp only [ndV]
        clear hK K
        try simp only [Act.put, List.setIfInBounds_toArray, List.set_cons_zero, List.set_cons_succ]
        refine wpAnyH_ready (rs := [5]) (by kernel_rfl) (by simp) ?_
        refine AllReadyH.cons (o := ?o5c) ?ho5c (fun K hK => ?st5c) AllReadyH.nil
        case ho5c =>
          simp only [List.getElem?_toArray, List.getElem?_cons_succ, List.getElem?_cons_zero]
          rfl
        go_simp
        refine hK.out _ _ hHeld (fun hHeld => ?_)
        clear hK K
        try simp only [Act.put, List.setIfInBounds_toArray, List.set_cons_zero, List.set_cons_succ]
        refine wpAnyH_ready (rs := [6]) (by kernel_rfl) (by simp) ?_
        refine AllReadyH.cons (o := ?o6c) ?ho6c (fun K hK => ?st6c) AllReadyH.nil
        case ho6c =>
          simp only [List.getElem?_toArray, List.getElem?_cons_succ, List.getElem?_cons_zero]
          rfl
        go_simp
        have hN6 := hN.alloc (.cells #[.int .i64 (x.1 : Nat), .int .i64 (D x.1).kind, .string (D x.1).text, .slice l4.nA (D x.1).nn l4.nc, .slice l4.kA (D x.1).kn l4.kc, .int .i64 (D x.1).turn] 40)
        have hI6 := HU.out.below hN6.bel
        have hX6 := HX.out.below hN6.bel hBU
        have hs6 := hI6.v.lt
        have hs7 := hI6.bel.size
        refine hK.out _ _ ⟨hI6.v.cell 3, hX6.cell 0, hX6.cell 1, hX6.cell 2, hX6.cell 3, hX6.cell 4⟩ (fun hHeld => ?_)
        clear hK K
        try simp only [Act.put, List.setIfInBounds_toArray, List.set_cons_zero, List.set_cons_succ]
        refine wpAnyH_ready (rs := [7]) (by kernel_rfl) (by simp) ?_
        refine AllReadyH.cons (o := ?o7c) ?ho7c (fun K hK => ?st7c) AllReadyH.nil
        case ho7c =>
          simp only [List.getElem?_toArray, List.getElem?_cons_succ, List.getElem?_cons_zero]
          rfl
        refine step_of (by rfl) (wp_append_src (.tmp 39) (.tmp 44) 29 rfl (w.heap.size + 2) 40 y0 (.agg #[.int .i64 0, .int .i64 0, .string ByteArray.empty, .slice none 0 0, .slice none 0 0, .int .i64 0]) 6 88 Try.underlying29 hy hy0 hy1 hy2 rfl (by decide) (.slice ia pre.length ic) pre.length _ (by rfl) hI6.od.ownI _ 1 _ (by rfl) (src_item w4 (x.1 : Nat) (D x.1) l4) (by unfold maxLen; omega) (by omega) (by omega) ?_)
        intro v' w7 hown hgrow _ hat
        obtain ⟨g', cap', rfl⟩ := ownsRow_succ hown
        have hV7 := blk_grown hI6.v hgrow (fun e => (hI6.off 1 V (by omega) (by simpa [valD] using e)).2 rfl)
        have hX7 := blk_grown hX6 hgrow (own_ne hI6.od.ownI hX6 (by decide))
        have v7 : w7.cell? ⟨V, 3, none⟩ = some (.slice ia pre.length ic) := hV7.cell 3
        have f7 := hV7.frozen 3
        have HFIN : Hid _ := rnd_step (B := W0.heap.size) (b0 := b) HU.out hsel hN6 hgrow hown (by
          rcases hat with e | e
          · left; simpa [Value.ownBlock] using e.symm
          · right
            simp [Value.ownBlock] at e
            simp
            omega) (by omega) hbl
        refine hK.out _ _ ⟨v7, hX7.cell 0, hX7.cell 1, hX7.cell 2, hX7.cell 3, hX7.cell 4⟩ (fun hHeld => ?_)
        clear hK K
        try simp only [Act.put, List.setIfInBounds_toArray, List.set_cons_zero, List.set_cons_succ]
        clear hown hgrow hat hI6 hX6 hI4 hX4 hN6 hN hN0 hV7 hX7 hs6 hs7
        refine wpAnyH_ready (rs := [8]) (by kernel_rfl) (by simp) ?_
        refine AllReadyH.cons (o := ?o8c) ?ho8c (fun K hK => ?st8c) AllReadyH.nil
        case ho8c =>
          simp only [List.getElem?_toArray, List.getElem?_cons_succ, List.getElem?_cons_zero]
          rfl
        go_simp
        refine hK.out _ _ hHeld (fun hHeld => ?_)
        clear hK K
        try simp only [Act.put, List.setIfInBounds_toArray, List.set_cons_zero, List.set_cons_succ]
        refine wpAnyH_done (by kernel_rfl) ?_ _
        show Oper.wp _ _ _ _ _ _
        go_simp
        exact HFIN.out
      case done =>
        rintro DD ys U hDD hys ⟨ia, ic, O, E, M, hI, hsel⟩ hK
        have v0 : U.cell? ⟨V, 0, none⟩ = some (.int .i64 since) := hI.v.cell 0
        have v1 : U.cell? ⟨V, 1, none⟩ = some (.int .i64 now) := hI.v.cell 1
        have v2 : U.cell? ⟨V, 2, none⟩ = some (.slice (some ⟨b2, 0, none⟩) n n) := hI.v.cell 2
        have v3 : U.cell? ⟨V, 3, none⟩ = some (.slice ia ys.length ic) := hI.v.cell 3
        have r0 : U.cell? ⟨w.heap.size + 1, 0, none⟩ = some (.int .i64 0) := hI.r.cell 0
        have r1 : U.cell? ⟨w.heap.size + 1, 1, none⟩ = some (.int .i64 0) := hI.r.cell 1
        have r2 : U.cell? ⟨w.heap.size + 1, 2, none⟩ = some (.slice none 0 0) := hI.r.cell 2
        have r3 : U.cell? ⟨w.heap.size + 1, 3, none⟩ = some (.slice none 0 0) := hI.r.cell 3
        have g0 := hI.r.frozen 0
        have g1 := hI.r.frozen 1
        have g2 := hI.r.frozen 2
        have g3 := hI.r.frozen 3
        have HF : Hid _ := rnd_done hI hK (by omega)
        have HY : Hid (ys.map (·.1) = selTo D since n ∧ ∀ i, i < ys.length → O i = ((ys.map (·.1)).getD i 0 : Nat) ∧ E i = D ((ys.map (·.1)).getD i 0)) := ⟨hys.trans (sel_same HG.out hs0), hsel⟩
        clear hI hK hys hsel hkb
        gi_wp2
        refine ⟨by simp, .inl ⟨_, _, rfl, run_takeDeferred HF.out.1, ?_⟩⟩
        have q0 := HF.out.2.1.cell 0
        have q1 := HF.out.2.1.cell 1
        have q2 := HF.out.2.1.cell 2
        have q3 := HF.out.2.1.cell 3
        simp at q0 q1 q2 q3
        refine ⟨.tuple #[.agg #[.int .i64 since, .int .i64 now, .slice (some ⟨b2, 0, none⟩) n n, .slice ia ys.length ic], .bool true], by simp [results, Try.results8, go_sem, q0, q1, q2, q3], ?_⟩
        refine ⟨HF.out.2.2.1, Or.inr ⟨HG.out, hs0, hs1', _, _, _, _, _, O, E, M, rfl, HF.out.2.2.2, ?_, ?_⟩⟩
        · rw [← HY.out.1, List.length_map]
        · rw [← HY.out.1]
          exact HY.out.2
      case stop =>
        rintro DD c' pre U hDD hpre h
        exact h.elim
      · rintro x a' _ A A' row ⟨Bx, hB, rfl⟩ hg hr
        exact ⟨Bx, blk_grown hB hg (fun e => by
          obtain ⟨_, o, ho, hc'⟩ := hr Bx e
          rw [hB] at ho
          cases ho
          cases hc'), rfl⟩
  · have HN : Hid (¬ (TreeGood n D now ∧ 0 ≤ since ∧ since ≤ now)) := fun h => hgo ⟨hok.2 h.1, h.2⟩
    have hcase : ok = false ∨ (ok = true ∧ since < 0) ∨ (ok = true ∧ 0 ≤ since ∧ now < since) := by
      rcases Bool.eq_false_or_eq_true ok with h | h
      · right
        by_cases h1 : since < 0
        · exact Or.inl ⟨h, h1⟩
        · exact Or.inr ⟨h, by omega, Decidable.byContradiction fun h2 => hgo ⟨h, by omega, by omega⟩⟩
      · exact Or.inl h
    have HE : Hid _ := dump_no H1.out.2
    clear hgo hok H1
    have fin : ∀ W, Blk W (w.heap.size + 1) #[.int .i64 0, .int .i64 0, .slice none 0 0, .slice none 0 0] 31 ∧ Below w.heap.size w W → W.cell? ⟨w.heap.size + 1, 0, none⟩ = some (.int .i64 0) ∧ W.cell? ⟨w.heap.size + 1, 1, none⟩ = some (.int .i64 0) ∧ W.cell? ⟨w.heap.size + 1, 2, none⟩ = some (.slice none 0 0) ∧ W.cell? ⟨w.heap.size + 1, 3, none⟩ = some (.slice none 0 0) := fun W h => ⟨h.1.cell 0, h.1.cell 1, h.1.cell 2, h.1.cell 3⟩
    have HF : Hid _ := fin
    clear fin
    rcases hcase with rfl | ⟨rfl, h1⟩ | ⟨rfl, h1, h2⟩
    · gi_wp2
      obtain ⟨q0, q1, q2, q3⟩ := HF.out _ HE.out
      refine ⟨.tuple #[.agg #[.int .i64 0, .int .i64 0, .slice none 0 0, .slice none 0 0], .bool false], by simp [results, Try.results8, go_sem, q0, q1, q2, q3], ?_⟩
      exact ⟨HE.out.2, Or.inl ⟨HN.out, rfl⟩⟩
    · have hb1 : decide (since < 0) = true := by simp; omega
      gi_wp2
      obtain ⟨q0, q1, q2, q3⟩ := HF.out _ HE.out
      refine ⟨.tuple #[.agg #[.int .i64 0, .int .i64 0, .slice none 0 0, .slice none 0 0], .bool false], by simp [results, Try.results8, go_sem, q0, q1, q2, q3], ?_⟩
      exact ⟨HE.out.2, Or.inl ⟨HN.out, rfl⟩⟩
    · have hb1 : decide (since < 0) = false := by simp; omega
      have hb2 : decide (now < since) = true := by simp; omega
      gi_wp2
      obtain ⟨q0, q1, q2, q3⟩ := HF.out _ HE.out
      refine ⟨.tuple #[.agg #[.int .i64 0, .int .i64 0, .slice none 0 0, .slice none 0 0], .bool false], by simp [results, Try.results8, go_sem, q0, q1, q2, q3], ?_⟩
      exact ⟨HE.out.2, Or.inl ⟨HN.out, rfl⟩⟩
end Go.Proofs.Ytoblndhmkehoaaa

/-
  Trees, and what is kept of them, in variables of a law's. Plain facts.
-/
namespace Go.Proofs.Ytoblndhmkehoaaa
open Go.RowKit Go.Deep
set_option linter.unusedVariables false
set_option linter.unusedSimpArgs false

/-- The cells of what is kept, in a variable. -/
def dV (d : Dp) (l : DLoc) : Array Value := #[.int .i64 d.since, .int .i64 d.date, .slice l.lA d.ln l.lc, .slice l.iA d.m l.ic]

theorem dV_cells {W : World} {b : Nat} {d : Dp} {l : DLoc} {t : TypeId} (h : Blk W b (dV d l) t) :
    W.cell? ⟨b, 0, none⟩ = some (.int .i64 d.since) ∧ W.cell? ⟨b, 1, none⟩ = some (.int .i64 d.date) ∧ W.cell? ⟨b, 2, none⟩ = some (.slice l.lA d.ln l.lc) ∧ W.cell? ⟨b, 3, none⟩ = some (.slice l.iA d.m l.ic) := ⟨h.cell 0, h.cell 1, h.cell 2, h.cell 3⟩

/-- A tree in a variable. -/
structure TVar (X : Nat) (a : Option Addr) (n c : Nat) (now : Int) (D : Nat → Nd) (L : Nat → Loc) (W : World) : Prop where
  v : Blk W X #[.slice a n c, .int .i64 now] 25
  i : IsNds W a n D L

theorem TVar.below {X : Nat} {a : Option Addr} {n c : Nat} {now : Int} {D : Nat → Nd} {L : Nat → Loc} {W W' : World} (h : TVar X a n c now D L W) (hb : Below W.heap.size W W') : TVar X a n c now D L W' := ⟨h.v.below hb h.v.lt, h.i.below (Nat.le_refl _) hb⟩
theorem TVar.cells {X : Nat} {a : Option Addr} {n c : Nat} {now : Int} {D : Nat → Nd} {L : Nat → Loc} {W : World} (h : TVar X a n c now D L W) : W.cell? ⟨X, 0, none⟩ = some (.slice a n c) ∧ W.cell? ⟨X, 1, none⟩ = some (.int .i64 now) := ⟨h.v.cell 0, h.v.cell 1⟩

/-- Something kept in a variable. -/
structure DVar (X : Nat) (d : Dp) (l : DLoc) (W : World) : Prop where
  v : Blk W X (dV d l) 31
  i : DpIn W d l

theorem DVar.below {X : Nat} {d : Dp} {l : DLoc} {W W' : World} (h : DVar X d l W) (hb : Below W.heap.size W W') : DVar X d l W' := ⟨h.v.below hb h.v.lt, h.i.below (Nat.le_refl _) hb⟩
theorem DVar.cells {X : Nat} {d : Dp} {l : DLoc} {W : World} (h : DVar X d l W) : W.cell? ⟨X, 0, none⟩ = some (.int .i64 d.since) ∧ W.cell? ⟨X, 1, none⟩ = some (.int .i64 d.date) ∧ W.cell? ⟨X, 2, none⟩ = some (.slice l.lA d.ln l.lc) ∧ W.cell? ⟨X, 3, none⟩ = some (.slice l.iA d.m l.ic) := dV_cells h.v

/-- It was just laid. -/
theorem DVar.new {w1 W : World} {d : Dp} {l : DLoc} (h : DpIn w1 d l) (hv : Blk W w1.heap.size (dV d l) 31) (hb : Below w1.heap.size w1 W) : DVar w1.heap.size d l W := ⟨hv, h.below (Nat.le_refl _) hb⟩
end Go.Proofs.Ytoblndhmkehoaaa

/-
  What PathOk of the program and PathOk of the specification answer at every list of texts: whether it has at most 5, each of them a name; neither turns the world.
-/
namespace Go.Proofs.Ytoblndhmkehoaaa
open Go.RowKit
set_option linter.unusedVariables false

def namesOk (n : Nat) (S : Nat → ByteArray) : Bool := (List.range n).all fun i => nameOk (S i).data.toList
def pathOk (n : Nat) (S : Nat → ByteArray) : Bool := namesOk n S && decide (n ≤ 5)

theorem namesOk_succ (k : Nat) (S : Nat → ByteArray) (h : namesOk k S = true) (hk : nameOk (S k).data.toList = true) : namesOk (k + 1) S = true := by
  unfold namesOk at *
  rw [List.range_succ, List.all_append, h]; simpa using hk

theorem namesOk_not (n k : Nat) (S : Nat → ByteArray) (hk : k < n) (h : nameOk (S k).data.toList = false) : namesOk n S = false := by
  rw [Bool.eq_false_iff]
  intro ha
  have := List.all_eq_true.1 ha k (by simpa using hk)
  simp [this] at h

theorem pathOk_not (n k : Nat) (S : Nat → ByteArray) (hk : k < n) (h : nameOk (S k).data.toList = false) : false = pathOk n S := by
  unfold pathOk; rw [namesOk_not n k S hk h]; rfl

theorem pathOk_end (n : Nat) (S : Nat → ByteArray) (h : namesOk n S = true) : decide ((n : Int) ≤ 5) = pathOk n S := by
  unfold pathOk; rw [h]; simp; omega
end Go.Proofs.Ytoblndhmkehoaaa
