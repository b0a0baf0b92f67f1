/-
  Entries of a book as they lie in memory: plain facts.
-/
import Derived.Test.YtkdfimpeghhboaaBlk
import Derived.Maps.AppendAt
import Derived.WalkSmall
import Derived.Laws.AppendOwn
import Derived.OwnWalk
namespace Go.Proofs.Ytkdfimpeghhboaa
open Go.RowKit Go.Deep
set_option linter.unusedVariables false

theorem infoEnt : (Try.prog.info? 30).map (fun i => (i.zero, i.size, i.bytes)) = some (some (.agg #[.int .i64 0, .int .i64 0]), 2, 16) := by kernel_rfl

/-- An entry: a level and a turn. -/
structure En where
  lev : Int
  date : Int
deriving DecidableEq

instance : Inhabited En := ⟨⟨0, 0⟩⟩

def enV (e : En) : Value := .agg #[.int .i64 e.lev, .int .i64 e.date]

/-- n entries lie in memory from the address on, two cells each. -/
def IsEns (w : World) (a : Option Addr) (n : Nat) (E : Nat → En) : Prop :=
  n = 0 ∨ ∃ b off, a = some ⟨b, off, none⟩ ∧ b < w.heap.size ∧ ∀ i, i < n → w.cell? ⟨b, off + i * 2, none⟩ = some (.int .i64 (E i).lev) ∧ w.cell? ⟨b, off + i * 2 + 1, none⟩ = some (.int .i64 (E i).date)

theorem IsEns.at {w : World} {a : Option Addr} {n : Nat} {E : Nat → En} (h : IsEns w a n E) {k : Nat} (hk : k < n) :
    ∃ b off, a = some ⟨b, off, none⟩ ∧ b < w.heap.size ∧ ∀ i, i < n → w.cell? ⟨b, off + i * 2, none⟩ = some (.int .i64 (E i).lev) ∧ w.cell? ⟨b, off + i * 2 + 1, none⟩ = some (.int .i64 (E i).date) := by
  rcases h with h | h
  · omega
  · exact h

theorem IsEns.below {w w' : World} {a : Option Addr} {n : Nat} {E : Nat → En} (h : IsEns w a n E) {B : Nat} (hB : w.heap.size ≤ B) (hb : Below B w w') : IsEns w' a n E := by
  rcases h with h | ⟨b, off, ha, hlt, hc⟩
  · exact Or.inl h
  · exact Or.inr ⟨b, off, ha, by have := hb.size; omega, fun i hi => ⟨by rw [hb.cell (p := ⟨b, off + i * 2, none⟩) (by show b < B; omega)]; exact (hc i hi).1, by rw [hb.cell (p := ⟨b, off + i * 2 + 1, none⟩) (by show b < B; omega)]; exact (hc i hi).2⟩⟩

theorem IsEns.congr {w : World} {a : Option Addr} {n : Nat} {E F : Nat → En} (h : IsEns w a n E) (he : ∀ i, i < n → E i = F i) : IsEns w a n F := by
  rcases h with h | ⟨b, off, ha, hlt, hc⟩
  · exact Or.inl h
  · exact Or.inr ⟨b, off, ha, hlt, fun i hi => by rw [← he i hi]; exact hc i hi⟩

theorem IsEns.of_blocks {W W' : World} {a : Option Addr} {k : Nat} {E : Nat → En} (h : IsEns W a k E) (hs : W.heap.size ≤ W'.heap.size) (hb : ∀ b o x, a = some ⟨b, o, x⟩ → W'.heap[b]? = W.heap[b]?) : IsEns W' a k E := by
  rcases h with h | ⟨b, off, rfl, hlt, hc⟩
  · exact Or.inl h
  · exact Or.inr ⟨b, off, rfl, by omega, fun i hi => ⟨by rw [← (hc i hi).1]; exact World.cell?_of_block (hb b off none rfl), by rw [← (hc i hi).2]; exact World.cell?_of_block (hb b off none rfl)⟩⟩

/-- Two are one. -/
def sameE (d e : En) : Bool := d.lev == e.lev && d.date == e.date
theorem sameE_iff (d e : En) : sameE d e = true ↔ d = e := by
  obtain ⟨a, b⟩ := d
  obtain ⟨x, y⟩ := e
  simp [sameE]

def eqEs (n : Nat) (E F : Nat → En) : Bool := (List.range n).all fun i => sameE (E i) (F i)

theorem eqEs_succ (k : Nat) (E F : Nat → En) (h : eqEs k E F = true) (h1 : sameE (E k) (F k) = true) : eqEs (k + 1) E F = true := by
  unfold eqEs at *
  rw [List.range_succ, List.all_append, h]; simp [h1]

theorem eqEs_not (n k : Nat) (E F : Nat → En) (hk : k < n) (h : sameE (E k) (F k) = false) : false = eqEs n E F := by
  symm
  rw [Bool.eq_false_iff]
  intro ha
  have := List.all_eq_true.1 ha k (by simpa using hk)
  rw [h] at this; cases this

theorem eqEs_self (n : Nat) (E F : Nat → En) (h : ∀ i, i < n → E i = F i) : eqEs n E F = true := by
  unfold eqEs
  rw [List.all_eq_true]
  intro i hi
  rw [h i (by simpa using hi)]
  exact (sameE_iff _ _).2 rfl

theorem eqEs_iff {n : Nat} {E F : Nat → En} : eqEs n E F = true ↔ ∀ i, i < n → E i = F i := by
  refine ⟨fun h i hi => ?_, eqEs_self n E F⟩
  unfold eqEs at h
  exact (sameE_iff _ _).1 (List.all_eq_true.1 h i (by simpa using hi))

/-- Entries as cells. -/
def entv : List En → List Value
  | [] => []
  | e :: l => .int .i64 e.lev :: .int .i64 e.date :: entv l

theorem entv_len : ∀ l : List En, (entv l).length = l.length * 2
  | [] => rfl
  | e :: l => by rw [entv, List.length_cons, List.length_cons, entv_len l, List.length_cons]; omega

theorem entv_app : ∀ l m : List En, entv (l ++ m) = entv l ++ entv m
  | [], m => rfl
  | e :: l, m => by rw [List.cons_append, entv, entv, entv_app l m]; rfl

theorem entv_one : ∀ l : List En, ∀ u ∈ entv l, u.oneCell' = true
  | [], u, h => by simp [entv] at h
  | e :: l, u, h => by
    simp only [entv, List.mem_cons] at h
    rcases h with rfl | rfl | h
    · rfl
    · rfl
    · exact entv_one l u h

theorem entv_get : ∀ (l : List En) (i : Nat), i < l.length → (entv l)[i * 2]? = some (.int .i64 (l.getD i default).lev) ∧ (entv l)[i * 2 + 1]? = some (.int .i64 (l.getD i default).date)
  | [], i, h => by simp at h
  | e :: l, 0, h => by simp [entv]
  | e :: l, i + 1, h => by
    have := entv_get l i (by simpa using h)
    have h2 : (i + 1) * 2 = i * 2 + 1 + 1 := by omega
    rw [h2, entv]
    simpa using this

/-- The first n as a list. -/
def enl (n : Nat) (E : Nat → En) : List En := (List.range n).map E
theorem enl_len (n : Nat) (E : Nat → En) : (enl n E).length = n := by simp [enl]
theorem enl_getD (n : Nat) (E : Nat → En) (i : Nat) (h : i < n) : (enl n E).getD i default = E i := by simp [enl, h]
theorem enl_succ (n : Nat) (E : Nat → En) : enl (n + 1) E = enl n E ++ [E n] := by simp [enl, List.range_succ]

theorem eowns_block {w : World} {B : Nat} {e : TypeId} {size n : Nat} {xs : List Value} {v : Value} (h : w.ownsRow B e size v n xs) {b : Nat} (hb : v.ownBlock = some b) : B ≤ b ∧ b < w.heap.size := h.lt b hb

theorem eowns_same {w w' : World} {B : Nat} {e : TypeId} {size n : Nat} {xs : List Value} {v : Value} (h : w.ownsRow B e size v n xs) (hw : ∀ b, v.ownBlock = some b → w'.heap[b]? = w.heap[b]?) : w'.ownsRow B e size v n xs := by
  refine ⟨h.1, ?_⟩
  rcases h.2 with h0 | ⟨g, cap, cur, hv, hB, hg, hr⟩
  · exact Or.inl h0
  · exact Or.inr ⟨g, cap, cur, hv, hB, (hw g (by rw [hv]; rfl)).trans hg, hr⟩

/-- A row of entries of one's own. -/
def OwnE (w : World) (B : Nat) (v : Value) (l : List En) : Prop := w.ownsRow B 30 2 v l.length (entv l)

theorem OwnE.below {w w' : World} {B : Nat} {v : Value} {l : List En} (h : OwnE w B v l) (hb : Below w.heap.size w w') : OwnE w' B v l :=
  eowns_same h fun b e => hb.block b (eowns_block h e).2

theorem OwnE.lower {w : World} {B B' : Nat} {v : Value} {l : List En} (h : OwnE w B v l) (hB : B' ≤ B) : OwnE w B' v l := by
  refine ⟨h.1, ?_⟩
  rcases h.2 with h0 | ⟨g, cap, cur, hv, hb, hr⟩
  · exact Or.inl h0
  · exact Or.inr ⟨g, cap, cur, hv, by omega, hr⟩

/-- What it is told by a reader. -/
theorem OwnE.ens {w : World} {B : Nat} {v : Value} {l : List En} (h : OwnE w B v l) : ∃ a c, v = .slice a l.length c ∧ IsEns w a l.length (fun i => l.getD i default) ∧ l.length ≤ maxLen := by
  rcases h.2 with ⟨rfl, h0⟩ | ⟨g, cap, cur, rfl, hB, hg, hn, hm, hsz, htake⟩
  · exact ⟨none, 0, by rw [h0], Or.inl h0, by rw [h0]; unfold maxLen; omega⟩
  · refine ⟨_, _, rfl, Or.inr ⟨g, 0, rfl, (Array.getElem?_eq_some_iff.1 hg).1, fun i hi => ?_⟩, by omega⟩
    have h2 := entv_get l i hi
    rw [← htake, List.getElem?_take_of_lt (by omega), List.getElem?_take_of_lt (by omega)] at h2
    simp only [World.cell?, hg, Nat.zero_add]
    simpa using h2

theorem ent_new_block (w : World) (o : Obj) : (w.alloc o).heap[w.heap.size]? = some o := by
  show (w.heap.push o)[w.heap.size]? = some o
  simp

theorem entv_cells (w : World) (L : List En) : ∀ j u, (entv L)[j]? = some u → (w.alloc (.cells (entv L).toArray 30)).cell? ((⟨w.heap.size, 0, none⟩ : Addr).add j) = some u := by
  intro j u h
  rw [show (⟨w.heap.size, 0, none⟩ : Addr).add j = ⟨w.heap.size, 0 + j, none⟩ by unfold Addr.add; split <;> simp_all]
  simp only [World.cell?, ent_new_block]
  simpa using h

theorem OwnE.alloc {w : World} {B : Nat} {v : Value} {l : List En} (h : OwnE w B v l) (o : Obj) : OwnE (w.alloc o) B v l := World.ownsRow.alloc h o

/-- An empty row of its own. -/
theorem OwnE.empty (w : World) : OwnE (w.alloc (.cells #[] 30)) w.heap.size (.slice (some ⟨w.heap.size, 0, none⟩) 0 0) [] :=
  ⟨rfl, Or.inr ⟨w.heap.size, 0, #[], rfl, Nat.le_refl _, ent_new_block _ _, Nat.le_refl _, by unfold maxLen; omega, rfl, rfl⟩⟩
theorem OwnE.nil (w : World) (B : Nat) : OwnE w B (.slice none 0 0) [] := World.ownsRow_nil _ _ _ _

/-- What an append to a row of one's own leaves. -/
theorem OwnE.app {w0 w w2 : World} {B : Nat} {v v' : Value} {L M : List En} {k : Nat} (hB : Below B w0 w) (hBw : B ≤ w.heap.size) (hO : OwnE w B v L) (hk : L.length + M.length = k)
    (hown : w2.ownsRow B 30 2 v' k (entv L ++ entv M)) (hgrow : w.grownBy w2 v.ownBlock) : OwnE w2 B v' (L ++ M) ∧ Below B w0 w2 ∧ B ≤ w2.heap.size := by
  refine ⟨?_, hB.grown hgrow hBw (fun g hg => (eowns_block hO hg).1), Nat.le_trans hBw hgrow.size⟩
  unfold OwnE
  rw [List.length_append, hk, entv_app]
  exact hown

theorem OwnE.lies {w : World} {B n : Nat} {b : Nat} {E : Nat → En} (h : OwnE w B (.slice (some ⟨b, 0, none⟩) n n) (enl n E)) : IsEns w (some ⟨b, 0, none⟩) n E := by
  obtain ⟨a', c', hv, hI, _⟩ := h.ens
  rw [enl_len] at hv hI
  cases hv
  exact hI.congr fun i hi => enl_getD n E i hi
end Go.Proofs.Ytkdfimpeghhboaa
