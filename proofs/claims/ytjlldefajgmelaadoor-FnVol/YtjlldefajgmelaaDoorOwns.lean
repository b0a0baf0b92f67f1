/-
  Lists of texts in a row of one's own: what an append to one leaves.
-/
import Derived.Test.YtjlldefajgmelaaDoorStrsBase
import Derived.WalkSmall
import Derived.Laws.AppendOwn
import Derived.OwnWalk
namespace Go.Proofs.YtjlldefajgmelaaDoor
open Go.RowKit
set_option linter.unusedVariables false

theorem new_block (w : World) (o : Obj) : (w.alloc o).heap[w.heap.size]? = some o := by
  show (w.heap.push o)[w.heap.size]? = some o
  simp

theorem grown_trans {a b c : World} {r : Option Nat} (h : a.grownBy b r) (k : b.grownBy c r) : a.grownBy c r :=
  ⟨k.os.trans h.os, k.tape.trans h.tape, k.output.trans h.output, Nat.le_trans h.size k.size, fun i hi hne => (k.block i (Nat.lt_of_lt_of_le hi h.size) hne).trans (h.block i hi hne)⟩

theorem grown_refl (a : World) (r : Option Nat) : a.grownBy a r := ⟨rfl, rfl, rfl, Nat.le_refl _, fun _ _ _ => rfl⟩

/-- A step that turns a row made since. -/
theorem grown_own {a b c : World} {r row : Option Nat} (h : a.grownBy b r) (k : b.grownBy c row) (hr : ∀ g, row = some g → a.heap.size ≤ g) : a.grownBy c r :=
  ⟨k.os.trans h.os, k.tape.trans h.tape, k.output.trans h.output, Nat.le_trans h.size k.size, fun i hi hne => (k.block i (Nat.lt_of_lt_of_le hi h.size) (fun e => by have := hr i e.symm; omega)).trans (h.block i hi hne)⟩

/-- A list of texts, as cells. -/
def strv (L : List ByteArray) : List Value := L.map Value.string
theorem strv_length (L : List ByteArray) : (strv L).length = L.length := by simp [strv]
theorem strv_append (L M : List ByteArray) : strv L ++ strv M = strv (L ++ M) := by simp [strv]
theorem strv_one (L : List ByteArray) : ∀ u ∈ strv L, u.oneCell' = true := by
  intro u hu
  simp only [strv, List.mem_map] at hu
  obtain ⟨s, _, rfl⟩ := hu
  rfl

theorem strv_cells (w : World) (L : List ByteArray) : ∀ j u, (strv L)[j]? = some u → (w.alloc (.cells (strv L).toArray 9)).cell? ((⟨w.heap.size, 0, none⟩ : Addr).add j) = some u := by
  intro j u h
  rw [show (⟨w.heap.size, 0, none⟩ : Addr).add j = ⟨w.heap.size, 0 + j, none⟩ by unfold Addr.add; split <;> simp_all]
  simp only [World.cell?, new_block]
  simpa using h

theorem new_strs (w : World) (L : List ByteArray) : ∀ i, i < L.length → (w.alloc (.cells (strv L).toArray 9)).cell? ⟨w.heap.size, 0 + i, none⟩ = some (.string (L.getD i ByteArray.empty)) := by
  intro i hi
  simp only [World.cell?, new_block]
  simp [strv, hi]

theorem getD_size {L : List ByteArray} {k : Nat} (h : (L.all fun s => decide (s.size ≤ k)) = true) (i : Nat) : (L.getD i ByteArray.empty).size ≤ k := by
  by_cases hi : i < L.length
  · have := List.all_eq_true.1 h (L[i]) (List.getElem_mem hi)
    simp [hi]; simpa using this
  · simp [hi]

/-- The names of drawn trees. -/
def nmL : List ByteArray := [⟨#[97]⟩, ⟨#[98]⟩, ⟨#[99]⟩, ⟨#[101, 116, 99]⟩, ⟨#[104, 111, 109, 101]⟩, ⟨#[122, 122]⟩]
def Nm (s : ByteArray) : Prop := s ∈ nmL
theorem Nm.size {s : ByteArray} (h : Nm s) : s.size ≤ 4 := by
  have : (nmL.all fun s => decide (s.size ≤ 4)) = true := rfl
  simpa using List.all_eq_true.1 this s h

theorem grown_alloc (w : World) (o : Obj) (r : Option Nat) : w.grownBy (w.alloc o) r := World.grownBy_alloc w o r

theorem infoStr : (Tryd.prog.info? 9).map (fun i => (i.zero, i.size, i.bytes)) = some (some (.string ByteArray.empty), 1, 16) := by kernel_rfl

/-- A slice value that owns a list of texts. -/
def OwnsStrs (w : World) (B : Nat) (v : Value) (L : List ByteArray) : Prop := w.ownsRow B 9 1 v L.length (strv L) ∧ v ≠ .slice none 0 0

theorem OwnsStrs.block {w : World} {B : Nat} {v : Value} {L : List ByteArray} (h : OwnsStrs w B v L) : ∀ g, v.ownBlock = some g → B ≤ g := by
  intro g hg
  rcases h.1.2 with ⟨rfl, _⟩ | ⟨g', cap, cur, rfl, hb, _⟩
  · simp [Value.ownBlock] at hg
  · simp [Value.ownBlock] at hg; omega

theorem OwnsStrs.grown {w w' : World} {B r : Nat} {v : Value} {L : List ByteArray} (h : OwnsStrs w B v L) (hg : w.grownBy w' (some r)) (hr : r < B) : OwnsStrs w' B v L :=
  ⟨World.ownsRow.kept h.1 hg (by
    cases hv : v.ownBlock with
    | none => exact Or.inl rfl
    | some g => exact Or.inr (fun e => by have := h.block g hv; simp at e; omega)), h.2⟩

/-- An empty row of its own. -/
theorem owns_empty (w : World) : OwnsStrs (w.alloc (.cells #[] 9)) w.heap.size (.slice (some ⟨w.heap.size, 0, none⟩) 0 0) [] :=
  ⟨⟨rfl, Or.inr ⟨w.heap.size, 0, #[], rfl, Nat.le_refl _, new_block _ _, Nat.le_refl _, by unfold maxLen; omega, rfl, rfl⟩⟩, by simp⟩

theorem OwnsStrs.alloc {w : World} {B : Nat} {v : Value} {L : List ByteArray} (h : OwnsStrs w B v L) (o : Obj) : OwnsStrs (w.alloc o) B v L := ⟨World.ownsRow.alloc h.1 o, h.2⟩

theorem all_snoc4 {L : List ByteArray} {k : Nat} (h : (L.all fun s => decide (s.size ≤ k)) = true) {s : ByteArray} (hs : s.size ≤ k) : ((L ++ [s]).all fun s => decide (s.size ≤ k)) = true := by
  rw [List.all_append, h]; simp [hs]

theorem all_weaken {L : List ByteArray} {k m : Nat} (h : (L.all fun s => decide (s.size ≤ k)) = true) (hkm : k ≤ m) : (L.all fun s => decide (s.size ≤ m)) = true := by
  rw [List.all_eq_true] at *
  intro s hs
  have := h s hs
  simp at this ⊢
  omega

theorem all_app {L M : List ByteArray} {k : Nat} (h : (L.all fun s => decide (s.size ≤ k)) = true) (h2 : (M.all fun s => decide (s.size ≤ k)) = true) : ((L ++ M).all fun s => decide (s.size ≤ k)) = true := by
  rw [List.all_append, h, h2]; rfl

theorem OwnsStrs.hands {w' : World} {B : Nat} {v : Value} {L : List ByteArray} (h : OwnsStrs w' B v L) : ∃ g cap, v = .slice (some ⟨g, 0, none⟩) L.length cap ∧ B ≤ g ∧ g < w'.heap.size ∧ (∀ i, i < L.length → w'.cell? ⟨g, 0 + i, none⟩ = some (.string (L.getD i ByteArray.empty))) ∧ L.length ≤ cap ∧ cap ≤ maxLen := by
  obtain ⟨⟨h1, h2⟩, hne⟩ := h
  rcases h2 with ⟨rfl, h0⟩ | ⟨g, cap, cur, rfl, hb, hblk, hn, hm, hsz, htake⟩
  · exact absurd rfl hne
  · have hglt : g < w'.heap.size := (Array.getElem?_eq_some_iff.1 hblk).1
    refine ⟨g, cap, rfl, hb, hglt, fun i hi => ?_, hn, hm⟩
    have hi2 : (strv L)[i]? = some (.string (L.getD i ByteArray.empty)) := by simp [strv, hi]
    rw [← htake, Nat.mul_one, List.getElem?_take_of_lt hi] at hi2
    simp only [World.cell?, hblk]
    simpa using hi2

theorem list_size {L : List ByteArray} {k : Nat} (h : (L.all fun s => decide (s.size ≤ k)) = true) : ∀ i, ((fun i => L.getD i ByteArray.empty) i).size ≤ k := fun i => getD_size h i

/-- What an append to a row of one's own leaves: nothing below it turns. -/
theorem own_append {w0 w w2 : World} {B : Nat} {v v' : Value} {L M : List ByteArray} {k : Nat} (hB : Below B w0 w) (hBw : B ≤ w.heap.size) (hO : OwnsStrs w B v L) (hk : L.length + M.length = k)
    (hown : w2.ownsRow B 9 1 v' k (strv L ++ strv M)) (hgrow : w.grownBy w2 v.ownBlock) (hnil : ¬ v' = .slice none 0 0) :
    OwnsStrs w2 B v' (L ++ M) ∧ Below B w0 w2 ∧ B ≤ w2.heap.size := by
  refine ⟨⟨?_, hnil⟩, hB.grown hgrow hBw hO.block, Nat.le_trans hBw hgrow.size⟩
  rw [List.length_append, hk, ← strv_append]
  exact hown


/-- An append to a row of one's own where a guard has let it by. -/
theorem wpList_append_ownW {P : Program} (w : World) {ops : Array Oper} {rest : List Oper} {o : Oper} {a : Act} {Q : Exit → Act → World → Prop} (hw : Region.wanted o (yielded ops a.tmps) = true) (s x : Operand) (t : TypeId)
    (ho : o.op = .call { callee := .builtin .append, args := #[s, x], argTypes := #[t, t] })
    (base : Nat) (e : TypeId) (i : TypeInfo) (z : Value) (size bytes : Nat) (ht : P.underlying t = some (.slice e)) (hi : P.info? e = some i) (hz : i.zero = some z)
    (hsize : i.size = size) (hby : i.bytes = bytes) (hzs : z.cells.size = size) (hsz : 0 < size)
    (v : Value) (n : Nat) (xs : List Value) (hs : a.eval s = v) (hown : w.ownsRow base e size v n xs)
    (ad : Addr) (m c : Nat) (news : List Value) (hx : a.eval x = .slice (some ad) m c) (hl : news.length = m * size) (hnews : ∀ j u, news[j]? = some u → w.cell? (ad.add j) = some u) (h1 : ∀ u ∈ news, u.oneCell' = true)
    (h63 : n + m ≤ maxLen) (hbytes : (n + m) * bytes ≤ 140737488355328) (hbase : base ≤ w.heap.size)
    (h : ∀ v' w', w'.ownsRow base e size v' (n + m) (xs ++ news) → w.grownBy w' v.ownBlock → (v' = .slice none 0 0 ↔ v = .slice none 0 0 ∧ m = 0) → wpList P ops Q rest (a.put o.dst v') w') : wpList P ops Q (o :: rest) a w :=
  wpList_step fun K hK => by
    rw [if_pos hw]
    exact wp_append_own w s x t ho base e i z size bytes ht hi hz hsize hby hzs hsz v n xs hs hown ad m c news hx hl hnews h1 h63 hbytes hbase fun v' w' h2 h3 h4 => hK _ _ (h v' w' h2 h3 h4)
end Go.Proofs.YtjlldefajgmelaaDoor
