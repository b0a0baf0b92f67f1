/-
  What the draws of ways give: some list of at most nine texts of at most five letters each, in new memory; nothing that was there turns but the reader's own place.
-/
import Derived.Test.YtjlldefajgmelaaDoorRd
namespace Go.Proofs.YtjlldefajgmelaaDoor
open Go.RowKit
set_option linter.unusedVariables false

theorem IsRd.grown {W W' : World} {r : Nat} {a : Option Addr} {len cap : Nat} {zs : Nat → Int} {p : Nat} (h : IsRd W r a len cap zs p) {row : Option Nat} (hg : W.grownBy W' row) (hr : ∀ g, row = some g → r < g) : IsRd W' r a len cap zs p :=
  h.kept fun k hk => hg.block k (Nat.lt_of_le_of_lt hk h.lt) (fun e => by have := hr k e.symm; omega)

theorem IsRd.alloc {W : World} {r : Nat} {a : Option Addr} {len cap : Nat} {zs : Nat → Int} {p : Nat} (h : IsRd W r a len cap zs p) (o : Obj) : IsRd (W.alloc o) r a len cap zs p :=
  h.kept fun k hk => Below.heap_alloc W o k (Nat.lt_of_le_of_lt hk h.lt)

def names7 : List ByteArray := [⟨#[97]⟩, ⟨#[98]⟩, ⟨#[99]⟩, ⟨#[97]⟩, ⟨#[98]⟩, ⟨#[101, 116, 99]⟩, ⟨#[104, 111, 109, 101]⟩]

theorem names7_nm (i : Nat) (hi : i < 7) : Nm (names7.getD i ByteArray.empty) := by
  unfold Nm
  match i, hi with
  | 0, _ => simp [names7, nmL]
  | 1, _ => simp [names7, nmL]
  | 2, _ => simp [names7, nmL]
  | 3, _ => simp [names7, nmL]
  | 4, _ => simp [names7, nmL]
  | 5, _ => simp [names7, nmL]
  | 6, _ => simp [names7, nmL]

/-- What an append of texts to a row of one's own leaves. -/
theorem owns_step {w wr w2 : World} {r : Nat} {a : Option Addr} {len cap : Nat} {zs : Nat → Int} {q : Nat} {v v' : Value} {L M : List ByteArray}
    (hr : r < w.heap.size) (hg : w.grownBy wr (some r)) (hR : IsRd wr r a len cap zs q) (hO : OwnsStrs wr w.heap.size v L) (o : Obj)
    (hown : w2.ownsRow w.heap.size 9 1 v' (L.length + M.length) (strv L ++ strv M)) (hgrow : (wr.alloc o).grownBy w2 v.ownBlock) (hnil : ¬ v' = .slice none 0 0) :
    OwnsStrs w2 w.heap.size v' (L ++ M) ∧ w.grownBy w2 (some r) ∧ IsRd w2 r a len cap zs q := by
  refine ⟨?_, grown_own (grown_trans hg (grown_alloc wr o _)) hgrow hO.block, (hR.alloc o).grown hgrow (fun g e => by have := hO.block g e; omega)⟩
  unfold OwnsStrs
  rw [List.length_append, ← strv_append]
  exact ⟨hown, hnil⟩

def bent4 : List ByteArray := [⟨#[]⟩, ⟨#[65]⟩, ⟨#[97, 98, 99, 100, 101]⟩, ⟨#[97, 47, 98]⟩]
def six : List ByteArray := [⟨#[97]⟩, ⟨#[98]⟩, ⟨#[99]⟩, ⟨#[100]⟩, ⟨#[101]⟩, ⟨#[102]⟩]

/-- A code that was handed in: len bytes. -/
def IsCode (w : World) (a : Option Addr) (len : Nat) (zs : Nat → Int) : Prop :=
  len = 0 ∨ ∃ b off, a = some ⟨b, off, none⟩ ∧ b < w.heap.size ∧ ∀ i, i < len → w.cell? ⟨b, off + i, none⟩ = some (.int .u8 (zs i)) ∧ 0 ≤ zs i ∧ zs i ≤ 255

theorem IsCode.below {w w' : World} {a : Option Addr} {len : Nat} {zs : Nat → Int} (h : IsCode w a len zs) (hb : Below w.heap.size w w') : IsCode w' a len zs := by
  rcases h with h | ⟨b, off, ha, hlt, hc⟩
  · exact Or.inl h
  · exact Or.inr ⟨b, off, ha, Nat.lt_of_lt_of_le hlt hb.size, fun i hi => ⟨(hb.cell (p := ⟨b, off + i, none⟩) hlt).trans (hc i hi).1, (hc i hi).2⟩⟩

/-- A drawn list: it lies in memory; at most nine texts of at most five letters. -/
structure Drawn (w : World) (g n cap : Nat) (S : Nat → ByteArray) : Prop where
  lt : g < w.heap.size
  cell : ∀ i, i < n → w.cell? ⟨g, 0 + i, none⟩ = some (.string (S i))
  room : n ≤ cap
  most : cap ≤ maxLen
  few : n ≤ 9
  short : ∀ i, (S i).size ≤ 5

theorem Drawn.strs {w : World} {g n cap : Nat} {S : Nat → ByteArray} (h : Drawn w g n cap S) : IsStrs w (some ⟨g, 0, none⟩) n S := Or.inr ⟨g, 0, rfl, h.lt, h.cell⟩
theorem Drawn.small {w : World} {g n cap : Nat} {S : Nat → ByteArray} (h : Drawn w g n cap S) : Small n S := fun i _ => by have := h.short i; unfold maxLen; omega
theorem Drawn.below {w w' : World} {g n cap : Nat} {S : Nat → ByteArray} (h : Drawn w g n cap S) (hb : Below w.heap.size w w') : Drawn w' g n cap S :=
  ⟨Nat.lt_of_lt_of_le h.lt hb.size, fun i hi => (hb.cell (p := ⟨g, 0 + i, none⟩) h.lt).trans (h.cell i hi), h.room, h.most, h.few, h.short⟩
theorem Drawn.len {w : World} {g n cap : Nat} {S : Nat → ByteArray} (h : Drawn w g n cap S) : n ≤ maxLen := by have := h.few; unfold maxLen; omega

theorem OwnsStrs.drawn {w : World} {B : Nat} {v : Value} {L : List ByteArray} (h : OwnsStrs w B v L) (h9 : L.length ≤ 9) (h5 : (L.all fun s => decide (s.size ≤ 5)) = true) :
    ∃ g cap, v = .slice (some ⟨g, 0, none⟩) L.length cap ∧ Drawn w g L.length cap (fun i => L.getD i ByteArray.empty) := by
  obtain ⟨g, cap, hv, _, hlt, hc, hn, hm⟩ := h.hands
  exact ⟨g, cap, hv, hlt, hc, hn, hm, h9, list_size h5⟩

theorem below_grown {w w' w'' : World} {r : Nat} (h : Below w.heap.size w w') (hr : w.heap.size ≤ r) (hg : w'.grownBy w'' (some r)) : Below w.heap.size w w'' :=
  h.grown hg h.size (fun k e => by simp at e; omega)

end Go.Proofs.YtjlldefajgmelaaDoor
