/-
  Places that were turned, and what is kept of a tree, as they lie in memory: plain facts.
-/
import Derived.Test.YtnnhdcohfabenaaBoolsBase
namespace Go.Proofs.Ytnnhdcohfabenaa
open Go.RowKit
set_option linter.unusedVariables false

theorem infoItem : (Try.prog.info? 58).map (fun i => (i.zero, i.size, i.bytes)) = some (some (.agg #[.int .i64 0, .int .i64 0, .string ByteArray.empty, .slice none 0 0, .slice none 0 0, .int .i64 0]), 6, 88) := by kernel_rfl

/-- The value of a place that was turned. -/
def itV (o : Int) (d : Nd) (l : Loc) : Value := .agg #[.int .i64 o, .int .i64 d.kind, .string d.text, .slice l.nA d.nn l.nc, .slice l.kA d.kn l.kc, .int .i64 d.turn]

/-- n of them lie in memory from the address on, six cells each. -/
def IsIts (w : World) (a : Option Addr) (n : Nat) (O : Nat → Int) (D : Nat → Nd) (L : Nat → Loc) : Prop :=
  n = 0 ∨ ∃ b off, a = some ⟨b, off, none⟩ ∧ b < w.heap.size ∧ ∀ i, i < n →
    w.cell? ⟨b, off + i * 6, none⟩ = some (.int .i64 (O i)) ∧ w.cell? ⟨b, off + i * 6 + 1, none⟩ = some (.int .i64 (D i).kind) ∧ w.cell? ⟨b, off + i * 6 + 2, none⟩ = some (.string (D i).text) ∧
    w.cell? ⟨b, off + i * 6 + 3, none⟩ = some (.slice (L i).nA (D i).nn (L i).nc) ∧ w.cell? ⟨b, off + i * 6 + 4, none⟩ = some (.slice (L i).kA (D i).kn (L i).kc) ∧
    w.cell? ⟨b, off + i * 6 + 5, none⟩ = some (.int .i64 (D i).turn) ∧ NdIn w (D i) (L i)

theorem IsIts.at {w : World} {a : Option Addr} {n : Nat} {O : Nat → Int} {D : Nat → Nd} {L : Nat → Loc} (h : IsIts w a n O D L) {k : Nat} (hk : k < n) :
    ∃ b off, a = some ⟨b, off, none⟩ ∧ b < w.heap.size ∧ ∀ i, i < n →
    w.cell? ⟨b, off + i * 6, none⟩ = some (.int .i64 (O i)) ∧ w.cell? ⟨b, off + i * 6 + 1, none⟩ = some (.int .i64 (D i).kind) ∧ w.cell? ⟨b, off + i * 6 + 2, none⟩ = some (.string (D i).text) ∧
    w.cell? ⟨b, off + i * 6 + 3, none⟩ = some (.slice (L i).nA (D i).nn (L i).nc) ∧ w.cell? ⟨b, off + i * 6 + 4, none⟩ = some (.slice (L i).kA (D i).kn (L i).kc) ∧
    w.cell? ⟨b, off + i * 6 + 5, none⟩ = some (.int .i64 (D i).turn) ∧ NdIn w (D i) (L i) := by
  rcases h with h | h
  · omega
  · exact h

theorem IsIts.below {w w' : World} {a : Option Addr} {n : Nat} {O : Nat → Int} {D : Nat → Nd} {L : Nat → Loc} (h : IsIts w a n O D L) {B : Nat} (hB : w.heap.size ≤ B) (hb : Below B w w') : IsIts w' a n O D L := by
  rcases h with h | ⟨b, off, ha, hlt, hc⟩
  · exact Or.inl h
  · have hs := hb.size
    refine Or.inr ⟨b, off, ha, by omega, fun i hi => ?_⟩
    obtain ⟨h0, h1, h2, h3, h4, h5, h6⟩ := hc i hi
    have e : ∀ o, w'.cell? ⟨b, o, none⟩ = w.cell? ⟨b, o, none⟩ := fun o => hb.cell (p := ⟨b, o, none⟩) (by show b < B; omega)
    exact ⟨(e _).trans h0, (e _).trans h1, (e _).trans h2, (e _).trans h3, (e _).trans h4, (e _).trans h5, h6.below hB hb⟩

/-- Two are one. -/
def sameIt (o p : Int) (d e : Nd) : Bool := (o == p) && d.same e
def sameIts (n : Nat) (O P : Nat → Int) (D E : Nat → Nd) : Bool := (List.range n).all fun i => sameIt (O i) (P i) (D i) (E i)

theorem sameIts_succ (k : Nat) (O P : Nat → Int) (D E : Nat → Nd) (h : sameIts k O P D E = true) (hk : sameIt (O k) (P k) (D k) (E k) = true) : sameIts (k + 1) O P D E = true := by
  unfold sameIts at *
  rw [List.range_succ, List.all_append, h]; simpa using hk

theorem sameIts_not (n k : Nat) (O P : Nat → Int) (D E : Nat → Nd) (hk : k < n) (h : sameIt (O k) (P k) (D k) (E k) = false) : false = sameIts n O P D E := by
  symm
  rw [Bool.eq_false_iff]
  intro ha
  have := List.all_eq_true.1 ha k (by simpa using hk)
  simp [this] at h

theorem sameIts_self (n : Nat) (O : Nat → Int) (D : Nat → Nd) : sameIts n O O D D = true := by
  unfold sameIts
  rw [List.all_eq_true]
  intro i hi
  unfold sameIt
  rw [Nd.same_self]
  simp

/-- What is kept: since when, till when, so many truth values, so many places that were turned. -/
structure Dp where
  since : Int
  date : Int
  ln : Nat
  live : Nat → Bool
  m : Nat
  ino : Nat → Int
  nd : Nat → Nd

/-- Where its lists lie. -/
structure DLoc where
  lA : Option Addr
  lc : Nat
  iA : Option Addr
  ic : Nat
  L : Nat → Loc

def dpV (d : Dp) (l : DLoc) : Value := .agg #[.int .i64 d.since, .int .i64 d.date, .slice l.lA d.ln l.lc, .slice l.iA d.m l.ic]

structure DpIn (w : World) (d : Dp) (l : DLoc) : Prop where
  live : IsBools w l.lA d.ln d.live
  items : IsIts w l.iA d.m d.ino d.nd l.L

theorem DpIn.below {w w' : World} {d : Dp} {l : DLoc} (h : DpIn w d l) {B : Nat} (hB : w.heap.size ≤ B) (hb : Below B w w') : DpIn w' d l := ⟨h.live.below hB hb, h.items.below hB hb⟩

/-- The bounds that hold of all that is handed in. -/
structure Dp.Fits (d : Dp) : Prop where
  since : In64 d.since
  date : In64 d.date
  ln : d.ln ≤ maxLen
  m : d.m ≤ maxLen
  ino : ∀ i, i < d.m → In64 (d.ino i)
  nds : FitAll d.m d.nd

/-- What it counts. -/
def Dp.size (d : Dp) : Nat := d.ln + d.m + sizeTo d.nd d.m

/-- Two are one. -/
def Dp.same (d e : Dp) : Bool := (d.since == e.since) && (d.date == e.date) && (decide (d.ln = e.ln) && eqB d.ln d.live e.live) && (decide (d.m = e.m) && sameIts d.m d.ino e.ino d.nd e.nd)

theorem Dp.same_self (d : Dp) : d.same d = true := by
  unfold Dp.same
  rw [eqB_self _ _ _ (fun _ _ => rfl), sameIts_self]
  simp

/-- n places that were turned lie in a block of their own, so many of them laid. -/
structure ItRow (w : World) (b n k : Nat) (O : Nat → Int) (D : Nat → Nd) (L : Nat → Loc) : Prop where
  row : ∃ g, w.rowIs b 58 (n * 6) g ∧ ∀ i, i < k → g (i * 6) = .int .i64 (O i) ∧ g (i * 6 + 1) = .int .i64 (D i).kind ∧ g (i * 6 + 2) = .string (D i).text ∧ g (i * 6 + 3) = .slice (L i).nA (D i).nn (L i).nc ∧ g (i * 6 + 4) = .slice (L i).kA (D i).kn (L i).kc ∧ g (i * 6 + 5) = .int .i64 (D i).turn
  lists : ∀ i, i < k → NdIn w (D i) (L i) ∧ (L i).Past (b + 1)

theorem ItRow.its {w : World} {b n : Nat} {O : Nat → Int} {D : Nat → Nd} {L : Nat → Loc} (h : ItRow w b n n O D L) : IsIts w (some ⟨b, 0, none⟩) n O D L := by
  obtain ⟨⟨g, hr, hg⟩, hl⟩ := h
  refine Or.inr ⟨b, 0, rfl, hr.lt, fun i hi => ?_⟩
  obtain ⟨g0, g1, g2, g3, g4, g5⟩ := hg i hi
  rw [Nat.zero_add, ← g0, ← g1, ← g2, ← g3, ← g4, ← g5]
  exact ⟨hr.cell (by omega), hr.cell (by omega), hr.cell (by omega), hr.cell (by omega), hr.cell (by omega), hr.cell (by omega), (hl i hi).1⟩

theorem ItRow.below {w w' : World} {b n k : Nat} {O : Nat → Int} {D : Nat → Nd} {L : Nat → Loc} (h : ItRow w b n k O D L) {B : Nat} (hB : w.heap.size ≤ B) (hb : Below B w w') : ItRow w' b n k O D L := by
  obtain ⟨⟨g, hr, hg⟩, hl⟩ := h
  have := hr.lt
  exact ⟨⟨g, rowIs_below hr hb (by omega), hg⟩, fun i hi => ⟨(hl i hi).1.below hB hb, (hl i hi).2⟩⟩

theorem ItRow.off {w : World} {b n k : Nat} {O : Nat → Int} {D : Nat → Nd} {L : Nat → Loc} (h : ItRow w b n k O D L) {b' i : Nat} (v : Value) (hb : b' < b) : ItRow (w.setCell ⟨b', i, none⟩ v) b n k O D L := by
  obtain ⟨⟨g, hr, hg⟩, hl⟩ := h
  exact ⟨⟨g, hr.setOther (a := ⟨b', i, none⟩) (show b ≠ b' by omega) v, hg⟩, fun i hi => ⟨(hl i hi).1.off v ((hl i hi).2.mono (by omega)), (hl i hi).2⟩⟩

theorem six_ne {i k r s : Nat} (h : i ≠ k) (hr : r < 6) (hs : s < 6) : i * 6 + r ≠ k * 6 + s := by omega

theorem ItRow.step {w : World} {b n k : Nat} {O : Nat → Int} {D : Nat → Nd} {L : Nat → Loc} (h : ItRow w b n k O D L) {l : Loc} (hI : NdIn w (D k) l) (hp : l.Past (b + 1)) :
    ItRow ((((((w.setCell ⟨b, k * 6, none⟩ (.int .i64 (O k))).setCell ⟨b, k * 6 + 1, none⟩ (.int .i64 (D k).kind)).setCell ⟨b, k * 6 + 2, none⟩ (.string (D k).text)).setCell ⟨b, k * 6 + 3, none⟩ (.slice l.nA (D k).nn l.nc)).setCell ⟨b, k * 6 + 4, none⟩ (.slice l.kA (D k).kn l.kc)).setCell ⟨b, k * 6 + 5, none⟩ (.int .i64 (D k).turn)) b n (k + 1) O D (fun i => if i = k then l else L i) := by
  obtain ⟨⟨g, hr, hg⟩, hl⟩ := h
  refine ⟨⟨_, (((((hr.set _ _).set _ _).set _ _).set _ _).set _ _).set _ _, fun i hi => ?_⟩, fun i hi => ?_⟩
  · by_cases e : i = k
    · subst e
      simp
    · have := hg i (by omega)
      have n0 : ∀ r s, r < 6 → s < 6 → ¬ i * 6 + r = k * 6 + s := fun r s hr hs => six_ne e hr hs
      have z0 : ∀ s, s < 6 → ¬ i * 6 = k * 6 + s := fun s hs => n0 0 s (by omega) hs
      have z1 : ∀ r, r < 6 → ¬ i * 6 + r = k * 6 := fun r hr => n0 r 0 hr (by omega)
      have z2 : ¬ i * 6 = k * 6 := n0 0 0 (by omega) (by omega)
      simp only [if_neg e]
      refine ⟨?_, ?_, ?_, ?_, ?_, ?_⟩
      · rw [if_neg (z0 5 (by omega)), if_neg (z0 4 (by omega)), if_neg (z0 3 (by omega)), if_neg (z0 2 (by omega)), if_neg (z0 1 (by omega)), if_neg z2]; exact this.1
      · rw [if_neg (n0 1 5 (by omega) (by omega)), if_neg (n0 1 4 (by omega) (by omega)), if_neg (n0 1 3 (by omega) (by omega)), if_neg (n0 1 2 (by omega) (by omega)), if_neg (n0 1 1 (by omega) (by omega)), if_neg (z1 1 (by omega))]; exact this.2.1
      · rw [if_neg (n0 2 5 (by omega) (by omega)), if_neg (n0 2 4 (by omega) (by omega)), if_neg (n0 2 3 (by omega) (by omega)), if_neg (n0 2 2 (by omega) (by omega)), if_neg (n0 2 1 (by omega) (by omega)), if_neg (z1 2 (by omega))]; exact this.2.2.1
      · rw [if_neg (n0 3 5 (by omega) (by omega)), if_neg (n0 3 4 (by omega) (by omega)), if_neg (n0 3 3 (by omega) (by omega)), if_neg (n0 3 2 (by omega) (by omega)), if_neg (n0 3 1 (by omega) (by omega)), if_neg (z1 3 (by omega))]; exact this.2.2.2.1
      · rw [if_neg (n0 4 5 (by omega) (by omega)), if_neg (n0 4 4 (by omega) (by omega)), if_neg (n0 4 3 (by omega) (by omega)), if_neg (n0 4 2 (by omega) (by omega)), if_neg (n0 4 1 (by omega) (by omega)), if_neg (z1 4 (by omega))]; exact this.2.2.2.2.1
      · rw [if_neg (n0 5 5 (by omega) (by omega)), if_neg (n0 5 4 (by omega) (by omega)), if_neg (n0 5 3 (by omega) (by omega)), if_neg (n0 5 2 (by omega) (by omega)), if_neg (n0 5 1 (by omega) (by omega)), if_neg (z1 5 (by omega))]; exact this.2.2.2.2.2
  · by_cases e : i = k
    · subst e
      simp only [if_true]
      exact ⟨(((((hI.off _ hp).off _ hp).off _ hp).off _ hp).off _ hp).off _ hp, hp⟩
    · obtain ⟨h1, h2⟩ := hl i (by omega)
      simp only [if_neg e]
      exact ⟨(((((h1.off _ h2).off _ h2).off _ h2).off _ h2).off _ h2).off _ h2, h2⟩
end Go.Proofs.Ytnnhdcohfabenaa
