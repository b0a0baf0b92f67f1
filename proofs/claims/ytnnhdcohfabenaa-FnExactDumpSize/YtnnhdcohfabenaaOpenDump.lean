/-
  How what is kept of a tree, handed in, is opened: what lies in memory from its addresses on.
-/
import Derived.Test.YtnnhdcohfabenaaOpenTree
import Derived.Test.YtnnhdcohfabenaaItemsBase
namespace Go.Proofs.Ytnnhdcohfabenaa
open Go.ChangeShapes Go.WideShapes Go.ChangeAt Go.RowKit Go.Deep
set_option linter.unusedVariables false

theorem cellsBool : Try.prog.cellsOf 4 = 1 := by kernel_rfl
theorem cellsItem : Try.prog.cellsOf 87 = 6 := by kernel_rfl
theorem cellsDump : Try.prog.cellsOf 25 = 4 := by kernel_rfl

section
variable {H : Type} {enc : TypeId × Value → H} {W : World}

theorem openBoolsC {v : Value} {fuel : Nat} {x : DataW H × List MemPlace} (h : DataW.trod enc Try.prog W 0 (fun _ => true) true fuel 22 [v] = some x) :
    ∃ (a : Option Addr) (n c : Nat) (Z : Nat → Bool), v = .slice a n c ∧ IsBools W a n Z ∧ n ≤ maxLen := by
  rcases open_slice1 Try.underlying22 cellsBool h with ⟨h0, _⟩ | ⟨a, n, c, m, fl, V, DD, Pl, h0, _, hl, hm, hmm, _, hx⟩
  · cases h0
    exact ⟨none, 0, 0, fun _ => false, rfl, Or.inl rfl, by unfold maxLen; omega⟩
  · cases h0
    simp at hmm
    have each : ∀ i, i < n → ∃ q : Bool, W.cell? (a.add i) = some (.bool q) := fun i hi => by
      obtain ⟨h1, h2⟩ := hx i (by omega)
      obtain ⟨q, e, _⟩ := DataW.trod_bool Try.underlying4 h2
      have e' : V i = .bool q := by simpa using e
      exact ⟨q, by rw [h1, e']⟩
    obtain ⟨f, hf⟩ := choose_lt each
    obtain ⟨b, off, spot⟩ := a
    refine ⟨some ⟨b, off, spot⟩, n, c, f, rfl, ?_, by omega⟩
    by_cases hn : n = 0
    · exact Or.inl hn
    · have h00 := hf 0 (by omega)
      have hspot : spot = none := by simpa [Addr.add] using World.cell?_spot h00
      subst hspot
      refine Or.inr ⟨b, off, rfl, lt_of_cell (by simpa [Addr.add] using h00), fun i hi => ?_⟩
      have := hf i hi
      rw [add_plain] at this
      exact this

theorem trod15 {P : Program} {base : Nat} {spare : Nat → Bool} {held : Bool} {t : TypeId} {f0 f1 : Field} {fuel : Nat} {cs : List Value} {x : DataW H × List MemPlace} (hs : P.underlying t = some (.struct #[f0, f1])) (h0 : f0.offset = 0) (h1 : f1.offset = 1) (c0 : P.cellsOf f0.type = 1) (c1 : P.cellsOf f1.type = 5)
    (hC : P.cellsOf t = 6) (h : DataW.trod enc P W base spare held fuel t cs = some x) :
    ∃ (v0 v1 v2 v3 v4 v5 : Value) (y0 y1 : DataW H × List MemPlace) (n : Nat), cs = [v0, v1, v2, v3, v4, v5] ∧ DataW.trod enc P W base spare held n f0.type [v0] = some y0 ∧ DataW.trod enc P W base spare held n f1.type [v1, v2, v3, v4, v5] = some y1 := by
  obtain ⟨y0, y1, n, _, hl, g0, g1⟩ := trod_struct2 hs h
  rw [hC] at hl
  match cs, hl with
  | [v0, v1, v2, v3, v4, v5], _ => exact ⟨v0, v1, v2, v3, v4, v5, y0, y1, n, rfl, by simpa [h0, c0] using g0, by simpa [h1, c1] using g1⟩

theorem trod4 {P : Program} {base : Nat} {spare : Nat → Bool} {held : Bool} {t : TypeId} {f0 f1 f2 f3 : Field} {fuel : Nat} {cs : List Value} {x : DataW H × List MemPlace} (hs : P.underlying t = some (.struct #[f0, f1, f2, f3])) (hone : oneCellFields P #[f0, f1, f2, f3] = true)
    (hC : P.cellsOf t = 4) (h : DataW.trod enc P W base spare held fuel t cs = some x) :
    ∃ (v0 v1 v2 v3 : Value) (y0 y1 y2 y3 : DataW H × List MemPlace) (n : Nat), cs = [v0, v1, v2, v3] ∧ DataW.trod enc P W base spare held n f0.type [v0] = some y0 ∧ DataW.trod enc P W base spare held n f1.type [v1] = some y1 ∧
      DataW.trod enc P W base spare held n f2.type [v2] = some y2 ∧ DataW.trod enc P W base spare held n f3.type [v3] = some y3 := by
  obtain ⟨xs, n, _, rfl, hl, hlen, hf⟩ := DataW.trod_struct hs h
  rw [hC] at hl
  obtain ⟨o0, k0⟩ := hone_of hone 0 f0 rfl
  obtain ⟨o1, k1⟩ := hone_of hone 1 f1 rfl
  obtain ⟨o2, k2⟩ := hone_of hone 2 f2 rfl
  obtain ⟨o3, k3⟩ := hone_of hone 3 f3 rfl
  match xs, hlen, cs, hl with
  | [y0, y1, y2, y3], _, [v0, v1, v2, v3], _ =>
    refine ⟨v0, v1, v2, v3, y0, y1, y2, y3, n, rfl, ?_, ?_, ?_, ?_⟩
    · simpa [o0, k0] using hf 0 f0 rfl
    · simpa [o1, k1] using hf 1 f1 rfl
    · simpa [o2, k2] using hf 2 f2 rfl
    · simpa [o3, k3] using hf 3 f3 rfl

theorem openItemC {cs : List Value} {fuel : Nat} {x : DataW H × List MemPlace} (h : DataW.trod enc Try.prog W 0 (fun _ => true) true fuel 87 cs = some x) :
    ∃ (o : Int) (d : Nd) (l : Loc), cs = [.int .i64 o, .int .i64 d.kind, .string d.text, .slice l.nA d.nn l.nc, .slice l.kA d.kn l.kc, .int .i64 d.turn] ∧ NdIn W d l ∧ d.Fits ∧ In64 o := by
  obtain ⟨v0, v1, v2, v3, v4, v5, y0, y1, n, rfl, h0, h1⟩ := trod15 Try.underlying87 rfl rfl cellsInt cellsNode cellsItem h
  obtain ⟨o, e0, _, w0⟩ := DataW.trod_int Try.underlying3 h0
  obtain ⟨d, l, e1, hI, hf⟩ := openNodeC h1
  cases e0; cases e1
  exact ⟨o, d, l, rfl, hI, hf, wf64 w0⟩

theorem openItemsC {v : Value} {fuel : Nat} {x : DataW H × List MemPlace} (h : DataW.trod enc Try.prog W 0 (fun _ => true) true fuel 23 [v] = some x) :
    ∃ (a : Option Addr) (n c : Nat) (O : Nat → Int) (D : Nat → Nd) (L : Nat → Loc), v = .slice a n c ∧ IsIts W a n O D L ∧ FitAll n D ∧ (∀ i, i < n → In64 (O i)) ∧ n ≤ maxLen := by
  rcases open_slice Try.underlying23 h with ⟨h0, _⟩ | ⟨a, n, c, m, fl, DD, Pl, h0, _, hl, hm, hmm, _, hx⟩
  · cases h0
    exact ⟨none, 0, 0, fun _ => 0, fun _ => default, fun _ => default, rfl, Or.inl rfl, fun i hi => by omega, fun i hi => by omega, by unfold maxLen; omega⟩
  · cases h0
    simp at hmm
    have each : ∀ i, i < n → ∃ p : Int × Nd × Loc, W.cells? 0 (a.add (i * 6)) 6 = some [.int .i64 p.1, .int .i64 p.2.1.kind, .string p.2.1.text, .slice p.2.2.nA p.2.1.nn p.2.2.nc, .slice p.2.2.kA p.2.1.kn p.2.2.kc, .int .i64 p.2.1.turn] ∧ NdIn W p.2.1 p.2.2 ∧ p.2.1.Fits ∧ In64 p.1 := by
      intro i hi
      obtain ⟨cs', h1, h2⟩ := hx i (by omega)
      rw [cellsItem] at h1
      obtain ⟨o, d, l, rfl, h3, h4, h5⟩ := openItemC h2
      exact ⟨(o, d, l), h1, h3, h4, h5⟩
    obtain ⟨f, hf⟩ := choose_lt each
    refine ⟨some a, n, c, fun i => (f i).1, fun i => (f i).2.1, fun i => (f i).2.2, rfl, ?_, fun i hi => (hf i hi).2.2.1, fun i hi => (hf i hi).2.2.2, by omega⟩
    by_cases hn : n = 0
    · exact Or.inl hn
    · obtain ⟨b, off, spot⟩ := a
      have h00 := (World.cells?_some (hf 0 (by omega)).1).2.2 0 (by omega)
      have hspot : spot = none := by
        have : W.cell? ⟨b, off, spot⟩ = some (.int .i64 (f 0).1) := by simpa [Addr.add] using h00
        simpa using World.cell?_spot this
      subst hspot
      have h00' : W.cell? ⟨b, off, none⟩ = some (.int .i64 (f 0).1) := by simpa [Addr.add] using h00
      refine Or.inr ⟨b, off, rfl, lt_of_cell h00', fun i hi => ?_⟩
      obtain ⟨h1, h2, _⟩ := hf i hi
      have g := (World.cells?_some h1).2.2
      have e : ∀ j, j < 6 → W.cell? ⟨b, off + i * 6 + j, none⟩ = [Value.int .i64 (f i).1, .int .i64 (f i).2.1.kind, .string (f i).2.1.text, .slice (f i).2.2.nA (f i).2.1.nn (f i).2.2.nc, .slice (f i).2.2.kA (f i).2.1.kn (f i).2.2.kc, .int .i64 (f i).2.1.turn][j]? := by
        intro j hj
        have := g j hj
        rw [add_add, add_plain] at this
        rw [← this, Nat.add_assoc]
      exact ⟨by simpa using e 0 (by omega), by simpa using e 1 (by omega), by simpa using e 2 (by omega), by simpa using e 3 (by omega), by simpa using e 4 (by omega), by simpa using e 5 (by omega), h2⟩

set_option maxRecDepth 100000 in
theorem openDumpC {cs : List Value} {fuel : Nat} {x : DataW H × List MemPlace} (h : DataW.trod enc Try.prog W 0 (fun _ => true) true fuel 25 cs = some x) :
    ∃ (d : Dp) (l : DLoc), cs = [.int .i64 d.since, .int .i64 d.date, .slice l.lA d.ln l.lc, .slice l.iA d.m l.ic] ∧ DpIn W d l ∧ d.Fits := by
  obtain ⟨v0, v1, v2, v3, y0, y1, y2, y3, n, rfl, h0, h1, h2, h3⟩ := trod4 Try.underlying25 (by kernel_rfl) cellsDump h
  obtain ⟨z0, e0, _, w0⟩ := DataW.trod_int Try.underlying3 h0
  obtain ⟨z1, e1, _, w1⟩ := DataW.trod_int Try.underlying3 h1
  obtain ⟨a2, n2, c2, Z, e2, i2, l2⟩ := openBoolsC h2
  obtain ⟨a3, n3, c3, O, D, L, e3, i3, f3, m3, l3⟩ := openItemsC h3
  cases e0; cases e1; cases e2; cases e3
  exact ⟨⟨z0, z1, n2, Z, n3, O, D⟩, ⟨a2, c2, a3, c3, L⟩, rfl, ⟨i2, i3⟩, ⟨wf64 w0, wf64 w1, l2, l3, m3, f3⟩⟩

set_option maxRecDepth 100000 in
theorem openDump {r : Reach} {b0 : Nat} {v : Value} {d : DataW H} {p : List MemPlace} (hv : Value.okWide Try.prog W r b0 25 v) (h : DataW.Trod enc Try.prog W 0 (fun _ => true) true 25 v d p) :
    ∃ (e : Dp) (l : DLoc), v = dpV e l ∧ DpIn W e l ∧ e.Fits := by
  obtain ⟨cs, rfl, hsz⟩ := okWide_struct Try.underlying25 hv
  obtain ⟨fuel, hf⟩ := h
  obtain ⟨e, l, hcs, hI, hF⟩ := openDumpC hf
  refine ⟨e, l, ?_, hI, hF⟩
  unfold dpV
  congr 1
  apply Array.toList_inj.1
  simpa [Value.cells] using hcs
end
end Go.Proofs.Ytnnhdcohfabenaa
