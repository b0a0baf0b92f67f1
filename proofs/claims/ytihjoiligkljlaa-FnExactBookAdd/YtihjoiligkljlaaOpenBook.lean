/-
  How a book that is handed in is opened: what lies in memory from its address on.
-/
import Derived.Test.YtihjoiligkljlaaRows
import Derived.Test.YtihjoiligkljlaaOpenTree
import Derived.Test.YtihjoiligkljlaaEntsBase
namespace Go.Proofs.Ytihjoiligkljlaa
open Go.ChangeShapes Go.WideShapes Go.ChangeAt Go.RowKit Go.Deep
set_option linter.unusedVariables false

theorem cellsEnt : Try.prog.cellsOf 48 = 2 := by kernel_rfl

section
variable {H : Type} {enc : TypeId × Value → H} {W : World}

theorem trod11 {P : Program} {base : Nat} {spare : Nat → Bool} {held : Bool} {t : TypeId} {f0 f1 : Field} {fuel : Nat} {cs : List Value} {x : DataW H × List MemPlace} (hs : P.underlying t = some (.struct #[f0, f1])) (h0 : f0.offset = 0) (h1 : f1.offset = 1) (c0 : P.cellsOf f0.type = 1) (c1 : P.cellsOf f1.type = 1)
    (hC : P.cellsOf t = 2) (h : DataW.trod enc P W base spare held fuel t cs = some x) :
    ∃ (v0 v1 : Value) (y0 y1 : DataW H × List MemPlace) (n : Nat), cs = [v0, v1] ∧ DataW.trod enc P W base spare held n f0.type [v0] = some y0 ∧ DataW.trod enc P W base spare held n f1.type [v1] = some y1 := by
  obtain ⟨y0, y1, n, _, hl, g0, g1⟩ := trod_struct2 hs h
  rw [hC] at hl
  match cs, hl with
  | [v0, v1], _ => exact ⟨v0, v1, y0, y1, n, rfl, by simpa [h0, c0] using g0, by simpa [h1, c1] using g1⟩

set_option maxRecDepth 100000 in
theorem openEntC {cs : List Value} {fuel : Nat} {x : DataW H × List MemPlace} (h : DataW.trod enc Try.prog W 0 (fun _ => true) true fuel 48 cs = some x) :
    ∃ e : En, cs = [.int .i64 e.lev, .int .i64 e.date] ∧ In64 e.lev ∧ In64 e.date := by
  obtain ⟨v0, v1, y0, y1, n, rfl, k0, k1⟩ := trod11 Try.underlying48 rfl rfl cellsInt cellsInt cellsEnt h
  obtain ⟨a, e0, _, w0⟩ := DataW.trod_int Try.underlying3 k0
  obtain ⟨b, e1, _, w1⟩ := DataW.trod_int Try.underlying3 k1
  cases e0; cases e1
  exact ⟨⟨a, b⟩, rfl, wf64 w0, wf64 w1⟩

theorem openEntsC {v : Value} {fuel : Nat} {x : DataW H × List MemPlace} (h : DataW.trod enc Try.prog W 0 (fun _ => true) true fuel 22 [v] = some x) :
    ∃ (a : Option Addr) (n c : Nat) (E : Nat → En), v = .slice a n c ∧ IsEns W a n E ∧ n ≤ maxLen := by
  rcases open_slice Try.underlying22 h with ⟨h0, _⟩ | ⟨a, n, c, m, fl, DD, Pl, h0, _, hl, hm, hmm, _, hx⟩
  · cases h0
    exact ⟨none, 0, 0, fun _ => default, rfl, Or.inl rfl, by unfold maxLen; omega⟩
  · cases h0
    simp at hmm
    have each : ∀ i, i < n → ∃ e : En, W.cells? 0 (a.add (i * 2)) 2 = some [.int .i64 e.lev, .int .i64 e.date] := by
      intro i hi
      obtain ⟨cs', h1, h2⟩ := hx i (by omega)
      rw [cellsEnt] at h1
      obtain ⟨e, rfl, _⟩ := openEntC h2
      exact ⟨e, h1⟩
    obtain ⟨f, hf⟩ := choose_lt each
    refine ⟨some a, n, c, f, rfl, ?_, by omega⟩
    by_cases hn : n = 0
    · exact Or.inl hn
    · obtain ⟨b, off, spot⟩ := a
      have h00 := (World.cells?_some (hf 0 (by omega))).2.2 0 (by omega)
      have hspot : spot = none := by
        have : W.cell? ⟨b, off, spot⟩ = some (.int .i64 (f 0).lev) := by simpa [Addr.add] using h00
        simpa using World.cell?_spot this
      subst hspot
      have h00' : W.cell? ⟨b, off, none⟩ = some (.int .i64 (f 0).lev) := by simpa [Addr.add] using h00
      refine Or.inr ⟨b, off, rfl, lt_of_cell h00', fun i hi => ?_⟩
      have g := (World.cells?_some (hf i hi)).2.2
      have e : ∀ j, j < 2 → W.cell? ⟨b, off + i * 2 + j, none⟩ = [Value.int .i64 (f i).lev, .int .i64 (f i).date][j]? := by
        intro j hj
        have := g j hj
        rw [add_add, add_plain] at this
        rw [← this, Nat.add_assoc]
      exact ⟨by simpa using e 0 (by omega), by simpa using e 1 (by omega)⟩

theorem openEnts {a : Option Addr} {n c : Nat} {d : DataW H} {p : List MemPlace} (h : DataW.Trod enc Try.prog W 0 (fun _ => true) true 22 (.slice a n c) d p) : ∃ E : Nat → En, IsEns W a n E ∧ n ≤ maxLen := by
  obtain ⟨fuel, hf⟩ := h
  obtain ⟨a', n', c', E, hv, h2, h3⟩ := openEntsC hf
  cases hv
  exact ⟨E, h2, h3⟩
end
end Go.Proofs.Ytihjoiligkljlaa
