/-
  How a place and a tree that are handed in are opened: what lies in memory from their addresses on.
-/
import Derived.Test.YtnnhdcohfabenaaRows
import Derived.Test.YtnnhdcohfabenaaOpen
import Derived.Test.YtnnhdcohfabenaaNodesBase
import Derived.ProofKit
import Derived.Lib.SmallJoins
namespace Go.Proofs.Ytnnhdcohfabenaa
open Go.ChangeShapes Go.WideShapes Go.ChangeAt Go.RowKit Go.Deep
set_option linter.unusedVariables false

theorem cellsInt : Try.prog.cellsOf 3 = 1 := by kernel_rfl
theorem cellsNode : Try.prog.cellsOf 85 = 5 := by kernel_rfl
theorem cellsTree : Try.prog.cellsOf 36 = 2 := by kernel_rfl

section
variable {H : Type} {enc : TypeId × Value → H} {W : World}

theorem trod5 {P : Program} {base : Nat} {spare : Nat → Bool} {held : Bool} {t : TypeId} {f0 f1 f2 f3 f4 : Field} {fuel : Nat} {cs : List Value} {x : DataW H × List MemPlace} (hs : P.underlying t = some (.struct #[f0, f1, f2, f3, f4])) (hone : oneCellFields P #[f0, f1, f2, f3, f4] = true)
    (hC : P.cellsOf t = 5) (h : DataW.trod enc P W base spare held fuel t cs = some x) :
    ∃ (v0 v1 v2 v3 v4 : Value) (y0 y1 y2 y3 y4 : DataW H × List MemPlace) (n : Nat), cs = [v0, v1, v2, v3, v4] ∧ DataW.trod enc P W base spare held n f0.type [v0] = some y0 ∧ DataW.trod enc P W base spare held n f1.type [v1] = some y1 ∧
      DataW.trod enc P W base spare held n f2.type [v2] = some y2 ∧ DataW.trod enc P W base spare held n f3.type [v3] = some y3 ∧ DataW.trod enc P W base spare held n f4.type [v4] = some y4 := by
  obtain ⟨xs, n, _, rfl, hl, hlen, hf⟩ := DataW.trod_struct hs h
  rw [hC] at hl
  obtain ⟨o0, k0⟩ := hone_of hone 0 f0 rfl
  obtain ⟨o1, k1⟩ := hone_of hone 1 f1 rfl
  obtain ⟨o2, k2⟩ := hone_of hone 2 f2 rfl
  obtain ⟨o3, k3⟩ := hone_of hone 3 f3 rfl
  obtain ⟨o4, k4⟩ := hone_of hone 4 f4 rfl
  match xs, hlen, cs, hl with
  | [y0, y1, y2, y3, y4], _, [v0, v1, v2, v3, v4], _ =>
    refine ⟨v0, v1, v2, v3, v4, y0, y1, y2, y3, y4, n, rfl, ?_, ?_, ?_, ?_, ?_⟩
    · simpa [o0, k0] using hf 0 f0 rfl
    · simpa [o1, k1] using hf 1 f1 rfl
    · simpa [o2, k2] using hf 2 f2 rfl
    · simpa [o3, k3] using hf 3 f3 rfl
    · simpa [o4, k4] using hf 4 f4 rfl

theorem openStrsC {v : Value} {fuel : Nat} {x : DataW H × List MemPlace} (h : DataW.trod enc Try.prog W 0 (fun _ => true) true fuel 53 [v] = some x) :
    ∃ (a : Option Addr) (n c : Nat) (S : Nat → ByteArray), v = .slice a n c ∧ IsStrs W a n S ∧ Small n S ∧ n ≤ maxLen := by
  rcases DataW.trod_slice Try.underlying53 h with ⟨h0, _⟩ | ⟨a, n, c, _, _, _, _, h0, _⟩
  · cases h0
    exact ⟨none, 0, 0, fun _ => ByteArray.empty, rfl, Or.inl rfl, fun i hi => by omega, by unfold maxLen; omega⟩
  · cases h0
    obtain ⟨S, h1, h2, h3⟩ := openStrs (enc := enc) (W := W) (a := some a) (n := n) (cap := c) ⟨fuel, by simpa [Value.cells] using h⟩
    exact ⟨some a, n, c, S, rfl, h1, h2, h3⟩

theorem wf64 {z : Int} (h : (Lit.int .i64 z).wf = true) : In64 z := by
  have h1 : IntKind.i64.min = -9223372036854775808 := by decide
  have h2 : IntKind.i64.max = 9223372036854775807 := by decide
  simp [Lit.wf] at h
  unfold In64
  omega

theorem openIntsC {v : Value} {fuel : Nat} {x : DataW H × List MemPlace} (h : DataW.trod enc Try.prog W 0 (fun _ => true) true fuel 54 [v] = some x) :
    ∃ (a : Option Addr) (n c : Nat) (Z : Nat → Int), v = .slice a n c ∧ IsInts W a n Z ∧ (∀ i, i < n → In64 (Z i)) ∧ n ≤ maxLen := by
  rcases open_ints Try.underlying54 Try.underlying3 cellsInt h with ⟨h0, _⟩ | ⟨a, n, c, zs, h0, _, hl, hm, hz, _, hcell, hwf⟩
  · cases h0
    exact ⟨none, 0, 0, fun _ => 0, rfl, Or.inl rfl, fun i hi => by omega, by unfold maxLen; omega⟩
  · cases h0
    simp at hz
    obtain ⟨b, off, spot⟩ := a
    refine ⟨some ⟨b, off, spot⟩, n, c, fun i => zs.getD i 0, rfl, ?_, fun i hi => ?_, by omega⟩
    · by_cases hn : n = 0
      · exact Or.inl hn
      · have h00 := hcell 0 (by omega)
        have hspot : spot = none := by simpa [Addr.add] using World.cell?_spot h00
        subst hspot
        refine Or.inr ⟨b, off, rfl, lt_of_cell (by simpa [Addr.add] using h00), fun i hi => ?_⟩
        have := hcell i (by omega)
        rw [add_plain] at this
        exact this
    · apply wf64
      show (Lit.int .i64 (zs.getD i 0)).wf = true
      rw [List.getD_eq_getElem?_getD, List.getElem?_eq_getElem (by omega)]
      exact hwf _ (List.getElem_mem _)

theorem openNodeC {cs : List Value} {fuel : Nat} {x : DataW H × List MemPlace} (h : DataW.trod enc Try.prog W 0 (fun _ => true) true fuel 85 cs = some x) :
    ∃ (d : Nd) (l : Loc), cs = [.int .i64 d.kind, .string d.text, .slice l.nA d.nn l.nc, .slice l.kA d.kn l.kc, .int .i64 d.turn] ∧ NdIn W d l ∧ d.Fits := by
  obtain ⟨v0, v1, v2, v3, v4, y0, y1, y2, y3, y4, n, rfl, h0, h1, h2, h3, h4⟩ := trod5 Try.underlying85 (by kernel_rfl) cellsNode h
  obtain ⟨z0, e0, _, w0⟩ := DataW.trod_int Try.underlying3 h0
  obtain ⟨s, e1, _, w1⟩ := DataW.trod_string Try.underlying9 h1
  obtain ⟨a2, n2, c2, S, e2, i2, m2, l2⟩ := openStrsC h2
  obtain ⟨a3, n3, c3, Z, e3, i3, m3, l3⟩ := openIntsC h3
  obtain ⟨z4, e4, _, w4⟩ := DataW.trod_int Try.underlying3 h4
  cases e0; cases e1; cases e2; cases e3; cases e4
  exact ⟨⟨z0, s, n2, S, n3, Z, z4⟩, ⟨a2, c2, a3, c3⟩, rfl, ⟨i2, i3⟩, ⟨wf64 w0, wf64 w4, w1, m2, l2, l3, m3⟩⟩

theorem openNodesC {v : Value} {fuel : Nat} {x : DataW H × List MemPlace} (h : DataW.trod enc Try.prog W 0 (fun _ => true) true fuel 34 [v] = some x) :
    ∃ (a : Option Addr) (n c : Nat) (D : Nat → Nd) (L : Nat → Loc), v = .slice a n c ∧ IsNds W a n D L ∧ FitAll n D ∧ n ≤ maxLen := by
  rcases open_slice Try.underlying34 h with ⟨h0, _⟩ | ⟨a, n, c, m, fl, DD, Pl, h0, _, hl, hm, hmm, _, hx⟩
  · cases h0
    exact ⟨none, 0, 0, fun _ => default, fun _ => default, rfl, Or.inl rfl, fun i hi => by omega, by unfold maxLen; omega⟩
  · cases h0
    simp at hmm
    have each : ∀ i, i < n → ∃ p : Nd × Loc, W.cells? 0 (a.add (i * 5)) 5 = some [.int .i64 p.1.kind, .string p.1.text, .slice p.2.nA p.1.nn p.2.nc, .slice p.2.kA p.1.kn p.2.kc, .int .i64 p.1.turn] ∧ NdIn W p.1 p.2 ∧ p.1.Fits := by
      intro i hi
      obtain ⟨cs', h1, h2⟩ := hx i (by omega)
      rw [cellsNode] at h1
      obtain ⟨d, l, rfl, h3, h4⟩ := openNodeC h2
      exact ⟨(d, l), h1, h3, h4⟩
    obtain ⟨f, hf⟩ := choose_lt each
    refine ⟨some a, n, c, fun i => (f i).1, fun i => (f i).2, rfl, ?_, fun i hi => (hf i hi).2.2, by omega⟩
    by_cases hn : n = 0
    · exact Or.inl hn
    · obtain ⟨b, off, spot⟩ := a
      have h00 := (World.cells?_some (hf 0 (by omega)).1).2.2 0 (by omega)
      have hspot : spot = none := by
        have : W.cell? ⟨b, off, spot⟩ = some (.int .i64 (f 0).1.kind) := by simpa [Addr.add] using h00
        simpa using World.cell?_spot this
      subst hspot
      have h00' : W.cell? ⟨b, off, none⟩ = some (.int .i64 (f 0).1.kind) := by simpa [Addr.add] using h00
      refine Or.inr ⟨b, off, rfl, lt_of_cell h00', fun i hi => ?_⟩
      obtain ⟨h1, h2, _⟩ := hf i hi
      have g := (World.cells?_some h1).2.2
      have e : ∀ j, j < 5 → W.cell? ⟨b, off + i * 5 + j, none⟩ = [Value.int .i64 (f i).1.kind, .string (f i).1.text, .slice (f i).2.nA (f i).1.nn (f i).2.nc, .slice (f i).2.kA (f i).1.kn (f i).2.kc, .int .i64 (f i).1.turn][j]? := by
        intro j hj
        have := g j hj
        rw [add_add, add_plain] at this
        rw [← this, Nat.add_assoc]
      exact ⟨by simpa using e 0 (by omega), by simpa using e 1 (by omega), by simpa using e 2 (by omega), by simpa using e 3 (by omega), by simpa using e 4 (by omega), h2⟩
end
end Go.Proofs.Ytnnhdcohfabenaa
