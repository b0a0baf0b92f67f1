/-
  How a place and a tree that are handed in are opened: what lies in memory from their addresses on.
-/
import Derived.Test.YtihjoiligkljlaaRows
import Derived.Test.YtihjoiligkljlaaOpen
import Derived.Test.YtihjoiligkljlaaNodesBase
import Derived.ProofKit
import Derived.Lib.SmallJoins
namespace Go.Proofs.Ytihjoiligkljlaa
open Go.ChangeShapes Go.WideShapes Go.ChangeAt Go.RowKit Go.Deep
set_option linter.unusedVariables false

theorem cellsInt : Try.prog.cellsOf 3 = 1 := by kernel_rfl

theorem cellsNode : Try.prog.cellsOf 98 = 5 := by kernel_rfl

section
variable {H : Type} {enc : TypeId × Value → H} {W : World}

theorem trod5 {P : Program} {base : Nat} {spare : Nat → Bool} {held : Bool} {t : TypeId} {f0 f1 f2 f3 f4 : Field} {fuel : Nat} {cs : List Value} {x : DataW H × List MemPlace} (hs : P.underlying t = some (.struct #[f0, f1, f2, f3, f4])) (hone : oneCellFields P #[f0, f1, f2, f3, f4] = true)
    (hC : P.cellsOf t = 5) (h : DataW.trod enc P W base spare held fuel t cs = some x) :
    ∃ (v0 v1 v2 v3 v4 : Value) (y0 y1 y2 y3 y4 : DataW H × List MemPlace) (n : Nat), cs = [v0, v1, v2, v3, v4] ∧ DataW.trod enc P W base spare held n f0.type [v0] = some y0 ∧ DataW.trod enc P W base spare held n f1.type [v1] = some y1 ∧
      DataW.trod enc P W base spare held n f2.type [v2] = some y2 ∧ DataW.trod enc P W base spare held n f3.type [v3] = some y3 ∧ DataW.trod enc P W base spare held n f4.type [v4] = some y4 := by
  obtain ⟨xs, n, _, rfl, hl, hlen, hf⟩ := DataW.trod_struct hs h
  rw [hC] at hl
  obtain ⟨o0, k0⟩ := hone_of hone 0 f0 rfl
  obtain ⟨o1, k1⟩ := hone_of hone 1 f1 rfl
  obtain ⟨o2, k2⟩ := hone_of hone 2 f2 rfl
  obtain ⟨o3, k3⟩ := hone_of hone 3 f3 rfl
  obtain ⟨o4, k4⟩ := hone_of hone 4 f4 rfl
  match xs, hlen, cs, hl with
  | [y0, y1, y2, y3, y4], _, [v0, v1, v2, v3, v4], _ =>
    refine ⟨v0, v1, v2, v3, v4, y0, y1, y2, y3, y4, n, rfl, ?_, ?_, ?_, ?_, ?_⟩
    · simpa [o0, k0] using hf 0 f0 rfl
    · simpa [o1, k1] using hf 1 f1 rfl
    · simpa [o2, k2] using hf 2 f2 rfl
    · simpa [o3, k3] using hf 3 f3 rfl
    · simpa [o4, k4] using hf 4 f4 rfl

theorem openStrsC {v : Value} {fuel : Nat} {x : DataW H × List MemPlace} (h : DataW.trod enc Try.prog W 0 (fun _ => true) true fuel 83 [v] = some x) :
    ∃ (a : Option Addr) (n c : Nat) (S : Nat → ByteArray), v = .slice a n c ∧ IsStrs W a n S ∧ Small n S ∧ n ≤ maxLen := by
  rcases DataW.trod_slice Try.underlying83 h with ⟨h0, _⟩ | ⟨a, n, c, _, _, _, _, h0, _⟩
  · cases h0
    exact ⟨none, 0, 0, fun _ => ByteArray.empty, rfl, Or.inl rfl, fun i hi => by omega, by unfold maxLen; omega⟩
  · cases h0
    obtain ⟨S, h1, h2, h3⟩ := openStrs (enc := enc) (W := W) (a := some a) (n := n) (cap := c) ⟨fuel, by simpa [Value.cells] using h⟩
    exact ⟨some a, n, c, S, rfl, h1, h2, h3⟩

theorem wf64 {z : Int} (h : (Lit.int .i64 z).wf = true) : In64 z := by
  have h1 : IntKind.i64.min = -9223372036854775808 := by decide
  have h2 : IntKind.i64.max = 9223372036854775807 := by decide
  simp [Lit.wf] at h
  unfold In64
  omega

theorem openIntsC {v : Value} {fuel : Nat} {x : DataW H × List MemPlace} (h : DataW.trod enc Try.prog W 0 (fun _ => true) true fuel 36 [v] = some x) :
    ∃ (a : Option Addr) (n c : Nat) (Z : Nat → Int), v = .slice a n c ∧ IsInts W a n Z ∧ (∀ i, i < n → In64 (Z i)) ∧ n ≤ maxLen := by
  rcases open_ints Try.underlying36 Try.underlying3 cellsInt h with ⟨h0, _⟩ | ⟨a, n, c, zs, h0, _, hl, hm, hz, _, hcell, hwf⟩
  · cases h0
    exact ⟨none, 0, 0, fun _ => 0, rfl, Or.inl rfl, fun i hi => by omega, by unfold maxLen; omega⟩
  · cases h0
    simp at hz
    obtain ⟨b, off, spot⟩ := a
    refine ⟨some ⟨b, off, spot⟩, n, c, fun i => zs.getD i 0, rfl, ?_, fun i hi => ?_, by omega⟩
    · by_cases hn : n = 0
      · exact Or.inl hn
      · have h00 := hcell 0 (by omega)
        have hspot : spot = none := by simpa [Addr.add] using World.cell?_spot h00
        subst hspot
        refine Or.inr ⟨b, off, rfl, lt_of_cell (by simpa [Addr.add] using h00), fun i hi => ?_⟩
        have := hcell i (by omega)
        rw [add_plain] at this
        exact this
    · apply wf64
      show (Lit.int .i64 (zs.getD i 0)).wf = true
      rw [List.getD_eq_getElem?_getD, List.getElem?_eq_getElem (by omega)]
      exact hwf _ (List.getElem_mem _)

theorem openNodeC {cs : List Value} {fuel : Nat} {x : DataW H × List MemPlace} (h : DataW.trod enc Try.prog W 0 (fun _ => true) true fuel 98 cs = some x) :
    ∃ (d : Nd) (l : Loc), cs = [.int .i64 d.kind, .string d.text, .slice l.nA d.nn l.nc, .slice l.kA d.kn l.kc, .int .i64 d.turn] ∧ NdIn W d l ∧ d.Fits := by
  obtain ⟨v0, v1, v2, v3, v4, y0, y1, y2, y3, y4, n, rfl, h0, h1, h2, h3, h4⟩ := trod5 Try.underlying98 (by kernel_rfl) cellsNode h
  obtain ⟨z0, e0, _, w0⟩ := DataW.trod_int Try.underlying3 h0
  obtain ⟨s, e1, _, w1⟩ := DataW.trod_string Try.underlying9 h1
  obtain ⟨a2, n2, c2, S, e2, i2, m2, l2⟩ := openStrsC h2
  obtain ⟨a3, n3, c3, Z, e3, i3, m3, l3⟩ := openIntsC h3
  obtain ⟨z4, e4, _, w4⟩ := DataW.trod_int Try.underlying3 h4
  cases e0; cases e1; cases e2; cases e3; cases e4
  exact ⟨⟨z0, s, n2, S, n3, Z, z4⟩, ⟨a2, c2, a3, c3⟩, rfl, ⟨i2, i3⟩, ⟨wf64 w0, wf64 w4, w1, m2, l2, l3, m3⟩⟩

end
end Go.Proofs.Ytihjoiligkljlaa
