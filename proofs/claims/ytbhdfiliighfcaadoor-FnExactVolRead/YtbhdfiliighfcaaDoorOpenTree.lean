/-
  How a place and a tree that are handed in are opened: what lies in memory from their addresses on.
-/
import Derived.Test.YtbhdfiliighfcaaDoorRows
import Derived.Test.YtbhdfiliighfcaaDoorOpen
import Derived.Test.YtbhdfiliighfcaaDoorNodesBase
import Derived.ProofKit
import Derived.Lib.SmallJoins
namespace Go.Proofs.YtbhdfiliighfcaaDoor
open Go.ChangeShapes Go.WideShapes Go.ChangeAt Go.RowKit Go.Deep
set_option linter.unusedVariables false

theorem cellsInt : Tryd.prog.cellsOf 3 = 1 := by kernel_rfl

section
variable {H : Type} {enc : TypeId × Value → H} {W : World}

theorem trod5 {P : Program} {base : Nat} {spare : Nat → Bool} {held : Bool} {t : TypeId} {f0 f1 f2 f3 f4 : Field} {fuel : Nat} {cs : List Value} {x : DataW H × List MemPlace} (hs : P.underlying t = some (.struct #[f0, f1, f2, f3, f4])) (hone : oneCellFields P #[f0, f1, f2, f3, f4] = true)
    (hC : P.cellsOf t = 5) (h : DataW.trod enc P W base spare held fuel t cs = some x) :
    ∃ (v0 v1 v2 v3 v4 : Value) (y0 y1 y2 y3 y4 : DataW H × List MemPlace) (n : Nat), cs = [v0, v1, v2, v3, v4] ∧ DataW.trod enc P W base spare held n f0.type [v0] = some y0 ∧ DataW.trod enc P W base spare held n f1.type [v1] = some y1 ∧
      DataW.trod enc P W base spare held n f2.type [v2] = some y2 ∧ DataW.trod enc P W base spare held n f3.type [v3] = some y3 ∧ DataW.trod enc P W base spare held n f4.type [v4] = some y4 := by
  obtain ⟨xs, n, _, rfl, hl, hlen, hf⟩ := DataW.trod_struct hs h
  rw [hC] at hl
  obtain ⟨o0, k0⟩ := hone_of hone 0 f0 rfl
  obtain ⟨o1, k1⟩ := hone_of hone 1 f1 rfl
  obtain ⟨o2, k2⟩ := hone_of hone 2 f2 rfl
  obtain ⟨o3, k3⟩ := hone_of hone 3 f3 rfl
  obtain ⟨o4, k4⟩ := hone_of hone 4 f4 rfl
  match xs, hlen, cs, hl with
  | [y0, y1, y2, y3, y4], _, [v0, v1, v2, v3, v4], _ =>
    refine ⟨v0, v1, v2, v3, v4, y0, y1, y2, y3, y4, n, rfl, ?_, ?_, ?_, ?_, ?_⟩
    · simpa [o0, k0] using hf 0 f0 rfl
    · simpa [o1, k1] using hf 1 f1 rfl
    · simpa [o2, k2] using hf 2 f2 rfl
    · simpa [o3, k3] using hf 3 f3 rfl
    · simpa [o4, k4] using hf 4 f4 rfl

theorem openStrsC {v : Value} {fuel : Nat} {x : DataW H × List MemPlace} (h : DataW.trod enc Tryd.prog W 0 (fun _ => true) true fuel 36 [v] = some x) :
    ∃ (a : Option Addr) (n c : Nat) (S : Nat → ByteArray), v = .slice a n c ∧ IsStrs W a n S ∧ Small n S ∧ n ≤ maxLen := by
  rcases DataW.trod_slice Tryd.underlying36 h with ⟨h0, _⟩ | ⟨a, n, c, _, _, _, _, h0, _⟩
  · cases h0
    exact ⟨none, 0, 0, fun _ => ByteArray.empty, rfl, Or.inl rfl, fun i hi => by omega, by unfold maxLen; omega⟩
  · cases h0
    obtain ⟨S, h1, h2, h3⟩ := openStrs (enc := enc) (W := W) (a := some a) (n := n) (cap := c) ⟨fuel, by simpa [Value.cells] using h⟩
    exact ⟨some a, n, c, S, rfl, h1, h2, h3⟩

theorem wf64 {z : Int} (h : (Lit.int .i64 z).wf = true) : In64 z := by
  have h1 : IntKind.i64.min = -9223372036854775808 := by decide
  have h2 : IntKind.i64.max = 9223372036854775807 := by decide
  simp [Lit.wf] at h
  unfold In64
  omega

end
end Go.Proofs.YtbhdfiliighfcaaDoor
