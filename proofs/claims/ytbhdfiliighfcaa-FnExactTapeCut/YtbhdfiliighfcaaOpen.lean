/-
  How a list of texts that is handed in is opened: n texts lie in memory from its address on.
-/
import Derived.Test.YtbhdfiliighfcaaRows
import Derived.Test.YtbhdfiliighfcaaStrsBase
import Derived.ProofKit
namespace Go.Proofs.Ytbhdfiliighfcaa
open Go.ChangeShapes Go.WideShapes Go.ChangeAt Go.RowKit

theorem own : ownKnob Try.prog.godebug = none := by kernel_rfl
theorem laidOut : laidOutB Try.prog = true := by kernel_rfl
theorem cellsStr : Try.prog.cellsOf 9 = 1 := by kernel_rfl

theorem lt_of_cell {w : World} {b o : Nat} {v : Value} (h : w.cell? ⟨b, o, none⟩ = some v) : b < w.heap.size := by
  simp only [World.cell?] at h
  by_cases hb : b < w.heap.size
  · exact hb
  · rw [Array.getElem?_eq_none (by omega)] at h
    simp at h
end Go.Proofs.Ytbhdfiliighfcaa
