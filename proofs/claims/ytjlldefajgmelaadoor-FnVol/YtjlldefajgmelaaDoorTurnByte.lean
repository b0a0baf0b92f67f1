/-
  A text with one of its bytes turned in a copy: what lies in memory, and what comes back. Plain facts.
-/
import Derived.Test.YtjlldefajgmelaaDoorVolBase
import Derived.Test.YtjlldefajgmelaaDoorBlk
import Derived.Test.YtjlldefajgmelaaDoorSumMore
import Derived.Test.YtjlldefajgmelaaDoorDraw1
import Derived.ShutString
import Derived.ProofKit
import Derived.OpenShut
import Derived.ChangeOld
import Derived.Lib.SmallJoins
namespace Go.Proofs.YtjlldefajgmelaaDoor
open Go.ChangeShapes Go.WideShapes Go.ChangeAt Go.RowKit
set_option linter.unusedVariables false

theorem cell?_setCell_far (U : World) (b k j : Nat) (v : Value) (h : k ≠ j) : (U.setCell ⟨b, k, none⟩ v).cell? ⟨b, j, none⟩ = U.cell? ⟨b, j, none⟩ := by
  refine World.cell?_setCell_other U _ _ v ?_
  intro e
  injection e with _ h2
  exact h h2

theorem bytes_free (W : World) (s : ByteArray) (j : Nat) (hj : j < s.size) : (Lib.bytesWorld W 5 s).frozen? ⟨W.heap.size, j, none⟩ = false := by
  have hsz : s.size ≤ (Lib.bytesCells W 5 s).size := by simp [Lib.bytesCells]
  simp [World.frozen?, Lib.bytesWorld_at_new]
  omega

theorem getD_byte (s : ByteArray) (k : Nat) (hk : k < s.size) : s.data.toList.getD k 0 = s[k] := by
  rw [List.getD_eq_getElem?_getD, List.getElem?_eq_getElem (by simpa using hk)]; rfl

/-- What the bytes of a text are in a new block, one of them turned. -/
theorem turned2 {W : World} {s : ByteArray} {k : Nat} (hk : k < s.size) (y : UInt8) (j : Nat) (hj : j < (s.data.toList.set k y).length) :
    ((Lib.bytesWorld W 5 s).setCell ⟨W.heap.size, k, none⟩ (.int .u8 (y.toNat : Int))).cell? ((⟨W.heap.size, 0, none⟩ : Addr).add j) = some (.int .u8 (((s.data.toList.set k y)[j]).toNat : Int)) := by
  have hjs : j < s.size := by simpa using hj
  rw [add_plain, Nat.zero_add]
  have hb := Lib.bytesWorld_cell W 5 s
  by_cases e : j = k
  · subst e
    have h1 := hb j hjs
    have h2 := World.cell?_setCell_same (w := Lib.bytesWorld W 5 s) (a := ⟨W.heap.size, j, none⟩) (v := .int .u8 (y.toNat : Int)) h1
    rw [h2]
    simp
  · rw [cell?_setCell_far (Lib.bytesWorld W 5 s) W.heap.size k j _ (Ne.symm e), hb j hjs]
    simp [Ne.symm e, hjs]

theorem back_turned (W W' : World) (s : ByteArray) (k : Nat) (hk : k < s.size) (y : UInt8) (l2 : List UInt8) (hl2 : l2 = s.data.toList.set k y) (hW : ∀ j, W'.cell? ⟨W.heap.size, j, none⟩ = ((Lib.bytesWorld W 5 s).setCell ⟨W.heap.size, k, none⟩ (.int .u8 (y.toNat : Int))).cell? ⟨W.heap.size, j, none⟩) (c : Nat) :
    (convert 22 9 (.slice (some ⟨W.heap.size, 0, none⟩) s.size c)).run Tryd.prog W' = .ok (.string ⟨l2.toArray⟩) W' := by
  have h := run_convert_bytes_back (P := Tryd.prog) W' 22 9 5 ⟨W.heap.size, 0, none⟩ c l2 Tryd.underlying22 Tryd.underlying5 Tryd.underlying9 (fun j hj => by
    subst hl2
    rw [add_plain, hW, ← add_plain]
    exact turned2 hk y j hj)
  have hlen : l2.length = s.size := by rw [hl2]; simp
  rwa [hlen] at h
end Go.Proofs.YtjlldefajgmelaaDoor
