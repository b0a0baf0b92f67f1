/-
  Pieces, as values: plain facts.
-/
import Derived.Test.YtjlldefajgmelaaDoorSumMath
import Derived.Test.YtjlldefajgmelaaDoorIntsBase
namespace Go.Proofs.YtjlldefajgmelaaDoor
open Go.RowKit
set_option linter.unusedVariables false

structure Vo where
  num : Int
  cnt : Int
  sum : Int
  text : ByteArray

instance : Inhabited Vo := ⟨⟨0, 0, 0, ByteArray.empty⟩⟩

def voV (v : Vo) : Value := .agg #[.int .i64 v.num, .int .i64 v.cnt, .int .i64 v.sum, .string v.text]

/-- A piece that is right. -/
def voOk (v : Vo) : Bool := decide (1 ≤ v.cnt) && decide (v.cnt ≤ 40) && decide (1 ≤ v.num) && decide (v.num ≤ v.cnt) && decide (v.text.size ≤ 2000) && (v.sum == ((sumB v.text : Nat) : Int))

theorem voOk_iff {v : Vo} : voOk v = true ↔ 1 ≤ v.cnt ∧ v.cnt ≤ 40 ∧ 1 ≤ v.num ∧ v.num ≤ v.cnt ∧ v.text.size ≤ 2000 ∧ v.sum = ((sumB v.text : Nat) : Int) := by
  unfold voOk; simp [and_assoc]

def Vo.Fits (v : Vo) : Prop := In64 v.num ∧ In64 v.cnt ∧ In64 v.sum ∧ v.text.size ≤ maxLen
end Go.Proofs.YtjlldefajgmelaaDoor
