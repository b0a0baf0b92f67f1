/-
  No cell of these rows narrows 'for every input' (looked for: loops, veiled, ifaces, maps, wideKeys, modest, calm, conditions, laid).
  DERIVED. THE GIVEN ROWS OF THIS SEAT. 5 by the template 'for every input the law returns true; each argument reads behind the call as it read before'; 0 by the template 'total and deterministic' (their statements: YtkbccbooiaebfaaTotals.lean).
  GIVEN WITH THE SEED: the statements are not yours to turn. If you find one false, say at which input.
  Laid BY PROGRAM, IN A SANDBOX (cutbox-rows.mjs): the forced cells as the released guide's own fill.sh prints them over the translation ae0f9036fec241b4… (all of the seat's roots in one cut). By AI agents, Wed Nov 11 2026. No macro, syntax, notation, axiom, sorry.
-/
import Derived.Test.YtkbccbooiaebfaaChecked
import GoSem.Claim
import GoSem.ClaimJoined
import GoSem.ClaimMapViews
import Derived.JoinedTies
import Derived.KernelRfl
namespace Go.Proofs.Ytkbccbooiaebfaa
/- THE CELL 'sum', in the pinned program and in every row, IS THE sha256 OF THE DUMP (.gsa) THAT YtkbccbooiaebfaaProg.lean LOADS. Nothing in Lean hashes anything: it is a label: what it is worth is what the hold of that sum in a sandbox is worth. -/
noncomputable def Try.pinned : Pinned := { name := "ytkbccbooiaebfaa", sum := "ae0f9036fec241b4dc9b436366074a08eec0d04cd6ad84f15b01a49f67e1de70", checked := Try.checked }
namespace Rows
def none {H : Type} : Left H := { results := [], args := [] }

/-- 'laws.FnExactLookAll': WHATEVER THE INPUT: true; the input reads as it did. -/
def fnExactLookAllSpec : ChangeSpec := { name := "fnExactLookAll", fn := fun _ => fun
  | [d] => { results := [.lit (.bool true)], args := [d] }
  | _ => none }
def fnExactLookAllRow : OpenClaim := { program := "ytkbccbooiaebfaa", sum := "ae0f9036fec241b4dc9b436366074a08eec0d04cd6ad84f15b01a49f67e1de70", func := "loop.example/cellarage/laws.FnExactLookAll", spec := "fnExactLookAll", unfollowed := true, recurses := true, apart := false }
def FnExactLookAllSaid : Prop := fnExactLookAllRow.holds Try.pinned (OpenSpec.ofChange fnExactLookAllSpec)

/-- ITS FALSE NEIGHBOUR: 'it returns false'. Refute it at one input. -/
def fnExactLookAllWrong : ChangeSpec := { name := "fnExactLookAll", fn := fun _ => fun
  | [d] => { results := [.lit (.bool false)], args := [d] }
  | _ => none }
def FnExactLookAllWrongFalsely : Prop := fnExactLookAllRow.holds Try.pinned (OpenSpec.ofChange fnExactLookAllWrong)

/-- 'laws.FnExactLookText': WHATEVER THE INPUT: true; the input reads as it did. -/
def fnExactLookTextSpec : ChangeSpec := { name := "fnExactLookText", fn := fun _ => fun
  | [d] => { results := [.lit (.bool true)], args := [d] }
  | _ => none }
def fnExactLookTextRow : OpenClaim := { program := "ytkbccbooiaebfaa", sum := "ae0f9036fec241b4dc9b436366074a08eec0d04cd6ad84f15b01a49f67e1de70", func := "loop.example/cellarage/laws.FnExactLookText", spec := "fnExactLookText", inPlace := ["internal/abi.NoEscape", "internal/bytealg.MakeNoZero"], unfollowed := true, recurses := true, apart := false }
def FnExactLookTextSaid : Prop := fnExactLookTextRow.holds Try.pinned (OpenSpec.ofChange fnExactLookTextSpec)

/-- ITS FALSE NEIGHBOUR: 'it returns false'. Refute it at one input. -/
def fnExactLookTextWrong : ChangeSpec := { name := "fnExactLookText", fn := fun _ => fun
  | [d] => { results := [.lit (.bool false)], args := [d] }
  | _ => none }
def FnExactLookTextWrongFalsely : Prop := fnExactLookTextRow.holds Try.pinned (OpenSpec.ofChange fnExactLookTextWrong)

/-- 'laws.FnExactLookSame': WHATEVER THE INPUT: true; the input reads as it did. -/
def fnExactLookSameSpec : ChangeSpec := { name := "fnExactLookSame", fn := fun _ => fun
  | [d1, d2] => { results := [.lit (.bool true)], args := [d1, d2] }
  | _ => none }
def fnExactLookSameRow : OpenClaim := { program := "ytkbccbooiaebfaa", sum := "ae0f9036fec241b4dc9b436366074a08eec0d04cd6ad84f15b01a49f67e1de70", func := "loop.example/cellarage/laws.FnExactLookSame", spec := "fnExactLookSame", inPlace := ["internal/abi.NoEscape", "internal/bytealg.MakeNoZero"], unfollowed := true, recurses := true, apart := false }
def FnExactLookSameSaid : Prop := fnExactLookSameRow.holds Try.pinned (OpenSpec.ofChange fnExactLookSameSpec)

/-- ITS FALSE NEIGHBOUR: 'it returns false'. Refute it at one input. -/
def fnExactLookSameWrong : ChangeSpec := { name := "fnExactLookSame", fn := fun _ => fun
  | [d1, d2] => { results := [.lit (.bool false)], args := [d1, d2] }
  | _ => none }
def FnExactLookSameWrongFalsely : Prop := fnExactLookSameRow.holds Try.pinned (OpenSpec.ofChange fnExactLookSameWrong)

/-- 'laws.FnExactLookDiff': WHATEVER THE INPUT: true; the input reads as it did. -/
def fnExactLookDiffSpec : ChangeSpec := { name := "fnExactLookDiff", fn := fun _ => fun
  | [d1, d2] => { results := [.lit (.bool true)], args := [d1, d2] }
  | _ => none }
def fnExactLookDiffRow : OpenClaim := { program := "ytkbccbooiaebfaa", sum := "ae0f9036fec241b4dc9b436366074a08eec0d04cd6ad84f15b01a49f67e1de70", func := "loop.example/cellarage/laws.FnExactLookDiff", spec := "fnExactLookDiff", inPlace := ["internal/abi.NoEscape", "internal/bytealg.MakeNoZero"], unfollowed := true, recurses := true, apart := false }
def FnExactLookDiffSaid : Prop := fnExactLookDiffRow.holds Try.pinned (OpenSpec.ofChange fnExactLookDiffSpec)

/-- ITS FALSE NEIGHBOUR: 'it returns false'. Refute it at one input. -/
def fnExactLookDiffWrong : ChangeSpec := { name := "fnExactLookDiff", fn := fun _ => fun
  | [d1, d2] => { results := [.lit (.bool false)], args := [d1, d2] }
  | _ => none }
def FnExactLookDiffWrongFalsely : Prop := fnExactLookDiffRow.holds Try.pinned (OpenSpec.ofChange fnExactLookDiffWrong)

/-- 'laws.FnExactLookMany': WHATEVER THE INPUT: true; the input reads as it did. -/
def fnExactLookManySpec : ChangeSpec := { name := "fnExactLookMany", fn := fun _ => fun
  | [d] => { results := [.lit (.bool true)], args := [d] }
  | _ => none }
def fnExactLookManyRow : OpenClaim := { program := "ytkbccbooiaebfaa", sum := "ae0f9036fec241b4dc9b436366074a08eec0d04cd6ad84f15b01a49f67e1de70", func := "loop.example/cellarage/laws.FnExactLookMany", spec := "fnExactLookMany", apart := false }
def FnExactLookManySaid : Prop := fnExactLookManyRow.holds Try.pinned (OpenSpec.ofChange fnExactLookManySpec)

/-- ITS FALSE NEIGHBOUR: 'it returns false'. Refute it at one input. -/
def fnExactLookManyWrong : ChangeSpec := { name := "fnExactLookMany", fn := fun _ => fun
  | [d] => { results := [.lit (.bool false)], args := [d] }
  | _ => none }
def FnExactLookManyWrongFalsely : Prop := fnExactLookManyRow.holds Try.pinned (OpenSpec.ofChange fnExactLookManyWrong)

/- THE SECOND FORM. 'bulk': how many values and letters a reading holds, each counted each time it is reached (what is shared counts as often as it is met; a slice's spare places count too). A statement '..UptoSaid' is the law's where the arguments, and the package variables that the reading takes, are together of bulk at most 1048576: NARROWER than '..Said'. Prove '..Said' where nothing that the law and all that it calls make is longer than what came in: it says more and counts as full. Else prove '..UptoSaid'. A law counts once. -/
mutual
def uptoBulk {H : Type} : DataW H → Nat
  | .lit (.string bytes) => bytes.length + 1
  | .lit _ => 1
  | .nil => 1
  | .ptr d => uptoBulk d + 1
  | .slice elems spare => uptoBulkAll elems + uptoBulkAll spare + 1
  | .agg parts => uptoBulkAll parts + 1
  | .iface _ d => uptoBulk d + 1
  | .map entries => uptoBulkEntries entries + 1
  | .held _ => 1
def uptoBulkAll {H : Type} : List (DataW H) → Nat
  | [] => 0
  | d :: r => uptoBulk d + uptoBulkAll r
def uptoBulkEntries {H : Type} : List (Lit × DataW H) → Nat
  | [] => 0
  | x :: r => uptoBulkEntry x + uptoBulkEntries r
def uptoBulkEntry {H : Type} : Lit × DataW H → Nat
  | (.string bytes, d) => bytes.length + uptoBulk d + 1
  | (_, d) => uptoBulk d + 1
 end
def uptoSmall : (H : Type) → List (DataW H) → Bool := fun _ ds => decide (uptoBulkAll ds ≤ 1048576)
def OpenSpec.upto (s : _root_.Go.ChangeSpec) : _root_.Go.OpenSpec := { _root_.Go.OpenSpec.ofChange s with cond := some uptoSmall }

/-- 'laws.FnExactLookAll', WHERE WHAT IT READS IS OF BULK AT MOST 1048576: true; the input reads as it did. -/
def fnExactLookAllUptoRow : OpenClaim := { program := "ytkbccbooiaebfaa", sum := "ae0f9036fec241b4dc9b436366074a08eec0d04cd6ad84f15b01a49f67e1de70", func := "loop.example/cellarage/laws.FnExactLookAll", spec := "fnExactLookAll", unfollowed := true, recurses := true, apart := false, narrowed := true }
def FnExactLookAllUptoSaid : Prop := fnExactLookAllUptoRow.holds Try.pinned (OpenSpec.upto fnExactLookAllSpec)

/-- 'laws.FnExactLookText', WHERE WHAT IT READS IS OF BULK AT MOST 1048576: true; the input reads as it did. -/
def fnExactLookTextUptoRow : OpenClaim := { program := "ytkbccbooiaebfaa", sum := "ae0f9036fec241b4dc9b436366074a08eec0d04cd6ad84f15b01a49f67e1de70", func := "loop.example/cellarage/laws.FnExactLookText", spec := "fnExactLookText", inPlace := ["internal/abi.NoEscape", "internal/bytealg.MakeNoZero"], unfollowed := true, recurses := true, apart := false, narrowed := true }
def FnExactLookTextUptoSaid : Prop := fnExactLookTextUptoRow.holds Try.pinned (OpenSpec.upto fnExactLookTextSpec)

/-- 'laws.FnExactLookSame', WHERE WHAT IT READS IS OF BULK AT MOST 1048576: true; the input reads as it did. -/
def fnExactLookSameUptoRow : OpenClaim := { program := "ytkbccbooiaebfaa", sum := "ae0f9036fec241b4dc9b436366074a08eec0d04cd6ad84f15b01a49f67e1de70", func := "loop.example/cellarage/laws.FnExactLookSame", spec := "fnExactLookSame", inPlace := ["internal/abi.NoEscape", "internal/bytealg.MakeNoZero"], unfollowed := true, recurses := true, apart := false, narrowed := true }
def FnExactLookSameUptoSaid : Prop := fnExactLookSameUptoRow.holds Try.pinned (OpenSpec.upto fnExactLookSameSpec)

/-- 'laws.FnExactLookDiff', WHERE WHAT IT READS IS OF BULK AT MOST 1048576: true; the input reads as it did. -/
def fnExactLookDiffUptoRow : OpenClaim := { program := "ytkbccbooiaebfaa", sum := "ae0f9036fec241b4dc9b436366074a08eec0d04cd6ad84f15b01a49f67e1de70", func := "loop.example/cellarage/laws.FnExactLookDiff", spec := "fnExactLookDiff", inPlace := ["internal/abi.NoEscape", "internal/bytealg.MakeNoZero"], unfollowed := true, recurses := true, apart := false, narrowed := true }
def FnExactLookDiffUptoSaid : Prop := fnExactLookDiffUptoRow.holds Try.pinned (OpenSpec.upto fnExactLookDiffSpec)

/-- 'laws.FnExactLookMany', WHERE WHAT IT READS IS OF BULK AT MOST 1048576: true; the input reads as it did. -/
def fnExactLookManyUptoRow : OpenClaim := { program := "ytkbccbooiaebfaa", sum := "ae0f9036fec241b4dc9b436366074a08eec0d04cd6ad84f15b01a49f67e1de70", func := "loop.example/cellarage/laws.FnExactLookMany", spec := "fnExactLookMany", apart := false, narrowed := true }
def FnExactLookManyUptoSaid : Prop := fnExactLookManyUptoRow.holds Try.pinned (OpenSpec.upto fnExactLookManySpec)

end Rows
end Go.Proofs.Ytkbccbooiaebfaa
