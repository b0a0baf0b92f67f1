/-
  No cell of these rows narrows 'for every input' (looked for: loops, veiled, ifaces, maps, wideKeys, modest, calm, conditions, laid).
  DERIVED. THE GIVEN ROWS OF THIS SEAT. 4 by the template 'for every input the law returns true; each argument reads behind the call as it read before'; 0 by the template 'total and deterministic' (their statements: YtoblndhmkehoaaaTotals.lean).
  GIVEN WITH THE SEED: the statements are not yours to turn. If you find one false, say at which input.
  Laid BY PROGRAM, IN A SANDBOX (cutbox-rows.mjs): the forced cells as the released guide's own fill.sh prints them over the translation 4a3a19ab5170b2f2… (all of the seat's roots in one cut). By AI agents, Wed Nov 11 2026. No macro, syntax, notation, axiom, sorry.
-/
import Derived.Test.YtoblndhmkehoaaaChecked
import GoSem.Claim
import GoSem.ClaimJoined
import GoSem.ClaimMapViews
import Derived.JoinedTies
import Derived.KernelRfl
namespace Go.Proofs.Ytoblndhmkehoaaa
/- THE CELL 'sum', in the pinned program and in every row, IS THE sha256 OF THE DUMP (.gsa) THAT YtoblndhmkehoaaaProg.lean LOADS. Nothing in Lean hashes anything: it is a label: what it is worth is what the hold of that sum in a sandbox is worth. -/
noncomputable def Try.pinned : Pinned := { name := "ytoblndhmkehoaaa", sum := "4a3a19ab5170b2f24bb5674cf1cf17821a67f4da73ec7f6240deaf01b73d58b6", checked := Try.checked }
namespace Rows
def none {H : Type} : Left H := { results := [], args := [] }

/-- 'laws.FnDump': WHATEVER THE INPUT: true; the input reads as it did. -/
def fnDumpSpec : ChangeSpec := { name := "fnDump", fn := fun _ => fun
  | [d] => { results := [.lit (.bool true)], args := [d] }
  | _ => none }
def fnDumpRow : OpenClaim := { program := "ytoblndhmkehoaaa", sum := "4a3a19ab5170b2f24bb5674cf1cf17821a67f4da73ec7f6240deaf01b73d58b6", func := "loop.example/cellarage/laws.FnDump", spec := "fnDump", unfollowed := true, recurses := true, apart := false }
def FnDumpSaid : Prop := fnDumpRow.holds Try.pinned (OpenSpec.ofChange fnDumpSpec)

/-- ITS FALSE NEIGHBOUR: 'it returns false'. Refute it at one input. -/
def fnDumpWrong : ChangeSpec := { name := "fnDump", fn := fun _ => fun
  | [d] => { results := [.lit (.bool false)], args := [d] }
  | _ => none }
def FnDumpWrongFalsely : Prop := fnDumpRow.holds Try.pinned (OpenSpec.ofChange fnDumpWrong)

/-- 'laws.FnDumpSize': WHATEVER THE INPUT: true; the input reads as it did. -/
def fnDumpSizeSpec : ChangeSpec := { name := "fnDumpSize", fn := fun _ => fun
  | [d] => { results := [.lit (.bool true)], args := [d] }
  | _ => none }
def fnDumpSizeRow : OpenClaim := { program := "ytoblndhmkehoaaa", sum := "4a3a19ab5170b2f24bb5674cf1cf17821a67f4da73ec7f6240deaf01b73d58b6", func := "loop.example/cellarage/laws.FnDumpSize", spec := "fnDumpSize", unfollowed := true, recurses := true, apart := false }
def FnDumpSizeSaid : Prop := fnDumpSizeRow.holds Try.pinned (OpenSpec.ofChange fnDumpSizeSpec)

/-- ITS FALSE NEIGHBOUR: 'it returns false'. Refute it at one input. -/
def fnDumpSizeWrong : ChangeSpec := { name := "fnDumpSize", fn := fun _ => fun
  | [d] => { results := [.lit (.bool false)], args := [d] }
  | _ => none }
def FnDumpSizeWrongFalsely : Prop := fnDumpSizeRow.holds Try.pinned (OpenSpec.ofChange fnDumpSizeWrong)

/-- 'laws.FnDumpWhole': WHATEVER THE INPUT: true; the input reads as it did. -/
def fnDumpWholeSpec : ChangeSpec := { name := "fnDumpWhole", fn := fun _ => fun
  | [d] => { results := [.lit (.bool true)], args := [d] }
  | _ => none }
def fnDumpWholeRow : OpenClaim := { program := "ytoblndhmkehoaaa", sum := "4a3a19ab5170b2f24bb5674cf1cf17821a67f4da73ec7f6240deaf01b73d58b6", func := "loop.example/cellarage/laws.FnDumpWhole", spec := "fnDumpWhole", unfollowed := true, recurses := true, apart := false }
def FnDumpWholeSaid : Prop := fnDumpWholeRow.holds Try.pinned (OpenSpec.ofChange fnDumpWholeSpec)

/-- ITS FALSE NEIGHBOUR: 'it returns false'. Refute it at one input. -/
def fnDumpWholeWrong : ChangeSpec := { name := "fnDumpWhole", fn := fun _ => fun
  | [d] => { results := [.lit (.bool false)], args := [d] }
  | _ => none }
def FnDumpWholeWrongFalsely : Prop := fnDumpWholeRow.holds Try.pinned (OpenSpec.ofChange fnDumpWholeWrong)

/-- 'laws.FnDumpKids': WHATEVER THE INPUT: true; the input reads as it did. -/
def fnDumpKidsSpec : ChangeSpec := { name := "fnDumpKids", fn := fun _ => fun
  | [d] => { results := [.lit (.bool true)], args := [d] }
  | _ => none }
def fnDumpKidsRow : OpenClaim := { program := "ytoblndhmkehoaaa", sum := "4a3a19ab5170b2f24bb5674cf1cf17821a67f4da73ec7f6240deaf01b73d58b6", func := "loop.example/cellarage/laws.FnDumpKids", spec := "fnDumpKids", unfollowed := true, recurses := true, apart := false }
def FnDumpKidsSaid : Prop := fnDumpKidsRow.holds Try.pinned (OpenSpec.ofChange fnDumpKidsSpec)

/-- ITS FALSE NEIGHBOUR: 'it returns false'. Refute it at one input. -/
def fnDumpKidsWrong : ChangeSpec := { name := "fnDumpKids", fn := fun _ => fun
  | [d] => { results := [.lit (.bool false)], args := [d] }
  | _ => none }
def FnDumpKidsWrongFalsely : Prop := fnDumpKidsRow.holds Try.pinned (OpenSpec.ofChange fnDumpKidsWrong)

/- THE SECOND FORM. 'bulk': how many values and letters a reading holds, each counted each time it is reached (what is shared counts as often as it is met; a slice's spare places count too). A statement '..UptoSaid' is the law's where the arguments, and the package variables that the reading takes, are together of bulk at most 1048576: NARROWER than '..Said'. Prove '..Said' where nothing that the law and all that it calls make is longer than what came in: it says more and counts as full. Else prove '..UptoSaid'. A law counts once. -/
mutual
def uptoBulk {H : Type} : DataW H → Nat
  | .lit (.string bytes) => bytes.length + 1
  | .lit _ => 1
  | .nil => 1
  | .ptr d => uptoBulk d + 1
  | .slice elems spare => uptoBulkAll elems + uptoBulkAll spare + 1
  | .agg parts => uptoBulkAll parts + 1
  | .iface _ d => uptoBulk d + 1
  | .map entries => uptoBulkEntries entries + 1
  | .held _ => 1
def uptoBulkAll {H : Type} : List (DataW H) → Nat
  | [] => 0
  | d :: r => uptoBulk d + uptoBulkAll r
def uptoBulkEntries {H : Type} : List (Lit × DataW H) → Nat
  | [] => 0
  | x :: r => uptoBulkEntry x + uptoBulkEntries r
def uptoBulkEntry {H : Type} : Lit × DataW H → Nat
  | (.string bytes, d) => bytes.length + uptoBulk d + 1
  | (_, d) => uptoBulk d + 1
 end
def uptoSmall : (H : Type) → List (DataW H) → Bool := fun _ ds => decide (uptoBulkAll ds ≤ 1048576)
def OpenSpec.upto (s : _root_.Go.ChangeSpec) : _root_.Go.OpenSpec := { _root_.Go.OpenSpec.ofChange s with cond := some uptoSmall }

/-- 'laws.FnDump', WHERE WHAT IT READS IS OF BULK AT MOST 1048576: true; the input reads as it did. -/
def fnDumpUptoRow : OpenClaim := { program := "ytoblndhmkehoaaa", sum := "4a3a19ab5170b2f24bb5674cf1cf17821a67f4da73ec7f6240deaf01b73d58b6", func := "loop.example/cellarage/laws.FnDump", spec := "fnDump", unfollowed := true, recurses := true, apart := false, narrowed := true }
def FnDumpUptoSaid : Prop := fnDumpUptoRow.holds Try.pinned (OpenSpec.upto fnDumpSpec)

/-- 'laws.FnDumpSize', WHERE WHAT IT READS IS OF BULK AT MOST 1048576: true; the input reads as it did. -/
def fnDumpSizeUptoRow : OpenClaim := { program := "ytoblndhmkehoaaa", sum := "4a3a19ab5170b2f24bb5674cf1cf17821a67f4da73ec7f6240deaf01b73d58b6", func := "loop.example/cellarage/laws.FnDumpSize", spec := "fnDumpSize", unfollowed := true, recurses := true, apart := false, narrowed := true }
def FnDumpSizeUptoSaid : Prop := fnDumpSizeUptoRow.holds Try.pinned (OpenSpec.upto fnDumpSizeSpec)

/-- 'laws.FnDumpWhole', WHERE WHAT IT READS IS OF BULK AT MOST 1048576: true; the input reads as it did. -/
def fnDumpWholeUptoRow : OpenClaim := { program := "ytoblndhmkehoaaa", sum := "4a3a19ab5170b2f24bb5674cf1cf17821a67f4da73ec7f6240deaf01b73d58b6", func := "loop.example/cellarage/laws.FnDumpWhole", spec := "fnDumpWhole", unfollowed := true, recurses := true, apart := false, narrowed := true }
def FnDumpWholeUptoSaid : Prop := fnDumpWholeUptoRow.holds Try.pinned (OpenSpec.upto fnDumpWholeSpec)

/-- 'laws.FnDumpKids', WHERE WHAT IT READS IS OF BULK AT MOST 1048576: true; the input reads as it did. -/
def fnDumpKidsUptoRow : OpenClaim := { program := "ytoblndhmkehoaaa", sum := "4a3a19ab5170b2f24bb5674cf1cf17821a67f4da73ec7f6240deaf01b73d58b6", func := "loop.example/cellarage/laws.FnDumpKids", spec := "fnDumpKids", unfollowed := true, recurses := true, apart := false, narrowed := true }
def FnDumpKidsUptoSaid : Prop := fnDumpKidsUptoRow.holds Try.pinned (OpenSpec.upto fnDumpKidsSpec)

end Rows
end Go.Proofs.Ytoblndhmkehoaaa
