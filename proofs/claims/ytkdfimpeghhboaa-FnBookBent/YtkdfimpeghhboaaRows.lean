/-
  No cell of these rows narrows 'for every input' (looked for: loops, veiled, ifaces, maps, wideKeys, modest, calm, conditions, laid).
  DERIVED. THE GIVEN ROWS OF THIS SEAT. 5 by the template 'for every input the law returns true; each argument reads behind the call as it read before'; 0 by the template 'total and deterministic' (their statements: YtkdfimpeghhboaaTotals.lean).
  GIVEN WITH THE SEED: the statements are not yours to turn. If you find one false, say at which input.
  Laid BY PROGRAM, IN A SANDBOX (cutbox-rows.mjs): the forced cells as the released guide's own fill.sh prints them over the translation 9dc9a8da7a6c5954… (all of the seat's roots in one cut). By AI agents, Wed Nov 11 2026. No macro, syntax, notation, axiom, sorry.
-/
import Derived.Test.YtkdfimpeghhboaaChecked
import GoSem.Claim
import GoSem.ClaimJoined
import GoSem.ClaimMapViews
import Derived.JoinedTies
import Derived.KernelRfl
namespace Go.Proofs.Ytkdfimpeghhboaa
/- THE CELL 'sum', in the pinned program and in every row, IS THE sha256 OF THE DUMP (.gsa) THAT YtkdfimpeghhboaaProg.lean LOADS. Nothing in Lean hashes anything: it is a label: what it is worth is what the hold of that sum in a sandbox is worth. -/
noncomputable def Try.pinned : Pinned := { name := "ytkdfimpeghhboaa", sum := "9dc9a8da7a6c59545b84f1ea59904f51fafb5b5c62123e2efa21283add60f313", checked := Try.checked }
namespace Rows
def none {H : Type} : Left H := { results := [], args := [] }

/-- 'laws.FnBookBase': WHATEVER THE INPUT: true; the input reads as it did. -/
def fnBookBaseSpec : ChangeSpec := { name := "fnBookBase", fn := fun _ => fun
  | [d] => { results := [.lit (.bool true)], args := [d] }
  | _ => none }
def fnBookBaseRow : OpenClaim := { program := "ytkdfimpeghhboaa", sum := "9dc9a8da7a6c59545b84f1ea59904f51fafb5b5c62123e2efa21283add60f313", func := "loop.example/cellarage/laws.FnBookBase", spec := "fnBookBase", apart := false }
def FnBookBaseSaid : Prop := fnBookBaseRow.holds Try.pinned (OpenSpec.ofChange fnBookBaseSpec)

/-- ITS FALSE NEIGHBOUR: 'it returns false'. Refute it at one input. -/
def fnBookBaseWrong : ChangeSpec := { name := "fnBookBase", fn := fun _ => fun
  | [d] => { results := [.lit (.bool false)], args := [d] }
  | _ => none }
def FnBookBaseWrongFalsely : Prop := fnBookBaseRow.holds Try.pinned (OpenSpec.ofChange fnBookBaseWrong)

/-- 'laws.FnBookAdd': WHATEVER THE INPUT: true; the input reads as it did. -/
def fnBookAddSpec : ChangeSpec := { name := "fnBookAdd", fn := fun _ => fun
  | [d] => { results := [.lit (.bool true)], args := [d] }
  | _ => none }
def fnBookAddRow : OpenClaim := { program := "ytkdfimpeghhboaa", sum := "9dc9a8da7a6c59545b84f1ea59904f51fafb5b5c62123e2efa21283add60f313", func := "loop.example/cellarage/laws.FnBookAdd", spec := "fnBookAdd", apart := false }
def FnBookAddSaid : Prop := fnBookAddRow.holds Try.pinned (OpenSpec.ofChange fnBookAddSpec)

/-- ITS FALSE NEIGHBOUR: 'it returns false'. Refute it at one input. -/
def fnBookAddWrong : ChangeSpec := { name := "fnBookAdd", fn := fun _ => fun
  | [d] => { results := [.lit (.bool false)], args := [d] }
  | _ => none }
def FnBookAddWrongFalsely : Prop := fnBookAddRow.holds Try.pinned (OpenSpec.ofChange fnBookAddWrong)

/-- 'laws.FnBookRise': WHATEVER THE INPUT: true; the input reads as it did. -/
def fnBookRiseSpec : ChangeSpec := { name := "fnBookRise", fn := fun _ => fun
  | [d] => { results := [.lit (.bool true)], args := [d] }
  | _ => none }
def fnBookRiseRow : OpenClaim := { program := "ytkdfimpeghhboaa", sum := "9dc9a8da7a6c59545b84f1ea59904f51fafb5b5c62123e2efa21283add60f313", func := "loop.example/cellarage/laws.FnBookRise", spec := "fnBookRise", apart := false }
def FnBookRiseSaid : Prop := fnBookRiseRow.holds Try.pinned (OpenSpec.ofChange fnBookRiseSpec)

/-- ITS FALSE NEIGHBOUR: 'it returns false'. Refute it at one input. -/
def fnBookRiseWrong : ChangeSpec := { name := "fnBookRise", fn := fun _ => fun
  | [d] => { results := [.lit (.bool false)], args := [d] }
  | _ => none }
def FnBookRiseWrongFalsely : Prop := fnBookRiseRow.holds Try.pinned (OpenSpec.ofChange fnBookRiseWrong)

/-- 'laws.FnBookLess': WHATEVER THE INPUT: true; the input reads as it did. -/
def fnBookLessSpec : ChangeSpec := { name := "fnBookLess", fn := fun _ => fun
  | [d] => { results := [.lit (.bool true)], args := [d] }
  | _ => none }
def fnBookLessRow : OpenClaim := { program := "ytkdfimpeghhboaa", sum := "9dc9a8da7a6c59545b84f1ea59904f51fafb5b5c62123e2efa21283add60f313", func := "loop.example/cellarage/laws.FnBookLess", spec := "fnBookLess", apart := false }
def FnBookLessSaid : Prop := fnBookLessRow.holds Try.pinned (OpenSpec.ofChange fnBookLessSpec)

/-- ITS FALSE NEIGHBOUR: 'it returns false'. Refute it at one input. -/
def fnBookLessWrong : ChangeSpec := { name := "fnBookLess", fn := fun _ => fun
  | [d] => { results := [.lit (.bool false)], args := [d] }
  | _ => none }
def FnBookLessWrongFalsely : Prop := fnBookLessRow.holds Try.pinned (OpenSpec.ofChange fnBookLessWrong)

/-- 'laws.FnBookBent': WHATEVER THE INPUT: true; the input reads as it did. -/
def fnBookBentSpec : ChangeSpec := { name := "fnBookBent", fn := fun _ => fun
  | [d] => { results := [.lit (.bool true)], args := [d] }
  | _ => none }
def fnBookBentRow : OpenClaim := { program := "ytkdfimpeghhboaa", sum := "9dc9a8da7a6c59545b84f1ea59904f51fafb5b5c62123e2efa21283add60f313", func := "loop.example/cellarage/laws.FnBookBent", spec := "fnBookBent", apart := false }
def FnBookBentSaid : Prop := fnBookBentRow.holds Try.pinned (OpenSpec.ofChange fnBookBentSpec)

/-- ITS FALSE NEIGHBOUR: 'it returns false'. Refute it at one input. -/
def fnBookBentWrong : ChangeSpec := { name := "fnBookBent", fn := fun _ => fun
  | [d] => { results := [.lit (.bool false)], args := [d] }
  | _ => none }
def FnBookBentWrongFalsely : Prop := fnBookBentRow.holds Try.pinned (OpenSpec.ofChange fnBookBentWrong)

/- THE SECOND FORM. 'bulk': how many values and letters a reading holds, each counted each time it is reached (what is shared counts as often as it is met; a slice's spare places count too). A statement '..UptoSaid' is the law's where the arguments, and the package variables that the reading takes, are together of bulk at most 1048576: NARROWER than '..Said'. Prove '..Said' where nothing that the law and all that it calls make is longer than what came in: it says more and counts as full. Else prove '..UptoSaid'. A law counts once. -/
mutual
def uptoBulk {H : Type} : DataW H → Nat
  | .lit (.string bytes) => bytes.length + 1
  | .lit _ => 1
  | .nil => 1
  | .ptr d => uptoBulk d + 1
  | .slice elems spare => uptoBulkAll elems + uptoBulkAll spare + 1
  | .agg parts => uptoBulkAll parts + 1
  | .iface _ d => uptoBulk d + 1
  | .map entries => uptoBulkEntries entries + 1
  | .held _ => 1
def uptoBulkAll {H : Type} : List (DataW H) → Nat
  | [] => 0
  | d :: r => uptoBulk d + uptoBulkAll r
def uptoBulkEntries {H : Type} : List (Lit × DataW H) → Nat
  | [] => 0
  | x :: r => uptoBulkEntry x + uptoBulkEntries r
def uptoBulkEntry {H : Type} : Lit × DataW H → Nat
  | (.string bytes, d) => bytes.length + uptoBulk d + 1
  | (_, d) => uptoBulk d + 1
 end
def uptoSmall : (H : Type) → List (DataW H) → Bool := fun _ ds => decide (uptoBulkAll ds ≤ 1048576)
def OpenSpec.upto (s : _root_.Go.ChangeSpec) : _root_.Go.OpenSpec := { _root_.Go.OpenSpec.ofChange s with cond := some uptoSmall }

/-- 'laws.FnBookBase', WHERE WHAT IT READS IS OF BULK AT MOST 1048576: true; the input reads as it did. -/
def fnBookBaseUptoRow : OpenClaim := { program := "ytkdfimpeghhboaa", sum := "9dc9a8da7a6c59545b84f1ea59904f51fafb5b5c62123e2efa21283add60f313", func := "loop.example/cellarage/laws.FnBookBase", spec := "fnBookBase", apart := false, narrowed := true }
def FnBookBaseUptoSaid : Prop := fnBookBaseUptoRow.holds Try.pinned (OpenSpec.upto fnBookBaseSpec)

/-- 'laws.FnBookAdd', WHERE WHAT IT READS IS OF BULK AT MOST 1048576: true; the input reads as it did. -/
def fnBookAddUptoRow : OpenClaim := { program := "ytkdfimpeghhboaa", sum := "9dc9a8da7a6c59545b84f1ea59904f51fafb5b5c62123e2efa21283add60f313", func := "loop.example/cellarage/laws.FnBookAdd", spec := "fnBookAdd", apart := false, narrowed := true }
def FnBookAddUptoSaid : Prop := fnBookAddUptoRow.holds Try.pinned (OpenSpec.upto fnBookAddSpec)

/-- 'laws.FnBookRise', WHERE WHAT IT READS IS OF BULK AT MOST 1048576: true; the input reads as it did. -/
def fnBookRiseUptoRow : OpenClaim := { program := "ytkdfimpeghhboaa", sum := "9dc9a8da7a6c59545b84f1ea59904f51fafb5b5c62123e2efa21283add60f313", func := "loop.example/cellarage/laws.FnBookRise", spec := "fnBookRise", apart := false, narrowed := true }
def FnBookRiseUptoSaid : Prop := fnBookRiseUptoRow.holds Try.pinned (OpenSpec.upto fnBookRiseSpec)

/-- 'laws.FnBookLess', WHERE WHAT IT READS IS OF BULK AT MOST 1048576: true; the input reads as it did. -/
def fnBookLessUptoRow : OpenClaim := { program := "ytkdfimpeghhboaa", sum := "9dc9a8da7a6c59545b84f1ea59904f51fafb5b5c62123e2efa21283add60f313", func := "loop.example/cellarage/laws.FnBookLess", spec := "fnBookLess", apart := false, narrowed := true }
def FnBookLessUptoSaid : Prop := fnBookLessUptoRow.holds Try.pinned (OpenSpec.upto fnBookLessSpec)

/-- 'laws.FnBookBent', WHERE WHAT IT READS IS OF BULK AT MOST 1048576: true; the input reads as it did. -/
def fnBookBentUptoRow : OpenClaim := { program := "ytkdfimpeghhboaa", sum := "9dc9a8da7a6c59545b84f1ea59904f51fafb5b5c62123e2efa21283add60f313", func := "loop.example/cellarage/laws.FnBookBent", spec := "fnBookBent", apart := false, narrowed := true }
def FnBookBentUptoSaid : Prop := fnBookBentUptoRow.holds Try.pinned (OpenSpec.upto fnBookBentSpec)

end Rows
end Go.Proofs.Ytkdfimpeghhboaa
