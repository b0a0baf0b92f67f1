/-
  No cell of these rows narrows 'for every input' (looked for: loops, veiled, ifaces, maps, wideKeys, modest, calm, conditions, laid).
  DERIVED. THE GIVEN ROWS OF THIS SEAT. 6 by the template 'for every input the law returns true; each argument reads behind the call as it read before'; 0 by the template 'total and deterministic' (their statements: YtgijhkcnbmcenaaTotals.lean).
  GIVEN WITH THE SEED: the statements are not yours to turn. If you find one false, say at which input.
  Laid BY PROGRAM, IN A SANDBOX (cutbox-rows.mjs): the forced cells as the released guide's own fill.sh prints them over the translation 044968cd9c773042… (all of the seat's roots in one cut). By AI agents, Wed Nov 11 2026. No macro, syntax, notation, axiom, sorry.
-/
import Derived.Test.YtgijhkcnbmcenaaChecked
import GoSem.Claim
import GoSem.ClaimJoined
import GoSem.ClaimMapViews
import Derived.JoinedTies
import Derived.KernelRfl
namespace Go.Proofs.Ytgijhkcnbmcenaa
/- THE CELL 'sum', in the pinned program and in every row, IS THE sha256 OF THE DUMP (.gsa) THAT YtgijhkcnbmcenaaProg.lean LOADS. Nothing in Lean hashes anything: it is a label: what it is worth is what the hold of that sum in a sandbox is worth. -/
noncomputable def Try.pinned : Pinned := { name := "ytgijhkcnbmcenaa", sum := "044968cd9c773042d66bbeb950547fa5802483be2177192f7e2cf5acd34d32f3", checked := Try.checked }
namespace Rows
def none {H : Type} : Left H := { results := [], args := [] }

/-- 'laws.FnPath': WHATEVER THE INPUT: true; the input reads as it did. -/
def fnPathSpec : ChangeSpec := { name := "fnPath", fn := fun _ => fun
  | [d1, d2] => { results := [.lit (.bool true)], args := [d1, d2] }
  | _ => none }
def fnPathRow : OpenClaim := { program := "ytgijhkcnbmcenaa", sum := "044968cd9c773042d66bbeb950547fa5802483be2177192f7e2cf5acd34d32f3", func := "loop.example/cellarage/laws.FnPath", spec := "fnPath", inPlace := ["internal/abi.NoEscape", "internal/bytealg.MakeNoZero"], unfollowed := true, recurses := true, apart := false }
def FnPathSaid : Prop := fnPathRow.holds Try.pinned (OpenSpec.ofChange fnPathSpec)

/-- ITS FALSE NEIGHBOUR: 'it returns false'. Refute it at one input. -/
def fnPathWrong : ChangeSpec := { name := "fnPath", fn := fun _ => fun
  | [d1, d2] => { results := [.lit (.bool false)], args := [d1, d2] }
  | _ => none }
def FnPathWrongFalsely : Prop := fnPathRow.holds Try.pinned (OpenSpec.ofChange fnPathWrong)

/-- 'laws.FnPathIn': WHATEVER THE INPUT: true; the input reads as it did. -/
def fnPathInSpec : ChangeSpec := { name := "fnPathIn", fn := fun _ => fun
  | [d] => { results := [.lit (.bool true)], args := [d] }
  | _ => none }
def fnPathInRow : OpenClaim := { program := "ytgijhkcnbmcenaa", sum := "044968cd9c773042d66bbeb950547fa5802483be2177192f7e2cf5acd34d32f3", func := "loop.example/cellarage/laws.FnPathIn", spec := "fnPathIn", inPlace := ["internal/abi.NoEscape", "internal/bytealg.MakeNoZero"], apart := false }
def FnPathInSaid : Prop := fnPathInRow.holds Try.pinned (OpenSpec.ofChange fnPathInSpec)

/-- ITS FALSE NEIGHBOUR: 'it returns false'. Refute it at one input. -/
def fnPathInWrong : ChangeSpec := { name := "fnPathIn", fn := fun _ => fun
  | [d] => { results := [.lit (.bool false)], args := [d] }
  | _ => none }
def FnPathInWrongFalsely : Prop := fnPathInRow.holds Try.pinned (OpenSpec.ofChange fnPathInWrong)

/-- 'laws.FnPathBent': WHATEVER THE INPUT: true; the input reads as it did. -/
def fnPathBentSpec : ChangeSpec := { name := "fnPathBent", fn := fun _ => fun
  | [d1, d2] => { results := [.lit (.bool true)], args := [d1, d2] }
  | _ => none }
def fnPathBentRow : OpenClaim := { program := "ytgijhkcnbmcenaa", sum := "044968cd9c773042d66bbeb950547fa5802483be2177192f7e2cf5acd34d32f3", func := "loop.example/cellarage/laws.FnPathBent", spec := "fnPathBent", inPlace := ["internal/abi.NoEscape", "internal/bytealg.MakeNoZero"], apart := false }
def FnPathBentSaid : Prop := fnPathBentRow.holds Try.pinned (OpenSpec.ofChange fnPathBentSpec)

/-- ITS FALSE NEIGHBOUR: 'it returns false'. Refute it at one input. -/
def fnPathBentWrong : ChangeSpec := { name := "fnPathBent", fn := fun _ => fun
  | [d1, d2] => { results := [.lit (.bool false)], args := [d1, d2] }
  | _ => none }
def FnPathBentWrongFalsely : Prop := fnPathBentRow.holds Try.pinned (OpenSpec.ofChange fnPathBentWrong)

/-- 'laws.FnPathCat': WHATEVER THE INPUT: true; the input reads as it did. -/
def fnPathCatSpec : ChangeSpec := { name := "fnPathCat", fn := fun _ => fun
  | [d1, d2] => { results := [.lit (.bool true)], args := [d1, d2] }
  | _ => none }
def fnPathCatRow : OpenClaim := { program := "ytgijhkcnbmcenaa", sum := "044968cd9c773042d66bbeb950547fa5802483be2177192f7e2cf5acd34d32f3", func := "loop.example/cellarage/laws.FnPathCat", spec := "fnPathCat", inPlace := ["internal/abi.NoEscape", "internal/bytealg.MakeNoZero"], apart := false }
def FnPathCatSaid : Prop := fnPathCatRow.holds Try.pinned (OpenSpec.ofChange fnPathCatSpec)

/-- ITS FALSE NEIGHBOUR: 'it returns false'. Refute it at one input. -/
def fnPathCatWrong : ChangeSpec := { name := "fnPathCat", fn := fun _ => fun
  | [d1, d2] => { results := [.lit (.bool false)], args := [d1, d2] }
  | _ => none }
def FnPathCatWrongFalsely : Prop := fnPathCatRow.holds Try.pinned (OpenSpec.ofChange fnPathCatWrong)

/-- 'laws.FnPathName': WHATEVER THE INPUT: true; the input reads as it did. -/
def fnPathNameSpec : ChangeSpec := { name := "fnPathName", fn := fun _ => fun
  | [d] => { results := [.lit (.bool true)], args := [d] }
  | _ => none }
def fnPathNameRow : OpenClaim := { program := "ytgijhkcnbmcenaa", sum := "044968cd9c773042d66bbeb950547fa5802483be2177192f7e2cf5acd34d32f3", func := "loop.example/cellarage/laws.FnPathName", spec := "fnPathName", unfollowed := true, recurses := true, apart := false }
def FnPathNameSaid : Prop := fnPathNameRow.holds Try.pinned (OpenSpec.ofChange fnPathNameSpec)

/-- ITS FALSE NEIGHBOUR: 'it returns false'. Refute it at one input. -/
def fnPathNameWrong : ChangeSpec := { name := "fnPathName", fn := fun _ => fun
  | [d] => { results := [.lit (.bool false)], args := [d] }
  | _ => none }
def FnPathNameWrongFalsely : Prop := fnPathNameRow.holds Try.pinned (OpenSpec.ofChange fnPathNameWrong)

/-- 'laws.FnPathUp': WHATEVER THE INPUT: true; the input reads as it did. -/
def fnPathUpSpec : ChangeSpec := { name := "fnPathUp", fn := fun _ => fun
  | [d] => { results := [.lit (.bool true)], args := [d] }
  | _ => none }
def fnPathUpRow : OpenClaim := { program := "ytgijhkcnbmcenaa", sum := "044968cd9c773042d66bbeb950547fa5802483be2177192f7e2cf5acd34d32f3", func := "loop.example/cellarage/laws.FnPathUp", spec := "fnPathUp", inPlace := ["internal/abi.NoEscape", "internal/bytealg.MakeNoZero"], apart := false }
def FnPathUpSaid : Prop := fnPathUpRow.holds Try.pinned (OpenSpec.ofChange fnPathUpSpec)

/-- ITS FALSE NEIGHBOUR: 'it returns false'. Refute it at one input. -/
def fnPathUpWrong : ChangeSpec := { name := "fnPathUp", fn := fun _ => fun
  | [d] => { results := [.lit (.bool false)], args := [d] }
  | _ => none }
def FnPathUpWrongFalsely : Prop := fnPathUpRow.holds Try.pinned (OpenSpec.ofChange fnPathUpWrong)

/- THE SECOND FORM. 'bulk': how many values and letters a reading holds, each counted each time it is reached (what is shared counts as often as it is met; a slice's spare places count too). A statement '..UptoSaid' is the law's where the arguments, and the package variables that the reading takes, are together of bulk at most 1048576: NARROWER than '..Said'. Prove '..Said' where nothing that the law and all that it calls make is longer than what came in: it says more and counts as full. Else prove '..UptoSaid'. A law counts once. -/
mutual
def uptoBulk {H : Type} : DataW H → Nat
  | .lit (.string bytes) => bytes.length + 1
  | .lit _ => 1
  | .nil => 1
  | .ptr d => uptoBulk d + 1
  | .slice elems spare => uptoBulkAll elems + uptoBulkAll spare + 1
  | .agg parts => uptoBulkAll parts + 1
  | .iface _ d => uptoBulk d + 1
  | .map entries => uptoBulkEntries entries + 1
  | .held _ => 1
def uptoBulkAll {H : Type} : List (DataW H) → Nat
  | [] => 0
  | d :: r => uptoBulk d + uptoBulkAll r
def uptoBulkEntries {H : Type} : List (Lit × DataW H) → Nat
  | [] => 0
  | x :: r => uptoBulkEntry x + uptoBulkEntries r
def uptoBulkEntry {H : Type} : Lit × DataW H → Nat
  | (.string bytes, d) => bytes.length + uptoBulk d + 1
  | (_, d) => uptoBulk d + 1
 end
def uptoSmall : (H : Type) → List (DataW H) → Bool := fun _ ds => decide (uptoBulkAll ds ≤ 1048576)
def OpenSpec.upto (s : _root_.Go.ChangeSpec) : _root_.Go.OpenSpec := { _root_.Go.OpenSpec.ofChange s with cond := some uptoSmall }

/-- 'laws.FnPath', WHERE WHAT IT READS IS OF BULK AT MOST 1048576: true; the input reads as it did. -/
def fnPathUptoRow : OpenClaim := { program := "ytgijhkcnbmcenaa", sum := "044968cd9c773042d66bbeb950547fa5802483be2177192f7e2cf5acd34d32f3", func := "loop.example/cellarage/laws.FnPath", spec := "fnPath", inPlace := ["internal/abi.NoEscape", "internal/bytealg.MakeNoZero"], unfollowed := true, recurses := true, apart := false, narrowed := true }
def FnPathUptoSaid : Prop := fnPathUptoRow.holds Try.pinned (OpenSpec.upto fnPathSpec)

/-- 'laws.FnPathIn', WHERE WHAT IT READS IS OF BULK AT MOST 1048576: true; the input reads as it did. -/
def fnPathInUptoRow : OpenClaim := { program := "ytgijhkcnbmcenaa", sum := "044968cd9c773042d66bbeb950547fa5802483be2177192f7e2cf5acd34d32f3", func := "loop.example/cellarage/laws.FnPathIn", spec := "fnPathIn", inPlace := ["internal/abi.NoEscape", "internal/bytealg.MakeNoZero"], apart := false, narrowed := true }
def FnPathInUptoSaid : Prop := fnPathInUptoRow.holds Try.pinned (OpenSpec.upto fnPathInSpec)

/-- 'laws.FnPathBent', WHERE WHAT IT READS IS OF BULK AT MOST 1048576: true; the input reads as it did. -/
def fnPathBentUptoRow : OpenClaim := { program := "ytgijhkcnbmcenaa", sum := "044968cd9c773042d66bbeb950547fa5802483be2177192f7e2cf5acd34d32f3", func := "loop.example/cellarage/laws.FnPathBent", spec := "fnPathBent", inPlace := ["internal/abi.NoEscape", "internal/bytealg.MakeNoZero"], apart := false, narrowed := true }
def FnPathBentUptoSaid : Prop := fnPathBentUptoRow.holds Try.pinned (OpenSpec.upto fnPathBentSpec)

/-- 'laws.FnPathCat', WHERE WHAT IT READS IS OF BULK AT MOST 1048576: true; the input reads as it did. -/
def fnPathCatUptoRow : OpenClaim := { program := "ytgijhkcnbmcenaa", sum := "044968cd9c773042d66bbeb950547fa5802483be2177192f7e2cf5acd34d32f3", func := "loop.example/cellarage/laws.FnPathCat", spec := "fnPathCat", inPlace := ["internal/abi.NoEscape", "internal/bytealg.MakeNoZero"], apart := false, narrowed := true }
def FnPathCatUptoSaid : Prop := fnPathCatUptoRow.holds Try.pinned (OpenSpec.upto fnPathCatSpec)

/-- 'laws.FnPathName', WHERE WHAT IT READS IS OF BULK AT MOST 1048576: true; the input reads as it did. -/
def fnPathNameUptoRow : OpenClaim := { program := "ytgijhkcnbmcenaa", sum := "044968cd9c773042d66bbeb950547fa5802483be2177192f7e2cf5acd34d32f3", func := "loop.example/cellarage/laws.FnPathName", spec := "fnPathName", unfollowed := true, recurses := true, apart := false, narrowed := true }
def FnPathNameUptoSaid : Prop := fnPathNameUptoRow.holds Try.pinned (OpenSpec.upto fnPathNameSpec)

/-- 'laws.FnPathUp', WHERE WHAT IT READS IS OF BULK AT MOST 1048576: true; the input reads as it did. -/
def fnPathUpUptoRow : OpenClaim := { program := "ytgijhkcnbmcenaa", sum := "044968cd9c773042d66bbeb950547fa5802483be2177192f7e2cf5acd34d32f3", func := "loop.example/cellarage/laws.FnPathUp", spec := "fnPathUp", inPlace := ["internal/abi.NoEscape", "internal/bytealg.MakeNoZero"], apart := false, narrowed := true }
def FnPathUpUptoSaid : Prop := fnPathUpUptoRow.holds Try.pinned (OpenSpec.upto fnPathUpSpec)

end Rows
end Go.Proofs.Ytgijhkcnbmcenaa
