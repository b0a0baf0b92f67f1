/-
  No cell of these rows narrows 'for every input' (looked for: loops, veiled, ifaces, maps, wideKeys, modest, calm, conditions, laid).
  DERIVED. THE GIVEN ROWS OF THIS SEAT. 6 by the template 'for every input the law returns true; each argument reads behind the call as it read before'; 0 by the template 'total and deterministic' (their statements: YtomacpailikmoabTotals.lean).
  GIVEN WITH THE SEED: the statements are not yours to turn. If you find one false, say at which input.
  Laid BY PROGRAM, IN A SANDBOX (cutbox-rows.mjs): the forced cells as the released guide's own fill.sh prints them over the translation 2e32b9b1473f70d9… (all of the seat's roots in one cut). By AI agents, Wed Nov 11 2026. No macro, syntax, notation, axiom, sorry.
-/
import Derived.Test.YtomacpailikmoabChecked
import GoSem.Claim
import GoSem.ClaimJoined
import GoSem.ClaimMapViews
import Derived.JoinedTies
import Derived.KernelRfl
namespace Go.Proofs.Ytomacpailikmoab
/- THE CELL 'sum', in the pinned program and in every row, IS THE sha256 OF THE DUMP (.gsa) THAT YtomacpailikmoabProg.lean LOADS. Nothing in Lean hashes anything: it is a label: what it is worth is what the hold of that sum in a sandbox is worth. -/
noncomputable def Try.pinned : Pinned := { name := "ytomacpailikmoab", sum := "2e32b9b1473f70d90401d933413de52f96b028fe9fee1c06640a19c6acfb2df1", checked := Try.checked }
namespace Rows
def none {H : Type} : Left H := { results := [], args := [] }

/-- 'laws.FnTree': WHATEVER THE INPUT: true; the input reads as it did. -/
def fnTreeSpec : ChangeSpec := { name := "fnTree", fn := fun _ => fun
  | [d] => { results := [.lit (.bool true)], args := [d] }
  | _ => none }
def fnTreeRow : OpenClaim := { program := "ytomacpailikmoab", sum := "2e32b9b1473f70d90401d933413de52f96b028fe9fee1c06640a19c6acfb2df1", func := "loop.example/cellarage/laws.FnTree", spec := "fnTree", unfollowed := true, recurses := true, apart := false }
def FnTreeSaid : Prop := fnTreeRow.holds Try.pinned (OpenSpec.ofChange fnTreeSpec)

/-- ITS FALSE NEIGHBOUR: 'it returns false'. Refute it at one input. -/
def fnTreeWrong : ChangeSpec := { name := "fnTree", fn := fun _ => fun
  | [d] => { results := [.lit (.bool false)], args := [d] }
  | _ => none }
def FnTreeWrongFalsely : Prop := fnTreeRow.holds Try.pinned (OpenSpec.ofChange fnTreeWrong)

/-- 'laws.FnTreeFind': WHATEVER THE INPUT: true; the input reads as it did. -/
def fnTreeFindSpec : ChangeSpec := { name := "fnTreeFind", fn := fun _ => fun
  | [d] => { results := [.lit (.bool true)], args := [d] }
  | _ => none }
def fnTreeFindRow : OpenClaim := { program := "ytomacpailikmoab", sum := "2e32b9b1473f70d90401d933413de52f96b028fe9fee1c06640a19c6acfb2df1", func := "loop.example/cellarage/laws.FnTreeFind", spec := "fnTreeFind", apart := false }
def FnTreeFindSaid : Prop := fnTreeFindRow.holds Try.pinned (OpenSpec.ofChange fnTreeFindSpec)

/-- ITS FALSE NEIGHBOUR: 'it returns false'. Refute it at one input. -/
def fnTreeFindWrong : ChangeSpec := { name := "fnTreeFind", fn := fun _ => fun
  | [d] => { results := [.lit (.bool false)], args := [d] }
  | _ => none }
def FnTreeFindWrongFalsely : Prop := fnTreeFindRow.holds Try.pinned (OpenSpec.ofChange fnTreeFindWrong)

/-- 'laws.FnTreeRefs': WHATEVER THE INPUT: true; the input reads as it did. -/
def fnTreeRefsSpec : ChangeSpec := { name := "fnTreeRefs", fn := fun _ => fun
  | [d] => { results := [.lit (.bool true)], args := [d] }
  | _ => none }
def fnTreeRefsRow : OpenClaim := { program := "ytomacpailikmoab", sum := "2e32b9b1473f70d90401d933413de52f96b028fe9fee1c06640a19c6acfb2df1", func := "loop.example/cellarage/laws.FnTreeRefs", spec := "fnTreeRefs", apart := false }
def FnTreeRefsSaid : Prop := fnTreeRefsRow.holds Try.pinned (OpenSpec.ofChange fnTreeRefsSpec)

/-- ITS FALSE NEIGHBOUR: 'it returns false'. Refute it at one input. -/
def fnTreeRefsWrong : ChangeSpec := { name := "fnTreeRefs", fn := fun _ => fun
  | [d] => { results := [.lit (.bool false)], args := [d] }
  | _ => none }
def FnTreeRefsWrongFalsely : Prop := fnTreeRefsRow.holds Try.pinned (OpenSpec.ofChange fnTreeRefsWrong)

/-- 'laws.FnTreeSame': WHATEVER THE INPUT: true; the input reads as it did. -/
def fnTreeSameSpec : ChangeSpec := { name := "fnTreeSame", fn := fun _ => fun
  | [d] => { results := [.lit (.bool true)], args := [d] }
  | _ => none }
def fnTreeSameRow : OpenClaim := { program := "ytomacpailikmoab", sum := "2e32b9b1473f70d90401d933413de52f96b028fe9fee1c06640a19c6acfb2df1", func := "loop.example/cellarage/laws.FnTreeSame", spec := "fnTreeSame", unfollowed := true, recurses := true, apart := false }
def FnTreeSameSaid : Prop := fnTreeSameRow.holds Try.pinned (OpenSpec.ofChange fnTreeSameSpec)

/-- ITS FALSE NEIGHBOUR: 'it returns false'. Refute it at one input. -/
def fnTreeSameWrong : ChangeSpec := { name := "fnTreeSame", fn := fun _ => fun
  | [d] => { results := [.lit (.bool false)], args := [d] }
  | _ => none }
def FnTreeSameWrongFalsely : Prop := fnTreeSameRow.holds Try.pinned (OpenSpec.ofChange fnTreeSameWrong)

/-- 'laws.FnTreeNew': WHATEVER THE INPUT: true; the input reads as it did. -/
def fnTreeNewSpec : ChangeSpec := { name := "fnTreeNew", fn := fun _ => fun
  | [d] => { results := [.lit (.bool true)], args := [d] }
  | _ => none }
def fnTreeNewRow : OpenClaim := { program := "ytomacpailikmoab", sum := "2e32b9b1473f70d90401d933413de52f96b028fe9fee1c06640a19c6acfb2df1", func := "loop.example/cellarage/laws.FnTreeNew", spec := "fnTreeNew", unfollowed := true, recurses := true, apart := false }
def FnTreeNewSaid : Prop := fnTreeNewRow.holds Try.pinned (OpenSpec.ofChange fnTreeNewSpec)

/-- ITS FALSE NEIGHBOUR: 'it returns false'. Refute it at one input. -/
def fnTreeNewWrong : ChangeSpec := { name := "fnTreeNew", fn := fun _ => fun
  | [d] => { results := [.lit (.bool false)], args := [d] }
  | _ => none }
def FnTreeNewWrongFalsely : Prop := fnTreeNewRow.holds Try.pinned (OpenSpec.ofChange fnTreeNewWrong)

/-- 'laws.FnTreeBent': WHATEVER THE INPUT: true; the input reads as it did. -/
def fnTreeBentSpec : ChangeSpec := { name := "fnTreeBent", fn := fun _ => fun
  | [d] => { results := [.lit (.bool true)], args := [d] }
  | _ => none }
def fnTreeBentRow : OpenClaim := { program := "ytomacpailikmoab", sum := "2e32b9b1473f70d90401d933413de52f96b028fe9fee1c06640a19c6acfb2df1", func := "loop.example/cellarage/laws.FnTreeBent", spec := "fnTreeBent", apart := false }
def FnTreeBentSaid : Prop := fnTreeBentRow.holds Try.pinned (OpenSpec.ofChange fnTreeBentSpec)

/-- ITS FALSE NEIGHBOUR: 'it returns false'. Refute it at one input. -/
def fnTreeBentWrong : ChangeSpec := { name := "fnTreeBent", fn := fun _ => fun
  | [d] => { results := [.lit (.bool false)], args := [d] }
  | _ => none }
def FnTreeBentWrongFalsely : Prop := fnTreeBentRow.holds Try.pinned (OpenSpec.ofChange fnTreeBentWrong)

/- THE SECOND FORM. 'bulk': how many values and letters a reading holds, each counted each time it is reached (what is shared counts as often as it is met; a slice's spare places count too). A statement '..UptoSaid' is the law's where the arguments, and the package variables that the reading takes, are together of bulk at most 1048576: NARROWER than '..Said'. Prove '..Said' where nothing that the law and all that it calls make is longer than what came in: it says more and counts as full. Else prove '..UptoSaid'. A law counts once. -/
mutual
def uptoBulk {H : Type} : DataW H → Nat
  | .lit (.string bytes) => bytes.length + 1
  | .lit _ => 1
  | .nil => 1
  | .ptr d => uptoBulk d + 1
  | .slice elems spare => uptoBulkAll elems + uptoBulkAll spare + 1
  | .agg parts => uptoBulkAll parts + 1
  | .iface _ d => uptoBulk d + 1
  | .map entries => uptoBulkEntries entries + 1
  | .held _ => 1
def uptoBulkAll {H : Type} : List (DataW H) → Nat
  | [] => 0
  | d :: r => uptoBulk d + uptoBulkAll r
def uptoBulkEntries {H : Type} : List (Lit × DataW H) → Nat
  | [] => 0
  | x :: r => uptoBulkEntry x + uptoBulkEntries r
def uptoBulkEntry {H : Type} : Lit × DataW H → Nat
  | (.string bytes, d) => bytes.length + uptoBulk d + 1
  | (_, d) => uptoBulk d + 1
 end
def uptoSmall : (H : Type) → List (DataW H) → Bool := fun _ ds => decide (uptoBulkAll ds ≤ 1048576)
def OpenSpec.upto (s : _root_.Go.ChangeSpec) : _root_.Go.OpenSpec := { _root_.Go.OpenSpec.ofChange s with cond := some uptoSmall }

/-- 'laws.FnTree', WHERE WHAT IT READS IS OF BULK AT MOST 1048576: true; the input reads as it did. -/
def fnTreeUptoRow : OpenClaim := { program := "ytomacpailikmoab", sum := "2e32b9b1473f70d90401d933413de52f96b028fe9fee1c06640a19c6acfb2df1", func := "loop.example/cellarage/laws.FnTree", spec := "fnTree", unfollowed := true, recurses := true, apart := false, narrowed := true }
def FnTreeUptoSaid : Prop := fnTreeUptoRow.holds Try.pinned (OpenSpec.upto fnTreeSpec)

/-- 'laws.FnTreeFind', WHERE WHAT IT READS IS OF BULK AT MOST 1048576: true; the input reads as it did. -/
def fnTreeFindUptoRow : OpenClaim := { program := "ytomacpailikmoab", sum := "2e32b9b1473f70d90401d933413de52f96b028fe9fee1c06640a19c6acfb2df1", func := "loop.example/cellarage/laws.FnTreeFind", spec := "fnTreeFind", apart := false, narrowed := true }
def FnTreeFindUptoSaid : Prop := fnTreeFindUptoRow.holds Try.pinned (OpenSpec.upto fnTreeFindSpec)

/-- 'laws.FnTreeRefs', WHERE WHAT IT READS IS OF BULK AT MOST 1048576: true; the input reads as it did. -/
def fnTreeRefsUptoRow : OpenClaim := { program := "ytomacpailikmoab", sum := "2e32b9b1473f70d90401d933413de52f96b028fe9fee1c06640a19c6acfb2df1", func := "loop.example/cellarage/laws.FnTreeRefs", spec := "fnTreeRefs", apart := false, narrowed := true }
def FnTreeRefsUptoSaid : Prop := fnTreeRefsUptoRow.holds Try.pinned (OpenSpec.upto fnTreeRefsSpec)

/-- 'laws.FnTreeSame', WHERE WHAT IT READS IS OF BULK AT MOST 1048576: true; the input reads as it did. -/
def fnTreeSameUptoRow : OpenClaim := { program := "ytomacpailikmoab", sum := "2e32b9b1473f70d90401d933413de52f96b028fe9fee1c06640a19c6acfb2df1", func := "loop.example/cellarage/laws.FnTreeSame", spec := "fnTreeSame", unfollowed := true, recurses := true, apart := false, narrowed := true }
def FnTreeSameUptoSaid : Prop := fnTreeSameUptoRow.holds Try.pinned (OpenSpec.upto fnTreeSameSpec)

/-- 'laws.FnTreeNew', WHERE WHAT IT READS IS OF BULK AT MOST 1048576: true; the input reads as it did. -/
def fnTreeNewUptoRow : OpenClaim := { program := "ytomacpailikmoab", sum := "2e32b9b1473f70d90401d933413de52f96b028fe9fee1c06640a19c6acfb2df1", func := "loop.example/cellarage/laws.FnTreeNew", spec := "fnTreeNew", unfollowed := true, recurses := true, apart := false, narrowed := true }
def FnTreeNewUptoSaid : Prop := fnTreeNewUptoRow.holds Try.pinned (OpenSpec.upto fnTreeNewSpec)

/-- 'laws.FnTreeBent', WHERE WHAT IT READS IS OF BULK AT MOST 1048576: true; the input reads as it did. -/
def fnTreeBentUptoRow : OpenClaim := { program := "ytomacpailikmoab", sum := "2e32b9b1473f70d90401d933413de52f96b028fe9fee1c06640a19c6acfb2df1", func := "loop.example/cellarage/laws.FnTreeBent", spec := "fnTreeBent", apart := false, narrowed := true }
def FnTreeBentUptoSaid : Prop := fnTreeBentUptoRow.holds Try.pinned (OpenSpec.upto fnTreeBentSpec)

end Rows
end Go.Proofs.Ytomacpailikmoab
