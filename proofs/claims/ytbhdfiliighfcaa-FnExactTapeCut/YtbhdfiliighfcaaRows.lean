/-
  No cell of these rows narrows 'for every input' (looked for: loops, veiled, ifaces, maps, wideKeys, modest, calm, conditions, laid).
  DERIVED. THE GIVEN ROWS OF THIS SEAT. 3 by the template 'for every input the law returns true; each argument reads behind the call as it read before'; 0 by the template 'total and deterministic' (their statements: YtbhdfiliighfcaaTotals.lean).
  GIVEN WITH THE SEED: the statements are not yours to turn. If you find one false, say at which input.
  Laid BY PROGRAM, IN A SANDBOX (cutbox-rows.mjs): the forced cells as the released guide's own fill.sh prints them over the translation 150d3776b5618838… (all of the seat's roots in one cut). By AI agents, Wed Nov 11 2026. No macro, syntax, notation, axiom, sorry.
-/
import Derived.Test.YtbhdfiliighfcaaChecked
import GoSem.Claim
import GoSem.ClaimJoined
import GoSem.ClaimMapViews
import Derived.JoinedTies
import Derived.KernelRfl
namespace Go.Proofs.Ytbhdfiliighfcaa
/- THE CELL 'sum', in the pinned program and in every row, IS THE sha256 OF THE DUMP (.gsa) THAT YtbhdfiliighfcaaProg.lean LOADS. Nothing in Lean hashes anything: it is a label: what it is worth is what the hold of that sum in a sandbox is worth. -/
noncomputable def Try.pinned : Pinned := { name := "ytbhdfiliighfcaa", sum := "150d3776b56188384f9db3842148345012eb1eebdefbb64a9f6076989d6c6ba0", checked := Try.checked }
namespace Rows
def none {H : Type} : Left H := { results := [], args := [] }

/-- 'laws.FnExactTapeSum': WHATEVER THE INPUT: true; the input reads as it did. -/
def fnExactTapeSumSpec : ChangeSpec := { name := "fnExactTapeSum", fn := fun _ => fun
  | [d] => { results := [.lit (.bool true)], args := [d] }
  | _ => none }
def fnExactTapeSumRow : OpenClaim := { program := "ytbhdfiliighfcaa", sum := "150d3776b56188384f9db3842148345012eb1eebdefbb64a9f6076989d6c6ba0", func := "loop.example/cellarage/laws.FnExactTapeSum", spec := "fnExactTapeSum", apart := false }
def FnExactTapeSumSaid : Prop := fnExactTapeSumRow.holds Try.pinned (OpenSpec.ofChange fnExactTapeSumSpec)

/-- ITS FALSE NEIGHBOUR: 'it returns false'. Refute it at one input. -/
def fnExactTapeSumWrong : ChangeSpec := { name := "fnExactTapeSum", fn := fun _ => fun
  | [d] => { results := [.lit (.bool false)], args := [d] }
  | _ => none }
def FnExactTapeSumWrongFalsely : Prop := fnExactTapeSumRow.holds Try.pinned (OpenSpec.ofChange fnExactTapeSumWrong)

/-- 'laws.FnExactVolOk': WHATEVER THE INPUT: true; the input reads as it did. -/
def fnExactVolOkSpec : ChangeSpec := { name := "fnExactVolOk", fn := fun _ => fun
  | [d] => { results := [.lit (.bool true)], args := [d] }
  | _ => none }
def fnExactVolOkRow : OpenClaim := { program := "ytbhdfiliighfcaa", sum := "150d3776b56188384f9db3842148345012eb1eebdefbb64a9f6076989d6c6ba0", func := "loop.example/cellarage/laws.FnExactVolOk", spec := "fnExactVolOk", apart := false }
def FnExactVolOkSaid : Prop := fnExactVolOkRow.holds Try.pinned (OpenSpec.ofChange fnExactVolOkSpec)

/-- ITS FALSE NEIGHBOUR: 'it returns false'. Refute it at one input. -/
def fnExactVolOkWrong : ChangeSpec := { name := "fnExactVolOk", fn := fun _ => fun
  | [d] => { results := [.lit (.bool false)], args := [d] }
  | _ => none }
def FnExactVolOkWrongFalsely : Prop := fnExactVolOkRow.holds Try.pinned (OpenSpec.ofChange fnExactVolOkWrong)

/-- 'laws.FnExactTapeCut': WHATEVER THE INPUT: true; the input reads as it did. -/
def fnExactTapeCutSpec : ChangeSpec := { name := "fnExactTapeCut", fn := fun _ => fun
  | [d1, d2] => { results := [.lit (.bool true)], args := [d1, d2] }
  | _ => none }
def fnExactTapeCutRow : OpenClaim := { program := "ytbhdfiliighfcaa", sum := "150d3776b56188384f9db3842148345012eb1eebdefbb64a9f6076989d6c6ba0", func := "loop.example/cellarage/laws.FnExactTapeCut", spec := "fnExactTapeCut", apart := false }
def FnExactTapeCutSaid : Prop := fnExactTapeCutRow.holds Try.pinned (OpenSpec.ofChange fnExactTapeCutSpec)

/-- ITS FALSE NEIGHBOUR: 'it returns false'. Refute it at one input. -/
def fnExactTapeCutWrong : ChangeSpec := { name := "fnExactTapeCut", fn := fun _ => fun
  | [d1, d2] => { results := [.lit (.bool false)], args := [d1, d2] }
  | _ => none }
def FnExactTapeCutWrongFalsely : Prop := fnExactTapeCutRow.holds Try.pinned (OpenSpec.ofChange fnExactTapeCutWrong)

/- THE SECOND FORM. 'bulk': how many values and letters a reading holds, each counted each time it is reached (what is shared counts as often as it is met; a slice's spare places count too). A statement '..UptoSaid' is the law's where the arguments, and the package variables that the reading takes, are together of bulk at most 1048576: NARROWER than '..Said'. Prove '..Said' where nothing that the law and all that it calls make is longer than what came in: it says more and counts as full. Else prove '..UptoSaid'. A law counts once. -/
mutual
def uptoBulk {H : Type} : DataW H → Nat
  | .lit (.string bytes) => bytes.length + 1
  | .lit _ => 1
  | .nil => 1
  | .ptr d => uptoBulk d + 1
  | .slice elems spare => uptoBulkAll elems + uptoBulkAll spare + 1
  | .agg parts => uptoBulkAll parts + 1
  | .iface _ d => uptoBulk d + 1
  | .map entries => uptoBulkEntries entries + 1
  | .held _ => 1
def uptoBulkAll {H : Type} : List (DataW H) → Nat
  | [] => 0
  | d :: r => uptoBulk d + uptoBulkAll r
def uptoBulkEntries {H : Type} : List (Lit × DataW H) → Nat
  | [] => 0
  | x :: r => uptoBulkEntry x + uptoBulkEntries r
def uptoBulkEntry {H : Type} : Lit × DataW H → Nat
  | (.string bytes, d) => bytes.length + uptoBulk d + 1
  | (_, d) => uptoBulk d + 1
 end
def uptoSmall : (H : Type) → List (DataW H) → Bool := fun _ ds => decide (uptoBulkAll ds ≤ 1048576)
def OpenSpec.upto (s : _root_.Go.ChangeSpec) : _root_.Go.OpenSpec := { _root_.Go.OpenSpec.ofChange s with cond := some uptoSmall }

/-- 'laws.FnExactTapeSum', WHERE WHAT IT READS IS OF BULK AT MOST 1048576: true; the input reads as it did. -/
def fnExactTapeSumUptoRow : OpenClaim := { program := "ytbhdfiliighfcaa", sum := "150d3776b56188384f9db3842148345012eb1eebdefbb64a9f6076989d6c6ba0", func := "loop.example/cellarage/laws.FnExactTapeSum", spec := "fnExactTapeSum", apart := false, narrowed := true }
def FnExactTapeSumUptoSaid : Prop := fnExactTapeSumUptoRow.holds Try.pinned (OpenSpec.upto fnExactTapeSumSpec)

/-- 'laws.FnExactVolOk', WHERE WHAT IT READS IS OF BULK AT MOST 1048576: true; the input reads as it did. -/
def fnExactVolOkUptoRow : OpenClaim := { program := "ytbhdfiliighfcaa", sum := "150d3776b56188384f9db3842148345012eb1eebdefbb64a9f6076989d6c6ba0", func := "loop.example/cellarage/laws.FnExactVolOk", spec := "fnExactVolOk", apart := false, narrowed := true }
def FnExactVolOkUptoSaid : Prop := fnExactVolOkUptoRow.holds Try.pinned (OpenSpec.upto fnExactVolOkSpec)

/-- 'laws.FnExactTapeCut', WHERE WHAT IT READS IS OF BULK AT MOST 1048576: true; the input reads as it did. -/
def fnExactTapeCutUptoRow : OpenClaim := { program := "ytbhdfiliighfcaa", sum := "150d3776b56188384f9db3842148345012eb1eebdefbb64a9f6076989d6c6ba0", func := "loop.example/cellarage/laws.FnExactTapeCut", spec := "fnExactTapeCut", apart := false, narrowed := true }
def FnExactTapeCutUptoSaid : Prop := fnExactTapeCutUptoRow.holds Try.pinned (OpenSpec.upto fnExactTapeCutSpec)

end Rows
end Go.Proofs.Ytbhdfiliighfcaa
