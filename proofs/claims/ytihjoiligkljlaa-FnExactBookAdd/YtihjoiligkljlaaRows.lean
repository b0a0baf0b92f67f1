/-
  No cell of these rows narrows 'for every input' (looked for: loops, veiled, ifaces, maps, wideKeys, modest, calm, conditions, laid).
  DERIVED. THE GIVEN ROWS OF THIS SEAT. 4 by the template 'for every input the law returns true; each argument reads behind the call as it read before'; 0 by the template 'total and deterministic' (their statements: YtihjoiligkljlaaTotals.lean).
  GIVEN WITH THE SEED: the statements are not yours to turn. If you find one false, say at which input.
  Laid BY PROGRAM, IN A SANDBOX (cutbox-rows.mjs): the forced cells as the released guide's own fill.sh prints them over the translation 3e2e11f5f8699d3e… (all of the seat's roots in one cut). By AI agents, Wed Nov 11 2026. No macro, syntax, notation, axiom, sorry.
-/
import Derived.Test.YtihjoiligkljlaaChecked
import GoSem.Claim
import GoSem.ClaimJoined
import GoSem.ClaimMapViews
import Derived.JoinedTies
import Derived.KernelRfl
namespace Go.Proofs.Ytihjoiligkljlaa
/- THE CELL 'sum', in the pinned program and in every row, IS THE sha256 OF THE DUMP (.gsa) THAT YtihjoiligkljlaaProg.lean LOADS. Nothing in Lean hashes anything: it is a label: what it is worth is what the hold of that sum in a sandbox is worth. -/
noncomputable def Try.pinned : Pinned := { name := "ytihjoiligkljlaa", sum := "3e2e11f5f8699d3eddc657b1c2c5cf9edbaafbd007a6034d780f7d6ed318eaca", checked := Try.checked }
namespace Rows
def none {H : Type} : Left H := { results := [], args := [] }

/-- 'laws.FnExactBookOk': WHATEVER THE INPUT: true; the input reads as it did. -/
def fnExactBookOkSpec : ChangeSpec := { name := "fnExactBookOk", fn := fun _ => fun
  | [d] => { results := [.lit (.bool true)], args := [d] }
  | _ => none }
def fnExactBookOkRow : OpenClaim := { program := "ytihjoiligkljlaa", sum := "3e2e11f5f8699d3eddc657b1c2c5cf9edbaafbd007a6034d780f7d6ed318eaca", func := "loop.example/cellarage/laws.FnExactBookOk", spec := "fnExactBookOk", apart := false }
def FnExactBookOkSaid : Prop := fnExactBookOkRow.holds Try.pinned (OpenSpec.ofChange fnExactBookOkSpec)

/-- ITS FALSE NEIGHBOUR: 'it returns false'. Refute it at one input. -/
def fnExactBookOkWrong : ChangeSpec := { name := "fnExactBookOk", fn := fun _ => fun
  | [d] => { results := [.lit (.bool false)], args := [d] }
  | _ => none }
def FnExactBookOkWrongFalsely : Prop := fnExactBookOkRow.holds Try.pinned (OpenSpec.ofChange fnExactBookOkWrong)

/-- 'laws.FnExactBookBase': WHATEVER THE INPUT: true; the input reads as it did. -/
def fnExactBookBaseSpec : ChangeSpec := { name := "fnExactBookBase", fn := fun _ => fun
  | [d1, d2] => { results := [.lit (.bool true)], args := [d1, d2] }
  | _ => none }
def fnExactBookBaseRow : OpenClaim := { program := "ytihjoiligkljlaa", sum := "3e2e11f5f8699d3eddc657b1c2c5cf9edbaafbd007a6034d780f7d6ed318eaca", func := "loop.example/cellarage/laws.FnExactBookBase", spec := "fnExactBookBase", apart := false }
def FnExactBookBaseSaid : Prop := fnExactBookBaseRow.holds Try.pinned (OpenSpec.ofChange fnExactBookBaseSpec)

/-- ITS FALSE NEIGHBOUR: 'it returns false'. Refute it at one input. -/
def fnExactBookBaseWrong : ChangeSpec := { name := "fnExactBookBase", fn := fun _ => fun
  | [d1, d2] => { results := [.lit (.bool false)], args := [d1, d2] }
  | _ => none }
def FnExactBookBaseWrongFalsely : Prop := fnExactBookBaseRow.holds Try.pinned (OpenSpec.ofChange fnExactBookBaseWrong)

/-- 'laws.FnExactBookAdd': WHATEVER THE INPUT: true; the input reads as it did. -/
def fnExactBookAddSpec : ChangeSpec := { name := "fnExactBookAdd", fn := fun _ => fun
  | [d1, d2, d3] => { results := [.lit (.bool true)], args := [d1, d2, d3] }
  | _ => none }
def fnExactBookAddRow : OpenClaim := { program := "ytihjoiligkljlaa", sum := "3e2e11f5f8699d3eddc657b1c2c5cf9edbaafbd007a6034d780f7d6ed318eaca", func := "loop.example/cellarage/laws.FnExactBookAdd", spec := "fnExactBookAdd", apart := false }
def FnExactBookAddSaid : Prop := fnExactBookAddRow.holds Try.pinned (OpenSpec.ofChange fnExactBookAddSpec)

/-- ITS FALSE NEIGHBOUR: 'it returns false'. Refute it at one input. -/
def fnExactBookAddWrong : ChangeSpec := { name := "fnExactBookAdd", fn := fun _ => fun
  | [d1, d2, d3] => { results := [.lit (.bool false)], args := [d1, d2, d3] }
  | _ => none }
def FnExactBookAddWrongFalsely : Prop := fnExactBookAddRow.holds Try.pinned (OpenSpec.ofChange fnExactBookAddWrong)

/-- 'laws.FnExactBookChain': WHATEVER THE INPUT: true; the input reads as it did. -/
def fnExactBookChainSpec : ChangeSpec := { name := "fnExactBookChain", fn := fun _ => fun
  | [d] => { results := [.lit (.bool true)], args := [d] }
  | _ => none }
def fnExactBookChainRow : OpenClaim := { program := "ytihjoiligkljlaa", sum := "3e2e11f5f8699d3eddc657b1c2c5cf9edbaafbd007a6034d780f7d6ed318eaca", func := "loop.example/cellarage/laws.FnExactBookChain", spec := "fnExactBookChain", unfollowed := true, recurses := true, apart := false }
def FnExactBookChainSaid : Prop := fnExactBookChainRow.holds Try.pinned (OpenSpec.ofChange fnExactBookChainSpec)

/-- ITS FALSE NEIGHBOUR: 'it returns false'. Refute it at one input. -/
def fnExactBookChainWrong : ChangeSpec := { name := "fnExactBookChain", fn := fun _ => fun
  | [d] => { results := [.lit (.bool false)], args := [d] }
  | _ => none }
def FnExactBookChainWrongFalsely : Prop := fnExactBookChainRow.holds Try.pinned (OpenSpec.ofChange fnExactBookChainWrong)

/- THE SECOND FORM. 'bulk': how many values and letters a reading holds, each counted each time it is reached (what is shared counts as often as it is met; a slice's spare places count too). A statement '..UptoSaid' is the law's where the arguments, and the package variables that the reading takes, are together of bulk at most 1048576: NARROWER than '..Said'. Prove '..Said' where nothing that the law and all that it calls make is longer than what came in: it says more and counts as full. Else prove '..UptoSaid'. A law counts once. -/
mutual
def uptoBulk {H : Type} : DataW H → Nat
  | .lit (.string bytes) => bytes.length + 1
  | .lit _ => 1
  | .nil => 1
  | .ptr d => uptoBulk d + 1
  | .slice elems spare => uptoBulkAll elems + uptoBulkAll spare + 1
  | .agg parts => uptoBulkAll parts + 1
  | .iface _ d => uptoBulk d + 1
  | .map entries => uptoBulkEntries entries + 1
  | .held _ => 1
def uptoBulkAll {H : Type} : List (DataW H) → Nat
  | [] => 0
  | d :: r => uptoBulk d + uptoBulkAll r
def uptoBulkEntries {H : Type} : List (Lit × DataW H) → Nat
  | [] => 0
  | x :: r => uptoBulkEntry x + uptoBulkEntries r
def uptoBulkEntry {H : Type} : Lit × DataW H → Nat
  | (.string bytes, d) => bytes.length + uptoBulk d + 1
  | (_, d) => uptoBulk d + 1
 end
def uptoSmall : (H : Type) → List (DataW H) → Bool := fun _ ds => decide (uptoBulkAll ds ≤ 1048576)
def OpenSpec.upto (s : _root_.Go.ChangeSpec) : _root_.Go.OpenSpec := { _root_.Go.OpenSpec.ofChange s with cond := some uptoSmall }

/-- 'laws.FnExactBookOk', WHERE WHAT IT READS IS OF BULK AT MOST 1048576: true; the input reads as it did. -/
def fnExactBookOkUptoRow : OpenClaim := { program := "ytihjoiligkljlaa", sum := "3e2e11f5f8699d3eddc657b1c2c5cf9edbaafbd007a6034d780f7d6ed318eaca", func := "loop.example/cellarage/laws.FnExactBookOk", spec := "fnExactBookOk", apart := false, narrowed := true }
def FnExactBookOkUptoSaid : Prop := fnExactBookOkUptoRow.holds Try.pinned (OpenSpec.upto fnExactBookOkSpec)

/-- 'laws.FnExactBookBase', WHERE WHAT IT READS IS OF BULK AT MOST 1048576: true; the input reads as it did. -/
def fnExactBookBaseUptoRow : OpenClaim := { program := "ytihjoiligkljlaa", sum := "3e2e11f5f8699d3eddc657b1c2c5cf9edbaafbd007a6034d780f7d6ed318eaca", func := "loop.example/cellarage/laws.FnExactBookBase", spec := "fnExactBookBase", apart := false, narrowed := true }
def FnExactBookBaseUptoSaid : Prop := fnExactBookBaseUptoRow.holds Try.pinned (OpenSpec.upto fnExactBookBaseSpec)

/-- 'laws.FnExactBookAdd', WHERE WHAT IT READS IS OF BULK AT MOST 1048576: true; the input reads as it did. -/
def fnExactBookAddUptoRow : OpenClaim := { program := "ytihjoiligkljlaa", sum := "3e2e11f5f8699d3eddc657b1c2c5cf9edbaafbd007a6034d780f7d6ed318eaca", func := "loop.example/cellarage/laws.FnExactBookAdd", spec := "fnExactBookAdd", apart := false, narrowed := true }
def FnExactBookAddUptoSaid : Prop := fnExactBookAddUptoRow.holds Try.pinned (OpenSpec.upto fnExactBookAddSpec)

/-- 'laws.FnExactBookChain', WHERE WHAT IT READS IS OF BULK AT MOST 1048576: true; the input reads as it did. -/
def fnExactBookChainUptoRow : OpenClaim := { program := "ytihjoiligkljlaa", sum := "3e2e11f5f8699d3eddc657b1c2c5cf9edbaafbd007a6034d780f7d6ed318eaca", func := "loop.example/cellarage/laws.FnExactBookChain", spec := "fnExactBookChain", unfollowed := true, recurses := true, apart := false, narrowed := true }
def FnExactBookChainUptoSaid : Prop := fnExactBookChainUptoRow.holds Try.pinned (OpenSpec.upto fnExactBookChainSpec)

end Rows
end Go.Proofs.Ytihjoiligkljlaa
