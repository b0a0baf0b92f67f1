/-
  NARROWER THAN 'FOR EVERY INPUT', by the rows' own cells (each row's printed sentence says how): FnExactJobNew: laid · FnExactJobOk: laid · FnExactJobStep: laid · FnExactJobLeft: laid · FnExactJobTree: laid · FnExactBackAll: laid.
  DERIVED. THE GIVEN ROWS OF THIS SEAT. 6 by the template 'for every input the law returns true; each argument reads behind the call as it read before'; 0 by the template 'total and deterministic' (their statements: YtakifcobofkheaaGreatDoorTotals.lean).
  GIVEN WITH THE SEED: the statements are not yours to turn. If you find one false, say at which input.
  Laid BY PROGRAM, IN A SANDBOX (cutbox-rows.mjs): the forced cells as the released guide's own fill.sh prints them over the translation f21d9193fe6873ec… (all of the seat's roots in one cut). By AI agents, Wed Nov 11 2026. No macro, syntax, notation, axiom, sorry.
-/
import Derived.Test.YtakifcobofkheaaGreatDoorChecked
import GoSem.Claim
import GoSem.ClaimJoined
import GoSem.ClaimMapViews
import Derived.JoinedTies
import Derived.KernelRfl
namespace Go.Proofs.YtakifcobofkheaaGreatDoor
/- THE CELL 'sum', in the pinned program and in every row, IS THE sha256 OF THE DUMP (.gsa) THAT YtakifcobofkheaaGreatDoorProg.lean LOADS. Nothing in Lean hashes anything: it is a label: what it is worth is what the hold of that sum in a sandbox is worth. -/
noncomputable def Tryz.pinned : Pinned := { name := "ytakifcobofkheaagreatdoor", sum := "f21d9193fe6873ec006d232a0bddbb3f368f43aec2f5d57c009a07b27453566a", checked := Tryz.checked }
namespace Rows
def none {H : Type} : Left H := { results := [], args := [] }

/- WHAT THE LISTED PACKAGE-LEVEL VARIABLES READ AS WHEN THE CALL BEGINS. Each datum BY PROGRAM (the guide's laid-datum.mjs) off the statement by which the dump's own 'gosem.cut.vars' lays the variable. In a bare row this is a premise. The card (YtakifcobofkheaaGreatDoorCards.lean) ties it to the program's text. -/
def laid_errors_errorType {H : Type} : DataW H := .iface "internal/reflectlite.rtype" (.agg [.ptr (.lit (.string [101, 114, 114, 111, 114]))])

/-- 'laws.FnExactJobNew': WHATEVER THE INPUT: true; the input reads as it did. -/
def fnExactJobNewSpec : ChangeSpec := { name := "fnExactJobNew", fn := fun _ => fun
  | [d1, d2] => { results := [.lit (.bool true)], args := [d1, d2] }
  | _ => none }
def fnExactJobNewRow : OpenClaim := { program := "ytakifcobofkheaagreatdoor", sum := "f21d9193fe6873ec006d232a0bddbb3f368f43aec2f5d57c009a07b27453566a", func := "loop.example/cellarage/laws.FnExactJobNew", spec := "fnExactJobNew", inPlace := ["internal/reflectlite.ValueOf", "(internal/reflectlite.Value).Type", "(internal/reflectlite.Value).IsNil", "internal/reflectlite.TypeOf", "(internal/reflectlite.Value).Elem", "(internal/reflectlite.Value).Set"], unfollowed := true, recurses := true, named := ["errors.errorType"], apart := false, laid := [("errors.errorType", laid_errors_errorType)] }
def FnExactJobNewSaid : Prop := fnExactJobNewRow.holds Tryz.pinned (OpenSpec.ofChange fnExactJobNewSpec)

/-- ITS FALSE NEIGHBOUR: 'it returns false'. Refute it at one input. -/
def fnExactJobNewWrong : ChangeSpec := { name := "fnExactJobNew", fn := fun _ => fun
  | [d1, d2] => { results := [.lit (.bool false)], args := [d1, d2] }
  | _ => none }
def FnExactJobNewWrongFalsely : Prop := fnExactJobNewRow.holds Tryz.pinned (OpenSpec.ofChange fnExactJobNewWrong)

/-- 'laws.FnExactJobOk': WHATEVER THE INPUT: true; the input reads as it did. -/
def fnExactJobOkSpec : ChangeSpec := { name := "fnExactJobOk", fn := fun _ => fun
  | [d] => { results := [.lit (.bool true)], args := [d] }
  | _ => none }
def fnExactJobOkRow : OpenClaim := { program := "ytakifcobofkheaagreatdoor", sum := "f21d9193fe6873ec006d232a0bddbb3f368f43aec2f5d57c009a07b27453566a", func := "loop.example/cellarage/laws.FnExactJobOk", spec := "fnExactJobOk", inPlace := ["internal/reflectlite.ValueOf", "(internal/reflectlite.Value).Type", "(internal/reflectlite.Value).IsNil", "internal/reflectlite.TypeOf", "(internal/reflectlite.Value).Elem", "(internal/reflectlite.Value).Set"], unfollowed := true, recurses := true, named := ["errors.errorType"], apart := false, laid := [("errors.errorType", laid_errors_errorType)] }
def FnExactJobOkSaid : Prop := fnExactJobOkRow.holds Tryz.pinned (OpenSpec.ofChange fnExactJobOkSpec)

/-- ITS FALSE NEIGHBOUR: 'it returns false'. Refute it at one input. -/
def fnExactJobOkWrong : ChangeSpec := { name := "fnExactJobOk", fn := fun _ => fun
  | [d] => { results := [.lit (.bool false)], args := [d] }
  | _ => none }
def FnExactJobOkWrongFalsely : Prop := fnExactJobOkRow.holds Tryz.pinned (OpenSpec.ofChange fnExactJobOkWrong)

/-- 'laws.FnExactJobStep': WHATEVER THE INPUT: true; the input reads as it did. -/
def fnExactJobStepSpec : ChangeSpec := { name := "fnExactJobStep", fn := fun _ => fun
  | [d] => { results := [.lit (.bool true)], args := [d] }
  | _ => none }
def fnExactJobStepRow : OpenClaim := { program := "ytakifcobofkheaagreatdoor", sum := "f21d9193fe6873ec006d232a0bddbb3f368f43aec2f5d57c009a07b27453566a", func := "loop.example/cellarage/laws.FnExactJobStep", spec := "fnExactJobStep", inPlace := ["internal/reflectlite.ValueOf", "(internal/reflectlite.Value).Type", "(internal/reflectlite.Value).IsNil", "internal/reflectlite.TypeOf", "(internal/reflectlite.Value).Elem", "(internal/reflectlite.Value).Set"], unfollowed := true, recurses := true, named := ["errors.errorType"], apart := false, laid := [("errors.errorType", laid_errors_errorType)] }
def FnExactJobStepSaid : Prop := fnExactJobStepRow.holds Tryz.pinned (OpenSpec.ofChange fnExactJobStepSpec)

/-- ITS FALSE NEIGHBOUR: 'it returns false'. Refute it at one input. -/
def fnExactJobStepWrong : ChangeSpec := { name := "fnExactJobStep", fn := fun _ => fun
  | [d] => { results := [.lit (.bool false)], args := [d] }
  | _ => none }
def FnExactJobStepWrongFalsely : Prop := fnExactJobStepRow.holds Tryz.pinned (OpenSpec.ofChange fnExactJobStepWrong)

/-- 'laws.FnExactJobLeft': WHATEVER THE INPUT: true; the input reads as it did. -/
def fnExactJobLeftSpec : ChangeSpec := { name := "fnExactJobLeft", fn := fun _ => fun
  | [d] => { results := [.lit (.bool true)], args := [d] }
  | _ => none }
def fnExactJobLeftRow : OpenClaim := { program := "ytakifcobofkheaagreatdoor", sum := "f21d9193fe6873ec006d232a0bddbb3f368f43aec2f5d57c009a07b27453566a", func := "loop.example/cellarage/laws.FnExactJobLeft", spec := "fnExactJobLeft", inPlace := ["internal/reflectlite.ValueOf", "(internal/reflectlite.Value).Type", "(internal/reflectlite.Value).IsNil", "internal/reflectlite.TypeOf", "(internal/reflectlite.Value).Elem", "(internal/reflectlite.Value).Set"], unfollowed := true, recurses := true, named := ["errors.errorType"], apart := false, laid := [("errors.errorType", laid_errors_errorType)] }
def FnExactJobLeftSaid : Prop := fnExactJobLeftRow.holds Tryz.pinned (OpenSpec.ofChange fnExactJobLeftSpec)

/-- ITS FALSE NEIGHBOUR: 'it returns false'. Refute it at one input. -/
def fnExactJobLeftWrong : ChangeSpec := { name := "fnExactJobLeft", fn := fun _ => fun
  | [d] => { results := [.lit (.bool false)], args := [d] }
  | _ => none }
def FnExactJobLeftWrongFalsely : Prop := fnExactJobLeftRow.holds Tryz.pinned (OpenSpec.ofChange fnExactJobLeftWrong)

/-- 'laws.FnExactJobTree': WHATEVER THE INPUT: true; the input reads as it did. -/
def fnExactJobTreeSpec : ChangeSpec := { name := "fnExactJobTree", fn := fun _ => fun
  | [d] => { results := [.lit (.bool true)], args := [d] }
  | _ => none }
def fnExactJobTreeRow : OpenClaim := { program := "ytakifcobofkheaagreatdoor", sum := "f21d9193fe6873ec006d232a0bddbb3f368f43aec2f5d57c009a07b27453566a", func := "loop.example/cellarage/laws.FnExactJobTree", spec := "fnExactJobTree", inPlace := ["internal/reflectlite.ValueOf", "(internal/reflectlite.Value).Type", "(internal/reflectlite.Value).IsNil", "internal/reflectlite.TypeOf", "(internal/reflectlite.Value).Elem", "(internal/reflectlite.Value).Set"], unfollowed := true, recurses := true, named := ["errors.errorType"], apart := false, laid := [("errors.errorType", laid_errors_errorType)] }
def FnExactJobTreeSaid : Prop := fnExactJobTreeRow.holds Tryz.pinned (OpenSpec.ofChange fnExactJobTreeSpec)

/-- ITS FALSE NEIGHBOUR: 'it returns false'. Refute it at one input. -/
def fnExactJobTreeWrong : ChangeSpec := { name := "fnExactJobTree", fn := fun _ => fun
  | [d] => { results := [.lit (.bool false)], args := [d] }
  | _ => none }
def FnExactJobTreeWrongFalsely : Prop := fnExactJobTreeRow.holds Tryz.pinned (OpenSpec.ofChange fnExactJobTreeWrong)

/-- 'laws.FnExactBackAll': WHATEVER THE INPUT: true; the input reads as it did. -/
def fnExactBackAllSpec : ChangeSpec := { name := "fnExactBackAll", fn := fun _ => fun
  | [d] => { results := [.lit (.bool true)], args := [d] }
  | _ => none }
def fnExactBackAllRow : OpenClaim := { program := "ytakifcobofkheaagreatdoor", sum := "f21d9193fe6873ec006d232a0bddbb3f368f43aec2f5d57c009a07b27453566a", func := "loop.example/cellarage/laws.FnExactBackAll", spec := "fnExactBackAll", inPlace := ["internal/reflectlite.ValueOf", "(internal/reflectlite.Value).Type", "(internal/reflectlite.Value).IsNil", "internal/reflectlite.TypeOf", "(internal/reflectlite.Value).Elem", "(internal/reflectlite.Value).Set"], unfollowed := true, recurses := true, named := ["errors.errorType"], apart := false, laid := [("errors.errorType", laid_errors_errorType)] }
def FnExactBackAllSaid : Prop := fnExactBackAllRow.holds Tryz.pinned (OpenSpec.ofChange fnExactBackAllSpec)

/-- ITS FALSE NEIGHBOUR: 'it returns false'. Refute it at one input. -/
def fnExactBackAllWrong : ChangeSpec := { name := "fnExactBackAll", fn := fun _ => fun
  | [d] => { results := [.lit (.bool false)], args := [d] }
  | _ => none }
def FnExactBackAllWrongFalsely : Prop := fnExactBackAllRow.holds Tryz.pinned (OpenSpec.ofChange fnExactBackAllWrong)

/- THE SECOND FORM. 'bulk': how many values and letters a reading holds, each counted each time it is reached (what is shared counts as often as it is met; a slice's spare places count too). A statement '..UptoSaid' is the law's where the arguments, and the package variables that the reading takes, are together of bulk at most 1048576: NARROWER than '..Said'. Prove '..Said' where nothing that the law and all that it calls make is longer than what came in: it says more and counts as full. Else prove '..UptoSaid'. A law counts once. -/
mutual
def uptoBulk {H : Type} : DataW H → Nat
  | .lit (.string bytes) => bytes.length + 1
  | .lit _ => 1
  | .nil => 1
  | .ptr d => uptoBulk d + 1
  | .slice elems spare => uptoBulkAll elems + uptoBulkAll spare + 1
  | .agg parts => uptoBulkAll parts + 1
  | .iface _ d => uptoBulk d + 1
  | .map entries => uptoBulkEntries entries + 1
  | .held _ => 1
def uptoBulkAll {H : Type} : List (DataW H) → Nat
  | [] => 0
  | d :: r => uptoBulk d + uptoBulkAll r
def uptoBulkEntries {H : Type} : List (Lit × DataW H) → Nat
  | [] => 0
  | x :: r => uptoBulkEntry x + uptoBulkEntries r
def uptoBulkEntry {H : Type} : Lit × DataW H → Nat
  | (.string bytes, d) => bytes.length + uptoBulk d + 1
  | (_, d) => uptoBulk d + 1
 end
def uptoSmall : (H : Type) → List (DataW H) → Bool := fun _ ds => decide (uptoBulkAll ds ≤ 1048576)
def OpenSpec.upto (s : _root_.Go.ChangeSpec) : _root_.Go.OpenSpec := { _root_.Go.OpenSpec.ofChange s with cond := some uptoSmall }

/-- 'laws.FnExactJobNew', WHERE WHAT IT READS IS OF BULK AT MOST 1048576: true; the input reads as it did. -/
def fnExactJobNewUptoRow : OpenClaim := { program := "ytakifcobofkheaagreatdoor", sum := "f21d9193fe6873ec006d232a0bddbb3f368f43aec2f5d57c009a07b27453566a", func := "loop.example/cellarage/laws.FnExactJobNew", spec := "fnExactJobNew", inPlace := ["internal/reflectlite.ValueOf", "(internal/reflectlite.Value).Type", "(internal/reflectlite.Value).IsNil", "internal/reflectlite.TypeOf", "(internal/reflectlite.Value).Elem", "(internal/reflectlite.Value).Set"], unfollowed := true, recurses := true, named := ["errors.errorType"], apart := false, laid := [("errors.errorType", laid_errors_errorType)], narrowed := true }
def FnExactJobNewUptoSaid : Prop := fnExactJobNewUptoRow.holds Tryz.pinned (OpenSpec.upto fnExactJobNewSpec)

/-- 'laws.FnExactJobOk', WHERE WHAT IT READS IS OF BULK AT MOST 1048576: true; the input reads as it did. -/
def fnExactJobOkUptoRow : OpenClaim := { program := "ytakifcobofkheaagreatdoor", sum := "f21d9193fe6873ec006d232a0bddbb3f368f43aec2f5d57c009a07b27453566a", func := "loop.example/cellarage/laws.FnExactJobOk", spec := "fnExactJobOk", inPlace := ["internal/reflectlite.ValueOf", "(internal/reflectlite.Value).Type", "(internal/reflectlite.Value).IsNil", "internal/reflectlite.TypeOf", "(internal/reflectlite.Value).Elem", "(internal/reflectlite.Value).Set"], unfollowed := true, recurses := true, named := ["errors.errorType"], apart := false, laid := [("errors.errorType", laid_errors_errorType)], narrowed := true }
def FnExactJobOkUptoSaid : Prop := fnExactJobOkUptoRow.holds Tryz.pinned (OpenSpec.upto fnExactJobOkSpec)

/-- 'laws.FnExactJobStep', WHERE WHAT IT READS IS OF BULK AT MOST 1048576: true; the input reads as it did. -/
def fnExactJobStepUptoRow : OpenClaim := { program := "ytakifcobofkheaagreatdoor", sum := "f21d9193fe6873ec006d232a0bddbb3f368f43aec2f5d57c009a07b27453566a", func := "loop.example/cellarage/laws.FnExactJobStep", spec := "fnExactJobStep", inPlace := ["internal/reflectlite.ValueOf", "(internal/reflectlite.Value).Type", "(internal/reflectlite.Value).IsNil", "internal/reflectlite.TypeOf", "(internal/reflectlite.Value).Elem", "(internal/reflectlite.Value).Set"], unfollowed := true, recurses := true, named := ["errors.errorType"], apart := false, laid := [("errors.errorType", laid_errors_errorType)], narrowed := true }
def FnExactJobStepUptoSaid : Prop := fnExactJobStepUptoRow.holds Tryz.pinned (OpenSpec.upto fnExactJobStepSpec)

/-- 'laws.FnExactJobLeft', WHERE WHAT IT READS IS OF BULK AT MOST 1048576: true; the input reads as it did. -/
def fnExactJobLeftUptoRow : OpenClaim := { program := "ytakifcobofkheaagreatdoor", sum := "f21d9193fe6873ec006d232a0bddbb3f368f43aec2f5d57c009a07b27453566a", func := "loop.example/cellarage/laws.FnExactJobLeft", spec := "fnExactJobLeft", inPlace := ["internal/reflectlite.ValueOf", "(internal/reflectlite.Value).Type", "(internal/reflectlite.Value).IsNil", "internal/reflectlite.TypeOf", "(internal/reflectlite.Value).Elem", "(internal/reflectlite.Value).Set"], unfollowed := true, recurses := true, named := ["errors.errorType"], apart := false, laid := [("errors.errorType", laid_errors_errorType)], narrowed := true }
def FnExactJobLeftUptoSaid : Prop := fnExactJobLeftUptoRow.holds Tryz.pinned (OpenSpec.upto fnExactJobLeftSpec)

/-- 'laws.FnExactJobTree', WHERE WHAT IT READS IS OF BULK AT MOST 1048576: true; the input reads as it did. -/
def fnExactJobTreeUptoRow : OpenClaim := { program := "ytakifcobofkheaagreatdoor", sum := "f21d9193fe6873ec006d232a0bddbb3f368f43aec2f5d57c009a07b27453566a", func := "loop.example/cellarage/laws.FnExactJobTree", spec := "fnExactJobTree", inPlace := ["internal/reflectlite.ValueOf", "(internal/reflectlite.Value).Type", "(internal/reflectlite.Value).IsNil", "internal/reflectlite.TypeOf", "(internal/reflectlite.Value).Elem", "(internal/reflectlite.Value).Set"], unfollowed := true, recurses := true, named := ["errors.errorType"], apart := false, laid := [("errors.errorType", laid_errors_errorType)], narrowed := true }
def FnExactJobTreeUptoSaid : Prop := fnExactJobTreeUptoRow.holds Tryz.pinned (OpenSpec.upto fnExactJobTreeSpec)

/-- 'laws.FnExactBackAll', WHERE WHAT IT READS IS OF BULK AT MOST 1048576: true; the input reads as it did. -/
def fnExactBackAllUptoRow : OpenClaim := { program := "ytakifcobofkheaagreatdoor", sum := "f21d9193fe6873ec006d232a0bddbb3f368f43aec2f5d57c009a07b27453566a", func := "loop.example/cellarage/laws.FnExactBackAll", spec := "fnExactBackAll", inPlace := ["internal/reflectlite.ValueOf", "(internal/reflectlite.Value).Type", "(internal/reflectlite.Value).IsNil", "internal/reflectlite.TypeOf", "(internal/reflectlite.Value).Elem", "(internal/reflectlite.Value).Set"], unfollowed := true, recurses := true, named := ["errors.errorType"], apart := false, laid := [("errors.errorType", laid_errors_errorType)], narrowed := true }
def FnExactBackAllUptoSaid : Prop := fnExactBackAllUptoRow.holds Tryz.pinned (OpenSpec.upto fnExactBackAllSpec)

end Rows
end Go.Proofs.YtakifcobofkheaaGreatDoor
