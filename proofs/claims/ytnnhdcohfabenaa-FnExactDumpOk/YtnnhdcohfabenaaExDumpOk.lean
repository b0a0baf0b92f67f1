/-
  For everything that is kept, FnExactDumpOk answers true: DumpOk of the program answers as DumpOk of the specification, and what is kept reads afterwards as it read before. No condition.
-/
import Derived.Test.YtnnhdcohfabenaaRowDumpOk
import Derived.Test.YtnnhdcohfabenaaImplDumpAll
namespace Go.Proofs.Ytnnhdcohfabenaa
theorem fnExactDumpOk_holds : Rows.FnExactDumpOkSaid := fnExactDumpOk.over (fun d l w h1 h2 _ => implDumpOk_any d l w h1 h2)
end Go.Proofs.Ytnnhdcohfabenaa
