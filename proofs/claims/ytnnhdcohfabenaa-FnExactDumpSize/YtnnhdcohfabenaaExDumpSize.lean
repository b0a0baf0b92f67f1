/-
  For everything that is kept, FnExactDumpSize answers true: DumpSize of the program answers as DumpSize of the specification, and what is kept reads afterwards as it read before. No condition.
-/
import Derived.Test.YtnnhdcohfabenaaRowDumpSize
import Derived.Test.YtnnhdcohfabenaaDumpSizeDef
namespace Go.Proofs.Ytnnhdcohfabenaa
theorem fnExactDumpSize_holds : Rows.FnExactDumpSizeSaid := fnExactDumpSize.over implDumpSize_any
end Go.Proofs.Ytnnhdcohfabenaa
