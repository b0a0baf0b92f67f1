/-
  For every text, FnExactTapeSum answers true: TapeSum of the program answers as TapeSum of the specification. No condition.
-/
import Derived.Test.YtbhdfiliighfcaaRowTapeSum
namespace Go.Proofs.Ytbhdfiliighfcaa
theorem fnExactTapeSum_holds : Rows.FnExactTapeSumSaid := fnExactTapeSum.over
end Go.Proofs.Ytbhdfiliighfcaa
