/-
  For every piece, FnExactVolOk answers true: VolOk of the program answers as VolOk of the specification, and the piece reads afterwards as it read before. No condition.
-/
import Derived.Test.YtbhdfiliighfcaaRowVolOk
namespace Go.Proofs.Ytbhdfiliighfcaa
theorem fnExactVolOk_holds : Rows.FnExactVolOkSaid := fnExactVolOk.over
end Go.Proofs.Ytbhdfiliighfcaa
