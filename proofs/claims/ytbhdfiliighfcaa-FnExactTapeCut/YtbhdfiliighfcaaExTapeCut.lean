/-
  For every text and size, FnExactTapeCut answers true: TapeCut of the program answers as TapeCut of the specification, its answer owns its memory, also behind another call, and the text reads afterwards as it read before. No condition.
-/
import Derived.Test.YtbhdfiliighfcaaRowTapeCut
namespace Go.Proofs.Ytbhdfiliighfcaa
theorem fnExactTapeCut_holds : Rows.FnExactTapeCutSaid := fnExactTapeCut.over
end Go.Proofs.Ytbhdfiliighfcaa
