/-
  For every list of entries and every level, FnExactBookBase answers true: BookBase of the program answers as BookBase of the specification, and the list reads afterwards as it read before. No condition.
-/
import Derived.Test.YtihjoiligkljlaaRowBookBase
namespace Go.Proofs.Ytihjoiligkljlaa
theorem fnExactBookBase_holds : Rows.FnExactBookBaseSaid := fnExactBookBase.over
end Go.Proofs.Ytihjoiligkljlaa
