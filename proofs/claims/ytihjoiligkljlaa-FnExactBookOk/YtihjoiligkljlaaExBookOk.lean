/-
  For every list of entries, FnExactBookOk answers true: BookOk of the program answers as BookOk of the specification, and the list reads afterwards as it read before. No condition.
-/
import Derived.Test.YtihjoiligkljlaaRowBookOk
namespace Go.Proofs.Ytihjoiligkljlaa
theorem fnExactBookOk_holds : Rows.FnExactBookOkSaid := fnExactBookOk.over
end Go.Proofs.Ytihjoiligkljlaa
