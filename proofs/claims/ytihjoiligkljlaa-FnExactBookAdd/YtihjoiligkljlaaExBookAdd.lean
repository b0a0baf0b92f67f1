/-
  For every list of entries, every level and every turn, FnExactBookAdd answers true: BookAdd of the program answers as BookAdd of the specification, its answer owns its memory, and the list reads afterwards as it read before. No condition.
-/
import Derived.Test.YtihjoiligkljlaaRowBookAdd
namespace Go.Proofs.Ytihjoiligkljlaa
theorem fnExactBookAdd_holds : Rows.FnExactBookAddSaid := fnExactBookAdd.over
end Go.Proofs.Ytihjoiligkljlaa
