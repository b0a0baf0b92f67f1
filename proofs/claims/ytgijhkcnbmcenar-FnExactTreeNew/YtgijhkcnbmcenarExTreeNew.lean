/-
  For every number, FnExactTreeNew answers true: TreeNew of the program answers as TreeNew of the specification, every part of it; what it answers is its own memory, behind another call too. No condition.
-/
import Derived.Test.YtgijhkcnbmcenarRowTreeNew
namespace Go.Proofs.Ytgijhkcnbmcenar
theorem fnExactTreeNew_holds : Rows.FnExactTreeNewSaid := fnExactTreeNew.over
end Go.Proofs.Ytgijhkcnbmcenar
