/-
  For every tree, FnExactTreeOk answers true: TreeOk of the program answers as TreeOk of the specification, and the tree reads afterwards as it read before. No condition.
-/
import Derived.Test.YtgijhkcnbmcenasRowTreeOk
import Derived.Test.YtgijhkcnbmcenasImplTreeOk
namespace Go.Proofs.Ytgijhkcnbmcenas
theorem fnExactTreeOk_holds : Rows.FnExactTreeOkSaid := fnExactTreeOk.over implTreeOk
end Go.Proofs.Ytgijhkcnbmcenas
