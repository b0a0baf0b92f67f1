/-
  For every tree and every number, FnExactTreeRefs answers true: TreeRefs of the program answers as TreeRefs of the specification, and the tree reads afterwards as it read before. No condition.
-/
import Derived.Test.YtgijhkcnbmcenasRowTreeRefs
import Derived.Test.YtgijhkcnbmcenasImplTreeRefs
namespace Go.Proofs.Ytgijhkcnbmcenas
theorem fnExactTreeRefs_holds : Rows.FnExactTreeRefsSaid := fnExactTreeRefs.over implTreeRefs
end Go.Proofs.Ytgijhkcnbmcenas
