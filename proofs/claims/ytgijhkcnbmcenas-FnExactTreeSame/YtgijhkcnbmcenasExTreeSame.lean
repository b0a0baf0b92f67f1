/-
  For every two trees, FnExactTreeSame answers true: TreeSame of the program answers as TreeSame of the specification, and the trees read afterwards as they read before. No condition.
-/
import Derived.Test.YtgijhkcnbmcenasRowTreeSame
import Derived.Test.YtgijhkcnbmcenasImplTreeSame
namespace Go.Proofs.Ytgijhkcnbmcenas
theorem fnExactTreeSame_holds : Rows.FnExactTreeSameSaid := fnExactTreeSame.over implTreeSame_any
end Go.Proofs.Ytgijhkcnbmcenas
