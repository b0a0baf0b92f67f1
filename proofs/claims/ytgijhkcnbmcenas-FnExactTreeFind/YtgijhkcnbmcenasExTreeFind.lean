/-
  For every tree and every list of texts, FnExactTreeFind answers true: TreeFind of the program answers as TreeFind of the specification, and tree and list read afterwards as they read before. No condition.
-/
import Derived.Test.YtgijhkcnbmcenasRowTreeFind
namespace Go.Proofs.Ytgijhkcnbmcenas
theorem fnExactTreeFind_holds : Rows.FnExactTreeFindSaid := fnExactTreeFind.over implTreeFind
end Go.Proofs.Ytgijhkcnbmcenas
