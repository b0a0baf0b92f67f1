/-
  For every two places, FnExactNodeSame answers true: NodeSame of the program answers as NodeSame of the specification, and the places read afterwards as they read before. No condition.
-/
import Derived.Test.YtgijhkcnbmcenasRowNodeSame
import Derived.Test.YtgijhkcnbmcenasImplSame
namespace Go.Proofs.Ytgijhkcnbmcenas
theorem fnExactNodeSame_holds : Rows.FnExactNodeSameSaid := fnExactNodeSame.over implNodeSame_any
end Go.Proofs.Ytgijhkcnbmcenas
