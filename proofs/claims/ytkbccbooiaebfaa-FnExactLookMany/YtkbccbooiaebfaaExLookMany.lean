/-
  For every tree, FnExactLookMany answers true: LookMany of the program answers as LookMany of the specification, and the tree reads afterwards as it read before. No condition.
-/
import Derived.Test.YtkbccbooiaebfaaRowLookMany
namespace Go.Proofs.Ytkbccbooiaebfaa
theorem fnExactLookMany_holds : Rows.FnExactLookManySaid := fnExactLookMany.over
end Go.Proofs.Ytkbccbooiaebfaa
