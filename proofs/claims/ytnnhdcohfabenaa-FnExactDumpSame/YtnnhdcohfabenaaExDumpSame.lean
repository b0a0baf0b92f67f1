/-
  For every two things that are kept, FnExactDumpSame answers true: DumpSame of the program answers as DumpSame of the specification, and both read afterwards as they read before. No condition.
-/
import Derived.Test.YtnnhdcohfabenaaRowDumpSame
import Derived.Test.YtnnhdcohfabenaaImplDumpSame
namespace Go.Proofs.Ytnnhdcohfabenaa
theorem fnExactDumpSame_holds : Rows.FnExactDumpSameSaid := fnExactDumpSame.over implDumpSame_any
end Go.Proofs.Ytnnhdcohfabenaa
