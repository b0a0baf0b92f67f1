/-
  What TreeRefs of the program has to keep.
-/
import Derived.Test.YtomacpailikmoabSpecTreeRefs
namespace Go.Proofs.Ytomacpailikmoab
open Go.RowKit

/-- What TreeRefs of the program has to keep. -/
def ImplTreeRefs : Prop := ∀ (a : Option Addr) (n c : Nat) (now ino : Int) (D : Nat → Nd) (L : Nat → Loc) (w : World), IsNds w a n D L → FitAll n D → n ≤ maxLen → sizeTo D n ≤ 1048576 → In64 now → In64 ino →
    Calls Try.prog 17 #[trV a n c now, .int .i64 ino] w fun e w' => Below w.heap.size w w' ∧ ∃ r : Int, e = .returned (.int .i64 r) ∧ RefsAre n D now ino r
end Go.Proofs.Ytomacpailikmoab
