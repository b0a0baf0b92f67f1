/-
  What TreeOk of the program has to keep.
-/
import Derived.Test.YtkbccbooiaebfaaSpecTreeOk
namespace Go.Proofs.Ytkbccbooiaebfaa
open Go.RowKit

/-- What TreeOk of the program has to keep. -/
def ImplTreeOk : Prop := ∀ (a : Option Addr) (n c : Nat) (now : Int) (D : Nat → Nd) (L : Nat → Loc) (w : World), IsNds w a n D L → FitAll n D → n ≤ maxLen → sizeTo D n ≤ 1048576 → In64 now →
    Calls Try.prog 39 #[trV a n c now] w fun e w' => Below w.heap.size w w' ∧ ∃ r : Bool, e = .returned (.bool r) ∧ (r = true ↔ TreeGood n D now)
end Go.Proofs.Ytkbccbooiaebfaa
