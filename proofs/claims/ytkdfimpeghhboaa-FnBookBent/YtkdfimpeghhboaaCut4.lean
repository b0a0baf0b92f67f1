/-
  A statement whose order is drawn, four letters: what follows it is walked once.
-/
import Derived.Test.YtkdfimpeghhboaaCut2
namespace Go.Proofs.Ytkdfimpeghhboaa
open Go.RowKit

theorem wp_cut4 {X Y Z U : Type} (F : X → Y → Z → U → World → Prop) {P : Program} {c : Code} {K : Act → World → Prop} {Q : Exit → Act → World → Prop} {a : Act} {w : World} (A : X → Y → Z → U → Act)
    (leaf : (∀ x y z u W, F x y z u W → K (A x y z u) W) → c.wp P (Exit.then K Q) a w) (k : ∀ x y z u W, F x y z u W → K (A x y z u) W) : c.wp P (Exit.then K Q) a w := leaf k
end Go.Proofs.Ytkdfimpeghhboaa
