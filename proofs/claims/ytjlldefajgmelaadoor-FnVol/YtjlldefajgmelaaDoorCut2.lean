/-
  A statement whose order is drawn and whose callees hand back new addresses: what follows it is walked once, for all of its orders.
-/
import Derived.Test.YtjlldefajgmelaaDoorBlk
import Derived.WalkSmall
namespace Go.Proofs.YtjlldefajgmelaaDoor
open Go.RowKit

theorem wp_cut1 {X : Type} (F : X → World → Prop) {P : Program} {c : Code} {K : Act → World → Prop} {Q : Exit → Act → World → Prop} {a : Act} {w : World} (A : X → Act)
    (leaf : (∀ x W, F x W → K (A x) W) → c.wp P (Exit.then K Q) a w) (k : ∀ x W, F x W → K (A x) W) : c.wp P (Exit.then K Q) a w := leaf k

theorem wp_cut2 {X Y : Type} (F : X → Y → World → Prop) {P : Program} {c : Code} {K : Act → World → Prop} {Q : Exit → Act → World → Prop} {a : Act} {w : World} (A : X → Y → Act)
    (leaf : (∀ x y W, F x y W → K (A x y) W) → c.wp P (Exit.then K Q) a w) (k : ∀ x y W, F x y W → K (A x y) W) : c.wp P (Exit.then K Q) a w := leaf k

theorem wp_cut3 {X Y Z : Type} (F : X → Y → Z → World → Prop) {P : Program} {c : Code} {K : Act → World → Prop} {Q : Exit → Act → World → Prop} {a : Act} {w : World} (A : X → Y → Z → Act)
    (leaf : (∀ x y z W, F x y z W → K (A x y z) W) → c.wp P (Exit.then K Q) a w) (k : ∀ x y z W, F x y z W → K (A x y z) W) : c.wp P (Exit.then K Q) a w := leaf k

/-- A statement is walked at a world of which no more is said than this. -/
theorem wp_world {P : Program} {c : Code} {Q : Exit → Act → World → Prop} {a : Act} {F : World → Prop} {w : World} (h : F w) (g : ∀ W, F W → c.wp P Q a W) : c.wp P Q a w := g w h

/-- .. whatever follows it. -/
theorem wp_cutq1 {X : Type} (F : X → World → Prop) {P : Program} {c : Code} {Q : Exit → Act → World → Prop} {a : Act} {w : World} (A : X → Act)
    (leaf : (∀ x W, F x W → Q .normal (A x) W) → c.wp P Q a w) (k : ∀ x W, F x W → Q .normal (A x) W) : c.wp P Q a w := leaf k

theorem wp_cutq2 {X Y : Type} (F : X → Y → World → Prop) {P : Program} {c : Code} {Q : Exit → Act → World → Prop} {a : Act} {w : World} (A : X → Y → Act)
    (leaf : (∀ x y W, F x y W → Q .normal (A x y) W) → c.wp P Q a w) (k : ∀ x y W, F x y W → Q .normal (A x y) W) : c.wp P Q a w := leaf k
end Go.Proofs.YtjlldefajgmelaaDoor
