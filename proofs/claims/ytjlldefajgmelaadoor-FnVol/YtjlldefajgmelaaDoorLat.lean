/-
  A region that draws its order, whose callees lay new memory and touch none of the old: walked once, in the order of the text, in every world that is as the first one was below a block.
-/
import Derived.Test.YtjlldefajgmelaaDoorBlk
import Derived.WalkSmall
namespace Go.Proofs.YtjlldefajgmelaaDoor
open Go.RowKit Go.Deep
set_option linter.unusedVariables false

/-- A world that is as w was below block B. -/
structure Lat (B : Nat) (w : World) where
  val : World
  bel : Below B w val

instance {B : Nat} {w : World} : Nonempty (Lat B w) := ⟨⟨w, Below.refl _ _⟩⟩

theorem Lat.cell {B : Nat} {w : World} {p : Addr} {v : Value} (h : w.cell? p = some v) (hp : p.block < B) : ∀ n : Lat B w, n.val.cell? p = some v := fun n => (n.bel.cell hp).trans h

theorem wp_region_lat {P : Program} {id : Nat} {Q : Exit → Act → World → Prop} {a : Act} {w w0 : World} {B : Nat} {l : List Oper} (hm : P.follows .mixedOrders = true) (hB : Region.lexB .any l.toArray = true) (hw : Below B w0 w)
    (h : wpQuiet P l.toArray (fun w' => ∃ n : Lat B w0, w' = n.val) (fun a' => ∀ w', (∃ n : Lat B w0, w' = n.val) → Q .normal a' w') l a) : (Code.region id l.toArray true).wp P Q a w :=
  wp_region_quiet (C := fun w' => ∃ n : Lat B w0, w' = n.val) hm hB ⟨⟨_, hw.drew⟩, rfl⟩ (by simpa using h)

/-- A callee that leaves all below a block as it was. -/
theorem Calls.lat_of {P : Program} {f : FuncId} {args : Array Value} {w0 : World} {B : Nat} {n : Lat B w0} {v : Value} {R : Ending → World → Prop}
    (h : Calls P f args n.val R) (hR : ∀ e w', R e w' → e = .returned v ∧ Below B n.val w') : Calls P f args n.val fun e w'' => e = .returned v ∧ ∃ m : Lat B w0, w'' = m.val :=
  h.mono fun e w' hr => ⟨(hR e w' hr).1, ⟨w', n.bel.trans (hR e w' hr).2⟩, rfl⟩
end Go.Proofs.YtjlldefajgmelaaDoor
