/-
  What the small helpers of the exact laws do at a place of a tree and at a list of them.
-/
import Derived.Test.YtgijhkcnbmcenarNodesBase
import Derived.Test.YtgijhkcnbmcenarBlk
import Derived.Test.YtgijhkcnbmcenarStrs
import Derived.Test.YtgijhkcnbmcenarInts
namespace Go.Proofs.Ytgijhkcnbmcenar
open Go.RowKit
set_option linter.unusedVariables false

theorem toStringS_at (a : Option Addr) (n c : Nat) (S : Nat → ByteArray) (w : World) (hS : IsStrs w a n S) (hn : n ≤ 1048576) :
    Calls Try.prog 13 #[.slice a n c] w fun e w' => ∃ b, e = .returned (.slice (some ⟨b, 0, none⟩) n n) ∧ w.heap.size ≤ b ∧ b < w'.heap.size ∧ Below w.heap.size w w' ∧ IsStrs w' (some ⟨b, 0, none⟩) n S :=
  (toStringS_any a n c S w hS hn).mono fun e w' ⟨he, hb, hr⟩ => ⟨_, he, Nat.le_refl _, hr.lt, hb, IsStrs.row hr⟩

/-- What is known at toNode's end. -/
structure NodeEnd (w : World) (d : Nd) (b b' : Nat) (W : World) : Prop where
  r : Blk W (w.heap.size + 1) #[.int .i64 d.kind, .string d.text, .slice (some ⟨b, 0, none⟩) d.nn d.nn, .slice (some ⟨b', 0, none⟩) d.kn d.kn, .int .i64 d.turn] 48
  bel : Below w.heap.size w W
  names : IsStrs W (some ⟨b, 0, none⟩) d.nn d.names
  kids : IsInts W (some ⟨b', 0, none⟩) d.kn d.kids
end Go.Proofs.Ytgijhkcnbmcenar
