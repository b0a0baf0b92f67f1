/-
  What is known within a law of one thing that is kept.
-/
import Derived.Test.YtnnhdcohfabenaaSpecDumpAll
import Derived.Test.YtnnhdcohfabenaaDumpTo
namespace Go.Proofs.Ytnnhdcohfabenaa
open Go.RowKit
set_option linter.unusedVariables false

theorem D1In.cells {w : World} {d : Dp} {l : DLoc} {t : TypeId} {W : World} (h : D1In w d l t W) :
    W.cell? ⟨w.heap.size, 0, none⟩ = some (.int .i64 d.since) ∧ W.cell? ⟨w.heap.size, 1, none⟩ = some (.int .i64 d.date) ∧ W.cell? ⟨w.heap.size, 2, none⟩ = some (.slice l.lA d.ln l.lc) ∧ W.cell? ⟨w.heap.size, 3, none⟩ = some (.slice l.iA d.m l.ic) :=
  ⟨h.p.cell 0, h.p.cell 1, h.p.cell 2, h.p.cell 3⟩

theorem dp1_cells {W : World} {b : Nat} {d : Dp} {l : DLoc} {t : TypeId} (h : Blk W b #[.int .i64 d.since, .int .i64 d.date, .slice l.lA d.ln l.lc, .slice l.iA d.m l.ic] t) :
    W.cell? ⟨b, 0, none⟩ = some (.int .i64 d.since) ∧ W.cell? ⟨b, 1, none⟩ = some (.int .i64 d.date) ∧ W.cell? ⟨b, 2, none⟩ = some (.slice l.lA d.ln l.lc) ∧ W.cell? ⟨b, 3, none⟩ = some (.slice l.iA d.m l.ic) := ⟨h.cell 0, h.cell 1, h.cell 2, h.cell 3⟩

/-- What is known behind the program's call. -/
structure OneD (w : World) (d : Dp) (l l1 : DLoc) (bx : Nat) (W : World) : Prop where
  one : D1In w d l 25 W
  x : DpIn W d l1
  bx : Blk W bx #[.int .i64 d.since, .int .i64 d.date, .slice l1.lA d.ln l1.lc, .slice l1.iA d.m l1.ic] 30

theorem OneD.below {w : World} {d : Dp} {l l1 : DLoc} {bx : Nat} {W W' : World} (h : OneD w d l l1 bx W) (hb : Below W.heap.size W W') : OneD w d l l1 bx W' := ⟨h.one.below hb, h.x.below (Nat.le_refl _) hb, h.bx.below hb h.bx.lt⟩
theorem OneD.drew {w : World} {d : Dp} {l l1 : DLoc} {bx : Nat} {W : World} (h : OneD w d l l1 bx W) (q : Nat) : OneD w d l l1 bx (W.drewN q) := h.below (below_drewN (Below.refl _ _) q)

theorem toDump_1 {w : World} {d : Dp} {l : DLoc} {W : World} (h : D1In w d l 25 W) (hS : DpIn w d l) (hsz : d.size ≤ 1048576) :
    Calls Try.prog 9 #[dpV d l] W fun r w' => ∃ o', r = .returned (dpV d o') ∧ D1In w d l 25 w' ∧ DpIn w' d o' ∧ Below W.heap.size W w' :=
  (toDump_any d l W (hS.below (Nat.le_refl _) h.bel) hsz).mono fun r w' ⟨o', hr, hb, hI⟩ => ⟨o', hr, h.below hb, hI, hb⟩
end Go.Proofs.Ytnnhdcohfabenaa
