/-
  What the small helpers of the exact laws do at a list of places.
-/
import Derived.Test.YtgijhkcnbmcenarNodes
import Derived.Test.YtgijhkcnbmcenarNodesDef
namespace Go.Proofs.Ytgijhkcnbmcenar
open Go.RowKit
set_option linter.unusedVariables false
set_option linter.unusedSimpArgs false

/-- n places lie in a block of their own, so many of them laid. -/
structure NdRow (w : World) (b n k : Nat) (D : Nat → Nd) (L : Nat → Loc) : Prop where
  row : ∃ g, w.rowIs b 48 (n * 5) g ∧ ∀ i, i < k → g (i * 5) = .int .i64 (D i).kind ∧ g (i * 5 + 1) = .string (D i).text ∧ g (i * 5 + 2) = .slice (L i).nA (D i).nn (L i).nc ∧ g (i * 5 + 3) = .slice (L i).kA (D i).kn (L i).kc ∧ g (i * 5 + 4) = .int .i64 (D i).turn
  lists : ∀ i, i < k → NdIn w (D i) (L i) ∧ (L i).Past (b + 1)

theorem NdRow.nds {w : World} {b n : Nat} {D : Nat → Nd} {L : Nat → Loc} (h : NdRow w b n n D L) : IsNds w (some ⟨b, 0, none⟩) n D L := by
  obtain ⟨⟨g, hr, hg⟩, hl⟩ := h
  refine Or.inr ⟨b, 0, rfl, hr.lt, fun i hi => ?_⟩
  obtain ⟨g0, g1, g2, g3, g4⟩ := hg i hi
  rw [Nat.zero_add, ← g0, ← g1, ← g2, ← g3, ← g4]
  exact ⟨hr.cell (by omega), hr.cell (by omega), hr.cell (by omega), hr.cell (by omega), hr.cell (by omega), (hl i hi).1⟩

theorem NdRow.below {w w' : World} {b n k : Nat} {D : Nat → Nd} {L : Nat → Loc} (h : NdRow w b n k D L) {B : Nat} (hB : w.heap.size ≤ B) (hb : Below B w w') : NdRow w' b n k D L := by
  obtain ⟨⟨g, hr, hg⟩, hl⟩ := h
  have := hr.lt
  exact ⟨⟨g, rowIs_below hr hb (by omega), hg⟩, fun i hi => ⟨(hl i hi).1.below hB hb, (hl i hi).2⟩⟩

theorem NdRow.step {w : World} {b n k : Nat} {D : Nat → Nd} {L : Nat → Loc} (h : NdRow w b n k D L) {l : Loc} (hI : NdIn w (D k) l) (hp : l.Past (b + 1)) :
    NdRow (((((w.setCell ⟨b, k * 5, none⟩ (.int .i64 (D k).kind)).setCell ⟨b, k * 5 + 1, none⟩ (.string (D k).text)).setCell ⟨b, k * 5 + 2, none⟩ (.slice l.nA (D k).nn l.nc)).setCell ⟨b, k * 5 + 3, none⟩ (.slice l.kA (D k).kn l.kc)).setCell ⟨b, k * 5 + 4, none⟩ (.int .i64 (D k).turn)) b n (k + 1) D (fun i => if i = k then l else L i) := by
  obtain ⟨⟨g, hr, hg⟩, hl⟩ := h
  refine ⟨⟨_, ((((hr.set _ _).set _ _).set _ _).set _ _).set _ _, fun i hi => ?_⟩, fun i hi => ?_⟩
  · by_cases e : i = k
    · subst e
      simp
    · have := hg i (by omega)
      simp only [if_neg e]
      simp [show ¬ i * 5 = k * 5 by omega, show ¬ i * 5 = k * 5 + 1 by omega, show ¬ i * 5 = k * 5 + 2 by omega, show ¬ i * 5 = k * 5 + 3 by omega, show ¬ i * 5 = k * 5 + 4 by omega,
        show ¬ i * 5 + 1 = k * 5 by omega, show ¬ i * 5 + 1 = k * 5 + 2 by omega, show ¬ i * 5 + 1 = k * 5 + 3 by omega, show ¬ i * 5 + 1 = k * 5 + 4 by omega,
        show ¬ i * 5 + 2 = k * 5 by omega, show ¬ i * 5 + 2 = k * 5 + 1 by omega, show ¬ i * 5 + 2 = k * 5 + 3 by omega, show ¬ i * 5 + 2 = k * 5 + 4 by omega,
        show ¬ i * 5 + 3 = k * 5 by omega, show ¬ i * 5 + 3 = k * 5 + 1 by omega, show ¬ i * 5 + 3 = k * 5 + 2 by omega, show ¬ i * 5 + 3 = k * 5 + 4 by omega,
        show ¬ i * 5 + 4 = k * 5 by omega, show ¬ i * 5 + 4 = k * 5 + 1 by omega, show ¬ i * 5 + 4 = k * 5 + 2 by omega, show ¬ i * 5 + 4 = k * 5 + 3 by omega, e]
      exact this
  · by_cases e : i = k
    · subst e
      simp only [if_true]
      exact ⟨((((hI.off _ hp).off _ hp).off _ hp).off _ hp).off _ hp, hp⟩
    · obtain ⟨h1, h2⟩ := hl i (by omega)
      simp only [if_neg e]
      exact ⟨((((h1.off _ h2).off _ h2).off _ h2).off _ h2).off _ h2, h2⟩
end Go.Proofs.Ytgijhkcnbmcenar
