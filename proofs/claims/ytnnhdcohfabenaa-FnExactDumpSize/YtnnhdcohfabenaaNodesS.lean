/-
  What the small helpers of the exact laws do at a list of places.
-/
import Derived.Test.YtnnhdcohfabenaaNodes
import Derived.Test.YtnnhdcohfabenaaNodesDef
namespace Go.Proofs.Ytnnhdcohfabenaa
open Go.RowKit
set_option linter.unusedVariables false
set_option linter.unusedSimpArgs false

set_option maxHeartbeats 400000 in
theorem szNodeS_any (a : Option Addr) (n c : Nat) (D : Nat → Nd) (L : Nat → Loc) (left : Int) (w : World) (hS : IsNds w a n D L) (hf : FitAll n D) (hn : n ≤ maxLen) (h0 : 0 ≤ left) (h1 : left ≤ 1048576) :
    Calls Try.prog 35 #[.slice a n c, .int .i64 left] w fun e w' => Below w.heap.size w w' ∧ ∃ r : Int, e = .returned (.int .i64 r) ∧ r ≤ left ∧ (0 ≤ r → r + n + sizeTo D n ≤ left) := by
  unfold maxLen at hn
  by_cases hbig : left < n
  · go_enter Try.func35, Try.ntmps35
    go_wp2
    go_ret
    exact ⟨Below.refl _ _, -1, rfl, by omega, fun h => by omega⟩
  · go_enter Try.func35, Try.ntmps35
    go_wp2
    go_loopw [1, 5] (fun l i wr => ∃ (k : Nat) (r : Int), k ≤ n ∧ 0 ≤ r ∧ i = .int .i64 k ∧ l = .int .i64 r ∧ r + n + sizeTo D k ≤ left ∧ Below w.heap.size w wr) (fun _ i _ => n - (intOf i).toNat)
    case atStart => exact ⟨0, left - n, Nat.zero_le _, by omega, rfl, rfl, by simp [sizeTo], Below.refl _ _⟩
    case round =>
      obtain ⟨k, r, hk, hr, rfl, rfl, hsum, hbel⟩ := hrel
      by_cases hlt : k < n
      · obtain ⟨b, off, rfl, hlt2, hc⟩ := (hS.below (Nat.le_refl _) hbel).at hlt
        obtain ⟨c0, c1, c2, c3, c4, hI⟩ := hc k hlt
        clear hc
        go_wp2_with fail
        refine (szNode_any (D k) (L k) r wr hI (hf k hlt) hr (by omega)).mono ?_
        rintro e w1 ⟨hb1, r', rfl, hr1, hr2⟩
        have hB := hbel.trans (hb1.mono hbel.size)
        by_cases hr3 : r' < 0
        · have hr3' : decide (r' < 0) = true := by simp; omega
          have HB : Hid (Below w.heap.size w w1) := hB
          clear hB hb1 hbel c0 c1 c2 c3 c4 hI hr2
          go_wp2
          go_ret
          exact ⟨HB.out, -1, rfl, by omega, fun h => by omega⟩
        · have hr3' : decide (r' < 0) = false := by simp; omega
          have HS : Hid (r' + n + sizeTo D (k + 1) ≤ left ∧ Below w.heap.size w w1) := ⟨by have := hr2 (by omega); rw [sizeTo_succ]; omega, hB⟩
          clear hB hb1 hbel c0 c1 c2 c3 c4 hI hr2 hsum
          go_wp2
          go_roundw
          case rel => exact ⟨k + 1, r', by omega, by omega, by go_num, by go_num, HS.out.1, HS.out.2⟩
          case measure => simp [intOf]; omega
      · go_wp2
        go_ret
        exact ⟨hbel, r, rfl, by omega, fun _ => by have : k = n := by omega
                                                   subst this; omega⟩

/-- n places lie in a block of their own, so many of them laid. -/
structure NdRow (w : World) (b n k : Nat) (D : Nat → Nd) (L : Nat → Loc) : Prop where
  row : ∃ g, w.rowIs b 56 (n * 5) g ∧ ∀ i, i < k → g (i * 5) = .int .i64 (D i).kind ∧ g (i * 5 + 1) = .string (D i).text ∧ g (i * 5 + 2) = .slice (L i).nA (D i).nn (L i).nc ∧ g (i * 5 + 3) = .slice (L i).kA (D i).kn (L i).kc ∧ g (i * 5 + 4) = .int .i64 (D i).turn
  lists : ∀ i, i < k → NdIn w (D i) (L i) ∧ (L i).Past (b + 1)

theorem NdRow.nds {w : World} {b n : Nat} {D : Nat → Nd} {L : Nat → Loc} (h : NdRow w b n n D L) : IsNds w (some ⟨b, 0, none⟩) n D L := by
  obtain ⟨⟨g, hr, hg⟩, hl⟩ := h
  refine Or.inr ⟨b, 0, rfl, hr.lt, fun i hi => ?_⟩
  obtain ⟨g0, g1, g2, g3, g4⟩ := hg i hi
  rw [Nat.zero_add, ← g0, ← g1, ← g2, ← g3, ← g4]
  exact ⟨hr.cell (by omega), hr.cell (by omega), hr.cell (by omega), hr.cell (by omega), hr.cell (by omega), (hl i hi).1⟩

theorem NdRow.below {w w' : World} {b n k : Nat} {D : Nat → Nd} {L : Nat → Loc} (h : NdRow w b n k D L) {B : Nat} (hB : w.heap.size ≤ B) (hb : Below B w w') : NdRow w' b n k D L := by
  obtain ⟨⟨g, hr, hg⟩, hl⟩ := h
  have := hr.lt
  exact ⟨⟨g, rowIs_below hr hb (by omega), hg⟩, fun i hi => ⟨(hl i hi).1.below hB hb, (hl i hi).2⟩⟩

theorem NdRow.step {w : World} {b n k : Nat} {D : Nat → Nd} {L : Nat → Loc} (h : NdRow w b n k D L) {l : Loc} (hI : NdIn w (D k) l) (hp : l.Past (b + 1)) :
    NdRow (((((w.setCell ⟨b, k * 5, none⟩ (.int .i64 (D k).kind)).setCell ⟨b, k * 5 + 1, none⟩ (.string (D k).text)).setCell ⟨b, k * 5 + 2, none⟩ (.slice l.nA (D k).nn l.nc)).setCell ⟨b, k * 5 + 3, none⟩ (.slice l.kA (D k).kn l.kc)).setCell ⟨b, k * 5 + 4, none⟩ (.int .i64 (D k).turn)) b n (k + 1) D (fun i => if i = k then l else L i) := by
  obtain ⟨⟨g, hr, hg⟩, hl⟩ := h
  refine ⟨⟨_, ((((hr.set _ _).set _ _).set _ _).set _ _).set _ _, fun i hi => ?_⟩, fun i hi => ?_⟩
  · by_cases e : i = k
    · subst e
      simp
    · have := hg i (by omega)
      simp only [if_neg e]
      simp [show ¬ i * 5 = k * 5 by omega, show ¬ i * 5 = k * 5 + 1 by omega, show ¬ i * 5 = k * 5 + 2 by omega, show ¬ i * 5 = k * 5 + 3 by omega, show ¬ i * 5 = k * 5 + 4 by omega,
        show ¬ i * 5 + 1 = k * 5 by omega, show ¬ i * 5 + 1 = k * 5 + 2 by omega, show ¬ i * 5 + 1 = k * 5 + 3 by omega, show ¬ i * 5 + 1 = k * 5 + 4 by omega,
        show ¬ i * 5 + 2 = k * 5 by omega, show ¬ i * 5 + 2 = k * 5 + 1 by omega, show ¬ i * 5 + 2 = k * 5 + 3 by omega, show ¬ i * 5 + 2 = k * 5 + 4 by omega,
        show ¬ i * 5 + 3 = k * 5 by omega, show ¬ i * 5 + 3 = k * 5 + 1 by omega, show ¬ i * 5 + 3 = k * 5 + 2 by omega, show ¬ i * 5 + 3 = k * 5 + 4 by omega,
        show ¬ i * 5 + 4 = k * 5 by omega, show ¬ i * 5 + 4 = k * 5 + 1 by omega, show ¬ i * 5 + 4 = k * 5 + 2 by omega, show ¬ i * 5 + 4 = k * 5 + 3 by omega, e]
      exact this
  · by_cases e : i = k
    · subst e
      simp only [if_true]
      exact ⟨((((hI.off _ hp).off _ hp).off _ hp).off _ hp).off _ hp, hp⟩
    · obtain ⟨h1, h2⟩ := hl i (by omega)
      simp only [if_neg e]
      exact ⟨((((h1.off _ h2).off _ h2).off _ h2).off _ h2).off _ h2, h2⟩

set_option maxHeartbeats 1000000 in
theorem toNodeS_any (a : Option Addr) (n c : Nat) (D : Nat → Nd) (L : Nat → Loc) (w : World) (hS : IsNds w a n D L) (hn : n ≤ 1048576) (hsm : ∀ i, i < n → (D i).nn ≤ 1048576 ∧ (D i).kn ≤ 1048576) :
    Calls Try.prog 38 #[.slice a n c] w fun e w' => e = .returned (.slice (some ⟨w.heap.size, 0, none⟩) n n) ∧ Below w.heap.size w w' ∧ ∃ L', NdRow w' w.heap.size n n D L' := by
  have hmk := fun w => run_make_wide (P := Try.prog) 40 56 _ 80 5 Try.underlying40 infoNode .i64 .i64 n (by omega) (by omega) w
  go_enter Try.func38, Try.ntmps38
  go_wp2
  go_loopw [4] (fun i wr => ∃ (k : Nat) (L' : Nat → Loc), k ≤ n ∧ i = .int .i64 k ∧ Below w.heap.size w wr ∧ NdRow wr w.heap.size n k D L') (fun i _ => n - (intOf i).toNat)
  case atStart =>
    obtain ⟨g, hg⟩ := rowIs_wide w #[.int .i64 0, .string ByteArray.empty, .slice none 0 0, .slice none 0 0, .int .i64 0] (n * 5) 56
    exact ⟨0, L, Nat.zero_le _, rfl, (Below.refl _ _).alloc (Nat.le_refl _) _, ⟨g, hg, fun i hi => by omega⟩, fun i hi => by omega⟩
  case round =>
    obtain ⟨k, L', hk, rfl, hb, hrow⟩ := hrel
    by_cases hlt : k < n
    · obtain ⟨b, off, rfl, hlt2, hc⟩ := (hS.below (Nat.le_refl _) hb).at hlt
      obtain ⟨c0, c1, c2, c3, c4, hI⟩ := hc k hlt
      clear hc
      go_wp2_with fail
      refine (toNode_any (D k) (L k) wr hI (hsm k hlt).1 (hsm k hlt).2).mono ?_
      rintro e w1 ⟨l', rfl, hb1, hI1, hp1⟩
      unfold ndV
      have hrow1 := hrow.below (Nat.le_refl _) hb1
      have hB := hb.trans (hb1.mono hb.size)
      have hwl : w.heap.size < wr.heap.size := by obtain ⟨⟨g, hr, _⟩, _⟩ := hrow; exact hr.lt
      have hpp := hp1.mono (show w.heap.size + 1 ≤ wr.heap.size by omega)
      have HR : Hid (NdRow w1 w.heap.size n k D L' ∧ NdIn w1 (D k) l' ∧ l'.Past (w.heap.size + 1) ∧ Below w.heap.size w w1) := ⟨hrow1, hI1, hpp, hB⟩
      obtain ⟨⟨g, hr, _⟩, _⟩ := hrow1
      have d0 := hr.cell (show k * 5 < n * 5 by omega)
      have d1 := hr.cell (show k * 5 + 1 < n * 5 by omega)
      have d2 := hr.cell (show k * 5 + 2 < n * 5 by omega)
      have d3 := hr.cell (show k * 5 + 3 < n * 5 by omega)
      have d4 := hr.cell (show k * 5 + 4 < n * 5 by omega)
      have e0 := hr.frozen (k * 5)
      have e1 := hr.frozen (k * 5 + 1)
      have e2 := hr.frozen (k * 5 + 2)
      have e3 := hr.frozen (k * 5 + 3)
      have e4 := hr.frozen (k * 5 + 4)
      clear hb hrow hr hB hb1 hI1 hp1 hpp hI c0 c1 c2 c3 c4
      go_wp2
      go_roundw
      case rel => exact ⟨k + 1, _, by omega, by go_num, bel_put (bel_put (bel_put (bel_put (bel_put HR.out.2.2.2 _ (Nat.le_refl _)) _ (Nat.le_refl _)) _ (Nat.le_refl _)) _ (Nat.le_refl _)) _ (Nat.le_refl _), HR.out.1.step HR.out.2.1 HR.out.2.2.1⟩
      case measure => simp [intOf]; omega
    · have hkn : k = n := by omega
      have HR : Hid (Below w.heap.size w wr ∧ ∃ L', NdRow wr w.heap.size n n D L') := ⟨hb, L', hkn ▸ hrow⟩
      clear hb hrow hkn
      go_wp2
      go_ret
      exact ⟨rfl, HR.out.1, HR.out.2⟩
end Go.Proofs.Ytnnhdcohfabenaa
