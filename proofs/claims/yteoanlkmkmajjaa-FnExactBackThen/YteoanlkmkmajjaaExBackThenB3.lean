/-
  Texts that the proof needs, laid one behind the other.
-/
import Derived.Test.YteoanlkmkmajjaaExBackThenB2
import Derived.Laws.Shifts
import Derived.Shelf.LaysM
import Derived.Shelf.Strconv.Clone
import Derived.Test.YteoanlkmkmajjaaProg
import Derived.WalkKit
import Derived.WalkSmall

/-
  What BackThen of the specification answers.
-/
namespace Go.Proofs.Yteoanlkmkmajjaa
open Go.RowKit Go.Deep
set_option linter.unusedVariables false
set_option linter.unusedSimpArgs false
set_option linter.unnecessarySimpa false

theorem wp_cutqT {X Y Z U : Type} (F : X → Y → Z → U → World → Prop) {P : Program} {c : Code} {Q : Exit → Act → World → Prop} {a : Act} {w : World} (A : X → Y → Z → U → Act)
    (leaf : (∀ x y z u W, F x y z u W → Q .normal (A x y z u) W) → c.wp P Q a w) (k : ∀ x y z u W, F x y z u W → Q .normal (A x y z u) W) : c.wp P Q a w := leaf k

/-- What is known ahead of the making: the two in their boxes, the answer's cell. -/
structure Th (w : World) (a b : Dp) (la lb : DLoc) (W : World) : Prop where
  p : Blk W w.heap.size #[.int .i64 a.since, .int .i64 a.date, .slice la.lA a.ln la.lc, .slice la.iA a.m la.ic] 29
  q : Blk W (w.heap.size + 1) #[.int .i64 b.since, .int .i64 b.date, .slice lb.lA b.ln lb.lc, .slice lb.iA b.m lb.ic] 29
  r : Blk W (w.heap.size + 1 + 1) #[.int .i64 0, .int .i64 0, .slice none 0 0, .slice none 0 0] 29
  bel : Below w.heap.size w W

theorem Th.below {w : World} {a b : Dp} {la lb : DLoc} {W W' : World} (h : Th w a b la lb W) (hb : Below W.heap.size W W') : Th w a b la lb W' := ⟨h.p.below hb h.p.lt, h.q.below hb h.q.lt, h.r.below hb h.r.lt, h.bel.trans (hb.mono h.bel.size)⟩

theorem Th.cells {w : World} {a b : Dp} {la lb : DLoc} {W : World} (h : Th w a b la lb W) : (W.cell? ⟨w.heap.size, 0, none⟩ = some (.int .i64 a.since) ∧ W.cell? ⟨w.heap.size, 1, none⟩ = some (.int .i64 a.date) ∧ W.cell? ⟨w.heap.size, 2, none⟩ = some (.slice la.lA a.ln la.lc) ∧ W.cell? ⟨w.heap.size, 3, none⟩ = some (.slice la.iA a.m la.ic)) ∧
    (W.cell? ⟨w.heap.size + 1, 0, none⟩ = some (.int .i64 b.since) ∧ W.cell? ⟨w.heap.size + 1, 1, none⟩ = some (.int .i64 b.date) ∧ W.cell? ⟨w.heap.size + 1, 2, none⟩ = some (.slice lb.lA b.ln lb.lc) ∧ W.cell? ⟨w.heap.size + 1, 3, none⟩ = some (.slice lb.iA b.m lb.ic)) ∧
    (W.cell? ⟨w.heap.size + 1 + 1, 0, none⟩ = some (.int .i64 0) ∧ W.cell? ⟨w.heap.size + 1 + 1, 1, none⟩ = some (.int .i64 0) ∧ W.cell? ⟨w.heap.size + 1 + 1, 2, none⟩ = some (.slice none 0 0) ∧ W.cell? ⟨w.heap.size + 1 + 1, 3, none⟩ = some (.slice none 0 0)) :=
  ⟨⟨h.p.cell 0, h.p.cell 1, h.p.cell 2, h.p.cell 3⟩, ⟨h.q.cell 0, h.q.cell 1, h.q.cell 2, h.q.cell 3⟩, h.r.cell 0, h.r.cell 1, h.r.cell 2, h.r.cell 3⟩

/-- Nothing is answered. -/
theorem Th.no {w : World} {a b : Dp} {la lb : DLoc} {W : World} (h : Th w a b la lb W) : Blk ((((W.setCell ⟨w.heap.size + 1 + 1, 0, none⟩ (.int .i64 0)).setCell ⟨w.heap.size + 1 + 1, 1, none⟩ (.int .i64 0)).setCell ⟨w.heap.size + 1 + 1, 2, none⟩ (.slice none 0 0)).setCell ⟨w.heap.size + 1 + 1, 3, none⟩ (.slice none 0 0)) (w.heap.size + 1 + 1) #[.int .i64 0, .int .i64 0, .slice none 0 0, .slice none 0 0] 29 ∧ Below w.heap.size w ((((W.setCell ⟨w.heap.size + 1 + 1, 0, none⟩ (.int .i64 0)).setCell ⟨w.heap.size + 1 + 1, 1, none⟩ (.int .i64 0)).setCell ⟨w.heap.size + 1 + 1, 2, none⟩ (.slice none 0 0)).setCell ⟨w.heap.size + 1 + 1, 3, none⟩ (.slice none 0 0)) :=
  ⟨(((h.r.set 0 _).set 1 _).set 2 _).set 3 _, bel_put (bel_put (bel_put (bel_put h.bel _ (by omega)) _ (by omega)) _ (by omega)) _ (by omega)⟩

/-- The blocks that are kept. -/
def ThX (w : World) (j : Nat) : Prop := j = w.heap.size ∨ j = w.heap.size + 1 ∨ j = w.heap.size + 1 + 1

theorem Th.of {w W0 : World} {a b : Dp} {la lb : DLoc} (h : Th w a b la lb W0) {B : Nat} {since date : Int} {n : Nat} {Z : Nat → Bool} {V : Nat} {lA : Option Addr} {lc m : Nat} {ia : Option Addr} {ic : Nat} {O : Nat → Int} {E : Nat → Nd} {M : Nat → Loc} {W : World} (g : GOf w W0 B (ThX w) since date n Z V lA lc m ia ic O E M W) : Th w a b la lb W :=
  ⟨h.p.of_block (g.kept _ (Or.inl rfl)), h.q.of_block (g.kept _ (Or.inr (Or.inl rfl))), h.r.of_block (g.kept _ (Or.inr (Or.inr rfl))), g.bel⟩

/-- The places that have come are the ones. -/
def ThSel (a b : Dp) (k m : Nat) (O : Nat → Int) (E : Nat → Nd) : Prop := m = (thenSel a b k).length ∧ ∀ i, i < m → O i = ((thenSel a b k).getD i 0 : Nat) ∧ thenNd a b ((thenSel a b k).getD i 0 : Nat) = some (E i)

theorem ThSel.no {a b : Dp} {k m : Nat} {O : Nat → Int} {E : Nat → Nd} (h : ThSel a b k m O E) (hk : thenNd a b (k : Int) = none) : ThSel a b (k + 1) m O E := by
  have e := thenSel_no (a := a) (b := b) (k := k) (by rw [hk]; rfl)
  exact ⟨by rw [e]; exact h.1, by rw [e]; exact h.2⟩

theorem ThSel.yes {a b : Dp} {k m : Nat} {O : Nat → Int} {E : Nat → Nd} (h : ThSel a b k m O E) {x : Nd} (hk : thenNd a b (k : Int) = some x) : ThSel a b (k + 1) (m + 1) (fun i => if i = m then (k : Int) else O i) (fun i => if i = m then x else E i) := by
  have e := thenSel_yes (a := a) (b := b) (k := k) (by rw [hk]; rfl)
  have hl := h.1
  refine ⟨by rw [e]; simp [hl], fun i hi => ?_⟩
  rw [e]
  by_cases ei : i = m
  · subst ei
    have e2 : (thenSel a b k ++ [k]).getD i 0 = k := by rw [List.getD_eq_getElem?_getD, List.getElem?_append_right (by omega), show i - (thenSel a b k).length = 0 by omega]; rfl
    rw [e2]
    exact ⟨if_pos rfl, by rw [hk]; simp⟩
  · have hi' : i < m := by omega
    have e2 : (thenSel a b k ++ [k]).getD i 0 = (thenSel a b k).getD i 0 := by rw [List.getD_eq_getElem?_getD, List.getD_eq_getElem?_getD, List.getElem?_append_left (by omega)]
    rw [e2]
    obtain ⟨h1, h2⟩ := h.2 i hi'
    exact ⟨(if_neg ei).trans h1, by rw [h2]; simp [ei]⟩

/-- At the end it is the one. -/
theorem ThSel.own {a b : Dp} {W : World} {B m : Nat} {lA : Option Addr} {lc : Nat} {ia : Option Addr} {ic : Nat} {O : Nat → Int} {E : Nat → Nd} {M : Nat → Loc} (h : ThSel a b b.ln m O E) (hod : OD W B b.ln b.live m O E M (.slice lA b.ln lc) (.slice ia m ic)) : m = (thenDp a b).m ∧ OwnDp W B (thenDp a b) ⟨lA, lc, ia, ic, M⟩ := by
  have hm : m = (thenDp a b).m := h.1
  refine ⟨hm, ?_⟩
  subst hm
  exact hod.ext fun i hi => ⟨((h.2 i hi).1).symm, by
    have h2 := (h.2 i hi).2
    show (thenNd a b ((thenSel a b b.ln).getD i 0 : Nat)).getD _ = E i
    rw [h2]; rfl⟩

theorem dp_of_small {d : Dp} (h : d.size ≤ 1048576) : ∀ i, i < d.m → (d.nd i).nn ≤ 1048576 ∧ (d.nd i).kn ≤ 1048576 ∧ (d.nd i).text.size ≤ 1048576 ∧ ∀ j, j < (d.nd i).nn → ((d.nd i).names j).size ≤ 1048576 := fun i hi => by
  have h1 := size_le_sizeTo d.nd d.m i hi
  unfold Dp.size at h
  unfold Nd.size at h1
  exact ⟨by omega, by omega, by omega, fun j hj => by have := size_le_sumTo (d.nd i).names (d.nd i).nn j hj; omega⟩

/-- The bounds of the one. -/
theorem then_fits {a b : Dp} (ha : a.Fits) (hb : b.Fits) (hl : b.ln ≤ 10) : (thenDp a b).Fits := by
  have hlen := thenSel_len a b b.ln
  have hnd : ∀ i, i < (thenSel a b b.ln).length → ∃ x, thenNd a b ((thenSel a b b.ln).getD i 0 : Nat) = some x ∧ x.Fits := fun i hi => by
    have hm : (thenSel a b b.ln).getD i 0 ∈ thenSel a b b.ln := by
      rw [List.getD_eq_getElem?_getD, List.getElem?_eq_getElem hi]
      exact List.getElem_mem hi
    have hs := (List.mem_filter.1 hm).2
    cases e : thenNd a b ((thenSel a b b.ln).getD i 0 : Nat) with
    | none => rw [e] at hs; cases hs
    | some x =>
      refine ⟨x, rfl, ?_⟩
      unfold thenNd at e
      split at e
      · rename_i k hk; cases e; exact hb.nds k (ixOf_some hk).1
      · split at e
        · cases e2 : ixOf a.ino a.m ((thenSel a b b.ln).getD i 0 : Nat) with
          | none => rw [e2] at e; cases e
          | some k => rw [e2] at e; cases e; exact ha.nds k (ixOf_some e2).1
        · cases e
  refine ⟨ha.since, hb.date, hb.ln, by show (thenSel a b b.ln).length ≤ maxLen; unfold maxLen; omega, fun i hi => ?_, fun i hi => ?_⟩
  · have hm : (thenSel a b b.ln).getD i 0 ∈ thenSel a b b.ln := by
      have hi' : i < (thenSel a b b.ln).length := hi
      rw [List.getD_eq_getElem?_getD, List.getElem?_eq_getElem hi']
      exact List.getElem_mem hi'
    have h1 : (thenSel a b b.ln).getD i 0 < b.ln := List.mem_range.1 (List.mem_filter.1 hm).1
    show In64 (((thenSel a b b.ln).getD i 0 : Nat) : Int)
    unfold In64
    omega
  · obtain ⟨x, h1, h2⟩ := hnd i hi
    show ((thenNd a b ((thenSel a b b.ln).getD i 0 : Nat)).getD _).Fits
    rw [h1]
    exact h2

set_option maxRecDepth 100000 in
set_option maxHeartbeats 8000000 in
theorem specBackThen_any (a b : Dp) (la lb : DLoc) (w : World) (hA : DpIn w a la) (hB : DpIn w b lb) (hfa : a.Fits) (hfb : b.Fits) (hsa : a.size ≤ 1048576) (hsb : b.size ≤ 1048576) :
    Calls Try.prog 15 #[dpV a la, dpV b lb] w (ThenPost w a b) := by
  unfold dpV
  obtain ⟨q0, hq, hq0, hq1, hq2⟩ := info_parts infoBool
  obtain ⟨y0, hy, hy0, hy1, hy2⟩ := info_parts infoItem
  go_enter Try.func15, Try.ntmps15
  go_wp2_with fail
  refine at_world (F := New3 w _ _ _ _ _ _) (new3 w _ _ _ _ _ _) ?_
  rintro W ⟨hp, hp', hr, hb, hs⟩
  have hT : Th w a b la lb W := ⟨hp, hp', hr, hb⟩
  clear hp hp' hr hb hs
  refine (specDumpOk_any a la W (hA.below (Nat.le_refl _) hT.bel) hfa).mono ?_
  rintro e w1 ⟨hb1, rfl⟩
  have hT1 := hT.below hb1
  clear hT hb1
  have HNO : Hid (∀ W', Th w a b la lb W' → thenOk a b = false → ∀ U, U = ((((W'.setCell ⟨w.heap.size + 1 + 1, 0, none⟩ (.int .i64 0)).setCell ⟨w.heap.size + 1 + 1, 1, none⟩ (.int .i64 0)).setCell ⟨w.heap.size + 1 + 1, 2, none⟩ (.slice none 0 0)).setCell ⟨w.heap.size + 1 + 1, 3, none⟩ (.slice none 0 0)) → Blk U (w.heap.size + 1 + 1) #[.int .i64 0, .int .i64 0, .slice none 0 0, .slice none 0 0] 29 ∧ ThenPost w a b (.returned (.tuple #[.agg #[.int .i64 0, .int .i64 0, .slice none 0 0, .slice none 0 0], .bool false])) U) := fun W' h hno U e => by
    rw [e]
    exact ⟨h.no.1, h.no.2, Or.inl ⟨hno, rfl⟩⟩
  obtain ⟨⟨p0, p1, p2, p3⟩, ⟨s0, s1, s2, s3⟩, ⟨r0, r1, r2, r3⟩⟩ := hT1.cells
  have g0 := hT1.r.frozen 0
  have g1 := hT1.r.frozen 1
  have g2 := hT1.r.frozen 2
  have g3 := hT1.r.frozen 3
  have H1 : Hid (Th w a b la lb w1) := hT1
  clear hT1
  cases hao : a.ok with
  | false =>
    have HE : Hid _ := HNO.out w1 H1.out (thenOk_a hao) _ rfl
    clear HNO hao
    go_wp2_with fail
    refine end_world (F := fun U => Blk U (w.heap.size + 1 + 1) #[.int .i64 0, .int .i64 0, .slice none 0 0, .slice none 0 0] 29 ∧ ThenPost w a b (.returned (.tuple #[.agg #[.int .i64 0, .int .i64 0, .slice none 0 0, .slice none 0 0], .bool false])) U) HE.out ?_
    rintro U ⟨hr, hpost⟩
    have z0 : U.cell? ⟨w.heap.size + 1 + 1, 0, none⟩ = some (.int .i64 0) := hr.cell 0
    have z1 : U.cell? ⟨w.heap.size + 1 + 1, 1, none⟩ = some (.int .i64 0) := hr.cell 1
    have z2 : U.cell? ⟨w.heap.size + 1 + 1, 2, none⟩ = some (.slice none 0 0) := hr.cell 2
    have z3 : U.cell? ⟨w.heap.size + 1 + 1, 3, none⟩ = some (.slice none 0 0) := hr.cell 3
    exact bodyPost_ret (v := .tuple #[.agg #[.int .i64 0, .int .i64 0, .slice none 0 0, .slice none 0 0], .bool false]) (by simp [results, Try.results15, go_sem, z0, z1, z2, z3]) rfl hpost
  | true =>
    go_wp2_with fail
    refine (specDumpOk_any b lb w1 (hB.below (Nat.le_refl _) H1.out.bel) hfb).mono ?_
    rintro e w2 ⟨hb2, rfl⟩
    have hT2 := H1.out.below hb2
    have H2 : Hid (Th w a b la lb w2) := hT2
    clear p0 p1 p2 p3 s0 s1 s2 s3 r0 r1 r2 r3 g0 g1 g2 g3 H1 hb2
    obtain ⟨⟨p0, p1, p2, p3⟩, ⟨s0, s1, s2, s3⟩, ⟨r0, r1, r2, r3⟩⟩ := hT2.cells
    have g0 := hT2.r.frozen 0
    have g1 := hT2.r.frozen 1
    have g2 := hT2.r.frozen 2
    have g3 := hT2.r.frozen 3
    have hwl := hT2.r.lt
    clear hT2
    cases hbo : b.ok with
    | false =>
      have HE : Hid _ := HNO.out w2 H2.out (thenOk_b hbo) _ rfl
      clear HNO hao hbo
      go_wp2_with fail
      refine end_world (F := fun U => Blk U (w.heap.size + 1 + 1) #[.int .i64 0, .int .i64 0, .slice none 0 0, .slice none 0 0] 29 ∧ ThenPost w a b (.returned (.tuple #[.agg #[.int .i64 0, .int .i64 0, .slice none 0 0, .slice none 0 0], .bool false])) U) HE.out ?_
      rintro U ⟨hr, hpost⟩
      have z0 : U.cell? ⟨w.heap.size + 1 + 1, 0, none⟩ = some (.int .i64 0) := hr.cell 0
      have z1 : U.cell? ⟨w.heap.size + 1 + 1, 1, none⟩ = some (.int .i64 0) := hr.cell 1
      have z2 : U.cell? ⟨w.heap.size + 1 + 1, 2, none⟩ = some (.slice none 0 0) := hr.cell 2
      have z3 : U.cell? ⟨w.heap.size + 1 + 1, 3, none⟩ = some (.slice none 0 0) := hr.cell 3
      exact bodyPost_ret (v := .tuple #[.agg #[.int .i64 0, .int .i64 0, .slice none 0 0, .slice none 0 0], .bool false]) (by simp [results, Try.results15, go_sem, z0, z1, z2, z3]) rfl hpost
    | true =>
      by_cases hdt : a.date = b.since
      · have hdb : (a.date != b.since) = false := by simp [hdt]
        have HOK : Hid (thenOk a b = (thenDp a b).ok ∧ a.ok = true ∧ b.ok = true) := ⟨thenOk_is hao hbo hdt, hao, hbo⟩
        obtain ⟨hln1, hln10⟩ := ok_head1 hbo
        clear hdt hao hbo
        go_wp2_with fail
        have HX : Hid (∀ j, ThX w j → j < w2.heap.size) := fun j hj => by unfold ThX at hj; omega
        have HSrc : Hid (∀ W', Below w2.heap.size w2 W' → Src W' 1 (.slice lb.lA b.ln lb.lc) b.ln (boolv b.ln b.live)) := fun W' hW => bools_src ((hB.live.below (Nat.le_refl _) H2.out.bel).below (Nat.le_refl _) hW) hln1 _
        have HSt : Hid (∀ W', Below w2.heap.size w2 W' → W'.cell? ⟨w.heap.size, 0, none⟩ = some (.int .i64 a.since) ∧ W'.cell? ⟨w.heap.size + 1, 1, none⟩ = some (.int .i64 b.date) ∧ W'.cell? ⟨w.heap.size + 1, 2, none⟩ = some (.slice lb.lA b.ln lb.lc)) := fun W' hW => by
          have h := (H2.out.below hW).cells
          exact ⟨h.1.1, h.2.1.2.1, h.2.1.2.2.1⟩
        clear p0 p1 p2 p3 s0 s1 s2 s3 r0 r1 r2 r3 g0 g1 g2 g3
        apply wp_cutqT (X := Nat) (Y := Nat) (Z := Nat) (U := Nat) (fun V g c' _ W => GOf w w2 w2.heap.size (ThX w) a.since b.date b.ln b.live V (some ⟨g, 0, none⟩) c' 0 none 0 (fun _ => 0) b.nd lb.L W)
        · intro key
          have KEY : Hid _ := key
          clear key
          refine wp_region_noPanic ?_
          have hB0 : Below w2.heap.size w2 w2.drew := (Below.refl _ _).drew
          refine wp_region_peel (fun W' => W'.cell? ⟨w.heap.size, 0, none⟩ = some (.int .i64 a.since) ∧ W'.cell? ⟨w.heap.size + 1, 1, none⟩ = some (.int .i64 b.date) ∧ W'.cell? ⟨w.heap.size + 1, 2, none⟩ = some (.slice lb.lA b.ln lb.lc)) _ (by kernel_rfl) rfl (by kernel_rfl) ?_ (fun hHeld => ?_)
          · exact HSt.out _ hB0
          simp only [List.pop_toArray, List.dropLast, List.size_toArray, List.length_cons, List.length_nil, Nat.reduceAdd, Nat.reduceSub, List.getElem_toArray, List.getElem_cons_succ, List.getElem_cons_zero]
          refine peel_take (i := 0) (oi := ?oi0a) (v := ?v0a) (fun _ _ _ _ _ h => h) hHeld ?hi0a (by kernel_rfl) (by kernel_rfl) (by kernel_rfl) ?hw0a ?hy0a ?rest0a
          case hi0a =>
            simp only [List.getElem?_toArray, List.getElem?_cons_zero]
            rfl
          case hw0a => rfl
          case hy0a =>
            intro w hSw
            obtain ⟨s0, s1, s2⟩ := hSw
            go_simp
            try with_reducible rfl
          try simp only [Act.put, List.setIfInBounds_toArray, List.set_cons_zero, List.set_cons_succ]
          refine peel_take (i := 1) (oi := ?oi1a) (v := ?v1a) (fun _ _ _ _ _ h => h) hHeld ?hi1a (by kernel_rfl) (by kernel_rfl) (by kernel_rfl) ?hw1a ?hy1a ?rest1a
          case hi1a =>
            simp only [List.getElem?_toArray, List.getElem?_cons_succ, List.getElem?_cons_zero]
            rfl
          case hw1a => rfl
          case hy1a =>
            intro w hSw
            obtain ⟨s0, s1, s2⟩ := hSw
            go_simp
            try with_reducible rfl
          try simp only [Act.put, List.setIfInBounds_toArray, List.set_cons_zero, List.set_cons_succ]
          refine peel_take (i := 2) (oi := ?oi2a) (v := ?v2a) (fun _ _ _ _ _ h => h) hHeld ?hi2a (by kernel_rfl) (by kernel_rfl) (by kernel_rfl) ?hw2a ?hy2a ?rest2a
          case hi2a =>
            simp only [List.getElem?_toArray, List.getElem?_cons_succ, List.getElem?_cons_zero]
            rfl
          case hw2a => rfl
          case hy2a =>
            intro w hSw
            obtain ⟨s0, s1, s2⟩ := hSw
            go_simp
            try with_reducible rfl
          try simp only [Act.put, List.setIfInBounds_toArray, List.set_cons_zero, List.set_cons_succ]
          refine peel_take (i := 3) (oi := ?oi3a) (v := ?v3a) (fun _ _ _ _ _ h => h) hHeld ?hi3a (by kernel_rfl) (by kernel_rfl) (by kernel_rfl) ?hw3a ?hy3a ?rest3a
          case hi3a =>
            simp only [List.getElem?_toArray, List.getElem?_cons_succ, List.getElem?_cons_zero]
            rfl
          case hw3a => rfl
          case hy3a =>
            intro w hSw
            obtain ⟨s0, s1, s2⟩ := hSw
            go_simp
            try with_reducible rfl
          try simp only [Act.put, List.setIfInBounds_toArray, List.set_cons_zero, List.set_cons_succ]
          refine peel_take (i := 5) (oi := ?oi5a) (v := ?v5a) (fun _ _ _ _ _ h => h) hHeld ?hi5a (by kernel_rfl) (by kernel_rfl) (by kernel_rfl) ?hw5a ?hy5a ?rest5a
          case hi5a =>
            simp only [List.getElem?_toArray, List.getElem?_cons_succ, List.getElem?_cons_zero]
            rfl
          case hw5a => rfl
          case hy5a =>
            intro w hSw
            obtain ⟨s0, s1, s2⟩ := hSw
            go_simp
            try with_reducible rfl
          try simp only [Act.put, List.setIfInBounds_toArray, List.set_cons_zero, List.set_cons_succ]
          refine peel_take (i := 6) (oi := ?oi6a) (v := ?v6a) (fun _ _ _ _ _ h => h) hHeld ?hi6a (by kernel_rfl) (by kernel_rfl) (by kernel_rfl) ?hw6a ?hy6a ?rest6a
          case hi6a =>
            simp only [List.getElem?_toArray, List.getElem?_cons_succ, List.getElem?_cons_zero]
            rfl
          case hw6a => rfl
          case hy6a =>
            intro w hSw
            obtain ⟨s0, s1, s2⟩ := hSw
            go_simp
            try with_reducible rfl
          try simp only [Act.put, List.setIfInBounds_toArray, List.set_cons_zero, List.set_cons_succ]
          refine wpAnyH_ready (rs := [4, 9]) (by kernel_rfl) (by simp) ?_
          refine AllReadyH.cons (o := ?o4q1a) ?ho4q1a (fun K hK => ?st4q1a) ?more4q1a
          case ho4q1a =>
            simp only [List.getElem?_toArray, List.getElem?_cons_succ, List.getElem?_cons_zero]
            rfl
          case st4q1a =>
            go_simp
            have hBq1a : Below w2.heap.size w2 (w2.drew.alloc (.cells #[] 4)) := hB0.alloc hB0.size _
            have hoq1a : (w2.drew.alloc (.cells #[] 4)).ownsRow w2.heap.size 4 1 (.slice (some ⟨w2.heap.size, 0, none⟩) 0 0) 0 [] := by
              have h := owns_lit (w := w2.drew) hB0.size [] 4 1 0 rfl (by unfold maxLen; omega)
              simpa using h
            refine hK.out _ _ (HSt.out _ hBq1a) (fun hHeld => ?_)
            clear hK K
            try simp only [Act.put, List.setIfInBounds_toArray, List.set_cons_zero, List.set_cons_succ]
            refine wpAnyH_ready (rs := [7, 9]) (by kernel_rfl) (by simp) ?_
            refine AllReadyH.cons (o := ?o7q2a) ?ho7q2a (fun K hK => ?st7q2a) ?more7q2a
            case ho7q2a =>
              simp only [List.getElem?_toArray, List.getElem?_cons_succ, List.getElem?_cons_zero]
              rfl
            case st7q2a =>
              refine step_of (by rfl) (wp_append_src (.tmp 30) (.tmp 32) 26 rfl w2.heap.size 4 q0 (.bool false) 1 1 Try.underlying26 hq hq0 hq1 hq2 rfl (by decide) (.slice (some ⟨w2.heap.size, 0, none⟩) 0 0) 0 [] (by rfl) hoq1a _ b.ln (boolv b.ln b.live) (by rfl) (HSrc.out _ hBq1a) (by unfold maxLen; omega) (by omega) hBq1a.size ?_)
              intro vq2a wq2a hoq2a hgrq2a _ _
              rw [Nat.zero_add, List.nil_append] at hoq2a
              obtain ⟨g, c', rfl⟩ := bools_shape hoq2a hln1
              have hBq2a : Below w2.heap.size w2 wq2a := hBq1a.grown hgrq2a hBq1a.size (fun j e => (owns_block hoq1a e).1)
              refine hK.out _ _ (HSt.out _ hBq2a) (fun hHeld => ?_)
              clear hK K
              try simp only [Act.put, List.setIfInBounds_toArray, List.set_cons_zero, List.set_cons_succ]
              refine wpAnyH_ready (rs := [8, 9]) (by kernel_rfl) (by simp) ?_
              refine AllReadyH.cons (o := ?o8q3a) ?ho8q3a (fun K hK => ?st8q3a) ?more8q3a
              case ho8q3a =>
                simp only [List.getElem?_toArray, List.getElem?_cons_succ, List.getElem?_cons_zero]
                rfl
              case st8q3a =>
                go_simp
                refine hK.out _ _ hHeld (fun hHeld => ?_)
                clear hK K
                try simp only [Act.put, List.setIfInBounds_toArray, List.set_cons_zero, List.set_cons_succ]
                refine wpAnyH_ready (rs := [9]) (by kernel_rfl) (by simp) ?_
                refine AllReadyH.cons (o := ?o9q4a) ?ho9q4a (fun K hK => ?st9q4a) AllReadyH.nil
                case ho9q4a =>
                  simp only [List.getElem?_toArray, List.getElem?_cons_succ, List.getElem?_cons_zero]
                  rfl
                go_simp
                have hBq4a : Below w2.heap.size w2 (wq2a.alloc (.cells #[.int .i64 0, .int .i64 0, .slice none 0 0, .slice none 0 0] 29)) := hBq2a.alloc hBq2a.size _
                have hvq4a : Blk (wq2a.alloc (.cells #[.int .i64 0, .int .i64 0, .slice none 0 0, .slice none 0 0] 29)) (wq2a.heap.size) #[.int .i64 0, .int .i64 0, .slice none 0 0, .slice none 0 0] 29 := by
                  have h := Blk.new wq2a #[.int .i64 0, .int .i64 0, .slice none 0 0, .slice none 0 0] 29
                  simpa using h
                have hoq4a := hoq2a.alloc (.cells #[.int .i64 0, .int .i64 0, .slice none 0 0, .slice none 0 0] 29)
                have hVq4a : w2.heap.size ≤ wq2a.heap.size := by
                  have h := hBq2a.size
                  simpa using h
                refine hK.out _ _ (HSt.out _ hBq4a) (fun hHeld => ?_)
                clear hK K
                try simp only [Act.put, List.setIfInBounds_toArray, List.set_cons_zero, List.set_cons_succ]
                refine wpAnyH_done (by kernel_rfl) ?_ _
                have HS : Hid _ := GOf.start1 (w := w) (since := a.since) (date := b.date) (O := fun _ => 0) (E := b.nd) (M := lb.L) H2.out.bel HX.out hBq2a hoq2a
                show Oper.wp _ _ _ _ _ _
                go_simp
                generalize hV : wq2a.heap.size = V
                generalize he0 : w2.heap.size = e0
                exact NoPanic.normal (KEY.out V g c' e0 _ (by first | (rw [← hV]; exact HS.out) | (rw [← hV, ← he0]; exact HS.out) | (subst hV; subst he0; exact HS.out)))
              refine AllReadyH.cons (o := ?o9q3b) ?ho9q3b (fun K hK => ?st9q3b) AllReadyH.nil
              case ho9q3b =>
                simp only [List.getElem?_toArray, List.getElem?_cons_succ, List.getElem?_cons_zero]
                rfl
              go_simp
              have hBq3b : Below w2.heap.size w2 (wq2a.alloc (.cells #[.int .i64 0, .int .i64 0, .slice none 0 0, .slice none 0 0] 29)) := hBq2a.alloc hBq2a.size _
              have hvq3b : Blk (wq2a.alloc (.cells #[.int .i64 0, .int .i64 0, .slice none 0 0, .slice none 0 0] 29)) (wq2a.heap.size) #[.int .i64 0, .int .i64 0, .slice none 0 0, .slice none 0 0] 29 := by
                have h := Blk.new wq2a #[.int .i64 0, .int .i64 0, .slice none 0 0, .slice none 0 0] 29
                simpa using h
              have hoq3b := hoq2a.alloc (.cells #[.int .i64 0, .int .i64 0, .slice none 0 0, .slice none 0 0] 29)
              have hVq3b : w2.heap.size ≤ wq2a.heap.size := by
                have h := hBq2a.size
                simpa using h
              refine hK.out _ _ (HSt.out _ hBq3b) (fun hHeld => ?_)
              clear hK K
              try simp only [Act.put, List.setIfInBounds_toArray, List.set_cons_zero, List.set_cons_succ]
              refine wpAnyH_ready (rs := [8]) (by kernel_rfl) (by simp) ?_
              refine AllReadyH.cons (o := ?o8q6a) ?ho8q6a (fun K hK => ?st8q6a) AllReadyH.nil
              case ho8q6a =>
                simp only [List.getElem?_toArray, List.getElem?_cons_succ, List.getElem?_cons_zero]
                rfl
              go_simp
              refine hK.out _ _ hHeld (fun hHeld => ?_)
              clear hK K
              try simp only [Act.put, List.setIfInBounds_toArray, List.set_cons_zero, List.set_cons_succ]
              refine wpAnyH_done (by kernel_rfl) ?_ _
              have HS : Hid _ := GOf.start1 (w := w) (since := a.since) (date := b.date) (O := fun _ => 0) (E := b.nd) (M := lb.L) H2.out.bel HX.out hBq2a hoq2a
              show Oper.wp _ _ _ _ _ _
              go_simp
              generalize hV : wq2a.heap.size = V
              generalize he0 : w2.heap.size = e0
              exact NoPanic.normal (KEY.out V g c' e0 _ (by first | (rw [← hV]; exact HS.out) | (rw [← hV, ← he0]; exact HS.out) | (subst hV; subst he0; exact HS.out)))
            refine AllReadyH.cons (o := ?o9q2b) ?ho9q2b (fun K hK => ?st9q2b) AllReadyH.nil
            case ho9q2b =>
              simp only [List.getElem?_toArray, List.getElem?_cons_succ, List.getElem?_cons_zero]
              rfl
            go_simp
            have hBq2b : Below w2.heap.size w2 ((w2.drew.alloc (.cells #[] 4)).alloc (.cells #[.int .i64 0, .int .i64 0, .slice none 0 0, .slice none 0 0] 29)) := hBq1a.alloc hBq1a.size _
            have hvq2b : Blk ((w2.drew.alloc (.cells #[] 4)).alloc (.cells #[.int .i64 0, .int .i64 0, .slice none 0 0, .slice none 0 0] 29)) (w2.heap.size + 1) #[.int .i64 0, .int .i64 0, .slice none 0 0, .slice none 0 0] 29 := by
              have h := Blk.new (w2.drew.alloc (.cells #[] 4)) #[.int .i64 0, .int .i64 0, .slice none 0 0, .slice none 0 0] 29
              simpa using h
            have hoq2b := hoq1a.alloc (.cells #[.int .i64 0, .int .i64 0, .slice none 0 0, .slice none 0 0] 29)
            have hVq2b : w2.heap.size ≤ w2.heap.size + 1 := by
              have h := hBq1a.size
              simpa using h
            refine hK.out _ _ (HSt.out _ hBq2b) (fun hHeld => ?_)
            clear hK K
            try simp only [Act.put, List.setIfInBounds_toArray, List.set_cons_zero, List.set_cons_succ]
            refine wpAnyH_ready (rs := [7]) (by kernel_rfl) (by simp) ?_
            refine AllReadyH.cons (o := ?o7q8a) ?ho7q8a (fun K hK => ?st7q8a) AllReadyH.nil
            case ho7q8a =>
              simp only [List.getElem?_toArray, List.getElem?_cons_succ, List.getElem?_cons_zero]
              rfl
            refine step_of (by rfl) (wp_append_src (.tmp 30) (.tmp 32) 26 rfl w2.heap.size 4 q0 (.bool false) 1 1 Try.underlying26 hq hq0 hq1 hq2 rfl (by decide) (.slice (some ⟨w2.heap.size, 0, none⟩) 0 0) 0 [] (by rfl) hoq2b _ b.ln (boolv b.ln b.live) (by rfl) (HSrc.out _ hBq2b) (by unfold maxLen; omega) (by omega) hBq2b.size ?_)
            intro vq8a wq8a hoq8a hgrq8a _ _
            rw [Nat.zero_add, List.nil_append] at hoq8a
            obtain ⟨g, c', rfl⟩ := bools_shape hoq8a hln1
            have hBq8a : Below w2.heap.size w2 wq8a := hBq2b.grown hgrq8a hBq2b.size (fun j e => (owns_block hoq2b e).1)
            have hvq8a : Blk wq8a (w2.heap.size + 1) #[.int .i64 0, .int .i64 0, .slice none 0 0, .slice none 0 0] 29 := blk_grown hvq2b hgrq8a (own_ne hoq2b hvq2b (by decide))
            refine hK.out _ _ (HSt.out _ hBq8a) (fun hHeld => ?_)
            clear hK K
            try simp only [Act.put, List.setIfInBounds_toArray, List.set_cons_zero, List.set_cons_succ]
            refine wpAnyH_ready (rs := [8]) (by kernel_rfl) (by simp) ?_
            refine AllReadyH.cons (o := ?o8q9a) ?ho8q9a (fun K hK => ?st8q9a) AllReadyH.nil
            case ho8q9a =>
              simp only [List.getElem?_toArray, List.getElem?_cons_succ, List.getElem?_cons_zero]
              rfl
            go_simp
            refine hK.out _ _ hHeld (fun hHeld => ?_)
            clear hK K
            try simp only [Act.put, List.setIfInBounds_toArray, List.set_cons_zero, List.set_cons_succ]
            refine wpAnyH_done (by kernel_rfl) ?_ _
            have z0 := hvq8a.cell 0
            have z1 := hvq8a.cell 1
            have z2 := hvq8a.cell 2
            have z3 := hvq8a.cell 3
            have f0 := hvq8a.frozen 0
            have f1 := hvq8a.frozen 1
            have f2 := hvq8a.frozen 2
            have f3 := hvq8a.frozen 3
            simp at z0 z1 z2 z3
            have HS : Hid _ := GOf.start4 (w := w) (since := a.since) (date := b.date) (O := fun _ => 0) (E := b.nd) (M := lb.L) H2.out.bel HX.out hBq8a hVq2b hvq8a hoq8a
            show Oper.wp _ _ _ _ _ _
            go_simp
            generalize hV : w2.heap.size + 1 = V
            generalize he0 : w2.heap.size = e0
            exact NoPanic.normal (KEY.out V g c' e0 _ (by first | (rw [← hV]; exact HS.out) | (rw [← hV, ← he0]; exact HS.out) | (subst hV; subst he0; exact HS.out)))
          refine AllReadyH.cons (o := ?o9q1b) ?ho9q1b (fun K hK => ?st9q1b) AllReadyH.nil
          case ho9q1b =>
            simp only [List.getElem?_toArray, List.getElem?_cons_succ, List.getElem?_cons_zero]
            rfl
          go_simp
          have hBq1b : Below w2.heap.size w2 (w2.drew.alloc (.cells #[.int .i64 0, .int .i64 0, .slice none 0 0, .slice none 0 0] 29)) := hB0.alloc hB0.size _
          have hvq1b : Blk (w2.drew.alloc (.cells #[.int .i64 0, .int .i64 0, .slice none 0 0, .slice none 0 0] 29)) (w2.heap.size) #[.int .i64 0, .int .i64 0, .slice none 0 0, .slice none 0 0] 29 := by
            have h := Blk.new w2.drew #[.int .i64 0, .int .i64 0, .slice none 0 0, .slice none 0 0] 29
            simpa using h
          have hVq1b : w2.heap.size ≤ w2.heap.size := by
            have h := hB0.size
            simpa using h
          refine hK.out _ _ (HSt.out _ hBq1b) (fun hHeld => ?_)
          clear hK K
          try simp only [Act.put, List.setIfInBounds_toArray, List.set_cons_zero, List.set_cons_succ]
          refine wpAnyH_ready (rs := [4]) (by kernel_rfl) (by simp) ?_
          refine AllReadyH.cons (o := ?o4q11a) ?ho4q11a (fun K hK => ?st4q11a) AllReadyH.nil
          case ho4q11a =>
            simp only [List.getElem?_toArray, List.getElem?_cons_succ, List.getElem?_cons_zero]
            rfl
          go_simp
          have hBq11a : Below w2.heap.size w2 ((w2.drew.alloc (.cells #[.int .i64 0, .int .i64 0, .slice none 0 0, .slice none 0 0] 29)).alloc (.cells #[] 4)) := hBq1b.alloc hBq1b.size _
          have hoq11a : ((w2.drew.alloc (.cells #[.int .i64 0, .int .i64 0, .slice none 0 0, .slice none 0 0] 29)).alloc (.cells #[] 4)).ownsRow w2.heap.size 4 1 (.slice (some ⟨w2.heap.size + 1, 0, none⟩) 0 0) 0 [] := by
            have h := owns_lit (w := (w2.drew.alloc (.cells #[.int .i64 0, .int .i64 0, .slice none 0 0, .slice none 0 0] 29))) hBq1b.size [] 4 1 0 rfl (by unfold maxLen; omega)
            simpa using h
          have hvq11a : Blk ((w2.drew.alloc (.cells #[.int .i64 0, .int .i64 0, .slice none 0 0, .slice none 0 0] 29)).alloc (.cells #[] 4)) (w2.heap.size) #[.int .i64 0, .int .i64 0, .slice none 0 0, .slice none 0 0] 29 := hvq1b.alloc _
          refine hK.out _ _ (HSt.out _ hBq11a) (fun hHeld => ?_)
          clear hK K
          try simp only [Act.put, List.setIfInBounds_toArray, List.set_cons_zero, List.set_cons_succ]
          refine wpAnyH_ready (rs := [7]) (by kernel_rfl) (by simp) ?_
          refine AllReadyH.cons (o := ?o7q12a) ?ho7q12a (fun K hK => ?st7q12a) AllReadyH.nil
          case ho7q12a =>
            simp only [List.getElem?_toArray, List.getElem?_cons_succ, List.getElem?_cons_zero]
            rfl
          refine step_of (by rfl) (wp_append_src (.tmp 30) (.tmp 32) 26 rfl w2.heap.size 4 q0 (.bool false) 1 1 Try.underlying26 hq hq0 hq1 hq2 rfl (by decide) (.slice (some ⟨w2.heap.size + 1, 0, none⟩) 0 0) 0 [] (by rfl) hoq11a _ b.ln (boolv b.ln b.live) (by rfl) (HSrc.out _ hBq11a) (by unfold maxLen; omega) (by omega) hBq11a.size ?_)
          intro vq12a wq12a hoq12a hgrq12a _ _
          rw [Nat.zero_add, List.nil_append] at hoq12a
          obtain ⟨g, c', rfl⟩ := bools_shape hoq12a hln1
          have hBq12a : Below w2.heap.size w2 wq12a := hBq11a.grown hgrq12a hBq11a.size (fun j e => (owns_block hoq11a e).1)
          have hvq12a : Blk wq12a (w2.heap.size) #[.int .i64 0, .int .i64 0, .slice none 0 0, .slice none 0 0] 29 := blk_grown hvq11a hgrq12a (own_ne hoq11a hvq11a (by decide))
          refine hK.out _ _ (HSt.out _ hBq12a) (fun hHeld => ?_)
          clear hK K
          try simp only [Act.put, List.setIfInBounds_toArray, List.set_cons_zero, List.set_cons_succ]
          refine wpAnyH_ready (rs := [8]) (by kernel_rfl) (by simp) ?_
          refine AllReadyH.cons (o := ?o8q13a) ?ho8q13a (fun K hK => ?st8q13a) AllReadyH.nil
          case ho8q13a =>
            simp only [List.getElem?_toArray, List.getElem?_cons_succ, List.getElem?_cons_zero]
            rfl
          go_simp
          refine hK.out _ _ hHeld (fun hHeld => ?_)
          clear hK K
          try simp only [Act.put, List.setIfInBounds_toArray, List.set_cons_zero, List.set_cons_succ]
          refine wpAnyH_done (by kernel_rfl) ?_ _
          have z0 := hvq12a.cell 0
          have z1 := hvq12a.cell 1
          have z2 := hvq12a.cell 2
          have z3 := hvq12a.cell 3
          have f0 := hvq12a.frozen 0
          have f1 := hvq12a.frozen 1
          have f2 := hvq12a.frozen 2
          have f3 := hvq12a.frozen 3
          simp at z0 z1 z2 z3
          have HS : Hid _ := GOf.start4 (w := w) (since := a.since) (date := b.date) (O := fun _ => 0) (E := b.nd) (M := lb.L) H2.out.bel HX.out hBq12a hVq1b hvq12a hoq12a
          show Oper.wp _ _ _ _ _ _
          go_simp
          generalize he0 : w2.heap.size + 1 = e0
          generalize hV : w2.heap.size = V
          exact NoPanic.normal (KEY.out V g c' e0 _ (by first | (rw [← hV]; exact HS.out) | (rw [← hV, ← he0]; exact HS.out) | (subst hV; subst he0; exact HS.out)))
        · intro V g c' e0 W3 hG
          have HG : Hid _ := hG
          clear hG HX HSrc HSt
          go_wp2_with fail
          go_loopw [7] (fun i wr => ∃ (k m : Nat) (ia : Option Addr) (ic : Nat) (O : Nat → Int) (E : Nat → Nd) (M : Nat → Loc), k ≤ b.ln ∧ i = .int .i64 k ∧ GOf w w2 w2.heap.size (ThX w) a.since b.date b.ln b.live V (some ⟨g, 0, none⟩) c' m ia ic O E M wr ∧ ThSel a b k m O E) (fun i _ => b.ln - (intOf i).toNat)
          case atStart => exact ⟨0, 0, none, 0, _, _, _, Nat.zero_le _, rfl, HG.out, rfl, fun i hi => absurd hi (Nat.not_lt_zero _)⟩
          case round =>
            obtain ⟨k, m, ia, ic, O, E, M, hk, rfl, hin, hsel⟩ := hrel
            have HIN : Hid (GOf w w2 w2.heap.size (ThX w) a.since b.date b.ln b.live V (some ⟨g, 0, none⟩) c' m ia ic O E M wr ∧ ThSel a b k m O E) := ⟨hin, hsel⟩
            have HT : Hid (Th w a b la lb wr) := H2.out.of hin
            clear hin hsel
            obtain ⟨⟨p0, p1, p2, p3⟩, ⟨s0, s1, s2, s3⟩, ⟨r0, r1, r2, r3⟩⟩ := HT.out.cells
            by_cases hlt : k < b.ln
            · have hlti : (k : Int) < (b.ln : Int) := by omega
              go_wp2_with fail
              refine (l6Item_any b lb k wr (hB.below (Nat.le_refl _) HT.out.bel) hfb.m (ok_inj HOK.out.2.2)).mono ?_
              rintro e W4 ⟨hb4, rfl⟩
              have H4 : Hid (Th w a b la lb W4 ∧ GOf w w2 w2.heap.size (ThX w) a.since b.date b.ln b.live V (some ⟨g, 0, none⟩) c' m ia ic O E M W4) := ⟨HT.out.below hb4, HIN.out.1.below hb4⟩
              clear hb4
              clear p0 p1 p2 p3 s0 s1 s2 s3 r0 r1 r2 r3
              obtain ⟨⟨p0, p1, p2, p3⟩, ⟨s0, s1, s2, s3⟩, ⟨r0, r1, r2, r3⟩⟩ := H4.out.1.cells
              generalize hzb : ixI (ixOf b.ino b.m (k : Int)) = zb
              have HZB : Hid _ := hzb
              clear hzb
              go_wp2_with fail
              refine (l6Item_any a la k W4 (hA.below (Nat.le_refl _) H4.out.1.bel) hfa.m (ok_inj HOK.out.2.1)).mono ?_
              rintro e W5 ⟨hb5, rfl⟩
              have H5 : Hid (Th w a b la lb W5 ∧ GOf w w2 w2.heap.size (ThX w) a.since b.date b.ln b.live V (some ⟨g, 0, none⟩) c' m ia ic O E M W5) := ⟨H4.out.1.below hb5, H4.out.2.below hb5⟩
              clear hb5 H4
              clear p0 p1 p2 p3 s0 s1 s2 s3 r0 r1 r2 r3
              obtain ⟨⟨p0, p1, p2, p3⟩, ⟨s0, s1, s2, s3⟩, ⟨r0, r1, r2, r3⟩⟩ := H5.out.1.cells
              generalize hza : ixI (ixOf a.ino a.m (k : Int)) = za
              have HZA : Hid _ := hza
              clear hza
              cases hob : ixOf b.ino b.m (k : Int) with
              | some j =>
                have hz := HZB.out
                rw [hob] at hz
                subst hz
                have hj : j < b.m := (ixOf_some hob).1
                have HN : Hid (thenNd a b (k : Int) = some (b.nd j)) := by show _ = _; unfold thenNd; rw [hob]
                have hj0 : (0 : Int) ≤ ixI (some j) := by show (0 : Int) ≤ (j : Int); omega
                clear hob HZB HZA
                simp only [ixI] at hj0 ⊢
                go_wp2_with fail
                have HW : Hid (∃ bI oI, bI < w2.heap.size ∧ ∀ W', Below W5.heap.size W5 W' → (W'.cell? ⟨V, 3, none⟩ = some (.slice ia m ic) ∧ W'.cell? ⟨w.heap.size + 1, 3, none⟩ = some (.slice (some ⟨bI, oI, none⟩) b.m lb.ic) ∧ W'.cell? ⟨bI, oI + j * 6 + 1, none⟩ = some (.int .i64 (b.nd j).kind) ∧ W'.cell? ⟨bI, oI + j * 6 + 1 + 1, none⟩ = some (.string (b.nd j).text) ∧ W'.cell? ⟨bI, oI + j * 6 + 1 + 2, none⟩ = some (.slice (lb.L j).nA (b.nd j).nn (lb.L j).nc) ∧ W'.cell? ⟨bI, oI + j * 6 + 1 + 3, none⟩ = some (.slice (lb.L j).kA (b.nd j).kn (lb.L j).kc) ∧ W'.cell? ⟨bI, oI + j * 6 + 1 + 4, none⟩ = some (.int .i64 (b.nd j).turn)) ∧ NdIn W' (b.nd j) (lb.L j)) := by
                  show ∃ _, _
                  obtain ⟨bI, oI, hQ, hbl, _⟩ := hB.items.at hj
                  refine ⟨bI, oI, by omega, fun W' hW => ?_⟩
                  have hcc := (H5.out.1.below hW).cells
                  have hv3 : W'.cell? ⟨V, 3, none⟩ = some (.slice ia m ic) := (H5.out.2.below hW).v.cell 3
                  obtain ⟨bI', oI', hQ', _, hc'⟩ := ((hB.items.below (Nat.le_refl _) H5.out.1.bel).below (Nat.le_refl _) hW).at hj
                  obtain ⟨d0, d1, d2, d3, d4, d5, d6⟩ := hc' j hj
                  rw [hQ] at hQ'
                  cases hQ'
                  refine ⟨⟨hv3, ?_, d1, d2, d3, d4, d5⟩, d6⟩
                  rw [← hQ]
                  exact hcc.2.1.2.2.2
                obtain ⟨bI, oI, hbIl, hSt⟩ := HW.out
                have HSt : Hid _ := hSt
                have hsm := dp_of_small hsb j hj
                have hji : (j : Int) < (b.m : Int) := by omega
                have hm10 : m ≤ 10 := by have h1 := HIN.out.2.1; have h2 := thenSel_len a b k; omega
                clear p0 p1 p2 p3 s0 s1 s2 s3 r0 r1 r2 r3 hSt HW
                have hd5 : Below W5.heap.size W5 W5.drew := below_drewN (Below.refl _ _) 1
                refine wp_region_noPanic ?_
                refine wp_region_peel2 (fun W' => W'.cell? ⟨V, 3, none⟩ = some (.slice ia m ic) ∧ W'.cell? ⟨w.heap.size + 1, 3, none⟩ = some (.slice (some ⟨bI, oI, none⟩) b.m lb.ic) ∧ W'.cell? ⟨bI, oI + j * 6 + 1, none⟩ = some (.int .i64 (b.nd j).kind) ∧ W'.cell? ⟨bI, oI + j * 6 + 1 + 1, none⟩ = some (.string (b.nd j).text) ∧ W'.cell? ⟨bI, oI + j * 6 + 1 + 2, none⟩ = some (.slice (lb.L j).nA (b.nd j).nn (lb.L j).nc) ∧ W'.cell? ⟨bI, oI + j * 6 + 1 + 3, none⟩ = some (.slice (lb.L j).kA (b.nd j).kn (lb.L j).kc) ∧ W'.cell? ⟨bI, oI + j * 6 + 1 + 4, none⟩ = some (.int .i64 (b.nd j).turn)) _ _ (by kernel_rfl) rfl rfl (by kernel_rfl) (by kernel_rfl) ?_ (fun hHeld => ?_)
                · exact (HSt.out _ hd5).1
                simp only [List.pop_toArray, List.dropLast, List.size_toArray, List.length_cons, List.length_nil, Nat.reduceAdd, Nat.reduceSub, List.getElem_toArray, List.getElem_cons_succ, List.getElem_cons_zero]
                refine peel_take (i := 0) (oi := ?oi0x) (v := ?v0x) (fun _ _ _ _ _ h => h) hHeld ?hi0x (by kernel_rfl) (by kernel_rfl) (by kernel_rfl) ?hw0x ?hy0x ?rest0x
                case hi0x =>
                  simp only [List.getElem?_toArray, List.getElem?_cons_zero]
                  rfl
                case hw0x => rfl
                case hy0x =>
                  intro w hSw
                  obtain ⟨s0, s1, s2, s3, s4, s5, s6⟩ := hSw
                  go_simp
                  try with_reducible rfl
                try simp only [Act.put, List.setIfInBounds_toArray, List.set_cons_zero, List.set_cons_succ]
                refine peel_take (i := 1) (oi := ?oi1x) (v := ?v1x) (fun _ _ _ _ _ h => h) hHeld ?hi1x (by kernel_rfl) (by kernel_rfl) (by kernel_rfl) ?hw1x ?hy1x ?rest1x
                case hi1x =>
                  simp only [List.getElem?_toArray, List.getElem?_cons_succ, List.getElem?_cons_zero]
                  rfl
                case hw1x => rfl
                case hy1x =>
                  intro w hSw
                  obtain ⟨s0, s1, s2, s3, s4, s5, s6⟩ := hSw
                  go_simp
                  try with_reducible rfl
                try simp only [Act.put, List.setIfInBounds_toArray, List.set_cons_zero, List.set_cons_succ]
                refine peel_take (i := 2) (oi := ?oi2x) (v := ?v2x) (fun _ _ _ _ _ h => h) hHeld ?hi2x (by kernel_rfl) (by kernel_rfl) (by kernel_rfl) ?hw2x ?hy2x ?rest2x
                case hi2x =>
                  simp only [List.getElem?_toArray, List.getElem?_cons_succ, List.getElem?_cons_zero]
                  rfl
                case hw2x => rfl
                case hy2x =>
                  intro w hSw
                  obtain ⟨s0, s1, s2, s3, s4, s5, s6⟩ := hSw
                  go_simp
                  try with_reducible rfl
                try simp only [Act.put, List.setIfInBounds_toArray, List.set_cons_zero, List.set_cons_succ]
                refine peel_take (i := 3) (oi := ?oi3x) (v := ?v3x) (fun _ _ _ _ _ h => h) hHeld ?hi3x (by kernel_rfl) (by kernel_rfl) (by kernel_rfl) ?hw3x ?hy3x ?rest3x
                case hi3x =>
                  simp only [List.getElem?_toArray, List.getElem?_cons_succ, List.getElem?_cons_zero]
                  rfl
                case hw3x => rfl
                case hy3x =>
                  intro w hSw
                  obtain ⟨s0, s1, s2, s3, s4, s5, s6⟩ := hSw
                  go_simp
                  try with_reducible rfl
                try simp only [Act.put, List.setIfInBounds_toArray, List.set_cons_zero, List.set_cons_succ]
                refine peel_take (i := 4) (oi := ?oi4x) (v := ?v4x) (fun _ _ _ _ _ h => h) hHeld ?hi4x (by kernel_rfl) (by kernel_rfl) (by kernel_rfl) ?hw4x ?hy4x ?rest4x
                case hi4x =>
                  simp only [List.getElem?_toArray, List.getElem?_cons_succ, List.getElem?_cons_zero]
                  rfl
                case hw4x => rfl
                case hy4x =>
                  intro w hSw
                  obtain ⟨s0, s1, s2, s3, s4, s5, s6⟩ := hSw
                  go_simp
                  try with_reducible rfl
                try simp only [Act.put, List.setIfInBounds_toArray, List.set_cons_zero, List.set_cons_succ]
                refine peel_take (i := 5) (oi := ?oi5x) (v := ?v5x) (fun _ _ _ _ _ h => h) hHeld ?hi5x (by kernel_rfl) (by kernel_rfl) (by kernel_rfl) ?hw5x ?hy5x ?rest5x
                case hi5x =>
                  simp only [List.getElem?_toArray, List.getElem?_cons_succ, List.getElem?_cons_zero]
                  rfl
                case hw5x => rfl
                case hy5x =>
                  intro w hSw
                  obtain ⟨s0, s1, s2, s3, s4, s5, s6⟩ := hSw
                  go_simp
                  try with_reducible rfl
                try simp only [Act.put, List.setIfInBounds_toArray, List.set_cons_zero, List.set_cons_succ]
                refine peel_take (i := 6) (oi := ?oi6x) (v := ?v6x) (fun _ _ _ _ _ h => h) hHeld ?hi6x (by kernel_rfl) (by kernel_rfl) (by kernel_rfl) ?hw6x ?hy6x ?rest6x
                case hi6x =>
                  simp only [List.getElem?_toArray, List.getElem?_cons_succ, List.getElem?_cons_zero]
                  rfl
                case hw6x => rfl
                case hy6x =>
                  intro w hSw
                  obtain ⟨s0, s1, s2, s3, s4, s5, s6⟩ := hSw
                  go_simp
                  try with_reducible rfl
                try simp only [Act.put, List.setIfInBounds_toArray, List.set_cons_zero, List.set_cons_succ]
                refine peel_take (i := 7) (oi := ?oi7x) (v := ?v7x) (fun _ _ _ _ _ h => h) hHeld ?hi7x (by kernel_rfl) (by kernel_rfl) (by kernel_rfl) ?hw7x ?hy7x ?rest7x
                case hi7x =>
                  simp only [List.getElem?_toArray, List.getElem?_cons_succ, List.getElem?_cons_zero]
                  rfl
                case hw7x => rfl
                case hy7x =>
                  intro w hSw
                  obtain ⟨s0, s1, s2, s3, s4, s5, s6⟩ := hSw
                  go_simp
                  try with_reducible rfl
                try simp only [Act.put, List.setIfInBounds_toArray, List.set_cons_zero, List.set_cons_succ]
                refine peel_take (i := 8) (oi := ?oi8x) (v := ?v8x) (fun _ _ _ _ _ h => h) hHeld ?hi8x (by kernel_rfl) (by kernel_rfl) (by kernel_rfl) ?hw8x ?hy8x ?rest8x
                case hi8x =>
                  simp only [List.getElem?_toArray, List.getElem?_cons_succ, List.getElem?_cons_zero]
                  rfl
                case hw8x => rfl
                case hy8x =>
                  intro w hSw
                  obtain ⟨s0, s1, s2, s3, s4, s5, s6⟩ := hSw
                  go_simp
                  try with_reducible rfl
                try simp only [Act.put, List.setIfInBounds_toArray, List.set_cons_zero, List.set_cons_succ]
                refine wpAnyH_ready (rs := [9]) (by kernel_rfl) (by simp) ?_
                refine AllReadyH.cons (o := ?o9x) ?ho9x (fun K hK => ?st9x) AllReadyH.nil
                case ho9x =>
                  simp only [List.getElem?_toArray, List.getElem?_cons_succ, List.getElem?_cons_zero]
                  rfl
                go_simp
                refine (l2Copy_any (b.nd j) (lb.L j) W5.drew (HSt.out _ hd5).2 hsm.1 hsm.2.1).mono ?_
                rintro e W6 ⟨l5, rfl, hN5⟩
                unfold ndV
                have hb6 : Below W5.heap.size W5 W6 := hd5.trans hN5.bel
                refine hK.out _ _ (HSt.out W6 hb6).1 (fun hHeld => ?re9x)
                clear hK K
                try simp only [Act.put, List.setIfInBounds_toArray, List.set_cons_zero, List.set_cons_succ]
                refine wpAnyH_ready (rs := [10]) (by kernel_rfl) (by simp) ?_
                refine AllReadyH.cons (o := ?o10x) ?ho10x (fun K hK => ?st10x) AllReadyH.nil
                case ho10x =>
                  simp only [List.getElem?_toArray, List.getElem?_cons_succ, List.getElem?_cons_zero]
                  rfl
                go_simp
                refine hK.out _ _ (HSt.out W6 hb6).1 (fun hHeld => ?re10x)
                clear hK K
                try simp only [Act.put, List.setIfInBounds_toArray, List.set_cons_zero, List.set_cons_succ]
                refine wpAnyH_ready (rs := [11]) (by kernel_rfl) (by simp) ?_
                refine AllReadyH.cons (o := ?o11x) ?ho11x (fun K hK => ?st11x) AllReadyH.nil
                case ho11x =>
                  simp only [List.getElem?_toArray, List.getElem?_cons_succ, List.getElem?_cons_zero]
                  rfl
                go_simp
                have hb7 : Below W5.heap.size W5 (W6.alloc (.cells #[.int .i64 (k : Int), .int .i64 (b.nd j).kind, .string (b.nd j).text, .slice l5.nA (b.nd j).nn l5.nc, .slice l5.kA (b.nd j).kn l5.kc, .int .i64 (b.nd j).turn] 56)) := hb6.alloc hb6.size _
                refine hK.out _ _ (HSt.out _ hb7).1 (fun hHeld => ?re11x)
                clear hK K
                try simp only [Act.put, List.setIfInBounds_toArray, List.set_cons_zero, List.set_cons_succ]
                refine wpAnyH_ready (rs := [12]) (by kernel_rfl) (by simp) ?_
                refine AllReadyH.cons (o := ?o12x) ?ho12x (fun K hK => ?st12x) AllReadyH.nil
                case ho12x =>
                  simp only [List.getElem?_toArray, List.getElem?_cons_succ, List.getElem?_cons_zero]
                  rfl
                have hD6 := H5.out.2.below hb7
                have hN6 := hN5.new.alloc (.cells #[.int .i64 (k : Int), .int .i64 (b.nd j).kind, .string (b.nd j).text, .slice l5.nA (b.nd j).nn l5.nc, .slice l5.kA (b.nd j).kn l5.kc, .int .i64 (b.nd j).turn] 56)
                have hB5 : w2.heap.size ≤ W5.heap.size := by have h := owns_block H5.out.2.od.ownL (show (Value.slice (some ⟨g, 0, none⟩) b.ln c').ownBlock = some g from rfl); omega
                have hneV : (Value.slice ia m ic).ownBlock ≠ some V := fun e => (H5.out.2.off 1 V (by omega) (by simpa [valD] using e)).2 rfl
                have hbo5 : ∀ q, (Value.slice ia m ic).ownBlock = some q → w2.heap.size ≤ q := fun q e => (owns_block H5.out.2.od.ownI e).1
                refine step_of (by rfl) (wp_append_src (.tmp 51) (.tmp 61) 27 rfl w2.heap.size 56 y0 (.agg #[.int .i64 0, .int .i64 0, .string ByteArray.empty, .slice none 0 0, .slice none 0 0, .int .i64 0]) 6 88 Try.underlying27 hy hy0 hy1 hy2 rfl (by decide) (.slice ia m ic) m _ (by rfl) hD6.od.ownI _ 1 _ (by rfl) (src_item W6 (k : Int) (b.nd j) l5) (by unfold maxLen; omega) (by omega) (by have := hb7.size; omega) ?_)
                intro vI W7 hown hgrow hnil hat
                rcases hown.2 with ⟨_, h0⟩ | ⟨gI, cI, cur, hvI, _, _, _⟩
                · omega
                subst hvI
                have hbI : (Value.slice ia m ic).ownBlock = some gI ∨ (W6.alloc (.cells #[.int .i64 (k : Int), .int .i64 (b.nd j).kind, .string (b.nd j).text, .slice l5.nA (b.nd j).nn l5.nc, .slice l5.kA (b.nd j).kn l5.kc, .int .i64 (b.nd j).turn] 56)).heap.size ≤ gI := by
                  rcases hat with e | e
                  · exact Or.inl e.symm
                  · right
                    have e' : gI = (W6.alloc (.cells #[.int .i64 (k : Int), .int .i64 (b.nd j).kind, .string (b.nd j).text, .slice l5.nA (b.nd j).nn l5.nc, .slice l5.kA (b.nd j).kn l5.kc, .int .i64 (b.nd j).turn] 56)).heap.size := by simpa [Value.ownBlock] using e
                    omega
                have hV7 := blk_grown hD6.v hgrow hneV
                have hHeld7 : W7.cell? ⟨V, 3, none⟩ = some (.slice ia m ic) ∧ W7.cell? ⟨w.heap.size + 1, 3, none⟩ = some (.slice (some ⟨bI, oI, none⟩) b.m lb.ic) ∧ W7.cell? ⟨bI, oI + j * 6 + 1, none⟩ = some (.int .i64 (b.nd j).kind) ∧ W7.cell? ⟨bI, oI + j * 6 + 1 + 1, none⟩ = some (.string (b.nd j).text) ∧ W7.cell? ⟨bI, oI + j * 6 + 1 + 2, none⟩ = some (.slice (lb.L j).nA (b.nd j).nn (lb.L j).nc) ∧ W7.cell? ⟨bI, oI + j * 6 + 1 + 3, none⟩ = some (.slice (lb.L j).kA (b.nd j).kn (lb.L j).kc) ∧ W7.cell? ⟨bI, oI + j * 6 + 1 + 4, none⟩ = some (.int .i64 (b.nd j).turn) := by
                  obtain ⟨e0, e1, e2, e3, e4, e5, e6⟩ := (HSt.out _ hb7).1
                  have hlow : ∀ q o v, q < w2.heap.size → (W6.alloc (.cells #[.int .i64 (k : Int), .int .i64 (b.nd j).kind, .string (b.nd j).text, .slice l5.nA (b.nd j).nn l5.nc, .slice l5.kA (b.nd j).kn l5.kc, .int .i64 (b.nd j).turn] 56)).cell? ⟨q, o, none⟩ = some v → W7.cell? ⟨q, o, none⟩ = some v := fun q o v hq h => hgrow.cell h (fun e => by have := hbo5 q e.symm; omega)
                  have hwlt := hwl
                  exact ⟨hV7.cell 3, hlow _ _ _ (by omega) e1, hlow _ _ _ hbIl e2, hlow _ _ _ hbIl e3, hlow _ _ _ hbIl e4, hlow _ _ _ hbIl e5, hlow _ _ _ hbIl e6⟩
                have H8 : Hid _ := (H5.out.2.below hd5).item hN6 (by have := hd5.size; omega) hgrow hown hbI
                have v37 : W7.cell? ⟨V, 3, none⟩ = some (.slice ia m ic) := hV7.cell 3
                have f37 := hV7.frozen 3
                refine hK.out _ _ hHeld7 (fun hHeld => ?re12x)
                clear hK K
                try simp only [Act.put, List.setIfInBounds_toArray, List.set_cons_zero, List.set_cons_succ]
                refine wpAnyH_done (by kernel_rfl) ?_ _
                show Oper.wp _ _ _ _ _ _
                clear hown hgrow hnil hat hbI hV7 hHeld7 hN6 hD6 hN5 HSt hneV hHeld hd5 hb6 hb7 hsm hbo5 hB5
                go_simp
                show Oper.wp _ _ _ _ _ _
                go_simp
                refine NoPanic.normal ?_
                go_wp2_with fail
                go_roundw
                case rel => exact ⟨k + 1, m + 1, some ⟨gI, 0, none⟩, cI, _, _, _, by omega, by go_num, H8.out, HIN.out.2.yes HN.out⟩
                case measure => simp [intOf]; omega
              | none =>
                have hz := HZB.out
                rw [hob] at hz
                subst hz
                simp only [ixI]
                cases hoa : ixOf a.ino a.m (k : Int) with
                | none =>
                  have hz := HZA.out
                  rw [hoa] at hz
                  subst hz
                  simp only [ixI]
                  have HN : Hid (thenNd a b (k : Int) = none) := by show _ = _; unfold thenNd; rw [hob, hoa]; simp
                  clear hob hoa HZB HZA
                  go_wp2_with fail
                  go_roundw
                  case rel => exact ⟨k + 1, m, ia, ic, O, E, M, by omega, by go_num, H5.out.2, HIN.out.2.no HN.out⟩
                  case measure => simp [intOf]; omega
                | some j =>
                  have hz := HZA.out
                  rw [hoa] at hz
                  subst hz
                  have hj : j < a.m := (ixOf_some hoa).1
                  have hj0 : (0 : Int) ≤ ixI (some j) := by show (0 : Int) ≤ (j : Int); omega
                  simp only [ixI] at hj0 ⊢
                  obtain ⟨bL, oL, hL, hLl, hLc⟩ := (hB.live.below (Nat.le_refl _) H5.out.1.bel).at hlt
                  have hL0 := hLc k hlt
                  rw [hL] at s2
                  clear hL hLc
                  cases hlv : b.live k with
                  | false =>
                    have HN : Hid (thenNd a b (k : Int) = none) := by show _ = _; unfold thenNd; rw [hob, hoa]; simp [hlv]
                    rw [hlv] at hL0
                    clear hob hoa HZB HZA hlv
                    go_wp2_with fail
                    go_roundw
                    case rel => exact ⟨k + 1, m, ia, ic, O, E, M, by omega, by go_num, H5.out.2, HIN.out.2.no HN.out⟩
                    case measure => simp [intOf]; omega
                  | true =>
                    have HN : Hid (thenNd a b (k : Int) = some (a.nd j)) := by show _ = _; unfold thenNd; rw [hob, hoa]; simp [hlv]
                    rw [hlv] at hL0
                    clear hob hoa HZB HZA hlv
                    go_wp2_with fail
                    have HW : Hid (∃ bI oI, bI < w2.heap.size ∧ ∀ W', Below W5.heap.size W5 W' → (W'.cell? ⟨V, 3, none⟩ = some (.slice ia m ic) ∧ W'.cell? ⟨w.heap.size, 3, none⟩ = some (.slice (some ⟨bI, oI, none⟩) a.m la.ic) ∧ W'.cell? ⟨bI, oI + j * 6 + 1, none⟩ = some (.int .i64 (a.nd j).kind) ∧ W'.cell? ⟨bI, oI + j * 6 + 1 + 1, none⟩ = some (.string (a.nd j).text) ∧ W'.cell? ⟨bI, oI + j * 6 + 1 + 2, none⟩ = some (.slice (la.L j).nA (a.nd j).nn (la.L j).nc) ∧ W'.cell? ⟨bI, oI + j * 6 + 1 + 3, none⟩ = some (.slice (la.L j).kA (a.nd j).kn (la.L j).kc) ∧ W'.cell? ⟨bI, oI + j * 6 + 1 + 4, none⟩ = some (.int .i64 (a.nd j).turn)) ∧ NdIn W' (a.nd j) (la.L j)) := by
                      show ∃ _, _
                      obtain ⟨bI, oI, hQ, hbl, _⟩ := hA.items.at hj
                      refine ⟨bI, oI, by omega, fun W' hW => ?_⟩
                      have hcc := (H5.out.1.below hW).cells
                      have hv3 : W'.cell? ⟨V, 3, none⟩ = some (.slice ia m ic) := (H5.out.2.below hW).v.cell 3
                      obtain ⟨bI', oI', hQ', _, hc'⟩ := ((hA.items.below (Nat.le_refl _) H5.out.1.bel).below (Nat.le_refl _) hW).at hj
                      obtain ⟨d0, d1, d2, d3, d4, d5, d6⟩ := hc' j hj
                      rw [hQ] at hQ'
                      cases hQ'
                      refine ⟨⟨hv3, ?_, d1, d2, d3, d4, d5⟩, d6⟩
                      rw [← hQ]
                      exact hcc.1.2.2.2
                    obtain ⟨bI, oI, hbIl, hSt⟩ := HW.out
                    have HSt : Hid _ := hSt
                    have hsm := dp_of_small hsa j hj
                    have hji : (j : Int) < (a.m : Int) := by omega
                    have hm10 : m ≤ 10 := by have h1 := HIN.out.2.1; have h2 := thenSel_len a b k; omega
                    clear p0 p1 p2 p3 s0 s1 s2 s3 r0 r1 r2 r3 hSt HW
                    have hd5 : Below W5.heap.size W5 W5.drew := below_drewN (Below.refl _ _) 1
                    refine wp_region_noPanic ?_
                    refine wp_region_peel2 (fun W' => W'.cell? ⟨V, 3, none⟩ = some (.slice ia m ic) ∧ W'.cell? ⟨w.heap.size, 3, none⟩ = some (.slice (some ⟨bI, oI, none⟩) a.m la.ic) ∧ W'.cell? ⟨bI, oI + j * 6 + 1, none⟩ = some (.int .i64 (a.nd j).kind) ∧ W'.cell? ⟨bI, oI + j * 6 + 1 + 1, none⟩ = some (.string (a.nd j).text) ∧ W'.cell? ⟨bI, oI + j * 6 + 1 + 2, none⟩ = some (.slice (la.L j).nA (a.nd j).nn (la.L j).nc) ∧ W'.cell? ⟨bI, oI + j * 6 + 1 + 3, none⟩ = some (.slice (la.L j).kA (a.nd j).kn (la.L j).kc) ∧ W'.cell? ⟨bI, oI + j * 6 + 1 + 4, none⟩ = some (.int .i64 (a.nd j).turn)) _ _ (by kernel_rfl) rfl rfl (by kernel_rfl) (by kernel_rfl) ?_ (fun hHeld => ?_)
                    · exact (HSt.out _ hd5).1
                    simp only [List.pop_toArray, List.dropLast, List.size_toArray, List.length_cons, List.length_nil, Nat.reduceAdd, Nat.reduceSub, List.getElem_toArray, List.getElem_cons_succ, List.getElem_cons_zero]
                    refine peel_take (i := 0) (oi := ?oi0y) (v := ?v0y) (fun _ _ _ _ _ h => h) hHeld ?hi0y (by kernel_rfl) (by kernel_rfl) (by kernel_rfl) ?hw0y ?hy0y ?rest0y
                    case hi0y =>
                      simp only [List.getElem?_toArray, List.getElem?_cons_zero]
                      rfl
                    case hw0y => rfl
                    case hy0y =>
                      intro w hSw
                      obtain ⟨s0, s1, s2, s3, s4, s5, s6⟩ := hSw
                      go_simp
                      try with_reducible rfl
                    try simp only [Act.put, List.setIfInBounds_toArray, List.set_cons_zero, List.set_cons_succ]
                    refine peel_take (i := 1) (oi := ?oi1y) (v := ?v1y) (fun _ _ _ _ _ h => h) hHeld ?hi1y (by kernel_rfl) (by kernel_rfl) (by kernel_rfl) ?hw1y ?hy1y ?rest1y
                    case hi1y =>
                      simp only [List.getElem?_toArray, List.getElem?_cons_succ, List.getElem?_cons_zero]
                      rfl
                    case hw1y => rfl
                    case hy1y =>
                      intro w hSw
                      obtain ⟨s0, s1, s2, s3, s4, s5, s6⟩ := hSw
                      go_simp
                      try with_reducible rfl
                    try simp only [Act.put, List.setIfInBounds_toArray, List.set_cons_zero, List.set_cons_succ]
                    refine peel_take (i := 2) (oi := ?oi2y) (v := ?v2y) (fun _ _ _ _ _ h => h) hHeld ?hi2y (by kernel_rfl) (by kernel_rfl) (by kernel_rfl) ?hw2y ?hy2y ?rest2y
                    case hi2y =>
                      simp only [List.getElem?_toArray, List.getElem?_cons_succ, List.getElem?_cons_zero]
                      rfl
                    case hw2y => rfl
                    case hy2y =>
                      intro w hSw
                      obtain ⟨s0, s1, s2, s3, s4, s5, s6⟩ := hSw
                      go_simp
                      try with_reducible rfl
                    try simp only [Act.put, List.setIfInBounds_toArray, List.set_cons_zero, List.set_cons_succ]
                    refine peel_take (i := 3) (oi := ?oi3y) (v := ?v3y) (fun _ _ _ _ _ h => h) hHeld ?hi3y (by kernel_rfl) (by kernel_rfl) (by kernel_rfl) ?hw3y ?hy3y ?rest3y
                    case hi3y =>
                      simp only [List.getElem?_toArray, List.getElem?_cons_succ, List.getElem?_cons_zero]
                      rfl
                    case hw3y => rfl
                    case hy3y =>
                      intro w hSw
                      obtain ⟨s0, s1, s2, s3, s4, s5, s6⟩ := hSw
                      go_simp
                      try with_reducible rfl
                    try simp only [Act.put, List.setIfInBounds_toArray, List.set_cons_zero, List.set_cons_succ]
                    refine peel_take (i := 4) (oi := ?oi4y) (v := ?v4y) (fun _ _ _ _ _ h => h) hHeld ?hi4y (by kernel_rfl) (by kernel_rfl) (by kernel_rfl) ?hw4y ?hy4y ?rest4y
                    case hi4y =>
                      simp only [List.getElem?_toArray, List.getElem?_cons_succ, List.getElem?_cons_zero]
                      rfl
                    case hw4y => rfl
                    case hy4y =>
                      intro w hSw
                      obtain ⟨s0, s1, s2, s3, s4, s5, s6⟩ := hSw
                      go_simp
                      try with_reducible rfl
                    try simp only [Act.put, List.setIfInBounds_toArray, List.set_cons_zero, List.set_cons_succ]
                    refine peel_take (i := 5) (oi := ?oi5y) (v := ?v5y) (fun _ _ _ _ _ h => h) hHeld ?hi5y (by kernel_rfl) (by kernel_rfl) (by kernel_rfl) ?hw5y ?hy5y ?rest5y
                    case hi5y =>
                      simp only [List.getElem?_toArray, List.getElem?_cons_succ, List.getElem?_cons_zero]
                      rfl
                    case hw5y => rfl
                    case hy5y =>
                      intro w hSw
                      obtain ⟨s0, s1, s2, s3, s4, s5, s6⟩ := hSw
                      go_simp
                      try with_reducible rfl
                    try simp only [Act.put, List.setIfInBounds_toArray, List.set_cons_zero, List.set_cons_succ]
                    refine peel_take (i := 6) (oi := ?oi6y) (v := ?v6y) (fun _ _ _ _ _ h => h) hHeld ?hi6y (by kernel_rfl) (by kernel_rfl) (by kernel_rfl) ?hw6y ?hy6y ?rest6y
                    case hi6y =>
                      simp only [List.getElem?_toArray, List.getElem?_cons_succ, List.getElem?_cons_zero]
                      rfl
                    case hw6y => rfl
                    case hy6y =>
                      intro w hSw
                      obtain ⟨s0, s1, s2, s3, s4, s5, s6⟩ := hSw
                      go_simp
                      try with_reducible rfl
                    try simp only [Act.put, List.setIfInBounds_toArray, List.set_cons_zero, List.set_cons_succ]
                    refine peel_take (i := 7) (oi := ?oi7y) (v := ?v7y) (fun _ _ _ _ _ h => h) hHeld ?hi7y (by kernel_rfl) (by kernel_rfl) (by kernel_rfl) ?hw7y ?hy7y ?rest7y
                    case hi7y =>
                      simp only [List.getElem?_toArray, List.getElem?_cons_succ, List.getElem?_cons_zero]
                      rfl
                    case hw7y => rfl
                    case hy7y =>
                      intro w hSw
                      obtain ⟨s0, s1, s2, s3, s4, s5, s6⟩ := hSw
                      go_simp
                      try with_reducible rfl
                    try simp only [Act.put, List.setIfInBounds_toArray, List.set_cons_zero, List.set_cons_succ]
                    refine peel_take (i := 8) (oi := ?oi8y) (v := ?v8y) (fun _ _ _ _ _ h => h) hHeld ?hi8y (by kernel_rfl) (by kernel_rfl) (by kernel_rfl) ?hw8y ?hy8y ?rest8y
                    case hi8y =>
                      simp only [List.getElem?_toArray, List.getElem?_cons_succ, List.getElem?_cons_zero]
                      rfl
                    case hw8y => rfl
                    case hy8y =>
                      intro w hSw
                      obtain ⟨s0, s1, s2, s3, s4, s5, s6⟩ := hSw
                      go_simp
                      try with_reducible rfl
                    try simp only [Act.put, List.setIfInBounds_toArray, List.set_cons_zero, List.set_cons_succ]
                    refine wpAnyH_ready (rs := [9]) (by kernel_rfl) (by simp) ?_
                    refine AllReadyH.cons (o := ?o9y) ?ho9y (fun K hK => ?st9y) AllReadyH.nil
                    case ho9y =>
                      simp only [List.getElem?_toArray, List.getElem?_cons_succ, List.getElem?_cons_zero]
                      rfl
                    go_simp
                    refine (l2Copy_any (a.nd j) (la.L j) W5.drew (HSt.out _ hd5).2 hsm.1 hsm.2.1).mono ?_
                    rintro e W6 ⟨l5, rfl, hN5⟩
                    unfold ndV
                    have hb6 : Below W5.heap.size W5 W6 := hd5.trans hN5.bel
                    refine hK.out _ _ (HSt.out W6 hb6).1 (fun hHeld => ?re9y)
                    clear hK K
                    try simp only [Act.put, List.setIfInBounds_toArray, List.set_cons_zero, List.set_cons_succ]
                    refine wpAnyH_ready (rs := [10]) (by kernel_rfl) (by simp) ?_
                    refine AllReadyH.cons (o := ?o10y) ?ho10y (fun K hK => ?st10y) AllReadyH.nil
                    case ho10y =>
                      simp only [List.getElem?_toArray, List.getElem?_cons_succ, List.getElem?_cons_zero]
                      rfl
                    go_simp
                    refine hK.out _ _ (HSt.out W6 hb6).1 (fun hHeld => ?re10y)
                    clear hK K
                    try simp only [Act.put, List.setIfInBounds_toArray, List.set_cons_zero, List.set_cons_succ]
                    refine wpAnyH_ready (rs := [11]) (by kernel_rfl) (by simp) ?_
                    refine AllReadyH.cons (o := ?o11y) ?ho11y (fun K hK => ?st11y) AllReadyH.nil
                    case ho11y =>
                      simp only [List.getElem?_toArray, List.getElem?_cons_succ, List.getElem?_cons_zero]
                      rfl
                    go_simp
                    have hb7 : Below W5.heap.size W5 (W6.alloc (.cells #[.int .i64 (k : Int), .int .i64 (a.nd j).kind, .string (a.nd j).text, .slice l5.nA (a.nd j).nn l5.nc, .slice l5.kA (a.nd j).kn l5.kc, .int .i64 (a.nd j).turn] 56)) := hb6.alloc hb6.size _
                    refine hK.out _ _ (HSt.out _ hb7).1 (fun hHeld => ?re11y)
                    clear hK K
                    try simp only [Act.put, List.setIfInBounds_toArray, List.set_cons_zero, List.set_cons_succ]
                    refine wpAnyH_ready (rs := [12]) (by kernel_rfl) (by simp) ?_
                    refine AllReadyH.cons (o := ?o12y) ?ho12y (fun K hK => ?st12y) AllReadyH.nil
                    case ho12y =>
                      simp only [List.getElem?_toArray, List.getElem?_cons_succ, List.getElem?_cons_zero]
                      rfl
                    have hD6 := H5.out.2.below hb7
                    have hN6 := hN5.new.alloc (.cells #[.int .i64 (k : Int), .int .i64 (a.nd j).kind, .string (a.nd j).text, .slice l5.nA (a.nd j).nn l5.nc, .slice l5.kA (a.nd j).kn l5.kc, .int .i64 (a.nd j).turn] 56)
                    have hB5 : w2.heap.size ≤ W5.heap.size := by have h := owns_block H5.out.2.od.ownL (show (Value.slice (some ⟨g, 0, none⟩) b.ln c').ownBlock = some g from rfl); omega
                    have hneV : (Value.slice ia m ic).ownBlock ≠ some V := fun e => (H5.out.2.off 1 V (by omega) (by simpa [valD] using e)).2 rfl
                    have hbo5 : ∀ q, (Value.slice ia m ic).ownBlock = some q → w2.heap.size ≤ q := fun q e => (owns_block H5.out.2.od.ownI e).1
                    refine step_of (by rfl) (wp_append_src (.tmp 74) (.tmp 84) 27 rfl w2.heap.size 56 y0 (.agg #[.int .i64 0, .int .i64 0, .string ByteArray.empty, .slice none 0 0, .slice none 0 0, .int .i64 0]) 6 88 Try.underlying27 hy hy0 hy1 hy2 rfl (by decide) (.slice ia m ic) m _ (by rfl) hD6.od.ownI _ 1 _ (by rfl) (src_item W6 (k : Int) (a.nd j) l5) (by unfold maxLen; omega) (by omega) (by have := hb7.size; omega) ?_)
                    intro vI W7 hown hgrow hnil hat
                    rcases hown.2 with ⟨_, h0⟩ | ⟨gI, cI, cur, hvI, _, _, _⟩
                    · omega
                    subst hvI
                    have hbI : (Value.slice ia m ic).ownBlock = some gI ∨ (W6.alloc (.cells #[.int .i64 (k : Int), .int .i64 (a.nd j).kind, .string (a.nd j).text, .slice l5.nA (a.nd j).nn l5.nc, .slice l5.kA (a.nd j).kn l5.kc, .int .i64 (a.nd j).turn] 56)).heap.size ≤ gI := by
                      rcases hat with e | e
                      · exact Or.inl e.symm
                      · right
                        have e' : gI = (W6.alloc (.cells #[.int .i64 (k : Int), .int .i64 (a.nd j).kind, .string (a.nd j).text, .slice l5.nA (a.nd j).nn l5.nc, .slice l5.kA (a.nd j).kn l5.kc, .int .i64 (a.nd j).turn] 56)).heap.size := by simpa [Value.ownBlock] using e
                        omega
                    have hV7 := blk_grown hD6.v hgrow hneV
                    have hHeld7 : W7.cell? ⟨V, 3, none⟩ = some (.slice ia m ic) ∧ W7.cell? ⟨w.heap.size, 3, none⟩ = some (.slice (some ⟨bI, oI, none⟩) a.m la.ic) ∧ W7.cell? ⟨bI, oI + j * 6 + 1, none⟩ = some (.int .i64 (a.nd j).kind) ∧ W7.cell? ⟨bI, oI + j * 6 + 1 + 1, none⟩ = some (.string (a.nd j).text) ∧ W7.cell? ⟨bI, oI + j * 6 + 1 + 2, none⟩ = some (.slice (la.L j).nA (a.nd j).nn (la.L j).nc) ∧ W7.cell? ⟨bI, oI + j * 6 + 1 + 3, none⟩ = some (.slice (la.L j).kA (a.nd j).kn (la.L j).kc) ∧ W7.cell? ⟨bI, oI + j * 6 + 1 + 4, none⟩ = some (.int .i64 (a.nd j).turn) := by
                      obtain ⟨e0, e1, e2, e3, e4, e5, e6⟩ := (HSt.out _ hb7).1
                      have hlow : ∀ q o v, q < w2.heap.size → (W6.alloc (.cells #[.int .i64 (k : Int), .int .i64 (a.nd j).kind, .string (a.nd j).text, .slice l5.nA (a.nd j).nn l5.nc, .slice l5.kA (a.nd j).kn l5.kc, .int .i64 (a.nd j).turn] 56)).cell? ⟨q, o, none⟩ = some v → W7.cell? ⟨q, o, none⟩ = some v := fun q o v hq h => hgrow.cell h (fun e => by have := hbo5 q e.symm; omega)
                      have hwlt := hwl
                      exact ⟨hV7.cell 3, hlow _ _ _ (by omega) e1, hlow _ _ _ hbIl e2, hlow _ _ _ hbIl e3, hlow _ _ _ hbIl e4, hlow _ _ _ hbIl e5, hlow _ _ _ hbIl e6⟩
                    have H8 : Hid _ := (H5.out.2.below hd5).item hN6 (by have := hd5.size; omega) hgrow hown hbI
                    have v37 : W7.cell? ⟨V, 3, none⟩ = some (.slice ia m ic) := hV7.cell 3
                    have f37 := hV7.frozen 3
                    refine hK.out _ _ hHeld7 (fun hHeld => ?re12y)
                    clear hK K
                    try simp only [Act.put, List.setIfInBounds_toArray, List.set_cons_zero, List.set_cons_succ]
                    refine wpAnyH_done (by kernel_rfl) ?_ _
                    show Oper.wp _ _ _ _ _ _
                    clear hown hgrow hnil hat hbI hV7 hHeld7 hN6 hD6 hN5 HSt hneV hHeld hd5 hb6 hb7 hsm hbo5 hB5
                    go_simp
                    show Oper.wp _ _ _ _ _ _
                    go_simp
                    refine NoPanic.normal ?_
                    go_wp2_with fail
                    go_roundw
                    case rel => exact ⟨k + 1, m + 1, some ⟨gI, 0, none⟩, cI, _, _, _, by omega, by go_num, H8.out, HIN.out.2.yes HN.out⟩
                    case measure => simp [intOf]; omega
            · obtain rfl : k = b.ln := by omega
              obtain ⟨hm, hown⟩ := HIN.out.2.own HIN.out.1.od
              subst hm
              have HOWN : Hid _ := hown
              have v0 : wr.cell? ⟨V, 0, none⟩ = some (.int .i64 a.since) := HIN.out.1.v.cell 0
              have v1 : wr.cell? ⟨V, 1, none⟩ = some (.int .i64 b.date) := HIN.out.1.v.cell 1
              have v2 : wr.cell? ⟨V, 2, none⟩ = some (.slice (some ⟨g, 0, none⟩) b.ln c') := HIN.out.1.v.cell 2
              have v3 : wr.cell? ⟨V, 3, none⟩ = some (.slice ia (thenDp a b).m ic) := HIN.out.1.v.cell 3
              clear hown
              go_wp2_with fail
              refine (specDumpOk_any (thenDp a b) ⟨some ⟨g, 0, none⟩, c', ia, ic, M⟩ wr (OwnDp.dpIn (l := ⟨some ⟨g, 0, none⟩, c', ia, ic, M⟩) HOWN.out) (then_fits hfa hfb hln10)).mono ?_
              rintro e W6 ⟨hb6, rfl⟩
              have H6 : Hid (Th w a b la lb W6 ∧ Blk W6 V #[.int .i64 a.since, .int .i64 b.date, .slice (some ⟨g, 0, none⟩) b.ln c', .slice ia (thenDp a b).m ic] 29 ∧ OwnDp W6 w2.heap.size (thenDp a b) ⟨some ⟨g, 0, none⟩, c', ia, ic, M⟩) := ⟨HT.out.below hb6, HIN.out.1.v.below hb6 HIN.out.1.v.lt, OD.below HOWN.out hb6⟩
              clear v0 v1 v2 v3 hb6
              clear p0 p1 p2 p3 s0 s1 s2 s3 r0 r1 r2 r3
              obtain ⟨⟨p0, p1, p2, p3⟩, ⟨s0, s1, s2, s3⟩, ⟨r0, r1, r2, r3⟩⟩ := H6.out.1.cells
              have g0 := H6.out.1.r.frozen 0
              have g1 := H6.out.1.r.frozen 1
              have g2 := H6.out.1.r.frozen 2
              have g3 := H6.out.1.r.frozen 3
              cases hok : (thenDp a b).ok with
              | false =>
                have HE : Hid _ := HNO.out W6 H6.out.1 (HOK.out.1.trans hok) _ rfl
                clear HNO hok
                go_wp2_with fail
                refine end_world (F := fun U => Blk U (w.heap.size + 1 + 1) #[.int .i64 0, .int .i64 0, .slice none 0 0, .slice none 0 0] 29 ∧ ThenPost w a b (.returned (.tuple #[.agg #[.int .i64 0, .int .i64 0, .slice none 0 0, .slice none 0 0], .bool false])) U) HE.out ?_
                rintro U ⟨hr, hpost⟩
                have z0 : U.cell? ⟨w.heap.size + 1 + 1, 0, none⟩ = some (.int .i64 0) := hr.cell 0
                have z1 : U.cell? ⟨w.heap.size + 1 + 1, 1, none⟩ = some (.int .i64 0) := hr.cell 1
                have z2 : U.cell? ⟨w.heap.size + 1 + 1, 2, none⟩ = some (.slice none 0 0) := hr.cell 2
                have z3 : U.cell? ⟨w.heap.size + 1 + 1, 3, none⟩ = some (.slice none 0 0) := hr.cell 3
                exact bodyPost_ret (v := .tuple #[.agg #[.int .i64 0, .int .i64 0, .slice none 0 0, .slice none 0 0], .bool false]) (by simp [results, Try.results15, go_sem, z0, z1, z2, z3]) rfl hpost
              | true =>
                have v0 : W6.cell? ⟨V, 0, none⟩ = some (.int .i64 a.since) := H6.out.2.1.cell 0
                have v1 : W6.cell? ⟨V, 1, none⟩ = some (.int .i64 b.date) := H6.out.2.1.cell 1
                have v2 : W6.cell? ⟨V, 2, none⟩ = some (.slice (some ⟨g, 0, none⟩) b.ln c') := H6.out.2.1.cell 2
                have v3 : W6.cell? ⟨V, 3, none⟩ = some (.slice ia (thenDp a b).m ic) := H6.out.2.1.cell 3
                have HOKK : Hid (thenOk a b = true) := HOK.out.1.trans hok
                clear hok
                go_wp2_with fail
                refine end_world (F := fun U => Blk U (w.heap.size + 1 + 1) #[.int .i64 a.since, .int .i64 b.date, .slice (some ⟨g, 0, none⟩) b.ln c', .slice ia (thenDp a b).m ic] 29 ∧ Below w.heap.size w U ∧ OwnDp U w2.heap.size (thenDp a b) ⟨some ⟨g, 0, none⟩, c', ia, ic, M⟩) ⟨(((H6.out.1.r.set 0 _).set 1 _).set 2 _).set 3 _, bel_put (bel_put (bel_put (bel_put H6.out.1.bel _ (by omega)) _ (by omega)) _ (by omega)) _ (by omega), OD.off (OD.off (OD.off (OD.off H6.out.2.2 _ hwl) _ hwl) _ hwl) _ hwl⟩ ?_
                clear p0 p1 p2 p3 s0 s1 s2 s3 r0 r1 r2 r3 g0 g1 g2 g3 v0 v1 v2 v3
                rintro U ⟨hr, hBU, hod⟩
                have r0 : U.cell? ⟨w.heap.size + 1 + 1, 0, none⟩ = some (.int .i64 a.since) := hr.cell 0
                have r1 : U.cell? ⟨w.heap.size + 1 + 1, 1, none⟩ = some (.int .i64 b.date) := hr.cell 1
                have r2 : U.cell? ⟨w.heap.size + 1 + 1, 2, none⟩ = some (.slice (some ⟨g, 0, none⟩) b.ln c') := hr.cell 2
                have r3 : U.cell? ⟨w.heap.size + 1 + 1, 3, none⟩ = some (.slice ia (thenDp a b).m ic) := hr.cell 3
                exact bodyPost_ret (v := .tuple #[.agg #[.int .i64 a.since, .int .i64 b.date, .slice (some ⟨g, 0, none⟩) b.ln c', .slice ia (thenDp a b).m ic], .bool true]) (by simp [results, Try.results15, go_sem, r0, r1, r2, r3]) rfl ⟨hBU, Or.inr ⟨HOKK.out, ⟨some ⟨g, 0, none⟩, c', ia, ic, M⟩, rfl, OD.lower hod (by omega)⟩⟩
      · have hdb : (a.date != b.since) = true := by simp [hdt]
        have HE : Hid _ := HNO.out w2 H2.out (thenOk_d hdt) _ rfl
        clear HNO hao hbo hdt
        go_wp2_with fail
        refine end_world (F := fun U => Blk U (w.heap.size + 1 + 1) #[.int .i64 0, .int .i64 0, .slice none 0 0, .slice none 0 0] 29 ∧ ThenPost w a b (.returned (.tuple #[.agg #[.int .i64 0, .int .i64 0, .slice none 0 0, .slice none 0 0], .bool false])) U) HE.out ?_
        rintro U ⟨hr, hpost⟩
        have z0 : U.cell? ⟨w.heap.size + 1 + 1, 0, none⟩ = some (.int .i64 0) := hr.cell 0
        have z1 : U.cell? ⟨w.heap.size + 1 + 1, 1, none⟩ = some (.int .i64 0) := hr.cell 1
        have z2 : U.cell? ⟨w.heap.size + 1 + 1, 2, none⟩ = some (.slice none 0 0) := hr.cell 2
        have z3 : U.cell? ⟨w.heap.size + 1 + 1, 3, none⟩ = some (.slice none 0 0) := hr.cell 3
        exact bodyPost_ret (v := .tuple #[.agg #[.int .i64 0, .int .i64 0, .slice none 0 0, .slice none 0 0], .bool false]) (by simp [results, Try.results15, go_sem, z0, z1, z2, z3]) rfl hpost
end Go.Proofs.Yteoanlkmkmajjaa

/-
  The bits of a number in which the program keeps which places are not free.
-/
namespace Go.Proofs.Yteoanlkmkmajjaa
open Go.RowKit
set_option linter.unusedVariables false

theorem wrap16 {z : Int} (h0 : 0 ≤ z) (h1 : z < 65536) : IntKind.u16.wrap z = z := by
  simp [IntKind.wrap, IntKind.bits, IntKind.signed]
  omega

theorem shl16 {k : Nat} (hk : k ≤ 10) : IntKind.u16.wrap ((2 : Int) ^ k) = ((2 ^ k : Nat) : Int) := by
  have hp : 2 ^ k ≤ 2 ^ 10 := Nat.pow_le_pow_right (by omega) hk
  have h1 : 2 ^ k < 65536 := by omega
  have e : (2 : Int) ^ k = ((2 ^ k : Nat) : Int) := by simp
  rw [e]
  clear e hp
  generalize 2 ^ k = y at h1 ⊢
  exact wrap16 (by omega) (by omega)

theorem or16 {x k : Nat} (hk : k ≤ 10) (hx : x < 2 ^ k) : bits .or .u16 (x : Int) ((2 ^ k : Nat) : Int) = ((x + 2 ^ k : Nat) : Int) := by
  have hp : 2 ^ k ≤ 2 ^ 10 := Nat.pow_le_pow_right (by omega) hk
  have hor : x ||| 2 ^ k = x + 2 ^ k := by
    have := Nat.two_pow_add_eq_or_of_lt hx 1
    rw [Nat.mul_one] at this
    rw [Nat.or_comm, ← this, Nat.add_comm]
  unfold bits
  simp only [show IntKind.u16.bits = 16 from rfl, BitVec.ofInt_natCast, BitVec.toNat_or, BitVec.toNat_ofNat]
  rw [Nat.mod_eq_of_lt (show x < 2 ^ 16 by omega), Nat.mod_eq_of_lt (show 2 ^ k < 2 ^ 16 by omega), hor]
  exact wrap16 (by omega) (by omega)

theorem and16 {y : Nat} (hy : y < 65536) : bits .and .u16 (y : Int) 1 = ((y % 2 : Nat) : Int) := by
  unfold bits
  have h1 : (BitVec.ofInt IntKind.u16.bits 1).toNat = 1 := by decide
  simp only [BitVec.ofInt_natCast, BitVec.toNat_and, BitVec.toNat_ofNat]
  rw [h1, show IntKind.u16.bits = 16 from rfl, Nat.mod_eq_of_lt (show y < 2 ^ 16 by omega), Nat.and_one_is_mod]
  exact wrap16 (by omega) (by omega)

theorem has16 {Z : Nat → Bool} {n j : Nat} (hn : n ≤ 10) : (bits .and .u16 (((bvv Z n : Nat) : Int) / 2 ^ j) 1 == 1) = (decide (j < n) && Z j) := by
  have hlt := bvv_lt Z n
  have hp : 2 ^ n ≤ 2 ^ 10 := Nat.pow_le_pow_right (by omega) hn
  have e1 : (((bvv Z n : Nat) : Int) / 2 ^ j) = ((bvv Z n / 2 ^ j : Nat) : Int) := by simp
  have h2 : bvv Z n / 2 ^ j ≤ bvv Z n := Nat.div_le_self _ _
  rw [e1, and16 (by omega), ← bvv_test Z j n, Nat.testBit_eq_decide_div_mod_eq]
  rcases Nat.mod_two_eq_zero_or_one (bvv Z n / 2 ^ j) with h | h <;> rw [h] <;> rfl

set_option maxHeartbeats 1000000 in
theorem bitsOfList_any (a : Option Addr) (n c : Nat) (Z : Nat → Bool) (w : World) (hS : IsBools w a n Z) (hn : n ≤ 10) :
    Calls Try.prog 66 #[.slice a n c] w fun e w' => w' = w ∧ e = .returned (.int .u16 (bvv Z n : Nat)) := by
  go_enter Try.func66, Try.ntmps66
  go_wp2
  go_loopw [3, 8] (fun v i wr => ∃ k : Nat, k ≤ n ∧ i = .int .i64 k ∧ v = .int .u16 (bvv Z k : Nat) ∧ wr = w) (fun _ i _ => n - (intOf i).toNat)
  case atStart => exact ⟨0, Nat.zero_le _, rfl, rfl, rfl⟩
  case round =>
    obtain ⟨k, hk, rfl, rfl, rfl⟩ := hrel
    by_cases hlt : k < n
    · obtain ⟨b, off, rfl, hlt2, hc⟩ := hS.at hlt
      have g0 := hc k hlt
      have hlti : (k : Int) < (n : Int) := by omega
      clear hc
      cases hz : Z k with
      | false =>
        rw [hz] at g0
        have HE : Hid (bvv Z (k + 1) = bvv Z k) := by show _ = _; rw [bvv, hz]; rfl
        clear hz
        go_wp2
        go_roundw
        case rel => exact ⟨k + 1, by omega, by go_num, by rw [HE.out], trivial⟩
        case measure => simp [intOf]; omega
      | true =>
        rw [hz] at g0
        have HE : Hid (bvv Z (k + 1) = bvv Z k + 2 ^ k) := by show _ = _; rw [bvv, hz]; rfl
        have HS : Hid (IntKind.u16.wrap ((2 : Int) ^ k) = ((2 ^ k : Nat) : Int) ∧ bits .or .u16 ((bvv Z k : Nat) : Int) ((2 ^ k : Nat) : Int) = ((bvv Z k + 2 ^ k : Nat) : Int)) := ⟨shl16 (by omega), or16 (by omega) (bvv_lt Z k)⟩
        clear hz
        go_wp2
        go_roundw
        case rel => exact ⟨k + 1, by omega, by go_num, by rw [HS.out.1, HS.out.2, HE.out], trivial⟩
        case measure => simp [intOf]; omega
    · obtain rfl : k = n := by omega
      go_wp2
      go_ret
      exact ⟨rfl, rfl⟩

set_option maxHeartbeats 1000000 in
theorem has_any (Z : Nat → Bool) (n : Nat) (z : Int) (w : World) (hn : n ≤ 10) (hz : In64 z) :
    Calls Try.prog 53 #[.int .u16 (bvv Z n : Nat), .int .i64 z] w fun e w' => w' = w ∧ e = .returned (.bool (liveIn n Z z)) := by
  unfold In64 at hz
  by_cases h0 : 0 ≤ z
  · by_cases h10 : z < 10
    · obtain ⟨j, rfl⟩ : ∃ j : Nat, z = j := ⟨z.toNat, by omega⟩
      have hb0 : decide ((0 : Int) ≤ (j : Int)) = true := by simp
      have hb1 : decide ((j : Int) < 10) = true := by simp; omega
      have H16 : Hid _ := has16 (Z := Z) (n := n) (j := j) hn
      have HX : Hid ((decide (j < n) && Z j) = liveIn n Z j) := by show _ = _; unfold liveIn; simp
      have hj0 : (0 : Int) ≤ (j : Int) := by omega
      go_enter Try.func53, Try.ntmps53
      go_wp2
      go_ret
      exact ⟨rfl, ret_bool (by rw [← HX.out, ← H16.out])⟩
    · have hb0 : decide ((0 : Int) ≤ z) = true := by simp; omega
      have hb1 : decide (z < 10) = false := by simp; omega
      have HX : Hid (false = liveIn n Z z) := by show _ = _; unfold liveIn; rw [decide_eq_false (show ¬ z < n by omega)]; simp
      go_enter Try.func53, Try.ntmps53
      go_wp2
      go_ret
      exact ⟨rfl, ret_bool HX.out⟩
  · have hb0 : decide ((0 : Int) ≤ z) = false := by simp; omega
    have HX : Hid (false = liveIn n Z z) := by show _ = _; unfold liveIn; rw [decide_eq_false h0]; rfl
    go_enter Try.func53, Try.ntmps53
    go_wp2
    go_ret
    exact ⟨rfl, ret_bool HX.out⟩
end Go.Proofs.Yteoanlkmkmajjaa

/-
  What DumpOk of the program answers.
-/
namespace Go.Proofs.Yteoanlkmkmajjaa
open Go.RowKit
set_option linter.unusedVariables false

theorem kidIn_eq (n : Nat) (Z : Nat → Bool) (z : Int) : kidIn n Z z = (!(z == 0) && liveIn n Z z) := by
  unfold kidIn liveIn
  by_cases h : z = 0
  · subst h; simp
  · by_cases h1 : 1 ≤ z
    · simp [h, h1, show 0 ≤ z by omega]
    · simp [h1, show ¬ 0 ≤ z by omega]

set_option maxHeartbeats 1000000 in
theorem liveKids_any (a : Option Addr) (m c : Nat) (K : Nat → Int) (Z : Nat → Bool) (n : Nat) (w : World) (hS : IsInts w a m K) (hK : ∀ i, i < m → In64 (K i)) (hm : m ≤ maxLen) (hn : n ≤ 10) :
    Calls Try.prog 85 #[.slice a m c, .int .u16 (bvv Z n : Nat)] w fun e w' => w' = w ∧ e = .returned (.bool (kidsIn n Z K m)) := by
  unfold maxLen at hm
  go_enter Try.func85, Try.ntmps85
  go_wp2
  go_loopw [9] (fun i wr => ∃ k : Nat, k ≤ m ∧ i = .int .i64 k ∧ wr = w ∧ kidsIn n Z K k = true) (fun i _ => m - (intOf i).toNat)
  case atStart => exact ⟨0, Nat.zero_le _, rfl, rfl, rfl⟩
  case round =>
    obtain ⟨k, hk, rfl, rfl, heq⟩ := hrel
    have HE : Hid (kidsIn n Z K k = true) := heq
    clear heq
    by_cases hlt : k < m
    · obtain ⟨b, off, rfl, hlt2, hc⟩ := hS.at hlt
      have g0 := hc k hlt
      have hlti : (k : Int) < (m : Int) := by omega
      clear hc
      cases hz : (K k == 0) with
      | true =>
        have HX : Hid (kidsIn n Z K m = false) := kidsIn_bad hlt (by rw [kidIn_eq, hz]; rfl)
        go_wp2_with fail
        go_ret
        exact ⟨rfl, ret_bool HX.out.symm⟩
      | false =>
        have HC : Hid (Calls Try.prog 53 #[.int .u16 (bvv Z n : Nat), .int .i64 (K k)] wr fun e w' => w' = wr ∧ e = .returned (.bool (liveIn n Z (K k)))) := has_any Z n (K k) wr hn (hK k hlt)
        have HZ : Hid ((K k == 0) = false) := hz
        go_wp2_with fail
        refine HC.out.mono ?_
        rintro e w' ⟨rfl, rfl⟩
        cases hl : liveIn n Z (K k) with
        | false =>
          have HX : Hid (kidsIn n Z K m = false) := kidsIn_bad hlt (by rw [kidIn_eq, hl]; simp)
          clear hl HC
          go_wp2
          go_ret
          exact ⟨rfl, ret_bool HX.out.symm⟩
        | true =>
          have HX : Hid (kidIn n Z (K k) = true) := by show _ = _; rw [kidIn_eq, hl, HZ.out]; rfl
          clear hl HC
          go_wp2
          go_roundw
          case rel => exact ⟨k + 1, by omega, by go_num, by trivial, kidsIn_succ HE.out HX.out⟩
          case measure => simp [intOf]; omega
    · obtain rfl : k = m := by omega
      go_wp2
      go_ret
      exact ⟨rfl, ret_bool HE.out.symm⟩

set_option maxHeartbeats 2000000 in
theorem itemOk_any (d : Dp) (o : Int) (x : Nd) (lo : Loc) (w : World) (hI : NdIn w x lo) (hf : x.Fits) (hn : d.ln ≤ 10) (ho : 0 ≤ o) :
    Calls Try.prog 67 #[itV o x lo, .int .u16 (bvv d.live d.ln : Nat)] w fun e w' => Below w.heap.size w w' ∧ e = .returned (.bool (nodeIn d o x)) := by
  unfold itV
  have HEND : Hid (∀ (c0 : Array Value) (t0 : TypeId), Below w.heap.size w (w.alloc (.cells c0 t0))) := fun c0 t0 => (Below.refl _ _).alloc (Nat.le_refl _) _
  by_cases k1 : x.kind = 1
  · have c1 : (x.kind == 1) = true := by simp [k1]
    have H : Hid ((fileIs x && decide (0 < o)) = nodeIn d o x) := by show _ = _; unfold nodeIn; rw [if_pos k1]
    clear k1
    by_cases h0 : o = 0
    · have hb0 : (o != 0) = false := by simp [h0]
      have HX : Hid (false = nodeIn d o x) := by show _ = _; rw [← H.out, decide_eq_false (show ¬ 0 < o by omega)]; simp
      clear h0
      go_enter Try.func67, Try.ntmps67
      go_wp2_with fail
      go_ret
      exact ⟨HEND.out _ _, ret_bool HX.out⟩
    · have hb0 : (o != 0) = true := by simp [h0]
      have HX : Hid (fileIs x = nodeIn d o x) := by show _ = _; rw [← H.out, decide_eq_true (show 0 < o by omega)]; simp
      clear h0
      go_enter Try.func67, Try.ntmps67
      go_wp2_with fail
      refine at_world (F := New1 w _ _) (new1 w _ _) ?_
      rintro W ⟨hp, hb, hs⟩
      refine (implFileOk_any x lo W hf).mono ?_
      rintro e w1 ⟨hb1, rfl⟩
      have HB : Hid (Below w.heap.size w w1) := hb.trans (hb1.mono (by omega))
      clear hp hb hb1
      rw [HX.out]
      go_wp2
      go_ret
      exact ⟨HB.out, rfl⟩
  · have c1 : (x.kind == 1) = false := by simp [k1]
    by_cases k2 : x.kind = 2
    · have c2 : (x.kind == 2) = true := by simp [k2]
      have H : Hid ((dirIs x && kidsIn d.ln d.live x.kids x.kn) = nodeIn d o x) := by show _ = _; unfold nodeIn; rw [if_neg k1, if_pos k2]
      clear k1 k2
      go_enter Try.func67, Try.ntmps67
      go_wp2_with fail
      refine at_world (F := New1 w _ _) (new1 w _ _) ?_
      rintro W ⟨hp, hb, hs⟩
      refine (implDirOk_any x lo W (hI.below (Nat.le_refl _) hb) hf).mono ?_
      rintro e w1 ⟨hb1, rfl⟩
      have p4 : w1.cell? ⟨w.heap.size, 4, none⟩ = some (.slice lo.kA x.kn lo.kc) := (hp.below hb1 (by omega)).cell 4
      have HB : Hid (Below w.heap.size w w1) := hb.trans (hb1.mono (by omega))
      clear hp hb hb1
      cases hd : dirIs x with
      | false =>
        have HX : Hid (false = nodeIn d o x) := by show _ = _; rw [← H.out, hd]; rfl
        clear hd
        go_wp2_with fail
        go_ret
        exact ⟨HB.out, ret_bool HX.out⟩
      | true =>
        have HX : Hid (kidsIn d.ln d.live x.kids x.kn = nodeIn d o x) := by show _ = _; rw [← H.out, hd]; rfl
        clear hd
        go_wp2_with fail
        refine (liveKids_any lo.kA x.kn lo.kc x.kids d.live d.ln w1 (hI.2.below (Nat.le_refl _) HB.out) hf.kids hf.kn hn).mono ?_
        rintro e w2 ⟨rfl, rfl⟩
        rw [HX.out]
        clear p4
        go_wp2
        go_ret
        exact ⟨HB.out, rfl⟩
    · have c2 : (x.kind == 2) = false := by simp [k2]
      have HX : Hid (false = nodeIn d o x) := by show _ = _; unfold nodeIn; rw [if_neg k1, if_neg k2]
      clear k1 k2
      go_enter Try.func67, Try.ntmps67
      go_wp2_with fail
      go_ret
      exact ⟨HEND.out _ _, ret_bool HX.out⟩
end Go.Proofs.Yteoanlkmkmajjaa

/-
  What DumpOk of the program answers.
-/
namespace Go.Proofs.Yteoanlkmkmajjaa
open Go.RowKit
set_option linter.unusedVariables false

/-- The Ino of the place ahead. -/
def lastOf (d : Dp) (k : Nat) : Int := if k = 0 then -1 else d.ino (k - 1)

theorem last_low {d : Dp} {k : Nat} (h : d.ino k ≤ lastOf d k) : stepIn d k = false := by
  unfold lastOf at h
  by_cases hk : k = 0
  · subst hk
    rw [if_pos rfl] at h
    refine step_item (it_dead (x := d.nd 0) ?_).symm
    unfold liveIn
    rw [decide_eq_false (show ¬ 0 ≤ d.ino 0 by omega)]
    rfl
  · rw [if_neg hk] at h
    exact step_low hk h

theorem last_more {d : Dp} {k : Nat} (h : ¬ d.ino k ≤ lastOf d k) (hi : itIn d (d.ino k) (d.nd k) = true) : stepIn d k = true := by
  unfold lastOf at h
  by_cases hk : k = 0
  · subst hk; exact step_zero hi
  · rw [if_neg hk] at h
    exact step_more hi (by omega)

theorem last_succ (d : Dp) (k : Nat) : lastOf d (k + 1) = d.ino k := by unfold lastOf; simp

theorem turnIn_no {z y : Int} (h : z < 1 ∨ y < z) : turnIn z y = false := by
  unfold turnIn
  rcases h with h | h
  · rw [decide_eq_false (show ¬ 1 ≤ z by omega)]; rfl
  · rw [decide_eq_false (show ¬ z ≤ y by omega)]; simp
theorem turnIn_yes {z y : Int} (h : 1 ≤ z) (h' : z ≤ y) : turnIn z y = true := by unfold turnIn; rw [decide_eq_true h, decide_eq_true h']; rfl

/-- What is known within a round: what is kept, and a place that was turned in a variable. -/
structure D2In (w wr : World) (d : Dp) (l : DLoc) (o : Int) (x : Nd) (lo : Loc) (W : World) : Prop where
  d1 : D1In w d l 29 W
  x : Blk W wr.heap.size #[.int .i64 o, .int .i64 x.kind, .string x.text, .slice lo.nA x.nn lo.nc, .slice lo.kA x.kn lo.kc, .int .i64 x.turn] 56

theorem D2In.below {w wr : World} {d : Dp} {l : DLoc} {o : Int} {x : Nd} {lo : Loc} {W W' : World} (h : D2In w wr d l o x lo W) (hb : Below W.heap.size W W') : D2In w wr d l o x lo W' := ⟨h.d1.below hb, h.x.below hb h.x.lt⟩

set_option maxHeartbeats 4000000 in
theorem implDumpOk_any (d : Dp) (l : DLoc) (w : World) (hD : DpIn w d l) (hfd : d.Fits) :
    Calls Try.prog 41 #[dpV d l] w fun e w' => Below w.heap.size w w' ∧ e = .returned (.bool d.ok) := by
  have hln := hfd.ln
  have hm := hfd.m
  unfold maxLen at hln hm
  unfold dpV
  have HEND : Hid (∀ (c0 : Array Value) (t0 : TypeId), Below w.heap.size w (w.alloc (.cells c0 t0))) := fun c0 t0 => (Below.refl _ _).alloc (Nat.le_refl _) _
  by_cases h1 : d.since < 0
  · have hb1 : decide (d.since < 0) = true := by simp; omega
    have HX : Hid (false = d.ok) := head_1 h1
    go_enter Try.func41, Try.ntmps41
    go_wp2_with fail
    go_ret
    exact ⟨HEND.out _ _, ret_bool HX.out⟩
  have hb1 : decide (d.since < 0) = false := by simp; omega
  by_cases h2 : d.date < d.since
  · have hb2 : decide (d.date < d.since) = true := by simp; omega
    have HX : Hid (false = d.ok) := head_2 h2
    go_enter Try.func41, Try.ntmps41
    go_wp2_with fail
    go_ret
    exact ⟨HEND.out _ _, ret_bool HX.out⟩
  have hb2 : decide (d.date < d.since) = false := by simp; omega
  by_cases h3 : d.date < 1 ∨ 1000 < d.date
  · have HX : Hid (false = d.ok) := h3.elim head_3 head_4
    have HT : Hid (turnIn d.date 1000 = false) := turnIn_no h3
    clear h3
    go_enter Try.func41, Try.ntmps41
    go_wp2_with fail
    refine (turnOk_any d.date 1000 _).mono ?_
    rintro e w' ⟨rfl, rfl⟩
    rw [HT.out]
    go_wp2_with fail
    go_ret
    exact ⟨HEND.out _ _, ret_bool HX.out⟩
  have h3a : ¬ d.date < 1 := fun h => h3 (Or.inl h)
  have h3b : ¬ 1000 < d.date := fun h => h3 (Or.inr h)
  have HT : Hid (turnIn d.date 1000 = true) := turnIn_yes (by omega) (by omega)
  clear h3
  by_cases h5 : d.ln < 1
  · have hb5 : decide ((d.ln : Int) < 1) = true := by simp; omega
    have HX : Hid (false = d.ok) := head_5 h5
    clear h5
    go_enter Try.func41, Try.ntmps41
    go_wp2_with fail
    refine (turnOk_any d.date 1000 _).mono ?_
    rintro e w' ⟨rfl, rfl⟩
    rw [HT.out]
    go_wp2_with fail
    go_ret
    exact ⟨HEND.out _ _, ret_bool HX.out⟩
  have hb5 : decide ((d.ln : Int) < 1) = false := by simp; omega
  by_cases h6 : 10 < d.ln
  · have hb6 : decide ((10 : Int) < (d.ln : Int)) = true := by simp; omega
    have HX : Hid (false = d.ok) := head_6 h6
    go_enter Try.func41, Try.ntmps41
    go_wp2_with fail
    refine (turnOk_any d.date 1000 _).mono ?_
    rintro e w' ⟨rfl, rfl⟩
    rw [HT.out]
    go_wp2_with fail
    go_ret
    exact ⟨HEND.out _ _, ret_bool HX.out⟩
  have hb6 : decide ((10 : Int) < (d.ln : Int)) = false := by simp; omega
  have h0n : 0 < d.ln := by omega
  have h0i : (0 : Int) < (d.ln : Int) := by omega
  have h10 : d.ln ≤ 10 := by omega
  obtain ⟨b, off, hA, hlt2, hc⟩ := hD.live.at h0n
  have g0 := hc 0 h0n
  rw [Nat.add_zero] at g0
  have hbne : b ≠ w.heap.size := by omega
  have HLA : Hid (l.lA = some ⟨b, off, none⟩) := hA
  rw [hA]
  clear hc hA
  cases h7 : d.live 0 with
  | false =>
    have HX : Hid (false = d.ok) := head_7 h7
    rw [h7] at g0
    clear h7
    go_enter Try.func41, Try.ntmps41
    go_wp2_with fail
    refine (turnOk_any d.date 1000 _).mono ?_
    rintro e w' ⟨rfl, rfl⟩
    rw [HT.out]
    go_wp2_with fail
    go_ret
    exact ⟨HEND.out _ _, ret_bool HX.out⟩
  | true =>
  have HH : Hid (headIn d = true) := head_yes h1 h2 h3a h3b h5 h6 h7
  rw [h7] at g0
  clear h7
  go_enter Try.func41, Try.ntmps41
  go_wp2_with fail
  refine (turnOk_any d.date 1000 _).mono ?_
  rintro e w' ⟨rfl, rfl⟩
  rw [HT.out]
  go_wp2_with fail
  refine at_world (F := New1 w _ _) (new1 w _ _) ?_
  rintro W ⟨hp, hb, hs⟩
  have hbl := bitsOfList_any l.lA d.ln l.lc d.live W (hD.live.below (Nat.le_refl _) hb) h10
  rw [HLA.out] at hbl
  refine hbl.mono ?_
  rintro e w' ⟨rfl, rfl⟩
  have HW : Hid (D1In w d l 29 w') := ⟨by rw [HLA.out]; exact hp, hb⟩
  have t3 : w'.cell? ⟨w.heap.size, 3, none⟩ = some (.slice l.iA d.m l.ic) := hp.cell 3
  clear hp hb hs hbl
  generalize hbv : (bvv d.live d.ln : Nat) = bv
  have HBV : Hid (bvv d.live d.ln = bv) := hbv
  clear hbv
  go_wp2_with fail
  go_loopw [4, 46] (fun v i wr => ∃ k : Nat, k ≤ d.m ∧ i = .int .i64 k ∧ v = .int .i64 (lastOf d k) ∧ D1In w d l 29 wr ∧ itsIn d k = true) (fun _ i _ => d.m - (intOf i).toNat)
  case atStart => exact ⟨0, Nat.zero_le _, rfl, rfl, HW.out, rfl⟩
  case round =>
    obtain ⟨k, hk, rfl, rfl, hin, heq⟩ := hrel
    have hwl := hin.p.lt
    by_cases hlt : k < d.m
    · obtain ⟨b', off', hA', hlt2', hc'⟩ := (hD.items.below (Nat.le_refl _) hin.bel).at hlt
      obtain ⟨c0, c1, c2, c3, c4, c5, hN⟩ := hc' k hlt
      have hIA : Hid (l.iA = some ⟨b', off', none⟩) := hA'
      have hlti : (k : Int) < (d.m : Int) := by omega
      have hb'ne : b' ≠ wr.heap.size := by omega
      have hwne : w.heap.size ≠ wr.heap.size := by omega
      have HNI : Hid (NdIn wr (d.nd k) (l.L k)) := hN
      have HIN : Hid (D1In w d l 29 wr ∧ itsIn d k = true) := ⟨hin, heq⟩
      have ho := hfd.ino k hlt
      have hW2 : D2In w wr d l (d.ino k) (d.nd k) (l.L k) (wr.alloc (.cells #[.int .i64 (d.ino k), .int .i64 (d.nd k).kind, .string (d.nd k).text, .slice (l.L k).nA (d.nd k).nn (l.L k).nc, .slice (l.L k).kA (d.nd k).kn (l.L k).kc, .int .i64 (d.nd k).turn] 56)) := ⟨hin.below ((Below.refl _ _).alloc (Nat.le_refl _) _), Blk.new wr _ _⟩
      have HW2 : Hid _ := hW2
      have HNI2 : Hid (NdIn (wr.alloc (.cells #[.int .i64 (d.ino k), .int .i64 (d.nd k).kind, .string (d.nd k).text, .slice (l.L k).nA (d.nd k).nn (l.L k).nc, .slice (l.L k).kA (d.nd k).kn (l.L k).kc, .int .i64 (d.nd k).turn] 56)) (d.nd k) (l.L k)) := hN.below (Nat.le_refl _) ((Below.refl _ _).alloc (Nat.le_refl _) _)
      clear hc' hN hin heq hW2
      rw [hA']
      clear hA'
      by_cases hlo : d.ino k ≤ lastOf d k
      · have hb8 : decide (d.ino k ≤ lastOf d k) = true := by simp; omega
        have HX : Hid (false = d.ok) := ok_bad hlt (last_low hlo)
        clear hlo
        go_wp2_with fail
        go_ret
        exact ⟨HW2.out.d1.bel, ret_bool HX.out⟩
      · have hb8 : decide (d.ino k ≤ lastOf d k) = false := by simp; omega
        have HLO : Hid (¬ d.ino k ≤ lastOf d k) := hlo
        clear hlo
        go_wp2_with fail
        refine at_world (F := fun W => D2In w wr d l (d.ino k) (d.nd k) (l.L k) W ∧ NdIn W (d.nd k) (l.L k)) ⟨HW2.out, HNI2.out⟩ ?_
        rintro W ⟨hd2, hni⟩
        have hha := has_any d.live d.ln (d.ino k) W h10 ho
        rw [HBV.out] at hha
        refine hha.mono ?_
        rintro e w2 ⟨rfl, rfl⟩
        have x0 : w2.cell? ⟨wr.heap.size, 0, none⟩ = some (.int .i64 (d.ino k)) := hd2.x.cell 0
        have x1 : w2.cell? ⟨wr.heap.size, 1, none⟩ = some (.int .i64 (d.nd k).kind) := hd2.x.cell 1
        have x2 : w2.cell? ⟨wr.heap.size, 2, none⟩ = some (.string (d.nd k).text) := hd2.x.cell 2
        have x3 : w2.cell? ⟨wr.heap.size, 3, none⟩ = some (.slice (l.L k).nA (d.nd k).nn (l.L k).nc) := hd2.x.cell 3
        have x4 : w2.cell? ⟨wr.heap.size, 4, none⟩ = some (.slice (l.L k).kA (d.nd k).kn (l.L k).kc) := hd2.x.cell 4
        have x5 : w2.cell? ⟨wr.heap.size, 5, none⟩ = some (.int .i64 (d.nd k).turn) := hd2.x.cell 5
        have HD2 : Hid (D2In w wr d l (d.ino k) (d.nd k) (l.L k) w2 ∧ NdIn w2 (d.nd k) (l.L k)) := ⟨hd2, hni⟩
        clear hd2 hni hha HW2 HNI2 c0 c1 c2 c3 c4 c5 HNI
        cases hlv : liveIn d.ln d.live (d.ino k) with
        | false =>
          have HX : Hid (false = d.ok) := ok_bad hlt (step_item (it_dead (x := d.nd k) hlv).symm)
          clear hlv
          go_wp2_with fail
          go_ret
          exact ⟨HD2.out.1.d1.bel, ret_bool HX.out⟩
        | true =>
          have HL : Hid (liveIn d.ln d.live (d.ino k) = true) := hlv
          have ho0 : 0 ≤ d.ino k := by
            unfold liveIn at hlv
            simp at hlv
            exact hlv.1.1
          clear hlv
          go_wp2_with fail
          have hio := itemOk_any d (d.ino k) (d.nd k) (l.L k) w2 HD2.out.2 (hfd.nds k hlt) h10 ho0
          rw [HBV.out] at hio
          refine hio.mono ?_
          rintro e w3 ⟨hb3, rfl⟩
          have hd3 := HD2.out.1.below hb3
          have X0 : w3.cell? ⟨wr.heap.size, 0, none⟩ = some (.int .i64 (d.ino k)) := hd3.x.cell 0
          have X5 : w3.cell? ⟨wr.heap.size, 5, none⟩ = some (.int .i64 (d.nd k).turn) := hd3.x.cell 5
          have T0 : w3.cell? ⟨w.heap.size, 0, none⟩ = some (.int .i64 d.since) := hd3.d1.p.cell 0
          have T1 : w3.cell? ⟨w.heap.size, 1, none⟩ = some (.int .i64 d.date) := hd3.d1.p.cell 1
          have HD3 : Hid (D1In w d l 29 w3) := hd3.d1
          clear hb3 hd3 hio HD2 x0 x1 x2 x3 x4 x5
          cases hnd : nodeIn d (d.ino k) (d.nd k) with
          | false =>
            have HX : Hid (false = d.ok) := ok_bad hlt (step_item (by unfold itIn; rw [hnd]; simp))
            clear hnd
            go_wp2_with fail
            go_ret
            exact ⟨HD3.out.bel, ret_bool HX.out⟩
          | true =>
            have HND : Hid (nodeIn d (d.ino k) (d.nd k) = true) := hnd
            clear hnd
            by_cases h8 : (d.nd k).turn ≤ d.since
            · have hb9 : decide ((d.nd k).turn ≤ d.since) = true := by simp; omega
              have HX : Hid (false = d.ok) := ok_bad hlt (step_item (it_turn (o := d.ino k) (by unfold turnedIn; rw [decide_eq_false (show ¬ d.since < (d.nd k).turn by omega)]; rfl)).symm)
              clear h8
              go_wp2_with fail
              go_ret
              exact ⟨HD3.out.bel, ret_bool HX.out⟩
            · have hb9 : decide ((d.nd k).turn ≤ d.since) = false := by simp; omega
              by_cases h9 : d.date < (d.nd k).turn
              · have hb10 : decide (d.date < (d.nd k).turn) = true := by simp; omega
                have HX : Hid (false = d.ok) := ok_bad hlt (step_item (it_turn (o := d.ino k) (by unfold turnedIn; rw [decide_eq_false (show ¬ (d.nd k).turn ≤ d.date by omega)]; simp)).symm)
                clear h8 h9
                go_wp2_with fail
                go_ret
                exact ⟨HD3.out.bel, ret_bool HX.out⟩
              · have hb10 : decide (d.date < (d.nd k).turn) = false := by simp; omega
                have HI : Hid (itIn d (d.ino k) (d.nd k) = true) := by
                  show _ = _
                  rw [← it_node HL.out (by unfold turnedIn; rw [decide_eq_true (show d.since < (d.nd k).turn by omega), decide_eq_true (show (d.nd k).turn ≤ d.date by omega)]; rfl)]
                  exact HND.out
                have HS : Hid (stepIn d k = true) := last_more (by have := HLO.out; omega) HI.out
                clear h8 h9
                go_wp2_with fail
                go_roundw
                case rel => exact ⟨k + 1, by omega, by go_num, by rw [last_succ], HD3.out, itsIn_succ HIN.out.2 HS.out⟩
                case measure => simp [intOf]; omega
    · obtain rfl : k = d.m := by omega
      have HK : Hid (true = d.ok ∧ Below w.heap.size w wr) := ⟨by unfold Dp.ok; rw [HH.out, heq]; rfl, hin.bel⟩
      clear hin heq
      go_wp2
      go_ret
      exact ⟨HK.out.2, ret_bool HK.out.1⟩
end Go.Proofs.Yteoanlkmkmajjaa

/-
  What is known of the library functions that the program calls, laid at this program.
-/
namespace Go.Proofs.Yteoanlkmkmajjaa
open Go.Shelf
def Try.laysM316_ren : Go.Shelf.Ren := ⟨fun | 316 => 81 | n => n, fun | 9 => 9 | 3 => 3 | 4 => 4 | 37 => 108 | 0 => 0 | 127 => 111 | 5 => 5 | n => n, fun | n => n⟩
theorem Try.laysM316 : Go.Proofs.LaysM.n316 Try.prog Try.laysM316_ren := {
  mixed := by kernel_rfl
  f316 := Try.func81.trans (congrArg some (by kernel_rfl))
  t0 := Try.underlying0
  a0 := Try.isAgg0
  z0 := Try.sizeOf0
  v0 := Try.zeroValue0
  t3 := Try.underlying3
  a3 := Try.isAgg3
  z3 := Try.sizeOf3
  v3 := Try.zeroValue3
  t4 := Try.underlying4
  a4 := Try.isAgg4
  z4 := Try.sizeOf4
  v4 := Try.zeroValue4
  t9 := Try.underlying9
  a9 := Try.isAgg9
  z9 := Try.sizeOf9
  v9 := Try.zeroValue9
  t37 := Try.underlying108
  a37 := Try.isAgg108
  z37 := Try.sizeOf108
  v37 := Try.zeroValue108
  t127 := Try.underlying111
  a127 := Try.isAgg111
  z127 := Try.sizeOf111
  v127 := Try.zeroValue111
  t5 := Try.underlying5
  a5 := Try.isAgg5
  z5 := Try.sizeOf5
  v5 := Try.zeroValue5
  i0 := by kernel_rfl
  i3 := by kernel_rfl
  i4 := by kernel_rfl
  i5 := by kernel_rfl
  i9 := by kernel_rfl
  i37 := by kernel_rfl
  i127 := by kernel_rfl }
open Go.RowKit in
theorem Try.stringslite_Clone (s : ByteArray) (w : World) (hlim : s.size ≤ 281474976710656) :
    Calls Try.prog 81 #[.string s] w fun e w' => e = .returned (.string s) ∧ Below w.heap.size w w' := Any.stringslite_Clone Try.laysM316 s w hlim
end Go.Proofs.Yteoanlkmkmajjaa

/-
  What strings.Clone answers.
-/
namespace Go.Proofs.Yteoanlkmkmajjaa
open Go.RowKit Go.Shelf

set_option maxHeartbeats 400000 in
theorem stringsClone_any (s : ByteArray) (w : World) (hs : s.size ≤ 1048576) :
    Calls Try.prog 55 #[.string s] w fun e w' => e = .returned (.string s) ∧ Below w.heap.size w w' := by
  go_enter Try.func55, Try.ntmps55
  go_wp2_with fail
  refine (Try.stringslite_Clone s _ (by omega)).mono ?_
  rintro e w1 ⟨rfl, hb⟩
  have HB : Hid (Below w.heap.size w w1) := hb
  clear hb
  go_wp2
  go_ret
  exact ⟨rfl, HB.out⟩
end Go.Proofs.Yteoanlkmkmajjaa

/-
  What copyNode of the program answers: a place in new memory.
-/
namespace Go.Proofs.Yteoanlkmkmajjaa
open Go.RowKit Go.Deep
set_option linter.unusedVariables false
set_option linter.unusedSimpArgs false

/-- What is known within copyNode. -/
structure CN (w : World) (d : Nd) (l : Loc) (W : World) : Prop where
  p : Blk W w.heap.size #[.int .i64 d.kind, .string d.text, .slice l.nA d.nn l.nc, .slice l.kA d.kn l.kc, .int .i64 d.turn] 53
  r : Blk W (w.heap.size + 1) #[.int .i64 0, .string ByteArray.empty, .slice none 0 0, .slice none 0 0, .int .i64 0] 53
  bel : Below w.heap.size w W

theorem CN.below {w : World} {d : Nd} {l : Loc} {W W' : World} (h : CN w d l W) (hb : Below W.heap.size W W') : CN w d l W' := ⟨h.p.below hb h.p.lt, h.r.below hb h.r.lt, h.bel.trans (hb.mono (by have := h.p.lt; omega))⟩

theorem CN.grown {w : World} {d : Nd} {l : Loc} {W W' : World} {r : Option Nat} (h : CN w d l W) (hg : W.grownBy W' r) (hr : ∀ b, r = some b → w.heap.size + 2 ≤ b) : CN w d l W' := by
  have hp := h.p.lt
  exact ⟨h.p.of_block (hg.block _ h.p.lt (fun e => by have := hr _ e.symm; omega)), h.r.of_block (hg.block _ h.r.lt (fun e => by have := hr _ e.symm; omega)), h.bel.grown hg (by omega) (fun b e => by have := hr b e; omega)⟩

theorem src_text (W : World) (s : ByteArray) : Src (W.alloc (.cells #[.string s] 9)) 1 (.slice (some ⟨W.heap.size, 0, none⟩) 1 1) 1 [.string s] :=
  ⟨rfl, by intro u hu; simp at hu; subst hu; rfl, Or.inr ⟨⟨W.heap.size, 0, none⟩, 1, rfl, fun j u hu => by
    rw [addr_add, Nat.zero_add, (Blk.new W #[.string s] 9).cell j]
    simpa using hu⟩⟩

theorem lst_more (n : Nat) (S : Nat → ByteArray) : strv (lst (n + 1) S) = strv (lst n S) ++ [.string (S n)] := by simp [strv, lst, List.range_succ]

set_option maxHeartbeats 4000000 in
theorem copyNode_any (d : Nd) (l : Loc) (w : World) (hI : NdIn w d l) (hnn : d.nn ≤ 1048576) (hkn : d.kn ≤ 1048576) (htx : d.text.size ≤ 1048576) (hnm : ∀ i, i < d.nn → (d.names i).size ≤ 1048576) :
    Calls Try.prog 26 #[ndV d l] w fun e w' => ∃ l', e = .returned (ndV d l') ∧ NewNn w d l' w' := by
  obtain ⟨i0, hi, hz0, hz1, hz2⟩ := info_parts infoStr
  obtain ⟨j0, hj, hy0, hy1, hy2⟩ := info_parts infoInt
  unfold ndV
  go_enter Try.func26, Try.ntmps26
  go_wp2_with fail
  go_loopw [3, 10] (fun v i wr => ∃ (k : Nat) (na : Option Addr) (nc : Nat), k ≤ d.nn ∧ i = .int .i64 k ∧ v = .slice na k nc ∧ CN w d l wr ∧ wr.ownsRow (w.heap.size + 2) 9 1 (.slice na k nc) k (strv (lst k d.names))) (fun _ i _ => d.nn - (intOf i).toNat)
  case atStart =>
    have h := new2 w #[.int .i64 d.kind, .string d.text, .slice l.nA d.nn l.nc, .slice l.kA d.kn l.kc, .int .i64 d.turn] 53 #[.int .i64 0, .string ByteArray.empty, .slice none 0 0, .slice none 0 0, .int .i64 0] 53
    exact ⟨0, none, 0, Nat.zero_le _, rfl, rfl, ⟨h.b0, h.b1, h.bel⟩, World.ownsRow_nil _ _ _ _⟩
  case round =>
    obtain ⟨k, na, nc, hk, rfl, rfl, hin, hown⟩ := hrel
    have HIN : Hid (CN w d l wr) := hin
    have HOW : Hid (wr.ownsRow (w.heap.size + 2) 9 1 (.slice na k nc) k (strv (lst k d.names))) := hown
    have hwl := hin.r.lt
    clear hin hown
    by_cases hlt : k < d.nn
    · obtain ⟨b, off, hA, hlt2, hc⟩ := (hI.1.below (Nat.le_refl _) HIN.out.bel).at hlt
      have g0 := hc k hlt
      have hlti : (k : Int) < (d.nn : Int) := by omega
      have HA : Hid (l.nA = some ⟨b, off, none⟩) := hA
      rw [hA]
      clear hc hA
      go_wp2_with fail
      refine (stringsClone_any (d.names k) wr (hnm k hlt)).mono ?_
      rintro e W1 ⟨rfl, hb1⟩
      have hC1 := HIN.out.below hb1
      have hO1 := owns_same HOW.out (w' := W1) (fun b hb => hb1.block b (owns_block HOW.out hb).2)
      have hsz1 := hb1.size
      have HC1 : Hid (CN w d l (W1.alloc (.cells #[.string (d.names k)] 9)) ∧ (W1.alloc (.cells #[.string (d.names k)] 9)).ownsRow (w.heap.size + 2) 9 1 (.slice na k nc) k (strv (lst k d.names))) := ⟨hC1.below ((Below.refl _ _).alloc (Nat.le_refl _) _), hO1.alloc _⟩
      clear hb1 hC1 hO1
      go_wp2_with (at_builtin; go_must (refine wpList_append_src (by rfl) _ _ 50 rfl (w.heap.size + 2) 9 i0 (.string ByteArray.empty) 1 16 Try.underlying50 hi hz0 hz1 hz2 rfl (by decide) (.slice na k nc) k _ (by rfl) HC1.out.2 _ 1 _ (by rfl) (src_text W1 (d.names k)) (by unfold maxLen; omega) (by omega) (by simp; omega) ?_))
      intro vL W3 hown hgrow hnil hat
      rcases hown.2 with ⟨_, h0⟩ | ⟨gL, cL, cur, hvL, _, _, _⟩
      · omega
      subst hvL
      have HR : Hid (CN w d l W3 ∧ W3.ownsRow (w.heap.size + 2) 9 1 (.slice (some ⟨gL, 0, none⟩) (k + 1) cL) (k + 1) (strv (lst (k + 1) d.names))) := ⟨HC1.out.1.grown hgrow (fun b e => (owns_block HC1.out.2 e).1), by rw [lst_more]; exact hown⟩
      clear hown hgrow hnil hat HC1
      go_wp2_with fail
      go_roundw
      case rel => exact ⟨k + 1, some ⟨gL, 0, none⟩, cL, by omega, by go_num, by go_num, HR.out.1, HR.out.2⟩
      case measure => simp [intOf]; omega
    · obtain rfl : k = d.nn := by omega
      have p3 : wr.cell? ⟨w.heap.size, 3, none⟩ = some (.slice l.kA d.kn l.kc) := HIN.out.p.cell 3
      have HSk : Hid (Src wr 1 (.slice l.kA d.kn l.kc) d.kn (intv0 d.kn d.kids)) := (hI.2.below (Nat.le_refl _) HIN.out.bel).src _
      go_wp2_with (at_builtin; go_must (refine wpList_append_src (by rfl) _ _ 51 rfl (wr.heap.size) 3 j0 (.int .i64 0) 1 8 Try.underlying51 hj hy0 hy1 hy2 rfl (by decide) (.slice none 0 0) 0 [] (by rfl) (World.ownsRow_nil _ _ _ _) _ d.kn _ (by rfl) HSk.out (by unfold maxLen; omega) (by omega) (Nat.le_refl _) ?_))
      intro vK W4 hown hgrow hnil hat
      obtain ⟨ka, kc, rfl, hown'⟩ : ∃ ka kc, vK = .slice ka d.kn kc ∧ W4.ownsRow wr.heap.size 3 1 (.slice ka d.kn kc) d.kn (intv0 d.kn d.kids) := by
        try rw [Nat.zero_add, List.nil_append] at hown
        rcases hown.2 with ⟨hv, h0⟩ | ⟨g, cap, cur, hv, _⟩
        · exact ⟨none, 0, by rw [hv, h0], by rw [hv, h0] at hown; rw [h0]; exact hown⟩
        · exact ⟨some ⟨g, 0, none⟩, cap, hv, by rw [hv] at hown; exact hown⟩
      have HC4 : Hid (CN w d l W4) := HIN.out.grown hgrow (fun b e => by simp [Value.ownBlock] at e)
      have HN4 : Hid (W4.ownsRow (w.heap.size + 2) 9 1 (.slice na d.nn nc) d.nn (strv (lst d.nn d.names)) ∧ W4.ownsRow (w.heap.size + 2) 3 1 (.slice ka d.kn kc) d.kn (intv0 d.kn d.kids)) := ⟨owns_kept HOW.out hgrow (fun b _ e => by simp [Value.ownBlock] at e), owns_lower hown' (by omega)⟩
      have HAP : Hid (∀ b, (Value.slice na d.nn nc).ownBlock = some b → (Value.slice ka d.kn kc).ownBlock ≠ some b) := fun b h1 h2 => by
        have a1 := (owns_block HOW.out h1).2
        have a2 := (owns_block hown' h2).1
        omega
      have hwl4 := HC4.out.r.lt
      have HSt : Hid (∀ W, Below W4.heap.size W4 W → W.cell? ⟨w.heap.size, 0, none⟩ = some (.int .i64 d.kind) ∧ W.cell? ⟨w.heap.size, 1, none⟩ = some (.string d.text) ∧ W.cell? ⟨w.heap.size, 4, none⟩ = some (.int .i64 d.turn)) := fun W hW => ⟨(HC4.out.below hW).p.cell 0, (HC4.out.below hW).p.cell 1, (HC4.out.below hW).p.cell 4⟩
      clear hown hown' hgrow hnil hat HSk p3 HOW HIN hwl
      go_wp2_with fail
      refine wp_region_noPanic ?_
      refine wp_region_peel (fun W' => W'.cell? ⟨w.heap.size, 0, none⟩ = some (.int .i64 d.kind) ∧ W'.cell? ⟨w.heap.size, 1, none⟩ = some (.string d.text) ∧ W'.cell? ⟨w.heap.size, 4, none⟩ = some (.int .i64 d.turn)) _ (by kernel_rfl) rfl (by kernel_rfl) ?_ (fun hHeld => ?_)
      · exact HSt.out _ (below_drewN (Below.refl _ _) 1)
      simp only [List.pop_toArray, List.dropLast, List.size_toArray, List.length_cons, List.length_nil, Nat.reduceAdd, Nat.reduceSub, List.getElem_toArray, List.getElem_cons_succ, List.getElem_cons_zero]
      refine peel_take (i := 0) (oi := ?oi0) (v := ?v0) (fun _ _ _ _ _ h => h) hHeld ?hi0 (by kernel_rfl) (by kernel_rfl) (by kernel_rfl) ?hw0 ?hy0 ?rest0
      case hi0 =>
        simp only [List.getElem?_toArray, List.getElem?_cons_zero]
        rfl
      case hw0 => rfl
      case hy0 =>
        intro w hSw
        obtain ⟨s0, s1, s2⟩ := hSw
        go_simp
        try with_reducible rfl
      try simp only [Act.put, List.setIfInBounds_toArray, List.set_cons_zero, List.set_cons_succ]
      refine peel_take (i := 1) (oi := ?oi1) (v := ?v1) (fun _ _ _ _ _ h => h) hHeld ?hi1 (by kernel_rfl) (by kernel_rfl) (by kernel_rfl) ?hw1 ?hy1 ?rest1
      case hi1 =>
        simp only [List.getElem?_toArray, List.getElem?_cons_succ, List.getElem?_cons_zero]
        rfl
      case hw1 => rfl
      case hy1 =>
        intro w hSw
        obtain ⟨s0, s1, s2⟩ := hSw
        go_simp
        try with_reducible rfl
      try simp only [Act.put, List.setIfInBounds_toArray, List.set_cons_zero, List.set_cons_succ]
      refine peel_take (i := 2) (oi := ?oi2) (v := ?v2) (fun _ _ _ _ _ h => h) hHeld ?hi2 (by kernel_rfl) (by kernel_rfl) (by kernel_rfl) ?hw2 ?hy2 ?rest2
      case hi2 =>
        simp only [List.getElem?_toArray, List.getElem?_cons_succ, List.getElem?_cons_zero]
        rfl
      case hw2 => rfl
      case hy2 =>
        intro w hSw
        obtain ⟨s0, s1, s2⟩ := hSw
        go_simp
        try with_reducible rfl
      try simp only [Act.put, List.setIfInBounds_toArray, List.set_cons_zero, List.set_cons_succ]
      refine peel_take (i := 3) (oi := ?oi3) (v := ?v3) (fun _ _ _ _ _ h => h) hHeld ?hi3 (by kernel_rfl) (by kernel_rfl) (by kernel_rfl) ?hw3 ?hy3 ?rest3
      case hi3 =>
        simp only [List.getElem?_toArray, List.getElem?_cons_succ, List.getElem?_cons_zero]
        rfl
      case hw3 => rfl
      case hy3 =>
        intro w hSw
        obtain ⟨s0, s1, s2⟩ := hSw
        go_simp
        try with_reducible rfl
      try simp only [Act.put, List.setIfInBounds_toArray, List.set_cons_zero, List.set_cons_succ]
      refine peel_take (i := 5) (oi := ?oi5) (v := ?v5) (fun _ _ _ _ _ h => h) hHeld ?hi5 (by kernel_rfl) (by kernel_rfl) (by kernel_rfl) ?hw5 ?hy5 ?rest5
      case hi5 =>
        simp only [List.getElem?_toArray, List.getElem?_cons_succ, List.getElem?_cons_zero]
        rfl
      case hw5 => rfl
      case hy5 =>
        intro w hSw
        obtain ⟨s0, s1, s2⟩ := hSw
        go_simp
        try with_reducible rfl
      try simp only [Act.put, List.setIfInBounds_toArray, List.set_cons_zero, List.set_cons_succ]
      refine peel_take (i := 6) (oi := ?oi6) (v := ?v6) (fun _ _ _ _ _ h => h) hHeld ?hi6 (by kernel_rfl) (by kernel_rfl) (by kernel_rfl) ?hw6 ?hy6 ?rest6
      case hi6 =>
        simp only [List.getElem?_toArray, List.getElem?_cons_succ, List.getElem?_cons_zero]
        rfl
      case hw6 => rfl
      case hy6 =>
        intro w hSw
        obtain ⟨s0, s1, s2⟩ := hSw
        go_simp
        try with_reducible rfl
      try simp only [Act.put, List.setIfInBounds_toArray, List.set_cons_zero, List.set_cons_succ]
      refine peel_take (i := 7) (oi := ?oi7) (v := ?v7) (fun _ _ _ _ _ h => h) hHeld ?hi7 (by kernel_rfl) (by kernel_rfl) (by kernel_rfl) ?hw7 ?hy7 ?rest7
      case hi7 =>
        simp only [List.getElem?_toArray, List.getElem?_cons_succ, List.getElem?_cons_zero]
        rfl
      case hw7 => rfl
      case hy7 =>
        intro w hSw
        obtain ⟨s0, s1, s2⟩ := hSw
        go_simp
        try with_reducible rfl
      try simp only [Act.put, List.setIfInBounds_toArray, List.set_cons_zero, List.set_cons_succ]
      refine peel_take (i := 8) (oi := ?oi8) (v := ?v8) (fun _ _ _ _ _ h => h) hHeld ?hi8 (by kernel_rfl) (by kernel_rfl) (by kernel_rfl) ?hw8 ?hy8 ?rest8
      case hi8 =>
        simp only [List.getElem?_toArray, List.getElem?_cons_succ, List.getElem?_cons_zero]
        rfl
      case hw8 => rfl
      case hy8 =>
        intro w hSw
        obtain ⟨s0, s1, s2⟩ := hSw
        go_simp
        try with_reducible rfl
      try simp only [Act.put, List.setIfInBounds_toArray, List.set_cons_zero, List.set_cons_succ]
      refine wpAnyH_ready (rs := [4]) (by kernel_rfl) (by simp) ?_
      refine AllReadyH.cons (o := ?o4) ?ho4 (fun K hK => ?st4) AllReadyH.nil
      case ho4 =>
        simp only [List.getElem?_toArray, List.getElem?_cons_succ, List.getElem?_cons_zero]
        rfl
      go_simp
      refine (stringsClone_any d.text W4.drew htx).mono ?_
      rintro e W5 ⟨rfl, hb5⟩
      have hb5' : Below W4.heap.size W4 W5 := (below_drewN (Below.refl _ _) 1).trans hb5
      refine hK.out _ _ (HSt.out W5 hb5') (fun hHeld => ?re4)
      clear hK K
      try simp only [Act.put, List.setIfInBounds_toArray, List.set_cons_zero, List.set_cons_succ]
      refine wpAnyH_ready (rs := [9]) (by kernel_rfl) (by simp) ?_
      refine AllReadyH.cons (o := ?o9) ?ho9 (fun K hK => ?st9) AllReadyH.nil
      case ho9 =>
        simp only [List.getElem?_toArray, List.getElem?_cons_succ, List.getElem?_cons_zero]
        rfl
      go_simp
      refine hK.out _ _ (HSt.out W5 hb5') (fun hHeld => ?re9)
      clear hK K
      try simp only [Act.put, List.setIfInBounds_toArray, List.set_cons_zero, List.set_cons_succ]
      refine wpAnyH_done (by kernel_rfl) ?_ _
      show Oper.wp _ _ _ _ _ _
      have hC5 := HC4.out.below hb5'
      have r0 : W5.cell? ⟨w.heap.size + 1, 0, none⟩ = some (.int .i64 0) := hC5.r.cell 0
      have r1 : W5.cell? ⟨w.heap.size + 1, 1, none⟩ = some (.string ByteArray.empty) := hC5.r.cell 1
      have r2 : W5.cell? ⟨w.heap.size + 1, 2, none⟩ = some (.slice none 0 0) := hC5.r.cell 2
      have r3 : W5.cell? ⟨w.heap.size + 1, 3, none⟩ = some (.slice none 0 0) := hC5.r.cell 3
      have r4 : W5.cell? ⟨w.heap.size + 1, 4, none⟩ = some (.int .i64 0) := hC5.r.cell 4
      have g0 := hC5.r.frozen 0
      have g1 := hC5.r.frozen 1
      have g2 := hC5.r.frozen 2
      have g3 := hC5.r.frozen 3
      have g4 := hC5.r.frozen 4
      have HC5 : Hid (CN w d l W5 ∧ W5.ownsRow (w.heap.size + 2) 9 1 (.slice na d.nn nc) d.nn (strv (lst d.nn d.names)) ∧ W5.ownsRow (w.heap.size + 2) 3 1 (.slice ka d.kn kc) d.kn (intv0 d.kn d.kids)) := ⟨hC5, owns_same HN4.out.1 (fun b hb => hb5'.block b (owns_block HN4.out.1 hb).2), owns_same HN4.out.2 (fun b hb => hb5'.block b (owns_block HN4.out.2 hb).2)⟩
      clear hC5 hb5 hb5' HSt hHeld HC4 HN4
      go_simp
      refine NoPanic.normal ?_
      go_wp2_with fail
      refine end_world (F := fun W => Blk W (w.heap.size + 1) #[.int .i64 d.kind, .string d.text, .slice na d.nn nc, .slice ka d.kn kc, .int .i64 d.turn] 53 ∧ NewNn w d ⟨na, nc, ka, kc⟩ W) ?_ ?_
      · obtain ⟨hc, h1, h2⟩ := HC5.out
        refine ⟨((((hc.r.set 0 _).set 1 _).set 2 _).set 3 _).set 4 _, bel_put (bel_put (bel_put (bel_put (bel_put hc.bel _ (by omega)) _ (by omega)) _ (by omega)) _ (by omega)) _ (by omega), ?_, ?_, HAP.out⟩
        · refine owns_lower (owns_same h1 fun b hb => ?_) (by omega)
          have := (owns_block h1 hb).1
          have hne : b ≠ w.heap.size + 1 := by omega
          exact ((((blk_setCell_other _ _ _ _ hne).trans (blk_setCell_other _ _ _ _ hne)).trans (blk_setCell_other _ _ _ _ hne)).trans (blk_setCell_other _ _ _ _ hne)).trans (blk_setCell_other _ _ _ _ hne)
        · refine owns_lower (owns_same h2 fun b hb => ?_) (by omega)
          have := (owns_block h2 hb).1
          have hne : b ≠ w.heap.size + 1 := by omega
          exact ((((blk_setCell_other _ _ _ _ hne).trans (blk_setCell_other _ _ _ _ hne)).trans (blk_setCell_other _ _ _ _ hne)).trans (blk_setCell_other _ _ _ _ hne)).trans (blk_setCell_other _ _ _ _ hne)
      clear HC5 r0 r1 r2 r3 r4 g0 g1 g2 g3 g4
      rintro W ⟨hr, hN⟩
      have r0 : W.cell? ⟨w.heap.size + 1, 0, none⟩ = some (.int .i64 d.kind) := hr.cell 0
      have r1 : W.cell? ⟨w.heap.size + 1, 1, none⟩ = some (.string d.text) := hr.cell 1
      have r2 : W.cell? ⟨w.heap.size + 1, 2, none⟩ = some (.slice na d.nn nc) := hr.cell 2
      have r3 : W.cell? ⟨w.heap.size + 1, 3, none⟩ = some (.slice ka d.kn kc) := hr.cell 3
      have r4 : W.cell? ⟨w.heap.size + 1, 4, none⟩ = some (.int .i64 d.turn) := hr.cell 4
      exact bodyPost_ret (v := .agg #[.int .i64 d.kind, .string d.text, .slice na d.nn nc, .slice ka d.kn kc, .int .i64 d.turn]) (by simp [results, Try.results26, go_sem, r0, r1, r2, r3, r4]) rfl ⟨⟨na, nc, ka, kc⟩, rfl, hN⟩
end Go.Proofs.Yteoanlkmkmajjaa

/-
  What BackThen of the program answers.
-/
namespace Go.Proofs.Yteoanlkmkmajjaa
open Go.RowKit Go.Maps Go.WideMaps Go.Deep
set_option linter.unusedVariables false
set_option linter.unusedSimpArgs false
set_option linter.unnecessarySimpa false

theorem zeroNodeV (w : World) : (zeroValue 53).run Try.prog w = .ok (.agg #[.int .i64 0, .string ByteArray.empty, .slice none 0 0, .slice none 0 0, .int .i64 0]) w := by kernel_rfl

theorem run_makeMapN (w : World) : (Instr.makeMap 75 none).run Try.prog w = .ok (.map (some w.heap.size)) (w.alloc (.map #[] 0)) := by
  simp [Instr.makeMap, run_underlying Try.underlying75, Result.andThen]

theorem Th.grown {w : World} {a b : Dp} {la lb : DLoc} {W W' : World} (h : Th w a b la lb W) {q : Nat} (hg : W.grownBy W' (some q)) (hq : w.heap.size + 1 + 1 < q) : Th w a b la lb W' :=
  ⟨blk_grown h.p hg (fun e => by have := Option.some.inj e; omega), blk_grown h.q hg (fun e => by have := Option.some.inj e; omega), blk_grown h.r hg (fun e => by have := Option.some.inj e; omega), h.bel.grown hg h.bel.size (fun k e => by have := Option.some.inj e; omega)⟩

def ThY (w : World) (bm j : Nat) : Prop := ThX w j ∨ j = bm

theorem Th.of2 {w W0 : World} {a b : Dp} {la lb : DLoc} (h : Th w a b la lb W0) {bm B : Nat} {since date : Int} {n : Nat} {Z : Nat → Bool} {V : Nat} {lA : Option Addr} {lc m : Nat} {ia : Option Addr} {ic : Nat} {O : Nat → Int} {E : Nat → Nd} {M : Nat → Loc} {W : World} (g : GOf w W0 B (ThY w bm) since date n Z V lA lc m ia ic O E M W) : Th w a b la lb W :=
  ⟨h.p.of_block (g.kept _ (Or.inl (Or.inl rfl))), h.q.of_block (g.kept _ (Or.inl (Or.inr (Or.inl rfl)))), h.r.of_block (g.kept _ (Or.inl (Or.inr (Or.inr rfl)))), g.bel⟩

theorem map_block {P : Program} {k : TypeId} {R : Value → Option (DataW Value × List MemPlace)} {w W : World} {b n : Nat} {D : DataW Value} (h : w.ownsMap P k R b n D) (e : W.heap[b]? = w.heap[b]?) : W.ownsMap P k R b n D := by
  obtain ⟨es, clock, hb, F, hs, hD⟩ := h
  exact ⟨es, clock, e.trans hb, F, hs, hD⟩

/-- What a look into the map tells. -/
theorem then_look {a b : Dp} {la lb : DLoc} {w W : World} (hA : DpIn w a la) (hB : DpIn w b lb) (hsa : a.size ≤ 1048576) (hsb : b.size ≤ 1048576) (hbo : b.ok = true) {bm n : Nat} {M : DataW Value} (hown : W.ownsMap Try.prog 3 heldR bm n M)
    (hK : Knows M (learn (learn (fun _ => none) a.ino a.nd la.L a.m) b.ino b.nd lb.L b.m)) {k : Nat} (hk : k < 1000) :
    ∃ (x : Nd) (l : Loc) (th : Bool), (Instr.lookup 75 (.map (some bm)) (.int .i64 (k : Int)) true).run Try.prog W = .ok (.tuple #[.agg #[.int .i64 x.kind, .string x.text, .slice l.nA x.nn l.nc, .slice l.kA x.kn l.kc, .int .i64 x.turn], .bool th]) W ∧
      ((th = false ∧ thenNd a b (k : Int) = none) ∨ (th = true ∧ (∀ W', Below w.heap.size w W' → NdIn W' x l) ∧ (x.nn ≤ 1048576 ∧ x.kn ≤ 1048576 ∧ x.text.size ≤ 1048576 ∧ ∀ j, j < x.nn → (x.names j).size ≤ 1048576) ∧ thenNd a b (k : Int) = if b.live k then some x else none)) := by
  have hkey : keyOf Try.prog 3 (.int .i64 (k : Int)) = some (.int .i64 (k : Int)) := keyOf_int_mk Try.underlying3 (WalkArith.wf_i64 (by omega))
  obtain ⟨v, ps, hrun, hv⟩ := hown.look_ok (int_keyed Try.underlying3) Try.underlying75 (zeroNodeV W) (zd := .held (.agg #[.int .i64 0, .string ByteArray.empty, .slice none 0 0, .slice none 0 0, .int .i64 0])) (zp := []) rfl hkey
  rw [hK.has] at hrun
  have hlx := learn_ix (learn (fun _ => none) a.ino a.nd la.L a.m) b.ino b.nd lb.L (k : Int) b.m
  have hly := learn_ix (fun _ => none) a.ino a.nd la.L (k : Int) a.m
  have hval : ∀ u, learn (learn (fun _ => none) a.ino a.nd la.L a.m) b.ino b.nd lb.L b.m (k : Int) = some u → v = u := fun u hu => by
    rw [hK.at_ _ _ hu] at hv
    unfold heldR at hv
    cases hv
    rfl
  cases hob : ixOf b.ino b.m (k : Int) with
  | some j =>
    rw [hob] at hlx
    obtain rfl := hval _ hlx
    rw [hlx] at hrun
    have hj := ixOf_some hob
    have hlv : b.live k = true := by have := (ok_live hbo hj.1).2.2; rw [hj.2] at this; exact this
    refine ⟨b.nd j, lb.L j, true, hrun, Or.inr ⟨rfl, fun W' hW => ?_, dp_of_small hsb j hj.1, by unfold thenNd; rw [hob]; simp [hlv]⟩⟩
    obtain ⟨_, _, _, _, hc⟩ := (hB.items.below (Nat.le_refl _) hW).at hj.1
    exact (hc j hj.1).2.2.2.2.2.2
  | none =>
    rw [hob] at hlx
    cases hoa : ixOf a.ino a.m (k : Int) with
    | some j =>
      rw [hoa] at hly
      rw [hly] at hlx
      obtain rfl := hval _ hlx
      rw [hlx] at hrun
      have hj := ixOf_some hoa
      refine ⟨a.nd j, la.L j, true, hrun, Or.inr ⟨rfl, fun W' hW => ?_, dp_of_small hsa j hj.1, by unfold thenNd; rw [hob, hoa]; simp⟩⟩
      obtain ⟨_, _, _, _, hc⟩ := (hA.items.below (Nat.le_refl _) hW).at hj.1
      exact (hc j hj.1).2.2.2.2.2.2
    | none =>
      rw [hoa] at hly
      rw [hly] at hlx
      rw [hlx] at hrun
      have hno := hK.has (k : Int)
      rw [hlx] at hno
      rw [atKey_of_not_has hno] at hv
      unfold heldR at hv
      cases hv
      exact ⟨⟨0, ByteArray.empty, 0, fun _ => ByteArray.empty, 0, fun _ => 0, 0⟩, ⟨none, 0, none, 0⟩, false, hrun, Or.inl ⟨rfl, by unfold thenNd; rw [hob, hoa]; simp⟩⟩

set_option maxRecDepth 100000 in
set_option maxHeartbeats 8000000 in
theorem implBackThen_any (a b : Dp) (la lb : DLoc) (w : World) (hA : DpIn w a la) (hB : DpIn w b lb) (hfa : a.Fits) (hfb : b.Fits) (hsa : a.size ≤ 1048576) (hsb : b.size ≤ 1048576) :
    Calls Try.prog 17 #[dpV a la, dpV b lb] w (ThenPost w a b) := by
  unfold dpV
  obtain ⟨q0, hq, hq0, hq1, hq2⟩ := info_parts infoBool
  obtain ⟨y0, hy, hy0, hy1, hy2⟩ := info_parts infoItem
  have hmk := run_makeMapN
  go_enter Try.func17, Try.ntmps17
  go_wp2_with fail
  refine at_world (F := New3 w _ _ _ _ _ _) (new3 w _ _ _ _ _ _) ?_
  rintro W ⟨hp, hp', hr, hb, hs⟩
  have hT : Th w a b la lb W := ⟨hp, hp', hr, hb⟩
  clear hp hp' hr hb hs
  refine (implDumpOk_any a la W (hA.below (Nat.le_refl _) hT.bel) hfa).mono ?_
  rintro e w1 ⟨hb1, rfl⟩
  have hT1 := hT.below hb1
  clear hT hb1
  have HNO : Hid (∀ W', Th w a b la lb W' → thenOk a b = false → ∀ U, U = ((((W'.setCell ⟨w.heap.size + 1 + 1, 0, none⟩ (.int .i64 0)).setCell ⟨w.heap.size + 1 + 1, 1, none⟩ (.int .i64 0)).setCell ⟨w.heap.size + 1 + 1, 2, none⟩ (.slice none 0 0)).setCell ⟨w.heap.size + 1 + 1, 3, none⟩ (.slice none 0 0)) → Blk U (w.heap.size + 1 + 1) #[.int .i64 0, .int .i64 0, .slice none 0 0, .slice none 0 0] 29 ∧ ThenPost w a b (.returned (.tuple #[.agg #[.int .i64 0, .int .i64 0, .slice none 0 0, .slice none 0 0], .bool false])) U) := fun W' h hno U e => by
    rw [e]
    exact ⟨h.no.1, h.no.2, Or.inl ⟨hno, rfl⟩⟩
  obtain ⟨⟨p0, p1, p2, p3⟩, ⟨s0, s1, s2, s3⟩, ⟨r0, r1, r2, r3⟩⟩ := hT1.cells
  have g0 := hT1.r.frozen 0
  have g1 := hT1.r.frozen 1
  have g2 := hT1.r.frozen 2
  have g3 := hT1.r.frozen 3
  have H1 : Hid (Th w a b la lb w1) := hT1
  clear hT1
  cases hao : a.ok with
  | false =>
    have HE : Hid _ := HNO.out w1 H1.out (thenOk_a hao) _ rfl
    clear HNO hao
    go_wp2_with fail
    refine end_world (F := fun U => Blk U (w.heap.size + 1 + 1) #[.int .i64 0, .int .i64 0, .slice none 0 0, .slice none 0 0] 29 ∧ ThenPost w a b (.returned (.tuple #[.agg #[.int .i64 0, .int .i64 0, .slice none 0 0, .slice none 0 0], .bool false])) U) HE.out ?_
    rintro U ⟨hr, hpost⟩
    have z0 : U.cell? ⟨w.heap.size + 1 + 1, 0, none⟩ = some (.int .i64 0) := hr.cell 0
    have z1 : U.cell? ⟨w.heap.size + 1 + 1, 1, none⟩ = some (.int .i64 0) := hr.cell 1
    have z2 : U.cell? ⟨w.heap.size + 1 + 1, 2, none⟩ = some (.slice none 0 0) := hr.cell 2
    have z3 : U.cell? ⟨w.heap.size + 1 + 1, 3, none⟩ = some (.slice none 0 0) := hr.cell 3
    exact bodyPost_ret (v := .tuple #[.agg #[.int .i64 0, .int .i64 0, .slice none 0 0, .slice none 0 0], .bool false]) (by simp [results, Try.results17, go_sem, z0, z1, z2, z3]) rfl hpost
  | true =>
    go_wp2_with fail
    refine (implDumpOk_any b lb w1 (hB.below (Nat.le_refl _) H1.out.bel) hfb).mono ?_
    rintro e w2 ⟨hb2, rfl⟩
    have hT2 := H1.out.below hb2
    have H2 : Hid (Th w a b la lb w2) := hT2
    clear p0 p1 p2 p3 s0 s1 s2 s3 r0 r1 r2 r3 g0 g1 g2 g3 H1 hb2
    obtain ⟨⟨p0, p1, p2, p3⟩, ⟨s0, s1, s2, s3⟩, ⟨r0, r1, r2, r3⟩⟩ := hT2.cells
    have g0 := hT2.r.frozen 0
    have g1 := hT2.r.frozen 1
    have g2 := hT2.r.frozen 2
    have g3 := hT2.r.frozen 3
    have hwl := hT2.r.lt
    clear hT2
    cases hbo : b.ok with
    | false =>
      have HE : Hid _ := HNO.out w2 H2.out (thenOk_b hbo) _ rfl
      clear HNO hao hbo
      go_wp2_with fail
      refine end_world (F := fun U => Blk U (w.heap.size + 1 + 1) #[.int .i64 0, .int .i64 0, .slice none 0 0, .slice none 0 0] 29 ∧ ThenPost w a b (.returned (.tuple #[.agg #[.int .i64 0, .int .i64 0, .slice none 0 0, .slice none 0 0], .bool false])) U) HE.out ?_
      rintro U ⟨hr, hpost⟩
      have z0 : U.cell? ⟨w.heap.size + 1 + 1, 0, none⟩ = some (.int .i64 0) := hr.cell 0
      have z1 : U.cell? ⟨w.heap.size + 1 + 1, 1, none⟩ = some (.int .i64 0) := hr.cell 1
      have z2 : U.cell? ⟨w.heap.size + 1 + 1, 2, none⟩ = some (.slice none 0 0) := hr.cell 2
      have z3 : U.cell? ⟨w.heap.size + 1 + 1, 3, none⟩ = some (.slice none 0 0) := hr.cell 3
      exact bodyPost_ret (v := .tuple #[.agg #[.int .i64 0, .int .i64 0, .slice none 0 0, .slice none 0 0], .bool false]) (by simp [results, Try.results17, go_sem, z0, z1, z2, z3]) rfl hpost
    | true =>
      by_cases hdt : a.date = b.since
      · have hdb : (a.date != b.since) = false := by simp [hdt]
        have HOK : Hid (thenOk a b = (thenDp a b).ok ∧ a.ok = true ∧ b.ok = true) := ⟨thenOk_is hao hbo hdt, hao, hbo⟩
        obtain ⟨hln1, hln10⟩ := ok_head1 hbo
        have hma := m_small hao
        have hmb := m_small hbo
        clear hdt hao hbo
        have hw3 : Below w2.heap.size w2 (w2.alloc (.map #[] 0)) := (Below.refl _ _).alloc (Nat.le_refl _) _
        have k3 : (w2.alloc (.map #[] 0)).cell? ⟨w.heap.size, 3, none⟩ = some (.slice la.iA a.m la.ic) := (hw3.cell (p := ⟨w.heap.size, 3, none⟩) (by show w.heap.size < _; omega)).trans p3
        go_wp2_with fail
        clear k3
        refine (learnItems_any w2.heap.size 0 (.map []) (fun _ => none) la.iA a.m la.ic a.ino a.nd la.L (w2.alloc (.map #[] 0)) ((hA.items.below (Nat.le_refl _) H2.out.bel).below (Nat.le_refl _) hw3) hfa.ino (by omega) (World.ownsMap_made _ _ _ _) knows_start).mono ?_
        rintro e w3 ⟨⟨v3, rfl⟩, hg3, M3, ho3, hk3⟩
        obtain ⟨bm, hbm⟩ : ∃ bm, bm = w2.heap.size := ⟨_, rfl⟩
        have H3 : Hid (Th w a b la lb w3 ∧ w3.ownsMap Try.prog 3 heldR bm (0 + a.m) M3 ∧ Knows M3 (learn (fun _ => none) a.ino a.nd la.L a.m)) := ⟨(H2.out.below hw3).grown hg3 hwl, by rw [hbm]; exact ho3, hk3⟩
        have hbl : w.heap.size + 1 + 1 < bm := by omega
        rw [← hbm]
        clear hbm hg3 ho3 hk3 hw3 p0 p1 p2 p3 s0 s1 s2 s3 r0 r1 r2 r3 g0 g1 g2 g3
        obtain ⟨⟨p0, p1, p2, p3⟩, ⟨s0, s1, s2, s3⟩, ⟨r0, r1, r2, r3⟩⟩ := H3.out.1.cells
        go_wp2_with fail
        refine (learnItems_any bm (0 + a.m) M3 _ lb.iA b.m lb.ic b.ino b.nd lb.L w3 (hB.items.below (Nat.le_refl _) H3.out.1.bel) hfb.ino (by omega) H3.out.2.1 H3.out.2.2).mono ?_
        rintro e w4 ⟨⟨v4, rfl⟩, hg4, M, ho4, hk4⟩
        have H4 : Hid (Th w a b la lb w4 ∧ w4.ownsMap Try.prog 3 heldR bm (0 + a.m + b.m) M ∧ Knows M (learn (learn (fun _ => none) a.ino a.nd la.L a.m) b.ino b.nd lb.L b.m)) := ⟨H3.out.1.grown hg4 hbl, ho4, hk4⟩
        have hbl4 : bm < w4.heap.size := ho4.lt
        have HX : Hid (∀ j, ThY w bm j → j < w4.heap.size) := fun j hj => by
          rcases hj with hj | hj
          · unfold ThX at hj; omega
          · omega
        obtain ⟨bL, oL, hL, hLl, hLc⟩ := hB.live.at (show 0 < b.ln by omega)
        have HLV : Hid (∀ W', Below w.heap.size w W' → ∀ i, i < b.ln → W'.cell? ⟨bL, oL + i, none⟩ = some (.bool (b.live i))) := fun W' hW i hi => (hW.cell (p := ⟨bL, oL + i, none⟩) hLl).trans (hLc i hi)
        have HL : Hid (lb.lA = some ⟨bL, oL, none⟩) := hL
        have hbw4 : w.heap.size ≤ w4.heap.size := H4.out.1.bel.size
        clear hg4 ho4 hk4 H3 hL hLc p0 p1 p2 p3 s0 s1 s2 s3 r0 r1 r2 r3
        have HSt : Hid (∀ W', Below w4.heap.size w4 W' → W'.cell? ⟨w.heap.size, 0, none⟩ = some (.int .i64 a.since) ∧ W'.cell? ⟨w.heap.size + 1, 1, none⟩ = some (.int .i64 b.date) ∧ W'.cell? ⟨w.heap.size + 1, 2, none⟩ = some (.slice (some ⟨bL, oL, none⟩) b.ln lb.lc)) := fun W' hW => by
          have h := (H4.out.1.below hW).cells
          exact ⟨h.1.1, h.2.1.2.1, by rw [← HL.out]; exact h.2.1.2.2.1⟩
        go_wp2_with fail
        apply wp_cutq3 (X := Nat) (Y := Nat) (Z := Nat) (fun V g c' W => GOf w w4 w4.heap.size (ThY w bm) a.since b.date b.ln b.live V (some ⟨g, 0, none⟩) c' 0 none 0 (fun _ => 0) b.nd lb.L W)
        · intro key
          have KEY : Hid _ := key
          clear key
          refine wp_region_noPanic ?_
          have hB0 : Below w4.heap.size w4 w4.drew := (Below.refl _ _).drew
          refine wp_region_peel (fun W' => W'.cell? ⟨w.heap.size, 0, none⟩ = some (.int .i64 a.since) ∧ W'.cell? ⟨w.heap.size + 1, 1, none⟩ = some (.int .i64 b.date) ∧ W'.cell? ⟨w.heap.size + 1, 2, none⟩ = some (.slice (some ⟨bL, oL, none⟩) b.ln lb.lc)) _ (by kernel_rfl) rfl (by kernel_rfl) ?_ (fun hHeld => ?_)
          · exact HSt.out _ hB0
          simp only [List.pop_toArray, List.dropLast, List.size_toArray, List.length_cons, List.length_nil, Nat.reduceAdd, Nat.reduceSub, List.getElem_toArray, List.getElem_cons_succ, List.getElem_cons_zero]
          refine peel_take (i := 0) (oi := ?oi0a) (v := ?v0a) (fun _ _ _ _ _ h => h) hHeld ?hi0a (by kernel_rfl) (by kernel_rfl) (by kernel_rfl) ?hw0a ?hy0a ?rest0a
          case hi0a =>
            simp only [List.getElem?_toArray, List.getElem?_cons_zero]
            rfl
          case hw0a => rfl
          case hy0a =>
            intro w hSw
            obtain ⟨s0, s1, s2⟩ := hSw
            go_simp
            try with_reducible rfl
          try simp only [Act.put, List.setIfInBounds_toArray, List.set_cons_zero, List.set_cons_succ]
          refine peel_take (i := 1) (oi := ?oi1a) (v := ?v1a) (fun _ _ _ _ _ h => h) hHeld ?hi1a (by kernel_rfl) (by kernel_rfl) (by kernel_rfl) ?hw1a ?hy1a ?rest1a
          case hi1a =>
            simp only [List.getElem?_toArray, List.getElem?_cons_succ, List.getElem?_cons_zero]
            rfl
          case hw1a => rfl
          case hy1a =>
            intro w hSw
            obtain ⟨s0, s1, s2⟩ := hSw
            go_simp
            try with_reducible rfl
          try simp only [Act.put, List.setIfInBounds_toArray, List.set_cons_zero, List.set_cons_succ]
          refine peel_take (i := 2) (oi := ?oi2a) (v := ?v2a) (fun _ _ _ _ _ h => h) hHeld ?hi2a (by kernel_rfl) (by kernel_rfl) (by kernel_rfl) ?hw2a ?hy2a ?rest2a
          case hi2a =>
            simp only [List.getElem?_toArray, List.getElem?_cons_succ, List.getElem?_cons_zero]
            rfl
          case hw2a => rfl
          case hy2a =>
            intro w hSw
            obtain ⟨s0, s1, s2⟩ := hSw
            go_simp
            try with_reducible rfl
          try simp only [Act.put, List.setIfInBounds_toArray, List.set_cons_zero, List.set_cons_succ]
          refine peel_take (i := 3) (oi := ?oi3a) (v := ?v3a) (fun _ _ _ _ _ h => h) hHeld ?hi3a (by kernel_rfl) (by kernel_rfl) (by kernel_rfl) ?hw3a ?hy3a ?rest3a
          case hi3a =>
            simp only [List.getElem?_toArray, List.getElem?_cons_succ, List.getElem?_cons_zero]
            rfl
          case hw3a => rfl
          case hy3a =>
            intro w hSw
            obtain ⟨s0, s1, s2⟩ := hSw
            go_simp
            try with_reducible rfl
          try simp only [Act.put, List.setIfInBounds_toArray, List.set_cons_zero, List.set_cons_succ]
          refine peel_take (i := 4) (oi := ?oi4a) (v := ?v4a) (fun _ _ _ _ _ h => h) hHeld ?hi4a (by kernel_rfl) (by kernel_rfl) (by kernel_rfl) ?hw4a ?hy4a ?rest4a
          case hi4a =>
            simp only [List.getElem?_toArray, List.getElem?_cons_succ, List.getElem?_cons_zero]
            rfl
          case hw4a => rfl
          case hy4a =>
            intro w hSw
            obtain ⟨s0, s1, s2⟩ := hSw
            go_simp
            try with_reducible rfl
          try simp only [Act.put, List.setIfInBounds_toArray, List.set_cons_zero, List.set_cons_succ]
          refine peel_take (i := 5) (oi := ?oi5a) (v := ?v5a) (fun _ _ _ _ _ h => h) hHeld ?hi5a (by kernel_rfl) (by kernel_rfl) (by kernel_rfl) ?hw5a ?hy5a ?rest5a
          case hi5a =>
            simp only [List.getElem?_toArray, List.getElem?_cons_succ, List.getElem?_cons_zero]
            rfl
          case hw5a => rfl
          case hy5a =>
            intro w hSw
            obtain ⟨s0, s1, s2⟩ := hSw
            go_simp
            try with_reducible rfl
          try simp only [Act.put, List.setIfInBounds_toArray, List.set_cons_zero, List.set_cons_succ]
          refine wpAnyH_ready (rs := [6, 8]) (by kernel_rfl) (by simp) ?_
          refine AllReadyH.cons (o := ?o6q1a) ?ho6q1a (fun K hK => ?st6q1a) ?more6q1a
          case ho6q1a =>
            simp only [List.getElem?_toArray, List.getElem?_cons_succ, List.getElem?_cons_zero]
            rfl
          case st6q1a =>
            go_simp
            refine (cloneBools_any bL oL b.ln lb.lc b.live _ (HLV.out _ (H4.out.1.bel.trans (hB0.mono hbw4))) (by have := hB0.size; omega) hln1 hln10).mono ?_
            rintro e wq1a ⟨hbc, g, c', rfl, hoc⟩
            have hBq1a : Below w4.heap.size w4 wq1a := hB0.trans (hbc.mono hB0.size)
            have hoq1a := owns_lower hoc hB0.size
            clear hbc hoc
            refine hK.out _ _ (HSt.out _ hBq1a) (fun hHeld => ?_)
            clear hK K
            try simp only [Act.put, List.setIfInBounds_toArray, List.set_cons_zero, List.set_cons_succ]
            refine wpAnyH_ready (rs := [7, 8]) (by kernel_rfl) (by simp) ?_
            refine AllReadyH.cons (o := ?o7q2a) ?ho7q2a (fun K hK => ?st7q2a) ?more7q2a
            case ho7q2a =>
              simp only [List.getElem?_toArray, List.getElem?_cons_succ, List.getElem?_cons_zero]
              rfl
            case st7q2a =>
              go_simp
              refine hK.out _ _ hHeld (fun hHeld => ?_)
              clear hK K
              try simp only [Act.put, List.setIfInBounds_toArray, List.set_cons_zero, List.set_cons_succ]
              refine wpAnyH_ready (rs := [8]) (by kernel_rfl) (by simp) ?_
              refine AllReadyH.cons (o := ?o8q3a) ?ho8q3a (fun K hK => ?st8q3a) AllReadyH.nil
              case ho8q3a =>
                simp only [List.getElem?_toArray, List.getElem?_cons_succ, List.getElem?_cons_zero]
                rfl
              go_simp
              have hBq3a : Below w4.heap.size w4 (wq1a.alloc (.cells #[.int .i64 0, .int .i64 0, .slice none 0 0, .slice none 0 0] 29)) := hBq1a.alloc hBq1a.size _
              have hvq3a : Blk (wq1a.alloc (.cells #[.int .i64 0, .int .i64 0, .slice none 0 0, .slice none 0 0] 29)) (wq1a.heap.size) #[.int .i64 0, .int .i64 0, .slice none 0 0, .slice none 0 0] 29 := by
                have h := Blk.new wq1a #[.int .i64 0, .int .i64 0, .slice none 0 0, .slice none 0 0] 29
                simpa using h
              have hoq3a := hoq1a.alloc (.cells #[.int .i64 0, .int .i64 0, .slice none 0 0, .slice none 0 0] 29)
              have hVq3a : w4.heap.size ≤ wq1a.heap.size := by
                have h := hBq1a.size
                simpa using h
              refine hK.out _ _ (HSt.out _ hBq3a) (fun hHeld => ?_)
              clear hK K
              try simp only [Act.put, List.setIfInBounds_toArray, List.set_cons_zero, List.set_cons_succ]
              refine wpAnyH_done (by kernel_rfl) ?_ _
              have HS : Hid _ := GOf.start1 (w := w) (X := ThY w bm) (since := a.since) (date := b.date) (O := fun _ => 0) (E := b.nd) (M := lb.L) H4.out.1.bel HX.out hBq1a hoq1a
              show Oper.wp _ _ _ _ _ _
              go_simp
              generalize hV : wq1a.heap.size = V
              exact NoPanic.normal (KEY.out V g c' _ (by rw [← hV]; exact HS.out))
            refine AllReadyH.cons (o := ?o8q2b) ?ho8q2b (fun K hK => ?st8q2b) AllReadyH.nil
            case ho8q2b =>
              simp only [List.getElem?_toArray, List.getElem?_cons_succ, List.getElem?_cons_zero]
              rfl
            go_simp
            have hBq2b : Below w4.heap.size w4 (wq1a.alloc (.cells #[.int .i64 0, .int .i64 0, .slice none 0 0, .slice none 0 0] 29)) := hBq1a.alloc hBq1a.size _
            have hvq2b : Blk (wq1a.alloc (.cells #[.int .i64 0, .int .i64 0, .slice none 0 0, .slice none 0 0] 29)) (wq1a.heap.size) #[.int .i64 0, .int .i64 0, .slice none 0 0, .slice none 0 0] 29 := by
              have h := Blk.new wq1a #[.int .i64 0, .int .i64 0, .slice none 0 0, .slice none 0 0] 29
              simpa using h
            have hoq2b := hoq1a.alloc (.cells #[.int .i64 0, .int .i64 0, .slice none 0 0, .slice none 0 0] 29)
            have hVq2b : w4.heap.size ≤ wq1a.heap.size := by
              have h := hBq1a.size
              simpa using h
            refine hK.out _ _ (HSt.out _ hBq2b) (fun hHeld => ?_)
            clear hK K
            try simp only [Act.put, List.setIfInBounds_toArray, List.set_cons_zero, List.set_cons_succ]
            refine wpAnyH_ready (rs := [7]) (by kernel_rfl) (by simp) ?_
            refine AllReadyH.cons (o := ?o7q5a) ?ho7q5a (fun K hK => ?st7q5a) AllReadyH.nil
            case ho7q5a =>
              simp only [List.getElem?_toArray, List.getElem?_cons_succ, List.getElem?_cons_zero]
              rfl
            go_simp
            refine hK.out _ _ hHeld (fun hHeld => ?_)
            clear hK K
            try simp only [Act.put, List.setIfInBounds_toArray, List.set_cons_zero, List.set_cons_succ]
            refine wpAnyH_done (by kernel_rfl) ?_ _
            have HS : Hid _ := GOf.start1 (w := w) (X := ThY w bm) (since := a.since) (date := b.date) (O := fun _ => 0) (E := b.nd) (M := lb.L) H4.out.1.bel HX.out hBq1a hoq1a
            show Oper.wp _ _ _ _ _ _
            go_simp
            generalize hV : wq1a.heap.size = V
            exact NoPanic.normal (KEY.out V g c' _ (by rw [← hV]; exact HS.out))
          refine AllReadyH.cons (o := ?o8q1b) ?ho8q1b (fun K hK => ?st8q1b) AllReadyH.nil
          case ho8q1b =>
            simp only [List.getElem?_toArray, List.getElem?_cons_succ, List.getElem?_cons_zero]
            rfl
          go_simp
          have hBq1b : Below w4.heap.size w4 (w4.drew.alloc (.cells #[.int .i64 0, .int .i64 0, .slice none 0 0, .slice none 0 0] 29)) := hB0.alloc hB0.size _
          have hvq1b : Blk (w4.drew.alloc (.cells #[.int .i64 0, .int .i64 0, .slice none 0 0, .slice none 0 0] 29)) (w4.heap.size) #[.int .i64 0, .int .i64 0, .slice none 0 0, .slice none 0 0] 29 := by
            have h := Blk.new w4.drew #[.int .i64 0, .int .i64 0, .slice none 0 0, .slice none 0 0] 29
            simpa using h
          have hVq1b : w4.heap.size ≤ w4.heap.size := by
            have h := hB0.size
            simpa using h
          refine hK.out _ _ (HSt.out _ hBq1b) (fun hHeld => ?_)
          clear hK K
          try simp only [Act.put, List.setIfInBounds_toArray, List.set_cons_zero, List.set_cons_succ]
          refine wpAnyH_ready (rs := [6]) (by kernel_rfl) (by simp) ?_
          refine AllReadyH.cons (o := ?o6q7a) ?ho6q7a (fun K hK => ?st6q7a) AllReadyH.nil
          case ho6q7a =>
            simp only [List.getElem?_toArray, List.getElem?_cons_succ, List.getElem?_cons_zero]
            rfl
          go_simp
          refine (cloneBools_any bL oL b.ln lb.lc b.live _ (HLV.out _ (H4.out.1.bel.trans (hBq1b.mono hbw4))) (by have := hBq1b.size; omega) hln1 hln10).mono ?_
          rintro e wq7a ⟨hbc, g, c', rfl, hoc⟩
          have hBq7a : Below w4.heap.size w4 wq7a := hBq1b.trans (hbc.mono hBq1b.size)
          have hoq7a := owns_lower hoc hBq1b.size
          have hvq7a : Blk wq7a (w4.heap.size) #[.int .i64 0, .int .i64 0, .slice none 0 0, .slice none 0 0] 29 := hvq1b.below hbc hvq1b.lt
          clear hbc hoc
          refine hK.out _ _ (HSt.out _ hBq7a) (fun hHeld => ?_)
          clear hK K
          try simp only [Act.put, List.setIfInBounds_toArray, List.set_cons_zero, List.set_cons_succ]
          refine wpAnyH_ready (rs := [7]) (by kernel_rfl) (by simp) ?_
          refine AllReadyH.cons (o := ?o7q8a) ?ho7q8a (fun K hK => ?st7q8a) AllReadyH.nil
          case ho7q8a =>
            simp only [List.getElem?_toArray, List.getElem?_cons_succ, List.getElem?_cons_zero]
            rfl
          go_simp
          refine hK.out _ _ hHeld (fun hHeld => ?_)
          clear hK K
          try simp only [Act.put, List.setIfInBounds_toArray, List.set_cons_zero, List.set_cons_succ]
          refine wpAnyH_done (by kernel_rfl) ?_ _
          have z0 := hvq7a.cell 0
          have z1 := hvq7a.cell 1
          have z2 := hvq7a.cell 2
          have z3 := hvq7a.cell 3
          have f0 := hvq7a.frozen 0
          have f1 := hvq7a.frozen 1
          have f2 := hvq7a.frozen 2
          have f3 := hvq7a.frozen 3
          simp at z0 z1 z2 z3
          have HS : Hid _ := GOf.start4 (w := w) (X := ThY w bm) (since := a.since) (date := b.date) (O := fun _ => 0) (E := b.nd) (M := lb.L) H4.out.1.bel HX.out hBq7a hVq1b hvq7a hoq7a
          show Oper.wp _ _ _ _ _ _
          go_simp
          generalize hV : w4.heap.size = V
          exact NoPanic.normal (KEY.out V g c' _ (by rw [← hV]; exact HS.out))
        · intro V g c' W3 hG
          have HG : Hid _ := hG
          have HT3 : Hid (Th w a b la lb W3) := H4.out.1.of2 hG
          clear hG HX HSt
          obtain ⟨⟨p0, p1, p2, p3⟩, ⟨s0, s1, s2, s3⟩, ⟨r0, r1, r2, r3⟩⟩ := HT3.out.cells
          rw [HL.out] at s2
          go_wp2_with fail
          clear p0 p1 p2 p3 s0 s1 s2 s3 r0 r1 r2 r3 HT3
          go_loopw [48] (fun i wr => ∃ (k m : Nat) (ia : Option Addr) (ic : Nat) (O : Nat → Int) (E : Nat → Nd) (L' : Nat → Loc), k ≤ b.ln ∧ i = .int .i64 k ∧ GOf w w4 w4.heap.size (ThY w bm) a.since b.date b.ln b.live V (some ⟨g, 0, none⟩) c' m ia ic O E L' wr ∧ ThSel a b k m O E) (fun i _ => b.ln - (intOf i).toNat)
          case atStart => exact ⟨0, 0, none, 0, _, _, _, Nat.zero_le _, rfl, HG.out, rfl, fun i hi => absurd hi (Nat.not_lt_zero _)⟩
          case round =>
            obtain ⟨k, m, ia, ic, O, E, L', hk, rfl, hin, hsel⟩ := hrel
            have HIN : Hid (GOf w w4 w4.heap.size (ThY w bm) a.since b.date b.ln b.live V (some ⟨g, 0, none⟩) c' m ia ic O E L' wr ∧ ThSel a b k m O E) := ⟨hin, hsel⟩
            have HT : Hid (Th w a b la lb wr) := H4.out.1.of2 hin
            clear hin hsel
            by_cases hlt : k < b.ln
            · have hlti : (k : Int) < (b.ln : Int) := by omega
              have hL0 := HLV.out wr HIN.out.1.bel k hlt
              obtain ⟨x, l, th, hrun, hth⟩ := then_look (k := k) hA hB hsa hsb HOK.out.2.2 (map_block H4.out.2.1 (HIN.out.1.kept bm (Or.inr rfl))) H4.out.2.2 (by omega)
              have H5 : Hid (GOf w w4 w4.heap.size (ThY w bm) a.since b.date b.ln b.live V (some ⟨g, 0, none⟩) c' m ia ic O E L' (wr.alloc (.cells #[.int .i64 x.kind, .string x.text, .slice l.nA x.nn l.nc, .slice l.kA x.kn l.kc, .int .i64 x.turn] 53)) ∧ Blk (wr.alloc (.cells #[.int .i64 x.kind, .string x.text, .slice l.nA x.nn l.nc, .slice l.kA x.kn l.kc, .int .i64 x.turn] 53)) wr.heap.size #[.int .i64 x.kind, .string x.text, .slice l.nA x.nn l.nc, .slice l.kA x.kn l.kc, .int .i64 x.turn] 53) := ⟨HIN.out.1.below ((Below.refl _ _).alloc (Nat.le_refl _) _), Blk.new wr _ _⟩
              rcases hth with ⟨rfl, hno⟩ | ⟨rfl, hnd, hsm, hyes⟩
              · have HN : Hid (thenNd a b (k : Int) = none) := hno
                clear hno
                cases hlv : b.live k with
                | false =>
                  rw [hlv] at hL0
                  clear hlv
                  go_wp2_with fail
                  go_roundw
                  case rel => exact ⟨k + 1, m, ia, ic, O, E, L', by omega, by go_num, H5.out.1, HIN.out.2.no HN.out⟩
                  case measure => simp [intOf]; omega
                | true =>
                  rw [hlv] at hL0
                  clear hlv
                  go_wp2_with fail
                  go_roundw
                  case rel => exact ⟨k + 1, m, ia, ic, O, E, L', by omega, by go_num, H5.out.1, HIN.out.2.no HN.out⟩
                  case measure => simp [intOf]; omega
              · have HNd : Hid ((∀ W', Below w.heap.size w W' → NdIn W' x l) ∧ (x.nn ≤ 1048576 ∧ x.kn ≤ 1048576 ∧ x.text.size ≤ 1048576 ∧ ∀ j, j < x.nn → (x.names j).size ≤ 1048576)) := ⟨hnd, hsm⟩
                clear hnd hsm
                cases hlv : b.live k with
                | false =>
                  rw [hlv] at hL0 hyes
                  have HN : Hid (thenNd a b (k : Int) = none) := hyes
                  clear hlv hyes
                  go_wp2_with fail
                  go_roundw
                  case rel => exact ⟨k + 1, m, ia, ic, O, E, L', by omega, by go_num, H5.out.1, HIN.out.2.no HN.out⟩
                  case measure => simp [intOf]; omega
                | true =>
                  rw [hlv] at hL0 hyes
                  have HN : Hid (thenNd a b (k : Int) = some x) := hyes
                  clear hlv hyes
                  go_wp2_with fail
                  revert H5
                  generalize wr.alloc (.cells #[.int .i64 x.kind, .string x.text, .slice l.nA x.nn l.nc, .slice l.kA x.kn l.kc, .int .i64 x.turn] 53) = W5
                  intro H5
                  have HSt5 : Hid (∀ W', Below W5.heap.size W5 W' → W'.cell? ⟨V, 3, none⟩ = some (.slice ia m ic) ∧ W'.cell? ⟨wr.heap.size, 0, none⟩ = some (.int .i64 x.kind) ∧ W'.cell? ⟨wr.heap.size, 1, none⟩ = some (.string x.text) ∧ W'.cell? ⟨wr.heap.size, 2, none⟩ = some (.slice l.nA x.nn l.nc) ∧ W'.cell? ⟨wr.heap.size, 3, none⟩ = some (.slice l.kA x.kn l.kc) ∧ W'.cell? ⟨wr.heap.size, 4, none⟩ = some (.int .i64 x.turn)) := fun W' hW => by
                    have h1 := (H5.out.1.below hW).v.cell 3
                    have h2 := H5.out.2.below hW H5.out.2.lt
                    exact ⟨h1, h2.cell 0, h2.cell 1, h2.cell 2, h2.cell 3, h2.cell 4⟩
                  have hm10 : m ≤ 10 := by have h1 := HIN.out.2.1; have h2 := thenSel_len a b k; omega
                  have hd5 : Below W5.heap.size W5 W5.drew := below_drewN (Below.refl _ _) 1
                  refine wp_region_noPanic ?_
                  refine wp_region_peel2 (fun W' => W'.cell? ⟨V, 3, none⟩ = some (.slice ia m ic) ∧ W'.cell? ⟨wr.heap.size, 0, none⟩ = some (.int .i64 x.kind) ∧ W'.cell? ⟨wr.heap.size, 1, none⟩ = some (.string x.text) ∧ W'.cell? ⟨wr.heap.size, 2, none⟩ = some (.slice l.nA x.nn l.nc) ∧ W'.cell? ⟨wr.heap.size, 3, none⟩ = some (.slice l.kA x.kn l.kc) ∧ W'.cell? ⟨wr.heap.size, 4, none⟩ = some (.int .i64 x.turn)) _ _ (by kernel_rfl) rfl rfl (by kernel_rfl) (by kernel_rfl) ?_ (fun hHeld => ?_)
                  · exact HSt5.out _ hd5
                  simp only [List.pop_toArray, List.dropLast, List.size_toArray, List.length_cons, List.length_nil, Nat.reduceAdd, Nat.reduceSub, List.getElem_toArray, List.getElem_cons_succ, List.getElem_cons_zero]
                  refine peel_take (i := 0) (oi := ?oi0x) (v := ?v0x) (fun _ _ _ _ _ h => h) hHeld ?hi0x (by kernel_rfl) (by kernel_rfl) (by kernel_rfl) ?hw0x ?hy0x ?rest0x
                  case hi0x =>
                    simp only [List.getElem?_toArray, List.getElem?_cons_zero]
                    rfl
                  case hw0x => rfl
                  case hy0x =>
                    intro w hSw
                    obtain ⟨s0, s1, s2, s3, s4, s5⟩ := hSw
                    go_simp
                    try with_reducible rfl
                  try simp only [Act.put, List.setIfInBounds_toArray, List.set_cons_zero, List.set_cons_succ]
                  refine peel_take (i := 1) (oi := ?oi1x) (v := ?v1x) (fun _ _ _ _ _ h => h) hHeld ?hi1x (by kernel_rfl) (by kernel_rfl) (by kernel_rfl) ?hw1x ?hy1x ?rest1x
                  case hi1x =>
                    simp only [List.getElem?_toArray, List.getElem?_cons_succ, List.getElem?_cons_zero]
                    rfl
                  case hw1x => rfl
                  case hy1x =>
                    intro w hSw
                    obtain ⟨s0, s1, s2, s3, s4, s5⟩ := hSw
                    go_simp
                    try with_reducible rfl
                  try simp only [Act.put, List.setIfInBounds_toArray, List.set_cons_zero, List.set_cons_succ]
                  refine peel_take (i := 2) (oi := ?oi2x) (v := ?v2x) (fun _ _ _ _ _ h => h) hHeld ?hi2x (by kernel_rfl) (by kernel_rfl) (by kernel_rfl) ?hw2x ?hy2x ?rest2x
                  case hi2x =>
                    simp only [List.getElem?_toArray, List.getElem?_cons_succ, List.getElem?_cons_zero]
                    rfl
                  case hw2x => rfl
                  case hy2x =>
                    intro w hSw
                    obtain ⟨s0, s1, s2, s3, s4, s5⟩ := hSw
                    go_simp
                    try with_reducible rfl
                  try simp only [Act.put, List.setIfInBounds_toArray, List.set_cons_zero, List.set_cons_succ]
                  refine peel_take (i := 3) (oi := ?oi3x) (v := ?v3x) (fun _ _ _ _ _ h => h) hHeld ?hi3x (by kernel_rfl) (by kernel_rfl) (by kernel_rfl) ?hw3x ?hy3x ?rest3x
                  case hi3x =>
                    simp only [List.getElem?_toArray, List.getElem?_cons_succ, List.getElem?_cons_zero]
                    rfl
                  case hw3x => rfl
                  case hy3x =>
                    intro w hSw
                    obtain ⟨s0, s1, s2, s3, s4, s5⟩ := hSw
                    go_simp
                    try with_reducible rfl
                  try simp only [Act.put, List.setIfInBounds_toArray, List.set_cons_zero, List.set_cons_succ]
                  refine wpAnyH_ready (rs := [4]) (by kernel_rfl) (by simp) ?_
                  refine AllReadyH.cons (o := ?o4x) ?ho4x (fun K hK => ?st4x) AllReadyH.nil
                  case ho4x =>
                    simp only [List.getElem?_toArray, List.getElem?_cons_succ, List.getElem?_cons_zero]
                    rfl
                  go_simp
                  refine (copyNode_any x l W5.drew (HNd.out.1 _ (H5.out.1.bel.trans (hd5.mono H5.out.1.bel.size))) HNd.out.2.1 HNd.out.2.2.1 HNd.out.2.2.2.1 HNd.out.2.2.2.2).mono ?_
                  rintro e W6 ⟨l5, rfl, hN5⟩
                  unfold ndV
                  have hb6 : Below W5.heap.size W5 W6 := hd5.trans hN5.bel
                  refine hK.out _ _ (HSt5.out W6 hb6) (fun hHeld => ?re4x)
                  clear hK K
                  try simp only [Act.put, List.setIfInBounds_toArray, List.set_cons_zero, List.set_cons_succ]
                  refine wpAnyH_ready (rs := [5]) (by kernel_rfl) (by simp) ?_
                  refine AllReadyH.cons (o := ?o5x) ?ho5x (fun K hK => ?st5x) AllReadyH.nil
                  case ho5x =>
                    simp only [List.getElem?_toArray, List.getElem?_cons_succ, List.getElem?_cons_zero]
                    rfl
                  go_simp
                  refine hK.out _ _ (HSt5.out W6 hb6) (fun hHeld => ?re5x)
                  clear hK K
                  try simp only [Act.put, List.setIfInBounds_toArray, List.set_cons_zero, List.set_cons_succ]
                  refine wpAnyH_ready (rs := [6]) (by kernel_rfl) (by simp) ?_
                  refine AllReadyH.cons (o := ?o6x) ?ho6x (fun K hK => ?st6x) AllReadyH.nil
                  case ho6x =>
                    simp only [List.getElem?_toArray, List.getElem?_cons_succ, List.getElem?_cons_zero]
                    rfl
                  go_simp
                  have hb7 : Below W5.heap.size W5 (W6.alloc (.cells #[.int .i64 (k : Int), .int .i64 x.kind, .string x.text, .slice l5.nA x.nn l5.nc, .slice l5.kA x.kn l5.kc, .int .i64 x.turn] 56)) := hb6.alloc hb6.size _
                  refine hK.out _ _ (HSt5.out _ hb7) (fun hHeld => ?re6x)
                  clear hK K
                  try simp only [Act.put, List.setIfInBounds_toArray, List.set_cons_zero, List.set_cons_succ]
                  refine wpAnyH_ready (rs := [7]) (by kernel_rfl) (by simp) ?_
                  refine AllReadyH.cons (o := ?o7x) ?ho7x (fun K hK => ?st7x) AllReadyH.nil
                  case ho7x =>
                    simp only [List.getElem?_toArray, List.getElem?_cons_succ, List.getElem?_cons_zero]
                    rfl
                  have hD6 := H5.out.1.below hb7
                  have hN6 := hN5.alloc (.cells #[.int .i64 (k : Int), .int .i64 x.kind, .string x.text, .slice l5.nA x.nn l5.nc, .slice l5.kA x.kn l5.kc, .int .i64 x.turn] 56)
                  have hB5 : w4.heap.size ≤ W5.heap.size := by have h := owns_block H5.out.1.od.ownL (show (Value.slice (some ⟨g, 0, none⟩) b.ln c').ownBlock = some g from rfl); omega
                  have hneV : (Value.slice ia m ic).ownBlock ≠ some V := fun e => (H5.out.1.off 1 V (by omega) (by simpa [valD] using e)).2 rfl
                  have hX6 := H5.out.2.below hb7 H5.out.2.lt
                  refine step_of (by rfl) (wp_append_src (.tmp 64) (.tmp 69) 27 rfl w4.heap.size 56 y0 (.agg #[.int .i64 0, .int .i64 0, .string ByteArray.empty, .slice none 0 0, .slice none 0 0, .int .i64 0]) 6 88 Try.underlying27 hy hy0 hy1 hy2 rfl (by decide) (.slice ia m ic) m _ (by rfl) hD6.od.ownI _ 1 _ (by rfl) (src_item W6 (k : Int) x l5) (by unfold maxLen; omega) (by omega) (by have := hb7.size; omega) ?_)
                  intro vI W7 hown hgrow hnil hat
                  rcases hown.2 with ⟨_, h0⟩ | ⟨gI, cI, cur, hvI, _, _, _⟩
                  · omega
                  subst hvI
                  have hbI : (Value.slice ia m ic).ownBlock = some gI ∨ (W6.alloc (.cells #[.int .i64 (k : Int), .int .i64 x.kind, .string x.text, .slice l5.nA x.nn l5.nc, .slice l5.kA x.kn l5.kc, .int .i64 x.turn] 56)).heap.size ≤ gI := by
                    rcases hat with e | e
                    · exact Or.inl e.symm
                    · right
                      have e' : gI = (W6.alloc (.cells #[.int .i64 (k : Int), .int .i64 x.kind, .string x.text, .slice l5.nA x.nn l5.nc, .slice l5.kA x.kn l5.kc, .int .i64 x.turn] 56)).heap.size := by simpa [Value.ownBlock] using e
                      omega
                  have hV7 := blk_grown hD6.v hgrow hneV
                  have hX7 := blk_grown hX6 hgrow (own_ne hD6.od.ownI hX6 (by decide))
                  have H8 : Hid _ := (H5.out.1.below hd5).item hN6 (by have := hd5.size; omega) hgrow hown hbI
                  have v37 : W7.cell? ⟨V, 3, none⟩ = some (.slice ia m ic) := hV7.cell 3
                  have f37 := hV7.frozen 3
                  refine hK.out _ _ ⟨hV7.cell 3, hX7.cell 0, hX7.cell 1, hX7.cell 2, hX7.cell 3, hX7.cell 4⟩ (fun hHeld => ?re7x)
                  clear hK K
                  try simp only [Act.put, List.setIfInBounds_toArray, List.set_cons_zero, List.set_cons_succ]
                  refine wpAnyH_done (by kernel_rfl) ?_ _
                  show Oper.wp _ _ _ _ _ _
                  clear hown hgrow hnil hat hbI hV7 hX7 hX6 hN6 hD6 hN5 HSt5 hneV hHeld hd5 hb6 hb7 hB5
                  go_simp
                  show Oper.wp _ _ _ _ _ _
                  go_simp
                  refine NoPanic.normal ?_
                  go_wp2_with fail
                  go_roundw
                  case rel => exact ⟨k + 1, m + 1, some ⟨gI, 0, none⟩, cI, _, _, _, by omega, by go_num, H8.out, HIN.out.2.yes HN.out⟩
                  case measure => simp [intOf]; omega
            · obtain rfl : k = b.ln := by omega
              obtain ⟨hm, hown⟩ := HIN.out.2.own HIN.out.1.od
              subst hm
              have HOWN : Hid _ := hown
              have v0 : wr.cell? ⟨V, 0, none⟩ = some (.int .i64 a.since) := HIN.out.1.v.cell 0
              have v1 : wr.cell? ⟨V, 1, none⟩ = some (.int .i64 b.date) := HIN.out.1.v.cell 1
              have v2 : wr.cell? ⟨V, 2, none⟩ = some (.slice (some ⟨g, 0, none⟩) b.ln c') := HIN.out.1.v.cell 2
              have v3 : wr.cell? ⟨V, 3, none⟩ = some (.slice ia (thenDp a b).m ic) := HIN.out.1.v.cell 3
              clear hown
              go_wp2_with fail
              refine (implDumpOk_any (thenDp a b) ⟨some ⟨g, 0, none⟩, c', ia, ic, L'⟩ wr (OwnDp.dpIn (l := ⟨some ⟨g, 0, none⟩, c', ia, ic, L'⟩) HOWN.out) (then_fits hfa hfb hln10)).mono ?_
              rintro e W6 ⟨hb6, rfl⟩
              have H6 : Hid (Th w a b la lb W6 ∧ Blk W6 V #[.int .i64 a.since, .int .i64 b.date, .slice (some ⟨g, 0, none⟩) b.ln c', .slice ia (thenDp a b).m ic] 29 ∧ OwnDp W6 w4.heap.size (thenDp a b) ⟨some ⟨g, 0, none⟩, c', ia, ic, L'⟩) := ⟨HT.out.below hb6, HIN.out.1.v.below hb6 HIN.out.1.v.lt, OD.below HOWN.out hb6⟩
              have hwl4 : w.heap.size + 1 + 1 < w4.heap.size := by omega
              clear v0 v1 v2 v3 hb6
              obtain ⟨⟨p0, p1, p2, p3⟩, ⟨s0, s1, s2, s3⟩, ⟨r0, r1, r2, r3⟩⟩ := H6.out.1.cells
              have g0 := H6.out.1.r.frozen 0
              have g1 := H6.out.1.r.frozen 1
              have g2 := H6.out.1.r.frozen 2
              have g3 := H6.out.1.r.frozen 3
              cases hok : (thenDp a b).ok with
              | false =>
                have HE : Hid _ := HNO.out W6 H6.out.1 (HOK.out.1.trans hok) _ rfl
                clear HNO hok
                go_wp2_with fail
                refine end_world (F := fun U => Blk U (w.heap.size + 1 + 1) #[.int .i64 0, .int .i64 0, .slice none 0 0, .slice none 0 0] 29 ∧ ThenPost w a b (.returned (.tuple #[.agg #[.int .i64 0, .int .i64 0, .slice none 0 0, .slice none 0 0], .bool false])) U) HE.out ?_
                rintro U ⟨hr, hpost⟩
                have z0 : U.cell? ⟨w.heap.size + 1 + 1, 0, none⟩ = some (.int .i64 0) := hr.cell 0
                have z1 : U.cell? ⟨w.heap.size + 1 + 1, 1, none⟩ = some (.int .i64 0) := hr.cell 1
                have z2 : U.cell? ⟨w.heap.size + 1 + 1, 2, none⟩ = some (.slice none 0 0) := hr.cell 2
                have z3 : U.cell? ⟨w.heap.size + 1 + 1, 3, none⟩ = some (.slice none 0 0) := hr.cell 3
                exact bodyPost_ret (v := .tuple #[.agg #[.int .i64 0, .int .i64 0, .slice none 0 0, .slice none 0 0], .bool false]) (by simp [results, Try.results17, go_sem, z0, z1, z2, z3]) rfl hpost
              | true =>
                have v0 : W6.cell? ⟨V, 0, none⟩ = some (.int .i64 a.since) := H6.out.2.1.cell 0
                have v1 : W6.cell? ⟨V, 1, none⟩ = some (.int .i64 b.date) := H6.out.2.1.cell 1
                have v2 : W6.cell? ⟨V, 2, none⟩ = some (.slice (some ⟨g, 0, none⟩) b.ln c') := H6.out.2.1.cell 2
                have v3 : W6.cell? ⟨V, 3, none⟩ = some (.slice ia (thenDp a b).m ic) := H6.out.2.1.cell 3
                have HOKK : Hid (thenOk a b = true) := HOK.out.1.trans hok
                clear hok
                go_wp2_with fail
                refine end_world (F := fun U => Blk U (w.heap.size + 1 + 1) #[.int .i64 a.since, .int .i64 b.date, .slice (some ⟨g, 0, none⟩) b.ln c', .slice ia (thenDp a b).m ic] 29 ∧ Below w.heap.size w U ∧ OwnDp U w4.heap.size (thenDp a b) ⟨some ⟨g, 0, none⟩, c', ia, ic, L'⟩) ⟨(((H6.out.1.r.set 0 _).set 1 _).set 2 _).set 3 _, bel_put (bel_put (bel_put (bel_put H6.out.1.bel _ (by omega)) _ (by omega)) _ (by omega)) _ (by omega), OD.off (OD.off (OD.off (OD.off H6.out.2.2 _ hwl4) _ hwl4) _ hwl4) _ hwl4⟩ ?_
                clear p0 p1 p2 p3 s0 s1 s2 s3 r0 r1 r2 r3 g0 g1 g2 g3 v0 v1 v2 v3
                rintro U ⟨hr, hBU, hod⟩
                have r0 : U.cell? ⟨w.heap.size + 1 + 1, 0, none⟩ = some (.int .i64 a.since) := hr.cell 0
                have r1 : U.cell? ⟨w.heap.size + 1 + 1, 1, none⟩ = some (.int .i64 b.date) := hr.cell 1
                have r2 : U.cell? ⟨w.heap.size + 1 + 1, 2, none⟩ = some (.slice (some ⟨g, 0, none⟩) b.ln c') := hr.cell 2
                have r3 : U.cell? ⟨w.heap.size + 1 + 1, 3, none⟩ = some (.slice ia (thenDp a b).m ic) := hr.cell 3
                exact bodyPost_ret (v := .tuple #[.agg #[.int .i64 a.since, .int .i64 b.date, .slice (some ⟨g, 0, none⟩) b.ln c', .slice ia (thenDp a b).m ic], .bool true]) (by simp [results, Try.results17, go_sem, r0, r1, r2, r3]) rfl ⟨hBU, Or.inr ⟨HOKK.out, ⟨some ⟨g, 0, none⟩, c', ia, ic, L'⟩, rfl, OD.lower hod (by omega)⟩⟩
      · have hdb : (a.date != b.since) = true := by simp [hdt]
        have HE : Hid _ := HNO.out w2 H2.out (thenOk_d hdt) _ rfl
        clear HNO hao hbo hdt
        go_wp2_with fail
        refine end_world (F := fun U => Blk U (w.heap.size + 1 + 1) #[.int .i64 0, .int .i64 0, .slice none 0 0, .slice none 0 0] 29 ∧ ThenPost w a b (.returned (.tuple #[.agg #[.int .i64 0, .int .i64 0, .slice none 0 0, .slice none 0 0], .bool false])) U) HE.out ?_
        rintro U ⟨hr, hpost⟩
        have z0 : U.cell? ⟨w.heap.size + 1 + 1, 0, none⟩ = some (.int .i64 0) := hr.cell 0
        have z1 : U.cell? ⟨w.heap.size + 1 + 1, 1, none⟩ = some (.int .i64 0) := hr.cell 1
        have z2 : U.cell? ⟨w.heap.size + 1 + 1, 2, none⟩ = some (.slice none 0 0) := hr.cell 2
        have z3 : U.cell? ⟨w.heap.size + 1 + 1, 3, none⟩ = some (.slice none 0 0) := hr.cell 3
        exact bodyPost_ret (v := .tuple #[.agg #[.int .i64 0, .int .i64 0, .slice none 0 0, .slice none 0 0], .bool false]) (by simp [results, Try.results17, go_sem, z0, z1, z2, z3]) rfl hpost
end Go.Proofs.Yteoanlkmkmajjaa

/-
  What BackThen answers, in one word for both.
-/
namespace Go.Proofs.Yteoanlkmkmajjaa
open Go.RowKit Go.Deep
set_option linter.unusedVariables false
set_option linter.unusedSimpArgs false

theorem ok_kn {d : Dp} (h : d.ok = true) {i : Nat} (hi : i < d.m) : (d.nd i).kn = (d.nd i).nn := by
  unfold Dp.ok at h
  rw [Bool.and_eq_true] at h
  have hs := List.all_eq_true.1 h.2 i (by simpa using hi)
  unfold stepIn itIn at hs
  simp only [Bool.and_eq_true] at hs
  have hn := hs.1.2
  unfold nodeIn at hn
  split at hn
  · unfold fileIs at hn
    simp only [Bool.and_eq_true, decide_eq_true_eq] at hn
    omega
  · split at hn
    · unfold dirIs at hn
      simp only [Bool.and_eq_true, decide_eq_true_eq] at hn
      omega
    · cases hn

theorem thenNd_from {a b : Dp} {z : Int} {x : Nd} (e : thenNd a b z = some x) : (∃ j, j < b.m ∧ x = b.nd j) ∨ ∃ j, j < a.m ∧ x = a.nd j := by
  unfold thenNd at e
  split at e
  · rename_i k hk; cases e; exact Or.inl ⟨k, (ixOf_some hk).1, rfl⟩
  · split at e
    · cases e2 : ixOf a.ino a.m z with
      | none => rw [e2] at e; cases e
      | some k => rw [e2] at e; cases e; exact Or.inr ⟨k, (ixOf_some e2).1, rfl⟩
    · cases e

theorem nd_sum {d : Dp} (h : d.size ≤ 1048576) {i : Nat} (hi : i < d.m) : (d.nd i).nn + (d.nd i).kn ≤ 1048576 := by
  have h1 := size_le_sizeTo d.nd d.m i hi
  unfold Dp.size at h
  unfold Nd.size at h1
  omega

theorem then_sum {a b : Dp} (hsa : a.size ≤ 1048576) (hsb : b.size ≤ 1048576) {i : Nat} (hi : i < (thenDp a b).m) : ((thenDp a b).nd i).nn + ((thenDp a b).nd i).kn ≤ 1048576 := by
  have hi' : i < (thenSel a b b.ln).length := hi
  have hm : (thenSel a b b.ln).getD i 0 ∈ thenSel a b b.ln := by
    rw [List.getD_eq_getElem?_getD, List.getElem?_eq_getElem hi']
    exact List.getElem_mem hi'
  have hs := (List.mem_filter.1 hm).2
  cases e : thenNd a b ((thenSel a b b.ln).getD i 0 : Nat) with
  | none => rw [e] at hs; cases hs
  | some x =>
    have e1 : (thenDp a b).nd i = x := by
      show (thenNd a b ((thenSel a b b.ln).getD i 0 : Nat)).getD _ = x
      rw [e]; rfl
    rw [e1]
    rcases thenNd_from e with ⟨j, hj, rfl⟩ | ⟨j, hj, rfl⟩
    · exact nd_sum hsb hj
    · exact nd_sum hsa hj

theorem kap_le3 (D : Nat → Nd) (k0 : Nat) : ∀ m, (∀ i, i < m → (D i).nn + (D i).kn ≤ 1048576) → kap D k0 m ≤ k0 + m * 1048580
  | 0, _ => by simp [kap]
  | m + 1, h => by
    have h1 := kap_le3 D k0 m (fun i hi => h i (by omega))
    have h2 := h m (by omega)
    rw [kap]
    omega

theorem then_small {a b : Dp} (hfa : a.Fits) (hfb : b.Fits) (hsa : a.size ≤ 1048576) (hsb : b.size ≤ 1048576) (h : (thenDp a b).ok = true) : DpSmall (thenDp a b) := by
  have hl : (thenDp a b).ln ≤ 10 := (ok_head1 h).2
  have hm := m_small h
  have hk := kap_le3 (thenDp a b).nd (1 + (thenDp a b).ln) (thenDp a b).m (fun i hi => then_sum hsa hsb hi)
  refine ⟨then_fits hfa hfb hl, hl, hm, by omega, fun i hi => ?_⟩
  have h1 := then_sum hsa hsb hi
  have h2 := ok_kn h hi
  omega

theorem then_ans (a b : Dp) (hfa : a.Fits) (hfb : b.Fits) (hsa : a.size ≤ 1048576) (hsb : b.size ≤ 1048576) : ∃ (d : Dp) (ok : Bool), DpSmall d ∧ ∀ w e w', ThenPost w a b e w' → Below w.heap.size w w' ∧ ∃ l, e = .returned (.tuple #[dpV d l, .bool ok]) ∧ OwnDp w' w.heap.size d l := by
  cases hok : thenOk a b with
  | true =>
    have h2 : (thenDp a b).ok = true := by unfold thenOk at hok; simp only [Bool.and_eq_true] at hok; exact hok.2
    refine ⟨thenDp a b, true, then_small hfa hfb hsa hsb h2, fun w e w' h => ⟨h.1, ?_⟩⟩
    rcases h.2 with ⟨hno, _⟩ | ⟨_, l, he, hod⟩
    · rw [hok] at hno; cases hno
    · exact ⟨l, he, hod⟩
  | false =>
    refine ⟨dpNone, false, dpNone_small, fun w e w' h => ⟨h.1, ?_⟩⟩
    rcases h.2 with ⟨_, he⟩ | ⟨hyes, _⟩
    · exact ⟨⟨none, 0, none, 0, fun _ => ⟨none, 0, none, 0⟩⟩, he, OD.start _ _ _ _ _ _⟩
    · rw [hok] at hyes; cases hyes
end Go.Proofs.Yteoanlkmkmajjaa

/-
  A tree in memory of one's own: its list of places, and the lists of each place; no two share a block. Plain facts.
-/
namespace Go.Proofs.Yteoanlkmkmajjaa
open Go.RowKit Go.Deep
set_option linter.unusedVariables false
set_option linter.unusedSimpArgs false

/-- The cells of a place that was turned. -/
def nt5 (o : Int) (d : Nd) (l : Loc) : List Value := [.int .i64 d.kind, .string d.text, .slice l.nA d.nn l.nc, .slice l.kA d.kn l.kc, .int .i64 d.turn]
/-- The cells of the first m. -/
def rowsT (O : Nat → Int) (D : Nat → Nd) (L : Nat → Loc) : Nat → List Value | 0 => [] | m + 1 => rowsT O D L m ++ nt5 (O m) (D m) (L m)

section
variable {O O' : Nat → Int} {D D' : Nat → Nd} {L L' : Nat → Loc}

theorem rowsT_len : ∀ m, (rowsT O D L m).length = m * 5
  | 0 => rfl
  | m + 1 => by rw [rowsT, List.length_append, rowsT_len m]; simp [nt5]; omega

theorem nt5_one (o : Int) (d : Nd) (l : Loc) : ∀ u ∈ nt5 o d l, u.oneCell' = true := by intro u hu; simp [nt5] at hu; rcases hu with rfl | rfl | rfl | rfl | rfl <;> rfl

theorem rowsT_get : ∀ m i, i < m → ∀ r, r < 5 → (rowsT O D L m)[i * 5 + r]? = (nt5 (O i) (D i) (L i))[r]?
  | 0, i, h, r, hr => by omega
  | m + 1, i, h, r, hr => by
    rw [rowsT]
    by_cases e : i < m
    · rw [List.getElem?_append_left (by rw [rowsT_len]; omega)]; exact rowsT_get m i e r hr
    · obtain rfl : i = m := by omega
      rw [List.getElem?_append_right (by rw [rowsT_len]; omega), rowsT_len, show i * 5 + r - i * 5 = r by omega]

theorem rowsT_ext : ∀ m, (∀ i, i < m → O' i = O i ∧ D' i = D i ∧ L' i = L i) → rowsT O' D' L' m = rowsT O D L m
  | 0, _ => rfl
  | m + 1, h => by rw [rowsT, rowsT, rowsT_ext m (fun i hi => h i (by omega)), (h m (by omega)).1, (h m (by omega)).2.1, (h m (by omega)).2.2]
end

/-- The rows of what is kept: 0 the truth values, 1 the places that were turned, then two for each of these. -/
def rowT (k : Nat) (Z : Nat → Bool) (m : Nat) (O : Nat → Int) (D : Nat → Nd) (L : Nat → Loc) (d : Nat) : Rw :=
  if d = 0 then ⟨4, 1, k, boolv k Z⟩ else if d = 1 then ⟨53, 5, m, rowsT O D L m⟩
  else if d % 2 = 0 then ⟨9, 1, (D ((d - 2) / 2)).nn, strv (lst (D ((d - 2) / 2)).nn (D ((d - 2) / 2)).names)⟩ else ⟨3, 1, (D ((d - 2) / 2)).kn, intv0 (D ((d - 2) / 2)).kn (D ((d - 2) / 2)).kids⟩
def valT (lv iv : Value) (D : Nat → Nd) (L : Nat → Loc) (d : Nat) : Value :=
  if d = 0 then lv else if d = 1 then iv else if d % 2 = 0 then .slice (L ((d - 2) / 2)).nA (D ((d - 2) / 2)).nn (L ((d - 2) / 2)).nc else .slice (L ((d - 2) / 2)).kA (D ((d - 2) / 2)).kn (L ((d - 2) / 2)).kc

structure OT (W : World) (B k : Nat) (Z : Nat → Bool) (m : Nat) (O : Nat → Int) (D : Nat → Nd) (L : Nat → Loc) (lv iv : Value) : Prop where
  rows : Rwn B (rowT k Z m O D L) (fun d => d < 2 + 2 * m) (valT lv iv D L) W

section
variable {W W' : World} {B k : Nat} {Z : Nat → Bool} {m : Nat} {O : Nat → Int} {D : Nat → Nd} {L : Nat → Loc} {lv iv lv' iv' : Value}

theorem OT.start (W : World) (B : Nat) (Z : Nat → Bool) (O : Nat → Int) (D : Nat → Nd) (L : Nat → Loc) : OT W B 0 Z 0 O D L (.slice none 0 0) (.slice none 0 0) :=
  ⟨⟨fun d hl => by
    have hd : d = 0 ∨ d = 1 := by omega
    rcases hd with rfl | rfl
    · exact World.ownsRow_nil _ _ _ _
    · exact World.ownsRow_nil _ _ _ _, fun d d' hl _ _ b hb => by
    have hd : d = 0 ∨ d = 1 := by omega
    rcases hd with rfl | rfl <;> simp [valT, Value.ownBlock] at hb⟩⟩

theorem OT.same (h : OT W B k Z m O D L lv iv) (hw : ∀ b, B ≤ b → b < W.heap.size → W'.heap[b]? = W.heap[b]?) : OT W' B k Z m O D L lv iv :=
  ⟨⟨fun d hl => owns_same (h.rows.own d hl) fun b hb => hw b (owns_block (h.rows.own d hl) hb).1 (owns_block (h.rows.own d hl) hb).2, h.rows.apart⟩⟩

theorem OT.below (h : OT W B k Z m O D L lv iv) (hb : Below W.heap.size W W') : OT W' B k Z m O D L lv iv := h.same fun b _ hlt => hb.block b hlt

theorem OT.off (h : OT W B k Z m O D L lv iv) {V i : Nat} (v : Value) (hV : V < B) : OT (W.setCell ⟨V, i, none⟩ v) B k Z m O D L lv iv := h.same fun b hB _ => blk_setCell_other _ _ _ _ (by show b ≠ V; omega)

theorem OT.lower {B' : Nat} (h : OT W B k Z m O D L lv iv) (hB : B' ≤ B) : OT W B' k Z m O D L lv iv := ⟨⟨fun d hl => owns_lower (h.rows.own d hl) hB, h.rows.apart⟩⟩

theorem OT.ownL (h : OT W B k Z m O D L lv iv) : W.ownsRow B 4 1 lv k (boolv k Z) := by
  have := h.rows.own 0 (by omega)
  simpa [rowT, valT] using this

theorem OT.ownI (h : OT W B k Z m O D L lv iv) : W.ownsRow B 53 5 iv m (rowsT O D L m) := by
  have := h.rows.own 1 (by omega)
  simpa [rowT, valT] using this

theorem rowT_rest {k k' m : Nat} {Z Z' : Nat → Bool} {d : Nat} (h : d ≠ 0) : rowT k' Z' m O D L d = rowT k Z m O D L d := by unfold rowT; rw [if_neg h, if_neg h]
theorem valT_rest {d : Nat} (h : d ≠ 0) : valT lv' iv D L d = valT lv iv D L d := by unfold valT; rw [if_neg h, if_neg h]

/-- One truth value more. -/
theorem OT.live (h : OT W B k Z m O D L lv iv) (hg : W.grownBy W' lv.ownBlock) (hown : W'.ownsRow B 4 1 lv' (k + 1) (boolv (k + 1) Z)) (hb : ∀ b, lv'.ownBlock = some b → lv.ownBlock = some b ∨ W.heap.size ≤ b) : OT W' B (k + 1) Z m O D L lv' iv := by
  have key : ∀ d, d < 2 + 2 * m → d ≠ 0 → ∀ b, (valT lv iv D L d).ownBlock = some b → b < W.heap.size ∧ lv.ownBlock ≠ some b := fun d hl hne b hb => ⟨(owns_block (h.rows.own d hl) hb).2, fun e => h.rows.apart d 0 hl (by omega) hne b hb (by simpa [valT] using e)⟩
  refine ⟨⟨fun d hl => ?_, fun d1 d2 g1 g2 hne b h1 h2 => ?_⟩⟩
  · by_cases e : d = 0
    · subst e; simpa [rowT, valT] using hown
    · rw [rowT_rest (k := k) (Z := Z) e, valT_rest (lv := lv) e]
      exact owns_kept (h.rows.own d hl) hg fun b hb => (key d hl e b hb).2
  · by_cases e1 : d1 = 0
    · have e2 : d2 ≠ 0 := fun e => hne (e1.trans e.symm)
      subst e1
      rw [valT_rest (lv := lv) e2] at h2
      have h1' : lv'.ownBlock = some b := by simpa [valT] using h1
      have := key d2 g2 e2 b h2
      rcases hb b h1' with e | e
      · exact this.2 e
      · omega
    · by_cases e2 : d2 = 0
      · subst e2
        rw [valT_rest (lv := lv) e1] at h1
        have h2' : lv'.ownBlock = some b := by simpa [valT] using h2
        have := key d1 g1 e1 b h1
        rcases hb b h2' with e | e
        · exact this.2 e
        · omega
      · rw [valT_rest (lv := lv) e1] at h1
        rw [valT_rest (lv := lv) e2] at h2
        exact h.rows.apart d1 d2 g1 g2 hne b h1 h2

/-- One place that was turned more: its lists are new, the list of them has grown. -/
theorem OT.item (h : OT W B k Z m O D L lv iv) {W1 : World} {o : Int} {x : Nd} {l : Loc} (hN : NewNn W x l W1) (hB : B ≤ W.heap.size) (hg : W1.grownBy W' iv.ownBlock) (hown : W'.ownsRow B 53 5 iv' (m + 1) (rowsT O D L m ++ nt5 o x l)) (hb : ∀ b, iv'.ownBlock = some b → iv.ownBlock = some b ∨ W1.heap.size ≤ b) :
    OT W' B k Z (m + 1) (fun i => if i = m then o else O i) (fun i => if i = m then x else D i) (fun i => if i = m then l else L i) lv iv' := by
  have h1 := h.below hN.bel
  have hsz := hN.bel.size
  have hrow : rowsT (fun i => if i = m then o else O i) (fun i => if i = m then x else D i) (fun i => if i = m then l else L i) (m + 1) = rowsT O D L m ++ nt5 o x l := by
    rw [rowsT, rowsT_ext (O := O) (D := D) (L := L) m (fun i hi => by simp [show i ≠ m by omega])]
    simp
  have hib : ∀ b, iv.ownBlock = some b → b < W.heap.size := fun b e => (owns_block h.ownI e).2
  have key : ∀ d, d < 2 + 2 * m → d ≠ 1 → ∀ b, (valT lv iv D L d).ownBlock = some b → b < W.heap.size ∧ iv.ownBlock ≠ some b := fun d hl hne b hb => ⟨(owns_block (h.rows.own d hl) hb).2, fun e => h.rows.apart d 1 hl (by omega) hne b hb (by simpa [valT] using e)⟩
  have e1 : rowT k Z (m + 1) (fun i => if i = m then o else O i) (fun i => if i = m then x else D i) (fun i => if i = m then l else L i) 1 = ⟨53, 5, m + 1, rowsT O D L m ++ nt5 o x l⟩ := by unfold rowT; rw [hrow]; simp
  have v1 : valT lv iv' (fun i => if i = m then x else D i) (fun i => if i = m then l else L i) 1 = iv' := by simp [valT]
  have e2 : rowT k Z (m + 1) (fun i => if i = m then o else O i) (fun i => if i = m then x else D i) (fun i => if i = m then l else L i) (2 + 2 * m) = ⟨9, 1, x.nn, strv (lst x.nn x.names)⟩ := by
    have hi : (2 + 2 * m - 2) / 2 = m := by omega
    unfold rowT; rw [if_neg (by omega), if_neg (by omega), if_pos (by omega)]; simp [hi]
  have v2 : valT lv iv' (fun i => if i = m then x else D i) (fun i => if i = m then l else L i) (2 + 2 * m) = .slice l.nA x.nn l.nc := by
    have hi : (2 + 2 * m - 2) / 2 = m := by omega
    unfold valT; rw [if_neg (by omega), if_neg (by omega), if_pos (by omega)]; simp [hi]
  have e3 : rowT k Z (m + 1) (fun i => if i = m then o else O i) (fun i => if i = m then x else D i) (fun i => if i = m then l else L i) (3 + 2 * m) = ⟨3, 1, x.kn, intv0 x.kn x.kids⟩ := by
    have hi : (3 + 2 * m - 2) / 2 = m := by omega
    unfold rowT; rw [if_neg (by omega), if_neg (by omega), if_neg (by omega)]; simp [hi]
  have v3 : valT lv iv' (fun i => if i = m then x else D i) (fun i => if i = m then l else L i) (3 + 2 * m) = .slice l.kA x.kn l.kc := by
    have hi : (3 + 2 * m - 2) / 2 = m := by omega
    unfold valT; rw [if_neg (by omega), if_neg (by omega), if_neg (by omega)]; simp [hi]
  have e4 : ∀ d, d < 2 + 2 * m → d ≠ 1 → rowT k Z (m + 1) (fun i => if i = m then o else O i) (fun i => if i = m then x else D i) (fun i => if i = m then l else L i) d = rowT k Z m O D L d := fun d hl hne => by
    unfold rowT
    by_cases e0 : d = 0
    · rw [if_pos e0, if_pos e0]
    · have hi : (d - 2) / 2 ≠ m := by omega
      rw [if_neg e0, if_neg hne, if_neg e0, if_neg hne]; simp [hi]
  have v4 : ∀ d, d < 2 + 2 * m → d ≠ 1 → valT lv iv' (fun i => if i = m then x else D i) (fun i => if i = m then l else L i) d = valT lv iv D L d := fun d hl hne => by
    unfold valT
    by_cases e0 : d = 0
    · rw [if_pos e0, if_pos e0]
    · have hi : (d - 2) / 2 ≠ m := by omega
      rw [if_neg e0, if_neg hne, if_neg e0, if_neg hne]; simp [hi]
  have hcase : ∀ d, d < 2 + 2 * (m + 1) → (d < 2 + 2 * m ∧ d ≠ 1) ∨ d = 1 ∨ d = 2 + 2 * m ∨ d = 3 + 2 * m := fun d hl => by omega
  have hnl : ∀ b, (Value.slice l.nA x.nn l.nc).ownBlock = some b → W.heap.size ≤ b ∧ b < W1.heap.size := fun b e => owns_block hN.names e
  have hkl : ∀ b, (Value.slice l.kA x.kn l.kc).ownBlock = some b → W.heap.size ≤ b ∧ b < W1.heap.size := fun b e => owns_block hN.kids e
  refine ⟨⟨fun d hl => ?_, fun d1 d2 g1 g2 hne b p1 p2 => ?_⟩⟩
  · rcases hcase d hl with ⟨h2, h3⟩ | rfl | rfl | rfl
    · rw [e4 d h2 h3, v4 d h2 h3]
      exact owns_kept (h1.rows.own d h2) hg fun b hb => (key d h2 h3 b hb).2
    · rw [e1, v1]; exact hown
    · rw [e2, v2]
      exact owns_kept (owns_lower hN.names hB) hg fun b hb e => by have h4 := hnl b hb; have h5 := hib b e; omega
    · rw [e3, v3]
      exact owns_kept (owns_lower hN.kids hB) hg fun b hb e => by have h4 := hkl b hb; have h5 := hib b e; omega
  · have cl : ∀ d, d < 2 + 2 * (m + 1) → (valT lv iv' (fun i => if i = m then x else D i) (fun i => if i = m then l else L i) d).ownBlock = some b → (d < 2 + 2 * m ∧ d ≠ 1 ∧ (valT lv iv D L d).ownBlock = some b ∧ b < W.heap.size ∧ iv.ownBlock ≠ some b) ∨ (d = 1 ∧ (iv.ownBlock = some b ∧ b < W.heap.size ∨ W1.heap.size ≤ b)) ∨ (d = 2 + 2 * m ∧ (Value.slice l.nA x.nn l.nc).ownBlock = some b ∧ W.heap.size ≤ b ∧ b < W1.heap.size) ∨ (d = 3 + 2 * m ∧ (Value.slice l.kA x.kn l.kc).ownBlock = some b ∧ W.heap.size ≤ b ∧ b < W1.heap.size) := fun d hl hv => by
      rcases hcase d hl with ⟨h2, h3⟩ | rfl | rfl | rfl
      · rw [v4 d h2 h3] at hv
        exact Or.inl ⟨h2, h3, hv, key d h2 h3 b hv⟩
      · rw [v1] at hv
        exact Or.inr (Or.inl ⟨rfl, (hb b hv).imp (fun e => ⟨e, hib b e⟩) id⟩)
      · rw [v2] at hv
        exact Or.inr (Or.inr (Or.inl ⟨rfl, hv, hnl b hv⟩))
      · rw [v3] at hv
        exact Or.inr (Or.inr (Or.inr ⟨rfl, hv, hkl b hv⟩))
    rcases cl d1 g1 p1 with ⟨a1, a2, a3, a4, a5⟩ | ⟨a1, a2⟩ | ⟨a1, a2, a3, a4⟩ | ⟨a1, a2, a3, a4⟩ <;> rcases cl d2 g2 p2 with ⟨z1, z2, z3, z4, z5⟩ | ⟨z1, z2⟩ | ⟨z1, z2, z3, z4⟩ | ⟨z1, z2, z3, z4⟩
    · exact h.rows.apart d1 d2 a1 z1 hne b a3 z3
    · rcases z2 with ⟨e, _⟩ | e
      · exact a5 e
      · omega
    · omega
    · omega
    · rcases a2 with ⟨e, _⟩ | e
      · exact z5 e
      · omega
    · omega
    · rcases a2 with ⟨_, e⟩ | e <;> omega
    · rcases a2 with ⟨_, e⟩ | e <;> omega
    · omega
    · rcases z2 with ⟨_, e⟩ | e <;> omega
    · omega
    · exact hN.apart b a2 z2
    · omega
    · rcases z2 with ⟨_, e⟩ | e <;> omega
    · exact hN.apart b z2 a2
    · omega
end

section
variable {W W' : World} {B k : Nat} {Z Z' : Nat → Bool} {m : Nat} {O O' : Nat → Int} {D D' : Nat → Nd} {L : Nat → Loc} {lv iv : Value}

theorem OT.turn (h : OT W B k Z m O D L lv iv) {d0 : Nat} (hd0 : d0 < 2 + 2 * m) (hg : W.grownBy W' (valT lv iv D L d0).ownBlock) (hrow : ∀ d, d < 2 + 2 * m → d ≠ d0 → rowT k Z' m O' D' L d = rowT k Z m O D L d) (hval : ∀ d, d < 2 + 2 * m → valT lv iv D' L d = valT lv iv D L d)
    (hown : W'.ownsRow B (rowT k Z' m O' D' L d0).e (rowT k Z' m O' D' L d0).size (valT lv iv D L d0) (rowT k Z' m O' D' L d0).n (rowT k Z' m O' D' L d0).xs) : OT W' B k Z' m O' D' L lv iv := by
  refine ⟨⟨fun d hl => ?_, fun d1 d2 g1 g2 hne b h1 h2 => ?_⟩⟩
  · rw [hval d hl]
    by_cases e : d = d0
    · subst e; exact hown
    · rw [hrow d hl e]
      exact owns_kept (h.rows.own d hl) hg fun b hb => Ne.symm (Ne.symm (h.rows.apart d d0 hl hd0 e b hb))
  · rw [hval d1 g1] at h1
    rw [hval d2 g2] at h2
    exact h.rows.apart d1 d2 g1 g2 hne b h1 h2

/-- The same lengths everywhere: the same addresses. -/
theorem valT_same (hl : ∀ i, i < m → (D' i).nn = (D i).nn ∧ (D' i).kn = (D i).kn) : ∀ d, d < 2 + 2 * m → valT lv iv D' L d = valT lv iv D L d := fun d hd => by
  unfold valT
  by_cases e0 : d = 0
  · rw [if_pos e0, if_pos e0]
  · by_cases e1 : d = 1
    · rw [if_neg e0, if_pos e1, if_neg e0, if_pos e1]
    · rw [if_neg e0, if_neg e1, if_neg e0, if_neg e1, (hl ((d - 2) / 2) (by omega)).1, (hl ((d - 2) / 2) (by omega)).2]

/-- The truth values are others. -/
theorem OT.turnLive (h : OT W B k Z m O D L lv iv) (hg : W.grownBy W' lv.ownBlock) (hown : W'.ownsRow B 4 1 lv k (boolv k Z')) : OT W' B k Z' m O D L lv iv :=
  h.turn (d0 := 0) (by omega) (by simpa [valT] using hg) (fun d hl hne => rowT_rest hne) (fun d hl => rfl) (by simpa [rowT, valT] using hown)

/-- The list of places holds others, of the same lists. -/
theorem OT.turnItems (h : OT W B k Z m O D L lv iv) (hl : ∀ i, i < m → (D' i).nn = (D i).nn ∧ (D' i).kn = (D i).kn ∧ (D' i).names = (D i).names ∧ (D' i).kids = (D i).kids) (hg : W.grownBy W' iv.ownBlock) (hown : W'.ownsRow B 53 5 iv m (rowsT O' D' L m)) : OT W' B k Z m O' D' L lv iv :=
  h.turn (d0 := 1) (by omega) (by simpa [valT] using hg) (fun d hd hne => by
    unfold rowT
    by_cases e0 : d = 0
    · rw [if_pos e0, if_pos e0]
    · obtain ⟨a1, a2, a3, a4⟩ := hl ((d - 2) / 2) (by omega)
      rw [if_neg e0, if_neg hne, if_neg e0, if_neg hne, a1, a2, a3, a4]) (valT_same fun i hi => ⟨(hl i hi).1, (hl i hi).2.1⟩) (by simpa [rowT, valT] using hown)

/-- The names of a place are others. -/
theorem OT.turnNames (h : OT W B k Z m O D L lv iv) {i : Nat} (hi : i < m) (S : Nat → ByteArray) (hg : W.grownBy W' (Value.slice (L i).nA (D i).nn (L i).nc).ownBlock) (hown : W'.ownsRow B 9 1 (.slice (L i).nA (D i).nn (L i).nc) (D i).nn (strv (lst (D i).nn S))) :
    OT W' B k Z m O (fun j => if j = i then { D i with names := S } else D j) L lv iv := by
  have hd : (2 + 2 * i - 2) / 2 = i := by omega
  have hv : valT lv iv D L (2 + 2 * i) = .slice (L i).nA (D i).nn (L i).nc := by unfold valT; rw [if_neg (by omega), if_neg (by omega), if_pos (by omega), hd]
  refine h.turn (d0 := 2 + 2 * i) (by omega) (by rw [hv]; exact hg) (fun d hdl hne => ?_) (valT_same fun j hj => by by_cases e : j = i <;> simp [e]) ?_
  · have hrows : rowsT O (fun j => if j = i then { D i with names := S } else D j) L m = rowsT O D L m := by
      have key : ∀ q, rowsT O (fun j => if j = i then { D i with names := S } else D j) L q = rowsT O D L q := fun q => by
        induction q with
        | zero => rfl
        | succ q ih =>
          rw [rowsT, rowsT, ih]
          by_cases e : q = i
          · subst e; simp [nt5]
          · simp [e]
      exact key m
    unfold rowT
    by_cases e0 : d = 0
    · rw [if_pos e0, if_pos e0]
    · by_cases e1 : d = 1
      · rw [if_neg e0, if_pos e1, if_neg e0, if_pos e1, hrows]
      · rw [if_neg e0, if_neg e1, if_neg e0, if_neg e1]
        by_cases e : (d - 2) / 2 = i
        · have : d % 2 ≠ 0 := by omega
          rw [if_neg this, if_neg this]
          simp [e]
        · simp [e]
  · rw [hv]
    unfold rowT
    rw [if_neg (by omega), if_neg (by omega), if_pos (by omega), hd]
    simpa using hown

/-- The places in a directory are others. -/
theorem OT.turnKids (h : OT W B k Z m O D L lv iv) {i : Nat} (hi : i < m) (K : Nat → Int) (hg : W.grownBy W' (Value.slice (L i).kA (D i).kn (L i).kc).ownBlock) (hown : W'.ownsRow B 3 1 (.slice (L i).kA (D i).kn (L i).kc) (D i).kn (intv0 (D i).kn K)) :
    OT W' B k Z m O (fun j => if j = i then { D i with kids := K } else D j) L lv iv := by
  have hd : (3 + 2 * i - 2) / 2 = i := by omega
  have hv : valT lv iv D L (3 + 2 * i) = .slice (L i).kA (D i).kn (L i).kc := by unfold valT; rw [if_neg (by omega), if_neg (by omega), if_neg (by omega), hd]
  refine h.turn (d0 := 3 + 2 * i) (by omega) (by rw [hv]; exact hg) (fun d hdl hne => ?_) (valT_same fun j hj => by by_cases e : j = i <;> simp [e]) ?_
  · have hrows : rowsT O (fun j => if j = i then { D i with kids := K } else D j) L m = rowsT O D L m := by
      have key : ∀ q, rowsT O (fun j => if j = i then { D i with kids := K } else D j) L q = rowsT O D L q := fun q => by
        induction q with
        | zero => rfl
        | succ q ih =>
          rw [rowsT, rowsT, ih]
          by_cases e : q = i
          · subst e; simp [nt5]
          · simp [e]
      exact key m
    unfold rowT
    by_cases e0 : d = 0
    · rw [if_pos e0, if_pos e0]
    · by_cases e1 : d = 1
      · rw [if_neg e0, if_pos e1, if_neg e0, if_pos e1, hrows]
      · rw [if_neg e0, if_neg e1, if_neg e0, if_neg e1]
        by_cases e : (d - 2) / 2 = i
        · have : d % 2 = 0 := by omega
          rw [if_pos this, if_pos this]
          simp [e]
        · simp [e]
  · rw [hv]
    unfold rowT
    rw [if_neg (by omega), if_neg (by omega), if_neg (by omega), hd]
    simpa using hown
end

section
variable {O O' : Nat → Int} {D D' : Nat → Nd} {L : Nat → Loc}

theorem rowsT_set {m i r : Nat} {u : Value} (hi : i < m) (hr : r < 5) (hx : nt5 (O' i) (D' i) (L i) = (nt5 (O i) (D i) (L i)).set r u) (ho : ∀ j, j < m → j ≠ i → O' j = O j ∧ D' j = D j) : (rowsT O D L m).set (i * 5 + r) u = rowsT O' D' L m := by
  apply List.ext_getElem?
  intro q
  by_cases hq : q < m * 5
  · have h1 := rowsT_get (O := O') (D := D') (L := L) m (q / 5) (by omega) (q % 5) (by omega)
    have h2 := rowsT_get (O := O) (D := D) (L := L) m (q / 5) (by omega) (q % 5) (by omega)
    rw [show q / 5 * 5 + q % 5 = q by omega] at h1 h2
    rw [h1, List.getElem?_set]
    by_cases e : q / 5 = i
    · rw [e, hx, List.getElem?_set]
      by_cases e2 : i * 5 + r = q
      · have e3 : r = q % 5 := by omega
        rw [if_pos e2, if_pos (by rw [rowsT_len]; omega), if_pos e3, if_pos (by simp [nt5]; omega)]
      · have e3 : r ≠ q % 5 := by omega
        rw [if_neg e2, if_neg e3, h2, e]
    · obtain ⟨a1, a2⟩ := ho (q / 5) (by omega) e
      rw [if_neg (by omega), h2, a1, a2]
  · rw [List.getElem?_eq_none (by rw [List.length_set, rowsT_len]; omega), List.getElem?_eq_none (by rw [rowsT_len]; omega)]
end

section
variable {W : World} {B k : Nat} {Z : Nat → Bool} {m : Nat} {O : Nat → Int} {D : Nat → Nd} {L : Nat → Loc} {lv iv : Value} {g ic : Nat}

/-- The cells of a place that was turned. -/
theorem OT.cells (h : OT W B k Z m O D L lv (.slice (some ⟨g, 0, none⟩) m ic)) {i : Nat} (hi : i < m) : W.cell? ⟨g, i * 5, none⟩ = some (.int .i64 (D i).kind) ∧ W.cell? ⟨g, i * 5 + 1, none⟩ = some (.string (D i).text) ∧
    W.cell? ⟨g, i * 5 + 2, none⟩ = some (.slice (L i).nA (D i).nn (L i).nc) ∧ W.cell? ⟨g, i * 5 + 3, none⟩ = some (.slice (L i).kA (D i).kn (L i).kc) ∧ W.cell? ⟨g, i * 5 + 4, none⟩ = some (.int .i64 (D i).turn) := by
  have key : ∀ r, r < 5 → W.cell? ⟨g, i * 5 + r, none⟩ = (nt5 (O i) (D i) (L i))[r]? := fun r hr => by
    rw [h.ownI.cellAt (i * 5 + r) (by omega), rowsT_get m i hi r hr]
  exact ⟨key 0 (by omega), key 1 (by omega), key 2 (by omega), key 3 (by omega), key 4 (by omega)⟩

theorem OT.free (h : OT W B k Z m O D L lv (.slice (some ⟨g, 0, none⟩) m ic)) (j : Nat) : W.frozen? ⟨g, j, none⟩ = false := h.ownI.frozenAt j

theorem OT.putKind (h : OT W B k Z m O D L lv (.slice (some ⟨g, 0, none⟩) m ic)) {i : Nat} (hi : i < m) (z : Int) : OT (W.setCell ⟨g, i * 5, none⟩ (.int .i64 z)) B k Z m O (fun j => if j = i then { D i with kind := z } else D j) L lv (.slice (some ⟨g, 0, none⟩) m ic) := by
  obtain ⟨h1, h2⟩ := h.ownI.stored (i * 5 + 0) (.int .i64 z)
  rw [rowsT_set (O' := O) (D' := fun j => if j = i then { D i with kind := z } else D j) hi (by omega) (by simp [nt5]) (fun j hj e => by simp [e])] at h1
  exact h.turnItems (fun j hj => by by_cases e : j = i <;> simp [e]) h2 h1

theorem OT.putText (h : OT W B k Z m O D L lv (.slice (some ⟨g, 0, none⟩) m ic)) {i : Nat} (hi : i < m) (s : ByteArray) : OT (W.setCell ⟨g, i * 5 + 1, none⟩ (.string s)) B k Z m O (fun j => if j = i then { D i with text := s } else D j) L lv (.slice (some ⟨g, 0, none⟩) m ic) := by
  obtain ⟨h1, h2⟩ := h.ownI.stored (i * 5 + 1) (.string s)
  rw [rowsT_set (O' := O) (D' := fun j => if j = i then { D i with text := s } else D j) hi (by omega) (by simp [nt5]) (fun j hj e => by simp [e])] at h1
  exact h.turnItems (fun j hj => by by_cases e : j = i <;> simp [e]) h2 h1

theorem OT.putTurn (h : OT W B k Z m O D L lv (.slice (some ⟨g, 0, none⟩) m ic)) {i : Nat} (hi : i < m) (z : Int) : OT (W.setCell ⟨g, i * 5 + 4, none⟩ (.int .i64 z)) B k Z m O (fun j => if j = i then { D i with turn := z } else D j) L lv (.slice (some ⟨g, 0, none⟩) m ic) := by
  obtain ⟨h1, h2⟩ := h.ownI.stored (i * 5 + 4) (.int .i64 z)
  rw [rowsT_set (O' := O) (D' := fun j => if j = i then { D i with turn := z } else D j) hi (by omega) (by simp [nt5]) (fun j hj e => by simp [e])] at h1
  exact h.turnItems (fun j hj => by by_cases e : j = i <;> simp [e]) h2 h1

theorem OT.ownN (h : OT W B k Z m O D L lv iv) {i : Nat} (hi : i < m) : W.ownsRow B 9 1 (.slice (L i).nA (D i).nn (L i).nc) (D i).nn (strv (lst (D i).nn (D i).names)) := by
  have hd : (2 + 2 * i - 2) / 2 = i := by omega
  have := h.rows.own (2 + 2 * i) (by omega)
  unfold rowT valT at this
  rw [if_neg (by omega), if_neg (by omega), if_pos (by omega), if_neg (by omega), if_neg (by omega), if_pos (by omega), hd] at this
  exact this

theorem OT.ownK (h : OT W B k Z m O D L lv iv) {i : Nat} (hi : i < m) : W.ownsRow B 3 1 (.slice (L i).kA (D i).kn (L i).kc) (D i).kn (intv0 (D i).kn (D i).kids) := by
  have hd : (3 + 2 * i - 2) / 2 = i := by omega
  have := h.rows.own (3 + 2 * i) (by omega)
  unfold rowT valT at this
  rw [if_neg (by omega), if_neg (by omega), if_neg (by omega), if_neg (by omega), if_neg (by omega), if_neg (by omega), hd] at this
  exact this
end


end Go.Proofs.Yteoanlkmkmajjaa

/-
  What the small helpers of the exact laws do at a list of texts that lies in memory: szStringS counts it, toStringS makes a copy of it, eqStringS holds two of them against each other.
-/
namespace Go.Proofs.Yteoanlkmkmajjaa
open Go.RowKit
set_option linter.unusedVariables false

set_option maxHeartbeats 400000 in
theorem szStringS_any (a : Option Addr) (n c : Nat) (S : Nat → ByteArray) (left : Int) (w : World) (hS : IsStrs w a n S) (hm : Small n S) (hn : n ≤ maxLen) (h0 : 0 ≤ left) (h1 : left ≤ 1048576) :
    Calls Try.prog 68 #[.slice a n c, .int .i64 left] w fun e w' => w = w' ∧ ∃ r : Int, e = .returned (.int .i64 r) ∧ r ≤ left ∧ (0 ≤ r → r + n + sumTo S n ≤ left) := by
  unfold maxLen at hn
  by_cases hbig : left < n
  · go_enter Try.func68, Try.ntmps68
    go_wp2
    go_ret
    exact ⟨rfl, -1, rfl, by omega, fun h => by omega⟩
  · go_enter Try.func68, Try.ntmps68
    go_wp2
    go_loop [1, 5] (fun l i => ∃ (k : Nat) (r : Int), k ≤ n ∧ 0 ≤ r ∧ i = .int .i64 k ∧ l = .int .i64 r ∧ r + n + sumTo S k = left) (fun _ i => n - (intOf i).toNat)
    case atStart => exact ⟨0, left - n, Nat.zero_le _, by omega, rfl, rfl, by simp [sumTo]⟩
    case round =>
      obtain ⟨k, r, hk, hr, rfl, rfl, hsum⟩ := hrel
      by_cases hlt : k < n
      · obtain ⟨b, off, rfl, hlt2, hc⟩ := hS.at hlt
        have hck := hc k hlt
        have hmk := hm k hlt
        have hss := sumTo_succ S k
        have HS : Hid (sumTo S (k + 1) = sumTo S k + (S k).size) := hss
        have HM : Hid (r + n + sumTo S k = left) := hsum
        unfold maxLen at hmk
        have hr2 : r ≤ 1048576 := by omega
        clear hc hss hsum
        go_wp2
        · go_ret
          exact ⟨rfl, -1, rfl, by omega, fun h => by omega⟩
        · go_round
          case rel => exact ⟨k + 1, r - (S k).size, by omega, by omega, by go_num, by go_num, by have e1 := HS.out; have e2 := HM.out; omega⟩
          case measure => simp [intOf]; omega
      · go_wp2
        go_ret
        exact ⟨rfl, r, rfl, by omega, fun _ => by have : k = n := by omega
                                                  subst this; omega⟩


theorem copy_step (S : Nat → ByteArray) (i k : Nat) : (if i = k then Value.string (S k) else if i < k then .string (S i) else .string ByteArray.empty) = if i < k + 1 then .string (S i) else .string ByteArray.empty := by
  by_cases h : i = k
  · subst h; simp
  · by_cases h2 : i < k
    · simp [h, h2, show i < k + 1 by omega]
    · simp [h, h2, show ¬ i < k + 1 by omega]

set_option maxHeartbeats 400000 in
theorem toStringS_any (a : Option Addr) (n c : Nat) (S : Nat → ByteArray) (w : World) (hS : IsStrs w a n S) (hn : n ≤ 1048576) :
    Calls Try.prog 73 #[.slice a n c] w fun e w' => e = .returned (.slice (some ⟨w.heap.size, 0, none⟩) n n) ∧ Below w.heap.size w w' ∧ w'.rowIs w.heap.size 9 n (fun i => .string (S i)) := by
  have hmk := fun w => run_make_row' (P := Try.prog) 50 9 (.string ByteArray.empty) 16 Try.underlying50 infoStr rfl .i64 .i64 n (by omega) (by omega) w
  go_enter Try.func73, Try.ntmps73
  go_wp2
  go_loopw [4] (fun i wr => ∃ k : Nat, k ≤ n ∧ i = .int .i64 k ∧ Below w.heap.size w wr ∧ wr.rowIs w.heap.size 9 n (fun j => if j < k then .string (S j) else .string ByteArray.empty)) (fun i _ => n - (intOf i).toNat)
  case atStart => exact ⟨0, Nat.zero_le _, rfl, (Below.refl _ _).alloc (Nat.le_refl _) _, (World.rowIs_made w (.string ByteArray.empty) n 9).congr (fun i _ => by simp)⟩
  case round =>
    obtain ⟨k, hk, rfl, hb, hrow⟩ := hrel
    by_cases hlt : k < n
    · obtain ⟨b, off, rfl, hlt2, hc⟩ := hS.at hlt
      have hck : wr.cell? ⟨b, off + k, none⟩ = some (.string (S k)) := by rw [hb.cell (p := ⟨b, off + k, none⟩) hlt2]; exact hc k hlt
      have hcr := hrow.cell hlt
      have hfr := hrow.frozen k
      have HB : Hid (Below w.heap.size w wr) := hb
      have HR : Hid (wr.rowIs w.heap.size 9 n (fun j => if j < k then .string (S j) else .string ByteArray.empty)) := hrow
      clear hc hb hrow
      go_wp2
      go_roundw
      case rel => exact ⟨k + 1, by omega, by go_num, HB.out.setCell (Nat.le_refl _) _, (HR.out.set k (.string (S k))).congr (fun i _ => copy_step S i k)⟩
      case measure => simp [intOf]; omega
    · have HB : Hid (Below w.heap.size w wr) := hb
      have HR : Hid (wr.rowIs w.heap.size 9 n (fun j => if j < k then .string (S j) else .string ByteArray.empty)) := hrow
      clear hb hrow
      go_wp2
      go_ret
      exact ⟨rfl, HB.out, HR.out.congr (fun i hi => by simp [show i < k by omega])⟩

set_option maxHeartbeats 400000 in
theorem eqStringS_any (a a' : Option Addr) (n c m c' : Nat) (S T : Nat → ByteArray) (w : World) (hS : IsStrs w a n S) (hT : IsStrs w a' m T) (hn : n ≤ maxLen) (hm : m ≤ maxLen) :
    Calls Try.prog 82 #[.slice a n c, .slice a' m c'] w fun e w' => (∃ q, w' = w.drewN q) ∧ e = .returned (.bool (decide (n = m) && eqS n S T)) := by
  unfold maxLen at hn hm
  by_cases hne : n = m
  · subst hne
    have hb : ((n : Int) != (n : Int)) = false := by simp
    go_enter Try.func82, Try.ntmps82
    go_wp2
    go_loopw [5] (fun i wr => ∃ k q : Nat, k ≤ n ∧ i = .int .i64 k ∧ wr = w.drewN q ∧ eqS k S T = true) (fun i _ => n - (intOf i).toNat)
    case atStart => exact ⟨0, 0, Nat.zero_le _, rfl, rfl, rfl⟩
    case round =>
      obtain ⟨k, q, hk, rfl, rfl, heq⟩ := hrel
      have HE : Hid (eqS k S T = true) := heq
      clear heq
      by_cases hlt : k < n
      · obtain ⟨b, off, rfl, hlt2, hc⟩ := hS.at hlt
        obtain ⟨b', off', rfl, hlt2', hc'⟩ := hT.at hlt
        have h1 := hc k hlt
        have h2 := hc' k hlt
        have hlti : (k : Int) < (n : Int) := by omega
        clear hc hc'
        go_wp2
        go_quiet (fail)
        go_wp2
        · go_ret
          exact ⟨⟨q + nq, by simp⟩, ret_bool (by rw [← eqS_not n k S T hlt ‹_›]; simp)⟩
        · go_roundw
          case rel => exact ⟨k + 1, q + nq, by omega, by go_num, rfl, eqS_succ k S T HE.out ‹_›⟩
          case measure => simp [intOf]; omega
      · have hkn : k = n := by omega
        have HK : Hid (k = n) := hkn
        clear hkn
        go_wp2
        go_ret
        exact ⟨⟨q, rfl⟩, ret_bool (by rw [← HK.out, HE.out]; simp)⟩
  · have hb : ((n : Int) != (m : Int)) = true := by simp; omega
    go_enter Try.func82, Try.ntmps82
    go_wp2
    go_ret
    exact ⟨⟨0, rfl⟩, ret_bool (by simp [hne])⟩

end Go.Proofs.Yteoanlkmkmajjaa

/-
  What the small helpers of the exact laws do at a list of numbers that lies in memory: szIntS counts it, toIntS makes a copy of it, eqIntS holds two of them against each other.
-/
namespace Go.Proofs.Yteoanlkmkmajjaa
open Go.RowKit
set_option linter.unusedVariables false

set_option maxHeartbeats 400000 in
theorem szIntS_any (a : Option Addr) (n c : Nat) (left : Int) (w : World) (hn : n ≤ maxLen) (h0 : 0 ≤ left) (h1 : left ≤ 1048576) :
    Calls Try.prog 69 #[.slice a n c, .int .i64 left] w fun e w' => w = w' ∧ ∃ r : Int, e = .returned (.int .i64 r) ∧ r ≤ left ∧ (0 ≤ r → r + n ≤ left) := by
  unfold maxLen at hn
  go_enter Try.func69, Try.ntmps69
  go_wp2
  · go_ret
    exact ⟨rfl, -1, rfl, by omega, fun h => by omega⟩
  · go_ret
    exact ⟨rfl, left - n, rfl, by omega, fun h => by omega⟩

theorem copyZ_step (Z : Nat → Int) (i k : Nat) : (if i = k then Value.int .i64 (Z k) else if i < k then .int .i64 (Z i) else .int .i64 0) = if i < k + 1 then .int .i64 (Z i) else .int .i64 0 := by
  by_cases h : i = k
  · subst h; simp
  · by_cases h2 : i < k
    · simp [h, h2, show i < k + 1 by omega]
    · simp [h, h2, show ¬ i < k + 1 by omega]

set_option maxHeartbeats 400000 in
theorem toIntS_any (a : Option Addr) (n c : Nat) (Z : Nat → Int) (w : World) (hS : IsInts w a n Z) (hn : n ≤ 1048576) :
    Calls Try.prog 74 #[.slice a n c] w fun e w' => e = .returned (.slice (some ⟨w.heap.size, 0, none⟩) n n) ∧ Below w.heap.size w w' ∧ w'.rowIs w.heap.size 3 n (fun i => .int .i64 (Z i)) := by
  have hmk := fun w => run_make_row' (P := Try.prog) 51 3 (.int .i64 0) 8 Try.underlying51 infoInt rfl .i64 .i64 n (by omega) (by omega) w
  go_enter Try.func74, Try.ntmps74
  go_wp2
  go_loopw [4] (fun i wr => ∃ k : Nat, k ≤ n ∧ i = .int .i64 k ∧ Below w.heap.size w wr ∧ wr.rowIs w.heap.size 3 n (fun j => if j < k then .int .i64 (Z j) else .int .i64 0)) (fun i _ => n - (intOf i).toNat)
  case atStart => exact ⟨0, Nat.zero_le _, rfl, (Below.refl _ _).alloc (Nat.le_refl _) _, (World.rowIs_made w (.int .i64 0) n 3).congr (fun i _ => by simp)⟩
  case round =>
    obtain ⟨k, hk, rfl, hb, hrow⟩ := hrel
    by_cases hlt : k < n
    · obtain ⟨b, off, rfl, hlt2, hc⟩ := hS.at hlt
      have hck : wr.cell? ⟨b, off + k, none⟩ = some (.int .i64 (Z k)) := by rw [hb.cell (p := ⟨b, off + k, none⟩) hlt2]; exact hc k hlt
      have hcr := hrow.cell hlt
      have hfr := hrow.frozen k
      have HB : Hid (Below w.heap.size w wr) := hb
      have HR : Hid (wr.rowIs w.heap.size 3 n (fun j => if j < k then .int .i64 (Z j) else .int .i64 0)) := hrow
      clear hc hb hrow
      go_wp2
      go_roundw
      case rel => exact ⟨k + 1, by omega, by go_num, HB.out.setCell (Nat.le_refl _) _, (HR.out.set k (.int .i64 (Z k))).congr (fun i _ => copyZ_step Z i k)⟩
      case measure => simp [intOf]; omega
    · have HB : Hid (Below w.heap.size w wr) := hb
      have HR : Hid (wr.rowIs w.heap.size 3 n (fun j => if j < k then .int .i64 (Z j) else .int .i64 0)) := hrow
      clear hb hrow
      go_wp2
      go_ret
      exact ⟨rfl, HB.out, HR.out.congr (fun i hi => by simp [show i < k by omega])⟩

set_option maxHeartbeats 400000 in
theorem eqIntS_any (a a' : Option Addr) (n c m c' : Nat) (Z Y : Nat → Int) (w : World) (hS : IsInts w a n Z) (hT : IsInts w a' m Y) (hn : n ≤ maxLen) (hm : m ≤ maxLen) :
    Calls Try.prog 83 #[.slice a n c, .slice a' m c'] w fun e w' => (∃ q, w' = w.drewN q) ∧ e = .returned (.bool (decide (n = m) && eqZ n Z Y)) := by
  unfold maxLen at hn hm
  by_cases hne : n = m
  · subst hne
    have hb : ((n : Int) != (n : Int)) = false := by simp
    go_enter Try.func83, Try.ntmps83
    go_wp2
    go_loopw [5] (fun i wr => ∃ k q : Nat, k ≤ n ∧ i = .int .i64 k ∧ wr = w.drewN q ∧ eqZ k Z Y = true) (fun i _ => n - (intOf i).toNat)
    case atStart => exact ⟨0, 0, Nat.zero_le _, rfl, rfl, rfl⟩
    case round =>
      obtain ⟨k, q, hk, rfl, rfl, heq⟩ := hrel
      have HE : Hid (eqZ k Z Y = true) := heq
      clear heq
      by_cases hlt : k < n
      · obtain ⟨b, off, rfl, hlt2, hc⟩ := hS.at hlt
        obtain ⟨b', off', rfl, hlt2', hc'⟩ := hT.at hlt
        have h1 := hc k hlt
        have h2 := hc' k hlt
        have hlti : (k : Int) < (n : Int) := by omega
        clear hc hc'
        by_cases hzy : Z k = Y k
        · have hzb : (Z k != Y k) = false := by simp [hzy]
          have HZ : Hid (Z k = Y k) := hzy
          clear hzy
          go_wp2
          go_quiet (fail)
          go_wp2
          go_roundw
          case rel => exact ⟨k + 1, q + nq, by omega, by go_num, rfl, eqZ_succ k Z Y HE.out HZ.out⟩
          case measure => simp [intOf]; omega
        · have hzb : (Z k != Y k) = true := by simp [hzy]
          have HZ : Hid (¬ Z k = Y k) := hzy
          clear hzy
          go_wp2
          go_quiet (fail)
          go_wp2
          go_ret
          exact ⟨⟨q + nq, by simp⟩, ret_bool (by rw [← eqZ_not n k Z Y hlt HZ.out]; simp)⟩
      · have hkn : k = n := by omega
        have HK : Hid (k = n) := hkn
        clear hkn
        go_wp2
        go_ret
        exact ⟨⟨q, rfl⟩, ret_bool (by rw [← HK.out, HE.out]; simp)⟩
  · have hb : ((n : Int) != (m : Int)) = true := by simp; omega
    go_enter Try.func83, Try.ntmps83
    go_wp2
    go_ret
    exact ⟨⟨0, rfl⟩, ret_bool (by simp [hne])⟩

end Go.Proofs.Yteoanlkmkmajjaa

/-
  What the small helpers of the exact laws do at a place of a tree and at a list of them.
-/
namespace Go.Proofs.Yteoanlkmkmajjaa
open Go.RowKit
set_option linter.unusedVariables false

set_option maxHeartbeats 400000 in
theorem szNode_any (d : Nd) (l : Loc) (left : Int) (w : World) (hI : NdIn w d l) (hf : d.Fits) (h0 : 0 ≤ left) (h1 : left ≤ 1048576) :
    Calls Try.prog 44 #[ndV d l, .int .i64 left] w fun e w' => Below w.heap.size w w' ∧ ∃ r : Int, e = .returned (.int .i64 r) ∧ r ≤ left ∧ (0 ≤ r → r + d.size ≤ left) := by
  unfold ndV Nd.size
  have ht := hf.text
  unfold maxLen at ht
  by_cases hbig : left < d.text.size
  · go_enter Try.func44, Try.ntmps44
    go_wp2
    go_ret
    exact ⟨(Below.refl _ _).alloc (Nat.le_refl _) _, -1, rfl, by omega, fun h => by omega⟩
  · go_enter Try.func44, Try.ntmps44
    go_wp2_with fail
    refine (szStringS_any l.nA d.nn l.nc d.names _ _ (hI.1.below (Nat.le_refl _) ((Below.refl _ _).alloc (Nat.le_refl _) _)) hf.names hf.nn (by omega) (by omega)).mono ?_
    rintro e w0 ⟨rfl, r, rfl, hr1, hr2⟩
    by_cases hr : r < 0
    · go_wp2
      go_ret
      exact ⟨(Below.refl _ _).alloc (Nat.le_refl _) _, -1, rfl, by omega, fun h => by omega⟩
    · have hr' : decide (r < 0) = false := by simp; omega
      have HR := hr2 (by omega)
      clear hr2
      go_wp2_with fail
      refine (szIntS_any l.kA d.kn l.kc _ _ hf.kn (by omega) (by omega)).mono ?_
      rintro e w0 ⟨rfl, r', rfl, hr1', hr2'⟩
      by_cases hr3 : r' < 0
      · go_wp2
        go_ret
        exact ⟨(Below.refl _ _).alloc (Nat.le_refl _) _, -1, rfl, by omega, fun h => by omega⟩
      · have hr3' : decide (r' < 0) = false := by simp; omega
        have HR' := hr2' (by omega)
        clear hr2'
        go_wp2
        go_ret
        exact ⟨(Below.refl _ _).alloc (Nat.le_refl _) _, r', rfl, by omega, fun h => by omega⟩

theorem toStringS_at (a : Option Addr) (n c : Nat) (S : Nat → ByteArray) (w : World) (hS : IsStrs w a n S) (hn : n ≤ 1048576) :
    Calls Try.prog 73 #[.slice a n c] w fun e w' => ∃ b, e = .returned (.slice (some ⟨b, 0, none⟩) n n) ∧ w.heap.size ≤ b ∧ b < w'.heap.size ∧ Below w.heap.size w w' ∧ IsStrs w' (some ⟨b, 0, none⟩) n S :=
  (toStringS_any a n c S w hS hn).mono fun e w' ⟨he, hb, hr⟩ => ⟨_, he, Nat.le_refl _, hr.lt, hb, IsStrs.row hr⟩

theorem toIntS_at (a : Option Addr) (n c : Nat) (Z : Nat → Int) (w : World) (hS : IsInts w a n Z) (hn : n ≤ 1048576) :
    Calls Try.prog 74 #[.slice a n c] w fun e w' => ∃ b, e = .returned (.slice (some ⟨b, 0, none⟩) n n) ∧ w.heap.size ≤ b ∧ b < w'.heap.size ∧ Below w.heap.size w w' ∧ IsInts w' (some ⟨b, 0, none⟩) n Z :=
  (toIntS_any a n c Z w hS hn).mono fun e w' ⟨he, hb, hr⟩ => ⟨_, he, Nat.le_refl _, hr.lt, hb, IsInts.row hr⟩

/-- What is known within toNode, the names being copied. -/
structure Node2 (w : World) (d : Nd) (l : Loc) (b : Nat) (W : World) : Prop where
  p : Blk W w.heap.size #[.int .i64 d.kind, .string d.text, .slice l.nA d.nn l.nc, .slice l.kA d.kn l.kc, .int .i64 d.turn] 79
  r : Blk W (w.heap.size + 1) #[.int .i64 0, .string ByteArray.empty, .slice none 0 0, .slice none 0 0, .int .i64 0] 53
  o : Blk W (w.heap.size + 1 + 1) #[.int .i64 d.kind, .string d.text, .slice (some ⟨b, 0, none⟩) d.nn d.nn, .slice none 0 0, .int .i64 0] 53
  bel : Below w.heap.size w W
  size : w.heap.size + 3 ≤ W.heap.size
  le : w.heap.size + 3 ≤ b
  lt : b < W.heap.size
  names : IsStrs W (some ⟨b, 0, none⟩) d.nn d.names

/-- What is known at toNode's end. -/
structure NodeEnd (w : World) (d : Nd) (b b' : Nat) (W : World) : Prop where
  r : Blk W (w.heap.size + 1) #[.int .i64 d.kind, .string d.text, .slice (some ⟨b, 0, none⟩) d.nn d.nn, .slice (some ⟨b', 0, none⟩) d.kn d.kn, .int .i64 d.turn] 53
  bel : Below w.heap.size w W
  names : IsStrs W (some ⟨b, 0, none⟩) d.nn d.names
  kids : IsInts W (some ⟨b', 0, none⟩) d.kn d.kids

set_option maxHeartbeats 1000000 in
theorem toNode_any (d : Nd) (l : Loc) (w : World) (hI : NdIn w d l) (hn : d.nn ≤ 1048576) (hk : d.kn ≤ 1048576) :
    Calls Try.prog 48 #[ndV d l] w fun e w' => ∃ l', e = .returned (ndV d l') ∧ Below w.heap.size w w' ∧ NdIn w' d l' ∧ l'.Past w.heap.size := by
  unfold ndV
  go_enter Try.func48, Try.ntmps48
  go_wp2_with fail
  refine at_world (F := New3 w _ _ _ _ _ _) (new3 w _ _ _ _ _ _) ?_
  rintro W ⟨hp, hr, ho, hb0, hs0⟩
  refine (toStringS_at l.nA d.nn l.nc d.names _ (hI.1.below (Nat.le_refl _) hb0) hn).mono ?_
  rintro e w1 ⟨b, rfl, hge, hlt, hb1, hS1⟩
  have hp1 := hp.below hb1 (by omega)
  have hr1 := hr.below hb1 (by omega)
  have ho1 := ho.below hb1 (by omega)
  have hk1 := (hI.2.below (Nat.le_refl _) hb0).below (Nat.le_refl _) hb1
  have hB1 := hb0.trans (hb1.mono (by omega))
  have o2 : w1.cell? ⟨w.heap.size + 1 + 1, 2, none⟩ = some (.slice none 0 0) := ho1.cell 2
  have f2 := ho1.frozen 2
  have p3 : w1.cell? ⟨w.heap.size, 3, none⟩ = some (.slice l.kA d.kn l.kc) := hp1.cell 3
  have hsz1 := hb1.size
  have F2 : Hid (Node2 w d l b _) := ⟨hp1.off (b' := w.heap.size + 1 + 1) (i := 2) (.slice (some ⟨b, 0, none⟩) d.nn d.nn) (by omega), hr1.off _ (by omega), ho1.set 2 _, bel_put hB1 _ (by omega), by simp; omega, by omega, by simp; omega, hS1.off _ (by omega)⟩
  clear hp hr ho hb0 hb1 hp1 hr1 ho1 hk1 hB1 hS1
  go_wp2_with fail
  refine at_world (F := Node2 w d l b) F2.out ?_
  clear F2 hge hlt f2 o2 p3 hs0 hsz1
  rintro W ⟨hp, hr, ho, hb0, hs0, hlb, hbl, hS⟩
  refine (toIntS_at l.kA d.kn l.kc d.kids _ (hI.2.below (Nat.le_refl _) hb0) hk).mono ?_
  rintro e w2 ⟨b', rfl, hge, hlt, hb1, hZ⟩
  have hp1 := hp.below hb1 (by omega)
  have hr1 := hr.below hb1 (by omega)
  have ho1 := ho.below hb1 (by omega)
  have hB1 := hb0.trans (hb1.mono (by omega))
  have hS1 := hS.below (Nat.le_refl _) hb1
  have hsz := hb1.size
  have o0 : w2.cell? ⟨w.heap.size + 1 + 1, 0, none⟩ = some (.int .i64 d.kind) := ho1.cell 0
  have o1 : w2.cell? ⟨w.heap.size + 1 + 1, 1, none⟩ = some (.string d.text) := ho1.cell 1
  have o2 : w2.cell? ⟨w.heap.size + 1 + 1, 2, none⟩ = some (.slice (some ⟨b, 0, none⟩) d.nn d.nn) := ho1.cell 2
  have o3 : w2.cell? ⟨w.heap.size + 1 + 1, 3, none⟩ = some (.slice none 0 0) := ho1.cell 3
  have o4 : w2.cell? ⟨w.heap.size + 1 + 1, 4, none⟩ = some (.int .i64 0) := ho1.cell 4
  have f3 := ho1.frozen 3
  have f4 := ho1.frozen 4
  have p4 : w2.cell? ⟨w.heap.size, 4, none⟩ = some (.int .i64 d.turn) := hp1.cell 4
  have r0 : w2.cell? ⟨w.heap.size + 1, 0, none⟩ = some (.int .i64 0) := hr1.cell 0
  have r1 : w2.cell? ⟨w.heap.size + 1, 1, none⟩ = some (.string ByteArray.empty) := hr1.cell 1
  have r2 : w2.cell? ⟨w.heap.size + 1, 2, none⟩ = some (.slice none 0 0) := hr1.cell 2
  have r3 : w2.cell? ⟨w.heap.size + 1, 3, none⟩ = some (.slice none 0 0) := hr1.cell 3
  have r4 : w2.cell? ⟨w.heap.size + 1, 4, none⟩ = some (.int .i64 0) := hr1.cell 4
  have g0 := hr1.frozen 0
  have g1 := hr1.frozen 1
  have g2 := hr1.frozen 2
  have g3 := hr1.frozen 3
  have g4 := hr1.frozen 4
  have FB : Hid (Blk w2 (w.heap.size + 1) _ _ ∧ Below w.heap.size w w2 ∧ IsStrs w2 (some ⟨b, 0, none⟩) d.nn d.names ∧ IsInts w2 (some ⟨b', 0, none⟩) d.kn d.kids) := ⟨hr1, hB1, hS1, hZ⟩
  clear hp hr ho hb0 hb1 hp1 hr1 ho1 hB1 hS1 hZ hS
  go_wp2_with fail
  obtain ⟨hr, hB, hS, hZ⟩ := FB.out
  refine end_world (F := NodeEnd w d b b')
    ⟨((((((hr.off _ (by omega)).off _ (by omega)).set 0 _).set 1 _).set 2 _).set 3 _).set 4 _,
     bel_put (bel_put (bel_put (bel_put (bel_put (bel_put (bel_put hB _ (by omega)) _ (by omega)) _ (by omega)) _ (by omega)) _ (by omega)) _ (by omega)) _ (by omega),
     ((((((hS.off _ (by omega)).off _ (by omega)).off _ (by omega)).off _ (by omega)).off _ (by omega)).off _ (by omega)).off _ (by omega),
     ((((((hZ.off _ (by omega)).off _ (by omega)).off _ (by omega)).off _ (by omega)).off _ (by omega)).off _ (by omega)).off _ (by omega)⟩ ?_
  clear hr hB hS hZ FB o0 o1 o2 o3 o4 f3 f4 p4 r0 r1 r2 r3 r4 g0 g1 g2 g3 g4
  rintro W ⟨hr, hB, hS, hZ⟩
  have r0 : W.cell? ⟨w.heap.size + 1, 0, none⟩ = some (.int .i64 d.kind) := hr.cell 0
  have r1 : W.cell? ⟨w.heap.size + 1, 1, none⟩ = some (.string d.text) := hr.cell 1
  have r2 : W.cell? ⟨w.heap.size + 1, 2, none⟩ = some (.slice (some ⟨b, 0, none⟩) d.nn d.nn) := hr.cell 2
  have r3 : W.cell? ⟨w.heap.size + 1, 3, none⟩ = some (.slice (some ⟨b', 0, none⟩) d.kn d.kn) := hr.cell 3
  have r4 : W.cell? ⟨w.heap.size + 1, 4, none⟩ = some (.int .i64 d.turn) := hr.cell 4
  exact bodyPost_ret (v := .agg #[.int .i64 d.kind, .string d.text, .slice (some ⟨b, 0, none⟩) d.nn d.nn, .slice (some ⟨b', 0, none⟩) d.kn d.kn, .int .i64 d.turn]) (by simp [results, Try.results48, go_sem, r0, r1, r2, r3, r4]) rfl ⟨⟨some ⟨b, 0, none⟩, d.nn, some ⟨b', 0, none⟩, d.kn⟩, rfl, hB, ⟨hS, hZ⟩, ⟨b, 0, rfl, by omega⟩, b', 0, rfl, by omega⟩
end Go.Proofs.Yteoanlkmkmajjaa

/-
  What the small helpers of the exact laws do at a list of places.
-/
namespace Go.Proofs.Yteoanlkmkmajjaa
open Go.RowKit
set_option linter.unusedVariables false
set_option linter.unusedSimpArgs false

set_option maxHeartbeats 400000 in
theorem szNodeS_any (a : Option Addr) (n c : Nat) (D : Nat → Nd) (L : Nat → Loc) (left : Int) (w : World) (hS : IsNds w a n D L) (hf : FitAll n D) (hn : n ≤ maxLen) (h0 : 0 ≤ left) (h1 : left ≤ 1048576) :
    Calls Try.prog 18 #[.slice a n c, .int .i64 left] w fun e w' => Below w.heap.size w w' ∧ ∃ r : Int, e = .returned (.int .i64 r) ∧ r ≤ left ∧ (0 ≤ r → r + n + sizeTo D n ≤ left) := by
  unfold maxLen at hn
  by_cases hbig : left < n
  · go_enter Try.func18, Try.ntmps18
    go_wp2
    go_ret
    exact ⟨Below.refl _ _, -1, rfl, by omega, fun h => by omega⟩
  · go_enter Try.func18, Try.ntmps18
    go_wp2
    go_loopw [1, 5] (fun l i wr => ∃ (k : Nat) (r : Int), k ≤ n ∧ 0 ≤ r ∧ i = .int .i64 k ∧ l = .int .i64 r ∧ r + n + sizeTo D k ≤ left ∧ Below w.heap.size w wr) (fun _ i _ => n - (intOf i).toNat)
    case atStart => exact ⟨0, left - n, Nat.zero_le _, by omega, rfl, rfl, by simp [sizeTo], Below.refl _ _⟩
    case round =>
      obtain ⟨k, r, hk, hr, rfl, rfl, hsum, hbel⟩ := hrel
      by_cases hlt : k < n
      · obtain ⟨b, off, rfl, hlt2, hc⟩ := (hS.below (Nat.le_refl _) hbel).at hlt
        obtain ⟨c0, c1, c2, c3, c4, hI⟩ := hc k hlt
        clear hc
        go_wp2_with fail
        refine (szNode_any (D k) (L k) r wr hI (hf k hlt) hr (by omega)).mono ?_
        rintro e w1 ⟨hb1, r', rfl, hr1, hr2⟩
        have hB := hbel.trans (hb1.mono hbel.size)
        by_cases hr3 : r' < 0
        · have hr3' : decide (r' < 0) = true := by simp; omega
          have HB : Hid (Below w.heap.size w w1) := hB
          clear hB hb1 hbel c0 c1 c2 c3 c4 hI hr2
          go_wp2
          go_ret
          exact ⟨HB.out, -1, rfl, by omega, fun h => by omega⟩
        · have hr3' : decide (r' < 0) = false := by simp; omega
          have HS : Hid (r' + n + sizeTo D (k + 1) ≤ left ∧ Below w.heap.size w w1) := ⟨by have := hr2 (by omega); rw [sizeTo_succ]; omega, hB⟩
          clear hB hb1 hbel c0 c1 c2 c3 c4 hI hr2 hsum
          go_wp2
          go_roundw
          case rel => exact ⟨k + 1, r', by omega, by omega, by go_num, by go_num, HS.out.1, HS.out.2⟩
          case measure => simp [intOf]; omega
      · go_wp2
        go_ret
        exact ⟨hbel, r, rfl, by omega, fun _ => by have : k = n := by omega
                                                   subst this; omega⟩

/-- n places lie in a block of their own, so many of them laid. -/
structure NdRow (w : World) (b n k : Nat) (D : Nat → Nd) (L : Nat → Loc) : Prop where
  row : ∃ g, w.rowIs b 53 (n * 5) g ∧ ∀ i, i < k → g (i * 5) = .int .i64 (D i).kind ∧ g (i * 5 + 1) = .string (D i).text ∧ g (i * 5 + 2) = .slice (L i).nA (D i).nn (L i).nc ∧ g (i * 5 + 3) = .slice (L i).kA (D i).kn (L i).kc ∧ g (i * 5 + 4) = .int .i64 (D i).turn
  lists : ∀ i, i < k → NdIn w (D i) (L i) ∧ (L i).Past (b + 1)

theorem NdRow.nds {w : World} {b n : Nat} {D : Nat → Nd} {L : Nat → Loc} (h : NdRow w b n n D L) : IsNds w (some ⟨b, 0, none⟩) n D L := by
  obtain ⟨⟨g, hr, hg⟩, hl⟩ := h
  refine Or.inr ⟨b, 0, rfl, hr.lt, fun i hi => ?_⟩
  obtain ⟨g0, g1, g2, g3, g4⟩ := hg i hi
  rw [Nat.zero_add, ← g0, ← g1, ← g2, ← g3, ← g4]
  exact ⟨hr.cell (by omega), hr.cell (by omega), hr.cell (by omega), hr.cell (by omega), hr.cell (by omega), (hl i hi).1⟩

theorem NdRow.below {w w' : World} {b n k : Nat} {D : Nat → Nd} {L : Nat → Loc} (h : NdRow w b n k D L) {B : Nat} (hB : w.heap.size ≤ B) (hb : Below B w w') : NdRow w' b n k D L := by
  obtain ⟨⟨g, hr, hg⟩, hl⟩ := h
  have := hr.lt
  exact ⟨⟨g, rowIs_below hr hb (by omega), hg⟩, fun i hi => ⟨(hl i hi).1.below hB hb, (hl i hi).2⟩⟩

theorem NdRow.step {w : World} {b n k : Nat} {D : Nat → Nd} {L : Nat → Loc} (h : NdRow w b n k D L) {l : Loc} (hI : NdIn w (D k) l) (hp : l.Past (b + 1)) :
    NdRow (((((w.setCell ⟨b, k * 5, none⟩ (.int .i64 (D k).kind)).setCell ⟨b, k * 5 + 1, none⟩ (.string (D k).text)).setCell ⟨b, k * 5 + 2, none⟩ (.slice l.nA (D k).nn l.nc)).setCell ⟨b, k * 5 + 3, none⟩ (.slice l.kA (D k).kn l.kc)).setCell ⟨b, k * 5 + 4, none⟩ (.int .i64 (D k).turn)) b n (k + 1) D (fun i => if i = k then l else L i) := by
  obtain ⟨⟨g, hr, hg⟩, hl⟩ := h
  refine ⟨⟨_, ((((hr.set _ _).set _ _).set _ _).set _ _).set _ _, fun i hi => ?_⟩, fun i hi => ?_⟩
  · by_cases e : i = k
    · subst e
      simp
    · have := hg i (by omega)
      simp only [if_neg e]
      simp [show ¬ i * 5 = k * 5 by omega, show ¬ i * 5 = k * 5 + 1 by omega, show ¬ i * 5 = k * 5 + 2 by omega, show ¬ i * 5 = k * 5 + 3 by omega, show ¬ i * 5 = k * 5 + 4 by omega,
        show ¬ i * 5 + 1 = k * 5 by omega, show ¬ i * 5 + 1 = k * 5 + 2 by omega, show ¬ i * 5 + 1 = k * 5 + 3 by omega, show ¬ i * 5 + 1 = k * 5 + 4 by omega,
        show ¬ i * 5 + 2 = k * 5 by omega, show ¬ i * 5 + 2 = k * 5 + 1 by omega, show ¬ i * 5 + 2 = k * 5 + 3 by omega, show ¬ i * 5 + 2 = k * 5 + 4 by omega,
        show ¬ i * 5 + 3 = k * 5 by omega, show ¬ i * 5 + 3 = k * 5 + 1 by omega, show ¬ i * 5 + 3 = k * 5 + 2 by omega, show ¬ i * 5 + 3 = k * 5 + 4 by omega,
        show ¬ i * 5 + 4 = k * 5 by omega, show ¬ i * 5 + 4 = k * 5 + 1 by omega, show ¬ i * 5 + 4 = k * 5 + 2 by omega, show ¬ i * 5 + 4 = k * 5 + 3 by omega, e]
      exact this
  · by_cases e : i = k
    · subst e
      simp only [if_true]
      exact ⟨((((hI.off _ hp).off _ hp).off _ hp).off _ hp).off _ hp, hp⟩
    · obtain ⟨h1, h2⟩ := hl i (by omega)
      simp only [if_neg e]
      exact ⟨((((h1.off _ h2).off _ h2).off _ h2).off _ h2).off _ h2, h2⟩

set_option maxHeartbeats 1000000 in
theorem toNodeS_any (a : Option Addr) (n c : Nat) (D : Nat → Nd) (L : Nat → Loc) (w : World) (hS : IsNds w a n D L) (hn : n ≤ 1048576) (hsm : ∀ i, i < n → (D i).nn ≤ 1048576 ∧ (D i).kn ≤ 1048576) :
    Calls Try.prog 21 #[.slice a n c] w fun e w' => e = .returned (.slice (some ⟨w.heap.size, 0, none⟩) n n) ∧ Below w.heap.size w w' ∧ ∃ L', NdRow w' w.heap.size n n D L' := by
  have hmk := fun w => run_make_wide (P := Try.prog) 32 53 _ 80 5 Try.underlying32 infoNode .i64 .i64 n (by omega) (by omega) w
  go_enter Try.func21, Try.ntmps21
  go_wp2
  go_loopw [4] (fun i wr => ∃ (k : Nat) (L' : Nat → Loc), k ≤ n ∧ i = .int .i64 k ∧ Below w.heap.size w wr ∧ NdRow wr w.heap.size n k D L') (fun i _ => n - (intOf i).toNat)
  case atStart =>
    obtain ⟨g, hg⟩ := rowIs_wide w #[.int .i64 0, .string ByteArray.empty, .slice none 0 0, .slice none 0 0, .int .i64 0] (n * 5) 53
    exact ⟨0, L, Nat.zero_le _, rfl, (Below.refl _ _).alloc (Nat.le_refl _) _, ⟨g, hg, fun i hi => by omega⟩, fun i hi => by omega⟩
  case round =>
    obtain ⟨k, L', hk, rfl, hb, hrow⟩ := hrel
    by_cases hlt : k < n
    · obtain ⟨b, off, rfl, hlt2, hc⟩ := (hS.below (Nat.le_refl _) hb).at hlt
      obtain ⟨c0, c1, c2, c3, c4, hI⟩ := hc k hlt
      clear hc
      go_wp2_with fail
      refine (toNode_any (D k) (L k) wr hI (hsm k hlt).1 (hsm k hlt).2).mono ?_
      rintro e w1 ⟨l', rfl, hb1, hI1, hp1⟩
      unfold ndV
      have hrow1 := hrow.below (Nat.le_refl _) hb1
      have hB := hb.trans (hb1.mono hb.size)
      have hwl : w.heap.size < wr.heap.size := by obtain ⟨⟨g, hr, _⟩, _⟩ := hrow; exact hr.lt
      have hpp := hp1.mono (show w.heap.size + 1 ≤ wr.heap.size by omega)
      have HR : Hid (NdRow w1 w.heap.size n k D L' ∧ NdIn w1 (D k) l' ∧ l'.Past (w.heap.size + 1) ∧ Below w.heap.size w w1) := ⟨hrow1, hI1, hpp, hB⟩
      obtain ⟨⟨g, hr, _⟩, _⟩ := hrow1
      have d0 := hr.cell (show k * 5 < n * 5 by omega)
      have d1 := hr.cell (show k * 5 + 1 < n * 5 by omega)
      have d2 := hr.cell (show k * 5 + 2 < n * 5 by omega)
      have d3 := hr.cell (show k * 5 + 3 < n * 5 by omega)
      have d4 := hr.cell (show k * 5 + 4 < n * 5 by omega)
      have e0 := hr.frozen (k * 5)
      have e1 := hr.frozen (k * 5 + 1)
      have e2 := hr.frozen (k * 5 + 2)
      have e3 := hr.frozen (k * 5 + 3)
      have e4 := hr.frozen (k * 5 + 4)
      clear hb hrow hr hB hb1 hI1 hp1 hpp hI c0 c1 c2 c3 c4
      go_wp2
      go_roundw
      case rel => exact ⟨k + 1, _, by omega, by go_num, bel_put (bel_put (bel_put (bel_put (bel_put HR.out.2.2.2 _ (Nat.le_refl _)) _ (Nat.le_refl _)) _ (Nat.le_refl _)) _ (Nat.le_refl _)) _ (Nat.le_refl _), HR.out.1.step HR.out.2.1 HR.out.2.2.1⟩
      case measure => simp [intOf]; omega
    · have hkn : k = n := by omega
      have HR : Hid (Below w.heap.size w wr ∧ ∃ L', NdRow wr w.heap.size n n D L') := ⟨hb, L', hkn ▸ hrow⟩
      clear hb hrow hkn
      go_wp2
      go_ret
      exact ⟨rfl, HR.out.1, HR.out.2⟩
end Go.Proofs.Yteoanlkmkmajjaa

/-
  What the exact laws' helpers answer that hold two places, two lists of places and two trees against each other.
-/
namespace Go.Proofs.Yteoanlkmkmajjaa
open Go.RowKit
set_option linter.unusedVariables false

set_option maxHeartbeats 1000000 in
theorem eqNode_any (d d' : Nd) (l l' : Loc) (w : World) (hI : NdIn w d l) (hI' : NdIn w d' l') (hf : d.Fits) (hf' : d'.Fits) :
    Calls Try.prog 57 #[ndV d l, ndV d' l'] w fun e w' => Below w.heap.size w w' ∧ e = .returned (.bool (d.same d')) := by
  have hn := hf.nn
  have hn' := hf'.nn
  have hk := hf.kn
  have hk' := hf'.kn
  unfold ndV
  go_enter Try.func57, Try.ntmps57
  go_wp2_with fail
  · go_ret
    exact ⟨((Below.refl _ _).alloc (Nat.le_refl _) _).alloc (by simp) _, ret_bool (same_kind ‹_›)⟩
  · go_ret
    exact ⟨((Below.refl _ _).alloc (Nat.le_refl _) _).alloc (by simp) _, ret_bool (same_text ‹_›)⟩
  have HK : Hid ((d.kind != d'.kind) = false ∧ (!d.text.toList == d'.text.toList) = false) := ⟨‹_›, ‹_›⟩
  refine at_world (F := New2 w _ _ _ _) (new2 w _ _ _ _) ?_
  rintro W ⟨hp, hp', hb, hs⟩
  have hI1 := hI.below (Nat.le_refl _) hb
  have hI1' := hI'.below (Nat.le_refl _) hb
  refine (eqStringS_any l.nA l'.nA d.nn l.nc d'.nn l'.nc d.names d'.names W hI1.1 hI1'.1 hn hn').mono ?_
  rintro e w1 ⟨⟨q, rfl⟩, rfl⟩
  have p3 : W.cell? ⟨w.heap.size, 3, none⟩ = some (.slice l.kA d.kn l.kc) := hp.cell 3
  have p4 : W.cell? ⟨w.heap.size, 4, none⟩ = some (.int .i64 d.turn) := hp.cell 4
  have q3 : W.cell? ⟨w.heap.size + 1, 3, none⟩ = some (.slice l'.kA d'.kn l'.kc) := hp'.cell 3
  have q4 : W.cell? ⟨w.heap.size + 1, 4, none⟩ = some (.int .i64 d'.turn) := hp'.cell 4
  have HI : Hid (IsInts W l.kA d.kn d.kids ∧ IsInts W l'.kA d'.kn d'.kids) := ⟨hI1.2, hI1'.2⟩
  have HB : Hid (Below w.heap.size w W) := hb
  clear hI1 hI1' hI hI' hp hp' hb hs hf hf'
  cases hq1 : (decide (d.nn = d'.nn) && eqS d.nn d.names d'.names) with
  | false =>
    have HQ : Hid ((decide (d.nn = d'.nn) && eqS d.nn d.names d'.names) = false) := hq1
    clear hq1
    go_wp2
    go_ret
    exact ⟨below_drewN HB.out _, ret_bool (same_names HQ.out)⟩
  | true =>
    have HQ : Hid ((decide (d.nn = d'.nn) && eqS d.nn d.names d'.names) = true) := hq1
    clear hq1
    go_wp2_with fail
    refine (eqIntS_any l.kA l'.kA d.kn l.kc d'.kn l'.kc d.kids d'.kids (W.drewN q) (HI.out.1.below (Nat.le_refl _) (below_drewN (Below.refl _ _) _)) (HI.out.2.below (Nat.le_refl _) (below_drewN (Below.refl _ _) _)) hk hk').mono ?_
    rintro e w1 ⟨⟨q', rfl⟩, rfl⟩
    cases hq1 : (decide (d.kn = d'.kn) && eqZ d.kn d.kids d'.kids) with
    | false =>
      have HZ : Hid ((decide (d.kn = d'.kn) && eqZ d.kn d.kids d'.kids) = false) := hq1
      clear hq1
      go_wp2
      go_ret
      exact ⟨below_drewN HB.out _, ret_bool (same_kids HZ.out)⟩
    | true =>
      have HZ : Hid ((decide (d.kn = d'.kn) && eqZ d.kn d.kids d'.kids) = true) := hq1
      clear hq1
      go_wp2
      · go_ret
        exact ⟨below_drewN HB.out _, ret_bool (same_turn ‹_›)⟩
      · go_ret
        exact ⟨below_drewN HB.out _, ret_bool (same_yes HK.out.1 HK.out.2 HQ.out HZ.out ‹_›)⟩

set_option maxHeartbeats 1000000 in
theorem eqNodeS_any (a a' : Option Addr) (n c m c' : Nat) (D E : Nat → Nd) (L M : Nat → Loc) (w : World) (hS : IsNds w a n D L) (hT : IsNds w a' m E M) (hf : FitAll n D) (hf' : FitAll m E) (hn : n ≤ maxLen) (hm : m ≤ maxLen) :
    Calls Try.prog 29 #[.slice a n c, .slice a' m c'] w fun e w' => Below w.heap.size w w' ∧ e = .returned (.bool (decide (n = m) && sameAll n D E)) := by
  unfold maxLen at hn hm
  by_cases hne : n = m
  · subst hne
    have hb : ((n : Int) != (n : Int)) = false := by simp
    go_enter Try.func29, Try.ntmps29
    go_wp2
    go_loopw [5] (fun i wr => ∃ k : Nat, k ≤ n ∧ i = .int .i64 k ∧ Below w.heap.size w wr ∧ sameAll k D E = true) (fun i _ => n - (intOf i).toNat)
    case atStart => exact ⟨0, Nat.zero_le _, rfl, Below.refl _ _, rfl⟩
    case round =>
      obtain ⟨k, hk, rfl, hbel, heq⟩ := hrel
      have HE : Hid (sameAll k D E = true) := heq
      clear heq
      by_cases hlt : k < n
      · have hSr := hS.below (Nat.le_refl _) hbel
        have hTr := hT.below (Nat.le_refl _) hbel
        obtain ⟨b, off, rfl, hlt2, hc⟩ := hSr.at hlt
        obtain ⟨b', off', rfl, hlt2', hc'⟩ := hTr.at hlt
        obtain ⟨c0, c1, c2, c3, c4, hI⟩ := hc k hlt
        obtain ⟨d0, d1, d2, d3, d4, hI'⟩ := hc' k hlt
        have hlti : (k : Int) < (n : Int) := by omega
        have C0 := Lat.cell (B := wr.heap.size) c0 hlt2
        have C1 := Lat.cell (B := wr.heap.size) c1 hlt2
        have C2 := Lat.cell (B := wr.heap.size) c2 hlt2
        have C3 := Lat.cell (B := wr.heap.size) c3 hlt2
        have C4 := Lat.cell (B := wr.heap.size) c4 hlt2
        have D0 := Lat.cell (B := wr.heap.size) d0 hlt2'
        have D1 := Lat.cell (B := wr.heap.size) d1 hlt2'
        have D2 := Lat.cell (B := wr.heap.size) d2 hlt2'
        have D3 := Lat.cell (B := wr.heap.size) d3 hlt2'
        have D4 := Lat.cell (B := wr.heap.size) d4 hlt2'
        have hcall : Hid (∀ n : Lat wr.heap.size wr, Calls Try.prog 57 #[ndV (D k) (L k), ndV (E k) (M k)] n.val fun e w'' => e = .returned (.bool ((D k).same (E k))) ∧ ∃ m : Lat wr.heap.size wr, w'' = m.val) := fun n =>
          Calls.lat_of (eqNode_any (D k) (E k) (L k) (M k) n.val (hI.below (Nat.le_refl _) n.bel) (hI'.below (Nat.le_refl _) n.bel) (hf k hlt) (hf' k hlt)) (fun e w' h => ⟨h.2, h.1.mono n.bel.size⟩)
        clear hc hc' hSr hTr c0 c1 c2 c3 c4 d0 d1 d2 d3 d4 hI hI'
        have HBL : Hid (Below w.heap.size w wr) := hbel
        clear hbel
        go_wp2_with fail
        refine wp_region_lat (B := wr.heap.size) (w0 := wr) (by kernel_rfl) (by kernel_rfl) (Below.refl _ _) ?_
        repeat (go_big_quiet_step (exact hcall.out _))
        refine wpQuiet_nil ?_
        rintro _ ⟨nq, rfl⟩
        have hB : Hid (Below w.heap.size w nq.val) := HBL.out.trans (nq.bel.mono HBL.out.size)
        clear hcall C0 C1 C2 C3 C4 D0 D1 D2 D3 D4
        cases hq : (D k).same (E k) with
        | false =>
          have HQ : Hid ((D k).same (E k) = false) := hq
          clear hq
          go_wp2
          go_ret
          exact ⟨hB.out, ret_bool (by rw [← sameAll_not n k D E hlt HQ.out]; simp)⟩
        | true =>
          have HQ : Hid ((D k).same (E k) = true) := hq
          clear hq
          go_wp2
          go_roundw
          case rel => exact ⟨k + 1, by omega, by go_num, hB.out, sameAll_succ k D E HE.out HQ.out⟩
          case measure => simp [intOf]; omega
      · have hkn : k = n := by omega
        have HK : Hid (k = n ∧ Below w.heap.size w wr) := ⟨hkn, hbel⟩
        clear hkn hbel
        go_wp2
        go_ret
        exact ⟨HK.out.2, ret_bool (by rw [← HK.out.1, HE.out]; simp)⟩
  · have hb : ((n : Int) != (m : Int)) = true := by simp; omega
    go_enter Try.func29, Try.ntmps29
    go_wp2
    go_ret
    exact ⟨Below.refl _ _, ret_bool (by simp [hne])⟩

set_option maxHeartbeats 400000 in
theorem szTree_any (a : Option Addr) (n c : Nat) (now : Int) (D : Nat → Nd) (L : Nat → Loc) (left : Int) (w : World) (hS : IsNds w a n D L) (hf : FitAll n D) (hn : n ≤ maxLen) (h0 : 0 ≤ left) (h1 : left ≤ 1048576) :
    Calls Try.prog 5 #[trV a n c now, .int .i64 left] w fun e w' => Below w.heap.size w w' ∧ ∃ r : Int, e = .returned (.int .i64 r) ∧ r ≤ left ∧ (0 ≤ r → r + n + sizeTo D n ≤ left) := by
  unfold trV
  go_enter Try.func5, Try.ntmps5
  go_wp2_with fail
  refine at_world (F := New1 w _ _) (new1 w _ _) ?_
  rintro W ⟨hp, hb, hs⟩
  refine (szNodeS_any a n c D L left W (hS.below (Nat.le_refl _) hb) hf hn h0 h1).mono ?_
  rintro e w1 ⟨hb1, r, rfl, hr1, hr2⟩
  have hB := hb.trans (hb1.mono (by omega))
  by_cases hr3 : r < 0
  · have hr3' : decide (r < 0) = true := by simp; omega
    have HB : Hid (Below w.heap.size w w1) := hB
    clear hB hb1 hb hp hr2
    go_wp2
    go_ret
    exact ⟨HB.out, -1, rfl, by omega, fun h => by omega⟩
  · have hr3' : decide (r < 0) = false := by simp; omega
    have HB : Hid (Below w.heap.size w w1 ∧ (0 ≤ r → r + n + sizeTo D n ≤ left)) := ⟨hB, hr2⟩
    clear hB hb1 hb hp hr2
    go_wp2
    go_ret
    exact ⟨HB.out.1, r, rfl, by omega, HB.out.2⟩

/-- What is known at toTree's end. -/
structure TreeEnd (w : World) (n : Nat) (now : Int) (D : Nat → Nd) (b : Nat) (W : World) : Prop where
  r : Blk W (w.heap.size + 1) #[.slice (some ⟨b, 0, none⟩) n n, .int .i64 now] 34
  bel : Below w.heap.size w W
  row : ∃ L', NdRow W b n n D L'

theorem NdRow.off {w : World} {b n k : Nat} {D : Nat → Nd} {L : Nat → Loc} (h : NdRow w b n k D L) {b' i : Nat} (v : Value) (hb : b' < b) : NdRow (w.setCell ⟨b', i, none⟩ v) b n k D L := by
  obtain ⟨⟨g, hr, hg⟩, hl⟩ := h
  exact ⟨⟨g, hr.setOther (a := ⟨b', i, none⟩) (show b ≠ b' by omega) v, hg⟩, fun i hi => ⟨(hl i hi).1.off v ((hl i hi).2.mono (by omega)), (hl i hi).2⟩⟩

set_option maxHeartbeats 1000000 in
theorem toTree_any (a : Option Addr) (n c : Nat) (now : Int) (D : Nat → Nd) (L : Nat → Loc) (w : World) (hS : IsNds w a n D L) (hn : n ≤ 1048576) (hsm : ∀ i, i < n → (D i).nn ≤ 1048576 ∧ (D i).kn ≤ 1048576) :
    Calls Try.prog 7 #[trV a n c now] w fun e w' => ∃ b, e = .returned (trV (some ⟨b, 0, none⟩) n n now) ∧ Below w.heap.size w w' ∧ w.heap.size ≤ b ∧ ∃ L', NdRow w' b n n D L' := by
  unfold trV
  go_enter Try.func7, Try.ntmps7
  go_wp2_with fail
  refine at_world (F := New3 w _ _ _ _ _ _) (new3 w _ _ _ _ _ _) ?_
  rintro W ⟨hp, hr, ho, hb0, hs0⟩
  refine (toNodeS_any a n c D L _ (hS.below (Nat.le_refl _) hb0) hn hsm).mono ?_
  rintro e w1 ⟨rfl, hb1, hrow⟩
  have hp1 := hp.below hb1 (by omega)
  have hr1 := hr.below hb1 (by omega)
  have ho1 := ho.below hb1 (by omega)
  have hB1 := hb0.trans (hb1.mono (by omega))
  have hsz := hb1.size
  have p1 : w1.cell? ⟨w.heap.size, 1, none⟩ = some (.int .i64 now) := hp1.cell 1
  have o0 : w1.cell? ⟨w.heap.size + 1 + 1, 0, none⟩ = some (.slice none 0 0) := ho1.cell 0
  have o1 : w1.cell? ⟨w.heap.size + 1 + 1, 1, none⟩ = some (.int .i64 0) := ho1.cell 1
  have f0 := ho1.frozen 0
  have f1 := ho1.frozen 1
  have r0 : w1.cell? ⟨w.heap.size + 1, 0, none⟩ = some (.slice none 0 0) := hr1.cell 0
  have r1 : w1.cell? ⟨w.heap.size + 1, 1, none⟩ = some (.int .i64 0) := hr1.cell 1
  have g0 := hr1.frozen 0
  have g1 := hr1.frozen 1
  have FB : Hid (Blk w1 (w.heap.size + 1) _ _ ∧ Below w.heap.size w w1 ∧ ∃ L', NdRow w1 W.heap.size n n D L') := ⟨hr1, hB1, hrow⟩
  have hs1 : w.heap.size + 3 ≤ W.heap.size := by omega
  generalize W.heap.size = bW at *
  clear hp hr ho hb0 hb1 hp1 hr1 ho1 hB1 hrow hs0
  go_wp2_with fail
  obtain ⟨hr, hB, L', hrow⟩ := FB.out
  refine end_world (F := TreeEnd w n now D bW)
    ⟨(((hr.off _ (by omega)).off _ (by omega)).set 0 _).set 1 _,
     bel_put (bel_put (bel_put (bel_put hB _ (by omega)) _ (by omega)) _ (by omega)) _ (by omega),
     L', (((hrow.off _ (by omega)).off _ (by omega)).off _ (by omega)).off _ (by omega)⟩ ?_
  clear hr hB hrow FB o0 o1 f0 f1 p1 r0 r1 g0 g1
  rintro W ⟨hr, hB, hrow⟩
  have r0 : W.cell? ⟨w.heap.size + 1, 0, none⟩ = some (.slice (some ⟨bW, 0, none⟩) n n) := hr.cell 0
  have r1 : W.cell? ⟨w.heap.size + 1, 1, none⟩ = some (.int .i64 now) := hr.cell 1
  exact bodyPost_ret (v := .agg #[.slice (some ⟨bW, 0, none⟩) n n, .int .i64 now]) (by simp [results, Try.results7, go_sem, r0, r1]) rfl ⟨bW, rfl, hB, by omega, hrow⟩

set_option maxHeartbeats 1000000 in
theorem eqTree_any (a a' : Option Addr) (n c m c' : Nat) (now now' : Int) (D E : Nat → Nd) (L M : Nat → Loc) (w : World) (hS : IsNds w a n D L) (hT : IsNds w a' m E M) (hf : FitAll n D) (hf' : FitAll m E) (hn : n ≤ maxLen) (hm : m ≤ maxLen) :
    Calls Try.prog 10 #[trV a n c now, trV a' m c' now'] w fun e w' => Below w.heap.size w w' ∧ e = .returned (.bool ((decide (n = m) && sameAll n D E) && (now == now'))) := by
  unfold trV
  go_enter Try.func10, Try.ntmps10
  go_wp2_with fail
  refine at_world (F := New2 w _ _ _ _) (new2 w _ _ _ _) ?_
  rintro W ⟨hp, hp', hb, hs⟩
  refine (eqNodeS_any a a' n c m c' D E L M W (hS.below (Nat.le_refl _) hb) (hT.below (Nat.le_refl _) hb) hf hf' hn hm).mono ?_
  rintro e w1 ⟨hb1, rfl⟩
  have hB := hb.trans (hb1.mono (by omega))
  have p1 : w1.cell? ⟨w.heap.size, 1, none⟩ = some (.int .i64 now) := (hp.below hb1 (by omega)).cell 1
  have q1 : w1.cell? ⟨w.heap.size + 1, 1, none⟩ = some (.int .i64 now') := (hp'.below hb1 (by omega)).cell 1
  have HB : Hid (Below w.heap.size w w1) := hB
  clear hS hT hf hf' hp hp' hb hs hb1 hB
  cases hq : (decide (n = m) && sameAll n D E) with
  | false =>
    have HQ : Hid ((decide (n = m) && sameAll n D E) = false) := hq
    clear hq
    go_wp2
    go_ret
    exact ⟨HB.out, ret_bool (by rw [HQ.out]; rfl)⟩
  | true =>
    have HQ : Hid ((decide (n = m) && sameAll n D E) = true) := hq
    clear hq
    cases hnc : (now == now') with
    | true =>
      have hnb : (now != now') = false := by simpa [bne] using hnc
      have HN : Hid ((now == now') = true) := hnc
      clear hnc
      go_wp2
      go_ret
      exact ⟨HB.out, ret_bool (by rw [HQ.out, HN.out]; rfl)⟩
    | false =>
      have hnb : (now != now') = true := by simp only [bne, hnc]; rfl
      have HN : Hid ((now == now') = false) := hnc
      clear hnc
      go_wp2
      go_ret
      exact ⟨HB.out, ret_bool (by rw [HQ.out, HN.out]; rfl)⟩
end Go.Proofs.Yteoanlkmkmajjaa
