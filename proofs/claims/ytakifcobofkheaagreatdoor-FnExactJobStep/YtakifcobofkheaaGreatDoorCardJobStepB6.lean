/-
  FnExactJobStep as it is stated: the card.
-/
import Derived.Test.YtakifcobofkheaaGreatDoorCardJobStepB5
import Derived.Maps.OwnIn
import Derived.Test.YtakifcobofkheaaGreatDoorRows
import Derived.ProofKit
import Derived.LaidMore
import Derived.LaidHandle
import Derived.OpenShut
import Derived.ShutString
import Derived.ChangeOld
import Derived.WalkSmall
import Derived.Stop.LaidErr
import Derived.Stop.Joined
import Derived.Test.YtakifcobofkheaaGreatDoorCards
import Derived.Test.YtakifcobofkheaaGreatDoorTie
import Derived.SevenTiedAt

/-
  What doneOf of the program answers: whether these are the first places of a tree.
-/
namespace Go.Proofs.YtakifcobofkheaaGreatDoor
open Go.RowKit Go.Deep Go.Shelf
set_option linter.unusedVariables false
set_option linter.unusedSimpArgs false
attribute [local go_sem] Oper.semAt_some

/-- What is held between two rounds. -/
structure DI (B : Nat) (w : World) (t : Tr) (l : TLoc) (ev : Value) (X : Nat → Prop) (W : World) : Prop where
  p : Blk W B (tC t l) 33
  e : Blk W (B + 1) #[ev] 31
  r : Blk W (B + 2) #[.bool false] 4
  bel : Below B w W
  low : ∀ x, X x → B + 5 ≤ x ∧ x < W.heap.size
  len : B + 5 ≤ W.heap.size

theorem DI.abides {B : Nat} {w : World} {t : Tr} {l : TLoc} {ev : Value} {X X' : Nat → Prop} {W W' : World} {row : Option Nat} (h : DI B w t l ev X W) (hg : W.grownBy W' row) (hr : ∀ r, row = some r → X r) (hX : ∀ r, X' r → X r ∨ (W.heap.size ≤ r ∧ r < W'.heap.size)) : DI B w t l ev X' W' := by
  have hs := hg.size
  have hl := h.len
  have kb : ∀ {b : Nat} {cs : Array Value} {ty : TypeId}, Blk W b cs ty → b < B + 5 → Blk W' b cs ty := fun hb hlt => hb.of_block (hg.block _ hb.lt (fun e => by have := (h.low _ (hr _ e.symm)).1; omega))
  exact ⟨kb h.p (by omega), kb h.e (by omega), kb h.r (by omega), h.bel.grown hg (by omega) (fun r e => by have := (h.low r (hr r e)).1; omega), fun r e => by
    rcases hX r e with e | e
    · have := h.low r e; omega
    · omega, by omega⟩

theorem DI.below {B : Nat} {w : World} {t : Tr} {l : TLoc} {ev : Value} {X : Nat → Prop} {W W' : World} (h : DI B w t l ev X W) (hb : Below W.heap.size W W') : DI B w t l ev X W' :=
  h.abides (row := none) ⟨hb.os, hb.tape, hb.output, hb.size, fun k hk _ => hb.block k hk⟩ (fun r e => by cases e) (fun r e => Or.inl e)

/-- How far it came. -/
def DoneAt (t : Tr) (q : Nat) (e : Nat → Nd) (pre : List Nat) : Prop := pre = upF 0 pre.length ∧ pre.length ≤ q ∧ ∀ i, i < pre.length → (e i).same (t.D i) = true

/-- What it answers. -/
def DonePost (w : World) (t : Tr) (q : Nat) (e : Nat → Nd) (r : Ending) (w' : World) : Prop := Below w.heap.size w w' ∧ ∃ b : Bool, r = .returned (.bool b) ∧ (b = true ↔ q ≤ t.n ∧ ∀ i, i < q → (e i).same (t.D i) = true)

/-- A round's box is no part of what is held. -/
def DAx (t : Tr) (l : TLoc) (T : Nat → Value → Array Value) (x : Nat) (X : Nat → Prop) (a' : Act) (W : World) : Prop :=
  ∃ V, Blk W V #[.int .i64 (t.D x).kind, .string (t.D x).text, .slice (l.L x).nA (t.D x).nn (l.L x).nc, .slice (l.L x).kA (t.D x).kn (l.L x).kc, .int .i64 (t.D x).turn] 87 ∧ a' = { tmps := T x (.pointer (some ⟨V, 0, none⟩)), defers := [] }

set_option maxRecDepth 100000 in
set_option maxHeartbeats 8000000 in
theorem doneOf_any (t : Tr) (l : TLoc) (ea : Option Addr) (q ef : Nat) (e : Nat → Nd) (g : Nat → Loc) (w : World) (hT : TIn w t l) (hD : IsNds w ea q e g) (ft : FitAll t.n t.D) (fe : FitAll q e) (hn : t.n ≤ 10) (hqm : q ≤ maxLen) :
    Calls Tryz.prog 94 #[tV t l, .slice ea q ef] w (DonePost w t q e) := by
  have hq' := hqm
  unfold maxLen at hq'
  unfold tV
  by_cases hqn : t.n < q
  · have hb : decide (t.n < q) = true := by simp; omega
    have HX : Hid (false = true ↔ q ≤ t.n ∧ ∀ i, i < q → (e i).same (t.D i) = true) := ⟨fun h => (by cases h), fun h => absurd h.1 (by omega)⟩
    clear hqn hD hT
    go_enter Tryz.func94, Tryz.ntmps94
    go_wp2
    refine end_world (F := fun U => Blk U (w.heap.size + 1 + 1) #[.bool false] 4 ∧ Below w.heap.size w U) ?_ ?_
    · obtain ⟨h0, h1, h2, hb', _⟩ := new3 w (tC t l) 33 #[.slice ea q ef] 31 #[.bool false] 4
      exact ⟨h2, hb'⟩
    rintro U ⟨hr, hB⟩
    have e0 : U.cell? ⟨w.heap.size + 1 + 1, 0, none⟩ = some (.bool false) := hr.cell 0
    exact bodyPost_ret (v := .bool false) (by simp [results, Tryz.results94, go_sem, e0]) rfl ⟨hB, false, rfl, HX.out⟩
  · have hb : decide (t.n < q) = false := by simp; omega
    have HQ : Hid (q ≤ t.n) := by show q ≤ t.n; omega
    clear hqn
    obtain ⟨b, off, hA, hbl, hcells⟩ : ∃ b off, (0 < t.n → l.a = some ⟨b, off, none⟩) ∧ (0 < t.n → b < w.heap.size) ∧ ∀ i, i < t.n → w.cell? ⟨b, off + i * 5, none⟩ = some (.int .i64 (t.D i).kind) ∧ w.cell? ⟨b, off + i * 5 + 1, none⟩ = some (.string (t.D i).text) ∧
        w.cell? ⟨b, off + i * 5 + 2, none⟩ = some (.slice (l.L i).nA (t.D i).nn (l.L i).nc) ∧ w.cell? ⟨b, off + i * 5 + 3, none⟩ = some (.slice (l.L i).kA (t.D i).kn (l.L i).kc) ∧ w.cell? ⟨b, off + i * 5 + 4, none⟩ = some (.int .i64 (t.D i).turn) := by
      rcases hT with h | ⟨b, off, ha, hlt, hc⟩
      · exact ⟨0, 0, fun h' => by omega, fun h' => by omega, fun i hi => by omega⟩
      · exact ⟨b, off, fun _ => ha, fun _ => hlt, fun i hi => ⟨(hc i hi).1, (hc i hi).2.1, (hc i hi).2.2.1, (hc i hi).2.2.2.1, (hc i hi).2.2.2.2.1⟩⟩
    refine (callsIn_wide (n := 6)).1 ?_
    refine callsIn_of_wp_marks Tryz.func94 rfl trivial ?_ rfl
    simp only [Tryz.ntmps94, List.size_toArray, List.length_cons, List.length_nil, Nat.reduceAdd, Nat.reduceSub, Array.replicate_succ, Array.replicate_zero, List.push_toArray, List.append_toArray, List.nil_append, List.cons_append]
    gi_wp2_with (refine ⟨trivial, ?_⟩; gi_at_call 64; refine (places_in _ l.a t.n l.c 0 t.now _).mono ?_; rintro e w' ⟨rfl, rfl⟩)
    obtain ⟨B, hB⟩ : ∃ B, w.heap.size = B := ⟨_, rfl⟩
    have hDI : DI B w t l (.slice ea q ef) (fun _ => False) (((((w.alloc (.cells #[.slice l.a t.n l.c, .int .i64 t.now] 33)).alloc (.cells #[.slice ea q ef] 31)).alloc (.cells #[.bool false] 4)).alloc (.cells #[.slice l.a t.n l.c, .int .i64 t.now] 33)).alloc (.cells #[.int .i64 0] 3)) := by
      obtain ⟨h0, h1, h2, hb', hs'⟩ := new3 w (tC t l) 33 #[.slice ea q ef] 31 #[.bool false] 4
      rw [hB] at h0 h1 h2 hb'
      have hb2 := ((Below.refl _ (((w.alloc (.cells (tC t l) 33)).alloc (.cells #[.slice ea q ef] 31)).alloc (.cells #[.bool false] 4))).alloc (Nat.le_refl _) (.cells #[.slice l.a t.n l.c, .int .i64 t.now] 33)).alloc (by simp) (.cells #[.int .i64 0] 3)
      exact ⟨h0.below hb2 h0.lt, h1.below hb2 h1.lt, h2.below hb2 h2.lt, hb'.trans (hb2.mono (by simp; omega)), fun x hx => hx.elim, by simp; omega⟩
    have hT3 : (((((w.alloc (.cells #[.slice l.a t.n l.c, .int .i64 t.now] 33)).alloc (.cells #[.slice ea q ef] 31)).alloc (.cells #[.bool false] 4)).alloc (.cells #[.slice l.a t.n l.c, .int .i64 t.now] 33)).alloc (.cells #[.int .i64 0] 3)).cell? ⟨B + 3, 0, none⟩ = some (.slice l.a t.n l.c) ∧ (((((w.alloc (.cells #[.slice l.a t.n l.c, .int .i64 t.now] 33)).alloc (.cells #[.slice ea q ef] 31)).alloc (.cells #[.bool false] 4)).alloc (.cells #[.slice l.a t.n l.c, .int .i64 t.now] 33)).alloc (.cells #[.int .i64 0] 3)).cell? ⟨B + 4, 0, none⟩ = some (.int .i64 ((0 : Nat) : Int)) := by
      obtain ⟨h0, h1, _⟩ := new2 (((w.alloc (.cells #[.slice l.a t.n l.c, .int .i64 t.now] 33)).alloc (.cells #[.slice ea q ef] 31)).alloc (.cells #[.bool false] 4)) #[.slice l.a t.n l.c, .int .i64 t.now] 33 #[.int .i64 0] 3
      have e3 : (((w.alloc (.cells #[.slice l.a t.n l.c, .int .i64 t.now] 33)).alloc (.cells #[.slice ea q ef] 31)).alloc (.cells #[.bool false] 4)).heap.size = B + 3 := by simp; omega
      rw [e3] at h0 h1
      exact ⟨h0.cell 0, h1.cell 0⟩
    have hbl' : 0 < t.n → b < B := fun h => by have := hbl h; omega
    rw [hB]
    obtain ⟨W0, hW0⟩ : ∃ W0, W0 = (((((w.alloc (.cells #[.slice l.a t.n l.c, .int .i64 t.now] 33)).alloc (.cells #[.slice ea q ef] 31)).alloc (.cells #[.bool false] 4)).alloc (.cells #[.slice l.a t.n l.c, .int .i64 t.now] 33)).alloc (.cells #[.int .i64 0] 3)) := ⟨_, rfl⟩
    rw [← hW0] at hDI hT3 ⊢
    clear hW0
    have hcell0 : ∀ i, i < t.n → W0.cell? ⟨b, off + i * 5, none⟩ = some (.int .i64 (t.D i).kind) ∧ W0.cell? ⟨b, off + i * 5 + 1, none⟩ = some (.string (t.D i).text) ∧ W0.cell? ⟨b, off + i * 5 + 2, none⟩ = some (.slice (l.L i).nA (t.D i).nn (l.L i).nc) ∧ W0.cell? ⟨b, off + i * 5 + 3, none⟩ = some (.slice (l.L i).kA (t.D i).kn (l.L i).kc) ∧ W0.cell? ⟨b, off + i * 5 + 4, none⟩ = some (.int .i64 (t.D i).turn) := fun i hi => by
      obtain ⟨c0, c1, c2, c3, c4⟩ := hcells i hi
      have k : ∀ o v, w.cell? ⟨b, o, none⟩ = some v → W0.cell? ⟨b, o, none⟩ = some v := fun o v h => (hDI.bel.cell (p := ⟨b, o, none⟩) (hbl' (by omega))).trans h
      exact ⟨k _ _ c0, k _ _ c1, k _ _ c2, k _ _ c3, k _ _ c4⟩
    have hs0 := hDI.len
    have HSeq : Hid _ := places_R 5 (by omega) (B + 3) (B + 4) b off t.n l.c 0 t.now t.D l.L hn (by omega) l.a (fun h => hA h) W0 hT3.1 (by omega) hT3.2 (by omega) (fun h => by have := hbl' h; omega) hcell0
    clear hcell0 hcells hT3 hbl
    have hbl := hbl'
    clear hbl'
    refine wpIn_rangeFunc_R rfl (by omega) (gf := 95) (lb := #[.pointer (some ⟨B + 4, 0, none⟩), .pointer (some ⟨B + 3, 0, none⟩)]) rfl trivial (enters_of Tryz.func95 (by kernel_rfl) rfl) HSeq.out ?hZ (Below.refl _ _) (fun _ => rfl)
      (fun pre X U => DoneAt t q e pre ∧ DI B w t l (.slice ea q ef) X U)
      (fun cd pre X U => (cd = .exit 0 ∧ (∀ i, i < q → (e i).same (t.D i) = true) ∨ cd = .ret ∧ ∃ i, i < q ∧ (e i).same (t.D i) = false) ∧ DI B w t l (.slice ea q ef) X U)
      (fun pre X X' W W' row h hg hr hX => ⟨h.1, h.2.abides hg hr hX⟩) (fun cd pre X X' W W' row h hg hr hX => ⟨h.1, h.2.abides hg hr hX⟩)
      ⟨⟨rfl, Nat.zero_le _, fun i hi => absurd hi (Nat.not_lt_zero _)⟩, hDI⟩
      (DAx t l (fun x v => #[.agg #[.slice l.a t.n l.c, .int .i64 t.now], .slice ea q ef, .pointer (some ⟨B, 0, none⟩), .pointer (some ⟨B + 1, 0, none⟩), .pointer (some ⟨B + 1 + 1, 0, none⟩), .int .i64 (x : Nat), v, .slice ea q ef, .int .i64 q, .pointer (some ⟨B, 0, none⟩), .slice l.a t.n l.c, .int .i64 t.n, .bool false, .agg #[.slice l.a t.n l.c, .int .i64 t.now], .func (.func 95) #[] #[.pointer (some ⟨B + 4, 0, none⟩), .pointer (some ⟨B + 3, 0, none⟩)], .int .i64 (x : Nat), .agg #[.int .i64 (t.D x).kind, .string (t.D x).text, .slice (l.L x).nA (t.D x).nn (l.L x).nc, .slice (l.L x).kA (t.D x).kn (l.L x).kc, .int .i64 (t.D x).turn], undef, undef, undef, undef, undef, undef, undef, undef, undef, undef, undef])) ?hAx ?assign ?body ?done ?stop
    case hZ =>
      rintro r (rfl | ⟨rfl, h⟩)
      · omega
      · have := hbl h; omega
    case hAx =>
      rintro x X a' U l' r o' ⟨V, hV, rfl⟩ hl'
      refine ⟨V, ?_, rfl⟩
      have hne : V ≠ l' := fun e => by
        subst e
        unfold Blk at hV
        rw [hV] at hl'
        cases hl'
      exact (World.putObj_heap_other hne).trans hV
    case assign =>
      rintro l' pre x X U K ⟨h1, h2⟩ hK
      have HK : Hid _ := hK
      clear hK
      dsimp only [ndV]
      gi_wp2
      exact HK.out _ _ X (fun r h => h) (fun r h => Or.inl h) ⟨by simp, fun r _ hr => blk_alloc_lt _ _ _ hr⟩ ⟨h1, h2.below ((Below.refl _ _).alloc (Nat.le_refl _) _)⟩ ⟨U.heap.size, Blk.new _ _ _, rfl⟩
    case body =>
      rintro l' pre x X a' U ⟨rr, hrr⟩ ⟨hpre, hDI⟩ ⟨V, hV, rfl⟩ hlen ⟨hx1, hx2, hx3⟩
      obtain rfl : x = pre.length := by omega
      clear hx1 hx3
      have HU : Hid (DoneAt t q e pre ∧ DI B w t l (.slice ea q ef) X U) := ⟨hpre, hDI⟩
      have HV : Hid (Blk U V #[.int .i64 (t.D pre.length).kind, .string (t.D pre.length).text, .slice (l.L pre.length).nA (t.D pre.length).nn (l.L pre.length).nc, .slice (l.L pre.length).kA (t.D pre.length).kn (l.L pre.length).kc, .int .i64 (t.D pre.length).turn] 87) := hV
      have c1 : U.cell? ⟨B + 1, 0, none⟩ = some (.slice ea q ef) := hDI.e.cell 0
      have c2 : U.cell? ⟨B + 1 + 1, 0, none⟩ = some (.bool false) := hDI.r.cell 0
      have f2 := hDI.r.frozen 0
      have hpl := hpre.2.1
      clear hpre hDI hV hrr hlen
      generalize hxe : pre.length = x at *
      have HXE : Hid (pre.length = x) := hxe
      clear hxe
      by_cases hxq : x = q
      · have hbx : ((x : Int) == (q : Int)) = true := by simp [hxq]
        gi_wp2
        refine ⟨⟨Nat.le_refl _, fun _ _ _ => rfl⟩, Or.inl ⟨rfl, ?_⟩, HU.out.2⟩
        exact fun i hi => HU.out.1.2.2 i (by have := HXE.out; omega)
      · have hbx : ((x : Int) == (q : Int)) = false := by simp; omega
        have hlt : x < q := by omega
        have hlti : (x : Int) < (q : Int) := by omega
        obtain ⟨be, oe, hE, hEl, hEc⟩ := (hD.below (Nat.le_of_eq hB) HU.out.2.bel).at hlt
        obtain ⟨d1, d2, d3, d4, d5, d6⟩ := hEc x hlt
        have HN : Hid (NdIn U (e x) (g x)) := d6
        have HEA : Hid (ea = some ⟨be, oe, none⟩) := hE
        rw [hE] at c1
        have HSt : Hid (∀ W', Below U.heap.size U W' → W'.cell? ⟨B + 1, 0, none⟩ = some (.slice (some ⟨be, oe, none⟩) q ef) ∧ W'.cell? ⟨be, oe + x * 5, none⟩ = some (.int .i64 (e x).kind) ∧ W'.cell? ⟨be, oe + x * 5 + 1, none⟩ = some (.string (e x).text) ∧ W'.cell? ⟨be, oe + x * 5 + 2, none⟩ = some (.slice (g x).nA (e x).nn (g x).nc) ∧ W'.cell? ⟨be, oe + x * 5 + 3, none⟩ = some (.slice (g x).kA (e x).kn (g x).kc) ∧ W'.cell? ⟨be, oe + x * 5 + 4, none⟩ = some (.int .i64 (e x).turn) ∧ W'.cell? ⟨V, 0, none⟩ = some (.int .i64 (t.D x).kind) ∧ W'.cell? ⟨V, 1, none⟩ = some (.string (t.D x).text) ∧ W'.cell? ⟨V, 2, none⟩ = some (.slice (l.L x).nA (t.D x).nn (l.L x).nc) ∧ W'.cell? ⟨V, 3, none⟩ = some (.slice (l.L x).kA (t.D x).kn (l.L x).kc) ∧ W'.cell? ⟨V, 4, none⟩ = some (.int .i64 (t.D x).turn)) := fun W' hW => by
          have hV' := HV.out.below hW HV.out.lt
          have k : ∀ bb o v, bb < U.heap.size → U.cell? ⟨bb, o, none⟩ = some v → W'.cell? ⟨bb, o, none⟩ = some v := fun bb o v hb h => (hW.cell (p := ⟨bb, o, none⟩) hb).trans h
          exact ⟨k _ _ _ (HU.out.2.e.lt) c1, k _ _ _ hEl d1, k _ _ _ hEl d2, k _ _ _ hEl d3, k _ _ _ hEl d4, k _ _ _ hEl d5, hV'.cell 0, hV'.cell 1, hV'.cell 2, hV'.cell 3, hV'.cell 4⟩
        have HNT : Hid (∀ W', Below U.heap.size U W' → NdIn W' (t.D x) (l.L x) ∧ NdIn W' (e x) (g x)) := fun W' hW => by
          refine ⟨?_, HN.out.below (Nat.le_refl _) hW⟩
          obtain ⟨b', o', _, _, hc'⟩ := ((hT.below (Nat.le_of_eq hB) HU.out.2.bel).below (Nat.le_refl _) hW).at hx2
          exact (hc' x hx2).2.2.2.2.2
        have hfe := fe x hlt
        have hft := ft x hx2
        clear hE hEc d1 d2 d3 d4 d5 d6 c1
        have c1 : U.cell? ⟨B + 1, 0, none⟩ = some (.slice ea q ef) := HU.out.2.e.cell 0
        gi_wp2
        refine wpIn_region_peel (fun W' => W'.cell? ⟨B + 1, 0, none⟩ = some (.slice (some ⟨be, oe, none⟩) q ef) ∧ W'.cell? ⟨be, oe + x * 5, none⟩ = some (.int .i64 (e x).kind) ∧ W'.cell? ⟨be, oe + x * 5 + 1, none⟩ = some (.string (e x).text) ∧ W'.cell? ⟨be, oe + x * 5 + 2, none⟩ = some (.slice (g x).nA (e x).nn (g x).nc) ∧ W'.cell? ⟨be, oe + x * 5 + 3, none⟩ = some (.slice (g x).kA (e x).kn (g x).kc) ∧ W'.cell? ⟨be, oe + x * 5 + 4, none⟩ = some (.int .i64 (e x).turn) ∧ W'.cell? ⟨V, 0, none⟩ = some (.int .i64 (t.D x).kind) ∧ W'.cell? ⟨V, 1, none⟩ = some (.string (t.D x).text) ∧ W'.cell? ⟨V, 2, none⟩ = some (.slice (l.L x).nA (t.D x).nn (l.L x).nc) ∧ W'.cell? ⟨V, 3, none⟩ = some (.slice (l.L x).kA (t.D x).kn (l.L x).kc) ∧ W'.cell? ⟨V, 4, none⟩ = some (.int .i64 (t.D x).turn)) _ (by kernel_rfl) (by kernel_rfl) (fun ⟨_, _, h⟩ => h) rfl (by kernel_rfl) ?_ (fun hHeld => ?_)
        · exact HSt.out _ (below_drewN (Below.refl _ _) 1)
        simp only [List.pop_toArray, List.dropLast, List.size_toArray, List.length_cons, List.length_nil, Nat.reduceAdd, Nat.reduceSub, List.getElem_toArray, List.getElem_cons_succ, List.getElem_cons_zero]
        refine peel_take (i := 0) (oi := ?oi0d) (v := ?v0d) (fun _ _ _ _ _ h => h) hHeld ?hi0d (by kernel_rfl) (by kernel_rfl) (by kernel_rfl) ?hw0d ?hy0d ?rest0d
        case hi0d =>
          simp only [List.getElem?_toArray, List.getElem?_cons_zero]
          rfl
        case hw0d => rfl
        case hy0d =>
          intro w hSw
          obtain ⟨s0, s1, s2, s3, s4, s5, s6, s7, s8, s9, s10⟩ := hSw
          go_simp
          try with_reducible rfl
        try simp only [Act.put, List.setIfInBounds_toArray, List.set_cons_zero, List.set_cons_succ]
        refine peel_take (i := 1) (oi := ?oi1d) (v := ?v1d) (fun _ _ _ _ _ h => h) hHeld ?hi1d (by kernel_rfl) (by kernel_rfl) (by kernel_rfl) ?hw1d ?hy1d ?rest1d
        case hi1d =>
          simp only [List.getElem?_toArray, List.getElem?_cons_succ, List.getElem?_cons_zero]
          rfl
        case hw1d => rfl
        case hy1d =>
          intro w hSw
          obtain ⟨s0, s1, s2, s3, s4, s5, s6, s7, s8, s9, s10⟩ := hSw
          go_simp
          try with_reducible rfl
        try simp only [Act.put, List.setIfInBounds_toArray, List.set_cons_zero, List.set_cons_succ]
        refine peel_take (i := 2) (oi := ?oi2d) (v := ?v2d) (fun _ _ _ _ _ h => h) hHeld ?hi2d (by kernel_rfl) (by kernel_rfl) (by kernel_rfl) ?hw2d ?hy2d ?rest2d
        case hi2d =>
          simp only [List.getElem?_toArray, List.getElem?_cons_succ, List.getElem?_cons_zero]
          rfl
        case hw2d => rfl
        case hy2d =>
          intro w hSw
          obtain ⟨s0, s1, s2, s3, s4, s5, s6, s7, s8, s9, s10⟩ := hSw
          go_simp
          try with_reducible rfl
        try simp only [Act.put, List.setIfInBounds_toArray, List.set_cons_zero, List.set_cons_succ]
        refine peel_take (i := 3) (oi := ?oi3d) (v := ?v3d) (fun _ _ _ _ _ h => h) hHeld ?hi3d (by kernel_rfl) (by kernel_rfl) (by kernel_rfl) ?hw3d ?hy3d ?rest3d
        case hi3d =>
          simp only [List.getElem?_toArray, List.getElem?_cons_succ, List.getElem?_cons_zero]
          rfl
        case hw3d => rfl
        case hy3d =>
          intro w hSw
          obtain ⟨s0, s1, s2, s3, s4, s5, s6, s7, s8, s9, s10⟩ := hSw
          go_simp
          try with_reducible rfl
        try simp only [Act.put, List.setIfInBounds_toArray, List.set_cons_zero, List.set_cons_succ]
        refine peel_take (i := 4) (oi := ?oi4d) (v := ?v4d) (fun _ _ _ _ _ h => h) hHeld ?hi4d (by kernel_rfl) (by kernel_rfl) (by kernel_rfl) ?hw4d ?hy4d ?rest4d
        case hi4d =>
          simp only [List.getElem?_toArray, List.getElem?_cons_succ, List.getElem?_cons_zero]
          rfl
        case hw4d => rfl
        case hy4d =>
          intro w hSw
          obtain ⟨s0, s1, s2, s3, s4, s5, s6, s7, s8, s9, s10⟩ := hSw
          go_simp
          try with_reducible rfl
        try simp only [Act.put, List.setIfInBounds_toArray, List.set_cons_zero, List.set_cons_succ]
        refine wpAnyH_ready (rs := [5]) (by kernel_rfl) (by simp) ?_
        refine AllReadyH.cons (o := ?o5d) ?ho5d (fun K hK => ?st5d) AllReadyH.nil
        case ho5d =>
          simp only [List.getElem?_toArray, List.getElem?_cons_succ, List.getElem?_cons_zero]
          rfl
        go_simp
        have hd0 : Below U.heap.size U U.drew := below_drewN (Below.refl _ _) 1
        refine (implNodeSame_any (e x) (t.D x) (g x) (l.L x) U.drew (HNT.out _ hd0).2 (HNT.out _ hd0).1 hfe hft).mono ?_
        rintro e' w4 ⟨hb4, rfl⟩
        have hB4 : Below U.heap.size U w4 := hd0.trans (hb4.mono hd0.size)
        have H4 : Hid (DI B w t l (.slice ea q ef) X w4 ∧ KeepsR (fun r => X r ∨ (r = B + 3 ∨ (r = b ∧ 0 < t.n))) U w4) := ⟨HU.out.2.below hB4, ⟨hB4.size, fun r _ hr => hB4.block r hr⟩⟩
        refine hK.out _ _ (HSt.out _ hB4) (fun hHeld => ?_)
        clear hK K
        try simp only [Act.put, List.setIfInBounds_toArray, List.set_cons_zero, List.set_cons_succ]
        refine wpAnyH_done (by kernel_rfl) ?_ _
        show Oper.wp _ _ _ _ _ _
        clear HSt HNT hHeld hd0 hb4 hB4 c1 c2 f2
        have c2 : w4.cell? ⟨B + 1 + 1, 0, none⟩ = some (.bool false) := H4.out.1.r.cell 0
        have f2 := H4.out.1.r.frozen 0
        cases hsm : (e x).same (t.D x) with
        | false =>
          have HNO : Hid ((e x).same (t.D x) = false ∧ x < q) := ⟨hsm, hlt⟩
          go_simp
          gi_wp2
          refine ⟨⟨by simpa [World.setCell] using H4.out.2.size, fun r hr hl => ?_⟩, Or.inr ⟨rfl, x, HNO.out.2, HNO.out.1⟩, ?_⟩
          · have hne : r ≠ B + 1 + 1 := by
              have := HU.out.2.len
              rcases hr with h | h | ⟨h, h'⟩
              · have := (HU.out.2.low r h).1; omega
              · omega
              · have := hbl h'; omega
            exact (blk_setCell_other _ _ _ _ hne).trans (H4.out.2.same r hr hl)
          · have h4 := H4.out.1
            exact ⟨h4.p.off _ (by omega), h4.e.off _ (by omega), h4.r.set 0 _, bel_put h4.bel _ (by omega), fun y hy => by have := h4.low y hy; simpa [World.setCell] using this, by have := h4.len; simpa [World.setCell] using this⟩
        | true =>
          have HYS : Hid ((e x).same (t.D x) = true) := hsm
          go_simp
          gi_wp2
          refine ⟨H4.out.2, ?_, H4.out.1⟩
          have hl := HXE.out
          refine ⟨?_, by rw [List.length_append, List.length_singleton]; omega, fun i hi => ?_⟩
          · rw [List.length_append, List.length_singleton, upF_succ, ← HU.out.1.1]
            simp [hl]
          · rw [List.length_append, List.length_singleton] at hi
            by_cases ei : i = x
            · subst ei; exact HYS.out
            · exact HU.out.1.2.2 i (by omega)
    case done =>
      rintro DD ys X U hDD hXD rfl ⟨hat, h⟩ hk
      have hqn : q = t.n := by
        have := hat.2.1
        rw [upF_len] at this
        have := HQ.out
        omega
      have HR : Hid (∀ bb : Bool, bb = true → (bb = true ↔ q ≤ t.n ∧ ∀ i, i < q → (e i).same (t.D i) = true)) := fun bb hbb => ⟨fun _ => ⟨HQ.out, fun i hi => hat.2.2 i (by rw [upF_len]; omega)⟩, fun _ => hbb⟩
      have c2 : U.cell? ⟨B + 1 + 1, 0, none⟩ = some (.bool false) := h.r.cell 0
      have f2 := h.r.frozen 0
      have HH : Hid (DI B w t l (.slice ea q ef) X U ∧ U.heap[DD]? = some (.deferred (some [])) ∧ X DD) := ⟨h, hk, hXD⟩
      clear hat h hk hXD HSeq hqn
      gi_wp2
      have hDB := (HH.out.1.low DD HH.out.2.2).1
      have hk2 : (U.setCell ⟨B + 1 + 1, 0, none⟩ (.bool true)).heap[DD]? = some (.deferred (some [])) := (blk_setCell_other _ _ _ _ (show DD ≠ B + 1 + 1 by omega)).trans HH.out.2.1
      refine ⟨by simp, .inl ⟨_, _, rfl, run_takeDeferred hk2, ?_⟩⟩
      have hg := grownBy_putObj' (U.setCell ⟨B + 1 + 1, 0, none⟩ (.bool true)) DD (.deferred none)
      have hr2 : Blk ((U.setCell ⟨B + 1 + 1, 0, none⟩ (.bool true)).putObj DD (.deferred none)) (B + 1 + 1) #[.bool true] 4 := (HH.out.1.r.set 0 (.bool true)).of_block (World.putObj_heap_other (show B + 1 + 1 ≠ DD by omega))
      have r0 := hr2.cell 0
      simp at r0
      refine ⟨.bool true, by simp [results, Tryz.results94, go_sem, r0], ?_, true, rfl, HR.out _ rfl⟩
      rw [hB]
      exact (bel_put HH.out.1.bel _ (by omega)).grown hg (by simp [World.setCell]; have := HH.out.1.len; omega) (fun k e => by cases e; omega)
    case stop =>
      rintro DD cd pre X U hDD hXD _ ⟨hcase, h⟩ hk
      have HH : Hid (DI B w t l (.slice ea q ef) X U ∧ U.heap[DD]? = some (.deferred (some [])) ∧ X DD) := ⟨h, hk, hXD⟩
      have c2 : U.cell? ⟨B + 1 + 1, 0, none⟩ = some (.bool false) := h.r.cell 0
      have f2 := h.r.frozen 0
      have hDB := (HH.out.1.low DD HH.out.2.2).1
      clear h hk hXD HSeq
      rcases hcase with ⟨rfl, hall⟩ | ⟨rfl, i, hi, hno⟩
      · have HR : Hid (∀ bb : Bool, bb = true → (bb = true ↔ q ≤ t.n ∧ ∀ i, i < q → (e i).same (t.D i) = true)) := fun bb hbb => ⟨fun _ => ⟨HQ.out, hall⟩, fun _ => hbb⟩
        clear hall
        gi_wp2
        have hk2 : (U.setCell ⟨B + 1 + 1, 0, none⟩ (.bool true)).heap[DD]? = some (.deferred (some [])) := (blk_setCell_other _ _ _ _ (show DD ≠ B + 1 + 1 by omega)).trans HH.out.2.1
        refine ⟨by simp, .inl ⟨_, _, rfl, run_takeDeferred hk2, ?_⟩⟩
        have hg := grownBy_putObj' (U.setCell ⟨B + 1 + 1, 0, none⟩ (.bool true)) DD (.deferred none)
        have hr2 : Blk ((U.setCell ⟨B + 1 + 1, 0, none⟩ (.bool true)).putObj DD (.deferred none)) (B + 1 + 1) #[.bool true] 4 := (HH.out.1.r.set 0 (.bool true)).of_block (World.putObj_heap_other (show B + 1 + 1 ≠ DD by omega))
        have r0 := hr2.cell 0
        simp at r0
        refine ⟨.bool true, by simp [results, Tryz.results94, go_sem, r0], ?_, true, rfl, HR.out _ rfl⟩
        rw [hB]
        exact (bel_put HH.out.1.bel _ (by omega)).grown hg (by simp [World.setCell]; have := HH.out.1.len; omega) (fun k e => by cases e; omega)
      · have HR : Hid (false = true ↔ q ≤ t.n ∧ ∀ i, i < q → (e i).same (t.D i) = true) := ⟨fun h => (by cases h), fun h => (by have := h.2 i hi; rw [hno] at this; cases this)⟩
        clear hno
        gi_wp2
        refine ⟨by simp, .inl ⟨_, _, rfl, run_takeDeferred HH.out.2.1, ?_⟩⟩
        have hg := grownBy_putObj' U DD (.deferred none)
        have hr2 : Blk (U.putObj DD (.deferred none)) (B + 1 + 1) #[.bool false] 4 := HH.out.1.r.of_block (World.putObj_heap_other (show B + 1 + 1 ≠ DD by omega))
        have r0 := hr2.cell 0
        simp at r0
        refine ⟨.bool false, by simp [results, Tryz.results94, go_sem, r0], ?_, false, rfl, HR.out⟩
        rw [hB]
        exact HH.out.1.bel.grown hg (by have := HH.out.1.len; omega) (fun k e => by cases e; omega)
end Go.Proofs.YtakifcobofkheaaGreatDoor

/-
  Two places are one, whichever is first. Plain facts.
-/
namespace Go.Proofs.YtakifcobofkheaaGreatDoor
open Go.RowKit

theorem eqS_all {n : Nat} {S T : Nat → ByteArray} : eqS n S T = true ↔ ∀ i, i < n → (S i).toList = (T i).toList := by
  unfold eqS
  rw [List.all_eq_true]
  exact ⟨fun h i hi => by simpa using h i (by simpa using hi), fun h i hi => by simpa using h i (by simpa using hi)⟩

theorem eqZ_all {n : Nat} {S T : Nat → Int} : eqZ n S T = true ↔ ∀ i, i < n → S i = T i := by
  unfold eqZ
  rw [List.all_eq_true]
  exact ⟨fun h i hi => by simpa using h i (by simpa using hi), fun h i hi => by simpa using h i (by simpa using hi)⟩

theorem nd_same_iff {d e : Nd} : d.same e = true ↔ d.kind = e.kind ∧ d.text.toList = e.text.toList ∧ (d.nn = e.nn ∧ ∀ i, i < d.nn → (d.names i).toList = (e.names i).toList) ∧ (d.kn = e.kn ∧ ∀ i, i < d.kn → d.kids i = e.kids i) ∧ d.turn = e.turn := by
  unfold Nd.same
  simp only [Bool.and_eq_true, beq_iff_eq, decide_eq_true_eq, eqS_all, eqZ_all]
  constructor
  · rintro ⟨⟨⟨⟨a, b⟩, c⟩, d⟩, e⟩; exact ⟨a, b, c, d, e⟩
  · rintro ⟨a, b, c, d, e⟩; exact ⟨⟨⟨⟨a, b⟩, c⟩, d⟩, e⟩

theorem nd_same_sym {d e : Nd} (h : d.same e = true) : e.same d = true := by
  rw [nd_same_iff] at h ⊢
  obtain ⟨a, b, ⟨c1, c2⟩, ⟨d1, d2⟩, f⟩ := h
  exact ⟨a.symm, b.symm, ⟨c1.symm, fun i hi => (c2 i (by omega)).symm⟩, ⟨d1.symm, fun i hi => (d2 i (by omega)).symm⟩, f.symm⟩

theorem nd_same_trans {d e f : Nd} (h : d.same e = true) (h' : e.same f = true) : d.same f = true := by
  rw [nd_same_iff] at h h' ⊢
  obtain ⟨a, b, ⟨c1, c2⟩, ⟨d1, d2⟩, g⟩ := h
  obtain ⟨a', b', ⟨c1', c2'⟩, ⟨d1', d2'⟩, g'⟩ := h'
  exact ⟨a.trans a', b.trans b', ⟨c1.trans c1', fun i hi => (c2 i hi).trans (c2' i (by omega))⟩, ⟨d1.trans d1', fun i hi => (d2 i hi).trans (d2' i (by omega))⟩, g.trans g'⟩
end Go.Proofs.YtakifcobofkheaaGreatDoor

/-
  What copyTree, copyDump and copyJob of the program answer: the same, in new memory.
-/
namespace Go.Proofs.YtakifcobofkheaaGreatDoor
open Go.RowKit Go.Deep
set_option linter.unusedVariables false
set_option linter.unusedSimpArgs false
set_option linter.unnecessarySimpa false

/-- A box and a result's. -/
structure Bx (w : World) (cs : Array Value) (t : TypeId) (zs : Array Value) (u : TypeId) (W : World) : Prop where
  p : Blk W w.heap.size cs t
  r : Blk W (w.heap.size + 1) zs u
  bel : Below w.heap.size w W
  size : w.heap.size + 2 ≤ W.heap.size

theorem Bx.below {w : World} {cs zs : Array Value} {t u : TypeId} {W W' : World} (h : Bx w cs t zs u W) (hb : Below W.heap.size W W') : Bx w cs t zs u W' := ⟨h.p.below hb h.p.lt, h.r.below hb h.r.lt, h.bel.trans (hb.mono h.bel.size), Nat.le_trans h.size hb.size⟩
theorem bx2 (w : World) (cs : Array Value) (t : TypeId) (zs : Array Value) (u : TypeId) : Bx w cs t zs u ((w.alloc (.cells cs t)).alloc (.cells zs u)) := by
  obtain ⟨h0, h1, hb, _⟩ := new2 w cs t zs u
  exact ⟨h0, h1, hb, by simp⟩

/-- .. and a list of places that has grown since. -/
structure Bn (w : World) (cs : Array Value) (t : TypeId) (zs : Array Value) (u : TypeId) (k : Nat) (b : Option Addr) (bc : Nat) (E : Nat → Nd) (M : Nat → Loc) (W : World) : Prop where
  bx : Bx w cs t zs u W
  ot : OT W (w.heap.size + 2) 0 (fun _ => false) k (fun _ => 0) E M (.slice none 0 0) (.slice b k bc)

theorem Bn.below {w : World} {cs zs : Array Value} {t u : TypeId} {k : Nat} {b : Option Addr} {bc : Nat} {E : Nat → Nd} {M : Nat → Loc} {W W' : World} (h : Bn w cs t zs u k b bc E M W) (hb : Below W.heap.size W W') : Bn w cs t zs u k b bc E M W' := ⟨h.bx.below hb, h.ot.below hb⟩

theorem Bn.item {w : World} {cs zs : Array Value} {t u : TypeId} {k : Nat} {b : Option Addr} {bc : Nat} {E : Nat → Nd} {M : Nat → Loc} {W W1 W' : World} (h : Bn w cs t zs u k b bc E M W) {x : Nd} {l : Loc} (hN : NewNn W x l W1) {g c' : Nat} (hg : W1.grownBy W' (Value.slice b k bc).ownBlock)
    (hown : W'.ownsRow (w.heap.size + 2) 87 5 (.slice (some ⟨g, 0, none⟩) (k + 1) c') (k + 1) (rowsT (fun _ => 0) E M k ++ nt5 0 x l)) (hb : (Value.slice b k bc).ownBlock = some g ∨ W1.heap.size ≤ g) :
    Bn w cs t zs u (k + 1) (some ⟨g, 0, none⟩) c' (fun i => if i = k then x else E i) (fun i => if i = k then l else M i) W' := by
  have h1 := h.bx.below hN.bel
  have hbo : ∀ q, (Value.slice b k bc).ownBlock = some q → w.heap.size + 2 ≤ q := fun q e => (owns_block h.ot.ownI e).1
  exact ⟨⟨h1.p.of_block (hg.block _ h1.p.lt (fun e => by have := hbo _ e.symm; omega)), h1.r.of_block (hg.block _ h1.r.lt (fun e => by have := hbo _ e.symm; omega)), h1.bel.grown hg h1.bel.size (fun q e => by have := hbo q e; omega), Nat.le_trans h1.size hg.size⟩, h.ot.more hN h.bx.size hg hown hb⟩

set_option maxRecDepth 100000 in
set_option maxHeartbeats 8000000 in
theorem copyTree_any (t : Tr) (l : TLoc) (w : World) (hT : TIn w t l) (hn : t.n ≤ 1000) (hs : t.size ≤ 1048576) :
    Calls Tryz.prog 51 #[tV t l] w fun e w' => ∃ l', e = .returned (tV t l') ∧ Below w.heap.size w w' ∧ OwnTr w' w.heap.size t l' := by
  unfold tV
  obtain ⟨y0, hy, hy0, hy1, hy2⟩ := info_parts infoNode
  have htS := tr_small (show sizeTo t.D t.n ≤ 1048576 by unfold Tr.size at hs; omega)
  go_enter Tryz.func51, Tryz.ntmps51
  go_wp2_with fail
  refine wp_world (F := Bx w (tC t l) 33 #[.slice none 0 0, .int .i64 0] 33) (bx2 w _ _ _ _) ?_
  intro W hP
  have HP : Hid _ := hP
  clear hP
  have p0 : W.cell? ⟨w.heap.size, 0, none⟩ = some (.slice l.a t.n l.c) := HP.out.p.cell 0
  go_wp2_with fail
  go_loopw [3, 9] (fun v i wr => ∃ (k : Nat) (b : Option Addr) (bc : Nat) (E : Nat → Nd) (M : Nat → Loc), k ≤ t.n ∧ v = .slice b k bc ∧ i = .int .i64 k ∧ Bn w (tC t l) 33 #[.slice none 0 0, .int .i64 0] 33 k b bc E M wr ∧ ∀ i, i < k → E i = t.D i) (fun _ i _ => t.n - (intOf i).toNat)
  case atStart => exact ⟨0, none, 0, fun _ => ndZero, fun _ => ⟨none, 0, none, 0⟩, Nat.zero_le _, rfl, rfl, ⟨HP.out, OT.start _ _ _ _ _ _⟩, fun i hi => absurd hi (Nat.not_lt_zero _)⟩
  case round =>
    obtain ⟨k, b, bc, E, M, hk, rfl, rfl, hin, hsel⟩ := hrel
    have HIN : Hid (Bn w (tC t l) 33 #[.slice none 0 0, .int .i64 0] 33 k b bc E M wr ∧ ∀ i, i < k → E i = t.D i) := ⟨hin, hsel⟩
    have hsw : w.heap.size + 2 ≤ wr.heap.size := hin.bx.size
    clear hin hsel
    by_cases hlt : k < t.n
    · have hlti : (k : Int) < (t.n : Int) := by omega
      obtain ⟨bI, oI, hQ, hQl, hQc⟩ := (hT.below (Nat.le_refl _) HIN.out.1.bx.bel).at hlt
      obtain ⟨d1, d2, d3, d4, d5, d6⟩ := hQc k hlt
      have HN : Hid (NdIn wr (t.D k) (l.L k)) := d6
      have hsm := htS k hlt
      rw [hQ]
      have HA : Hid (l.a = some ⟨bI, oI, none⟩) := hQ
      clear hQ hQc d6
      go_wp2_with fail
      refine at_world (F := fun U => Bn w (tC t l) 33 #[.slice none 0 0, .int .i64 0] 33 k b bc E M U ∧ NdIn U (t.D k) (l.L k)) ⟨HIN.out.1.below ((Below.refl _ _).alloc (Nat.le_refl _) _), HN.out.below (Nat.le_refl _) ((Below.refl _ _).alloc (Nat.le_refl _) _)⟩ ?_
      rintro U ⟨hU, hNU⟩
      refine (copyNode_any (t.D k) (l.L k) U hNU hsm.1 hsm.2.1 hsm.2.2.1 hsm.2.2.2).mono ?_
      rintro e W6 ⟨l5, rfl, hN5⟩
      unfold ndV
      have HU : Hid (Bn w (tC t l) 33 #[.slice none 0 0, .int .i64 0] 33 k b bc E M U ∧ NewNn U (t.D k) l5 W6 ∧ w.heap.size + 2 ≤ W6.heap.size) := ⟨hU, hN5, by have := hU.bx.size; have := hN5.bel.size; omega⟩
      clear hU hNU hN5
      go_wp2_with (at_builtin; go_must (refine wpList_append_src (by rfl) _ _ 31 rfl (w.heap.size + 2) 87 y0 (.agg #[.int .i64 0, .string ByteArray.empty, .slice none 0 0, .slice none 0 0, .int .i64 0]) 5 80 Tryz.underlying31 hy hy0 hy1 hy2 rfl (by decide) (.slice b k bc) k (rowsT (fun _ => 0) E M k) (by rfl) ((HU.out.1.below HU.out.2.1.bel).ot.ownI.alloc _) _ 1 _ (by rfl) (src_node W6 (t.D k) l5) (by unfold maxLen; omega) (by omega) (by have := HU.out.2.2; simp; omega) ?_))
      intro vI W7 hown hgrow hnil hat
      rcases hown.2 with ⟨_, h0⟩ | ⟨gI, cI, cur, hvI, _, _, _⟩
      · omega
      subst hvI
      have hbI : (Value.slice b k bc).ownBlock = some gI ∨ (W6.alloc (.cells #[.int .i64 (t.D k).kind, .string (t.D k).text, .slice (l5).nA (t.D k).nn (l5).nc, .slice (l5).kA (t.D k).kn (l5).kc, .int .i64 (t.D k).turn] 87)).heap.size ≤ gI := by
        rcases hat with e | e
        · exact Or.inl e.symm
        · right
          have e' : gI = (W6.alloc (.cells #[.int .i64 (t.D k).kind, .string (t.D k).text, .slice (l5).nA (t.D k).nn (l5).nc, .slice (l5).kA (t.D k).kn (l5).kc, .int .i64 (t.D k).turn] 87)).heap.size := by simpa [Value.ownBlock] using e
          omega
      have H8 : Hid _ := HU.out.1.item (HU.out.2.1.alloc (.cells #[.int .i64 (t.D k).kind, .string (t.D k).text, .slice (l5).nA (t.D k).nn (l5).nc, .slice (l5).kA (t.D k).kn (l5).kc, .int .i64 (t.D k).turn] 87)) hgrow hown hbI
      clear hown hgrow hnil hat hbI
      go_wp2_with fail
      go_roundw
      case rel => exact ⟨k + 1, some ⟨gI, 0, none⟩, cI, _, _, by omega, by go_num, by go_num, H8.out, fun i hi => by
        by_cases e : i = k
        · subst e; simp
        · simp only [e, if_false]; exact HIN.out.2 i (by omega)⟩
      case measure => simp [intOf]; omega
    · obtain rfl : k = t.n := by omega
      have HOT : Hid (OwnTr wr (w.heap.size + 2) ⟨t.n, t.D, 0⟩ ⟨b, bc, M⟩) := HIN.out.1.ot.ext fun i hi => ⟨(HIN.out.2 i hi).symm, rfl⟩
      have r0 : wr.cell? ⟨w.heap.size + 1, 0, none⟩ = some (.slice none 0 0) := HIN.out.1.bx.r.cell 0
      have r1 : wr.cell? ⟨w.heap.size + 1, 1, none⟩ = some (.int .i64 0) := HIN.out.1.bx.r.cell 1
      have p1 : wr.cell? ⟨w.heap.size, 1, none⟩ = some (.int .i64 t.now) := HIN.out.1.bx.p.cell 1
      have g0 := HIN.out.1.bx.r.frozen 0
      have g1 := HIN.out.1.bx.r.frozen 1
      go_wp2_with fail
      refine end_world (F := fun U => Blk U (w.heap.size + 1) #[.slice b t.n bc, .int .i64 t.now] 33 ∧ Below w.heap.size w U ∧ OwnTr U (w.heap.size + 2) t ⟨b, bc, M⟩) ⟨(HIN.out.1.bx.r.set 0 _).set 1 _, bel_put (bel_put HIN.out.1.bx.bel _ (by omega)) _ (by omega), OwnTr.put (OwnTr.put (show OwnTr wr (w.heap.size + 2) t ⟨b, bc, M⟩ from HOT.out) _ (by omega)) _ (by omega)⟩ ?_
      clear r0 r1 g0 g1 p1
      rintro U ⟨hr, hB, hot⟩
      have e0 : U.cell? ⟨w.heap.size + 1, 0, none⟩ = some (.slice b t.n bc) := hr.cell 0
      have e1 : U.cell? ⟨w.heap.size + 1, 1, none⟩ = some (.int .i64 t.now) := hr.cell 1
      exact bodyPost_ret (v := .agg #[.slice b t.n bc, .int .i64 t.now]) (by simp [results, Tryz.results51, go_sem, e0, e1]) rfl ⟨⟨b, bc, M⟩, rfl, hB, hot.lower (by omega)⟩
/-- What is held while what is kept is copied: the truth values are, the places are being. -/
structure Bd (w : World) (d : Dp) (l : DLoc) (B g c m : Nat) (ia : Option Addr) (ic : Nat) (O : Nat → Int) (E : Nat → Nd) (M : Nat → Loc) (W : World) : Prop where
  bx : Bx w (pC d l) 36 #[.int .i64 0, .int .i64 0, .slice none 0 0, .slice none 0 0] 36 W
  live : W.ownsRow (w.heap.size + 2) 4 1 (.slice (some ⟨g, 0, none⟩) d.ln c) d.ln (boolv d.ln d.live)
  gl : g < B
  b0 : w.heap.size + 2 ≤ B
  bw : B ≤ W.heap.size
  od : OD W B 0 (fun _ => false) m O E M (.slice none 0 0) (.slice ia m ic)

theorem Bd.below {w : World} {d : Dp} {l : DLoc} {B g c m : Nat} {ia : Option Addr} {ic : Nat} {O : Nat → Int} {E : Nat → Nd} {M : Nat → Loc} {W W' : World} (h : Bd w d l B g c m ia ic O E M W) (hb : Below W.heap.size W W') : Bd w d l B g c m ia ic O E M W' :=
  ⟨h.bx.below hb, owns_same h.live fun b e => hb.block b (owns_block h.live e).2, h.gl, h.b0, Nat.le_trans h.bw hb.size, h.od.below hb⟩

theorem Bd.item {w : World} {d : Dp} {l : DLoc} {B g c m : Nat} {ia : Option Addr} {ic : Nat} {O : Nat → Int} {E : Nat → Nd} {M : Nat → Loc} {W W1 W' : World} (h : Bd w d l B g c m ia ic O E M W) {o : Int} {x : Nd} {lx : Loc} (hN : NewNn W x lx W1) {b c' : Nat} (hg : W1.grownBy W' (Value.slice ia m ic).ownBlock)
    (hown : W'.ownsRow B 113 6 (.slice (some ⟨b, 0, none⟩) (m + 1) c') (m + 1) (rowsI O E M m ++ it6 o x lx)) (hb : (Value.slice ia m ic).ownBlock = some b ∨ W1.heap.size ≤ b) :
    Bd w d l B g c (m + 1) (some ⟨b, 0, none⟩) c' (fun i => if i = m then o else O i) (fun i => if i = m then x else E i) (fun i => if i = m then lx else M i) W' := by
  have h1 := h.below hN.bel
  have hb0 := h.b0
  have hgl := h.gl
  have hbo : ∀ q, (Value.slice ia m ic).ownBlock = some q → B ≤ q := fun q e => (owns_block h.od.ownI e).1
  refine ⟨⟨h1.bx.p.of_block (hg.block _ h1.bx.p.lt (fun e => by have := hbo _ e.symm; omega)), h1.bx.r.of_block (hg.block _ h1.bx.r.lt (fun e => by have := hbo _ e.symm; omega)), h1.bx.bel.grown hg h1.bx.bel.size (fun q e => by have := hbo q e; omega), Nat.le_trans h1.bx.size hg.size⟩, owns_kept h1.live hg (fun b' e e' => ?_), hgl, hb0, Nat.le_trans h1.bw hg.size, h.od.item hN h.bw hg hown (fun b' e => ?_)⟩
  · have e1 : g = b' := by simpa [Value.ownBlock] using e
    have := hbo b' e'
    omega
  · have e1 : b = b' := by simpa [Value.ownBlock] using e
    subst e1
    exact hb

set_option maxRecDepth 100000 in
set_option maxHeartbeats 8000000 in
theorem copyDump_any (d : Dp) (l : DLoc) (w : World) (hD : DpIn w d l) (hok : d.ok = true) (hs : d.size ≤ 1048576) :
    Calls Tryz.prog 50 #[dpV d l] w fun e w' => ∃ l', e = .returned (dpV d l') ∧ Below w.heap.size w w' ∧ OwnDp w' w.heap.size d l' := by
  unfold dpV
  obtain ⟨q0, hq, hq0, hq1, hq2⟩ := info_parts infoBool
  obtain ⟨y0, hy, hy0, hy1, hy2⟩ := info_parts infoItem
  have hln1 := (ok_head1 hok).1
  have hln10 := (ok_head1 hok).2
  have hm10 := m_small hok
  go_enter Tryz.func50, Tryz.ntmps50
  have HP : Hid (Bx w (pC d l) 36 #[.int .i64 0, .int .i64 0, .slice none 0 0, .slice none 0 0] 36 ((w.alloc (.cells #[.int .i64 d.since, .int .i64 d.date, .slice l.lA d.ln l.lc, .slice l.iA d.m l.ic] 36)).alloc (.cells #[.int .i64 0, .int .i64 0, .slice none 0 0, .slice none 0 0] 36))) := bx2 w _ _ _ _
  have hPs : w.heap.size + 2 ≤ (((w.alloc (.cells #[.int .i64 d.since, .int .i64 d.date, .slice l.lA d.ln l.lc, .slice l.iA d.m l.ic] 36)).alloc (.cells #[.int .i64 0, .int .i64 0, .slice none 0 0, .slice none 0 0] 36))).heap.size := HP.out.size
  go_wp2_with (at_builtin; go_must (refine wpList_append_src (by rfl) _ _ 25 rfl (w.heap.size + 2) 4 q0 (.bool false) 1 1 Tryz.underlying25 hq hq0 hq1 hq2 rfl (by decide) (.slice none 0 0) 0 [] (by rfl) (World.ownsRow_nil _ _ _ _) _ d.ln (boolv d.ln d.live) (by rfl) (bools_src (hD.live.below (Nat.le_refl _) HP.out.bel) hln1 _) (by unfold maxLen; omega) (by omega) hPs ?_))
  intro vL W2 hownL hgrowL hnilL hatL
  obtain ⟨g, c', rfl⟩ := bools_shape hownL hln1
  have HB : Hid (Bd w d l W2.heap.size g c' 0 none 0 (fun _ => 0) d.nd l.L W2) := by
    have hno : (Value.slice none 0 0).ownBlock = none := rfl
    have hgr : ∀ b, b < (((w.alloc (.cells #[.int .i64 d.since, .int .i64 d.date, .slice l.lA d.ln l.lc, .slice l.iA d.m l.ic] 36)).alloc (.cells #[.int .i64 0, .int .i64 0, .slice none 0 0, .slice none 0 0] 36))).heap.size → W2.heap[b]? = (((w.alloc (.cells #[.int .i64 d.since, .int .i64 d.date, .slice l.lA d.ln l.lc, .slice l.iA d.m l.ic] 36)).alloc (.cells #[.int .i64 0, .int .i64 0, .slice none 0 0, .slice none 0 0] 36))).heap[b]? := fun b hb => hgrowL.block b hb (by rw [hno]; simp)
    exact ⟨⟨HP.out.p.of_block (hgr _ HP.out.p.lt), HP.out.r.of_block (hgr _ HP.out.r.lt), HP.out.bel.grown hgrowL HP.out.bel.size (fun q e => by rw [hno] at e; cases e), Nat.le_trans hPs hgrowL.size⟩, hownL, (owns_block hownL rfl).2, Nat.le_trans hPs hgrowL.size, Nat.le_refl _, OD.start _ _ _ _ _ _⟩
  clear hownL hgrowL hnilL hatL HP hPs
  obtain ⟨p0, p1, p2, p3⟩ := pC_cells HB.out.bx.p
  generalize hB2 : W2.heap.size = B at *
  clear hB2
  go_wp2_with fail
  go_loopw [4, 14] (fun v i wr => ∃ (k : Nat) (ia : Option Addr) (ic : Nat) (O : Nat → Int) (E : Nat → Nd) (M : Nat → Loc), k ≤ d.m ∧ v = .slice ia k ic ∧ i = .int .i64 k ∧ Bd w d l B g c' k ia ic O E M wr ∧ ∀ i, i < k → O i = d.ino i ∧ E i = d.nd i) (fun _ i _ => d.m - (intOf i).toNat)
  case atStart => exact ⟨0, none, 0, _, _, _, Nat.zero_le _, rfl, rfl, HB.out, fun i hi => absurd hi (Nat.not_lt_zero _)⟩
  case round =>
    obtain ⟨k, ia, ic, O, E, M, hk, rfl, rfl, hin, hsel⟩ := hrel
    have HIN : Hid (Bd w d l B g c' k ia ic O E M wr ∧ ∀ i, i < k → O i = d.ino i ∧ E i = d.nd i) := ⟨hin, hsel⟩
    have hsw : B ≤ wr.heap.size := hin.bw
    clear hin hsel p0 p1 p2 p3
    by_cases hlt : k < d.m
    · have hlti : (k : Int) < (d.m : Int) := by omega
      obtain ⟨bI, oI, hQ, hQl, hQc⟩ := (hD.items.below (Nat.le_refl _) HIN.out.1.bx.bel).at hlt
      obtain ⟨d0, d1, d2, d3, d4, d5, d6⟩ := hQc k hlt
      have HN : Hid (NdIn wr (d.nd k) (l.L k)) := d6
      have hsm := dp_of_small hs k hlt
      rw [hQ]
      have HA : Hid (l.iA = some ⟨bI, oI, none⟩) := hQ
      clear hQ hQc d6
      go_wp2_with fail
      refine wp_world (F := fun U => Blk U wr.heap.size #[.int .i64 (d.ino k), .int .i64 (d.nd k).kind, .string (d.nd k).text, .slice (l.L k).nA (d.nd k).nn (l.L k).nc, .slice (l.L k).kA (d.nd k).kn (l.L k).kc, .int .i64 (d.nd k).turn] 113 ∧ Bd w d l B g c' k ia ic O E M U ∧ NdIn U (d.nd k) (l.L k)) ?_ ?_
      · obtain ⟨h0, hb, _⟩ := new1 wr #[.int .i64 (d.ino k), .int .i64 (d.nd k).kind, .string (d.nd k).text, .slice (l.L k).nA (d.nd k).nn (l.L k).nc, .slice (l.L k).kA (d.nd k).kn (l.L k).kc, .int .i64 (d.nd k).turn] 113
        exact ⟨h0, HIN.out.1.below hb, HN.out.below (Nat.le_refl _) hb⟩
      rintro U ⟨hx, hU, hNU⟩
      have HU : Hid (Bd w d l B g c' k ia ic O E M U ∧ NdIn U (d.nd k) (l.L k)) := ⟨hU, hNU⟩
      have HX : Hid (Blk U wr.heap.size _ _) := hx
      have hXW : wr.heap.size ≤ wr.heap.size := Nat.le_refl _
      have HXW : Hid (∀ q, (Value.slice ia k ic).ownBlock = some q → q < wr.heap.size) := fun q e => (owns_block HIN.out.1.od.ownI e).2
      clear hXW
      generalize wr.heap.size = X at *
      clear hx hU hNU d0 d1 d2 d3 d4 d5 HN hQl
      have HSt : Hid (∀ W', Below U.heap.size U W' → W'.cell? ⟨X, 0, none⟩ = some (.int .i64 (d.ino k)) ∧ W'.cell? ⟨X, 1, none⟩ = some (.int .i64 (d.nd k).kind) ∧ W'.cell? ⟨X, 2, none⟩ = some (.string (d.nd k).text) ∧ W'.cell? ⟨X, 3, none⟩ = some (.slice (l.L k).nA (d.nd k).nn (l.L k).nc) ∧ W'.cell? ⟨X, 4, none⟩ = some (.slice (l.L k).kA (d.nd k).kn (l.L k).kc) ∧ W'.cell? ⟨X, 5, none⟩ = some (.int .i64 (d.nd k).turn)) := fun W' hW => by
        have h := HX.out.below hW HX.out.lt
        exact ⟨h.cell 0, h.cell 1, h.cell 2, h.cell 3, h.cell 4, h.cell 5⟩
      have hd5 : Below U.heap.size U U.drew := below_drewN (Below.refl _ _) 1
      refine wp_region_noPanic ?_
      refine wp_region_peel (fun W' => W'.cell? ⟨X, 0, none⟩ = some (.int .i64 (d.ino k)) ∧ W'.cell? ⟨X, 1, none⟩ = some (.int .i64 (d.nd k).kind) ∧ W'.cell? ⟨X, 2, none⟩ = some (.string (d.nd k).text) ∧ W'.cell? ⟨X, 3, none⟩ = some (.slice (l.L k).nA (d.nd k).nn (l.L k).nc) ∧ W'.cell? ⟨X, 4, none⟩ = some (.slice (l.L k).kA (d.nd k).kn (l.L k).kc) ∧ W'.cell? ⟨X, 5, none⟩ = some (.int .i64 (d.nd k).turn)) _ (by kernel_rfl) rfl (by kernel_rfl) ?_ (fun hHeld => ?_)
      · exact HSt.out _ hd5
      simp only [List.pop_toArray, List.dropLast, List.size_toArray, List.length_cons, List.length_nil, Nat.reduceAdd, Nat.reduceSub, List.getElem_toArray, List.getElem_cons_succ, List.getElem_cons_zero]
      refine peel_take (i := 0) (oi := ?oi0d) (v := ?v0d) (fun _ _ _ _ _ h => h) hHeld ?hi0d (by kernel_rfl) (by kernel_rfl) (by kernel_rfl) ?hw0d ?hy0d ?rest0d
      case hi0d =>
        simp only [List.getElem?_toArray, List.getElem?_cons_zero]
        rfl
      case hw0d => rfl
      case hy0d =>
        intro w hSw
        obtain ⟨s0, s1, s2, s3, s4, s5⟩ := hSw
        go_simp
        try with_reducible rfl
      try simp only [Act.put, List.setIfInBounds_toArray, List.set_cons_zero, List.set_cons_succ]
      refine peel_take (i := 1) (oi := ?oi1d) (v := ?v1d) (fun _ _ _ _ _ h => h) hHeld ?hi1d (by kernel_rfl) (by kernel_rfl) (by kernel_rfl) ?hw1d ?hy1d ?rest1d
      case hi1d =>
        simp only [List.getElem?_toArray, List.getElem?_cons_succ, List.getElem?_cons_zero]
        rfl
      case hw1d => rfl
      case hy1d =>
        intro w hSw
        obtain ⟨s0, s1, s2, s3, s4, s5⟩ := hSw
        go_simp
        try with_reducible rfl
      try simp only [Act.put, List.setIfInBounds_toArray, List.set_cons_zero, List.set_cons_succ]
      refine peel_take (i := 2) (oi := ?oi2d) (v := ?v2d) (fun _ _ _ _ _ h => h) hHeld ?hi2d (by kernel_rfl) (by kernel_rfl) (by kernel_rfl) ?hw2d ?hy2d ?rest2d
      case hi2d =>
        simp only [List.getElem?_toArray, List.getElem?_cons_succ, List.getElem?_cons_zero]
        rfl
      case hw2d => rfl
      case hy2d =>
        intro w hSw
        obtain ⟨s0, s1, s2, s3, s4, s5⟩ := hSw
        go_simp
        try with_reducible rfl
      try simp only [Act.put, List.setIfInBounds_toArray, List.set_cons_zero, List.set_cons_succ]
      refine peel_take (i := 3) (oi := ?oi3d) (v := ?v3d) (fun _ _ _ _ _ h => h) hHeld ?hi3d (by kernel_rfl) (by kernel_rfl) (by kernel_rfl) ?hw3d ?hy3d ?rest3d
      case hi3d =>
        simp only [List.getElem?_toArray, List.getElem?_cons_succ, List.getElem?_cons_zero]
        rfl
      case hw3d => rfl
      case hy3d =>
        intro w hSw
        obtain ⟨s0, s1, s2, s3, s4, s5⟩ := hSw
        go_simp
        try with_reducible rfl
      try simp only [Act.put, List.setIfInBounds_toArray, List.set_cons_zero, List.set_cons_succ]
      refine peel_take (i := 4) (oi := ?oi4d) (v := ?v4d) (fun _ _ _ _ _ h => h) hHeld ?hi4d (by kernel_rfl) (by kernel_rfl) (by kernel_rfl) ?hw4d ?hy4d ?rest4d
      case hi4d =>
        simp only [List.getElem?_toArray, List.getElem?_cons_succ, List.getElem?_cons_zero]
        rfl
      case hw4d => rfl
      case hy4d =>
        intro w hSw
        obtain ⟨s0, s1, s2, s3, s4, s5⟩ := hSw
        go_simp
        try with_reducible rfl
      try simp only [Act.put, List.setIfInBounds_toArray, List.set_cons_zero, List.set_cons_succ]
      refine wpAnyH_ready (rs := [5]) (by kernel_rfl) (by simp) ?_
      refine AllReadyH.cons (o := ?o5d) ?ho5d (fun K hK => ?st5d) AllReadyH.nil
      case ho5d =>
        simp only [List.getElem?_toArray, List.getElem?_cons_succ, List.getElem?_cons_zero]
        rfl
      go_simp
      refine (copyNode_any (d.nd k) (l.L k) U.drew (HU.out.2.below (Nat.le_refl _) hd5) hsm.1 hsm.2.1 hsm.2.2.1 hsm.2.2.2).mono ?_
      rintro e W6 ⟨l5, rfl, hN5⟩
      unfold ndV
      have hb6 : Below U.heap.size U W6 := hd5.trans hN5.bel
      refine hK.out _ _ (HSt.out W6 hb6) (fun hHeld => ?_)
      clear hK K
      try simp only [Act.put, List.setIfInBounds_toArray, List.set_cons_zero, List.set_cons_succ]
      refine wpAnyH_ready (rs := [6]) (by kernel_rfl) (by simp) ?_
      refine AllReadyH.cons (o := ?o6d) ?ho6d (fun K hK => ?st6d) AllReadyH.nil
      case ho6d =>
        simp only [List.getElem?_toArray, List.getElem?_cons_succ, List.getElem?_cons_zero]
        rfl
      go_simp
      refine hK.out _ _ (HSt.out W6 hb6) (fun hHeld => ?_)
      clear hK K
      try simp only [Act.put, List.setIfInBounds_toArray, List.set_cons_zero, List.set_cons_succ]
      refine wpAnyH_ready (rs := [7]) (by kernel_rfl) (by simp) ?_
      refine AllReadyH.cons (o := ?o7d) ?ho7d (fun K hK => ?st7d) AllReadyH.nil
      case ho7d =>
        simp only [List.getElem?_toArray, List.getElem?_cons_succ, List.getElem?_cons_zero]
        rfl
      go_simp
      have hb7 : Below U.heap.size U (W6.alloc (.cells #[.int .i64 (d.ino k), .int .i64 (d.nd k).kind, .string (d.nd k).text, .slice l5.nA (d.nd k).nn l5.nc, .slice l5.kA (d.nd k).kn l5.kc, .int .i64 (d.nd k).turn] 113)) := hb6.alloc hb6.size _
      refine hK.out _ _ (HSt.out _ hb7) (fun hHeld => ?_)
      clear hK K
      try simp only [Act.put, List.setIfInBounds_toArray, List.set_cons_zero, List.set_cons_succ]
      refine wpAnyH_ready (rs := [8]) (by kernel_rfl) (by simp) ?_
      refine AllReadyH.cons (o := ?o8d) ?ho8d (fun K hK => ?st8d) AllReadyH.nil
      case ho8d =>
        simp only [List.getElem?_toArray, List.getElem?_cons_succ, List.getElem?_cons_zero]
        rfl
      have hD6 := HU.out.1.below hb7
      have hN6 := hN5.alloc (.cells #[.int .i64 (d.ino k), .int .i64 (d.nd k).kind, .string (d.nd k).text, .slice l5.nA (d.nd k).nn l5.nc, .slice l5.kA (d.nd k).kn l5.kc, .int .i64 (d.nd k).turn] 113)
      refine step_of (by rfl) (wp_append_src (.tmp 18) (.tmp 25) 34 rfl B 113 y0 (.agg #[.int .i64 0, .int .i64 0, .string ByteArray.empty, .slice none 0 0, .slice none 0 0, .int .i64 0]) 6 88 Tryz.underlying34 hy hy0 hy1 hy2 rfl (by decide) (.slice ia k ic) k _ (by rfl) hD6.od.ownI _ 1 _ (by rfl) (src_item W6 (d.ino k) (d.nd k) l5) (by unfold maxLen; omega) (by omega) hD6.bw ?_)
      intro vI W7 hown hgrow hnil hat
      rcases hown.2 with ⟨_, h0⟩ | ⟨gI, cI, cur, hvI, _, _, _⟩
      · omega
      subst hvI
      have hbI : (Value.slice ia k ic).ownBlock = some gI ∨ (W6.alloc (.cells #[.int .i64 (d.ino k), .int .i64 (d.nd k).kind, .string (d.nd k).text, .slice l5.nA (d.nd k).nn l5.nc, .slice l5.kA (d.nd k).kn l5.kc, .int .i64 (d.nd k).turn] 113)).heap.size ≤ gI := by
        rcases hat with e | e
        · exact Or.inl e.symm
        · right
          have e' : gI = (W6.alloc (.cells #[.int .i64 (d.ino k), .int .i64 (d.nd k).kind, .string (d.nd k).text, .slice l5.nA (d.nd k).nn l5.nc, .slice l5.kA (d.nd k).kn l5.kc, .int .i64 (d.nd k).turn] 113)).heap.size := by simpa [Value.ownBlock] using e
          omega
      have H8 : Hid _ := (HU.out.1.below hd5).item hN6 hgrow hown hbI
      have hXB : (Value.slice ia k ic).ownBlock ≠ some X ∨ True := Or.inr trivial
      have hHeld7 : W7.cell? ⟨X, 0, none⟩ = some (.int .i64 (d.ino k)) ∧ W7.cell? ⟨X, 1, none⟩ = some (.int .i64 (d.nd k).kind) ∧ W7.cell? ⟨X, 2, none⟩ = some (.string (d.nd k).text) ∧ W7.cell? ⟨X, 3, none⟩ = some (.slice (l.L k).nA (d.nd k).nn (l.L k).nc) ∧ W7.cell? ⟨X, 4, none⟩ = some (.slice (l.L k).kA (d.nd k).kn (l.L k).kc) ∧ W7.cell? ⟨X, 5, none⟩ = some (.int .i64 (d.nd k).turn) := by
        have hX7 : Blk W7 X #[.int .i64 (d.ino k), .int .i64 (d.nd k).kind, .string (d.nd k).text, .slice (l.L k).nA (d.nd k).nn (l.L k).nc, .slice (l.L k).kA (d.nd k).kn (l.L k).kc, .int .i64 (d.nd k).turn] 113 := by
          refine blk_grownT (HX.out.below hb7 HX.out.lt) hgrow (fun e => ?_)
          have := HXW.out X e
          omega
        exact ⟨hX7.cell 0, hX7.cell 1, hX7.cell 2, hX7.cell 3, hX7.cell 4, hX7.cell 5⟩
      refine hK.out _ _ hHeld7 (fun hHeld => ?_)
      clear hK K
      try simp only [Act.put, List.setIfInBounds_toArray, List.set_cons_zero, List.set_cons_succ]
      refine wpAnyH_done (by kernel_rfl) ?_ _
      show Oper.wp _ _ _ _ _ _
      clear hown hgrow hnil hat hbI hHeld7 hN6 hD6 hN5 HSt hHeld hd5 hb6 hb7 hsm hXB
      go_simp
      refine NoPanic.normal ?_
      go_wp2_with fail
      go_roundw
      case rel => exact ⟨k + 1, some ⟨gI, 0, none⟩, cI, _, _, _, by omega, by go_num, by go_num, H8.out, fun i hi => by
        by_cases e : i = k
        · subst e; simp
        · simp only [e, if_false]; exact HIN.out.2 i (by omega)⟩
      case measure => simp [intOf]; omega
    · obtain rfl : k = d.m := by omega
      have HOWN : Hid (OwnDp wr (w.heap.size + 2) d ⟨some ⟨g, 0, none⟩, c', ia, ic, M⟩) := (HIN.out.1.od.withLive (Z := d.live) HIN.out.1.live HIN.out.1.b0 (fun b e => by
        have e1 : g = b := by simpa [Value.ownBlock] using e
        exact e1 ▸ HIN.out.1.gl)).ext fun i hi => ⟨((HIN.out.2 i hi).1).symm, ((HIN.out.2 i hi).2).symm⟩
      obtain ⟨p0, p1, p2, p3⟩ := pC_cells HIN.out.1.bx.p
      have r0 : wr.cell? ⟨w.heap.size + 1, 0, none⟩ = some (.int .i64 0) := HIN.out.1.bx.r.cell 0
      have r1 : wr.cell? ⟨w.heap.size + 1, 1, none⟩ = some (.int .i64 0) := HIN.out.1.bx.r.cell 1
      have r2 : wr.cell? ⟨w.heap.size + 1, 2, none⟩ = some (.slice none 0 0) := HIN.out.1.bx.r.cell 2
      have r3 : wr.cell? ⟨w.heap.size + 1, 3, none⟩ = some (.slice none 0 0) := HIN.out.1.bx.r.cell 3
      have g0 := HIN.out.1.bx.r.frozen 0
      have g1 := HIN.out.1.bx.r.frozen 1
      have g2 := HIN.out.1.bx.r.frozen 2
      have g3 := HIN.out.1.bx.r.frozen 3
      go_wp2_with fail
      refine end_world (F := fun U => Blk U (w.heap.size + 1) #[.int .i64 d.since, .int .i64 d.date, .slice (some ⟨g, 0, none⟩) d.ln c', .slice ia d.m ic] 36 ∧ Below w.heap.size w U ∧ OwnDp U (w.heap.size + 2) d ⟨some ⟨g, 0, none⟩, c', ia, ic, M⟩) ⟨(((HIN.out.1.bx.r.set 0 _).set 1 _).set 2 _).set 3 _, bel_put (bel_put (bel_put (bel_put HIN.out.1.bx.bel _ (by omega)) _ (by omega)) _ (by omega)) _ (by omega), OD.off (OD.off (OD.off (OD.off HOWN.out _ (by omega)) _ (by omega)) _ (by omega)) _ (by omega)⟩ ?_
      clear p0 p1 p2 p3 r0 r1 r2 r3 g0 g1 g2 g3
      rintro U ⟨hr, hBU, hod⟩
      have r0 : U.cell? ⟨w.heap.size + 1, 0, none⟩ = some (.int .i64 d.since) := hr.cell 0
      have r1 : U.cell? ⟨w.heap.size + 1, 1, none⟩ = some (.int .i64 d.date) := hr.cell 1
      have r2 : U.cell? ⟨w.heap.size + 1, 2, none⟩ = some (.slice (some ⟨g, 0, none⟩) d.ln c') := hr.cell 2
      have r3 : U.cell? ⟨w.heap.size + 1, 3, none⟩ = some (.slice ia d.m ic) := hr.cell 3
      exact bodyPost_ret (v := .agg #[.int .i64 d.since, .int .i64 d.date, .slice (some ⟨g, 0, none⟩) d.ln c', .slice ia d.m ic]) (by simp [results, Tryz.results50, go_sem, r0, r1, r2, r3]) rfl ⟨⟨some ⟨g, 0, none⟩, c', ia, ic, M⟩, rfl, hBU, OD.lower hod (by omega)⟩

set_option maxRecDepth 100000 in
set_option maxHeartbeats 8000000 in
theorem copyJob_any (j : Jb) (l : JLoc) (w : World) (hJ : JIn w j l) (hok : j.d.ok = true) (hn : j.t.n ≤ 10) (hq10 : j.q ≤ 10) (hst : j.t.size ≤ 1048576) (hsd : j.d.size ≤ 1048576) (hse : sizeTo j.e j.q ≤ 1048576) :
    Calls Tryz.prog 63 #[jV j l] w (JPost1 w j) := by
  unfold jV
  obtain ⟨y0, hy, hy0, hy1, hy2⟩ := info_parts infoNode
  have htS := tr_small hse
  go_enter Tryz.func63, Tryz.ntmps63
  go_wp2_with fail
  refine wp_world (F := Bx w (jC j l) 38 #[.slice none 0 0, .int .i64 0, .int .i64 0, .int .i64 0, .slice none 0 0, .slice none 0 0, .slice none 0 0] 38) (bx2 w _ _ _ _) ?_
  intro W hP
  have HP : Hid _ := hP
  clear hP
  have p6 : W.cell? ⟨w.heap.size, 6, none⟩ = some (.slice l.e j.q l.f) := HP.out.p.cell 6
  go_wp2_with fail
  go_loopw [3, 9] (fun v i wr => ∃ (k : Nat) (b : Option Addr) (bc : Nat) (E : Nat → Nd) (M : Nat → Loc), k ≤ j.q ∧ v = .slice b k bc ∧ i = .int .i64 k ∧ Bn w (jC j l) 38 #[.slice none 0 0, .int .i64 0, .int .i64 0, .int .i64 0, .slice none 0 0, .slice none 0 0, .slice none 0 0] 38 k b bc E M wr ∧ ∀ i, i < k → E i = j.e i) (fun _ i _ => j.q - (intOf i).toNat)
  case atStart => exact ⟨0, none, 0, fun _ => ndZero, fun _ => ⟨none, 0, none, 0⟩, Nat.zero_le _, rfl, rfl, ⟨HP.out, OT.start _ _ _ _ _ _⟩, fun i hi => absurd hi (Nat.not_lt_zero _)⟩
  case round =>
    obtain ⟨k, b, bc, E, M, hk, rfl, rfl, hin, hsel⟩ := hrel
    have HIN : Hid (Bn w (jC j l) 38 #[.slice none 0 0, .int .i64 0, .int .i64 0, .int .i64 0, .slice none 0 0, .slice none 0 0, .slice none 0 0] 38 k b bc E M wr ∧ ∀ i, i < k → E i = j.e i) := ⟨hin, hsel⟩
    have hsw : w.heap.size + 2 ≤ wr.heap.size := hin.bx.size
    clear hin hsel
    by_cases hlt : k < j.q
    · have hlti : (k : Int) < (j.q : Int) := by omega
      obtain ⟨bI, oI, hQ, hQl, hQc⟩ := (hJ.e.below (Nat.le_refl _) HIN.out.1.bx.bel).at hlt
      obtain ⟨d1, d2, d3, d4, d5, d6⟩ := hQc k hlt
      have HN : Hid (NdIn wr (j.e k) (l.g k)) := d6
      have hsm := htS k hlt
      rw [hQ]
      have HA : Hid (l.e = some ⟨bI, oI, none⟩) := hQ
      clear hQ hQc d6
      go_wp2_with fail
      refine at_world (F := fun U => Bn w (jC j l) 38 #[.slice none 0 0, .int .i64 0, .int .i64 0, .int .i64 0, .slice none 0 0, .slice none 0 0, .slice none 0 0] 38 k b bc E M U ∧ NdIn U (j.e k) (l.g k)) ⟨HIN.out.1.below ((Below.refl _ _).alloc (Nat.le_refl _) _), HN.out.below (Nat.le_refl _) ((Below.refl _ _).alloc (Nat.le_refl _) _)⟩ ?_
      rintro U ⟨hU, hNU⟩
      refine (copyNode_any (j.e k) (l.g k) U hNU hsm.1 hsm.2.1 hsm.2.2.1 hsm.2.2.2).mono ?_
      rintro e W6 ⟨l5, rfl, hN5⟩
      unfold ndV
      have HU : Hid (Bn w (jC j l) 38 #[.slice none 0 0, .int .i64 0, .int .i64 0, .int .i64 0, .slice none 0 0, .slice none 0 0, .slice none 0 0] 38 k b bc E M U ∧ NewNn U (j.e k) l5 W6 ∧ w.heap.size + 2 ≤ W6.heap.size) := ⟨hU, hN5, by have := hU.bx.size; have := hN5.bel.size; omega⟩
      clear hU hNU hN5
      go_wp2_with (at_builtin; go_must (refine wpList_append_src (by rfl) _ _ 31 rfl (w.heap.size + 2) 87 y0 (.agg #[.int .i64 0, .string ByteArray.empty, .slice none 0 0, .slice none 0 0, .int .i64 0]) 5 80 Tryz.underlying31 hy hy0 hy1 hy2 rfl (by decide) (.slice b k bc) k (rowsT (fun _ => 0) E M k) (by rfl) ((HU.out.1.below HU.out.2.1.bel).ot.ownI.alloc _) _ 1 _ (by rfl) (src_node W6 (j.e k) l5) (by unfold maxLen; omega) (by omega) (by have := HU.out.2.2; simp; omega) ?_))
      intro vI W7 hown hgrow hnil hat
      rcases hown.2 with ⟨_, h0⟩ | ⟨gI, cI, cur, hvI, _, _, _⟩
      · omega
      subst hvI
      have hbI : (Value.slice b k bc).ownBlock = some gI ∨ (W6.alloc (.cells #[.int .i64 (j.e k).kind, .string (j.e k).text, .slice (l5).nA (j.e k).nn (l5).nc, .slice (l5).kA (j.e k).kn (l5).kc, .int .i64 (j.e k).turn] 87)).heap.size ≤ gI := by
        rcases hat with e | e
        · exact Or.inl e.symm
        · right
          have e' : gI = (W6.alloc (.cells #[.int .i64 (j.e k).kind, .string (j.e k).text, .slice (l5).nA (j.e k).nn (l5).nc, .slice (l5).kA (j.e k).kn (l5).kc, .int .i64 (j.e k).turn] 87)).heap.size := by simpa [Value.ownBlock] using e
          omega
      have H8 : Hid _ := HU.out.1.item (HU.out.2.1.alloc (.cells #[.int .i64 (j.e k).kind, .string (j.e k).text, .slice (l5).nA (j.e k).nn (l5).nc, .slice (l5).kA (j.e k).kn (l5).kc, .int .i64 (j.e k).turn] 87)) hgrow hown hbI
      clear hown hgrow hnil hat hbI
      go_wp2_with fail
      go_roundw
      case rel => exact ⟨k + 1, some ⟨gI, 0, none⟩, cI, _, _, by omega, by go_num, by go_num, H8.out, fun i hi => by
        by_cases e : i = k
        · subst e; simp
        · simp only [e, if_false]; exact HIN.out.2 i (by omega)⟩
      case measure => simp [intOf]; omega
    · obtain rfl : k = j.q := by omega
      have HOT : Hid (OwnTr wr (w.heap.size + 2) ⟨j.q, j.e, 0⟩ ⟨b, bc, M⟩) := HIN.out.1.ot.ext fun i hi => ⟨(HIN.out.2 i hi).symm, rfl⟩
      have HX : Hid (Bx w (jC j l) 38 #[.slice none 0 0, .int .i64 0, .int .i64 0, .int .i64 0, .slice none 0 0, .slice none 0 0, .slice none 0 0] 38 wr ∧ OwnTr wr (w.heap.size + 2) j.dn ⟨b, bc, M⟩) := ⟨HIN.out.1.bx, HOT.out⟩
      clear HIN HOT
      have HSt : Hid (∀ W', Below wr.heap.size wr W' → W'.cell? ⟨w.heap.size, 0, none⟩ = some (.slice l.t.a j.t.n l.t.c) ∧ W'.cell? ⟨w.heap.size, 1, none⟩ = some (.int .i64 j.t.now) ∧ W'.cell? ⟨w.heap.size, 2, none⟩ = some (.int .i64 j.d.since) ∧ W'.cell? ⟨w.heap.size, 3, none⟩ = some (.int .i64 j.d.date) ∧ W'.cell? ⟨w.heap.size, 4, none⟩ = some (.slice l.d.lA j.d.ln l.d.lc) ∧ W'.cell? ⟨w.heap.size, 5, none⟩ = some (.slice l.d.iA j.d.m l.d.ic)) := fun W' hW => by
        obtain ⟨p0, p1, p2, p3, p4, p5, p6⟩ := jC_cells (HX.out.1.below hW).p
        exact ⟨p0, p1, p2, p3, p4, p5⟩
      have hd0 : Below wr.heap.size wr wr.drew := below_drewN (Below.refl _ _) 1
      go_wp2_with fail
      refine wp_region_noPanic ?_
      refine wp_region_peel (fun W' => W'.cell? ⟨w.heap.size, 0, none⟩ = some (.slice l.t.a j.t.n l.t.c) ∧ W'.cell? ⟨w.heap.size, 1, none⟩ = some (.int .i64 j.t.now) ∧ W'.cell? ⟨w.heap.size, 2, none⟩ = some (.int .i64 j.d.since) ∧ W'.cell? ⟨w.heap.size, 3, none⟩ = some (.int .i64 j.d.date) ∧ W'.cell? ⟨w.heap.size, 4, none⟩ = some (.slice l.d.lA j.d.ln l.d.lc) ∧ W'.cell? ⟨w.heap.size, 5, none⟩ = some (.slice l.d.iA j.d.m l.d.ic)) _ (by kernel_rfl) rfl (by kernel_rfl) ?_ (fun hHeld => ?_)
      · exact HSt.out _ hd0
      simp only [List.pop_toArray, List.dropLast, List.size_toArray, List.length_cons, List.length_nil, Nat.reduceAdd, Nat.reduceSub, List.getElem_toArray, List.getElem_cons_succ, List.getElem_cons_zero]
      refine peel_take (i := 0) (oi := ?oi0e) (v := ?v0e) (fun _ _ _ _ _ h => h) hHeld ?hi0e (by kernel_rfl) (by kernel_rfl) (by kernel_rfl) ?hw0e ?hy0e ?rest0e
      case hi0e =>
        simp only [List.getElem?_toArray, List.getElem?_cons_zero]
        rfl
      case hw0e => rfl
      case hy0e =>
        intro w hSw
        obtain ⟨s0, s1, s2, s3, s4, s5⟩ := hSw
        go_simp
        try with_reducible rfl
      try simp only [Act.put, List.setIfInBounds_toArray, List.set_cons_zero, List.set_cons_succ]
      refine peel_take (i := 1) (oi := ?oi1e) (v := ?v1e) (fun _ _ _ _ _ h => h) hHeld ?hi1e (by kernel_rfl) (by kernel_rfl) (by kernel_rfl) ?hw1e ?hy1e ?rest1e
      case hi1e =>
        simp only [List.getElem?_toArray, List.getElem?_cons_succ, List.getElem?_cons_zero]
        rfl
      case hw1e => rfl
      case hy1e =>
        intro w hSw
        obtain ⟨s0, s1, s2, s3, s4, s5⟩ := hSw
        go_simp
        try with_reducible rfl
      try simp only [Act.put, List.setIfInBounds_toArray, List.set_cons_zero, List.set_cons_succ]
      refine peel_take (i := 3) (oi := ?oi3e) (v := ?v3e) (fun _ _ _ _ _ h => h) hHeld ?hi3e (by kernel_rfl) (by kernel_rfl) (by kernel_rfl) ?hw3e ?hy3e ?rest3e
      case hi3e =>
        simp only [List.getElem?_toArray, List.getElem?_cons_succ, List.getElem?_cons_zero]
        rfl
      case hw3e => rfl
      case hy3e =>
        intro w hSw
        obtain ⟨s0, s1, s2, s3, s4, s5⟩ := hSw
        go_simp
        try with_reducible rfl
      try simp only [Act.put, List.setIfInBounds_toArray, List.set_cons_zero, List.set_cons_succ]
      refine peel_take (i := 4) (oi := ?oi4e) (v := ?v4e) (fun _ _ _ _ _ h => h) hHeld ?hi4e (by kernel_rfl) (by kernel_rfl) (by kernel_rfl) ?hw4e ?hy4e ?rest4e
      case hi4e =>
        simp only [List.getElem?_toArray, List.getElem?_cons_succ, List.getElem?_cons_zero]
        rfl
      case hw4e => rfl
      case hy4e =>
        intro w hSw
        obtain ⟨s0, s1, s2, s3, s4, s5⟩ := hSw
        go_simp
        try with_reducible rfl
      try simp only [Act.put, List.setIfInBounds_toArray, List.set_cons_zero, List.set_cons_succ]
      refine peel_take (i := 6) (oi := ?oi6e) (v := ?v6e) (fun _ _ _ _ _ h => h) hHeld ?hi6e (by kernel_rfl) (by kernel_rfl) (by kernel_rfl) ?hw6e ?hy6e ?rest6e
      case hi6e =>
        simp only [List.getElem?_toArray, List.getElem?_cons_succ, List.getElem?_cons_zero]
        rfl
      case hw6e => rfl
      case hy6e =>
        intro w hSw
        obtain ⟨s0, s1, s2, s3, s4, s5⟩ := hSw
        go_simp
        try with_reducible rfl
      try simp only [Act.put, List.setIfInBounds_toArray, List.set_cons_zero, List.set_cons_succ]
      refine wpAnyH_ready (rs := [2]) (by kernel_rfl) (by simp) ?_
      refine AllReadyH.cons (o := ?o2e) ?ho2e (fun K hK => ?st2e) AllReadyH.nil
      case ho2e =>
        simp only [List.getElem?_toArray, List.getElem?_cons_succ, List.getElem?_cons_zero]
        rfl
      go_simp
      refine (copyTree_any j.t l.t wr.drew ((hJ.t.below (Nat.le_refl _) HX.out.1.bel).below (Nat.le_refl _) hd0) (by omega) hst).mono ?_
      rintro e w4 ⟨k1, rfl, hb4, ho4⟩
      unfold tV
      have hB4 : Below wr.heap.size wr w4 := hd0.trans (hb4.mono hd0.size)
      have H4 : Hid (OwnTr w4 wr.heap.size j.t k1) := ho4.lower hd0.size
      clear hb4 ho4
      refine hK.out _ _ (HSt.out _ hB4) (fun hHeld => ?_)
      clear hK K
      try simp only [Act.put, List.setIfInBounds_toArray, List.set_cons_zero, List.set_cons_succ]
      refine wpAnyH_ready (rs := [5]) (by kernel_rfl) (by simp) ?_
      refine AllReadyH.cons (o := ?o5e) ?ho5e (fun K hK => ?st5e) AllReadyH.nil
      case ho5e =>
        simp only [List.getElem?_toArray, List.getElem?_cons_succ, List.getElem?_cons_zero]
        rfl
      go_simp
      refine (copyDump_any j.d l.d w4 ((hJ.d.below (Nat.le_refl _) HX.out.1.bel).below (Nat.le_refl _) hB4) hok hsd).mono ?_
      rintro e w5 ⟨k2, rfl, hb5, ho5⟩
      unfold dpV
      have hB5 : Below wr.heap.size wr w5 := hB4.trans (hb5.mono hB4.size)
      have HJ : Hid (Bx w (jC j l) 38 #[.slice none 0 0, .int .i64 0, .int .i64 0, .int .i64 0, .slice none 0 0, .slice none 0 0, .slice none 0 0] 38 w5 ∧ OwnJb w5 (w.heap.size + 2) j ⟨k1, k2, b, bc, M⟩) := by
        have hE := HX.out.2.below hB5
        have hT := H4.out.below hb5
        have hEt : ∀ q, BkT j.dn ⟨b, bc, M⟩ q → q < wr.heap.size := fun q e => (HX.out.2.blk e).2
        have hTt : ∀ q, BkT j.t k1 q → wr.heap.size ≤ q ∧ q < w4.heap.size := fun q e => H4.out.blk e
        have hDt : ∀ q, BkD j.d k2 q → w4.heap.size ≤ q := fun q e => (ho5.blk e).1
        have hs4 := hB4.size
        exact ⟨HX.out.1.below hB5, hT.lower hsw, ho5.lower (by omega), hE, fun q e1 e2 => by have h1 := (hTt q e1).2; have h2 := hDt q e2; omega, fun q e1 e2 => by have h1 := (hTt q e1).1; have h2 := hEt q e2; omega, fun q e1 e2 => by have h1 := hDt q e1; have h2 := hEt q e2; omega⟩
      clear hb5 ho5
      refine hK.out _ _ (HSt.out _ hB5) (fun hHeld => ?_)
      clear hK K
      try simp only [Act.put, List.setIfInBounds_toArray, List.set_cons_zero, List.set_cons_succ]
      refine wpAnyH_ready (rs := [7]) (by kernel_rfl) (by simp) ?_
      refine AllReadyH.cons (o := ?o7e) ?ho7e (fun K hK => ?st7e) AllReadyH.nil
      case ho7e =>
        simp only [List.getElem?_toArray, List.getElem?_cons_succ, List.getElem?_cons_zero]
        rfl
      go_simp
      refine hK.out _ _ (HSt.out _ hB5) (fun hHeld => ?_)
      clear hK K
      try simp only [Act.put, List.setIfInBounds_toArray, List.set_cons_zero, List.set_cons_succ]
      refine wpAnyH_done (by kernel_rfl) ?_ _
      show Oper.wp _ _ _ _ _ _
      have r0 : w5.cell? ⟨w.heap.size + 1, 0, none⟩ = some (.slice none 0 0) := HJ.out.1.r.cell 0
      have g0 := HJ.out.1.r.frozen 0
      have r1 : w5.cell? ⟨w.heap.size + 1, 1, none⟩ = some (.int .i64 0) := HJ.out.1.r.cell 1
      have g1 := HJ.out.1.r.frozen 1
      have r2 : w5.cell? ⟨w.heap.size + 1, 2, none⟩ = some (.int .i64 0) := HJ.out.1.r.cell 2
      have g2 := HJ.out.1.r.frozen 2
      have r3 : w5.cell? ⟨w.heap.size + 1, 3, none⟩ = some (.int .i64 0) := HJ.out.1.r.cell 3
      have g3 := HJ.out.1.r.frozen 3
      have r4 : w5.cell? ⟨w.heap.size + 1, 4, none⟩ = some (.slice none 0 0) := HJ.out.1.r.cell 4
      have g4 := HJ.out.1.r.frozen 4
      have r5 : w5.cell? ⟨w.heap.size + 1, 5, none⟩ = some (.slice none 0 0) := HJ.out.1.r.cell 5
      have g5 := HJ.out.1.r.frozen 5
      have r6 : w5.cell? ⟨w.heap.size + 1, 6, none⟩ = some (.slice none 0 0) := HJ.out.1.r.cell 6
      have g6 := HJ.out.1.r.frozen 6
      have HE : Hid (∀ U, U = (((((((w5.setCell ⟨w.heap.size + 1, 0, none⟩ (.slice k1.a j.t.n k1.c)).setCell ⟨w.heap.size + 1, 1, none⟩ (.int .i64 j.t.now)).setCell ⟨w.heap.size + 1, 2, none⟩ (.int .i64 j.d.since)).setCell ⟨w.heap.size + 1, 3, none⟩ (.int .i64 j.d.date)).setCell ⟨w.heap.size + 1, 4, none⟩ (.slice k2.lA j.d.ln k2.lc)).setCell ⟨w.heap.size + 1, 5, none⟩ (.slice k2.iA j.d.m k2.ic)).setCell ⟨w.heap.size + 1, 6, none⟩ (.slice b j.q bc)) → Blk U (w.heap.size + 1) (jC j ⟨k1, k2, b, bc, M⟩) 38 ∧ JPost1 w j (.returned (jV j ⟨k1, k2, b, bc, M⟩)) U) := fun U e => by
        subst e
        exact ⟨blk7 HJ.out.1.r _ _ _ _ _ _ _, bel7 HJ.out.1.bel (by omega) _ _ _ _ _ _ _, _, rfl, (jb7 HJ.out.2 (by omega) _ _ _ _ _ _ _).lower (by omega)⟩
      clear HSt hHeld hd0 hB4 hB5 HJ HX H4
      go_simp
      refine NoPanic.normal ?_
      go_wp2_with fail
      refine end_world (F := fun U => Blk U (w.heap.size + 1) (jC j ⟨k1, k2, b, bc, M⟩) 38 ∧ JPost1 w j (.returned (jV j ⟨k1, k2, b, bc, M⟩)) U) (HE.out _ rfl) ?_
      clear HE r0 r1 r2 r3 r4 r5 r6 g0 g1 g2 g3 g4 g5 g6
      rintro U ⟨hr, hE⟩
      obtain ⟨e0, e1, e2, e3, e4, e5, e6⟩ := jC_cells hr
      exact bodyPost_ret (v := jV j ⟨k1, k2, b, bc, M⟩) (by unfold jV; simp [results, Tryz.results63, go_sem, e0, e1, e2, e3, e4, e5, e6]) rfl hE
end Go.Proofs.YtakifcobofkheaaGreatDoor

/-
  What JobNew of the program answers.
-/
namespace Go.Proofs.YtakifcobofkheaaGreatDoor
open Go.RowKit Go.Deep
set_option linter.unusedVariables false
set_option linter.unusedSimpArgs false
set_option linter.unnecessarySimpa false

set_option maxRecDepth 100000 in
set_option maxHeartbeats 8000000 in
theorem implJobNew_any (t : Tr) (l : TLoc) (d : Dp) (k : DLoc) (w : World) (hE : ErrType w) (hT : TIn w t l) (hD : DpIn w d k) (ft : t.Fits) (fd : d.Fits) (hs : t.size + d.size ≤ 1048576) :
    Calls Tryz.prog 14 #[tV t l, dpV d k] w (JPost w (newAns t d) (backCode t.n t.D t.now d)) := by
  unfold tV dpV
  go_enter Tryz.func14, Tryz.ntmps14
  go_wp2_with fail
  refine at_world (F := fun W => Jn w t l d k W ∧ w.heap.size + 3 ≤ W.heap.size) ?_ ?_
  · obtain ⟨h0, h1, h2, hb, _⟩ := new3 w (tC t l) 33 (pC d k) 36 #[.slice none 0 0, .int .i64 0, .int .i64 0, .int .i64 0, .slice none 0 0, .slice none 0 0, .slice none 0 0] 38
    exact ⟨⟨h0, h1, h2, hb⟩, by simp⟩
  rintro W ⟨hO, hsW⟩
  refine (implBackOne_law t l d k W (hE.bel hO.bel) (hT.below (Nat.le_refl _) hO.bel) (hD.below (Nat.le_refl _) hO.bel) ft fd hs).mono ?_
  intro e w1 hpost
  obtain ⟨hb1, lr, rfl, hown⟩ := back_out t d hpost
  unfold tV
  have H1 : Hid (Jn w t l d k w1) := hO.below hb1
  have hs1 : w.heap.size + 3 ≤ w1.heap.size := by have := hb1.size; omega
  clear hb1 hO hsW hpost hown
  have n0 : w.heap.size < w1.heap.size := by omega
  have m0 : w.heap.size ≠ w1.heap.size := by omega
  have n1 : w.heap.size + 1 < w1.heap.size := by omega
  have m1 : w.heap.size + 1 ≠ w1.heap.size := by omega
  have n2 : w.heap.size + 1 + 1 < w1.heap.size := by omega
  have m2 : w.heap.size + 1 + 1 ≠ w1.heap.size := by omega
  obtain ⟨p0, p1⟩ := tC_cells H1.out.p
  obtain ⟨q0, q1, q2, q3⟩ := pC_cells H1.out.q
  have r0 : w1.cell? ⟨w.heap.size + 1 + 1, 0, none⟩ = some (.slice none 0 0) := H1.out.r.cell 0
  have r1 : w1.cell? ⟨w.heap.size + 1 + 1, 1, none⟩ = some (.int .i64 0) := H1.out.r.cell 1
  have r2 : w1.cell? ⟨w.heap.size + 1 + 1, 2, none⟩ = some (.int .i64 0) := H1.out.r.cell 2
  have r3 : w1.cell? ⟨w.heap.size + 1 + 1, 3, none⟩ = some (.int .i64 0) := H1.out.r.cell 3
  have r4 : w1.cell? ⟨w.heap.size + 1 + 1, 4, none⟩ = some (.slice none 0 0) := H1.out.r.cell 4
  have r5 : w1.cell? ⟨w.heap.size + 1 + 1, 5, none⟩ = some (.slice none 0 0) := H1.out.r.cell 5
  have r6 : w1.cell? ⟨w.heap.size + 1 + 1, 6, none⟩ = some (.slice none 0 0) := H1.out.r.cell 6
  have g0 := H1.out.r.frozen 0
  have g1 := H1.out.r.frozen 1
  have g2 := H1.out.r.frozen 2
  have g3 := H1.out.r.frozen 3
  have g4 := H1.out.r.frozen 4
  have g5 := H1.out.r.frozen 5
  have g6 := H1.out.r.frozen 6
  by_cases hz : backCode t.n t.D t.now d = 0
  · have hzb : (backCode t.n t.D t.now d != 0) = false := by simp [hz]
    have HZ : Hid (backCode t.n t.D t.now d = 0) := hz
    have HA : Hid (newAns t d = newJb t d) := by show _ = _; unfold newAns; rw [if_pos hz]
    have HC : Hid (d.ok = true ∧ (0 < d.since → t.n ≤ 10)) := by
      obtain ⟨hok, hsn, _, _⟩ := code_zero hz
      exact ⟨hok, fun e => (hsn e).1.few⟩
    have hsi := ok_since HC.out.1
    have HJ2 : Hid (∀ U, U = w1.alloc (.cells #[.slice lr.a (backTr t d).n lr.c, .int .i64 (backTr t d).now] 33) → Jn w t l d k U ∧ w.heap.size + 3 ≤ U.heap.size) := fun U e => by
      have hb : Below w1.heap.size w1 U := by rw [e]; exact (Below.refl _ _).alloc (Nat.le_refl _) _
      exact ⟨H1.out.below hb, Nat.le_trans hs1 hb.size⟩
    clear hz
    go_wp2_with fail
    refine at_world (F := fun U => Jn w t l d k U ∧ w.heap.size + 3 ≤ U.heap.size) (HJ2.out _ rfl) ?_
    clear HJ2 n0 n1 n2 m0 m1 m2 p0 p1 q0 q1 q2 q3 r0 r1 r2 r3 r4 r5 r6 g0 g1 g2 g3 g4 g5 g6 H1 hs1
    rintro W2 ⟨hj2, hs2⟩
    refine (copyDump_any d k W2 (hD.below (Nat.le_refl _) hj2.bel) HC.out.1 (by omega)).mono ?_
    rintro e w3 ⟨k2, rfl, hb3, ho3⟩
    unfold dpV
    have H3 : Hid (Jn w t l d k w3 ∧ OwnDp w3 (w.heap.size + 3) d k2) := ⟨hj2.below hb3, ho3.lower hs2⟩
    have hs3 : w.heap.size + 3 ≤ w3.heap.size := by have := hb3.size; omega
    clear hj2 hs2 hb3 ho3
    have n0 : w.heap.size < w3.heap.size := by omega
    have m0 : w.heap.size ≠ w3.heap.size := by omega
    have n1 : w.heap.size + 1 < w3.heap.size := by omega
    have m1 : w.heap.size + 1 ≠ w3.heap.size := by omega
    have n2 : w.heap.size + 1 + 1 < w3.heap.size := by omega
    have m2 : w.heap.size + 1 + 1 ≠ w3.heap.size := by omega
    obtain ⟨p0, p1⟩ := tC_cells H3.out.1.p
    obtain ⟨q0, q1, q2, q3⟩ := pC_cells H3.out.1.q
    have r0 : w3.cell? ⟨w.heap.size + 1 + 1, 0, none⟩ = some (.slice none 0 0) := H3.out.1.r.cell 0
    have r1 : w3.cell? ⟨w.heap.size + 1 + 1, 1, none⟩ = some (.int .i64 0) := H3.out.1.r.cell 1
    have r2 : w3.cell? ⟨w.heap.size + 1 + 1, 2, none⟩ = some (.int .i64 0) := H3.out.1.r.cell 2
    have r3 : w3.cell? ⟨w.heap.size + 1 + 1, 3, none⟩ = some (.int .i64 0) := H3.out.1.r.cell 3
    have r4 : w3.cell? ⟨w.heap.size + 1 + 1, 4, none⟩ = some (.slice none 0 0) := H3.out.1.r.cell 4
    have r5 : w3.cell? ⟨w.heap.size + 1 + 1, 5, none⟩ = some (.slice none 0 0) := H3.out.1.r.cell 5
    have r6 : w3.cell? ⟨w.heap.size + 1 + 1, 6, none⟩ = some (.slice none 0 0) := H3.out.1.r.cell 6
    have g0 := H3.out.1.r.frozen 0
    have g1 := H3.out.1.r.frozen 1
    have g2 := H3.out.1.r.frozen 2
    have g3 := H3.out.1.r.frozen 3
    have g4 := H3.out.1.r.frozen 4
    have g5 := H3.out.1.r.frozen 5
    have g6 := H3.out.1.r.frozen 6
    by_cases hp : 0 < d.since
    · have HV : Hid (∀ U, U = w3.alloc (.cells #[.slice none 0 0, .int .i64 0, .int .i64 d.since, .int .i64 d.date, .slice k2.lA d.ln k2.lc, .slice k2.iA d.m k2.ic, .slice none 0 0] 38) → Jn w t l d k U ∧ OwnDp U (w.heap.size + 3) d k2 ∧ Blk U w3.heap.size #[.slice none 0 0, .int .i64 0, .int .i64 d.since, .int .i64 d.date, .slice k2.lA d.ln k2.lc, .slice k2.iA d.m k2.ic, .slice none 0 0] 38 ∧ (∀ b, BkD d k2 b → b < w3.heap.size) ∧ w3.heap.size < U.heap.size) := fun U e => by
        obtain ⟨h0, hb, _⟩ := new1 w3 #[.slice none 0 0, .int .i64 0, .int .i64 d.since, .int .i64 d.date, .slice k2.lA d.ln k2.lc, .slice k2.iA d.m k2.ic, .slice none 0 0] 38
        rw [← e] at h0 hb
        exact ⟨H3.out.1.below hb, H3.out.2.below hb, h0, fun b e => (H3.out.2.blk e).2, h0.lt⟩
      have hn10 := HC.out.2 hp
      have hNJ : newJb t d = ⟨t, d, 0, fun _ => ndZero⟩ := by unfold newJb; rw [if_neg (by omega)]
      have HNJ : Hid _ := hNJ
      clear hNJ
      go_wp2_with fail
      refine at_world (F := fun U => Jn w t l d k U ∧ OwnDp U (w.heap.size + 3) d k2 ∧ Blk U w3.heap.size #[.slice none 0 0, .int .i64 0, .int .i64 d.since, .int .i64 d.date, .slice k2.lA d.ln k2.lc, .slice k2.iA d.m k2.ic, .slice none 0 0] 38 ∧ (∀ b, BkD d k2 b → b < w3.heap.size) ∧ w3.heap.size < U.heap.size) (HV.out _ rfl) ?_
      generalize w3.heap.size = V at *
      clear HV n0 n1 n2 m0 m1 m2 p0 p1 q0 q1 q2 q3 r0 r1 r2 r3 r4 r5 r6 g0 g1 g2 g3 g4 g5 g6 H3
      rintro W4 ⟨hj4, hd4, hv4, hk4, hl4⟩
      refine (copyTree_any t l W4 (hT.below (Nat.le_refl _) hj4.bel) (by omega) (by omega)).mono ?_
      rintro e w5 ⟨k1, rfl, hb5, ho5⟩
      unfold tV
      have H5 : Hid (Jn w t l d k w5 ∧ OwnDp w5 (w.heap.size + 3) d k2 ∧ Blk w5 V #[.slice none 0 0, .int .i64 0, .int .i64 d.since, .int .i64 d.date, .slice k2.lA d.ln k2.lc, .slice k2.iA d.m k2.ic, .slice none 0 0] 38 ∧ (∀ b, BkD d k2 b → b < V) ∧ OwnTr w5 W4.heap.size t k1 ∧ V < W4.heap.size ∧ V < w5.heap.size) := ⟨hj4.below hb5, hd4.below hb5, hv4.below hb5 hl4, hk4, ho5, hl4, by have := hb5.size; omega⟩
      clear hj4 hd4 hv4 hk4 hl4 hb5 ho5
      have v0 : w5.cell? ⟨V, 0, none⟩ = some (.slice none 0 0) := H5.out.2.2.1.cell 0
      have v1 : w5.cell? ⟨V, 1, none⟩ = some (.int .i64 0) := H5.out.2.2.1.cell 1
      have v2 : w5.cell? ⟨V, 2, none⟩ = some (.int .i64 d.since) := H5.out.2.2.1.cell 2
      have v3 : w5.cell? ⟨V, 3, none⟩ = some (.int .i64 d.date) := H5.out.2.2.1.cell 3
      have v4 : w5.cell? ⟨V, 4, none⟩ = some (.slice k2.lA d.ln k2.lc) := H5.out.2.2.1.cell 4
      have v5 : w5.cell? ⟨V, 5, none⟩ = some (.slice k2.iA d.m k2.ic) := H5.out.2.2.1.cell 5
      have v6 : w5.cell? ⟨V, 6, none⟩ = some (.slice none 0 0) := H5.out.2.2.1.cell 6
      have f0 := H5.out.2.2.1.frozen 0
      have f1 := H5.out.2.2.1.frozen 1
      have nV : w.heap.size + 1 + 1 ≠ V := by omega
      have mV : V ≠ w.heap.size + 1 + 1 := by omega
      have r0 : w5.cell? ⟨w.heap.size + 1 + 1, 0, none⟩ = some (.slice none 0 0) := H5.out.1.r.cell 0
      have r1 : w5.cell? ⟨w.heap.size + 1 + 1, 1, none⟩ = some (.int .i64 0) := H5.out.1.r.cell 1
      have r2 : w5.cell? ⟨w.heap.size + 1 + 1, 2, none⟩ = some (.int .i64 0) := H5.out.1.r.cell 2
      have r3 : w5.cell? ⟨w.heap.size + 1 + 1, 3, none⟩ = some (.int .i64 0) := H5.out.1.r.cell 3
      have r4 : w5.cell? ⟨w.heap.size + 1 + 1, 4, none⟩ = some (.slice none 0 0) := H5.out.1.r.cell 4
      have r5 : w5.cell? ⟨w.heap.size + 1 + 1, 5, none⟩ = some (.slice none 0 0) := H5.out.1.r.cell 5
      have r6 : w5.cell? ⟨w.heap.size + 1 + 1, 6, none⟩ = some (.slice none 0 0) := H5.out.1.r.cell 6
      have g0 := H5.out.1.r.frozen 0
      have g1 := H5.out.1.r.frozen 1
      have g2 := H5.out.1.r.frozen 2
      have g3 := H5.out.1.r.frozen 3
      have g4 := H5.out.1.r.frozen 4
      have g5 := H5.out.1.r.frozen 5
      have g6 := H5.out.1.r.frozen 6
      have HF : Hid (Jn w t l d k ((w5.setCell ⟨V, 0, none⟩ (.slice k1.a t.n k1.c)).setCell ⟨V, 1, none⟩ (.int .i64 t.now)) ∧ OwnJb ((w5.setCell ⟨V, 0, none⟩ (.slice k1.a t.n k1.c)).setCell ⟨V, 1, none⟩ (.int .i64 t.now)) (w.heap.size + 3) (newJb t d) ⟨k1, k2, none, 0, fun _ => ⟨none, 0, none, 0⟩⟩) := by
        have hsV := H5.out.2.2.2.2.2.1
        have hj := H5.out.1
        have hdk := H5.out.2.2.2.1
        have hdV : OwnDp ((w5.setCell ⟨V, 0, none⟩ (.slice k1.a t.n k1.c)).setCell ⟨V, 1, none⟩ (.int .i64 t.now)) (w.heap.size + 3) d k2 := H5.out.2.1.keep fun b e => (blk_setCell_other _ _ _ _ (show b ≠ V by have := hdk b e; omega)).trans (blk_setCell_other _ _ _ _ (show b ≠ V by have := hdk b e; omega))
        have htV : OwnTr ((w5.setCell ⟨V, 0, none⟩ (.slice k1.a t.n k1.c)).setCell ⟨V, 1, none⟩ (.int .i64 t.now)) W4.heap.size t k1 := (H5.out.2.2.2.2.1.put _ hsV).put _ hsV
        have htk : ∀ b, BkT t k1 b → W4.heap.size ≤ b := fun b e => (H5.out.2.2.2.2.1.blk e).1
        have hno : ∀ b, ¬ BkT (Jb.dn ⟨t, d, 0, fun _ => ndZero⟩) (JLoc.dn ⟨k1, k2, none, 0, fun _ => ⟨none, 0, none, 0⟩⟩) b := by
          rintro b ⟨dd, hd, e⟩
          have hd' : dd < 2 := hd
          have : dd = 0 ∨ dd = 1 := by omega
          rcases this with rfl | rfl <;> simp [valT, Value.ownBlock, JLoc.dn, Jb.dn] at e
        refine ⟨⟨(hj.p.off _ (by omega)).off _ (by omega), (hj.q.off _ (by omega)).off _ (by omega), (hj.r.off _ (by omega)).off _ (by omega), bel_put (bel_put hj.bel _ (by omega)) _ (by omega)⟩, ?_⟩
        rw [HNJ.out]
        exact ⟨htV.lower (by omega), hdV, OT.start _ _ _ _ _ _, fun b e1 e2 => by have := htk b e1; have := hdk b e2; omega, fun b _ e2 => hno b e2, fun b _ e2 => hno b e2⟩
      have HE : Hid (∀ U, U = (((((((((w5.setCell ⟨V, 0, none⟩ (.slice k1.a t.n k1.c)).setCell ⟨V, 1, none⟩ (.int .i64 t.now)).setCell ⟨w.heap.size + 1 + 1, 0, none⟩ (.slice k1.a t.n k1.c)).setCell ⟨w.heap.size + 1 + 1, 1, none⟩ (.int .i64 t.now)).setCell ⟨w.heap.size + 1 + 1, 2, none⟩ (.int .i64 d.since)).setCell ⟨w.heap.size + 1 + 1, 3, none⟩ (.int .i64 d.date)).setCell ⟨w.heap.size + 1 + 1, 4, none⟩ (.slice k2.lA d.ln k2.lc)).setCell ⟨w.heap.size + 1 + 1, 5, none⟩ (.slice k2.iA d.m k2.ic)).setCell ⟨w.heap.size + 1 + 1, 6, none⟩ (.slice none 0 0)) → Blk U (w.heap.size + 1 + 1) (jC ⟨t, d, 0, fun _ => ndZero⟩ ⟨k1, k2, none, 0, fun _ => ⟨none, 0, none, 0⟩⟩) 38 ∧ JPost w (newAns t d) (backCode t.n t.D t.now d) (.returned (.tuple #[jV ⟨t, d, 0, fun _ => ndZero⟩ ⟨k1, k2, none, 0, fun _ => ⟨none, 0, none, 0⟩⟩, .int .i64 0])) U) := fun U e => by
        subst e
        rw [HA.out, HZ.out]
        obtain ⟨hj, ho⟩ := HF.out
        rw [HNJ.out] at ho ⊢
        exact ⟨blk7 hj.r _ _ _ _ _ _ _, bel7 hj.bel (by omega) _ _ _ _ _ _ _, _, rfl, (jb7 ho (by omega) _ _ _ _ _ _ _).lower (by omega)⟩
      clear HF H5
      go_wp2_with fail
      refine end_world (F := fun U => Blk U (w.heap.size + 1 + 1) (jC ⟨t, d, 0, fun _ => ndZero⟩ ⟨k1, k2, none, 0, fun _ => ⟨none, 0, none, 0⟩⟩) 38 ∧ JPost w (newAns t d) (backCode t.n t.D t.now d) (.returned (.tuple #[jV ⟨t, d, 0, fun _ => ndZero⟩ ⟨k1, k2, none, 0, fun _ => ⟨none, 0, none, 0⟩⟩, .int .i64 0])) U) (HE.out _ rfl) ?_
      clear HE r0 r1 r2 r3 r4 r5 r6 g0 g1 g2 g3 g4 g5 g6 v0 v1 v2 v3 v4 v5 v6 f0 f1
      rintro U ⟨hr, hE⟩
      obtain ⟨e0, e1, e2, e3, e4, e5, e6⟩ := jC_cells hr
      exact bodyPost_ret (v := .tuple #[jV ⟨t, d, 0, fun _ => ndZero⟩ ⟨k1, k2, none, 0, fun _ => ⟨none, 0, none, 0⟩⟩, .int .i64 0]) (by unfold jV; simp [results, Tryz.results14, go_sem, e0, e1, e2, e3, e4, e5, e6]) rfl hE
    · have hpd : decide (0 < d.since) = false := by simp; omega
      have hNJ : newJb t d = ⟨trNone, d, 0, fun _ => ndZero⟩ := by unfold newJb; rw [if_pos (by omega)]
      have HE : Hid (∀ U, U = ((((((((w3.setCell ⟨w.heap.size + 1 + 1, 0, none⟩ (.slice none 0 0)).setCell ⟨w.heap.size + 1 + 1, 1, none⟩ (.int .i64 0)).setCell ⟨w.heap.size + 1 + 1, 2, none⟩ (.int .i64 d.since)).setCell ⟨w.heap.size + 1 + 1, 3, none⟩ (.int .i64 d.date)).setCell ⟨w.heap.size + 1 + 1, 4, none⟩ (.slice k2.lA d.ln k2.lc)).setCell ⟨w.heap.size + 1 + 1, 5, none⟩ (.slice k2.iA d.m k2.ic)).setCell ⟨w.heap.size + 1 + 1, 6, none⟩ (.slice none 0 0)).alloc (.cells #[.slice none 0 0, .int .i64 0, .int .i64 d.since, .int .i64 d.date, .slice k2.lA d.ln k2.lc, .slice k2.iA d.m k2.ic, .slice none 0 0] 38)) → Blk U (w.heap.size + 1 + 1) (jC ⟨trNone, d, 0, fun _ => ndZero⟩ ⟨⟨none, 0, fun _ => ⟨none, 0, none, 0⟩⟩, k2, none, 0, fun _ => ⟨none, 0, none, 0⟩⟩) 38 ∧ JPost w (newAns t d) (backCode t.n t.D t.now d) (.returned (.tuple #[jV ⟨trNone, d, 0, fun _ => ndZero⟩ ⟨⟨none, 0, fun _ => ⟨none, 0, none, 0⟩⟩, k2, none, 0, fun _ => ⟨none, 0, none, 0⟩⟩, .int .i64 0])) U) := fun U e => by
        subst e
        rw [HA.out, HZ.out, hNJ]
        have hno : ∀ (x : Tr) (y : TLoc), x.n = 0 → y.a = none → ∀ b, ¬ BkT x y b := by
          rintro x y hx hy b ⟨dd, hd, e⟩
          have : dd = 0 ∨ dd = 1 := by omega
          rcases this with rfl | rfl <;> simp [valT, Value.ownBlock, hy] at e
        have ho : OwnJb w3 (w.heap.size + 3) ⟨trNone, d, 0, fun _ => ndZero⟩ ⟨⟨none, 0, fun _ => ⟨none, 0, none, 0⟩⟩, k2, none, 0, fun _ => ⟨none, 0, none, 0⟩⟩ := ⟨OT.start _ _ _ _ _ _, H3.out.2, OT.start _ _ _ _ _ _, fun b e1 _ => hno _ _ rfl rfl b e1, fun b e1 _ => hno _ _ rfl rfl b e1, fun b _ e2 => hno _ _ rfl rfl b e2⟩
        have hb : Below w.heap.size w (((((((w3.setCell ⟨w.heap.size + 1 + 1, 0, none⟩ (.slice none 0 0)).setCell ⟨w.heap.size + 1 + 1, 1, none⟩ (.int .i64 0)).setCell ⟨w.heap.size + 1 + 1, 2, none⟩ (.int .i64 d.since)).setCell ⟨w.heap.size + 1 + 1, 3, none⟩ (.int .i64 d.date)).setCell ⟨w.heap.size + 1 + 1, 4, none⟩ (.slice k2.lA d.ln k2.lc)).setCell ⟨w.heap.size + 1 + 1, 5, none⟩ (.slice k2.iA d.m k2.ic)).setCell ⟨w.heap.size + 1 + 1, 6, none⟩ (.slice none 0 0)) := bel7 H3.out.1.bel (by omega) _ _ _ _ _ _ _
        exact ⟨(blk7 H3.out.1.r _ _ _ _ _ _ _).alloc _, hb.alloc hb.size _, _, rfl, ((jb7 ho (by omega) _ _ _ _ _ _ _).below ((Below.refl _ _).alloc (Nat.le_refl _) _)).lower (by omega)⟩
      clear hNJ
      go_wp2_with fail
      refine end_world (F := fun U => Blk U (w.heap.size + 1 + 1) (jC ⟨trNone, d, 0, fun _ => ndZero⟩ ⟨⟨none, 0, fun _ => ⟨none, 0, none, 0⟩⟩, k2, none, 0, fun _ => ⟨none, 0, none, 0⟩⟩) 38 ∧ JPost w (newAns t d) (backCode t.n t.D t.now d) (.returned (.tuple #[jV ⟨trNone, d, 0, fun _ => ndZero⟩ ⟨⟨none, 0, fun _ => ⟨none, 0, none, 0⟩⟩, k2, none, 0, fun _ => ⟨none, 0, none, 0⟩⟩, .int .i64 0])) U) (HE.out _ rfl) ?_
      clear HE r0 r1 r2 r3 r4 r5 r6 g0 g1 g2 g3 g4 g5 g6
      rintro U ⟨hr, hE⟩
      obtain ⟨e0, e1, e2, e3, e4, e5, e6⟩ := jC_cells hr
      exact bodyPost_ret (v := .tuple #[jV ⟨trNone, d, 0, fun _ => ndZero⟩ ⟨⟨none, 0, fun _ => ⟨none, 0, none, 0⟩⟩, k2, none, 0, fun _ => ⟨none, 0, none, 0⟩⟩, .int .i64 0]) (by unfold jV; simp [results, Tryz.results14, go_sem, e0, e1, e2, e3, e4, e5, e6]) rfl hE
  · have hzb : (backCode t.n t.D t.now d != 0) = true := by simp [hz]
    have HA : Hid (newAns t d = jbNone) := by show _ = _; unfold newAns; rw [if_neg hz]
    clear hz
    have HE : Hid (∀ U, U = ((((((((w1.setCell ⟨w.heap.size + 1 + 1, 0, none⟩ (.slice none 0 0)).setCell ⟨w.heap.size + 1 + 1, 1, none⟩ (.int .i64 0)).setCell ⟨w.heap.size + 1 + 1, 2, none⟩ (.int .i64 0)).setCell ⟨w.heap.size + 1 + 1, 3, none⟩ (.int .i64 0)).setCell ⟨w.heap.size + 1 + 1, 4, none⟩ (.slice none 0 0)).setCell ⟨w.heap.size + 1 + 1, 5, none⟩ (.slice none 0 0)).setCell ⟨w.heap.size + 1 + 1, 6, none⟩ (.slice none 0 0)).alloc (.cells #[.slice lr.a (backTr t d).n lr.c, .int .i64 (backTr t d).now] 33)) → Blk U (w.heap.size + 1 + 1) #[.slice none 0 0, .int .i64 0, .int .i64 0, .int .i64 0, .slice none 0 0, .slice none 0 0, .slice none 0 0] 38 ∧ JPost w (newAns t d) (backCode t.n t.D t.now d) (.returned (.tuple #[.agg #[.slice none 0 0, .int .i64 0, .int .i64 0, .int .i64 0, .slice none 0 0, .slice none 0 0, .slice none 0 0], .int .i64 (backCode t.n t.D t.now d)])) U) := fun U e => by
      subst e
      rw [HA.out]
      exact ⟨(blk7 H1.out.r _ _ _ _ _ _ _).alloc _, (bel7 H1.out.bel (by omega) _ _ _ _ _ _ _).alloc (bel7 H1.out.bel (by omega) _ _ _ _ _ _ _).size _, _, rfl, ownJb_none _ _⟩
    go_wp2_with fail
    refine end_world (F := fun U => Blk U (w.heap.size + 1 + 1) #[.slice none 0 0, .int .i64 0, .int .i64 0, .int .i64 0, .slice none 0 0, .slice none 0 0, .slice none 0 0] 38 ∧ JPost w (newAns t d) (backCode t.n t.D t.now d) (.returned (.tuple #[.agg #[.slice none 0 0, .int .i64 0, .int .i64 0, .int .i64 0, .slice none 0 0, .slice none 0 0, .slice none 0 0], .int .i64 (backCode t.n t.D t.now d)])) U) (HE.out _ rfl) ?_
    clear HE
    rintro U ⟨hr, hE⟩
    have e0 : U.cell? ⟨w.heap.size + 1 + 1, 0, none⟩ = some (.slice none 0 0) := hr.cell 0
    have e1 : U.cell? ⟨w.heap.size + 1 + 1, 1, none⟩ = some (.int .i64 0) := hr.cell 1
    have e2 : U.cell? ⟨w.heap.size + 1 + 1, 2, none⟩ = some (.int .i64 0) := hr.cell 2
    have e3 : U.cell? ⟨w.heap.size + 1 + 1, 3, none⟩ = some (.int .i64 0) := hr.cell 3
    have e4 : U.cell? ⟨w.heap.size + 1 + 1, 4, none⟩ = some (.slice none 0 0) := hr.cell 4
    have e5 : U.cell? ⟨w.heap.size + 1 + 1, 5, none⟩ = some (.slice none 0 0) := hr.cell 5
    have e6 : U.cell? ⟨w.heap.size + 1 + 1, 6, none⟩ = some (.slice none 0 0) := hr.cell 6
    exact bodyPost_ret (v := .tuple #[.agg #[.slice none 0 0, .int .i64 0, .int .i64 0, .int .i64 0, .slice none 0 0, .slice none 0 0, .slice none 0 0], .int .i64 (backCode t.n t.D t.now d)]) (by simp [results, Tryz.results14, go_sem, e0, e1, e2, e3, e4, e5, e6]) rfl hE
end Go.Proofs.YtakifcobofkheaaGreatDoor

/-
  What TreeSame of the specification answers at two trees.
-/
namespace Go.Proofs.YtakifcobofkheaaGreatDoor
open Go.RowKit
set_option linter.unusedVariables false

/-- Two trees are one. -/
def treeSame (n m : Nat) (D E : Nat → Nd) (now now' : Int) : Bool := (decide (n = m) && sameAll n D E) && (now == now')

/-- What is known within TreeSame. -/
structure TSIn (w : World) (a a' : Option Addr) (n c m c' : Nat) (now now' : Int) (t : TypeId) (W : World) : Prop where
  p : Blk W w.heap.size #[.slice a n c, .int .i64 now] t
  p' : Blk W (w.heap.size + 1) #[.slice a' m c', .int .i64 now'] t
  bel : Below w.heap.size w W

theorem TSIn.below {w : World} {a a' : Option Addr} {n c m c' : Nat} {now now' : Int} {t : TypeId} {W W' : World} (h : TSIn w a a' n c m c' now now' t W) (hb : Below W.heap.size W W') : TSIn w a a' n c m c' now now' t W' :=
  ⟨h.p.below hb h.p.lt, h.p'.below hb h.p'.lt, h.bel.trans (hb.mono (by have := h.p.lt; omega))⟩

end Go.Proofs.YtakifcobofkheaaGreatDoor

/-
  What TreeSame of the program answers at two trees.
-/
namespace Go.Proofs.YtakifcobofkheaaGreatDoor
open Go.RowKit
set_option linter.unusedVariables false

set_option maxHeartbeats 2000000 in
theorem equalFunc_any (a a' : Option Addr) (n c m c' : Nat) (D E : Nat → Nd) (L M : Nat → Loc) (w : World) (hS : IsNds w a n D L) (hT : IsNds w a' m E M) (hf : FitAll n D) (hf' : FitAll m E) (hn : n ≤ maxLen) (hm : m ≤ maxLen) :
    Calls Tryz.prog 113 #[.slice a n c, .slice a' m c', .func (Fn.func 114) #[] #[]] w fun e w' => Below w.heap.size w w' ∧ e = .returned (.bool (decide (n = m) && sameAll n D E)) := by
  unfold maxLen at hn hm
  by_cases hne : n = m
  · subst hne
    have hb : ((n : Int) != (n : Int)) = false := by simp
    go_enter Tryz.func113, Tryz.ntmps113
    go_wp2
    go_loopw [17] (fun i wr => ∃ k : Nat, k ≤ n ∧ i = .int .i64 k ∧ Below w.heap.size w wr ∧ sameAll k D E = true) (fun i _ => n - (intOf i).toNat)
    case atStart => exact ⟨0, Nat.zero_le _, rfl, Below.refl _ _, rfl⟩
    case round =>
      obtain ⟨k, hk, rfl, hbel, heq⟩ := hrel
      by_cases hlt : k < n
      · have hSr := hS.below (Nat.le_refl _) hbel
        have hTr := hT.below (Nat.le_refl _) hbel
        obtain ⟨b, off, rfl, hlt2, hc⟩ := hSr.at hlt
        obtain ⟨b', off', rfl, hlt2', hc'⟩ := hTr.at hlt
        obtain ⟨c0, c1, c2, c3, c4, hI⟩ := hc k hlt
        obtain ⟨d0, d1, d2, d3, d4, hI'⟩ := hc' k hlt
        have hlti : (k : Int) < (n : Int) := by omega
        have HE : Hid (sameAll k D E = true ∧ Below w.heap.size w wr ∧ NdIn wr (D k) (L k) ∧ NdIn wr (E k) (M k)) := ⟨heq, hbel, hI, hI'⟩
        clear hc hc' hSr hTr hbel heq hI hI'
        go_wp2_with fail
        refine at_world (F := New2 wr _ _ _ _) (new2 wr _ _ _ _) ?_
        rintro W ⟨hp, hp', hb', hs⟩
        refine (implNodeSame_any (D k) (E k) (L k) (M k) W (HE.out.2.2.1.below (Nat.le_refl _) hb') (HE.out.2.2.2.below (Nat.le_refl _) hb') (hf k hlt) (hf' k hlt)).mono ?_
        rintro e w1 ⟨hb1, rfl⟩
        have HB : Hid (Below w.heap.size w w1) := HE.out.2.1.trans ((hb'.trans (hb1.mono (by omega))).mono HE.out.2.1.size)
        clear hp hp' hb' hs hb1 c0 c1 c2 c3 c4 d0 d1 d2 d3 d4
        cases hq : (D k).same (E k) with
        | false =>
          have HQ : Hid ((D k).same (E k) = false) := hq
          clear hq
          go_wp2
          go_ret
          exact ⟨HB.out, ret_bool (by rw [← sameAll_not n k D E hlt HQ.out]; simp)⟩
        | true =>
          have HQ : Hid ((D k).same (E k) = true) := hq
          clear hq
          go_wp2
          go_roundw
          case rel => exact ⟨k + 1, by omega, by go_num, HB.out, sameAll_succ k D E HE.out.1 HQ.out⟩
          case measure => simp [intOf]; omega
      · have hkn : k = n := by omega
        have HK : Hid (k = n ∧ Below w.heap.size w wr ∧ sameAll k D E = true) := ⟨hkn, hbel, heq⟩
        clear hkn hbel heq
        go_wp2
        go_ret
        exact ⟨HK.out.2.1, ret_bool (by have := HK.out.2.2; rw [HK.out.1] at this; rw [this]; simp)⟩
  · have hb : ((n : Int) != (m : Int)) = true := by simp; omega
    go_enter Tryz.func113, Tryz.ntmps113
    go_wp2
    go_ret
    exact ⟨Below.refl _ _, ret_bool (by simp [hne])⟩

set_option maxHeartbeats 2000000 in
theorem implTreeSame_any (a a' : Option Addr) (n c m c' : Nat) (now now' : Int) (D E : Nat → Nd) (L M : Nat → Loc) (w : World) (hS : IsNds w a n D L) (hT : IsNds w a' m E M) (hf : FitAll n D) (hf' : FitAll m E) (hn : n ≤ maxLen) (hm : m ≤ maxLen) :
    Calls Tryz.prog 93 #[trV a n c now, trV a' m c' now'] w fun e w' => Below w.heap.size w w' ∧ e = .returned (.bool (treeSame n m D E now now')) := by
  have hn' := hn
  have hm' := hm
  unfold maxLen at hn' hm'
  unfold trV
  cases hnc : (now == now') with
  | false =>
    have HN : Hid (false = treeSame n m D E now now') := by show _ = _; unfold treeSame; rw [hnc, Bool.and_false]
    go_enter Tryz.func93, Tryz.ntmps93
    go_wp2_with fail
    go_ret
    exact ⟨((Below.refl _ _).alloc (Nat.le_refl _) _).alloc (by simp) _, ret_bool HN.out⟩
  | true =>
    go_enter Tryz.func93, Tryz.ntmps93
    go_wp2_with fail
    refine at_world (F := New2 w _ _ _ _) (new2 w _ _ _ _) ?_
    rintro W ⟨hp, hp', hb, hs⟩
    refine (equalFunc_any a a' n c m c' D E L M W (hS.below (Nat.le_refl _) hb) (hT.below (Nat.le_refl _) hb) hf hf' hn hm).mono ?_
    rintro e w1 ⟨hb1, rfl⟩
    have HB : Hid (Below w.heap.size w w1 ∧ (decide (n = m) && sameAll n D E) = treeSame n m D E now now') := ⟨hb.trans (hb1.mono (by omega)), by unfold treeSame; rw [hnc, Bool.and_true]⟩
    clear hp hp' hb hs hb1
    rw [HB.out.2]
    go_wp2
    go_ret
    exact ⟨HB.out.1, rfl⟩
end Go.Proofs.YtakifcobofkheaaGreatDoor

/-
  What treeOfJob, JobOk, JobLeft and JobTree of the program answer.
-/
namespace Go.Proofs.YtakifcobofkheaaGreatDoor
open Go.RowKit Go.Deep
set_option linter.unusedVariables false
set_option linter.unusedSimpArgs false
set_option linter.unnecessarySimpa false

/-- When a job is right, as the program asks it. -/
theorem good_iff {j : Jb} (hz : backCode j.t.n j.t.D j.t.now j.d = 0) (hn : j.d.since = 0 → j.t.n = 0 ∧ j.t.now = 0) : (j.q ≤ j.d.ln ∧ ∀ i, i < j.q → (j.e i).same (oneD (fromN j.t.n j.d) j.t.D j.d i) = true) ↔ JobGood j := by
  rw [JobGood.fromN hn]
  exact ⟨fun h => ⟨hz, h.1, hn, fun i hi => nd_same_sym (h.2 i hi)⟩, fun h => ⟨h.q, fun i hi => nd_same_sym (h.done i hi)⟩⟩

/-- A tree and a truth value, in new memory. -/
def TruePost (w : World) (j : Jb) (e : Ending) (w' : World) : Prop :=
  Below w.heap.size w w' ∧ ∃ (b : Bool) (l : TLoc), e = .returned (.tuple #[tV (if b then backTr j.t j.d else trNone) l, .bool b]) ∧ (b = true ↔ JobGood j) ∧ OwnTr w' w.heap.size (if b then backTr j.t j.d else trNone) l

set_option maxRecDepth 100000 in
set_option maxHeartbeats 8000000 in
theorem treeOfJob_any (j : Jb) (l : JLoc) (w : World) (hE : ErrType w) (hJ : JIn w j l) (fj : j.Fits) (hs : j.t.size + j.d.size ≤ 1048576) :
    Calls Tryz.prog 62 #[jV j l] w (TruePost w j) := by
  unfold jV
  go_enter Tryz.func62, Tryz.ntmps62
  go_wp2_with fail
  refine at_world (F := Jt w j l) ?_ ?_
  · obtain ⟨h0, h1, hb, _⟩ := new2 w (jC j l) 38 #[.slice none 0 0, .int .i64 0] 33
    exact ⟨h0, h1, hb, by simp⟩
  rintro W hP
  refine (implBackOne_law j.t l.t j.d l.d W (hE.bel hP.bel) (hJ.t.below (Nat.le_refl _) hP.bel) (hJ.d.below (Nat.le_refl _) hP.bel) fj.t fj.d hs).mono ?_
  intro e w1 hpost
  obtain ⟨hb1, lr, rfl, hown⟩ := back_out j.t j.d hpost
  unfold tV
  have H1 : Hid (Jt w j l w1 ∧ OwnTr w1 W.heap.size (backTr j.t j.d) lr) := ⟨hP.below hb1, hown⟩
  have hs1 : w.heap.size + 2 ≤ W.heap.size := hP.size
  have hs2 : W.heap.size ≤ w1.heap.size := hb1.size
  clear hP hb1 hpost hown
  have n0 : w.heap.size < w1.heap.size := by omega
  have m0 : w.heap.size ≠ w1.heap.size := by omega
  have n1 : w.heap.size + 1 < w1.heap.size := by omega
  have m1 : w.heap.size + 1 ≠ w1.heap.size := by omega
  obtain ⟨p0, p1, p2, p3, p4, p5, p6⟩ := jC_cells H1.out.1.p
  have r0 : w1.cell? ⟨w.heap.size + 1, 0, none⟩ = some (.slice none 0 0) := H1.out.1.r.cell 0
  have r1 : w1.cell? ⟨w.heap.size + 1, 1, none⟩ = some (.int .i64 0) := H1.out.1.r.cell 1
  have g0 := H1.out.1.r.frozen 0
  have g1 := H1.out.1.r.frozen 1
  have HNO : Hid (∀ W2, Jt w j l W2 → ¬ JobGood j → ∀ U, U = (W2.setCell ⟨w.heap.size + 1, 0, none⟩ (.slice none 0 0)).setCell ⟨w.heap.size + 1, 1, none⟩ (.int .i64 0) → Blk U (w.heap.size + 1) #[.slice none 0 0, .int .i64 0] 33 ∧ TruePost w j (.returned (.tuple #[.agg #[.slice none 0 0, .int .i64 0], .bool false])) U) := fun W2 h hno U e => by
    subst e
    exact ⟨(h.r.set 0 _).set 1 _, bel_put (bel_put h.bel _ (by omega)) _ (by omega), false, ⟨none, 0, fun _ => ⟨none, 0, none, 0⟩⟩, rfl, ⟨fun e => (by cases e), fun e => absurd e hno⟩, OT.start _ _ _ _ _ _⟩
  by_cases hz : backCode j.t.n j.t.D j.t.now j.d = 0
  · have hzb : (backCode j.t.n j.t.D j.t.now j.d != 0) = false := by simp [hz]
    have HZ : Hid (backCode j.t.n j.t.D j.t.now j.d = 0) := hz
    have HSM : Hid (SmTr (backTr j.t j.d)) := back_small j.t j.d fj.t fj.d hs
    have HTR : Hid (backTr j.t j.d = ⟨j.d.ln, oneD (fromN j.t.n j.d) j.t.D j.d, j.d.date⟩) := by show _ = _; unfold backTr; rw [if_pos hz]
    have HV : Hid (∀ U, U = w1.alloc (.cells #[.slice lr.a (backTr j.t j.d).n lr.c, .int .i64 (backTr j.t j.d).now] 33) → Jt w j l U ∧ OwnTr U W.heap.size (backTr j.t j.d) lr ∧ Blk U w1.heap.size #[.slice lr.a (backTr j.t j.d).n lr.c, .int .i64 (backTr j.t j.d).now] 33 ∧ w1.heap.size < U.heap.size) := fun U e => by
      obtain ⟨h0, hb, _⟩ := new1 w1 #[.slice lr.a (backTr j.t j.d).n lr.c, .int .i64 (backTr j.t j.d).now] 33
      rw [← e] at h0 hb
      exact ⟨H1.out.1.below hb, H1.out.2.below hb, h0, h0.lt⟩
    clear hz
    have HEND : Hid (∀ (U : World), (j.d.since = 0 → j.t.n = 0 ∧ j.t.now = 0) → Jt w j l U ∧ OwnTr U W.heap.size (backTr j.t j.d) lr ∧ Blk U w1.heap.size #[.slice lr.a (backTr j.t j.d).n lr.c, .int .i64 (backTr j.t j.d).now] 33 ∧ w1.heap.size < U.heap.size → Calls Tryz.prog 94 #[.agg #[.slice lr.a (backTr j.t j.d).n lr.c, .int .i64 (backTr j.t j.d).now], .slice l.e j.q l.f] U fun e W3 => ∃ b : Bool, e = .returned (.bool b) ∧ (b = true ↔ JobGood j) ∧ Jt w j l W3 ∧ OwnTr W3 W.heap.size (backTr j.t j.d) lr ∧ Blk W3 w1.heap.size #[.slice lr.a (backTr j.t j.d).n lr.c, .int .i64 (backTr j.t j.d).now] 33) := fun U hnn ⟨hj, ho, hv, hl⟩ => by
      refine (doneOf_any (backTr j.t j.d) lr l.e j.q l.f j.e l.g U ho.tIn (hJ.e.below (Nat.le_refl _) hj.bel) HSM.out.fits.nds fj.e (by rw [HTR.out]; exact (ok_head1 (code_zero HZ.out).1).2) fj.q).mono ?_
      rintro e W3 ⟨hb3, b, rfl, hb⟩
      refine ⟨b, rfl, hb.trans ?_, hj.below hb3, ho.below hb3, hv.below hb3 hl⟩
      rw [HTR.out]
      exact good_iff HZ.out hnn
    have HPASS : Hid (∀ W3, Jt w j l W3 ∧ OwnTr W3 W.heap.size (backTr j.t j.d) lr → JobGood j → ∀ U, U = (W3.setCell ⟨w.heap.size + 1, 0, none⟩ (.slice lr.a (backTr j.t j.d).n lr.c)).setCell ⟨w.heap.size + 1, 1, none⟩ (.int .i64 (backTr j.t j.d).now) → Blk U (w.heap.size + 1) #[.slice lr.a (backTr j.t j.d).n lr.c, .int .i64 (backTr j.t j.d).now] 33 ∧ TruePost w j (.returned (.tuple #[.agg #[.slice lr.a (backTr j.t j.d).n lr.c, .int .i64 (backTr j.t j.d).now], .bool true])) U) := fun W3 ⟨hj, ho⟩ hg U e => by
      subst e
      exact ⟨(hj.r.set 0 _).set 1 _, bel_put (bel_put hj.bel _ (by omega)) _ (by omega), true, lr, rfl, ⟨fun _ => hg, fun _ => rfl⟩, ((ho.put _ (by omega)).put _ (by omega)).lower (by omega)⟩
    by_cases hsi : j.d.since = 0
    · have hsb : (j.d.since == 0) = true := by simp [hsi]
      have HSI : Hid (j.d.since = 0) := hsi
      clear hsi
      go_wp2_with fail
      refine at_world (F := fun U => Jt w j l U ∧ OwnTr U W.heap.size (backTr j.t j.d) lr ∧ Blk U w1.heap.size #[.slice lr.a (backTr j.t j.d).n lr.c, .int .i64 (backTr j.t j.d).now] 33 ∧ w1.heap.size < U.heap.size) (HV.out _ rfl) ?_
      generalize w1.heap.size = V at *
      clear H1 HV p0 p1 p2 p3 p4 p5 p6 r0 r1 g0 g1 n0 m0 n1 m1
      rintro W2 ⟨hj2, ho2, hv2, hl2⟩
      refine (implTreeSame_any l.t.a none j.t.n l.t.c 0 0 j.t.now 0 j.t.D j.t.D l.t.L l.t.L W2 (hJ.t.below (Nat.le_refl _) hj2.bel) (Or.inl rfl) fj.t.nds (fun i hi => absurd hi (Nat.not_lt_zero _)) fj.t.n (by unfold maxLen; omega)).mono ?_
      rintro e W3 ⟨hb3, rfl⟩
      have H3 : Hid (Jt w j l W3 ∧ OwnTr W3 W.heap.size (backTr j.t j.d) lr ∧ Blk W3 V #[.slice lr.a (backTr j.t j.d).n lr.c, .int .i64 (backTr j.t j.d).now] 33 ∧ V < W3.heap.size) := ⟨hj2.below hb3, ho2.below hb3, hv2.below hb3 hl2, Nat.lt_of_lt_of_le hl2 hb3.size⟩
      clear hj2 ho2 hv2 hl2 hb3
      cases hts : treeSame j.t.n 0 j.t.D j.t.D j.t.now 0 with
      | false =>
        have HN : Hid (¬ JobGood j) := fun h => by
          obtain ⟨e1, e2⟩ := h.none HSI.out
          have : treeSame j.t.n 0 j.t.D j.t.D j.t.now 0 = true := by unfold treeSame; rw [e1, e2]; simp [sameAll]
          rw [hts] at this
          cases this
        have HE : Hid _ := HNO.out W3 H3.out.1 HN.out
        clear hts
        have r0 : W3.cell? ⟨w.heap.size + 1, 0, none⟩ = some (.slice none 0 0) := H3.out.1.r.cell 0
        have r1 : W3.cell? ⟨w.heap.size + 1, 1, none⟩ = some (.int .i64 0) := H3.out.1.r.cell 1
        have g0 := H3.out.1.r.frozen 0
        have g1 := H3.out.1.r.frozen 1
        go_wp2_with fail
        refine end_world (F := fun U => Blk U (w.heap.size + 1) #[.slice none 0 0, .int .i64 0] 33 ∧ TruePost w j (.returned (.tuple #[.agg #[.slice none 0 0, .int .i64 0], .bool false])) U) (HE.out _ rfl) ?_
        clear HE r0 r1 g0 g1
        rintro U ⟨hr, hE⟩
        have e0 : U.cell? ⟨w.heap.size + 1, 0, none⟩ = some (.slice none 0 0) := hr.cell 0
        have e1 : U.cell? ⟨w.heap.size + 1, 1, none⟩ = some (.int .i64 0) := hr.cell 1
        exact bodyPost_ret (v := .tuple #[.agg #[.slice none 0 0, .int .i64 0], .bool false]) (by simp [results, Tryz.results62, go_sem, e0, e1]) rfl hE
      | true =>
        have HNN : Hid (j.d.since = 0 → j.t.n = 0 ∧ j.t.now = 0) := fun _ => by
          have h := hts
          unfold treeSame at h
          simp only [Bool.and_eq_true, beq_iff_eq, decide_eq_true_eq] at h
          exact ⟨by omega, by omega⟩
        clear hts
        obtain ⟨p0, p1, p2, p3, p4, p5, p6⟩ := jC_cells H3.out.1.p
        have v0 : W3.cell? ⟨V, 0, none⟩ = some (.slice lr.a (backTr j.t j.d).n lr.c) := H3.out.2.2.1.cell 0
        have v1 : W3.cell? ⟨V, 1, none⟩ = some (.int .i64 (backTr j.t j.d).now) := H3.out.2.2.1.cell 1
        go_wp2_with fail
        refine (HEND.out W3 HNN.out H3.out).mono ?_
        rintro e W4 ⟨b, rfl, hb, hj4, ho4, hv4⟩
        have H4 : Hid (Jt w j l W4 ∧ OwnTr W4 W.heap.size (backTr j.t j.d) lr ∧ Blk W4 V #[.slice lr.a (backTr j.t j.d).n lr.c, .int .i64 (backTr j.t j.d).now] 33) := ⟨hj4, ho4, hv4⟩
        clear H3 hj4 ho4 hv4 p0 p1 p2 p3 p4 p5 p6 v0 v1
        have r0 : W4.cell? ⟨w.heap.size + 1, 0, none⟩ = some (.slice none 0 0) := H4.out.1.r.cell 0
        have r1 : W4.cell? ⟨w.heap.size + 1, 1, none⟩ = some (.int .i64 0) := H4.out.1.r.cell 1
        have g0 := H4.out.1.r.frozen 0
        have g1 := H4.out.1.r.frozen 1
        have v0 : W4.cell? ⟨V, 0, none⟩ = some (.slice lr.a (backTr j.t j.d).n lr.c) := H4.out.2.2.cell 0
        have v1 : W4.cell? ⟨V, 1, none⟩ = some (.int .i64 (backTr j.t j.d).now) := H4.out.2.2.cell 1
        cases b with
        | false =>
          have HN : Hid (¬ JobGood j) := fun h => by have := hb.2 h; cases this
          have HE : Hid _ := HNO.out W4 H4.out.1 HN.out
          clear hb
          go_wp2_with fail
          refine end_world (F := fun U => Blk U (w.heap.size + 1) #[.slice none 0 0, .int .i64 0] 33 ∧ TruePost w j (.returned (.tuple #[.agg #[.slice none 0 0, .int .i64 0], .bool false])) U) (HE.out _ rfl) ?_
          clear HE r0 r1 g0 g1 v0 v1
          rintro U ⟨hr, hE⟩
          have e0 : U.cell? ⟨w.heap.size + 1, 0, none⟩ = some (.slice none 0 0) := hr.cell 0
          have e1 : U.cell? ⟨w.heap.size + 1, 1, none⟩ = some (.int .i64 0) := hr.cell 1
          exact bodyPost_ret (v := .tuple #[.agg #[.slice none 0 0, .int .i64 0], .bool false]) (by simp [results, Tryz.results62, go_sem, e0, e1]) rfl hE
        | true =>
          have HE : Hid _ := HPASS.out W4 ⟨H4.out.1, H4.out.2.1⟩ (hb.1 rfl)
          clear hb
          go_wp2_with fail
          refine end_world (F := fun U => Blk U (w.heap.size + 1) #[.slice lr.a (backTr j.t j.d).n lr.c, .int .i64 (backTr j.t j.d).now] 33 ∧ TruePost w j (.returned (.tuple #[.agg #[.slice lr.a (backTr j.t j.d).n lr.c, .int .i64 (backTr j.t j.d).now], .bool true])) U) (HE.out _ rfl) ?_
          clear HE r0 r1 g0 g1 v0 v1
          rintro U ⟨hr, hE⟩
          have e0 : U.cell? ⟨w.heap.size + 1, 0, none⟩ = some (.slice lr.a (backTr j.t j.d).n lr.c) := hr.cell 0
          have e1 : U.cell? ⟨w.heap.size + 1, 1, none⟩ = some (.int .i64 (backTr j.t j.d).now) := hr.cell 1
          exact bodyPost_ret (v := .tuple #[.agg #[.slice lr.a (backTr j.t j.d).n lr.c, .int .i64 (backTr j.t j.d).now], .bool true]) (by simp [results, Tryz.results62, go_sem, e0, e1]) rfl hE
    · have hsb : (j.d.since == 0) = false := by simp [hsi]
      have HNN : Hid (j.d.since = 0 → j.t.n = 0 ∧ j.t.now = 0) := fun h => absurd h hsi
      clear hsi
      go_wp2_with fail
      refine at_world (F := fun U => Jt w j l U ∧ OwnTr U W.heap.size (backTr j.t j.d) lr ∧ Blk U w1.heap.size #[.slice lr.a (backTr j.t j.d).n lr.c, .int .i64 (backTr j.t j.d).now] 33 ∧ w1.heap.size < U.heap.size) (HV.out _ rfl) ?_
      generalize w1.heap.size = V at *
      clear H1 HV p0 p1 p2 p3 p4 p5 p6 r0 r1 g0 g1 n0 m0 n1 m1
      rintro W2 hW2
      refine (HEND.out W2 HNN.out hW2).mono ?_
      clear hW2
      rintro e W4 ⟨b, rfl, hb, hj4, ho4, hv4⟩
      have H4 : Hid (Jt w j l W4 ∧ OwnTr W4 W.heap.size (backTr j.t j.d) lr ∧ Blk W4 V #[.slice lr.a (backTr j.t j.d).n lr.c, .int .i64 (backTr j.t j.d).now] 33) := ⟨hj4, ho4, hv4⟩
      clear hj4 ho4 hv4
      have r0 : W4.cell? ⟨w.heap.size + 1, 0, none⟩ = some (.slice none 0 0) := H4.out.1.r.cell 0
      have r1 : W4.cell? ⟨w.heap.size + 1, 1, none⟩ = some (.int .i64 0) := H4.out.1.r.cell 1
      have g0 := H4.out.1.r.frozen 0
      have g1 := H4.out.1.r.frozen 1
      have v0 : W4.cell? ⟨V, 0, none⟩ = some (.slice lr.a (backTr j.t j.d).n lr.c) := H4.out.2.2.cell 0
      have v1 : W4.cell? ⟨V, 1, none⟩ = some (.int .i64 (backTr j.t j.d).now) := H4.out.2.2.cell 1
      cases b with
      | false =>
        have HN : Hid (¬ JobGood j) := fun h => by have := hb.2 h; cases this
        have HE : Hid _ := HNO.out W4 H4.out.1 HN.out
        clear hb
        go_wp2_with fail
        refine end_world (F := fun U => Blk U (w.heap.size + 1) #[.slice none 0 0, .int .i64 0] 33 ∧ TruePost w j (.returned (.tuple #[.agg #[.slice none 0 0, .int .i64 0], .bool false])) U) (HE.out _ rfl) ?_
        clear HE r0 r1 g0 g1 v0 v1
        rintro U ⟨hr, hE⟩
        have e0 : U.cell? ⟨w.heap.size + 1, 0, none⟩ = some (.slice none 0 0) := hr.cell 0
        have e1 : U.cell? ⟨w.heap.size + 1, 1, none⟩ = some (.int .i64 0) := hr.cell 1
        exact bodyPost_ret (v := .tuple #[.agg #[.slice none 0 0, .int .i64 0], .bool false]) (by simp [results, Tryz.results62, go_sem, e0, e1]) rfl hE
      | true =>
        have HE : Hid _ := HPASS.out W4 ⟨H4.out.1, H4.out.2.1⟩ (hb.1 rfl)
        clear hb
        go_wp2_with fail
        refine end_world (F := fun U => Blk U (w.heap.size + 1) #[.slice lr.a (backTr j.t j.d).n lr.c, .int .i64 (backTr j.t j.d).now] 33 ∧ TruePost w j (.returned (.tuple #[.agg #[.slice lr.a (backTr j.t j.d).n lr.c, .int .i64 (backTr j.t j.d).now], .bool true])) U) (HE.out _ rfl) ?_
        clear HE r0 r1 g0 g1 v0 v1
        rintro U ⟨hr, hE⟩
        have e0 : U.cell? ⟨w.heap.size + 1, 0, none⟩ = some (.slice lr.a (backTr j.t j.d).n lr.c) := hr.cell 0
        have e1 : U.cell? ⟨w.heap.size + 1, 1, none⟩ = some (.int .i64 (backTr j.t j.d).now) := hr.cell 1
        exact bodyPost_ret (v := .tuple #[.agg #[.slice lr.a (backTr j.t j.d).n lr.c, .int .i64 (backTr j.t j.d).now], .bool true]) (by simp [results, Tryz.results62, go_sem, e0, e1]) rfl hE
  · have hzb : (backCode j.t.n j.t.D j.t.now j.d != 0) = true := by simp [hz]
    have HG : Hid (¬ JobGood j) := fun h => hz h.code
    have HE : Hid (∀ U, U = ((w1.setCell ⟨w.heap.size + 1, 0, none⟩ (.slice none 0 0)).setCell ⟨w.heap.size + 1, 1, none⟩ (.int .i64 0)).alloc (.cells #[.slice lr.a (backTr j.t j.d).n lr.c, .int .i64 (backTr j.t j.d).now] 33) → Blk U (w.heap.size + 1) #[.slice none 0 0, .int .i64 0] 33 ∧ TruePost w j (.returned (.tuple #[.agg #[.slice none 0 0, .int .i64 0], .bool false])) U) := fun U e => by
      subst e
      have hb : Below w.heap.size w ((w1.setCell ⟨w.heap.size + 1, 0, none⟩ (.slice none 0 0)).setCell ⟨w.heap.size + 1, 1, none⟩ (.int .i64 0)) := bel_put (bel_put H1.out.1.bel _ (by omega)) _ (by omega)
      exact ⟨((H1.out.1.r.set 0 _).set 1 _).alloc _, hb.alloc hb.size _, false, ⟨none, 0, fun _ => ⟨none, 0, none, 0⟩⟩, rfl, ⟨fun e => (by cases e), fun e => absurd e HG.out⟩, OT.start _ _ _ _ _ _⟩
    clear hz
    go_wp2_with fail
    refine end_world (F := fun U => Blk U (w.heap.size + 1) #[.slice none 0 0, .int .i64 0] 33 ∧ TruePost w j (.returned (.tuple #[.agg #[.slice none 0 0, .int .i64 0], .bool false])) U) (HE.out _ rfl) ?_
    clear HE r0 r1 g0 g1
    rintro U ⟨hr, hE⟩
    have e0 : U.cell? ⟨w.heap.size + 1, 0, none⟩ = some (.slice none 0 0) := hr.cell 0
    have e1 : U.cell? ⟨w.heap.size + 1, 1, none⟩ = some (.int .i64 0) := hr.cell 1
    exact bodyPost_ret (v := .tuple #[.agg #[.slice none 0 0, .int .i64 0], .bool false]) (by simp [results, Tryz.results62, go_sem, e0, e1]) rfl hE

set_option maxHeartbeats 2000000 in
theorem implJobOk_any (j : Jb) (l : JLoc) (w : World) (hE : ErrType w) (hJ : JIn w j l) (fj : j.Fits) (hs : j.t.size + j.d.size ≤ 1048576) :
    Calls Tryz.prog 25 #[jV j l] w (OkPost w j) := by
  unfold jV
  go_enter Tryz.func25, Tryz.ntmps25
  go_wp2_with fail
  refine at_world (F := Jo w j l) (jo1 w j l) ?_
  rintro W hP
  refine (treeOfJob_any j l W (hE.bel hP.bel) (hJ.below (Nat.le_refl _) hP.bel) fj hs).mono ?_
  rintro e w1 ⟨hb1, b, k, rfl, hb, _⟩
  unfold tV
  have HB : Hid (Below w.heap.size w w1 ∧ (b = true ↔ JobGood j)) := ⟨hP.bel.trans (hb1.mono hP.bel.size), hb⟩
  generalize (if b = true then backTr j.t j.d else trNone) = X at *
  clear hP hb1 hb
  go_wp2
  go_ret
  exact ⟨HB.out.1.alloc HB.out.1.size _, b, rfl, HB.out.2⟩

set_option maxHeartbeats 2000000 in
theorem implJobLeft_any (j : Jb) (l : JLoc) (w : World) (hE : ErrType w) (hJ : JIn w j l) (fj : j.Fits) (hs : j.size ≤ 1048576) :
    Calls Tryz.prog 29 #[jV j l] w (LeftPost w j) := by
  have hqm := fj.q
  have hlm := fj.d.ln
  unfold maxLen at hqm hlm
  have hsz : j.t.size + j.d.size ≤ 1048576 := by unfold Jb.size at hs; omega
  unfold jV
  go_enter Tryz.func29, Tryz.ntmps29
  go_wp2_with fail
  refine at_world (F := Jo w j l) (jo1 w j l) ?_
  rintro W hP
  refine (implJobOk_any j l W (hE.bel hP.bel) (hJ.below (Nat.le_refl _) hP.bel) fj hsz).mono ?_
  rintro e w1 ⟨hb1, r, rfl, hr⟩
  have HP : Hid (Jo w j l w1) := hP.below hb1
  clear hP hb1
  obtain ⟨p0, p1, p2, p3, p4, p5, p6⟩ := jC_cells HP.out.p
  cases r with
  | false =>
    have HA : Hid (-1 = leftAns j) := by show _ = _; unfold leftAns; rw [if_neg fun h => by have := hr.2 h; cases this]
    clear hr
    go_wp2
    go_ret
    exact ⟨HP.out.bel, -1, rfl, HA.out⟩
  | true =>
    have HA : Hid ((j.d.ln : Int) - (j.q : Int) = leftAns j) := by show _ = _; unfold leftAns; rw [if_pos (hr.1 rfl)]
    have hw : wrap64 ((j.d.ln : Int) - (j.q : Int)) = (j.d.ln : Int) - (j.q : Int) := by unfold wrap64; omega
    clear hr
    go_wp2
    go_ret
    exact ⟨HP.out.bel, _, rfl, HA.out⟩

set_option maxHeartbeats 4000000 in
theorem implJobTree_any (j : Jb) (l : JLoc) (w : World) (hE : ErrType w) (hJ : JIn w j l) (fj : j.Fits) (hs : j.size ≤ 1048576) :
    Calls Tryz.prog 31 #[jV j l] w (TreePost w j) := by
  unfold jV
  go_enter Tryz.func31, Tryz.ntmps31
  go_wp2_with fail
  refine at_world (F := Jt w j l) ?_ ?_
  · obtain ⟨h0, h1, hb, _⟩ := new2 w (jC j l) 38 #[.slice none 0 0, .int .i64 0] 33
    exact ⟨h0, h1, hb, by simp⟩
  rintro W hP
  refine (implJobLeft_any j l W (hE.bel hP.bel) (hJ.below (Nat.le_refl _) hP.bel) fj hs).mono ?_
  rintro e w1 ⟨hb1, _, rfl, rfl⟩
  have HP : Hid (Jt w j l w1) := hP.below hb1
  clear hP hb1
  obtain ⟨p0, p1, p2, p3, p4, p5, p6⟩ := jC_cells HP.out.p
  have r0 : w1.cell? ⟨w.heap.size + 1, 0, none⟩ = some (.slice none 0 0) := HP.out.r.cell 0
  have r1 : w1.cell? ⟨w.heap.size + 1, 1, none⟩ = some (.int .i64 0) := HP.out.r.cell 1
  have g0 := HP.out.r.frozen 0
  have g1 := HP.out.r.frozen 1
  by_cases hz : leftAns j = 0
  · have hzb : (leftAns j != 0) = false := by simp [hz]
    have HG : Hid (JobGood j ∧ j.q = j.d.ln) := left_zero hz
    have HA : Hid (treeAns j = ⟨j.q, j.e, j.d.date⟩ ∧ treeCode j = 0) := by show _ ∧ _; unfold treeAns treeCode; rw [if_pos hz, if_pos hz]; exact ⟨rfl, rfl⟩
    clear hz
    go_wp2_with fail
    refine (copyTree_any ⟨j.q, j.e, j.d.date⟩ ⟨l.e, l.f, l.g⟩ w1 (hJ.e.below (Nat.le_refl _) HP.out.bel) (by have := HG.out.1.ln; have := HG.out.2; show j.q ≤ 1000; omega) (by unfold Tr.size; show j.q + sizeTo j.e j.q ≤ _; unfold Jb.size at hs; omega)).mono ?_
    rintro e w2 ⟨k, rfl, hb2, ho2⟩
    unfold tV
    have H2 : Hid (Jt w j l w2 ∧ OwnTr w2 w1.heap.size ⟨j.q, j.e, j.d.date⟩ k) := ⟨HP.out.below hb2, ho2⟩
    have hs1 := HP.out.size
    clear hb2 ho2 p0 p1 p2 p3 p4 p5 p6 r0 r1 g0 g1
    have r0 : w2.cell? ⟨w.heap.size + 1, 0, none⟩ = some (.slice none 0 0) := H2.out.1.r.cell 0
    have r1 : w2.cell? ⟨w.heap.size + 1, 1, none⟩ = some (.int .i64 0) := H2.out.1.r.cell 1
    have g0 := H2.out.1.r.frozen 0
    have g1 := H2.out.1.r.frozen 1
    go_wp2_with fail
    refine end_world (F := fun U => Blk U (w.heap.size + 1) #[.slice k.a j.q k.c, .int .i64 j.d.date] 33 ∧ TreePost w j (.returned (.tuple #[.agg #[.slice k.a j.q k.c, .int .i64 j.d.date], .int .i64 0])) U) ⟨(H2.out.1.r.set 0 _).set 1 _, bel_put (bel_put H2.out.1.bel _ (by omega)) _ (by omega), k, by rw [HA.out.1, HA.out.2]; rfl, by rw [HA.out.1]; exact ((H2.out.2.put _ (by omega)).put _ (by omega)).lower (by omega)⟩ ?_
    clear r0 r1 g0 g1
    rintro U ⟨hr, hE⟩
    have e0 : U.cell? ⟨w.heap.size + 1, 0, none⟩ = some (.slice k.a j.q k.c) := hr.cell 0
    have e1 : U.cell? ⟨w.heap.size + 1, 1, none⟩ = some (.int .i64 j.d.date) := hr.cell 1
    exact bodyPost_ret (v := .tuple #[.agg #[.slice k.a j.q k.c, .int .i64 j.d.date], .int .i64 0]) (by simp [results, Tryz.results31, go_sem, e0, e1]) rfl hE
  · have hzb : (leftAns j != 0) = true := by simp [hz]
    have HA : Hid (treeAns j = trNone ∧ treeCode j = 3) := by show _ ∧ _; unfold treeAns treeCode; rw [if_neg hz, if_neg hz]; exact ⟨rfl, rfl⟩
    clear hz
    go_wp2_with fail
    refine end_world (F := fun U => Blk U (w.heap.size + 1) #[.slice none 0 0, .int .i64 0] 33 ∧ TreePost w j (.returned (.tuple #[.agg #[.slice none 0 0, .int .i64 0], .int .i64 3])) U) ⟨(HP.out.r.set 0 _).set 1 _, bel_put (bel_put HP.out.bel _ (by omega)) _ (by omega), ⟨none, 0, fun _ => ⟨none, 0, none, 0⟩⟩, by rw [HA.out.1, HA.out.2]; rfl, by rw [HA.out.1]; exact OT.start _ _ _ _ _ _⟩ ?_
    clear r0 r1 g0 g1
    rintro U ⟨hr, hE⟩
    have e0 : U.cell? ⟨w.heap.size + 1, 0, none⟩ = some (.slice none 0 0) := hr.cell 0
    have e1 : U.cell? ⟨w.heap.size + 1, 1, none⟩ = some (.int .i64 0) := hr.cell 1
    exact bodyPost_ret (v := .tuple #[.agg #[.slice none 0 0, .int .i64 0], .int .i64 3]) (by simp [results, Tryz.results31, go_sem, e0, e1]) rfl hE
end Go.Proofs.YtakifcobofkheaaGreatDoor

/-
  What JobStep of the program answers.
-/
namespace Go.Proofs.YtakifcobofkheaaGreatDoor
open Go.RowKit Go.Deep Go.Shelf Go.Maps
set_option linter.unusedVariables false
set_option linter.unusedSimpArgs false
set_option linter.unnecessarySimpa false
attribute [local go_sem] Oper.semAt_some

/-- Before the round. -/
structure SA (W0 : World) (X : Nat → Prop) (W : World) : Prop where
  bel : Below W0.heap.size W0 W
  low : ∀ x, X x → W0.heap.size ≤ x ∧ x < W.heap.size

theorem SA.abides {W0 : World} {X X' : Nat → Prop} {W W' : World} {row : Option Nat} (h : SA W0 X W) (hg : W.grownBy W' row) (hr : ∀ r, row = some r → X r) (hX : ∀ r, X' r → X r ∨ (W.heap.size ≤ r ∧ r < W'.heap.size)) : SA W0 X' W' := by
  have hs := hg.size
  have hl := h.bel.size
  exact ⟨h.bel.grown hg hl (fun r e => (h.low r (hr r e)).1), fun r e => by
    rcases hX r e with e | e
    · have := h.low r e; omega
    · omega⟩

/-- Behind it: a job in the variable's block V. -/
structure SB (w : World) (V : Nat) (j : Jb) (l : JLoc) (X : Nat → Prop) (W : World) : Prop where
  r : Blk W (w.heap.size + 1) #[.slice none 0 0, .int .i64 0, .int .i64 0, .int .i64 0, .slice none 0 0, .slice none 0 0, .slice none 0 0] 38
  v : Blk W V (jC j l) 38
  own : OwnJb W (w.heap.size + 2) j l
  bel : Below w.heap.size w W
  low : ∀ x, X x → V + 1 ≤ x ∧ x < W.heap.size ∧ ¬ BkJ j l x
  len : V + 1 ≤ W.heap.size
  far : w.heap.size + 2 ≤ V

theorem SB.abides {w : World} {V : Nat} {j : Jb} {l : JLoc} {X X' : Nat → Prop} {W W' : World} {row : Option Nat} (h : SB w V j l X W) (hg : W.grownBy W' row) (hr : ∀ r, row = some r → X r) (hX : ∀ r, X' r → X r ∨ (W.heap.size ≤ r ∧ r < W'.heap.size)) : SB w V j l X' W' := by
  have hs := hg.size
  have hl := h.len
  have hf := h.far
  have kb : ∀ {b : Nat} {cs : Array Value} {ty : TypeId}, Blk W b cs ty → b ≤ V → Blk W' b cs ty := fun hb hlt => hb.of_block (hg.block _ hb.lt (fun e => by have := (h.low _ (hr _ e.symm)).1; omega))
  exact ⟨kb h.r (by omega), kb h.v (Nat.le_refl _), h.own.keep fun q e => hg.block q (h.own.blk e).2 (fun e' => (h.low _ (hr _ e'.symm)).2.2 e), h.bel.grown hg (by omega) (fun r e => by have := (h.low r (hr r e)).1; omega), fun r e => by
    rcases hX r e with e | e
    · have := h.low r e
      exact ⟨this.1, by omega, this.2.2⟩
    · exact ⟨by omega, e.2, fun e' => by have := (h.own.blk e').2; omega⟩, by omega, hf⟩

/-- What is answered. -/
theorem SB.fin {w : World} {V : Nat} {j0 j : Jb} {l : JLoc} {X : Nat → Prop} {U : World} {DD : Nat} (h : SB w V j l X U) (hX : X DD) (ha : stepAns j0 = j) (U7 : World) (hU : U7 = (((((((U.setCell ⟨w.heap.size + 1, 0, none⟩ (.slice l.t.a j.t.n l.t.c)).setCell ⟨w.heap.size + 1, 1, none⟩ (.int .i64 j.t.now)).setCell ⟨w.heap.size + 1, 2, none⟩ (.int .i64 j.d.since)).setCell ⟨w.heap.size + 1, 3, none⟩ (.int .i64 j.d.date)).setCell ⟨w.heap.size + 1, 4, none⟩ (.slice l.d.lA j.d.ln l.d.lc)).setCell ⟨w.heap.size + 1, 5, none⟩ (.slice l.d.iA j.d.m l.d.ic)).setCell ⟨w.heap.size + 1, 6, none⟩ (.slice l.e j.q l.f))) :
    Blk (U7.putObj DD (.deferred none)) (w.heap.size + 1) (jC j l) 38 ∧ JPost1 w (stepAns j0) (.returned (jV j l)) (U7.putObj DD (.deferred none)) ∧ U7.heap[DD]? = U.heap[DD]? := by
  have hl := h.low DD hX
  have hf := h.far
  have hlen := h.len
  have hg := grownBy_putObj' U7 DD (.deferred none)
  have h7 : U7.heap.size = U.heap.size := by subst hU; simp [World.setCell]
  have hr7 : Blk U7 (w.heap.size + 1) (jC j l) 38 := by subst hU; exact blk7 h.r _ _ _ _ _ _ _
  have hb7 : Below w.heap.size w U7 := by subst hU; exact bel7 h.bel (by omega) _ _ _ _ _ _ _
  have ho7 : OwnJb U7 (w.heap.size + 2) j l := by subst hU; exact jb7 h.own (by omega) _ _ _ _ _ _ _
  refine ⟨hr7.of_block (World.putObj_heap_other (show w.heap.size + 1 ≠ DD by omega)), ⟨hb7.grown hg (by omega) (fun k e => by cases e; omega), l, by rw [ha], ?_⟩, ?_⟩
  · rw [ha]
    exact (ho7.keep fun q e => World.putObj_heap_other (show q ≠ DD from fun e' => hl.2.2 (e' ▸ e))).lower (by omega)
  · subst hU
    have k : ∀ (W : World) (i : Nat) (v : Value), (W.setCell ⟨w.heap.size + 1, i, none⟩ v).heap[DD]? = W.heap[DD]? := fun W i v => blk_setCell_other _ _ _ _ (show DD ≠ w.heap.size + 1 by omega)
    rw [k, k, k, k, k, k, k]

set_option maxRecDepth 100000 in
set_option maxHeartbeats 16000000 in
theorem implJobStep_any (j : Jb) (l : JLoc) (w : World) (hE : ErrType w) (hJ : JIn w j l) (fj : j.Fits) (hs : j.size ≤ 1048576) :
    Calls Tryz.prog 27 #[jV j l] w (JPost1 w (stepAns j)) := by
  have hsz : j.t.size + j.d.size ≤ 1048576 := by unfold Jb.size at hs; omega
  have hst : j.t.size ≤ 1048576 := by omega
  have hsd : j.d.size ≤ 1048576 := by omega
  have hse : sizeTo j.e j.q ≤ 1048576 := by unfold Jb.size at hs; omega
  unfold jV
  by_cases hg : JobGood j
  · obtain ⟨y0, hy, hy0, hy1, hy2⟩ := info_parts infoNode
    have hqn := hg.q
    have hln := hg.ln
    have hq10 : j.q ≤ 10 := by omega
    have htr : backTr j.t j.d = ⟨j.d.ln, oneD j.t.n j.t.D j.d, j.d.date⟩ := by unfold backTr; rw [if_pos hg.code, JobGood.fromN hg.none]
    have HLT : Hid (j.q < j.d.ln → stepAns j = j.more (oneD j.t.n j.t.D j.d j.q)) := fun h => (step_good hg).trans (step_lt h)
    have HNO : Hid (¬ j.q < j.d.ln → stepAns j = j) := fun h => (step_good hg).trans (step_no h)
    generalize oneD j.t.n j.t.D j.d = D at htr HLT
    refine (callsIn_wide (n := 6)).1 ?_
    refine callsIn_of_wp_marks Tryz.func27 rfl trivial ?_ rfl
    simp only [Tryz.ntmps27, List.size_toArray, List.length_cons, List.length_nil, Nat.reduceAdd, Nat.reduceSub, Array.replicate_succ, Array.replicate_zero, List.push_toArray, List.append_toArray, List.nil_append, List.cons_append]
    gi_wp2_with (refine ⟨trivial, ?_⟩; gi_at_call 62; refine callsIn_wide.2 ?_)
    refine at_world (F := Js w j l) ?_ ?_
    · obtain ⟨h0, h1, hb, _⟩ := new2 w (jC j l) 38 #[.slice none 0 0, .int .i64 0, .int .i64 0, .int .i64 0, .slice none 0 0, .slice none 0 0, .slice none 0 0] 38
      exact ⟨h0, h1, hb, by simp⟩
    rintro W hP
    refine (treeOfJob_any j l W (hE.bel hP.bel) (hJ.below (Nat.le_refl _) hP.bel) fj hsz).mono ?_
    rintro e w1 ⟨hb1, b, lb, rfl, hb, hob⟩
    obtain rfl : b = true := hb.2 hg
    simp only [if_true, htr] at hob ⊢
    unfold tV
    have hs1 : w.heap.size + 2 ≤ W.heap.size := hP.size
    have hs2 : W.heap.size ≤ w1.heap.size := hb1.size
    have H1 : Hid (Js w j l w1 ∧ OwnTr w1 W.heap.size ⟨j.d.ln, D, j.d.date⟩ lb) := ⟨hP.below hb1, hob⟩
    obtain ⟨bb, off, hA, hbl, hcells⟩ : ∃ bb off, (j.q < j.d.ln → lb.a = some ⟨bb, off, none⟩) ∧ (j.q < j.d.ln → bb < w1.heap.size) ∧ ∀ i, i < j.d.ln → bb < w1.heap.size ∧ w1.cell? ⟨bb, off + i * 5, none⟩ = some (.int .i64 (D i).kind) ∧ w1.cell? ⟨bb, off + i * 5 + 1, none⟩ = some (.string (D i).text) ∧
        w1.cell? ⟨bb, off + i * 5 + 2, none⟩ = some (.slice (lb.L i).nA (D i).nn (lb.L i).nc) ∧ w1.cell? ⟨bb, off + i * 5 + 3, none⟩ = some (.slice (lb.L i).kA (D i).kn (lb.L i).kc) ∧ w1.cell? ⟨bb, off + i * 5 + 4, none⟩ = some (.int .i64 (D i).turn) := by
      rcases hob.tIn with h | ⟨b, off, ha, hlt, hc⟩
      · exact ⟨0, 0, fun h' => by have h2 : j.d.ln = 0 := h; omega, fun h' => by have h2 : j.d.ln = 0 := h; omega, fun i hi => by have h2 : j.d.ln = 0 := h; omega⟩
      · exact ⟨b, off, fun _ => ha, fun _ => hlt, fun i hi => ⟨hlt, (hc i hi).1, (hc i hi).2.1, (hc i hi).2.2.1, (hc i hi).2.2.2.1, (hc i hi).2.2.2.2.1⟩⟩
    have HC : Hid _ := hcells
    have hbb : j.q < j.d.ln → bb < w1.heap.size := hbl
    clear hP hb1 hb hob htr hcells hbl
    have n0 : w.heap.size < w1.heap.size := by omega
    have m0 : w.heap.size ≠ w1.heap.size := by omega
    obtain ⟨p0, p1, p2, p3, p4, p5, p6⟩ := jC_cells H1.out.1.p
    gi_wp2_with (refine ⟨trivial, ?_⟩; gi_at_call 63; refine callsIn_wide.2 ?_)
    refine at_world (F := fun U => Js w j l U ∧ OwnTr U W.heap.size ⟨j.d.ln, D, j.d.date⟩ lb ∧ Blk U w1.heap.size #[.slice lb.a j.d.ln lb.c, .int .i64 j.d.date] 33 ∧ Below w1.heap.size w1 U ∧ w1.heap.size < U.heap.size) ?_ ?_
    · obtain ⟨h0, hb, _⟩ := new1 w1 #[.slice lb.a j.d.ln lb.c, .int .i64 j.d.date] 33
      exact ⟨H1.out.1.below hb, H1.out.2.below hb, h0, hb, h0.lt⟩
    clear p0 p1 p2 p3 p4 p5 p6 n0 m0
    rintro W2 ⟨hj2, ho2, hv2, hb2, hl2⟩
    refine (copyJob_any j l W2 (hJ.below (Nat.le_refl _) hj2.bel) hg.ok hg.few hq10 hst hsd hse).mono ?_
    rintro e w3 ⟨hb3, lj, rfl, hown⟩
    unfold jV
    have H3 : Hid (Js w j l w3 ∧ OwnTr w3 W.heap.size ⟨j.d.ln, D, j.d.date⟩ lb ∧ Blk w3 w1.heap.size #[.slice lb.a j.d.ln lb.c, .int .i64 j.d.date] 33 ∧ OwnJb w3 W2.heap.size j lj ∧ Below w1.heap.size w1 w3) := ⟨hj2.below hb3, ho2.below hb3, hv2.below hb3 hl2, hown, hb2.trans (hb3.mono (by omega))⟩
    have hs3 : W2.heap.size ≤ w3.heap.size := hb3.size
    clear hj2 ho2 hv2 hb2 hb3 hown
    obtain ⟨p0, p1, p2, p3, p4, p5, p6⟩ := jC_cells H3.out.1.p
    have v0 : w3.cell? ⟨w1.heap.size, 0, none⟩ = some (.slice lb.a j.d.ln lb.c) := H3.out.2.2.1.cell 0
    have v1 : w3.cell? ⟨w1.heap.size, 1, none⟩ = some (.int .i64 j.d.date) := H3.out.2.2.1.cell 1
    have n0 : w.heap.size < w3.heap.size := by omega
    have m0 : w.heap.size ≠ w3.heap.size := by omega
    have n1 : w1.heap.size < w3.heap.size := by omega
    have m1 : w1.heap.size ≠ w3.heap.size := by omega
    gi_wp2_with (refine ⟨trivial, ?_⟩; gi_at_call 64; refine (places_in _ lb.a j.d.ln lb.c j.q j.d.date _).mono ?_; rintro e w' ⟨rfl, rfl⟩)
    obtain ⟨V, hV⟩ : ∃ V, w3.heap.size = V := ⟨_, rfl⟩
    have HW : ∀ W0, W0 = (((w3.alloc (.cells (jC j lj) 38)).alloc (.cells #[.slice lb.a j.d.ln lb.c, .int .i64 j.d.date] 33)).alloc (.cells #[.int .i64 (j.q : Int)] 3)) → Below w3.heap.size w3 W0 ∧ Blk W0 V (jC j lj) 38 ∧ W0.cell? ⟨V + 1, 0, none⟩ = some (.slice lb.a j.d.ln lb.c) ∧ W0.cell? ⟨V + 2, 0, none⟩ = some (.int .i64 (j.q : Int)) ∧ W0.heap.size = V + 3 := fun W0 e => by
      obtain ⟨h0, h1, h2, hb', hs'⟩ := new3 w3 (jC j lj) 38 #[.slice lb.a j.d.ln lb.c, .int .i64 j.d.date] 33 #[.int .i64 (j.q : Int)] 3
      rw [← e] at h0 h1 h2 hb'
      rw [hV] at h0 h1 h2
      exact ⟨hb', h0, h1.cell 0, h2.cell 0, by subst e; simp; omega⟩
    obtain ⟨W0, hW0⟩ : ∃ W0, W0 = (((w3.alloc (.cells (jC j lj) 38)).alloc (.cells #[.slice lb.a j.d.ln lb.c, .int .i64 j.d.date] 33)).alloc (.cells #[.int .i64 (j.q : Int)] 3)) := ⟨_, rfl⟩
    obtain ⟨hw0, hv0, ht0, hs0, hz0⟩ := HW W0 hW0
    unfold jC at hW0
    rw [hV]
    rw [← hW0]
    clear hW0 HW p0 p1 p2 p3 p4 p5 p6 v0 v1 n0 m0 n1 m1
    have hw10 : Below w1.heap.size w1 W0 := H3.out.2.2.2.2.trans (hw0.mono (by omega))
    have HV0 : Hid (Below w3.heap.size w3 W0 ∧ Blk W0 V (jC j lj) 38) := ⟨hw0, hv0⟩
    have hcell0 : ∀ i, i < j.d.ln → W0.cell? ⟨bb, off + i * 5, none⟩ = some (.int .i64 (D i).kind) ∧ W0.cell? ⟨bb, off + i * 5 + 1, none⟩ = some (.string (D i).text) ∧ W0.cell? ⟨bb, off + i * 5 + 2, none⟩ = some (.slice (lb.L i).nA (D i).nn (lb.L i).nc) ∧ W0.cell? ⟨bb, off + i * 5 + 3, none⟩ = some (.slice (lb.L i).kA (D i).kn (lb.L i).kc) ∧ W0.cell? ⟨bb, off + i * 5 + 4, none⟩ = some (.int .i64 (D i).turn) := fun i hi => by
      obtain ⟨hb, c0, c1, c2, c3, c4⟩ := HC.out i hi
      have k : ∀ o v, w1.cell? ⟨bb, o, none⟩ = some v → W0.cell? ⟨bb, o, none⟩ = some v := fun o v h => (hw10.cell (p := ⟨bb, o, none⟩) hb).trans h
      exact ⟨k _ _ c0, k _ _ c1, k _ _ c2, k _ _ c3, k _ _ c4⟩
    have HSeq : Hid _ := places_R 5 (by omega) (V + 1) (V + 2) bb off j.d.ln lb.c j.q j.d.date D lb.L hln hqn lb.a hA W0 ht0 (by omega) hs0 (by omega) (fun h => by have := hbb h; omega) hcell0
    have HTB : Hid (∀ q, BkJ j lj q → W2.heap.size ≤ q ∧ q < V) := fun q e => by have := H3.out.2.2.2.1.blk e; omega
    clear hcell0 ht0 hs0 hw10 HC hw0 hv0 hA
    have HSB0 : Hid (∀ X U, SA W0 X U → SB w V j lj X U) := fun X U h => by
      have hu : Below w3.heap.size w3 U := HV0.out.1.trans (h.bel.mono (by omega))
      have hus := h.bel.size
      exact ⟨(H3.out.1.below hu).r, HV0.out.2.below h.bel HV0.out.2.lt, (H3.out.2.2.2.1.below hu).lower (by omega), (H3.out.1.below hu).bel, fun x hx => by
        have h1 := h.low x hx
        exact ⟨by omega, h1.2, fun e => by have := (HTB.out x e).2; omega⟩, by omega, by omega⟩
    refine wpIn_rangeFunc_R rfl (by omega) (gf := 95) (lb := #[.pointer (some ⟨V + 2, 0, none⟩), .pointer (some ⟨V + 1, 0, none⟩)]) rfl trivial (enters_of Tryz.func95 (by kernel_rfl) rfl) HSeq.out ?hZ (Below.refl _ _) (fun _ => rfl)
      (fun pre X U => pre = [] ∧ SA W0 X U)
      (fun cd pre X U => cd = .exit 0 ∧ j.q < j.d.ln ∧ ∃ lj', SB w V (j.more (D j.q)) lj' X U)
      (fun pre X X' W W' row h hg hr hX => ⟨h.1, h.2.abides hg hr hX⟩) (fun cd pre X X' W W' row h hg hr hX => by obtain ⟨h1, h2, k, h3⟩ := h; exact ⟨h1, h2, k, h3.abides hg hr hX⟩)
      ⟨rfl, Below.refl _ _, fun x hx => hx.elim⟩
      (DAx ⟨j.d.ln, D, j.d.date⟩ lb (fun x v => #[.agg #[.slice l.t.a j.t.n l.t.c, .int .i64 j.t.now, .int .i64 j.d.since, .int .i64 j.d.date, .slice l.d.lA j.d.ln l.d.lc, .slice l.d.iA j.d.m l.d.ic, .slice l.e j.q l.f], .pointer (some ⟨w.heap.size, 0, none⟩), .pointer (some ⟨w.heap.size + 1, 0, none⟩), .pointer (some ⟨w1.heap.size, 0, none⟩), .bool true, .pointer (some ⟨V, 0, none⟩), undef, v, .tuple #[.agg #[.slice lb.a j.d.ln lb.c, .int .i64 j.d.date], .bool true], .agg #[.slice l.t.a j.t.n l.t.c, .int .i64 j.t.now, .int .i64 j.d.since, .int .i64 j.d.date, .slice l.d.lA j.d.ln l.d.lc, .slice l.d.iA j.d.m l.d.ic, .slice l.e j.q l.f], .tuple #[.agg #[.slice lb.a j.d.ln lb.c, .int .i64 j.d.date], .bool true], .agg #[.slice lb.a j.d.ln lb.c, .int .i64 j.d.date], .bool true, .bool true, .bool false, undef, .agg #[.slice l.t.a j.t.n l.t.c, .int .i64 j.t.now, .int .i64 j.d.since, .int .i64 j.d.date, .slice l.d.lA j.d.ln l.d.lc, .slice l.d.iA j.d.m l.d.ic, .slice l.e j.q l.f], .agg #[.slice lj.t.a j.t.n lj.t.c, .int .i64 j.t.now, .int .i64 j.d.since, .int .i64 j.d.date, .slice lj.d.lA j.d.ln lj.d.lc, .slice lj.d.iA j.d.m lj.d.ic, .slice lj.e j.q lj.f], .agg #[.slice lb.a j.d.ln lb.c, .int .i64 j.d.date], .pointer (some ⟨w.heap.size, 6, none⟩), .slice l.e j.q l.f, .int .i64 (j.q : Nat), .func (.func 95) #[] #[.pointer (some ⟨V + 1 + 1, 0, none⟩), .pointer (some ⟨V + 1, 0, none⟩)], .int .i64 (x : Nat), .agg #[.int .i64 (D x).kind, .string (D x).text, .slice (lb.L x).nA (D x).nn (lb.L x).nc, .slice (lb.L x).kA (D x).kn (lb.L x).kc, .int .i64 (D x).turn], undef, undef, undef, undef, undef, undef, undef])) ?hAx ?assign ?body ?done ?stop
    case hZ =>
      rintro r (rfl | ⟨rfl, h⟩)
      · omega
      · have := hbb h; omega
    case hAx =>
      rintro x X a' U l' r o' ⟨VV, hVV, rfl⟩ hl'
      refine ⟨VV, ?_, rfl⟩
      have hne : VV ≠ l' := fun e => by
        subst e
        unfold Blk at hVV
        rw [hVV] at hl'
        cases hl'
      exact (World.putObj_heap_other hne).trans hVV
    case assign =>
      rintro l' pre x X U K ⟨h1, h2⟩ hK
      have HK : Hid _ := hK
      clear hK
      dsimp only [ndV]
      gi_wp2
      exact HK.out _ _ X (fun r h => h) (fun r h => Or.inl h) ⟨by simp, fun r _ hr => blk_alloc_lt _ _ _ hr⟩ ⟨h1, h2.abides (row := none) (World.grownBy_alloc U _ none) (fun r e => by cases e) (fun r e => Or.inl e)⟩ ⟨U.heap.size, Blk.new _ _ _, rfl⟩
    case body =>
      rintro l' pre x X a' U ⟨rr, hrr⟩ ⟨rfl, hSA⟩ ⟨VV, hVV, rfl⟩ hlen ⟨hx1, hx2, hx3⟩
      obtain rfl : x = j.q := by simpa using hx1
      have HSA : Hid (SA W0 X U ∧ SB w V j lj X U) := ⟨hSA, HSB0.out _ _ hSA⟩
      have hlt : j.q < j.d.ln := hx2
      have hus : V + 3 ≤ U.heap.size := by have := hSA.bel.size; omega
      have hu : Below w3.heap.size w3 U := HV0.out.1.trans (hSA.bel.mono (by omega))
      have hVl : V < U.heap.size := by omega
      have hVn : V ≠ U.heap.size := by omega
      have hVVl := hVV.lt
      have hVVn : VV ≠ U.heap.size := by omega
      have k0 : U.cell? ⟨VV, 0, none⟩ = some (.int .i64 (D j.q).kind) := hVV.cell 0
      have k1 : U.cell? ⟨VV, 1, none⟩ = some (.string (D j.q).text) := hVV.cell 1
      have k2 : U.cell? ⟨VV, 2, none⟩ = some (.slice (lb.L j.q).nA (D j.q).nn (lb.L j.q).nc) := hVV.cell 2
      have k3 : U.cell? ⟨VV, 3, none⟩ = some (.slice (lb.L j.q).kA (D j.q).kn (lb.L j.q).kc) := hVV.cell 3
      have k4 : U.cell? ⟨VV, 4, none⟩ = some (.int .i64 (D j.q).turn) := hVV.cell 4
      have hbq := hbb hlt
      have HTn : Hid (∀ q, (Value.slice (lb.L j.q).nA (D j.q).nn (lb.L j.q).nc).ownBlock = some q → q < w1.heap.size) := fun q e => (owns_block (OT.ownN H1.out.2 hlt) e).2
      have HTk : Hid (∀ q, (Value.slice (lb.L j.q).kA (D j.q).kn (lb.L j.q).kc).ownBlock = some q → q < w1.heap.size) := fun q e => (owns_block (OT.ownK H1.out.2 hlt) e).2
      have HAP : Hid (∀ q, (Value.slice (lb.L j.q).nA (D j.q).nn (lb.L j.q).nc).ownBlock = some q → (Value.slice (lb.L j.q).kA (D j.q).kn (lb.L j.q).kc).ownBlock ≠ some q) := fun q e e' => by
        have d1 : (2 + 2 * j.q - 2) / 2 = j.q := by omega
        have d2 : (3 + 2 * j.q - 2) / 2 = j.q := by omega
        refine (OT.rows H1.out.2).apart (2 + 2 * j.q) (3 + 2 * j.q) (show _ < 2 + 2 * j.d.ln by omega) (show _ < 2 + 2 * j.d.ln by omega) (by omega) q ?_ ?_
        · unfold valT; rw [if_neg (by omega), if_neg (by omega), if_pos (by omega), d1]; exact e
        · unfold valT; rw [if_neg (by omega), if_neg (by omega), if_neg (by omega), d2]; exact e'
      obtain ⟨UA, hUA⟩ : ∃ UA, UA = U.alloc (.cells #[.int .i64 (D j.q).kind, .string (D j.q).text, .slice (lb.L j.q).nA (D j.q).nn (lb.L j.q).nc, .slice (lb.L j.q).kA (D j.q).kn (lb.L j.q).kc, .int .i64 (D j.q).turn] 87) := ⟨_, rfl⟩
      have hbA : Below U.heap.size U UA := by rw [hUA]; exact (Below.refl _ _).alloc (Nat.le_refl _) _
      have hsA : UA.heap.size = U.heap.size + 1 := by rw [hUA]; simp
      have HOI : Hid (UA.ownsRow W.heap.size 87 5 (.slice lj.e j.q lj.f) j.q (rowsT (fun _ => 0) j.e lj.g j.q)) := ((H3.out.2.2.2.1.below (hu.trans (hbA.mono (by have := hu.size; omega)))).lower (by omega)).e.ownI
      have HSRC : Hid (∀ i u, (nt5 0 (D j.q) (lb.L j.q))[i]? = some u → UA.cell? ((⟨U.heap.size, 0, none⟩ : Addr).add i) = some u) := fun i u hi => by
        rw [hUA]
        have h := (src_node U (D j.q) (lb.L j.q)).lies
        rcases h with ⟨c, h, _⟩ | ⟨ad, c, h, hc⟩
        · cases h
        · cases h; exact hc i u hi
      have HEND : Hid (∀ gI cI W7, W7.ownsRow W.heap.size 87 5 (.slice (some ⟨gI, 0, none⟩) (j.q + 1) cI) (j.q + 1) (rowsT (fun _ => 0) j.e lj.g j.q ++ nt5 0 (D j.q) (lb.L j.q)) → UA.grownBy W7 (Value.slice lj.e j.q lj.f).ownBlock → ((Value.slice (some ⟨gI, 0, none⟩) (j.q + 1) cI).ownBlock = (Value.slice lj.e j.q lj.f).ownBlock ∨ (Value.slice (some ⟨gI, 0, none⟩) (j.q + 1) cI).ownBlock = some UA.heap.size) →
          Blk W7 V (jC j lj) 38 ∧ ∀ U9, U9 = W7.setCell ⟨V, 6, none⟩ (.slice (some ⟨gI, 0, none⟩) (j.q + 1) cI) → KeepsR (fun r => X r ∨ (r = V + 1 ∨ (r = bb ∧ j.q < j.d.ln))) U U9 ∧ SB w V (j.more (D j.q)) (lj.more j.q gI cI (lb.L j.q)) X U9) := fun gI cI W7 hown hgrow hat => by
        have hbo : ∀ q, (Value.slice lj.e j.q lj.f).ownBlock = some q → W2.heap.size ≤ q ∧ q < V := fun q e => HTB.out q (Or.inr (Or.inr ⟨1, by show 1 < 2 + 2 * j.q; omega, by simpa [valT, Jb.dn, JLoc.dn] using e⟩))
        have hbI : (Value.slice lj.e j.q lj.f).ownBlock = some gI ∨ UA.heap.size ≤ gI := by
          rcases hat with e | e
          · exact Or.inl e.symm
          · right
            have e' : gI = UA.heap.size := by simpa [Value.ownBlock] using e
            omega
        have huA : Below w3.heap.size w3 UA := hu.trans (hbA.mono (by have := hu.size; omega))
        have hJU := (H3.out.2.2.2.1.below huA).lower (B' := W.heap.size) (by omega)
        have hTU := OT.below H1.out.2 (H3.out.2.2.2.2.trans (huA.mono (by omega)))
        have hM := hJU.more (OT.ownN hTU hlt) (OT.ownK hTU hlt) HAP.out (fun q e e' => by have := HTn.out q e; have := HTB.out q e'; omega) (fun q e e' => by have := HTk.out q e; have := HTB.out q e'; omega) hgrow hown hbI
        have hBk : ∀ q, BkJ (j.more (D j.q)) (lj.more j.q gI cI (lb.L j.q)) q → q < V ∨ U.heap.size < q := fun q e => by
          rcases e with e | e | e
          · have := (HTB.out q (Or.inl e)).2; omega
          · have := (HTB.out q (Or.inr (Or.inl e))).2; omega
          · rcases BkT.more (now := 0) (a := lj.e) (c := lj.f) e with e | e | e | e
            · have := (HTB.out q (Or.inr (Or.inr e))).2; omega
            · subst e
              rcases hbI with e' | e'
              · have := (hbo _ e').2; omega
              · omega
            · have := HTn.out q e; omega
            · have := HTk.out q e; omega
        have hS := HSA.out.2
        have h7s := hgrow.size
        have hVA := hS.v.below hbA hVl
        have hV7 : Blk W7 V (jC j lj) 38 := blk_grownT hVA hgrow (fun e => by have := (hbo _ e).2; omega)
        refine ⟨hV7, fun U9 e9 => ?_⟩
        have h9s : U9.heap.size = W7.heap.size := by subst e9; simp [World.setCell]
        refine ⟨⟨by omega, fun r hr hl => ?_⟩, ⟨?_, by subst e9; exact hV7.set 6 _, ?_, ?_, fun y hy => ?_, by omega, by omega⟩⟩
        · have hrV : r ≠ V := by
            rcases hr with h | h | ⟨h, _⟩
            · have := (HSA.out.1.low r h).1; omega
            · omega
            · omega
          have hrb : some r ≠ (Value.slice lj.e j.q lj.f).ownBlock := fun e => by
            have := hbo r e.symm
            rcases hr with h | h | ⟨h, _⟩
            · have := (HSA.out.1.low r h).1; omega
            · omega
            · omega
          subst e9
          exact (blk_setCell_other _ _ _ _ hrV).trans ((hgrow.block r (by omega) hrb).trans (hbA.block r hl))
        · subst e9
          exact (blk_grownT (hS.r.below hbA (by omega)) hgrow (fun e => by have := (hbo _ e).1; omega)).off _ (by omega)
        · subst e9
          exact (hM.keep fun q e => blk_setCell_other _ _ _ _ (show q ≠ V from fun e' => by have := hBk q e; omega)).lower (by omega)
        · subst e9
          exact bel_put ((hS.bel.trans (hbA.mono (by omega))).grown hgrow (by omega) (fun q e => by have := (hbo q e).1; omega)) _ (by omega)
        · have := HSA.out.1.low y hy
          exact ⟨by omega, by omega, fun e => by have := hBk y e; omega⟩
      have HUA : Hid (U.alloc (.cells #[.int .i64 (D j.q).kind, .string (D j.q).text, .slice (lb.L j.q).nA (D j.q).nn (lb.L j.q).nc, .slice (lb.L j.q).kA (D j.q).kn (lb.L j.q).kc, .int .i64 (D j.q).turn] 87) = UA) := hUA.symm
      obtain ⟨c0, c1, c2, c3, c4, c5, c6⟩ := jC_cells HSA.out.2.v
      have f6 := HSA.out.2.v.frozen 6
      have hWs : W.heap.size ≤ U.heap.size + 1 := by omega
      clear hx1 hx2 hx3 hSA hVV hrr hlen hbA hu hUA HSeq
      gi_wp2_with (gi_at_builtin; go_must (rw [HUA.out]; refine wpListIn_append_own_at _ rfl _ _ 31 rfl W.heap.size 87 y0 (.agg #[.int .i64 0, .string ByteArray.empty, .slice none 0 0, .slice none 0 0, .int .i64 0]) 5 80 Tryz.underlying31 hy hy0 hy1 hy2 rfl (by decide) (.slice lj.e j.q lj.f) j.q (rowsT (fun _ => 0) j.e lj.g j.q) (by rfl) HOI.out ⟨U.heap.size, 0, none⟩ 1 1 (nt5 0 (D j.q) (lb.L j.q)) (by rfl) rfl HSRC.out (nt5_one 0 _ _) (by unfold maxLen; omega) (by omega) (by rw [hsA]; omega) ?_); intro vI W7 hown hgrow hnil hat; obtain ⟨gI, cI, rfl⟩ := ownsRow_succ hown; obtain ⟨hv7, hend⟩ := HEND.out gI cI W7 hown hgrow hat; have f67 := hv7.frozen 6; have c67 : W7.cell? ⟨V, 6, none⟩ = some (.slice lj.e j.q lj.f) := hv7.cell 6; have HX : Hid _ := hend; clear hown hgrow hnil hat hend)
      exact ⟨(HX.out _ rfl).1, rfl, hlt, _, (HX.out _ rfl).2⟩
    case done =>
      rintro DD ys X U hDD hXD rfl ⟨hys, hSA⟩ hk
      have hno : ¬ j.q < j.d.ln := fun h => by
        have := congrArg List.length hys
        rw [upF_len] at this
        simp at this
        omega
      have hsb := HSB0.out _ _ hSA
      have hfin := hsb.fin hXD (HNO.out hno) _ rfl
      have hk2 := hfin.2.2.trans hk
      have HF : Hid _ := hfin
      have HK2 : Hid _ := hk2
      obtain ⟨c0, c1, c2, c3, c4, c5, c6⟩ := jC_cells hsb.v
      have r0 : U.cell? ⟨w.heap.size + 1, 0, none⟩ = some (.slice none 0 0) := hsb.r.cell 0
      have r1 : U.cell? ⟨w.heap.size + 1, 1, none⟩ = some (.int .i64 0) := hsb.r.cell 1
      have r2 : U.cell? ⟨w.heap.size + 1, 2, none⟩ = some (.int .i64 0) := hsb.r.cell 2
      have r3 : U.cell? ⟨w.heap.size + 1, 3, none⟩ = some (.int .i64 0) := hsb.r.cell 3
      have r4 : U.cell? ⟨w.heap.size + 1, 4, none⟩ = some (.slice none 0 0) := hsb.r.cell 4
      have r5 : U.cell? ⟨w.heap.size + 1, 5, none⟩ = some (.slice none 0 0) := hsb.r.cell 5
      have r6 : U.cell? ⟨w.heap.size + 1, 6, none⟩ = some (.slice none 0 0) := hsb.r.cell 6
      have g0 := hsb.r.frozen 0
      have g1 := hsb.r.frozen 1
      have g2 := hsb.r.frozen 2
      have g3 := hsb.r.frozen 3
      have g4 := hsb.r.frozen 4
      have g5 := hsb.r.frozen 5
      have g6 := hsb.r.frozen 6
      clear hsb hfin hk2 hk hSA hys HSeq
      gi_wp2
      refine ⟨by simp, .inl ⟨_, _, rfl, run_takeDeferred HK2.out, ?_⟩⟩
      obtain ⟨e0, e1, e2, e3, e4, e5, e6⟩ := jC_cells HF.out.1
      exact ⟨jV j lj, by unfold jV; simp [results, Tryz.results27, go_sem, e0, e1, e2, e3, e4, e5, e6], HF.out.2.1⟩
    case stop =>
      rintro DD cd pre X U hDD hXD _ ⟨rfl, hlt, lk, hsb⟩ hk
      have hal := HLT.out hlt
      generalize j.more (D j.q) = jk at hsb hal
      have hfin := hsb.fin hXD hal _ rfl
      have hk2 := hfin.2.2.trans hk
      have HF : Hid _ := hfin
      have HK2 : Hid _ := hk2
      obtain ⟨c0, c1, c2, c3, c4, c5, c6⟩ := jC_cells hsb.v
      have r0 : U.cell? ⟨w.heap.size + 1, 0, none⟩ = some (.slice none 0 0) := hsb.r.cell 0
      have r1 : U.cell? ⟨w.heap.size + 1, 1, none⟩ = some (.int .i64 0) := hsb.r.cell 1
      have r2 : U.cell? ⟨w.heap.size + 1, 2, none⟩ = some (.int .i64 0) := hsb.r.cell 2
      have r3 : U.cell? ⟨w.heap.size + 1, 3, none⟩ = some (.int .i64 0) := hsb.r.cell 3
      have r4 : U.cell? ⟨w.heap.size + 1, 4, none⟩ = some (.slice none 0 0) := hsb.r.cell 4
      have r5 : U.cell? ⟨w.heap.size + 1, 5, none⟩ = some (.slice none 0 0) := hsb.r.cell 5
      have r6 : U.cell? ⟨w.heap.size + 1, 6, none⟩ = some (.slice none 0 0) := hsb.r.cell 6
      have g0 := hsb.r.frozen 0
      have g1 := hsb.r.frozen 1
      have g2 := hsb.r.frozen 2
      have g3 := hsb.r.frozen 3
      have g4 := hsb.r.frozen 4
      have g5 := hsb.r.frozen 5
      have g6 := hsb.r.frozen 6
      clear hsb hfin hk2 hk hal HSeq
      gi_wp2
      refine ⟨by simp, .inl ⟨_, _, rfl, run_takeDeferred HK2.out, ?_⟩⟩
      obtain ⟨e0, e1, e2, e3, e4, e5, e6⟩ := jC_cells HF.out.1
      exact ⟨jV jk lk, by unfold jV; simp [results, Tryz.results27, go_sem, e0, e1, e2, e3, e4, e5, e6], HF.out.2.1⟩
  · have HG : Hid (¬ JobGood j) := hg
    clear hg
    go_enter Tryz.func27, Tryz.ntmps27
    go_wp2_with fail
    refine at_world (F := Js w j l) ?_ ?_
    · obtain ⟨h0, h1, hb, _⟩ := new2 w (jC j l) 38 #[.slice none 0 0, .int .i64 0, .int .i64 0, .int .i64 0, .slice none 0 0, .slice none 0 0, .slice none 0 0] 38
      exact ⟨h0, h1, hb, by simp⟩
    rintro W hP
    refine (treeOfJob_any j l W (hE.bel hP.bel) (hJ.below (Nat.le_refl _) hP.bel) fj hsz).mono ?_
    rintro e w1 ⟨hb1, b, lb, rfl, hb, _⟩
    obtain rfl : b = false := by
      cases b with
      | false => rfl
      | true => exact absurd (hb.1 rfl) HG.out
    unfold tV
    have HP : Hid (Js w j l w1) := hP.below hb1
    have HA : Hid (stepAns j = jbNone) := step_bad HG.out
    clear hP hb1 hb
    generalize (if false = true then backTr j.t j.d else trNone) = X
    have hsz1 := HP.out.size
    have n1 : w.heap.size + 1 < w1.heap.size := by omega
    have m1 : w.heap.size + 1 ≠ w1.heap.size := by omega
    have r0 : w1.cell? ⟨w.heap.size + 1, 0, none⟩ = some (.slice none 0 0) := HP.out.r.cell 0
    have r1 : w1.cell? ⟨w.heap.size + 1, 1, none⟩ = some (.int .i64 0) := HP.out.r.cell 1
    have r2 : w1.cell? ⟨w.heap.size + 1, 2, none⟩ = some (.int .i64 0) := HP.out.r.cell 2
    have r3 : w1.cell? ⟨w.heap.size + 1, 3, none⟩ = some (.int .i64 0) := HP.out.r.cell 3
    have r4 : w1.cell? ⟨w.heap.size + 1, 4, none⟩ = some (.slice none 0 0) := HP.out.r.cell 4
    have r5 : w1.cell? ⟨w.heap.size + 1, 5, none⟩ = some (.slice none 0 0) := HP.out.r.cell 5
    have r6 : w1.cell? ⟨w.heap.size + 1, 6, none⟩ = some (.slice none 0 0) := HP.out.r.cell 6
    have g0 := HP.out.r.frozen 0
    have g1 := HP.out.r.frozen 1
    have g2 := HP.out.r.frozen 2
    have g3 := HP.out.r.frozen 3
    have g4 := HP.out.r.frozen 4
    have g5 := HP.out.r.frozen 5
    have g6 := HP.out.r.frozen 6
    have HE : Hid (∀ U, U = ((((((((w1.setCell ⟨w.heap.size + 1, 0, none⟩ (.slice none 0 0)).setCell ⟨w.heap.size + 1, 1, none⟩ (.int .i64 0)).setCell ⟨w.heap.size + 1, 2, none⟩ (.int .i64 0)).setCell ⟨w.heap.size + 1, 3, none⟩ (.int .i64 0)).setCell ⟨w.heap.size + 1, 4, none⟩ (.slice none 0 0)).setCell ⟨w.heap.size + 1, 5, none⟩ (.slice none 0 0)).setCell ⟨w.heap.size + 1, 6, none⟩ (.slice none 0 0)).alloc (.cells #[.slice lb.a X.n lb.c, .int .i64 X.now] 33)) → Blk U (w.heap.size + 1) #[.slice none 0 0, .int .i64 0, .int .i64 0, .int .i64 0, .slice none 0 0, .slice none 0 0, .slice none 0 0] 38 ∧ JPost1 w (stepAns j) (.returned (.agg #[.slice none 0 0, .int .i64 0, .int .i64 0, .int .i64 0, .slice none 0 0, .slice none 0 0, .slice none 0 0])) U) := fun U e => by
      subst e
      rw [HA.out]
      have hb : Below w.heap.size w (((((((w1.setCell ⟨w.heap.size + 1, 0, none⟩ (.slice none 0 0)).setCell ⟨w.heap.size + 1, 1, none⟩ (.int .i64 0)).setCell ⟨w.heap.size + 1, 2, none⟩ (.int .i64 0)).setCell ⟨w.heap.size + 1, 3, none⟩ (.int .i64 0)).setCell ⟨w.heap.size + 1, 4, none⟩ (.slice none 0 0)).setCell ⟨w.heap.size + 1, 5, none⟩ (.slice none 0 0)).setCell ⟨w.heap.size + 1, 6, none⟩ (.slice none 0 0)) := bel7 HP.out.bel (by omega) _ _ _ _ _ _ _
      exact ⟨(blk7 HP.out.r _ _ _ _ _ _ _).alloc _, hb.alloc hb.size _, _, rfl, ownJb_none _ _⟩
    go_wp2_with fail
    refine end_world (F := fun U => Blk U (w.heap.size + 1) #[.slice none 0 0, .int .i64 0, .int .i64 0, .int .i64 0, .slice none 0 0, .slice none 0 0, .slice none 0 0] 38 ∧ JPost1 w (stepAns j) (.returned (.agg #[.slice none 0 0, .int .i64 0, .int .i64 0, .int .i64 0, .slice none 0 0, .slice none 0 0, .slice none 0 0])) U) (HE.out _ rfl) ?_
    clear HE r0 r1 r2 r3 r4 r5 r6 g0 g1 g2 g3 g4 g5 g6
    rintro U ⟨hr, hE⟩
    have e0 := hr.cell 0
    have e1 := hr.cell 1
    have e2 := hr.cell 2
    have e3 := hr.cell 3
    have e4 := hr.cell 4
    have e5 := hr.cell 5
    have e6 := hr.cell 6
    simp at e0 e1 e2 e3 e4 e5 e6
    exact bodyPost_ret (v := .agg #[.slice none 0 0, .int .i64 0, .int .i64 0, .int .i64 0, .slice none 0 0, .slice none 0 0, .slice none 0 0]) (by simp [results, Tryz.results27, go_sem, e0, e1, e2, e3, e4, e5, e6]) rfl hE
end Go.Proofs.YtakifcobofkheaaGreatDoor

/-
  What JobStep answers: one job for both.
-/
namespace Go.Proofs.YtakifcobofkheaaGreatDoor
open Go.RowKit Go.Deep

theorem step_ans (j : Jb) (fj : j.Fits) (hs : j.size ≤ 1048576) : ∃ r : Jb, SmJb r ∧ ∀ w e w', JPost1 w (stepAns j) e w' → Below w.heap.size w w' ∧ ∃ l, e = .returned (jV r l) ∧ OwnJb w' w.heap.size r l :=
  ⟨stepAns j, stepAns_small fj hs, fun _ _ _ h => h⟩

theorem specJobStep_law (j : Jb) (l : JLoc) (w : World) (hJ : JIn w j l) (fj : j.Fits) (hs : j.size ≤ 1048576) : Calls Tryz.prog 26 #[jV j l] w (JPost1 w (stepAns j)) := specJobStep_any j l w hJ fj hs
theorem implJobStep_law (j : Jb) (l : JLoc) (w : World) (hE : ErrType w) (hJ : JIn w j l) (fj : j.Fits) (hs : j.size ≤ 1048576) : Calls Tryz.prog 27 #[jV j l] w (JPost1 w (stepAns j)) := implJobStep_any j l w hE hJ fj hs
end Go.Proofs.YtakifcobofkheaaGreatDoor

/-
  FnExactJobStep, walked.
-/
namespace Go.Proofs.YtakifcobofkheaaGreatDoor
open Go.RowKit Go.Deep
set_option linter.unusedVariables false
set_option linter.unusedSimpArgs false
set_option linter.unnecessarySimpa false

/-- The boxes of the arguments. -/
structure AFJobStep (w : World) (x0 : Jb) (l0 : JLoc) (W : World) : Prop where
  p0 : Blk W (w.heap.size) (jC x0 l0) 51
  bel : Below w.heap.size w W

section
variable {w : World} {x0 : Jb} {l0 : JLoc} {W W' : World}

theorem AFJobStep.below (h : AFJobStep w x0 l0 W) (hb : Below W.heap.size W W') : AFJobStep w x0 l0 W' := ⟨h.p0.below hb h.p0.lt, h.bel.trans (hb.mono h.bel.size)⟩

theorem AFJobStep.cells (h : AFJobStep w x0 l0 W) : W.cell? ⟨w.heap.size, 0, none⟩ = some (.slice l0.t.a x0.t.n l0.t.c) ∧ W.cell? ⟨w.heap.size, 1, none⟩ = some (.int .i64 x0.t.now) ∧ W.cell? ⟨w.heap.size, 2, none⟩ = some (.int .i64 x0.d.since) ∧ W.cell? ⟨w.heap.size, 3, none⟩ = some (.int .i64 x0.d.date) ∧ W.cell? ⟨w.heap.size, 4, none⟩ = some (.slice l0.d.lA x0.d.ln l0.d.lc) ∧ W.cell? ⟨w.heap.size, 5, none⟩ = some (.slice l0.d.iA x0.d.m l0.d.ic) ∧ W.cell? ⟨w.heap.size, 6, none⟩ = some (.slice l0.e x0.q l0.f) := jC_cells h.p0
end

/-- What is known behind the calls. -/
structure FBJobStep (w w3 : World) (x0 : Jb) (l0 lx0 : JLoc) (r : Jb) (lr lg : JLoc) (V b0 bG : Nat) (W : World) : Prop where
  ds : AFJobStep w x0 l0 W
  base : Below w3.heap.size w3 W
  v : Blk W V (jC r lr) 38
  y0 : Blk W b0 (jC x0 lx0) 38
  g : Blk W bG (jC r lg) 38
  wl : w.heap.size < w3.heap.size
  vl : V < w3.heap.size
  o0 : w3.heap.size ≤ b0
  oG : b0 < bG

section
variable {w w3 : World} {x0 : Jb} {l0 lx0 : JLoc} {r : Jb} {lr lg : JLoc} {V b0 bG : Nat} {W W' : World}
theorem FBJobStep.below (h : FBJobStep w w3 x0 l0 lx0 r lr lg V b0 bG W) (hb : Below W.heap.size W W') : FBJobStep w w3 x0 l0 lx0 r lr lg V b0 bG W' :=
  ⟨h.ds.below hb, h.base.trans (hb.mono h.base.size), h.v.below hb h.v.lt, h.y0.below hb h.y0.lt, h.g.below hb h.g.lt, h.wl, h.vl, h.o0, h.oG⟩

theorem FBJobStep.drew (h : FBJobStep w w3 x0 l0 lx0 r lr lg V b0 bG W) (q : Nat) : FBJobStep w w3 x0 l0 lx0 r lr lg V b0 bG (W.drewN q) := h.below (below_drewN (Below.refl _ _) q)

theorem FBJobStep.fr (h : FBJobStep w w3 x0 l0 lx0 r lr lg V b0 bG W) {B H : Nat} (hb : Fr B H W W') (hB : w3.heap.size ≤ B) (h0 : b0 < B ∨ H ≤ b0) (hG : bG < B ∨ H ≤ bG) : FBJobStep w w3 x0 l0 lx0 r lr lg V b0 bG W' := by
  have hwl := h.wl
  have hvl := h.vl
  have key : ∀ {q : Nat} {cs : Array Value} {t : TypeId}, Blk W q cs t → q < B ∨ H ≤ q → Blk W' q cs t := fun hq e => hq.of_block (by
    rcases e with e | e
    · exact hb.bel.block _ e
    · exact hb.far _ e hq.lt)
  exact ⟨⟨key h.ds.p0 (Or.inl (by omega)), h.ds.bel.trans (hb.bel.mono (by omega))⟩, h.base.trans (hb.bel.mono hB), key h.v (Or.inl (by omega)), key h.y0 h0, key h.g hG, h.wl, h.vl, h.o0, h.oG⟩
end

set_option maxRecDepth 100000 in
set_option maxHeartbeats 32000000 in
theorem lawJobStep (x0 : Jb) (l0 : JLoc) (w : World) (hE : ErrType w) (hI0 : JIn w x0 l0) (hf0 : x0.Fits) :
    Calls Tryz.prog 5 #[jV x0 l0] w fun r w' => r = .returned (.bool true) ∧ Below w.heap.size w w' := by
  unfold jV
  go_enter Tryz.func5, Tryz.ntmps5
  go_wp2_with fail
  refine at_world (F := AFJobStep w x0 l0) ?_ ?_
  · exact ⟨(new1 w _ _).b0, (new1 w _ _).bel⟩
  rintro W hN
  refine (szJb x0 l0 _ W (hI0.below (Nat.le_refl _) hN.bel) hf0 (by omega) (by omega)).mono ?_
  rintro r0 ws0 ⟨hbs0, rr0, rfl, hra0, hrb0⟩
  have hN0 := hN.below hbs0
  clear hbs0 hN
  by_cases hrc0 : rr0 < 0
  · have hrd0 : decide (rr0 < 0) = true := by simp; omega
    have HB : Hid (Below w.heap.size w ws0) := hN0.bel
    clear hN0 hrb0
    go_wp2
    go_ret
    exact ⟨rfl, HB.out⟩
  · have hrd0 : decide (rr0 < 0) = false := by simp; omega
    have hsz0 := hrb0 (by omega)
    have HSZ : Hid (x0.size ≤ 1048576) := by show _ ≤ _; omega
    have HSZ0 : Hid (x0.size ≤ 1048576) := by show _ ≤ _; omega
    have H2 : Hid (AFJobStep w x0 l0 ws0) := hN0
    obtain ⟨r, hsm, hans⟩ := step_ans x0 hf0 HSZ.out
    have HANS : Hid _ := hans
    have HSM : Hid (SmJb r) := hsm
    clear hN0 hrb0 hsz0 hans hsm
    obtain ⟨u0, u1, u2, u3, u4, u5, u6⟩ := H2.out.cells
    go_wp2_with fail
    refine (toJb x0 l0 ws0 (hI0.below (Nat.le_refl _) H2.out.bel) HSZ0.out).mono ?_
    rintro e wq1p ⟨lq0, rfl, hbc, hoc⟩
    unfold jV
    have HQ1p : Hid (AFJobStep w x0 l0 wq1p ∧ Below ws0.heap.size ws0 wq1p ∧ JIn wq1p x0 lq0) := ⟨H2.out.below hbc, hbc, hoc.tIn⟩
    clear hbc hoc u0 u1 u2 u3 u4 u5 u6
    go_wp2_with fail
    refine (specJobStep_law x0 lq0 wq1p HQ1p.out.2.2 hf0 HSZ.out).mono ?_
    intro e wq2p hpost
    obtain ⟨hbc, lr, rfl, ho⟩ := HANS.out _ _ _ hpost
    unfold jV
    have HQ2p : Hid (AFJobStep w x0 l0 wq2p ∧ Below ws0.heap.size ws0 wq2p ∧ OwnJb wq2p wq1p.heap.size r lr) := ⟨HQ1p.out.1.below hbc, HQ1p.out.2.1.trans (hbc.mono HQ1p.out.2.1.size), ho⟩
    clear hbc ho hpost HQ1p
    have hq2lt : w.heap.size < wq2p.heap.size := HQ2p.out.1.p0.lt
    obtain ⟨u0, u1, u2, u3, u4, u5, u6⟩ := HQ2p.out.1.cells
    go_wp2_with fail
    clear u0 u1 u2 u3 u4 u5 u6
    refine at_world (F := fun U => Below ws0.heap.size ws0 U ∧ Blk U wq2p.heap.size (jC r lr) 38 ∧ JIn U r lr ∧ ws0.heap.size ≤ wq2p.heap.size) ?_ ?_
    · have hb1 := (new1 wq2p (jC r lr) 38).bel
      have hv1 := (new1 wq2p (jC r lr) 38).b0
      exact ⟨HQ2p.out.2.1.trans (hb1.mono HQ2p.out.2.1.size), hv1, HQ2p.out.2.2.tIn.below (Nat.le_refl _) hb1, HQ2p.out.2.1.size⟩
    · generalize wq2p.heap.size = V
      clear HQ2p
      intro W3 h3
      obtain ⟨hb3, hv3, hi3, hVge⟩ := h3
      have H3 : Hid (AFJobStep w x0 l0 W3 ∧ Blk W3 V (jC r lr) 38) := ⟨H2.out.below hb3, hv3⟩
      have HI3 : Hid (JIn W3 r lr) := hi3
      have hVl := hv3.lt
      have hwl : w.heap.size < W3.heap.size := H3.out.1.p0.lt
      clear hb3 hv3 hi3 H2 hVge
      obtain ⟨u0, u1, u2, u3, u4, u5, u6⟩ := H3.out.1.cells
      refine (toJb x0 l0 W3 (hI0.below (Nat.le_refl _) H3.out.1.bel) HSZ0.out).mono ?_
      rintro e wc0 ⟨lx0, rfl, hbc, hoc⟩
      unfold jV
      have HC0 : Hid (AFJobStep w x0 l0 wc0 ∧ Below W3.heap.size W3 wc0 ∧ OwnJb wc0 W3.heap.size x0 lx0) := ⟨H3.out.1.below hbc, hbc, hoc⟩
      have HT0 : Hid (TopJb x0 lx0 wc0.heap.size) := hoc.top
      have hlc0 : W3.heap.size ≤ wc0.heap.size := hbc.size
      have hbx0_0 : w.heap.size < wc0.heap.size := by omega
      clear hbc hoc u0 u1 u2 u3 u4 u5 u6
      go_wp2_with fail
      refine at_world (F := New1 wc0 (jC x0 lx0) 38) (new1 wc0 _ _) ?_
      rintro WG ⟨hvd, hbd, hsd⟩
      refine (implJobStep_law x0 lx0 WG (hE.bel (HC0.out.1.bel.trans (hbd.mono HC0.out.1.bel.size))) (HC0.out.2.2.below hbd).tIn hf0 HSZ.out).mono ?_
      intro e wg hpost
      obtain ⟨hbc, lg, rfl, hog⟩ := HANS.out _ _ _ hpost
      unfold jV
      have hbw : Below wc0.heap.size wc0 wg := hbd.trans (hbc.mono (by omega))
      have hb3 : Below W3.heap.size W3 wg := HC0.out.2.1.trans (hbw.mono (by omega))
      have HTG : Hid (TopJb r lg wg.heap.size) := hog.top
      have hlg : wc0.heap.size < wg.heap.size := by have := hbc.size; omega
      have hVg : V < wg.heap.size := by omega
      have hVn : V ≠ wg.heap.size := by omega
      have hseG : wc0.heap.size < WG.heap.size := by omega
      have hseH : WG.heap.size ≤ wg.heap.size := hbc.size
      have HG : Hid (AFJobStep w x0 l0 wg ∧ Below W3.heap.size W3 wg ∧ Blk wg V (jC r lr) 38 ∧ OwnJb wg W3.heap.size x0 lx0 ∧ Blk wg wc0.heap.size (jC x0 lx0) 38 ∧ OwnJb wg WG.heap.size r lg) := ⟨HC0.out.1.below hbw, hb3, H3.out.2.below hb3 hVl, HC0.out.2.2.below hbw, hvd.below hbc (by omega), hog⟩
      clear hvd hbd hsd hbc hog hbw hb3 hpost HC0 
      obtain ⟨z0, z1, z2, z3, z4, z5, z6⟩ := jC_cells HG.out.2.2.1
      go_wp2_with fail
      clear z0 z1 z2 z3 z4 z5 z6
      have HF9 : Hid (∀ W9, W9 = wg.alloc (.cells (jC r lg) 38) → FBJobStep w W3 x0 l0 lx0 r lr lg V wc0.heap.size wg.heap.size W9 ∧ OwnJb W9 W3.heap.size x0 lx0 ∧ OwnJb W9 WG.heap.size r lg) := fun W9 e => by
        obtain ⟨hvG, hb9, hs9⟩ := new1 wg (jC r lg) 38
        rw [← e] at hvG hb9
        obtain ⟨e1, e2, e3, o0, y0, eg⟩ := HG.out
        exact ⟨⟨e1.below hb9, e2.trans (hb9.mono (by omega)), e3.below hb9 hVg, y0.below hb9 y0.lt, hvG, by omega, hVl, by omega, by omega⟩, o0.below hb9, eg.below hb9⟩
      refine at_world (F := fun W9 => FBJobStep w W3 x0 l0 lx0 r lr lg V wc0.heap.size wg.heap.size W9 ∧ OwnJb W9 W3.heap.size x0 lx0 ∧ OwnJb W9 WG.heap.size r lg) (HF9.out _ rfl) ?_
      clear HF9 HG H3
      rintro W9 ⟨hF9, hx0, hg9⟩
      refine (eqJb r r lg lr W9 hg9.tIn (HI3.out.below (Nat.le_refl _) hF9.base) HSM.out.fits HSM.out.fits).mono ?_
      rintro e v0 ⟨hb, rfl⟩
      rw [Jb.same_self]
      have HA0 : Hid (FBJobStep w W3 x0 l0 lx0 r lr lg V wc0.heap.size wg.heap.size v0 ∧ OwnJb v0 W3.heap.size x0 lx0 ∧ OwnJb v0 WG.heap.size r lg) := ⟨hF9.below hb, hx0.below hb, hg9.below hb⟩
      clear hF9 hx0 hg9 hb
      obtain ⟨u0, u1, u2, u3, u4, u5, u6⟩ := HA0.out.1.ds.cells
      obtain ⟨xx0, xx1, xx2, xx3, xx4, xx5, xx6⟩ := jC_cells HA0.out.1.y0
      go_wp2_with fail
      apply wp_cn1 (X := JLoc) (fun _ W => FBJobStep w W3 x0 l0 lx0 r lr lg V wc0.heap.size wg.heap.size W ∧ OwnJb W W3.heap.size x0 lx0 ∧ OwnJb W WG.heap.size r lg)
      · intro key
        have KEY : Hid _ := key
        clear key
        go_region_with (first
          | (go_at_call 24
             refine (toJb x0 l0 (v0.drewN 1) (hI0.below (Nat.le_refl _) (HA0.out.1.drew 1).ds.bel) HSZ0.out).mono ?_
             rintro e wr0 ⟨lw0, rfl, hbr, hor⟩
             unfold jV
             have hFr := (HA0.out.1.drew 1).below hbr
             have hXr := (HA0.out.2.1.below (below_drewN (Below.refl _ _) 1)).below hbr
             obtain ⟨yy0, yy1, yy2, yy3, yy4, yy5, yy6⟩ := jC_cells hFr.y0)
          | (go_at_call 15
             refine (eqJb x0 x0 lx0 lw0 wr0 hXr.tIn hor.tIn hf0 hf0).mono ?_
             rintro e we0 ⟨hbe, rfl⟩
             rw [Jb.same_self]))
        all_goals exact KEY.out lw0 we0 ⟨hFr.below hbe, hXr.below hbe, ((HA0.out.2.2.below (below_drewN (Below.refl _ _) 1)).below hbr).below hbe⟩
      · intro lw0 v1 hF
        have HA1 : Hid (FBJobStep w W3 x0 l0 lx0 r lr lg V wc0.heap.size wg.heap.size v1 ∧ OwnJb v1 W3.heap.size x0 lx0 ∧ OwnJb v1 WG.heap.size r lg) := hF
        clear hF HA0 u0 u1 u2 u3 u4 u5 u6 xx0 xx1 xx2 xx3 xx4 xx5 xx6
        have hka0 := (kJb_le (Jb.mid HSZ0.out) (1)).1
        have hkb0 := kJb_ge x0 (1)
        obtain ⟨xx0, xx1, xx2, xx3, xx4, xx5, xx6⟩ := jC_cells HA1.out.1.y0
        go_wp2_with fail
        refine (markJb x0 lx0 1 W3.heap.size wc0.heap.size v1 HA1.out.2.1 HT0.out (by have := HA1.out.1.base.size; have := HA1.out.1.g.lt; omega) (Jb.mid HSZ0.out) (by omega) (by omega)).mono ?_
        rintro e vm0 ⟨rfl, hfr, _⟩
        have HM0 : Hid (FBJobStep w W3 x0 l0 lx0 r lr lg V wc0.heap.size wg.heap.size vm0 ∧ OwnJb vm0 WG.heap.size r lg) := ⟨HA1.out.1.fr hfr (by omega) (Or.inr (Nat.le_refl _)) (Or.inr (by omega)), HA1.out.2.2.far hfr (by omega)⟩
        clear hfr HA1 xx0 xx1 xx2 xx3 xx4 xx5 xx6
        have hkp0 : 1 ≤ kJb x0 1 := by omega
        generalize kJb x0 1 = kk0 at *
        have hkn : decide (((kk0 : Nat) : Int) < 0) = false := by simp
        obtain ⟨g0, g1, g2, g3, g4, g5, g6⟩ := jC_cells HM0.out.1.g
        obtain ⟨z0, z1, z2, z3, z4, z5, z6⟩ := jC_cells HM0.out.1.v
        go_wp2_with fail
        refine (eqJb r r lg lr vm0 HM0.out.2.tIn (HI3.out.below (Nat.le_refl _) HM0.out.1.base) HSM.out.fits HSM.out.fits).mono ?_
        rintro e va ⟨hb, rfl⟩
        rw [Jb.same_self]
        have HVA : Hid (FBJobStep w W3 x0 l0 lx0 r lr lg V wc0.heap.size wg.heap.size va ∧ OwnJb va WG.heap.size r lg) := ⟨HM0.out.1.below hb, HM0.out.2.below hb⟩
        clear hb HM0 g0 g1 g2 g3 g4 g5 g6 z0 z1 z2 z3 z4 z5 z6
        obtain ⟨g0, g1, g2, g3, g4, g5, g6⟩ := jC_cells HVA.out.1.g
        go_wp2_with fail
        refine (markJb r lg 1 WG.heap.size wg.heap.size va HVA.out.2 HTG.out (by have := HVA.out.1.g.lt; omega) HSM.out.size (by omega) (by omega)).mono ?_
        rintro e vb ⟨rfl, hfr, hmk⟩
        have HVB : Hid (FBJobStep w W3 x0 l0 lx0 r lr lg V wc0.heap.size wg.heap.size vb ∧ MarkedJb vb WG.heap.size r lg 1) := ⟨HVA.out.1.fr hfr (by omega) (Or.inl (by omega)) (Or.inr (Nat.le_refl _)), hmk⟩
        clear hfr hmk HVA g0 g1 g2 g3 g4 g5 g6
        obtain ⟨g0, g1, g2, g3, g4, g5, g6⟩ := jC_cells HVB.out.1.g
        go_wp2_with fail
        refine (heldJb r lg 1 WG.heap.size vb HVB.out.2 HSM.out.size (by omega) (by omega) HSM.out.nds).mono ?_
        rintro e vc ⟨rfl, hb⟩
        have HVC : Hid (FBJobStep w W3 x0 l0 lx0 r lr lg V wc0.heap.size wg.heap.size vc ∧ MarkedJb vc WG.heap.size r lg 1) := ⟨HVB.out.1.below hb, HVB.out.2.below hb⟩
        have HVD : Hid (AFJobStep w x0 l0 vc) := HVC.out.1.ds
        have hkm : decide (((kJb r 1 : Nat) : Int) < 0) = false := by simp
        have hkk : (((kJb r 1 : Nat) : Int) != ((kJb r 1 : Nat) : Int)) = false := by simp
        clear hb HVB g0 g1 g2 g3 g4 g5 g6
        obtain ⟨u0, u1, u2, u3, u4, u5, u6⟩ := HVD.out.cells
        go_wp2_with fail
        refine (toJb x0 l0 vc (hI0.below (Nat.le_refl _) HVD.out.bel) HSZ0.out).mono ?_
        rintro e wq1r ⟨lq0, rfl, hbc, hoc⟩
        unfold jV
        have HQ1r : Hid (AFJobStep w x0 l0 wq1r ∧ Below vc.heap.size vc wq1r ∧ JIn wq1r x0 lq0) := ⟨HVD.out.below hbc, hbc, hoc.tIn⟩
        clear hbc hoc u0 u1 u2 u3 u4 u5 u6
        go_wp2_with fail
        refine (implJobStep_law x0 lq0 wq1r (hE.bel HQ1r.out.1.bel) HQ1r.out.2.2 hf0 HSZ.out).mono ?_
        intro e wq2r hpost
        obtain ⟨hbc, lh, rfl, ho⟩ := HANS.out _ _ _ hpost
        unfold jV
        have HQ2r : Hid (AFJobStep w x0 l0 wq2r ∧ Below vc.heap.size vc wq2r ∧ OwnJb wq2r wq1r.heap.size r lh) := ⟨HQ1r.out.1.below hbc, HQ1r.out.2.1.trans (hbc.mono HQ1r.out.2.1.size), ho⟩
        clear hbc ho hpost HQ1r
        have hq2lt : V < wq2r.heap.size := (HVC.out.1.below HQ2r.out.2.1).v.lt
        obtain ⟨z0, z1, z2, z3, z4, z5, z6⟩ := jC_cells (HVC.out.1.below HQ2r.out.2.1).v
        go_wp2_with fail
        clear z0 z1 z2 z3 z4 z5 z6
        refine at_world (F := fun U => Below vc.heap.size vc U ∧ Blk U wq2r.heap.size (jC r lh) 38 ∧ JIn U r lh ∧ vc.heap.size ≤ wq2r.heap.size) ?_ ?_
        · have hb1 := (new1 wq2r (jC r lh) 38).bel
          have hv1 := (new1 wq2r (jC r lh) 38).b0
          exact ⟨HQ2r.out.2.1.trans (hb1.mono HQ2r.out.2.1.size), hv1, HQ2r.out.2.2.tIn.below (Nat.le_refl _) hb1, HQ2r.out.2.1.size⟩
        generalize wq2r.heap.size = V3
        clear HQ2r
        · intro vd hd
          obtain ⟨hbd, hvd, hid, hVge⟩ := hd
          have hFd := HVC.out.1.below hbd
          obtain ⟨g0, g1, g2, g3, g4, g5, g6⟩ := jC_cells hvd
          obtain ⟨z0, z1, z2, z3, z4, z5, z6⟩ := jC_cells hFd.v
          have HVE : Hid (FBJobStep w W3 x0 l0 lx0 r lr lg V wc0.heap.size wg.heap.size vd ∧ MarkedJb vd WG.heap.size r lg 1 ∧ JIn vd r lh) := ⟨hFd, HVC.out.2.below hbd, hid⟩
          clear hbd hvd hid hFd HVC HVD hVge
          refine (eqJb r r lh lr vd HVE.out.2.2 (HI3.out.below (Nat.le_refl _) HVE.out.1.base) HSM.out.fits HSM.out.fits).mono ?_
          rintro e vf ⟨hb, rfl⟩
          rw [Jb.same_self]
          have HVF : Hid (FBJobStep w W3 x0 l0 lx0 r lr lg V wc0.heap.size wg.heap.size vf ∧ MarkedJb vf WG.heap.size r lg 1) := ⟨HVE.out.1.below hb, HVE.out.2.1.below hb⟩
          clear hb HVE g0 g1 g2 g3 g4 g5 g6 z0 z1 z2 z3 z4 z5 z6
          obtain ⟨g0, g1, g2, g3, g4, g5, g6⟩ := jC_cells HVF.out.1.g
          go_wp2_with fail
          refine (heldJb r lg 1 WG.heap.size vf HVF.out.2 HSM.out.size (by omega) (by omega) HSM.out.nds).mono ?_
          rintro e vh ⟨rfl, hb⟩
          have HBB : Hid (Below w.heap.size w vh) := (HVF.out.1.below hb).ds.bel
          clear hb HVF g0 g1 g2 g3 g4 g5 g6
          go_wp2
          go_ret
          exact ⟨rfl, HBB.out⟩

end Go.Proofs.YtakifcobofkheaaGreatDoor

/-
  FnExactJobStep as it is stated: the row, where the listed variable of the library reads as it is laid.
-/
namespace Go.Proofs.YtakifcobofkheaaGreatDoor.fnExactJobStep
open Go.ChangeShapes Go.WideShapes Go.ChangeAt Go.RowKit Go.Joins
open Go.ChangeMaps (open_string)
set_option linter.unusedVariables false

abbrev laids : List (String × DataW Unit) := [("errors.errorType", Rows.laid_errors_errorType)]

theorem door_met (os : Os) (args : Array Value) : laidMetH Tryz.prog laids ((World.doorLaid Tryz.prog 16 os).forCall (fun _ _ => 0) ⟨#[], args, []⟩).memory :=
  laidMetH_of_parts3 (fuel := 8) (laidMet_of_run' 8 (by kernel_rfl) (by kernel_rfl)) (by kernel_rfl) (by kernel_rfl)

theorem et : Tryz.prog.globalNamed "errors.errorType" = some 0 := by kernel_rfl
theorem rt : (Tryz.prog.cutTypes.find? (·.1 == "internal/reflectlite.rtype")).map (·.2) = some 162 := by kernel_rfl
theorem oneRow : ((List.range 208).filter fun t => Tryz.prog.rowNamed t [101, 114, 114, 111, 114]) = [98] := by kernel_rfl
theorem typesSize : Tryz.prog.types.size = 208 := by kernel_rfl

/-- What the condition gives a walk: the variable's one cell. -/
theorem err_of_laid {W : World} (h : laidMetH Tryz.prog laids W) : ErrType W := by
  have h' : laidMet Tryz.prog [] W ∧ handlesMet Tryz.prog laids W := h
  obtain ⟨name, u, ty, e1, e2, e3, e4, e5⟩ := h'.2 _ (List.mem_singleton.2 rfl)
  have en : name = [101, 114, 114, 111, 114] := (Option.some.inj e1).symm
  subst en
  obtain rfl := Option.some.inj (rt.symm.trans e2)
  have hm : ty ∈ (List.range 208).filter fun t => Tryz.prog.rowNamed t [101, 114, 114, 111, 114] := List.mem_filter.2 ⟨List.mem_range.2 (by rw [← typesSize]; exact e3), e4⟩
  rw [oneRow] at hm
  obtain rfl := List.mem_singleton.1 hm
  have hh : typeHandle Tryz.prog 98 = .pointer (some ⟨1, 98, none⟩) := by kernel_rfl
  rw [hh] at e5
  have := World.var?_cell et e5 0
  unfold ErrType
  simpa using this

set_option maxRecDepth 100000 in
theorem lifted (os : Os) (started : os.Started) (H : Type) (enc : TypeId × Value → H) :
    ReturnsInHanded {} Tryz.checked os 5 .any (fun w args => (Rows.fnExactJobStepSpec.pre enc Tryz.prog Tryz.f5 [] false w args ∧ laidMetH Tryz.prog laids w) ∧ sizedMet enc Tryz.prog Tryz.f5 (OpenSpec.ofChange Rows.fnExactJobStepSpec) false w args)
      (Rows.fnExactJobStepSpec.post enc Tryz.prog Tryz.f5 false true false false) := by
  refine returnsInHanded_of_change_and (C := Tryz.checked) (X := fun w _ => laidMetH Tryz.prog laids w) (fun _ _ _ hh h => h.of_heap hh) own started (by kernel_rfl) Tryz.func5
    (ChangeSpec.witness_shaped (enc := enc) (C := Tryz.checked) (os := os) (X := fun w _ => laidMetH Tryz.prog laids w) false (World.doorLaid Tryz.prog 16 os) #[.agg #[.slice none 0 0, .int .i64 0, .int .i64 0, .int .i64 0, .slice none 0 0, .slice none 0 0, .slice none 0 0]] 8 rfl (World.shaped_of_RefB (by kernel_rfl) (by kernel_rfl)) (by kernel_rfl) (by kernel_rfl) (by kernel_rfl) (door_met os _)) ?_
  intro W base args ds gs before hval0 hW _ _ hL _
  have hval : ∀ (j : Nat) t v, Tryz.f5.params[j]? = some t → args[j]? = some v → Value.okWide Tryz.prog W .any base t v := hval0
  have hW' := hW
  obtain ⟨p, q, hA0, hV, rfl, hfz, hnd⟩ := hW
  have hA : DataW.TrodAll enc Tryz.prog W 0 (fun _ => true) true Tryz.f5.params.toList args.toList ds p := hA0
  rw [Tryz.params5] at hA hval
  obtain ⟨v0, vs0, d0, ds0, p0, q0, hargs, rfl, rfl, h0, r0⟩ := trodAll_cons hA
  obtain ⟨rfl, rfl, rfl⟩ := trodAll_nil r0
  obtain rfl : args = #[v0] := by cases args; simp_all
  obtain ⟨rfl, rfl⟩ := trodVars_none hV
  have k0 := h0
  have lt0 : ∀ x ∈ p0, x.block < W.heap.size := by obtain ⟨m, hm⟩ := k0; exact DataW.trod_lt m _ _ _ hm
  obtain ⟨e0, l0, rfl, hI0, hf0⟩ := openJob (hval 0 51 v0 rfl rfl) h0
  clear hA0 hval0
  refine (lawJobStep e0 l0 W (err_of_laid hL) hI0 hf0).mono fun e W' ⟨he, bel⟩ => ?_
  subst he
  exact ⟨_, rfl, _, _, _, [], _, [], hW', trodAll_mk1 (shut_bool Tryz.underlying4 _), (trodAll_cons_mk (Below.trod laidOut (by kernel_rfl) (of_decide_eq_true (by kernel_rfl)) k0 bel lt0) trodAll_mk0), rfl, bel.frame _, fun h => by cases h⟩

theorem over : Rows.fnExactJobStepRow.holds Tryz.pinned (OpenSpec.ofChange Rows.fnExactJobStepSpec) :=
  OpenClaim.holds_of_wide 5 Tryz.f5 rfl rfl rfl rfl rfl rfl rfl ⟨rfl, rfl, rfl, rfl, rfl⟩ rfl rfl rfl rfl rfl (by kernel_rfl) Tryz.func5 (by kernel_rfl)
    (of_decide_eq_true (by kernel_rfl)) (by unfold Func.isWrapper; first | (rw [if_pos (by decide +kernel)]; kernel_rfl) | (rw [if_neg (by decide +kernel)]; exact ⟨rfl, rfl⟩))
    (fun os started H enc _ => lifted os started H enc)
end Go.Proofs.YtakifcobofkheaaGreatDoor.fnExactJobStep

/-
  FnExactJobStep as it is stated: the card.
-/
namespace Go.Proofs.YtakifcobofkheaaGreatDoor
open Go

theorem fnExactJobStep_holds : Rows.FnExactJobStepCardSaid :=
  Claim7.holds_tied_plain_at .later [] [.handle] true (true, "adbe438fc0a2d7aab89f8cc3728b247fa8877029e5457ace6e42cbf23df0c7b3") true
    fnExactJobStep.over (fun _ h => by cases h) (by kernel_rfl) (fun _ h => by cases h) fnExactJobStep_row_tie rfl ⟨rfl, rfl⟩ (by kernel_rfl) rfl
    (fun f fn hf hfn => by
      obtain rfl : f = 5 := Option.some.inj ((show Tryz.prog.funcNamed "loop.example/cellarage/laws.FnExactJobStep" = some 5 by kernel_rfl).symm.trans hf) |>.symm
      obtain rfl : fn = Tryz.f5 := (Option.some.inj (Tryz.func5.symm.trans hfn)).symm
      exact ⟨by kernel_rfl, fun j t ht => by
        rw [Tryz.params5] at ht
        have hm : t ∈ [51] := by simpa using Array.mem_of_getElem? ht
        have hall : ([51].all fun u => !Tryz.prog.wantsStandIn u) = true := by kernel_rfl
        exact (show Tryz.prog.wantsStandIn t = false by simpa using List.all_eq_true.1 hall t hm)⟩)
    (by kernel_rfl)
end Go.Proofs.YtakifcobofkheaaGreatDoor
