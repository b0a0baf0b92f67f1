/-
  Texts that the proof needs, laid one behind the other.
-/
import Derived.Test.YteoanlkmkmajjaaExDumpOfB1
import Derived.WalkSmall
import Derived.Laws.IdiomStrings
import Derived.Deep.RegionWith
import Derived.Maps.AppendAt
import Derived.RangeFuncNested
import Derived.RangeFuncBound
import Derived.RangeFuncCalls
import Derived.RangeFuncLeaves
import Derived.Shelf.Abstract
import Derived.Shelf.RegionOpen
import Derived.WalkKit
import Derived.OwnWalkIn
import Derived.TacticsInMore
import Derived.LoopNIn
import Derived.LoopIn
import Derived.OrdersIn
import Derived.Shelf.LaysM
import Derived.Shelf.Strconv.Clone
import Derived.Test.YteoanlkmkmajjaaProg
import Derived.Laws.Shifts
import Derived.Laws.AppendOwn
import Derived.OwnWalk

/-
  What DumpOf of the specification answers.
-/
namespace Go.Proofs.Yteoanlkmkmajjaa
open Go.RowKit Go.Deep
set_option linter.unusedVariables false
set_option linter.unusedSimpArgs false

/-- A place that was turned since. -/
def turnedB (D : Nat → Nd) (since : Int) (i : Nat) : Bool := (D i).kind != 0 && decide (since < (D i).turn)
/-- Those of the first k. -/
def selTo (D : Nat → Nd) (since : Int) (k : Nat) : List Nat := (List.range k).filter (turnedB D since)

theorem selTo_yes {D : Nat → Nd} {since : Int} {k : Nat} (h : turnedB D since k = true) : selTo D since (k + 1) = selTo D since k ++ [k] := by simp [selTo, List.range_succ, List.filter_append, h]
theorem selTo_no {D : Nat → Nd} {since : Int} {k : Nat} (h : turnedB D since k = false) : selTo D since (k + 1) = selTo D since k := by simp [selTo, List.range_succ, List.filter_append, h]
theorem selTo_len (D : Nat → Nd) (since : Int) (k : Nat) : (selTo D since k).length ≤ k := by
  have := List.length_filter_le (turnedB D since) (List.range k)
  simpa [selTo] using this

/-- m places are the ones. -/
structure Sel (D : Nat → Nd) (since : Int) (k m : Nat) (O : Nat → Int) (E : Nat → Nd) : Prop where
  len : m = (selTo D since k).length
  each : ∀ i, i < m → O i = ((selTo D since k).getD i 0 : Nat) ∧ E i = D ((selTo D since k).getD i 0)

theorem Sel.no {D : Nat → Nd} {since : Int} {k m : Nat} {O : Nat → Int} {E : Nat → Nd} (h : Sel D since k m O E) (hk : turnedB D since k = false) : Sel D since (k + 1) m O E := by
  refine ⟨by rw [selTo_no hk]; exact h.len, by rw [selTo_no hk]; exact h.each⟩

theorem Sel.yes {D : Nat → Nd} {since : Int} {k m : Nat} {O : Nat → Int} {E : Nat → Nd} (h : Sel D since k m O E) (hk : turnedB D since k = true) : Sel D since (k + 1) (m + 1) (fun i => if i = m then (k : Int) else O i) (fun i => if i = m then D k else E i) := by
  have hl := h.len
  refine ⟨by rw [selTo_yes hk]; simp [hl], fun i hi => ?_⟩
  rw [selTo_yes hk]
  by_cases e : i = m
  · subst e
    simp [hl]
  · have hi' : i < m := by omega
    have := h.each i hi'
    simp only [if_neg e]
    rw [this.1, this.2]
    simp [List.getElem?_append_left (show i < (selTo D since k).length by omega)]

/-- What is known within DumpOf. -/
structure DOf (w : World) (a : Option Addr) (n c : Nat) (now since : Int) (D : Nat → Nd) (V k ks : Nat) (la : Option Addr) (lc : Nat) (m : Nat) (ia : Option Addr) (ic : Nat) (O : Nat → Int) (E : Nat → Nd) (M : Nat → Loc) (W : World) : Prop where
  p : Blk W w.heap.size #[.slice a n c, .int .i64 now] 34
  r : Blk W (w.heap.size + 1) #[.int .i64 0, .int .i64 0, .slice none 0 0, .slice none 0 0] 29
  v : Blk W V #[.int .i64 since, .int .i64 now, .slice la k lc, .slice ia m ic] 29
  bel : Below w.heap.size w W
  far : w.heap.size + 2 ≤ V
  od : OD W (V + 1) k (fun i => (D i).kind != 0) m O E M (.slice la k lc) (.slice ia m ic)
  sel : Sel D since ks m O E

theorem DOf.below {w : World} {a : Option Addr} {n c : Nat} {now since : Int} {D : Nat → Nd} {V k ks : Nat} {la : Option Addr} {lc m : Nat} {ia : Option Addr} {ic : Nat} {O : Nat → Int} {E : Nat → Nd} {M : Nat → Loc} {W W' : World} (h : DOf w a n c now since D V k ks la lc m ia ic O E M W) (hb : Below W.heap.size W W') : DOf w a n c now since D V k ks la lc m ia ic O E M W' :=
  ⟨h.p.below hb h.p.lt, h.r.below hb h.r.lt, h.v.below hb h.v.lt, h.bel.trans (hb.mono (by have := h.p.lt; omega)), h.far, h.od.below hb, h.sel⟩

theorem src_item (W : World) (o : Int) (d : Nd) (l : Loc) : Src (W.alloc (.cells #[.int .i64 o, .int .i64 d.kind, .string d.text, .slice l.nA d.nn l.nc, .slice l.kA d.kn l.kc, .int .i64 d.turn] 56)) 6 (.slice (some ⟨W.heap.size, 0, none⟩) 1 1) 1 (it6 o d l) :=
  ⟨rfl, it6_one o d l, Or.inr ⟨⟨W.heap.size, 0, none⟩, 1, rfl, fun j u hu => by
    rw [addr_add, Nat.zero_add]
    have := (Blk.new W #[.int .i64 o, .int .i64 d.kind, .string d.text, .slice l.nA d.nn l.nc, .slice l.kA d.kn l.kc, .int .i64 d.turn] 56).cell j
    rw [this]
    simpa [it6] using hu⟩⟩

theorem blk_grown {w w' : World} {b : Nat} {cs : Array Value} {t : TypeId} {r : Option Nat} (h : Blk w b cs t) (hg : w.grownBy w' r) (hr : r ≠ some b) : Blk w' b cs t := h.of_block (hg.block b h.lt (fun e => hr e.symm))

/-- One truth value more, stored. -/
theorem DOf.live {w : World} {a : Option Addr} {n c : Nat} {now since : Int} {D : Nat → Nd} {V k ks : Nat} {la : Option Addr} {lc m : Nat} {ia : Option Addr} {ic : Nat} {O : Nat → Int} {E : Nat → Nd} {M : Nat → Loc} {W W' : World} (h : DOf w a n c now since D V k ks la lc m ia ic O E M W) {b c' : Nat} (hg : W.grownBy W' (Value.slice la k lc).ownBlock)
    (hown : W'.ownsRow (V + 1) 4 1 (.slice (some ⟨b, 0, none⟩) (k + 1) c') (k + 1) (boolv k (fun i => (D i).kind != 0) ++ [.bool ((D k).kind != 0)])) (hb : (Value.slice la k lc).ownBlock = some b ∨ W.heap.size ≤ b) :
    DOf w a n c now since D V (k + 1) ks (some ⟨b, 0, none⟩) c' m ia ic O E M (W'.setCell ⟨V, 2, none⟩ (.slice (some ⟨b, 0, none⟩) (k + 1) c')) := by
  have hfar := h.far
  have hne : ∀ j, j ≤ V → (Value.slice la k lc).ownBlock ≠ some j := fun j hj e => by
    have := (owns_block h.od.ownL e).1
    omega
  have hVl := h.v.lt
  have hbel : Below w.heap.size w W' := h.bel.grown hg (by have := h.bel.size; omega) (fun j e => by have := (owns_block h.od.ownL e).1; omega)
  refine ⟨(blk_grown h.p hg (hne _ (by omega))).off _ (by omega), (blk_grown h.r hg (hne _ (by omega))).off _ (by omega), (blk_grown h.v hg (hne _ (Nat.le_refl _))).set 2 _, bel_put hbel _ (by omega), hfar, ?_, h.sel⟩
  exact (h.od.live hg (by rw [boolv_snoc]; exact hown) (fun b' e => by simp [Value.ownBlock] at e; rw [← e]; exact hb)).off _ (by omega)

/-- One place that was turned more, stored. -/
theorem DOf.item {w : World} {a : Option Addr} {n c : Nat} {now since : Int} {D : Nat → Nd} {V k ks : Nat} {la : Option Addr} {lc m : Nat} {ia : Option Addr} {ic : Nat} {O : Nat → Int} {E : Nat → Nd} {M : Nat → Loc} {W W1 W' : World} (h : DOf w a n c now since D V k ks la lc m ia ic O E M W) {l : Loc} (hN : NewNn W (D ks) l W1) {b c' : Nat} (hg : W1.grownBy W' (Value.slice ia m ic).ownBlock)
    (hown : W'.ownsRow (V + 1) 56 6 (.slice (some ⟨b, 0, none⟩) (m + 1) c') (m + 1) (rowsI O E M m ++ it6 (ks : Int) (D ks) l)) (hb : (Value.slice ia m ic).ownBlock = some b ∨ W1.heap.size ≤ b) (ht : turnedB D since ks = true) :
    DOf w a n c now since D V k (ks + 1) la lc (m + 1) (some ⟨b, 0, none⟩) c' (fun i => if i = m then (ks : Int) else O i) (fun i => if i = m then D ks else E i) (fun i => if i = m then l else M i) (W'.setCell ⟨V, 3, none⟩ (.slice (some ⟨b, 0, none⟩) (m + 1) c')) := by
  have h1 := h.below hN.bel
  have hfar := h.far
  have hne : ∀ j, j ≤ V → (Value.slice ia m ic).ownBlock ≠ some j := fun j hj e => by
    have := (owns_block h.od.ownI e).1
    omega
  have hVl := h.v.lt
  have hbel : Below w.heap.size w W' := h1.bel.grown hg (by have := h1.bel.size; omega) (fun j e => by have := (owns_block h.od.ownI e).1; omega)
  refine ⟨(blk_grown h1.p hg (hne _ (by omega))).off _ (by omega), (blk_grown h1.r hg (hne _ (by omega))).off _ (by omega), (blk_grown h1.v hg (hne _ (Nat.le_refl _))).set 3 _, bel_put hbel _ (by omega), hfar, ?_, h.sel.yes ht⟩
  exact (h.od.item hN (by omega) hg hown (fun b' e => by simp [Value.ownBlock] at e; rw [← e]; exact hb)).off _ (by omega)

/-- What it answers. -/
def DumpOfPost (w : World) (n : Nat) (D : Nat → Nd) (now since : Int) (e : Ending) (w' : World) : Prop :=
  Below w.heap.size w w' ∧ ((¬ (TreeGood n D now ∧ 0 ≤ since ∧ since ≤ now) ∧ e = .returned (.tuple #[.agg #[.int .i64 0, .int .i64 0, .slice none 0 0, .slice none 0 0], .bool false])) ∨
    (TreeGood n D now ∧ 0 ≤ since ∧ since ≤ now ∧ ∃ la lc m ia ic O E M, e = .returned (.tuple #[.agg #[.int .i64 since, .int .i64 now, .slice la n lc, .slice ia m ic], .bool true]) ∧ OD w' w.heap.size n (fun i => (D i).kind != 0) m O E M (.slice la n lc) (.slice ia m ic) ∧ Sel D since n m O E))

/-- A list of operations is walked at a world of which no more is said than this. -/
theorem wpList_at {P : Program} {ops : Array Oper} {l : List Oper} {a : Act} {Q : Exit → Act → World → Prop} {F : World → Prop} {w : World} (h : F w) (g : ∀ W, F W → wpList P ops Q l a W) : wpList P ops Q l a w := g w h

set_option maxHeartbeats 4000000 in
theorem specDumpOf_any (a : Option Addr) (n c : Nat) (now since : Int) (D : Nat → Nd) (L : Nat → Loc) (w : World) (hS : IsNds w a n D L) (hf : FitAll n D) (hn : n ≤ maxLen) (hsz : sizeTo D n ≤ 1048576) :
    Calls Try.prog 6 #[trV a n c now, .int .i64 since] w (DumpOfPost w n D now since) := by
  have hn' := hn
  unfold maxLen at hn'
  unfold trV
  obtain ⟨q0, hq, hq0, hq1, hq2⟩ := info_parts infoBool
  obtain ⟨y0, hy, hy0, hy1, hy2⟩ := info_parts infoItem
  go_enter Try.func6, Try.ntmps6
  go_wp2_with fail
  refine at_world (F := New2 w _ _ _ _) (new2 w _ _ _ _) ?_
  rintro W ⟨hp, hr, hb, hs⟩
  refine (specTreeOk_any a n c now D L W (hS.below (Nat.le_refl _) hb) hf hn hsz).mono ?_
  rintro e w1 ⟨hb1, ok, rfl, hok⟩
  have hp1 := hp.below hb1 (by omega)
  have hr1 := hr.below hb1 (by omega)
  have hB1 := hb.trans (hb1.mono (by omega))
  have hs1 : w.heap.size + 2 ≤ w1.heap.size := by have := hb1.size; omega
  have p0 : w1.cell? ⟨w.heap.size, 0, none⟩ = some (.slice a n c) := hp1.cell 0
  have p1 : w1.cell? ⟨w.heap.size, 1, none⟩ = some (.int .i64 now) := hp1.cell 1
  have r0 : w1.cell? ⟨w.heap.size + 1, 0, none⟩ = some (.int .i64 0) := hr1.cell 0
  have r1 : w1.cell? ⟨w.heap.size + 1, 1, none⟩ = some (.int .i64 0) := hr1.cell 1
  have r2 : w1.cell? ⟨w.heap.size + 1, 2, none⟩ = some (.slice none 0 0) := hr1.cell 2
  have r3 : w1.cell? ⟨w.heap.size + 1, 3, none⟩ = some (.slice none 0 0) := hr1.cell 3
  have g0 := hr1.frozen 0
  have g1 := hr1.frozen 1
  have g2 := hr1.frozen 2
  have g3 := hr1.frozen 3
  have H1 : Hid (Blk w1 w.heap.size #[.slice a n c, .int .i64 now] 34 ∧ Blk w1 (w.heap.size + 1) #[.int .i64 0, .int .i64 0, .slice none 0 0, .slice none 0 0] 29 ∧ Below w.heap.size w w1) := ⟨hp1, hr1, hB1⟩
  clear hp hr hb hs hb1 hp1 hr1 hB1
  have HNO : Hid (∀ W, (∃ h : True, W = ((((w1.setCell ⟨w.heap.size + 1, 0, none⟩ (.int .i64 0)).setCell ⟨w.heap.size + 1, 1, none⟩ (.int .i64 0)).setCell ⟨w.heap.size + 1, 2, none⟩ (.slice none 0 0)).setCell ⟨w.heap.size + 1, 3, none⟩ (.slice none 0 0))) → Blk W (w.heap.size + 1) #[.int .i64 0, .int .i64 0, .slice none 0 0, .slice none 0 0] 29 ∧ Below w.heap.size w W) := fun W ⟨_, e⟩ => by
    rw [e]
    exact ⟨(((H1.out.2.1.set 0 _).set 1 _).set 2 _).set 3 _, bel_put (bel_put (bel_put (bel_put H1.out.2.2 _ (by omega)) _ (by omega)) _ (by omega)) _ (by omega)⟩
  by_cases hgo : ok = true ∧ 0 ≤ since ∧ since ≤ now
  · obtain ⟨rfl, hs0, hs1'⟩ := hgo
    have HG : Hid (TreeGood n D now) := hok.1 rfl
    have hb1 : decide (since < 0) = false := by simp; omega
    have hb2 : decide (now < since) = false := by simp; omega
    have HV : Hid (DOf w a n c now since D w1.heap.size 0 0 none 0 0 none 0 (fun _ => 0) D L (w1.alloc (.cells #[.int .i64 since, .int .i64 now, .slice none 0 0, .slice none 0 0] 29))) := by
      have hbe := (Below.refl w1.heap.size w1).alloc (Nat.le_refl _) (.cells #[.int .i64 since, .int .i64 now, .slice none 0 0, .slice none 0 0] 29)
      exact ⟨H1.out.1.below hbe H1.out.1.lt, H1.out.2.1.below hbe H1.out.2.1.lt, Blk.new w1 _ _, H1.out.2.2.trans (hbe.mono (by omega)), hs1, OD.start _ _ _ _ _ _, ⟨by simp [selTo], fun i hi => absurd hi (Nat.not_lt_zero _)⟩⟩
    clear hok HNO r0 r1 r2 r3 g0 g1 g2 g3
    go_wp2_with fail
    obtain ⟨V, hV⟩ : ∃ V, V = w1.heap.size := ⟨_, rfl⟩
    rw [← hV] at HV ⊢
    clear hV
    have hn10 : n ≤ 10 := HG.out.few
    go_loopw [7] (fun i wr => ∃ (k : Nat) (la : Option Addr) (lc m : Nat) (ia : Option Addr) (ic : Nat) (O : Nat → Int) (E : Nat → Nd) (M : Nat → Loc), k ≤ n ∧ i = .int .i64 k ∧ DOf w a n c now since D V k k la lc m ia ic O E M wr) (fun i _ => n - (intOf i).toNat)
    case atStart => exact ⟨0, none, 0, 0, none, 0, _, _, _, Nat.zero_le _, rfl, HV.out⟩
    case round =>
      obtain ⟨k, la, lc, m, ia, ic, O, E, M, hk, rfl, hin⟩ := hrel
      have t0 : wr.cell? ⟨w.heap.size, 0, none⟩ = some (.slice a n c) := hin.p.cell 0
      have t1 : wr.cell? ⟨w.heap.size, 1, none⟩ = some (.int .i64 now) := hin.p.cell 1
      have HIN : Hid (DOf w a n c now since D V k k la lc m ia ic O E M wr) := hin
      have hwl := hin.p.lt
      have hVl := hin.v.lt
      have hVf := hin.far
      clear hin
      by_cases hlt : k < n
      · obtain ⟨b0, off0, hA0, hlt0, hc0⟩ := (hS.below (Nat.le_refl _) HIN.out.bel).at hlt
        obtain ⟨c0, c1, c2, c3, c4, hNd⟩ := hc0 k hlt
        have HNd : Hid (NdIn wr (D k) (L k)) := hNd
        have hlti : (k : Int) < (n : Int) := by omega
        rw [hA0] at t0
        have HA0 : Hid (a = some ⟨b0, off0, none⟩) := hA0
        clear hc0 hNd hA0
        have v2 : wr.cell? ⟨V, 2, none⟩ = some (.slice la k lc) := HIN.out.v.cell 2
        have hVne : V ≠ wr.heap.size := by omega
        have hVne1 : V ≠ wr.heap.size + 1 := by omega
        have hVlt1 : V < wr.heap.size + 1 := by omega
        obtain ⟨WN, hWN⟩ : ∃ WN, WN = wr.alloc (.cells #[.int .i64 (D k).kind, .string (D k).text, .slice (L k).nA (D k).nn (L k).nc, .slice (L k).kA (D k).kn (L k).kc, .int .i64 (D k).turn] 53) := ⟨_, rfl⟩
        have hbN : Below wr.heap.size wr WN := by rw [hWN]; exact (Below.refl _ _).alloc (Nat.le_refl _) _
        have hszN : WN.heap.size = wr.heap.size + 1 := by rw [hWN]; simp
        have hNb : Blk WN wr.heap.size #[.int .i64 (D k).kind, .string (D k).text, .slice (L k).nA (D k).nn (L k).nc, .slice (L k).kA (D k).kn (L k).kc, .int .i64 (D k).turn] 53 := by rw [hWN]; exact Blk.new wr _ _
        obtain ⟨WL, hWL⟩ : ∃ WL, WL = WN.alloc (.cells #[.bool ((D k).kind != 0)] 4) := ⟨_, rfl⟩
        have hbL : Below WN.heap.size WN WL := by rw [hWL]; exact (Below.refl _ _).alloc (Nat.le_refl _) _
        have hszL : WL.heap.size = wr.heap.size + 1 + 1 := by rw [hWL]; simp; omega
        have hLb : Blk WL (wr.heap.size + 1) #[.bool ((D k).kind != 0)] 4 := by have := Blk.new WN #[.bool ((D k).kind != 0)] 4; rw [hszN] at this; rw [hWL]; exact this
        have HL : Hid (DOf w a n c now since D V k k la lc m ia ic O E M WL ∧ Blk WL wr.heap.size #[.int .i64 (D k).kind, .string (D k).text, .slice (L k).nA (D k).nn (L k).nc, .slice (L k).kA (D k).kn (L k).kc, .int .i64 (D k).turn] 53 ∧ NdIn WL (D k) (L k) ∧ WL.heap.size = wr.heap.size + 1 + 1) := ⟨(HIN.out.below hbN).below hbL, hNb.below hbL (by omega), (HNd.out.below (Nat.le_refl _) hbN).below (Nat.le_refl _) hbL, hszL⟩
        have HSrc : Hid (Src WL 1 (.slice (some ⟨wr.heap.size + 1, 0, none⟩) 1 1) 1 [.bool ((D k).kind != 0)]) := ⟨rfl, by intro u hu; simp at hu; subst hu; rfl, Or.inr ⟨⟨wr.heap.size + 1, 0, none⟩, 1, rfl, fun j u hu => by
          have hj : j = 0 := by
            rcases Nat.lt_or_ge j 1 with e | e
            · omega
            · rw [List.getElem?_eq_none (by simpa using e)] at hu; cases hu
          subst hj
          simp at hu
          rw [addr_add, ← hu]
          exact hLb.cell 0⟩⟩
        clear hbN hbL hNb hLb
        go_wp2_with (at_builtin; go_must (refine wpList_at (F := fun W => W = WL) (by rw [hWL, hWN]) ?_))
        intro Wx hWx
        subst hWx
        clear hWL hWN hszN hszL c0 c1 c2 c3 c4 v2 t0 t1
        have hlcap : k ≤ 10 := by omega
        refine wpList_append_src (by rfl) _ _ 26 rfl (V + 1) 4 q0 (.bool false) 1 1 Try.underlying26 hq hq0 hq1 hq2 rfl (by decide) (.slice la k lc) k _ (by rfl) HL.out.1.od.ownL _ 1 _ (by rfl) HSrc.out (by unfold maxLen; omega) (by omega) (by have := HL.out.2.2.2; omega) ?_
        intro vL W3 hown hgrow hnil hat
        rcases hown.2 with ⟨_, h0⟩ | ⟨gL, cL, cur, hvL, _, _, _⟩
        · omega
        subst hvL
        have hbL : (Value.slice la k lc).ownBlock = some gL ∨ Wx.heap.size ≤ gL := by
          rcases hat with e | e
          · exact Or.inl e.symm
          · right
            have e' : gL = Wx.heap.size := by simpa [Value.ownBlock] using e
            omega
        have hneN : (Value.slice la k lc).ownBlock ≠ some wr.heap.size := fun e => by have := (owns_block HIN.out.od.ownL e).2; omega
        have hneV : (Value.slice la k lc).ownBlock ≠ some V := fun e => by have := (owns_block HIN.out.od.ownL e).1; omega
        have hN3 := blk_grown HL.out.2.1 hgrow hneN
        have hV3 := blk_grown HL.out.1.v hgrow hneV
        have n0 : W3.cell? ⟨wr.heap.size, 0, none⟩ = some (.int .i64 (D k).kind) := hN3.cell 0
        have n1 : W3.cell? ⟨wr.heap.size, 1, none⟩ = some (.string (D k).text) := hN3.cell 1
        have n2 : W3.cell? ⟨wr.heap.size, 2, none⟩ = some (.slice (L k).nA (D k).nn (L k).nc) := hN3.cell 2
        have n3 : W3.cell? ⟨wr.heap.size, 3, none⟩ = some (.slice (L k).kA (D k).kn (L k).kc) := hN3.cell 3
        have n4 : W3.cell? ⟨wr.heap.size, 4, none⟩ = some (.int .i64 (D k).turn) := hN3.cell 4
        have v2 : W3.cell? ⟨V, 2, none⟩ = some (.slice la k lc) := hV3.cell 2
        have v3 : W3.cell? ⟨V, 3, none⟩ = some (.slice ia m ic) := hV3.cell 3
        have f2 := hV3.frozen 2
        have f3 := hV3.frozen 3
        have hNV : wr.heap.size ≠ V := by omega
        have H4 : Hid (DOf w a n c now since D V (k + 1) k (some ⟨gL, 0, none⟩) cL m ia ic O E M (W3.setCell ⟨V, 2, none⟩ (.slice (some ⟨gL, 0, none⟩) (k + 1) cL)) ∧ Blk (W3.setCell ⟨V, 2, none⟩ (.slice (some ⟨gL, 0, none⟩) (k + 1) cL)) wr.heap.size #[.int .i64 (D k).kind, .string (D k).text, .slice (L k).nA (D k).nn (L k).nc, .slice (L k).kA (D k).kn (L k).kc, .int .i64 (D k).turn] 53) := ⟨HL.out.1.live hgrow hown hbL, hN3.off _ (by omega)⟩
        clear hown hgrow hnil hat hN3 hV3 HL HSrc hbL hneN hneV HNd
        by_cases ht : (D k).kind = 0
        · have hb5 : ((D k).kind != 0) = false := by simp [ht]
          have HT : Hid (turnedB D since k = false) := by show _ = _; unfold turnedB; rw [hb5]; rfl
          clear ht
          go_wp2_with fail
          go_roundw
          case rel =>
            obtain ⟨h1, h2⟩ := H4.out
            exact ⟨k + 1, some ⟨gL, 0, none⟩, cL, m, ia, ic, O, E, M, by omega, by go_num, ⟨h1.p, h1.r, h1.v, h1.bel, h1.far, h1.od, h1.sel.no HT.out⟩⟩
          case measure => simp [intOf]; omega
        · have hb5 : ((D k).kind != 0) = true := by simp [ht]
          by_cases hs5 : since < (D k).turn
          · have hb6 : decide (since < (D k).turn) = true := by simp; omega
            have HT : Hid (turnedB D since k = true) := by show _ = _; unfold turnedB; rw [hb5, hb6]; rfl
            clear ht hs5
            go_wp2_with fail
            revert H4
            generalize W3.setCell ⟨V, 2, none⟩ (.slice (some ⟨gL, 0, none⟩) (k + 1) cL) = W4
            intro H4
            clear n0 n1 n2 n3 n4 v2 v3 f2 f3
            have v3 : W4.cell? ⟨V, 3, none⟩ = some (.slice ia m ic) := H4.out.1.v.cell 3
            have n0 : W4.cell? ⟨wr.heap.size, 0, none⟩ = some (.int .i64 (D k).kind) := H4.out.2.cell 0
            have n1 : W4.cell? ⟨wr.heap.size, 1, none⟩ = some (.string (D k).text) := H4.out.2.cell 1
            have n2 : W4.cell? ⟨wr.heap.size, 2, none⟩ = some (.slice (L k).nA (D k).nn (L k).nc) := H4.out.2.cell 2
            have n3 : W4.cell? ⟨wr.heap.size, 3, none⟩ = some (.slice (L k).kA (D k).kn (L k).kc) := H4.out.2.cell 3
            have n4 : W4.cell? ⟨wr.heap.size, 4, none⟩ = some (.int .i64 (D k).turn) := H4.out.2.cell 4
            have hN0 := H4.out.2.lt
            have hV0 := H4.out.1.v.lt
            have HSt : Hid (∀ W, Below W4.heap.size W4 W → W.cell? ⟨V, 3, none⟩ = some (.slice ia m ic) ∧ W.cell? ⟨wr.heap.size, 0, none⟩ = some (.int .i64 (D k).kind) ∧ W.cell? ⟨wr.heap.size, 1, none⟩ = some (.string (D k).text) ∧ W.cell? ⟨wr.heap.size, 2, none⟩ = some (.slice (L k).nA (D k).nn (L k).nc) ∧ W.cell? ⟨wr.heap.size, 3, none⟩ = some (.slice (L k).kA (D k).kn (L k).kc) ∧ W.cell? ⟨wr.heap.size, 4, none⟩ = some (.int .i64 (D k).turn)) := fun W hW => ⟨(hW.cell hV0).trans v3, (hW.cell hN0).trans n0, (hW.cell hN0).trans n1, (hW.cell hN0).trans n2, (hW.cell hN0).trans n3, (hW.cell hN0).trans n4⟩
            have hd4 : Below W4.heap.size W4 W4.drew := below_drewN (Below.refl _ _) 1
            have hsm := small_of_size hsz k hlt
            have HNd : Hid (∀ W, Below W4.heap.size W4 W → NdIn W (D k) (L k)) := fun W hW => by
              obtain ⟨b9, o9, h9, _, hc9⟩ := hS.at hlt
              have hb9 := H4.out.1.bel.trans (hW.mono H4.out.1.bel.size)
              exact (hc9 k hlt).2.2.2.2.2.below (Nat.le_refl _) hb9
            refine wp_region_noPanic ?_
            refine wp_region_peel2 (fun W' => W'.cell? ⟨V, 3, none⟩ = some (.slice ia m ic) ∧ W'.cell? ⟨wr.heap.size, 0, none⟩ = some (.int .i64 (D k).kind) ∧ W'.cell? ⟨wr.heap.size, 1, none⟩ = some (.string (D k).text) ∧ W'.cell? ⟨wr.heap.size, 2, none⟩ = some (.slice (L k).nA (D k).nn (L k).nc) ∧ W'.cell? ⟨wr.heap.size, 3, none⟩ = some (.slice (L k).kA (D k).kn (L k).kc) ∧ W'.cell? ⟨wr.heap.size, 4, none⟩ = some (.int .i64 (D k).turn)) _ _ (by kernel_rfl) rfl rfl (by kernel_rfl) (by kernel_rfl) ?_ (fun hHeld => ?_)
            · exact HSt.out _ hd4
            simp only [List.pop_toArray, List.dropLast, List.size_toArray, List.length_cons, List.length_nil, Nat.reduceAdd, Nat.reduceSub, List.getElem_toArray, List.getElem_cons_succ, List.getElem_cons_zero]
            refine peel_take (i := 0) (oi := ?oi0) (v := ?v0) (fun _ _ _ _ _ h => h) hHeld ?hi0 (by kernel_rfl) (by kernel_rfl) (by kernel_rfl) ?hw0 ?hy0 ?rest0
            case hi0 =>
              simp only [List.getElem?_toArray, List.getElem?_cons_zero]
              rfl
            case hw0 => rfl
            case hy0 =>
              intro w hSw
              obtain ⟨s0, s1, s2, s3, s4, s5⟩ := hSw
              go_simp
              try with_reducible rfl
            try simp only [Act.put, List.setIfInBounds_toArray, List.set_cons_zero, List.set_cons_succ]
            refine peel_take (i := 1) (oi := ?oi1) (v := ?v1) (fun _ _ _ _ _ h => h) hHeld ?hi1 (by kernel_rfl) (by kernel_rfl) (by kernel_rfl) ?hw1 ?hy1 ?rest1
            case hi1 =>
              simp only [List.getElem?_toArray, List.getElem?_cons_succ, List.getElem?_cons_zero]
              rfl
            case hw1 => rfl
            case hy1 =>
              intro w hSw
              obtain ⟨s0, s1, s2, s3, s4, s5⟩ := hSw
              go_simp
              try with_reducible rfl
            try simp only [Act.put, List.setIfInBounds_toArray, List.set_cons_zero, List.set_cons_succ]
            refine peel_take (i := 2) (oi := ?oi2) (v := ?v2) (fun _ _ _ _ _ h => h) hHeld ?hi2 (by kernel_rfl) (by kernel_rfl) (by kernel_rfl) ?hw2 ?hy2 ?rest2
            case hi2 =>
              simp only [List.getElem?_toArray, List.getElem?_cons_succ, List.getElem?_cons_zero]
              rfl
            case hw2 => rfl
            case hy2 =>
              intro w hSw
              obtain ⟨s0, s1, s2, s3, s4, s5⟩ := hSw
              go_simp
              try with_reducible rfl
            try simp only [Act.put, List.setIfInBounds_toArray, List.set_cons_zero, List.set_cons_succ]
            refine peel_take (i := 3) (oi := ?oi3) (v := ?v3) (fun _ _ _ _ _ h => h) hHeld ?hi3 (by kernel_rfl) (by kernel_rfl) (by kernel_rfl) ?hw3 ?hy3 ?rest3
            case hi3 =>
              simp only [List.getElem?_toArray, List.getElem?_cons_succ, List.getElem?_cons_zero]
              rfl
            case hw3 => rfl
            case hy3 =>
              intro w hSw
              obtain ⟨s0, s1, s2, s3, s4, s5⟩ := hSw
              go_simp
              try with_reducible rfl
            try simp only [Act.put, List.setIfInBounds_toArray, List.set_cons_zero, List.set_cons_succ]
            refine wpAnyH_ready (rs := [4]) (by kernel_rfl) (by simp) ?_
            refine AllReadyH.cons (o := ?o4) ?ho4 (fun K hK => ?st4) AllReadyH.nil
            case ho4 =>
              simp only [List.getElem?_toArray, List.getElem?_cons_succ, List.getElem?_cons_zero]
              rfl
            go_simp
            refine (l2Copy_any (D k) (L k) W4.drew (HNd.out _ hd4) hsm.1 hsm.2).mono ?_
            rintro e W5 ⟨l5, rfl, hN5⟩
            unfold ndV
            have hb5' : Below W4.heap.size W4 W5 := hd4.trans hN5.bel
            refine hK.out _ _ (HSt.out W5 hb5') (fun hHeld => ?re4)
            clear hK K
            try simp only [Act.put, List.setIfInBounds_toArray, List.set_cons_zero, List.set_cons_succ]
            refine wpAnyH_ready (rs := [5]) (by kernel_rfl) (by simp) ?_
            refine AllReadyH.cons (o := ?o5) ?ho5 (fun K hK => ?st5) AllReadyH.nil
            case ho5 =>
              simp only [List.getElem?_toArray, List.getElem?_cons_succ, List.getElem?_cons_zero]
              rfl
            go_simp
            refine hK.out _ _ (HSt.out W5 hb5') (fun hHeld => ?re5)
            clear hK K
            try simp only [Act.put, List.setIfInBounds_toArray, List.set_cons_zero, List.set_cons_succ]
            refine wpAnyH_ready (rs := [6]) (by kernel_rfl) (by simp) ?_
            refine AllReadyH.cons (o := ?o6) ?ho6 (fun K hK => ?st6) AllReadyH.nil
            case ho6 =>
              simp only [List.getElem?_toArray, List.getElem?_cons_succ, List.getElem?_cons_zero]
              rfl
            go_simp
            have hb6' : Below W4.heap.size W4 (W5.alloc (.cells #[.int .i64 (k : Int), .int .i64 (D k).kind, .string (D k).text, .slice l5.nA (D k).nn l5.nc, .slice l5.kA (D k).kn l5.kc, .int .i64 (D k).turn] 56)) := hb5'.alloc hb5'.size _
            refine hK.out _ _ (HSt.out _ hb6') (fun hHeld => ?re6)
            clear hK K
            try simp only [Act.put, List.setIfInBounds_toArray, List.set_cons_zero, List.set_cons_succ]
            refine wpAnyH_ready (rs := [7]) (by kernel_rfl) (by simp) ?_
            refine AllReadyH.cons (o := ?o7) ?ho7 (fun K hK => ?st7) AllReadyH.nil
            case ho7 =>
              simp only [List.getElem?_toArray, List.getElem?_cons_succ, List.getElem?_cons_zero]
              rfl
            have hD6 := H4.out.1.below hb6'
            have hm10 : m ≤ 10 := by have h1 := H4.out.1.sel.len; have h2 := selTo_len D since k; omega
            have hN6 := hN5.new.alloc (.cells #[.int .i64 (k : Int), .int .i64 (D k).kind, .string (D k).text, .slice l5.nA (D k).nn l5.nc, .slice l5.kA (D k).kn l5.kc, .int .i64 (D k).turn] 56)
            have hneV : (Value.slice ia m ic).ownBlock ≠ some V := fun e => by have := (owns_block H4.out.1.od.ownI e).1; omega
            have hneN : (Value.slice ia m ic).ownBlock ≠ some wr.heap.size := fun e => by have := (owns_block HIN.out.od.ownI e).2; omega
            refine step_of (by rfl) (wp_append_src (.tmp 57) (.tmp 62) 27 rfl (V + 1) 56 y0 (.agg #[.int .i64 0, .int .i64 0, .string ByteArray.empty, .slice none 0 0, .slice none 0 0, .int .i64 0]) 6 88 Try.underlying27 hy hy0 hy1 hy2 rfl (by decide) (.slice ia m ic) m _ (by rfl) hD6.od.ownI _ 1 _ (by rfl) (src_item W5 (k : Int) (D k) l5) (by unfold maxLen; omega) (by omega) (by have := hD6.v.lt; omega) ?_)
            intro vI W7 hown hgrow hnil hat
            rcases hown.2 with ⟨_, h0⟩ | ⟨gI, cI, cur, hvI, _, _, _⟩
            · omega
            subst hvI
            have hbI : (Value.slice ia m ic).ownBlock = some gI ∨ (W5.alloc (.cells #[.int .i64 (k : Int), .int .i64 (D k).kind, .string (D k).text, .slice l5.nA (D k).nn l5.nc, .slice l5.kA (D k).kn l5.kc, .int .i64 (D k).turn] 56)).heap.size ≤ gI := by
              rcases hat with e | e
              · exact Or.inl e.symm
              · right
                have e' : gI = (W5.alloc (.cells #[.int .i64 (k : Int), .int .i64 (D k).kind, .string (D k).text, .slice l5.nA (D k).nn l5.nc, .slice l5.kA (D k).kn l5.kc, .int .i64 (D k).turn] 56)).heap.size := by simpa [Value.ownBlock] using e
                omega
            have hV7 := blk_grown hD6.v hgrow hneV
            have hN7 := blk_grown (H4.out.2.below hb6' hN0) hgrow hneN
            have H8 : Hid (DOf w a n c now since D V (k + 1) (k + 1) (some ⟨gL, 0, none⟩) cL (m + 1) (some ⟨gI, 0, none⟩) cI (fun i => if i = m then (k : Int) else O i) (fun i => if i = m then D k else E i) (fun i => if i = m then l5 else M i) (W7.setCell ⟨V, 3, none⟩ (.slice (some ⟨gI, 0, none⟩) (m + 1) cI))) := (H4.out.1.below hd4).item hN6 hgrow hown hbI HT.out
            have v37 : W7.cell? ⟨V, 3, none⟩ = some (.slice ia m ic) := hV7.cell 3
            have f37 := hV7.frozen 3
            refine hK.out _ _ ⟨hV7.cell 3, hN7.cell 0, hN7.cell 1, hN7.cell 2, hN7.cell 3, hN7.cell 4⟩ (fun hHeld => ?re7)
            clear hK K
            try simp only [Act.put, List.setIfInBounds_toArray, List.set_cons_zero, List.set_cons_succ]
            refine wpAnyH_done (by kernel_rfl) ?_ _
            show Oper.wp _ _ _ _ _ _
            clear hown hgrow hnil hat hbI hV7 hN7 hN6 hD6 hN5 HSt HNd hneV hneN hHeld hd4 hb5' hb6' hsm
            go_simp
            show Oper.wp _ _ _ _ _ _
            go_simp
            refine NoPanic.normal ?_
            go_wp2_with fail
            go_roundw
            case rel => exact ⟨k + 1, some ⟨gL, 0, none⟩, cL, m + 1, some ⟨gI, 0, none⟩, cI, _, _, _, by omega, by go_num, H8.out⟩
            case measure => simp [intOf]; omega
          · have hb6 : decide (since < (D k).turn) = false := by simp; omega
            have HT : Hid (turnedB D since k = false) := by show _ = _; unfold turnedB; rw [hb6]; simp
            clear ht hs5
            go_wp2_with fail
            go_roundw
            case rel =>
              obtain ⟨h1, h2⟩ := H4.out
              exact ⟨k + 1, some ⟨gL, 0, none⟩, cL, m, ia, ic, O, E, M, by omega, by go_num, ⟨h1.p, h1.r, h1.v, h1.bel, h1.far, h1.od, h1.sel.no HT.out⟩⟩
            case measure => simp [intOf]; omega
      · obtain rfl : k = n := by omega
        have v0 : wr.cell? ⟨V, 0, none⟩ = some (.int .i64 since) := HIN.out.v.cell 0
        have v1 : wr.cell? ⟨V, 1, none⟩ = some (.int .i64 now) := HIN.out.v.cell 1
        have v2 : wr.cell? ⟨V, 2, none⟩ = some (.slice la k lc) := HIN.out.v.cell 2
        have v3 : wr.cell? ⟨V, 3, none⟩ = some (.slice ia m ic) := HIN.out.v.cell 3
        have r0 : wr.cell? ⟨w.heap.size + 1, 0, none⟩ = some (.int .i64 0) := HIN.out.r.cell 0
        have r1 : wr.cell? ⟨w.heap.size + 1, 1, none⟩ = some (.int .i64 0) := HIN.out.r.cell 1
        have r2 : wr.cell? ⟨w.heap.size + 1, 2, none⟩ = some (.slice none 0 0) := HIN.out.r.cell 2
        have r3 : wr.cell? ⟨w.heap.size + 1, 3, none⟩ = some (.slice none 0 0) := HIN.out.r.cell 3
        have g0 := HIN.out.r.frozen 0
        have g1 := HIN.out.r.frozen 1
        have g2 := HIN.out.r.frozen 2
        have g3 := HIN.out.r.frozen 3
        go_wp2_with fail
        refine end_world (F := fun W => Blk W (w.heap.size + 1) #[.int .i64 since, .int .i64 now, .slice la k lc, .slice ia m ic] 29 ∧ Below w.heap.size w W ∧ OD W (V + 1) k (fun i => (D i).kind != 0) m O E M (.slice la k lc) (.slice ia m ic)) ⟨(((HIN.out.r.set 0 _).set 1 _).set 2 _).set 3 _, bel_put (bel_put (bel_put (bel_put HIN.out.bel _ (by omega)) _ (by omega)) _ (by omega)) _ (by omega), (((HIN.out.od.off _ (by omega)).off _ (by omega)).off _ (by omega)).off _ (by omega)⟩ ?_
        clear r0 r1 r2 r3 g0 g1 g2 g3 v0 v1 v2 v3 t0 t1
        rintro W ⟨hr, hB, hod⟩
        have r0 : W.cell? ⟨w.heap.size + 1, 0, none⟩ = some (.int .i64 since) := hr.cell 0
        have r1 : W.cell? ⟨w.heap.size + 1, 1, none⟩ = some (.int .i64 now) := hr.cell 1
        have r2 : W.cell? ⟨w.heap.size + 1, 2, none⟩ = some (.slice la k lc) := hr.cell 2
        have r3 : W.cell? ⟨w.heap.size + 1, 3, none⟩ = some (.slice ia m ic) := hr.cell 3
        exact bodyPost_ret (v := .tuple #[.agg #[.int .i64 since, .int .i64 now, .slice la k lc, .slice ia m ic], .bool true]) (by simp [results, Try.results6, go_sem, r0, r1, r2, r3]) rfl ⟨hB, Or.inr ⟨HG.out, hs0, hs1', la, lc, m, ia, ic, O, E, M, rfl, hod.lower (by omega), HIN.out.sel⟩⟩
  · have HN : Hid (¬ (TreeGood n D now ∧ 0 ≤ since ∧ since ≤ now)) := fun h => hgo ⟨hok.2 h.1, h.2⟩
    have hcase : ok = false ∨ (ok = true ∧ since < 0) ∨ (ok = true ∧ 0 ≤ since ∧ now < since) := by
      rcases Bool.eq_false_or_eq_true ok with h | h
      · right
        by_cases h1 : since < 0
        · exact Or.inl ⟨h, h1⟩
        · exact Or.inr ⟨h, by omega, Decidable.byContradiction fun h2 => hgo ⟨h, by omega, by omega⟩⟩
      · exact Or.inl h
    clear hgo hok
    rcases hcase with rfl | ⟨rfl, h1⟩ | ⟨rfl, h1, h2⟩
    · go_wp2_with fail
      refine end_world (F := fun W => Blk W (w.heap.size + 1) #[.int .i64 0, .int .i64 0, .slice none 0 0, .slice none 0 0] 29 ∧ Below w.heap.size w W) (HNO.out _ ⟨trivial, rfl⟩) ?_
      clear HNO H1 r0 r1 r2 r3 g0 g1 g2 g3 p0 p1
      rintro W ⟨hr, hB⟩
      have r0 : W.cell? ⟨w.heap.size + 1, 0, none⟩ = some (.int .i64 0) := hr.cell 0
      have r1 : W.cell? ⟨w.heap.size + 1, 1, none⟩ = some (.int .i64 0) := hr.cell 1
      have r2 : W.cell? ⟨w.heap.size + 1, 2, none⟩ = some (.slice none 0 0) := hr.cell 2
      have r3 : W.cell? ⟨w.heap.size + 1, 3, none⟩ = some (.slice none 0 0) := hr.cell 3
      exact bodyPost_ret (v := .tuple #[.agg #[.int .i64 0, .int .i64 0, .slice none 0 0, .slice none 0 0], .bool false]) (by simp [results, Try.results6, go_sem, r0, r1, r2, r3]) rfl ⟨hB, Or.inl ⟨HN.out, rfl⟩⟩
    · have hb1 : decide (since < 0) = true := by simp; omega
      go_wp2_with fail
      refine end_world (F := fun W => Blk W (w.heap.size + 1) #[.int .i64 0, .int .i64 0, .slice none 0 0, .slice none 0 0] 29 ∧ Below w.heap.size w W) (HNO.out _ ⟨trivial, rfl⟩) ?_
      clear HNO H1 r0 r1 r2 r3 g0 g1 g2 g3 p0 p1
      rintro W ⟨hr, hB⟩
      have r0 : W.cell? ⟨w.heap.size + 1, 0, none⟩ = some (.int .i64 0) := hr.cell 0
      have r1 : W.cell? ⟨w.heap.size + 1, 1, none⟩ = some (.int .i64 0) := hr.cell 1
      have r2 : W.cell? ⟨w.heap.size + 1, 2, none⟩ = some (.slice none 0 0) := hr.cell 2
      have r3 : W.cell? ⟨w.heap.size + 1, 3, none⟩ = some (.slice none 0 0) := hr.cell 3
      exact bodyPost_ret (v := .tuple #[.agg #[.int .i64 0, .int .i64 0, .slice none 0 0, .slice none 0 0], .bool false]) (by simp [results, Try.results6, go_sem, r0, r1, r2, r3]) rfl ⟨hB, Or.inl ⟨HN.out, rfl⟩⟩
    · have hb1 : decide (since < 0) = false := by simp; omega
      have hb2 : decide (now < since) = true := by simp; omega
      go_wp2_with fail
      refine end_world (F := fun W => Blk W (w.heap.size + 1) #[.int .i64 0, .int .i64 0, .slice none 0 0, .slice none 0 0] 29 ∧ Below w.heap.size w W) (HNO.out _ ⟨trivial, rfl⟩) ?_
      clear HNO H1 r0 r1 r2 r3 g0 g1 g2 g3 p0 p1
      rintro W ⟨hr, hB⟩
      have r0 : W.cell? ⟨w.heap.size + 1, 0, none⟩ = some (.int .i64 0) := hr.cell 0
      have r1 : W.cell? ⟨w.heap.size + 1, 1, none⟩ = some (.int .i64 0) := hr.cell 1
      have r2 : W.cell? ⟨w.heap.size + 1, 2, none⟩ = some (.slice none 0 0) := hr.cell 2
      have r3 : W.cell? ⟨w.heap.size + 1, 3, none⟩ = some (.slice none 0 0) := hr.cell 3
      exact bodyPost_ret (v := .tuple #[.agg #[.int .i64 0, .int .i64 0, .slice none 0 0, .slice none 0 0], .bool false]) (by simp [results, Try.results6, go_sem, r0, r1, r2, r3]) rfl ⟨hB, Or.inl ⟨HN.out, rfl⟩⟩
end Go.Proofs.Yteoanlkmkmajjaa

/-
  What markText, markStringS and heldStringS do: each place of a list gets a text of its own, told by its number; and that it still holds it is asked.
-/
namespace Go.Proofs.Yteoanlkmkmajjaa
open Go.RowKit
set_option linter.unusedVariables false

/-- The last digit of a number, as a letter. -/
def dig (m : Nat) : UInt8 := UInt8.ofNat (48 + m % 10)
theorem dig_nat (m : Nat) : ((dig m).toNat : Int) = 48 + (m : Int) % 10 := by
  unfold dig
  rw [UInt8.toNat_ofNat']
  omega
/-- The digits of a number, at most f of them. -/
def digF : Nat → Nat → List UInt8 | 0, _ => [] | f + 1, k => if k = 0 then [] else digF f (k / 10) ++ [dig k]
/-- The text by which a place is marked. -/
def markOf (k : Nat) : List UInt8 := if k = 0 then [109, 48] else 109 :: digF 20 k

theorem digF_zero (f : Nat) : digF f 0 = [] := by cases f <;> simp [digF]
theorem digF_step (f k : Nat) (h : k ≠ 0) : digF (f + 1) k = digF f (k / 10) ++ [dig k] := by simp [digF, h]

theorem conv_digit (wr : World) (m : Nat) : (convert 108 9 (.slice (some ⟨wr.heap.size, 0, none⟩) 1 1)).run Try.prog (wr.alloc (.cells #[.int .u8 (48 + (m : Int) % 10)] 5)) = .ok (.string ⟨#[dig m]⟩) (wr.alloc (.cells #[.int .u8 (48 + (m : Int) % 10)] 5)) := by
  have e := dig_nat m
  refine run_convert_bytes_back _ 108 9 5 ⟨wr.heap.size, 0, none⟩ 1 [dig m] Try.underlying108 Try.underlying5 Try.underlying9 ?_
  intro j hj
  have : j = 0 := by simpa using hj
  subst this
  show World.cell? _ ((⟨wr.heap.size, 0, none⟩ : Addr).add 0) = some (.int .u8 ((dig m).toNat : Int))
  rw [e]
  simp [Addr.add]

theorem ret_nat {a b : Nat} (h : a = b) : Ending.returned (.int .i64 (a : Int)) = .returned (.int .i64 (b : Int)) := by rw [h]
theorem mret_str {a b : ByteArray} (h : a = b) : Ending.returned (.string a) = .returned (.string b) := by rw [h]

set_option maxRecDepth 100000 in
set_option maxHeartbeats 400000 in
theorem markText_any (k : Nat) (w : World) (h1 : 1 ≤ k) (h2 : k ≤ 1000000000) :
    Calls Try.prog 58 #[.int .i64 k] w fun e w' => e = .returned (.string ⟨(markOf k).toArray⟩) ∧ Below w.heap.size w w' := by
  have hle : decide ((k : Int) ≤ 0) = false := by simp; omega
  go_enter Try.func58, Try.ntmps58
  go_wp2
  go_loopw [0, 3] (fun kk o wr => ∃ (f m : Nat) (out : List UInt8), kk = .int .i64 m ∧ o = .string ⟨out.toArray⟩ ∧ m < 10 ^ f ∧ f ≤ 20 ∧ m ≤ 1000000000 ∧ digF f m ++ out = digF 20 k ∧ out.length + f = 20 ∧ Below w.heap.size w wr) (fun kk _ _ => (intOf kk).toNat)
  case atStart => exact ⟨20, k, [], rfl, rfl, by omega, Nat.le_refl _, h2, by simp, rfl, Below.refl _ _⟩
  case round =>
    obtain ⟨f, m, out, rfl, rfl, hm, hf, hm9, hd, hlen, hB⟩ := hrel
    have HD : Hid (digF f m ++ out = digF 20 k) := hd
    have HB : Hid (Below w.heap.size w wr) := hB
    clear hd hB
    by_cases h0 : m = 0
    · subst h0
      go_wp2
      go_ret
      refine ⟨mret_str ?_, HB.out⟩
      have hd := HD.out
      rw [digF_zero, List.nil_append] at hd
      unfold markOf
      rw [if_neg (by omega), ← hd]
      exact ByteArray.mk_append_mk [109] out
    · have hp : (0 : Int) < (m : Int) := by omega
      have hcv := conv_digit wr m
      have hol : out.length ≤ 20 := by omega
      obtain ⟨f', rfl⟩ : ∃ f', f = f' + 1 := ⟨f - 1, by cases f <;> simp at hm ⊢; omega⟩
      have HD2 : Hid (digF f' (m / 10) ++ (dig m :: out) = digF 20 k) := by
        show _ = _
        rw [← HD.out, digF_step f' m h0]; simp
      go_wp2
      go_roundw
      case rel => exact ⟨f', m / 10, dig m :: out, by go_num, congrArg Value.string (ByteArray.mk_append_mk [dig m] out), by rw [Nat.pow_succ] at hm; omega, by omega, by omega, HD2.out, by simp; omega, HB.out.alloc HB.out.size _⟩
      case measure => simp [intOf]; omega

/-- A list of texts in a row of one's own, not frozen. -/
structure Row (w : World) (g n : Nat) (S : Nat → ByteArray) : Prop where
  lt : g < w.heap.size
  cell : ∀ i, i < n → w.cell? ⟨g, 0 + i, none⟩ = some (.string (S i))
  free : ∀ i, i < n → w.frozen? ⟨g, 0 + i, none⟩ = false

theorem Row.below {w w' : World} {g n : Nat} {S : Nat → ByteArray} (h : Row w g n S) (hb : Below w.heap.size w w') : Row w' g n S :=
  ⟨Nat.lt_of_lt_of_le h.lt hb.size, fun i hi => (hb.cell (p := ⟨g, 0 + i, none⟩) h.lt).trans (h.cell i hi), fun i hi => (hb.frozen (p := ⟨g, 0 + i, none⟩) h.lt).trans (h.free i hi)⟩

/-- A store into the row. -/
theorem Row.set {w : World} {g n : Nat} {S : Nat → ByteArray} (h : Row w g n S) (k : Nat) (s : ByteArray) : Row (w.setCell ⟨g, 0 + k, none⟩ (.string s)) g n (fun i => if i = k then s else S i) := by
  refine ⟨by simp [World.setCell]; exact h.lt, fun i hi => ?_, fun i hi => ?_⟩
  · by_cases e : i = k
    · subst e
      rw [if_pos rfl]
      exact World.cell?_setCell_same' _ _ _ (by rw [h.cell i hi]; rfl)
    · rw [if_neg e, World.cell?_setCell_other (w := w) (a := ⟨g, 0 + k, none⟩) (b := ⟨g, 0 + i, none⟩) (v := .string s) (by intro h'; injection h' with h1 h2; omega)]; exact h.cell i hi
  · rw [World.frozen?_setCell]
    exact h.free i hi

/-- The texts by which n places are marked, from k on. -/
def marks (k : Nat) : Nat → ByteArray := fun i => ⟨(markOf (k + i)).toArray⟩

theorem mark_step (S : Nat → ByteArray) (k i m : Nat) : Value.string (if i = m then (⟨(markOf (k + m)).toArray⟩ : ByteArray) else if i < m then marks k i else S i) = Value.string (if i < m + 1 then marks k i else S i) := by
  by_cases h : i = m
  · subst h; simp [marks]
  · by_cases h2 : i < m
    · simp [h, h2, show i < m + 1 by omega]
    · simp [h, h2, show ¬ i < m + 1 by omega]

set_option maxHeartbeats 400000 in
theorem markStringS_any (g n c k B : Nat) (S : Nat → ByteArray) (w : World) (hR : Row w g n S) (hB : B ≤ g) (hn : n ≤ 1000000) (hk : 1 ≤ k) (hk2 : k ≤ 100000000) :
    Calls Try.prog 59 #[.slice (some ⟨g, 0, none⟩) n c, .int .i64 k] w fun e w' => e = .returned (.int .i64 ((k + n : Nat) : Int)) ∧ Below B w w' ∧ Row w' g n (marks k) := by
  go_enter Try.func59, Try.ntmps59
  go_wp2
  go_loopw [1, 5] (fun kk i wr => ∃ m : Nat, m ≤ n ∧ i = .int .i64 m ∧ kk = .int .i64 ((k + m : Nat) : Int) ∧ Below B w wr ∧ Row wr g n (fun j => if j < m then marks k j else S j)) (fun _ i _ => n - (intOf i).toNat)
  case atStart => exact ⟨0, Nat.zero_le _, rfl, rfl, Below.refl _ _, by simpa using hR⟩
  case round =>
    obtain ⟨m, hm, rfl, rfl, hb, hrow⟩ := hrel
    have HB : Hid (Below B w wr) := hb
    by_cases hlt : m < n
    · have hlti : (m : Int) < (n : Int) := by omega
      have HR : Hid _ := hrow
      clear hb hrow
      go_wp2_with fail
      refine (markText_any (k + m) _ (by omega) (by omega)).mono ?_
      rintro e w1 ⟨rfl, hb1⟩
      have hrow1 := HR.out.below hb1
      have hcm := hrow1.cell m hlt
      have hfm := hrow1.free m hlt
      rw [Nat.zero_add] at hcm hfm
      have HR1 : Hid _ := hrow1
      have HB1 : Hid (Below B w w1) := HB.out.trans (hb1.mono (by have := HR.out.lt; omega))
      clear hb1 hrow1 HR HB
      go_wp2
      go_roundw
      case rel => exact ⟨m + 1, by omega, by go_num, by go_num, HB1.out.setCell (p := ⟨g, m, none⟩) hB _, by
        have h := HR1.out.set m ⟨(markOf (k + m)).toArray⟩
        rw [Nat.zero_add] at h
        exact ⟨h.lt, fun i hi => by rw [h.cell i hi, mark_step S k i m], h.free⟩⟩
      case measure => simp [intOf]; omega
    · have hnm : m = n := by omega
      have HN : Hid (m = n) := hnm
      have HR : Hid _ := hrow
      clear hb hrow hnm
      go_wp2
      go_ret
      exact ⟨ret_nat (by rw [HN.out]), HB.out, HR.out.lt, fun i hi => by rw [HR.out.cell i hi, if_pos (by have := HN.out; omega)], HR.out.free⟩

theorem mark_same (k m : Nat) : ((marks k m).toList == markOf (k + m)) = true := by unfold marks; rw [ByteArray.toList_eq]; simp

set_option maxHeartbeats 1000000 in
/-- A list that holds its marks is told to. -/
theorem heldStringS_any (a : Option Addr) (n c k : Nat) (w : World) (hS : IsStrs w a n (marks k)) (hn : n ≤ 1000000) (hk : 1 ≤ k) (hk2 : k ≤ 100000000) :
    Calls Try.prog 61 #[.slice a n c, .int .i64 k] w fun e w' => e = .returned (.int .i64 ((k + n : Nat) : Int)) ∧ Below w.heap.size w w' := by
  go_enter Try.func61, Try.ntmps61
  go_wp2
  go_loopw [1, 5] (fun kk i wr => ∃ m : Nat, m ≤ n ∧ i = .int .i64 m ∧ kk = .int .i64 ((k + m : Nat) : Int) ∧ Below w.heap.size w wr) (fun _ i _ => n - (intOf i).toNat)
  case atStart => exact ⟨0, Nat.zero_le _, rfl, rfl, Below.refl _ _⟩
  case round =>
    obtain ⟨m, hm, rfl, rfl, hb⟩ := hrel
    have HB : Hid (Below w.heap.size w wr) := hb
    by_cases hlt : m < n
    · obtain ⟨b, off, rfl, hlt2, hc⟩ := hS.at hlt
      have hlti : (m : Int) < (n : Int) := by omega
      have hcm : wr.cell? ⟨b, off + m, none⟩ = some (.string (marks k m)) := (hb.cell (p := ⟨b, off + m, none⟩) hlt2).trans (hc m hlt)
      have hall : ∀ wq, Below wr.heap.size wr wq → wq.cell? ⟨b, off + m, none⟩ = some (.string (marks k m)) := fun wq hq => (hq.cell (p := ⟨b, off + m, none⟩) (Nat.lt_of_lt_of_le hlt2 hb.size)).trans hcm
      have HALL : Hid _ := hall
      clear hc hb hall
      go_wp2
      go_region_with (go_at_call 58; refine (markText_any (k + m) _ (by omega) (by omega)).mono ?_; rintro e w1 ⟨rfl, hb1⟩; have hcw := HALL.out w1 ((Below.refl wr.heap.size wr).drew.trans hb1))
      all_goals
        have hb2 : Below wr.heap.size wr w1 := (Below.refl wr.heap.size wr).drew.trans (by assumption)
        have HB2 : Hid (Below w.heap.size w w1) := HB.out.trans (hb2.mono HB.out.size)
        clear hb2
        go_wp2
        · have hx : (!(marks k m).toList == markOf (k + m)) = true := by assumption
          rw [mark_same] at hx
          cases hx
        · go_roundw
          case rel => exact ⟨m + 1, by omega, by go_num, by go_num, HB2.out⟩
          case measure => simp [intOf]; omega
    · have HN : Hid (m = n) := show m = n by omega
      clear hb
      go_wp2
      go_ret
      exact ⟨ret_nat (by rw [HN.out]), HB.out⟩
end Go.Proofs.Yteoanlkmkmajjaa

/-
  What the helpers that mark a list do at a row of one's own, and that it is told to hold its marks.
-/
namespace Go.Proofs.Yteoanlkmkmajjaa
open Go.RowKit Go.Deep
set_option linter.unusedVariables false
set_option linter.unusedSimpArgs false

theorem intv0_set (n m : Nat) (Z : Nat → Int) (z : Int) : (intv0 n Z).set m (.int .i64 z) = intv0 n (fun i => if i = m then z else Z i) := by
  apply List.ext_getElem?
  intro j
  rw [List.getElem?_set]
  by_cases e : m = j
  · subst e
    by_cases h : m < n <;> simp [intv0, h]
  · by_cases h : j < n <;> simp [intv0, h, e, Ne.symm e]

theorem boolv_set (n m : Nat) (Z : Nat → Bool) (z : Bool) : (boolv n Z).set m (.bool z) = boolv n (fun i => if i = m then z else Z i) := by
  apply List.ext_getElem?
  intro j
  rw [List.getElem?_set]
  by_cases e : m = j
  · subst e
    by_cases h : m < n <;> simp [boolv, h]
  · by_cases h : j < n <;> simp [boolv, h, e, Ne.symm e]

theorem intv0_ext {n : Nat} {Z Y : Nat → Int} (h : ∀ i, i < n → Z i = Y i) : intv0 n Z = intv0 n Y := by
  unfold intv0
  exact List.map_congr_left fun i hi => by rw [h i (by simpa using hi)]
theorem boolv_ext {n : Nat} {Z Y : Nat → Bool} (h : ∀ i, i < n → Z i = Y i) : boolv n Z = boolv n Y := by
  unfold boolv
  exact List.map_congr_left fun i hi => by rw [h i (by simpa using hi)]

theorem owns_addr {w : World} {B : Nat} {e : TypeId} {size n c : Nat} {a : Option Addr} {xs : List Value} (h : w.ownsRow B e size (.slice a n c) n xs) (hn : 0 < n) : ∃ g, a = some ⟨g, 0, none⟩ ∧ g < w.heap.size := by
  rcases h.2 with ⟨h0, hz⟩ | ⟨g, cap, cur, hv, _, hg, _⟩
  · omega
  · cases hv
    exact ⟨g, rfl, (Array.getElem?_eq_some_iff.1 hg).1⟩

set_option maxHeartbeats 1000000 in
theorem markIntS_own (a : Option Addr) (n c k B : Nat) (Z : Nat → Int) (w : World) (h : w.ownsRow B 3 1 (.slice a n c) n (intv0 n Z)) (hn : n ≤ 1048576) (hk : k ≤ 100000000) :
    Calls Try.prog 60 #[.slice a n c, .int .i64 k] w fun e w' => e = .returned (.int .i64 ((k + n : Nat) : Int)) ∧ w'.ownsRow B 3 1 (.slice a n c) n (intv0 n (fun i => ((k + i : Nat) : Int))) ∧ w.grownBy w' (Value.slice a n c).ownBlock := by
  go_enter Try.func60, Try.ntmps60
  go_wp2
  go_loopw [1, 5] (fun kk i wr => ∃ m : Nat, m ≤ n ∧ i = .int .i64 m ∧ kk = .int .i64 ((k + m : Nat) : Int) ∧ wr.ownsRow B 3 1 (.slice a n c) n (intv0 n (fun i => if i < m then ((k + i : Nat) : Int) else Z i)) ∧ w.grownBy wr (Value.slice a n c).ownBlock) (fun _ i _ => n - (intOf i).toNat)
  case atStart => exact ⟨0, Nat.zero_le _, rfl, rfl, by simpa using h, World.grownBy.refl _ _⟩
  case round =>
    obtain ⟨m, hm, rfl, rfl, hrow, hg⟩ := hrel
    by_cases hlt : m < n
    · obtain ⟨g, rfl, hgl⟩ := owns_addr hrow (by omega)
      have hlti : (m : Int) < (n : Int) := by omega
      have hcm := hrow.cellAt m (by omega)
      have hfm := hrow.frozenAt m
      rw [show (intv0 n (fun i => if i < m then ((k + i : Nat) : Int) else Z i))[m]? = some (.int .i64 (Z m)) from by simp [intv0, hlt]] at hcm
      have HR : Hid _ := hrow.stored m (.int .i64 ((k + m : Nat) : Int))
      have HG : Hid (w.grownBy wr (Value.slice (some ⟨g, 0, none⟩) n c).ownBlock) := hg
      clear hrow hg
      go_wp2
      go_roundw
      case rel => exact ⟨m + 1, by omega, by go_num, by go_num, by
        have := HR.out.1
        rw [intv0_set] at this
        rw [intv0_ext (Y := fun i => if i = m then ((k + m : Nat) : Int) else if i < m then ((k + i : Nat) : Int) else Z i) (fun i hi => by
          by_cases e : i = m
          · subst e; simp
          · by_cases e2 : i < m
            · simp [e, e2, show i < m + 1 by omega]
            · simp [e, e2, show ¬ i < m + 1 by omega])]
        exact this, HG.out.trans HR.out.2⟩
      case measure => simp [intOf]; omega
    · obtain rfl : m = n := by omega
      have HR : Hid _ := And.intro hrow hg
      clear hrow hg
      go_wp2
      go_ret
      refine ⟨rfl, ?_, HR.out.2⟩
      rw [intv0_ext (Y := fun i => if i < m then ((k + i : Nat) : Int) else Z i) (fun i hi => by simp [hi])]
      exact HR.out.1

set_option maxHeartbeats 1000000 in
theorem heldIntS_own (a : Option Addr) (n c k : Nat) (w : World) (h : IsInts w a n (fun i => ((k + i : Nat) : Int))) (hn : n ≤ 1048576) (hk : k ≤ 100000000) :
    Calls Try.prog 62 #[.slice a n c, .int .i64 k] w fun e w' => e = .returned (.int .i64 ((k + n : Nat) : Int)) ∧ w' = w := by
  go_enter Try.func62, Try.ntmps62
  go_wp2
  go_loopw [1, 5] (fun kk i wr => ∃ m : Nat, m ≤ n ∧ i = .int .i64 m ∧ kk = .int .i64 ((k + m : Nat) : Int) ∧ wr = w) (fun _ i _ => n - (intOf i).toNat)
  case atStart => exact ⟨0, Nat.zero_le _, rfl, rfl, rfl⟩
  case round =>
    obtain ⟨m, hm, rfl, rfl, rfl⟩ := hrel
    by_cases hlt : m < n
    · obtain ⟨b, off, rfl, hlt2, hc⟩ := h.at hlt
      have g0 := hc m hlt
      have hlti : (m : Int) < (n : Int) := by omega
      clear hc
      go_wp2
      go_roundw
      case rel => exact ⟨m + 1, by omega, by go_num, by go_num, trivial⟩
      case measure => simp [intOf]; omega
    · obtain rfl : m = n := by omega
      go_wp2
      go_ret
      exact ⟨rfl, rfl⟩

/-- The marks of truth values. -/
def markB (k : Nat) : Nat → Bool := fun i => decide ((k + i) % 3 = 0)

theorem mod3 (k m : Nat) : (((k : Int) + (m : Int)) % 3 == 0) = markB k m := by
  unfold markB
  by_cases e : (k + m) % 3 = 0
  · rw [decide_eq_true e]
    have : ((k : Int) + (m : Int)) % 3 = 0 := by omega
    simp [this]
  · rw [decide_eq_false e]
    have : ¬ ((k : Int) + (m : Int)) % 3 = 0 := by omega
    simp [this]

set_option maxHeartbeats 1000000 in
theorem markBoolS_own (a : Option Addr) (n c k B : Nat) (Z : Nat → Bool) (w : World) (h : w.ownsRow B 4 1 (.slice a n c) n (boolv n Z)) (hn : n ≤ 1048576) (hk : k ≤ 100000000) :
    Calls Try.prog 31 #[.slice a n c, .int .i64 k] w fun e w' => e = .returned (.int .i64 ((k + n : Nat) : Int)) ∧ w'.ownsRow B 4 1 (.slice a n c) n (boolv n (markB k)) ∧ w.grownBy w' (Value.slice a n c).ownBlock := by
  go_enter Try.func31, Try.ntmps31
  go_wp2
  go_loopw [1, 5] (fun kk i wr => ∃ m : Nat, m ≤ n ∧ i = .int .i64 m ∧ kk = .int .i64 ((k + m : Nat) : Int) ∧ wr.ownsRow B 4 1 (.slice a n c) n (boolv n (fun i => if i < m then markB k i else Z i)) ∧ w.grownBy wr (Value.slice a n c).ownBlock) (fun _ i _ => n - (intOf i).toNat)
  case atStart => exact ⟨0, Nat.zero_le _, rfl, rfl, by simpa using h, World.grownBy.refl _ _⟩
  case round =>
    obtain ⟨m, hm, rfl, rfl, hrow, hg⟩ := hrel
    by_cases hlt : m < n
    · obtain ⟨g, rfl, hgl⟩ := owns_addr hrow (by omega)
      have hlti : (m : Int) < (n : Int) := by omega
      have hcm := hrow.cellAt m (by omega)
      have hfm := hrow.frozenAt m
      rw [show (boolv n (fun i => if i < m then markB k i else Z i))[m]? = some (.bool (Z m)) from by simp [boolv, hlt]] at hcm
      have hmod : (((k : Int) + (m : Int)) % 3 == 0) = markB k m := mod3 k m
      have HR : Hid _ := hrow.stored m (.bool (markB k m))
      have HG : Hid (w.grownBy wr (Value.slice (some ⟨g, 0, none⟩) n c).ownBlock) := hg
      have HM : Hid _ := hmod
      clear hrow hg hmod
      go_wp2
      go_roundw
      case rel => exact ⟨m + 1, by omega, by go_num, by go_num, by
        have := HR.out.1
        rw [boolv_set] at this
        rw [HM.out, boolv_ext (Y := fun i => if i = m then markB k m else if i < m then markB k i else Z i) (fun i hi => by
          by_cases e : i = m
          · subst e; simp
          · by_cases e2 : i < m
            · simp [e, e2, show i < m + 1 by omega]
            · simp [e, e2, show ¬ i < m + 1 by omega])]
        exact this, by rw [HM.out]; exact HG.out.trans HR.out.2⟩
      case measure => simp [intOf]; omega
    · obtain rfl : m = n := by omega
      have HR : Hid _ := And.intro hrow hg
      clear hrow hg
      go_wp2
      go_ret
      refine ⟨rfl, ?_, HR.out.2⟩
      rw [boolv_ext (Y := fun i => if i < m then markB k i else Z i) (fun i hi => by simp [hi])]
      exact HR.out.1

set_option maxHeartbeats 1000000 in
theorem heldBoolS_own (a : Option Addr) (n c k : Nat) (w : World) (h : IsBools w a n (markB k)) (hn : n ≤ 1048576) (hk : k ≤ 100000000) :
    Calls Try.prog 33 #[.slice a n c, .int .i64 k] w fun e w' => e = .returned (.int .i64 ((k + n : Nat) : Int)) ∧ w' = w := by
  go_enter Try.func33, Try.ntmps33
  go_wp2
  go_loopw [1, 5] (fun kk i wr => ∃ m : Nat, m ≤ n ∧ i = .int .i64 m ∧ kk = .int .i64 ((k + m : Nat) : Int) ∧ wr = w) (fun _ i _ => n - (intOf i).toNat)
  case atStart => exact ⟨0, Nat.zero_le _, rfl, rfl, rfl⟩
  case round =>
    obtain ⟨m, hm, rfl, rfl, rfl⟩ := hrel
    by_cases hlt : m < n
    · obtain ⟨b, off, rfl, hlt2, hc⟩ := h.at hlt
      have g0 := hc m hlt
      have hlti : (m : Int) < (n : Int) := by omega
      have hmod := mod3 k m
      have hz : (!(markB k m == (((k : Int) + (m : Int)) % 3 == 0))) = false := by rw [hmod]; simp
      clear hc hmod
      go_wp2
      go_roundw
      case rel => exact ⟨m + 1, by omega, by go_num, by go_num, trivial⟩
      case measure => simp [intOf]; omega
    · obtain rfl : m = n := by omega
      go_wp2
      go_ret
      exact ⟨rfl, rfl⟩

theorem strv_set (n m : Nat) (S : Nat → ByteArray) (s : ByteArray) : (strv (lst n S)).set m (.string s) = strv (lst n (fun i => if i = m then s else S i)) := by
  apply List.ext_getElem?
  intro j
  rw [List.getElem?_set]
  by_cases e : m = j
  · subst e
    by_cases h : m < n <;> simp [strv, lst, h]
  · by_cases h : j < n <;> simp [strv, lst, h, e, Ne.symm e]

theorem strv_ext {n : Nat} {S T : Nat → ByteArray} (h : ∀ i, i < n → S i = T i) : strv (lst n S) = strv (lst n T) := by
  unfold lst
  congr 1
  exact List.map_congr_left fun i hi => h i (by simpa using hi)

theorem grown_of_below {w w' : World} (h : Below w.heap.size w w') (r : Option Nat) : w.grownBy w' r := ⟨h.os, h.tape, h.output, h.size, fun k hk _ => h.block k hk⟩

set_option maxHeartbeats 1000000 in
theorem markStringS_own (a : Option Addr) (n c k B : Nat) (S : Nat → ByteArray) (w : World) (h : w.ownsRow B 9 1 (.slice a n c) n (strv (lst n S))) (hn : n ≤ 1048576) (hk1 : 1 ≤ k) (hk : k ≤ 100000000) :
    Calls Try.prog 59 #[.slice a n c, .int .i64 k] w fun e w' => e = .returned (.int .i64 ((k + n : Nat) : Int)) ∧ w'.ownsRow B 9 1 (.slice a n c) n (strv (lst n (marks k))) ∧ w.grownBy w' (Value.slice a n c).ownBlock := by
  go_enter Try.func59, Try.ntmps59
  go_wp2
  go_loopw [1, 5] (fun kk i wr => ∃ m : Nat, m ≤ n ∧ i = .int .i64 m ∧ kk = .int .i64 ((k + m : Nat) : Int) ∧ wr.ownsRow B 9 1 (.slice a n c) n (strv (lst n (fun i => if i < m then marks k i else S i))) ∧ w.grownBy wr (Value.slice a n c).ownBlock) (fun _ i _ => n - (intOf i).toNat)
  case atStart => exact ⟨0, Nat.zero_le _, rfl, rfl, by simpa using h, World.grownBy.refl _ _⟩
  case round =>
    obtain ⟨m, hm, rfl, rfl, hrow, hg⟩ := hrel
    by_cases hlt : m < n
    · obtain ⟨g, rfl, hgl⟩ := owns_addr hrow (by omega)
      have hlti : (m : Int) < (n : Int) := by omega
      have HRow : Hid _ := hrow
      have HG : Hid (w.grownBy wr (Value.slice (some ⟨g, 0, none⟩) n c).ownBlock) := hg
      clear hrow hg
      go_wp2_with fail
      refine (markText_any (k + m) _ (by omega) (by omega)).mono ?_
      rintro e w1 ⟨rfl, hb1⟩
      have hrow1 := owns_same HRow.out (w' := w1) (fun b hb => hb1.block b (owns_block HRow.out hb).2)
      have hcm := hrow1.cellAt m (by omega)
      have hfm := hrow1.frozenAt m
      rw [show (strv (lst n (fun i => if i < m then marks k i else S i)))[m]? = some (.string (S m)) from by simp [strv, lst, hlt]] at hcm
      have HR : Hid _ := hrow1.stored m (.string ⟨(markOf (k + m)).toArray⟩)
      have HG1 : Hid (w.grownBy w1 (Value.slice (some ⟨g, 0, none⟩) n c).ownBlock) := HG.out.trans (grown_of_below hb1 _)
      clear hrow1 hb1 HG HRow
      go_wp2
      go_roundw
      case rel => exact ⟨m + 1, by omega, by go_num, by go_num, by
        have := HR.out.1
        rw [strv_set] at this
        rw [strv_ext (T := fun i => if i = m then (⟨(markOf (k + m)).toArray⟩ : ByteArray) else if i < m then marks k i else S i) (fun i hi => by
          by_cases e : i = m
          · subst e; simp [marks]
          · by_cases e2 : i < m
            · simp [e, e2, show i < m + 1 by omega]
            · simp [e, e2, show ¬ i < m + 1 by omega])]
        exact this, HG1.out.trans HR.out.2⟩
      case measure => simp [intOf]; omega
    · obtain rfl : m = n := by omega
      have HR : Hid _ := And.intro hrow hg
      clear hrow hg
      go_wp2
      go_ret
      refine ⟨rfl, ?_, HR.out.2⟩
      rw [strv_ext (T := fun i => if i < m then marks k i else S i) (fun i hi => by simp [hi])]
      exact HR.out.1
end Go.Proofs.Yteoanlkmkmajjaa

/-
  What is kept, in memory of one's own, when one of its lists is written into. Plain facts.
-/
namespace Go.Proofs.Yteoanlkmkmajjaa
open Go.RowKit Go.Deep
set_option linter.unusedVariables false
set_option linter.unusedSimpArgs false

section
variable {W W' : World} {B k : Nat} {Z Z' : Nat → Bool} {m : Nat} {O O' : Nat → Int} {D D' : Nat → Nd} {L : Nat → Loc} {lv iv : Value}

theorem OD.turn (h : OD W B k Z m O D L lv iv) {d0 : Nat} (hd0 : d0 < 2 + 2 * m) (hg : W.grownBy W' (valD lv iv D L d0).ownBlock) (hrow : ∀ d, d < 2 + 2 * m → d ≠ d0 → rowD k Z' m O' D' L d = rowD k Z m O D L d) (hval : ∀ d, d < 2 + 2 * m → valD lv iv D' L d = valD lv iv D L d)
    (hown : W'.ownsRow B (rowD k Z' m O' D' L d0).e (rowD k Z' m O' D' L d0).size (valD lv iv D L d0) (rowD k Z' m O' D' L d0).n (rowD k Z' m O' D' L d0).xs) : OD W' B k Z' m O' D' L lv iv := by
  refine ⟨⟨fun d hl => ?_, fun d1 d2 g1 g2 hne b h1 h2 => ?_⟩⟩
  · rw [hval d hl]
    by_cases e : d = d0
    · subst e; exact hown
    · rw [hrow d hl e]
      exact owns_kept (h.rows.own d hl) hg fun b hb => Ne.symm (Ne.symm (h.rows.apart d d0 hl hd0 e b hb))
  · rw [hval d1 g1] at h1
    rw [hval d2 g2] at h2
    exact h.rows.apart d1 d2 g1 g2 hne b h1 h2

/-- The same lengths everywhere: the same addresses. -/
theorem val_same (hl : ∀ i, i < m → (D' i).nn = (D i).nn ∧ (D' i).kn = (D i).kn) : ∀ d, d < 2 + 2 * m → valD lv iv D' L d = valD lv iv D L d := fun d hd => by
  unfold valD
  by_cases e0 : d = 0
  · rw [if_pos e0, if_pos e0]
  · by_cases e1 : d = 1
    · rw [if_neg e0, if_pos e1, if_neg e0, if_pos e1]
    · rw [if_neg e0, if_neg e1, if_neg e0, if_neg e1, (hl ((d - 2) / 2) (by omega)).1, (hl ((d - 2) / 2) (by omega)).2]

/-- The truth values are others. -/
theorem OD.turnLive (h : OD W B k Z m O D L lv iv) (hg : W.grownBy W' lv.ownBlock) (hown : W'.ownsRow B 4 1 lv k (boolv k Z')) : OD W' B k Z' m O D L lv iv :=
  h.turn (d0 := 0) (by omega) (by simpa [valD] using hg) (fun d hl hne => rowD_rest hne) (fun d hl => rfl) (by simpa [rowD, valD] using hown)

/-- The list of places holds others, of the same lists. -/
theorem OD.turnItems (h : OD W B k Z m O D L lv iv) (hl : ∀ i, i < m → (D' i).nn = (D i).nn ∧ (D' i).kn = (D i).kn ∧ (D' i).names = (D i).names ∧ (D' i).kids = (D i).kids) (hg : W.grownBy W' iv.ownBlock) (hown : W'.ownsRow B 56 6 iv m (rowsI O' D' L m)) : OD W' B k Z m O' D' L lv iv :=
  h.turn (d0 := 1) (by omega) (by simpa [valD] using hg) (fun d hd hne => by
    unfold rowD
    by_cases e0 : d = 0
    · rw [if_pos e0, if_pos e0]
    · obtain ⟨a1, a2, a3, a4⟩ := hl ((d - 2) / 2) (by omega)
      rw [if_neg e0, if_neg hne, if_neg e0, if_neg hne, a1, a2, a3, a4]) (val_same fun i hi => ⟨(hl i hi).1, (hl i hi).2.1⟩) (by simpa [rowD, valD] using hown)

/-- The names of a place are others. -/
theorem OD.turnNames (h : OD W B k Z m O D L lv iv) {i : Nat} (hi : i < m) (S : Nat → ByteArray) (hg : W.grownBy W' (Value.slice (L i).nA (D i).nn (L i).nc).ownBlock) (hown : W'.ownsRow B 9 1 (.slice (L i).nA (D i).nn (L i).nc) (D i).nn (strv (lst (D i).nn S))) :
    OD W' B k Z m O (fun j => if j = i then { D i with names := S } else D j) L lv iv := by
  have hd : (2 + 2 * i - 2) / 2 = i := by omega
  have hv : valD lv iv D L (2 + 2 * i) = .slice (L i).nA (D i).nn (L i).nc := by unfold valD; rw [if_neg (by omega), if_neg (by omega), if_pos (by omega), hd]
  refine h.turn (d0 := 2 + 2 * i) (by omega) (by rw [hv]; exact hg) (fun d hdl hne => ?_) (val_same fun j hj => by by_cases e : j = i <;> simp [e]) ?_
  · have hrows : rowsI O (fun j => if j = i then { D i with names := S } else D j) L m = rowsI O D L m := by
      have key : ∀ q, rowsI O (fun j => if j = i then { D i with names := S } else D j) L q = rowsI O D L q := fun q => by
        induction q with
        | zero => rfl
        | succ q ih =>
          rw [rowsI, rowsI, ih]
          by_cases e : q = i
          · subst e; simp [it6]
          · simp [e]
      exact key m
    unfold rowD
    by_cases e0 : d = 0
    · rw [if_pos e0, if_pos e0]
    · by_cases e1 : d = 1
      · rw [if_neg e0, if_pos e1, if_neg e0, if_pos e1, hrows]
      · rw [if_neg e0, if_neg e1, if_neg e0, if_neg e1]
        by_cases e : (d - 2) / 2 = i
        · have : d % 2 ≠ 0 := by omega
          rw [if_neg this, if_neg this]
          simp [e]
        · simp [e]
  · rw [hv]
    unfold rowD
    rw [if_neg (by omega), if_neg (by omega), if_pos (by omega), hd]
    simpa using hown

/-- The places in a directory are others. -/
theorem OD.turnKids (h : OD W B k Z m O D L lv iv) {i : Nat} (hi : i < m) (K : Nat → Int) (hg : W.grownBy W' (Value.slice (L i).kA (D i).kn (L i).kc).ownBlock) (hown : W'.ownsRow B 3 1 (.slice (L i).kA (D i).kn (L i).kc) (D i).kn (intv0 (D i).kn K)) :
    OD W' B k Z m O (fun j => if j = i then { D i with kids := K } else D j) L lv iv := by
  have hd : (3 + 2 * i - 2) / 2 = i := by omega
  have hv : valD lv iv D L (3 + 2 * i) = .slice (L i).kA (D i).kn (L i).kc := by unfold valD; rw [if_neg (by omega), if_neg (by omega), if_neg (by omega), hd]
  refine h.turn (d0 := 3 + 2 * i) (by omega) (by rw [hv]; exact hg) (fun d hdl hne => ?_) (val_same fun j hj => by by_cases e : j = i <;> simp [e]) ?_
  · have hrows : rowsI O (fun j => if j = i then { D i with kids := K } else D j) L m = rowsI O D L m := by
      have key : ∀ q, rowsI O (fun j => if j = i then { D i with kids := K } else D j) L q = rowsI O D L q := fun q => by
        induction q with
        | zero => rfl
        | succ q ih =>
          rw [rowsI, rowsI, ih]
          by_cases e : q = i
          · subst e; simp [it6]
          · simp [e]
      exact key m
    unfold rowD
    by_cases e0 : d = 0
    · rw [if_pos e0, if_pos e0]
    · by_cases e1 : d = 1
      · rw [if_neg e0, if_pos e1, if_neg e0, if_pos e1, hrows]
      · rw [if_neg e0, if_neg e1, if_neg e0, if_neg e1]
        by_cases e : (d - 2) / 2 = i
        · have : d % 2 = 0 := by omega
          rw [if_pos this, if_pos this]
          simp [e]
        · simp [e]
  · rw [hv]
    unfold rowD
    rw [if_neg (by omega), if_neg (by omega), if_neg (by omega), hd]
    simpa using hown
end
end Go.Proofs.Yteoanlkmkmajjaa

/-
  What markItemS does at what is kept, in memory of one's own: every list holds its own marks afterwards.
-/
namespace Go.Proofs.Yteoanlkmkmajjaa
open Go.RowKit Go.Deep
set_option linter.unusedVariables false
set_option linter.unusedSimpArgs false

section
variable {O O' : Nat → Int} {D D' : Nat → Nd} {L : Nat → Loc}

theorem rowsI_set {m i r : Nat} {u : Value} (hi : i < m) (hr : r < 6) (hx : it6 (O' i) (D' i) (L i) = (it6 (O i) (D i) (L i)).set r u) (ho : ∀ j, j < m → j ≠ i → O' j = O j ∧ D' j = D j) : (rowsI O D L m).set (i * 6 + r) u = rowsI O' D' L m := by
  apply List.ext_getElem?
  intro q
  by_cases hq : q < m * 6
  · have h1 := rowsI_get (O := O') (D := D') (L := L) m (q / 6) (by omega) (q % 6) (by omega)
    have h2 := rowsI_get (O := O) (D := D) (L := L) m (q / 6) (by omega) (q % 6) (by omega)
    rw [show q / 6 * 6 + q % 6 = q by omega] at h1 h2
    rw [h1, List.getElem?_set]
    by_cases e : q / 6 = i
    · rw [e, hx, List.getElem?_set]
      by_cases e2 : i * 6 + r = q
      · have e3 : r = q % 6 := by omega
        rw [if_pos e2, if_pos (by rw [rowsI_len]; omega), if_pos e3, if_pos (by simp [it6]; omega)]
      · have e3 : r ≠ q % 6 := by omega
        rw [if_neg e2, if_neg e3, h2, e]
    · obtain ⟨a1, a2⟩ := ho (q / 6) (by omega) e
      rw [if_neg (by omega), h2, a1, a2]
  · rw [List.getElem?_eq_none (by rw [List.length_set, rowsI_len]; omega), List.getElem?_eq_none (by rw [rowsI_len]; omega)]
end

section
variable {W : World} {B k : Nat} {Z : Nat → Bool} {m : Nat} {O : Nat → Int} {D : Nat → Nd} {L : Nat → Loc} {lv iv : Value} {g ic : Nat}

/-- The cells of a place that was turned. -/
theorem OD.cells (h : OD W B k Z m O D L lv (.slice (some ⟨g, 0, none⟩) m ic)) {i : Nat} (hi : i < m) : W.cell? ⟨g, i * 6, none⟩ = some (.int .i64 (O i)) ∧ W.cell? ⟨g, i * 6 + 1, none⟩ = some (.int .i64 (D i).kind) ∧ W.cell? ⟨g, i * 6 + 2, none⟩ = some (.string (D i).text) ∧
    W.cell? ⟨g, i * 6 + 3, none⟩ = some (.slice (L i).nA (D i).nn (L i).nc) ∧ W.cell? ⟨g, i * 6 + 4, none⟩ = some (.slice (L i).kA (D i).kn (L i).kc) ∧ W.cell? ⟨g, i * 6 + 5, none⟩ = some (.int .i64 (D i).turn) := by
  have key : ∀ r, r < 6 → W.cell? ⟨g, i * 6 + r, none⟩ = (it6 (O i) (D i) (L i))[r]? := fun r hr => by
    rw [h.ownI.cellAt (i * 6 + r) (by omega), rowsI_get m i hi r hr]
  exact ⟨key 0 (by omega), key 1 (by omega), key 2 (by omega), key 3 (by omega), key 4 (by omega), key 5 (by omega)⟩

theorem OD.free (h : OD W B k Z m O D L lv (.slice (some ⟨g, 0, none⟩) m ic)) (j : Nat) : W.frozen? ⟨g, j, none⟩ = false := h.ownI.frozenAt j

theorem OD.putIno (h : OD W B k Z m O D L lv (.slice (some ⟨g, 0, none⟩) m ic)) {i : Nat} (hi : i < m) (z : Int) : OD (W.setCell ⟨g, i * 6, none⟩ (.int .i64 z)) B k Z m (fun j => if j = i then z else O j) D L lv (.slice (some ⟨g, 0, none⟩) m ic) := by
  obtain ⟨h1, h2⟩ := h.ownI.stored (i * 6 + 0) (.int .i64 z)
  rw [rowsI_set (O' := fun j => if j = i then z else O j) (D' := D) hi (by omega) (by simp [it6]) (fun j hj e => by simp [e])] at h1
  exact h.turnItems (fun j hj => ⟨rfl, rfl, rfl, rfl⟩) h2 h1

theorem OD.putKind (h : OD W B k Z m O D L lv (.slice (some ⟨g, 0, none⟩) m ic)) {i : Nat} (hi : i < m) (z : Int) : OD (W.setCell ⟨g, i * 6 + 1, none⟩ (.int .i64 z)) B k Z m O (fun j => if j = i then { D i with kind := z } else D j) L lv (.slice (some ⟨g, 0, none⟩) m ic) := by
  obtain ⟨h1, h2⟩ := h.ownI.stored (i * 6 + 1) (.int .i64 z)
  rw [rowsI_set (O' := O) (D' := fun j => if j = i then { D i with kind := z } else D j) hi (by omega) (by simp [it6]) (fun j hj e => by simp [e])] at h1
  exact h.turnItems (fun j hj => by by_cases e : j = i <;> simp [e]) h2 h1

theorem OD.putText (h : OD W B k Z m O D L lv (.slice (some ⟨g, 0, none⟩) m ic)) {i : Nat} (hi : i < m) (s : ByteArray) : OD (W.setCell ⟨g, i * 6 + 2, none⟩ (.string s)) B k Z m O (fun j => if j = i then { D i with text := s } else D j) L lv (.slice (some ⟨g, 0, none⟩) m ic) := by
  obtain ⟨h1, h2⟩ := h.ownI.stored (i * 6 + 2) (.string s)
  rw [rowsI_set (O' := O) (D' := fun j => if j = i then { D i with text := s } else D j) hi (by omega) (by simp [it6]) (fun j hj e => by simp [e])] at h1
  exact h.turnItems (fun j hj => by by_cases e : j = i <;> simp [e]) h2 h1

theorem OD.putTurn (h : OD W B k Z m O D L lv (.slice (some ⟨g, 0, none⟩) m ic)) {i : Nat} (hi : i < m) (z : Int) : OD (W.setCell ⟨g, i * 6 + 5, none⟩ (.int .i64 z)) B k Z m O (fun j => if j = i then { D i with turn := z } else D j) L lv (.slice (some ⟨g, 0, none⟩) m ic) := by
  obtain ⟨h1, h2⟩ := h.ownI.stored (i * 6 + 5) (.int .i64 z)
  rw [rowsI_set (O' := O) (D' := fun j => if j = i then { D i with turn := z } else D j) hi (by omega) (by simp [it6]) (fun j hj e => by simp [e])] at h1
  exact h.turnItems (fun j hj => by by_cases e : j = i <;> simp [e]) h2 h1

theorem OD.ownN (h : OD W B k Z m O D L lv iv) {i : Nat} (hi : i < m) : W.ownsRow B 9 1 (.slice (L i).nA (D i).nn (L i).nc) (D i).nn (strv (lst (D i).nn (D i).names)) := by
  have hd : (2 + 2 * i - 2) / 2 = i := by omega
  have := h.rows.own (2 + 2 * i) (by omega)
  unfold rowD valD at this
  rw [if_neg (by omega), if_neg (by omega), if_pos (by omega), if_neg (by omega), if_neg (by omega), if_pos (by omega), hd] at this
  exact this

theorem OD.ownK (h : OD W B k Z m O D L lv iv) {i : Nat} (hi : i < m) : W.ownsRow B 3 1 (.slice (L i).kA (D i).kn (L i).kc) (D i).kn (intv0 (D i).kn (D i).kids) := by
  have hd : (3 + 2 * i - 2) / 2 = i := by omega
  have := h.rows.own (3 + 2 * i) (by omega)
  unfold rowD valD at this
  rw [if_neg (by omega), if_neg (by omega), if_neg (by omega), if_neg (by omega), if_neg (by omega), if_neg (by omega), hd] at this
  exact this
end

/-- Blocks below B, and those from H on, are kept. -/
structure Fr (B H : Nat) (w w' : World) : Prop where
  bel : Below B w w'
  far : ∀ b, H ≤ b → b < w.heap.size → w'.heap[b]? = w.heap[b]?

theorem Fr.refl (B H : Nat) (w : World) : Fr B H w w := ⟨Below.refl _ _, fun _ _ _ => rfl⟩
theorem Fr.put {B H : Nat} {a w : World} (h : Fr B H a w) {b i : Nat} (v : Value) (hb : B ≤ b) (hH : b < H) : Fr B H a (w.setCell ⟨b, i, none⟩ v) := ⟨bel_put h.bel v hb, fun j hj hl => (blk_setCell_other _ _ _ _ (show j ≠ b by omega)).trans (h.far j hj hl)⟩
theorem Fr.below {B H : Nat} {a w w' : World} (h : Fr B H a w) (hB : B ≤ w.heap.size) (hb : Below w.heap.size w w') : Fr B H a w' := ⟨h.bel.trans (hb.mono hB), fun j hj hl => (hb.block j (Nat.lt_of_lt_of_le hl h.bel.size)).trans (h.far j hj hl)⟩
theorem Fr.grow {B H : Nat} {a w w' : World} {r : Option Nat} (h : Fr B H a w) (hg : w.grownBy w' r) (hB : B ≤ w.heap.size) (hr : ∀ b, r = some b → B ≤ b ∧ b < H) : Fr B H a w' := ⟨h.bel.grown hg hB (fun b e => (hr b e).1), fun j hj hl => (hg.block j (Nat.lt_of_lt_of_le hl h.bel.size) (fun e => by have := (hr j e.symm).2; omega)).trans (h.far j hj hl)⟩

theorem Fr.trans {B H : Nat} {a b c : World} (h : Fr B H a b) (_hB : B ≤ b.heap.size) (k : Fr B H b c) : Fr B H a c := ⟨h.bel.trans k.bel, fun j hj hl => (k.far j hj (Nat.lt_of_lt_of_le hl h.bel.size)).trans (h.far j hj hl)⟩

theorem valD_n {lv iv : Value} {D : Nat → Nd} {L : Nat → Loc} {j : Nat} : valD lv iv D L (2 + 2 * j) = .slice (L j).nA (D j).nn (L j).nc := by unfold valD; rw [if_neg (by omega), if_neg (by omega), if_pos (by omega), show (2 + 2 * j - 2) / 2 = j by omega]
theorem valD_k {lv iv : Value} {D : Nat → Nd} {L : Nat → Loc} {j : Nat} : valD lv iv D L (3 + 2 * j) = .slice (L j).kA (D j).kn (L j).kc := by unfold valD; rw [if_neg (by omega), if_neg (by omega), if_neg (by omega), show (3 + 2 * j - 2) / 2 = j by omega]

/-- The first mark of place j. -/
def kap (D : Nat → Nd) (k0 : Nat) : Nat → Nat | 0 => k0 | j + 1 => kap D k0 j + (4 + (D j).nn + (D j).kn)
/-- A place, marked from q on. -/
def markNd (d : Nd) (q : Nat) : Nd := ⟨((q + 1 : Nat) : Int), ⟨(markOf (q + 2)).toArray⟩, d.nn, marks (q + 3), d.kn, fun i => ((q + 3 + d.nn + i : Nat) : Int), ((q + 3 + d.nn + d.kn : Nat) : Int)⟩
def markO (D : Nat → Nd) (k0 : Nat) (O : Nat → Int) (j : Nat) : Nat → Int := fun i => if i < j then ((kap D k0 i : Nat) : Int) else O i
def markD (D : Nat → Nd) (k0 j : Nat) : Nat → Nd := fun i => if i < j then markNd (D i) (kap D k0 i) else D i

theorem kap_mono (D : Nat → Nd) (k0 : Nat) {i j : Nat} (h : i ≤ j) : kap D k0 i ≤ kap D k0 j := by
  induction h with
  | refl => exact Nat.le_refl _
  | step _ ih => rw [kap]; omega

theorem kap_ge (D : Nat → Nd) (k0 i : Nat) : k0 ≤ kap D k0 i := kap_mono D k0 (Nat.zero_le i)

set_option maxRecDepth 100000 in
set_option maxHeartbeats 4000000 in
theorem markItemS_own (H : Nat) (ia : Option Addr) (m ic k0 B k : Nat) (Z : Nat → Bool) (O : Nat → Int) (D : Nat → Nd) (L : Nat → Loc) (lv : Value) (w : World) (h : OD w B k Z m O D L lv (.slice ia m ic)) (hm : m ≤ 10) (hk1 : 1 ≤ k0) (hH : ∀ d b, d < 2 + 2 * m → (valD lv (.slice ia m ic) D L d).ownBlock = some b → b < H) (hkap : kap D k0 m ≤ 90000000) (hsz : ∀ i, i < m → (D i).nn ≤ 1048576 ∧ (D i).kn ≤ 1048576) :
    Calls Try.prog 32 #[.slice ia m ic, .int .i64 k0] w fun e w' => e = .returned (.int .i64 (kap D k0 m : Nat)) ∧ Fr B H w w' ∧ OD w' B k Z m (markO D k0 O m) (markD D k0 m) L lv (.slice ia m ic) := by
  go_enter Try.func32, Try.ntmps32
  go_wp2
  go_loopw [1, 5] (fun kk i wr => ∃ j : Nat, j ≤ m ∧ i = .int .i64 j ∧ kk = .int .i64 (kap D k0 j : Nat) ∧ Fr B H w wr ∧ OD wr B k Z m (markO D k0 O j) (markD D k0 j) L lv (.slice ia m ic)) (fun _ i _ => m - (intOf i).toNat)
  case atStart => exact ⟨0, Nat.zero_le _, rfl, rfl, Fr.refl _ _ _, by rw [show markO D k0 O 0 = O from by funext i; simp [markO], show markD D k0 0 = D from by funext i; simp [markD]]; exact h⟩
  case round =>
    obtain ⟨j, hj, rfl, rfl, hb, hod⟩ := hrel
    by_cases hlt : j < m
    · obtain ⟨g, rfl, hgl⟩ := owns_addr hod.ownI (by omega)
      have hBg : B ≤ g := (owns_block hod.ownI rfl).1
      have hgH : g < H := hH 1 g (by omega) rfl
      have hlti : (j : Int) < (m : Int) := by omega
      have hq1 := kap_ge D k0 j
      have hq2 := kap_mono D k0 (show j + 1 ≤ m by omega)
      have hq3 : kap D k0 (j + 1) = kap D k0 j + (4 + (D j).nn + (D j).kn) := rfl
      obtain ⟨hs1, hs2⟩ := hsz j hlt
      generalize hq : kap D k0 j = q at *
      have HQ : Hid (kap D k0 j = q) := hq
      clear hq
      have hqb : q ≤ 90000000 := by omega
      have hDj : markD D k0 j j = D j := by simp [markD]
      obtain ⟨c0, c1, c2, c3, c4, c5⟩ := hod.cells hlt
      have f0 := hod.free (j * 6)
      have f1 := hod.free (j * 6 + 1)
      have f2 := hod.free (j * 6 + 2)
      have f5 := hod.free (j * 6 + 5)
      rw [hDj] at c1 c2 c3 c4 c5
      have H0 : Hid (Fr B H w wr ∧ OD wr B k Z m (markO D k0 O j) (markD D k0 j) L lv (.slice (some ⟨g, 0, none⟩) m ic)) := ⟨hb, hod⟩
      have H2 : Hid (Fr B H w ((wr.setCell ⟨g, j * 6, none⟩ (.int .i64 q)).setCell ⟨g, j * 6 + 1, none⟩ (.int .i64 ((q : Int) + 1))) ∧ OD ((wr.setCell ⟨g, j * 6, none⟩ (.int .i64 q)).setCell ⟨g, j * 6 + 1, none⟩ (.int .i64 ((q : Int) + 1))) B k Z m (fun i => if i = j then (q : Int) else markO D k0 O j i) (fun i => if i = j then { D j with kind := (q : Int) + 1 } else markD D k0 j i) L lv (.slice (some ⟨g, 0, none⟩) m ic)) := ⟨(hb.put _ hBg hgH).put _ hBg hgH, by have := (hod.putIno hlt (q : Int)).putKind hlt ((q : Int) + 1); rw [hDj] at this; exact this⟩
      clear hb hod H0
      go_wp2_with fail
      have e2 : (q : Int) + 1 + 1 = ((q + 2 : Nat) : Int) := by omega
      rw [e2]
      clear e2
      refine at_world (F := fun W => Fr B H w W ∧ OD W B k Z m (fun i => if i = j then (q : Int) else markO D k0 O j i) (fun i => if i = j then { D j with kind := (q : Int) + 1 } else markD D k0 j i) L lv (.slice (some ⟨g, 0, none⟩) m ic)) H2.out ?_
      clear H2 c0 c1 c2 c3 c4 c5 f0 f1 f2 f5
      rintro W2 ⟨hb2, hod2⟩
      refine (markText_any (q + 2) W2 (by omega) (by omega)).mono ?_
      rintro e W3 ⟨rfl, hb3⟩
      have hod3 := hod2.below hb3
      have hgl2 : g < W2.heap.size := (owns_block hod2.ownI rfl).2
      have hb3' : Fr B H w W3 := hb2.below (by omega) hb3
      obtain ⟨_, _, c2, _, _, _⟩ := hod3.cells hlt
      have f2 := hod3.free (j * 6 + 2)
      have c2' : W3.cell? ⟨g, j * 6 + 2, none⟩ = some (.string (D j).text) := by rw [c2]; simp
      have H4 : Hid (Fr B H w (W3.setCell ⟨g, j * 6 + 2, none⟩ (.string ⟨(markOf (q + 2)).toArray⟩)) ∧ OD (W3.setCell ⟨g, j * 6 + 2, none⟩ (.string ⟨(markOf (q + 2)).toArray⟩)) B k Z m (fun i => if i = j then (q : Int) else markO D k0 O j i) (fun i => if i = j then { D j with kind := (q : Int) + 1, text := ⟨(markOf (q + 2)).toArray⟩ } else markD D k0 j i) L lv (.slice (some ⟨g, 0, none⟩) m ic)) := ⟨hb3'.put _ hBg hgH, by
        have := hod3.putText hlt ⟨(markOf (q + 2)).toArray⟩
        rw [show (fun i => if i = j then { D j with kind := (q : Int) + 1, text := ⟨(markOf (q + 2)).toArray⟩ } else markD D k0 j i) = (fun i => if i = j then { (fun i => if i = j then { D j with kind := (q : Int) + 1 } else markD D k0 j i) j with text := ⟨(markOf (q + 2)).toArray⟩ } else (fun i => if i = j then { D j with kind := (q : Int) + 1 } else markD D k0 j i) i) from by
          funext i
          by_cases e : i = j <;> simp [e]]
        exact this⟩
      obtain ⟨_, _, _, c3, c4, _⟩ := H4.out.2.cells hlt
      have c3' : (W3.setCell ⟨g, j * 6 + 2, none⟩ (.string ⟨(markOf (q + 2)).toArray⟩)).cell? ⟨g, j * 6 + 3, none⟩ = some (.slice (L j).nA (D j).nn (L j).nc) := by rw [c3]; simp
      have d3 : W3.cell? ⟨g, j * 6 + 3, none⟩ = some (.slice (L j).nA (D j).nn (L j).nc) := by
        obtain ⟨_, _, _, c3, _, _⟩ := hod3.cells hlt
        rw [c3]; simp
      clear c2 c3 c4 c3' hod2 hod3 hb2 hb3 hb3'
      go_wp2_with fail
      have e3 : (q : Int) + 2 + 1 = ((q + 3 : Nat) : Int) := by omega
      rw [e3]
      clear e3
      refine at_world (F := fun W => Fr B H w W ∧ OD W B k Z m (fun i => if i = j then (q : Int) else markO D k0 O j i) (fun i => if i = j then { D j with kind := (q : Int) + 1, text := ⟨(markOf (q + 2)).toArray⟩ } else markD D k0 j i) L lv (.slice (some ⟨g, 0, none⟩) m ic)) H4.out ?_
      clear H4 c2' d3 f2
      rintro W4 ⟨hb4, hod4⟩
      have hN4 : W4.ownsRow B 9 1 (.slice (L j).nA (D j).nn (L j).nc) (D j).nn (strv (lst (D j).nn (D j).names)) := by simpa using hod4.ownN hlt
      have hgl4 : g < W4.heap.size := (owns_block hod4.ownI rfl).2
      refine (markStringS_own (L j).nA (D j).nn (L j).nc (q + 3) B (D j).names W4 hN4 hs1 (by omega) (by omega)).mono ?_
      rintro e W5 ⟨rfl, hown5, hg5⟩
      have hb5 : Fr B H w W5 := hb4.grow hg5 (by omega) (fun b e => ⟨(owns_block hN4 e).1, hH (2 + 2 * j) b (by omega) (by rw [valD_n]; exact e)⟩)
      have hod5 : OD W5 B k Z m (fun i => if i = j then (q : Int) else markO D k0 O j i) (fun i => if i = j then { D j with kind := (q : Int) + 1, text := ⟨(markOf (q + 2)).toArray⟩, names := marks (q + 3) } else markD D k0 j i) L lv (.slice (some ⟨g, 0, none⟩) m ic) := by
        have := hod4.turnNames hlt (marks (q + 3)) (by simpa using hg5) (by simpa using hown5)
        rw [show (fun i => if i = j then { D j with kind := (q : Int) + 1, text := ⟨(markOf (q + 2)).toArray⟩, names := marks (q + 3) } else markD D k0 j i) = (fun i => if i = j then { (fun i => if i = j then { D j with kind := (q : Int) + 1, text := ⟨(markOf (q + 2)).toArray⟩ } else markD D k0 j i) j with names := marks (q + 3) } else (fun i => if i = j then { D j with kind := (q : Int) + 1, text := ⟨(markOf (q + 2)).toArray⟩ } else markD D k0 j i) i) from by
          funext i
          by_cases e : i = j <;> simp [e]]
        exact this
      obtain ⟨_, _, _, _, c4, _⟩ := hod5.cells hlt
      have c4' : W5.cell? ⟨g, j * 6 + 4, none⟩ = some (.slice (L j).kA (D j).kn (L j).kc) := by rw [c4]; simp
      have hK5 : W5.ownsRow B 3 1 (.slice (L j).kA (D j).kn (L j).kc) (D j).kn (intv0 (D j).kn (D j).kids) := by simpa using hod5.ownK hlt
      have hgl5 : g < W5.heap.size := (owns_block hod5.ownI rfl).2
      have H5 : Hid (Fr B H w W5 ∧ OD W5 B k Z m (fun i => if i = j then (q : Int) else markO D k0 O j i) (fun i => if i = j then { D j with kind := (q : Int) + 1, text := ⟨(markOf (q + 2)).toArray⟩, names := marks (q + 3) } else markD D k0 j i) L lv (.slice (some ⟨g, 0, none⟩) m ic)) := ⟨hb5, hod5⟩
      have HK5 : Hid _ := hK5
      clear hb4 hod4 hN4 hown5 hg5 hb5 hod5 c4 hK5
      go_wp2_with fail
      refine (markIntS_own (L j).kA (D j).kn (L j).kc (q + 3 + (D j).nn) B (D j).kids W5 HK5.out hs2 (by omega)).mono ?_
      rintro e W6 ⟨rfl, hown6, hg6⟩
      have hb6 : Fr B H w W6 := H5.out.1.grow hg6 (by omega) (fun b e => ⟨(owns_block HK5.out e).1, hH (3 + 2 * j) b (by omega) (by rw [valD_k]; exact e)⟩)
      have hod6 : OD W6 B k Z m (fun i => if i = j then (q : Int) else markO D k0 O j i) (fun i => if i = j then { D j with kind := (q : Int) + 1, text := ⟨(markOf (q + 2)).toArray⟩, names := marks (q + 3), kids := fun i => ((q + 3 + (D j).nn + i : Nat) : Int) } else markD D k0 j i) L lv (.slice (some ⟨g, 0, none⟩) m ic) := by
        have := H5.out.2.turnKids hlt (fun i => ((q + 3 + (D j).nn + i : Nat) : Int)) (by simpa using hg6) (by simpa using hown6)
        rw [show (fun i => if i = j then { D j with kind := (q : Int) + 1, text := ⟨(markOf (q + 2)).toArray⟩, names := marks (q + 3), kids := fun i => ((q + 3 + (D j).nn + i : Nat) : Int) } else markD D k0 j i) = (fun i => if i = j then { (fun i => if i = j then { D j with kind := (q : Int) + 1, text := ⟨(markOf (q + 2)).toArray⟩, names := marks (q + 3) } else markD D k0 j i) j with kids := fun i => ((q + 3 + (D j).nn + i : Nat) : Int) } else (fun i => if i = j then { D j with kind := (q : Int) + 1, text := ⟨(markOf (q + 2)).toArray⟩, names := marks (q + 3) } else markD D k0 j i) i) from by
          funext i
          by_cases e : i = j <;> simp [e]]
        exact this
      obtain ⟨_, _, _, _, _, c5⟩ := hod6.cells hlt
      have c5' : W6.cell? ⟨g, j * 6 + 5, none⟩ = some (.int .i64 (D j).turn) := by rw [c5]; simp
      have f5 := hod6.free (j * 6 + 5)
      have H7 : Hid (Fr B H w (W6.setCell ⟨g, j * 6 + 5, none⟩ (.int .i64 ((q + 3 + (D j).nn + (D j).kn : Nat) : Int))) ∧ OD (W6.setCell ⟨g, j * 6 + 5, none⟩ (.int .i64 ((q + 3 + (D j).nn + (D j).kn : Nat) : Int))) B k Z m (markO D k0 O (j + 1)) (markD D k0 (j + 1)) L lv (.slice (some ⟨g, 0, none⟩) m ic)) := ⟨hb6.put _ hBg hgH, by
        have := hod6.putTurn hlt ((q + 3 + (D j).nn + (D j).kn : Nat) : Int)
        rw [show markO D k0 O (j + 1) = (fun i => if i = j then (q : Int) else markO D k0 O j i) from by
          funext i
          by_cases e : i = j
          · subst e; simp [markO, HQ.out]
          · by_cases e2 : i < j
            · simp [markO, e, e2, show i < j + 1 by omega]
            · simp [markO, e, e2, show ¬ i < j + 1 by omega], show markD D k0 (j + 1) = (fun i => if i = j then { (fun i => if i = j then { D j with kind := (q : Int) + 1, text := ⟨(markOf (q + 2)).toArray⟩, names := marks (q + 3), kids := fun i => ((q + 3 + (D j).nn + i : Nat) : Int) } else markD D k0 j i) j with turn := ((q + 3 + (D j).nn + (D j).kn : Nat) : Int) } else (fun i => if i = j then { D j with kind := (q : Int) + 1, text := ⟨(markOf (q + 2)).toArray⟩, names := marks (q + 3), kids := fun i => ((q + 3 + (D j).nn + i : Nat) : Int) } else markD D k0 j i) i) from by
          funext i
          by_cases e : i = j
          · subst e; simp [markD, markNd, HQ.out]
          · by_cases e2 : i < j
            · simp [markD, e, e2, show i < j + 1 by omega]
            · simp [markD, e, e2, show ¬ i < j + 1 by omega]]
        exact this⟩
      have HQ3 : Hid (kap D k0 (j + 1) = q + (4 + (D j).nn + (D j).kn)) := by show _ = _; rw [kap, HQ.out]
      clear hown6 hg6 hb6 hod6 c5 H5 HK5 c4' hq1 hq2 hq3
      go_wp2_with fail
      go_roundw
      case rel =>
        have h7 := H7.out
        rw [show ((q + 3 + (D j).nn + (D j).kn : Nat) : Int) = (q : Int) + 3 + ((D j).nn : Int) + ((D j).kn : Int) from by omega] at h7
        exact ⟨j + 1, by omega, by go_num, by rw [HQ3.out]; go_num, h7.1, h7.2⟩
      case measure => simp [intOf]; omega
    · obtain rfl : j = m := by omega
      have HR : Hid _ := And.intro hb hod
      clear hb hod
      go_wp2
      go_ret
      exact ⟨rfl, HR.out.1, HR.out.2⟩
end Go.Proofs.Yteoanlkmkmajjaa

/-
  What is kept and holds its marks is told to.
-/
namespace Go.Proofs.Yteoanlkmkmajjaa
open Go.RowKit Go.Deep
set_option linter.unusedVariables false
set_option linter.unusedSimpArgs false

theorem owns_strs {w : World} {B n c : Nat} {a : Option Addr} {S : Nat → ByteArray} (h : w.ownsRow B 9 1 (.slice a n c) n (strv (lst n S))) : IsStrs w a n S := by
  by_cases hn : n = 0
  · exact Or.inl hn
  · obtain ⟨g, rfl, hg⟩ := owns_addr h (by omega)
    exact Or.inr ⟨g, 0, rfl, hg, fun i hi => by rw [Nat.zero_add, h.cellAt i (by omega)]; simp [strv, lst, hi]⟩

theorem owns_ints {w : World} {B n c : Nat} {a : Option Addr} {Z : Nat → Int} (h : w.ownsRow B 3 1 (.slice a n c) n (intv0 n Z)) : IsInts w a n Z := by
  by_cases hn : n = 0
  · exact Or.inl hn
  · obtain ⟨g, rfl, hg⟩ := owns_addr h (by omega)
    exact Or.inr ⟨g, 0, rfl, hg, fun i hi => by rw [Nat.zero_add, h.cellAt i (by omega)]; simp [intv0, hi]⟩

theorem owns_bools {w : World} {B n c : Nat} {a : Option Addr} {Z : Nat → Bool} (h : w.ownsRow B 4 1 (.slice a n c) n (boolv n Z)) : IsBools w a n Z := by
  by_cases hn : n = 0
  · exact Or.inl hn
  · obtain ⟨g, rfl, hg⟩ := owns_addr h (by omega)
    exact Or.inr ⟨g, 0, rfl, hg, fun i hi => by rw [Nat.zero_add, h.cellAt i (by omega)]; simp [boolv, hi]⟩

set_option maxRecDepth 100000 in
set_option maxHeartbeats 4000000 in
theorem heldItemS_own (ia : Option Addr) (m ic k0 B k : Nat) (Z : Nat → Bool) (O : Nat → Int) (D : Nat → Nd) (L : Nat → Loc) (lv : Value) (w : World) (h : OD w B k Z m (markO D k0 O m) (markD D k0 m) L lv (.slice ia m ic)) (hm : m ≤ 10) (hk1 : 1 ≤ k0) (hkap : kap D k0 m ≤ 90000000) (hsz : ∀ i, i < m → (D i).nn ≤ 1000000 ∧ (D i).kn ≤ 1000000) :
    Calls Try.prog 34 #[.slice ia m ic, .int .i64 k0] w fun e w' => e = .returned (.int .i64 (kap D k0 m : Nat)) ∧ Below w.heap.size w w' := by
  go_enter Try.func34, Try.ntmps34
  go_wp2
  go_loopw [1, 5] (fun kk i wr => ∃ j : Nat, j ≤ m ∧ i = .int .i64 j ∧ kk = .int .i64 (kap D k0 j : Nat) ∧ Below w.heap.size w wr) (fun _ i _ => m - (intOf i).toNat)
  case atStart => exact ⟨0, Nat.zero_le _, rfl, rfl, Below.refl _ _⟩
  case round =>
    obtain ⟨j, hj, rfl, rfl, hb⟩ := hrel
    by_cases hlt : j < m
    · have hod := h.below hb
      obtain ⟨g, rfl, hgl⟩ := owns_addr hod.ownI (by omega)
      have hlti : (j : Int) < (m : Int) := by omega
      have hq1 := kap_ge D k0 j
      have hq2 := kap_mono D k0 (show j + 1 ≤ m by omega)
      have hq3 : kap D k0 (j + 1) = kap D k0 j + (4 + (D j).nn + (D j).kn) := rfl
      obtain ⟨hs1, hs2⟩ := hsz j hlt
      have hOj : markO D k0 O m j = ((kap D k0 j : Nat) : Int) := by simp [markO, hlt]
      have hDj : markD D k0 m j = markNd (D j) (kap D k0 j) := by simp [markD, hlt]
      generalize hq : kap D k0 j = q at *
      have HQ : Hid (kap D k0 j = q) := hq
      clear hq
      have hqb : q ≤ 90000000 := by omega
      have HQ3 : Hid (kap D k0 (j + 1) = q + (4 + (D j).nn + (D j).kn)) := hq3
      have HC : Hid (∀ W, Below wr.heap.size wr W → W.cell? ⟨g, j * 6, none⟩ = some (.int .i64 (q : Int)) ∧ W.cell? ⟨g, j * 6 + 1, none⟩ = some (.int .i64 ((q : Int) + 1)) ∧ W.cell? ⟨g, j * 6 + 2, none⟩ = some (.string ⟨(markOf (q + 2)).toArray⟩) ∧
        W.cell? ⟨g, j * 6 + 3, none⟩ = some (.slice (L j).nA (D j).nn (L j).nc) ∧ W.cell? ⟨g, j * 6 + 4, none⟩ = some (.slice (L j).kA (D j).kn (L j).kc) ∧ W.cell? ⟨g, j * 6 + 5, none⟩ = some (.int .i64 ((q : Int) + 3 + ((D j).nn : Int) + ((D j).kn : Int))) ∧
        IsStrs W (L j).nA (D j).nn (marks (q + 3)) ∧ IsInts W (L j).kA (D j).kn (fun i => ((q + 3 + (D j).nn + i : Nat) : Int)) ∧ Below w.heap.size w W) := fun W hW => by
        have hod2 := hod.below hW
        obtain ⟨c0, c1, c2, c3, c4, c5⟩ := hod2.cells hlt
        have hn := hod2.ownN hlt
        have hk := hod2.ownK hlt
        rw [hOj] at c0
        rw [hDj] at c1 c2 c3 c4 c5 hn hk
        refine ⟨c0, ?_, c2, c3, c4, ?_, owns_strs hn, owns_ints hk, hb.trans (hW.mono hb.size)⟩
        · rw [c1]; simp [markNd]
        · rw [c5]; simp [markNd]
      clear hod hb hOj hDj hq1 hq2 hq3
      obtain ⟨c0, c1, c2, c3, c4, c5, _, _, _⟩ := HC.out wr (Below.refl _ _)
      have z0 : ((q : Int) != (q : Int)) = false := by simp
      have z1 : ((q : Int) + 1 != (q : Int) + 1) = false := by simp
      have C2 := Lat.cell (B := wr.heap.size) c2 hgl
      have hcall : Hid (∀ nq : Lat wr.heap.size wr, Calls Try.prog 58 #[.int .i64 ((q : Int) + 1 + 1)] nq.val fun e w'' => e = .returned (.string ⟨(markOf (q + 2)).toArray⟩) ∧ ∃ m : Lat wr.heap.size wr, w'' = m.val) := fun nq => by
        have := Calls.lat_of (markText_any (q + 2) nq.val (by omega) (by omega)) (B := wr.heap.size) (w0 := wr) (fun e w' h => ⟨h.1, h.2.mono nq.bel.size⟩)
        rw [show ((q : Int) + 1 + 1) = ((q + 2 : Nat) : Int) from by omega]
        exact this
      have z2 : (!((⟨(markOf (q + 2)).toArray⟩ : ByteArray).toList == (⟨(markOf (q + 2)).toArray⟩ : ByteArray).toList)) = false := by simp
      go_wp2_with fail
      refine wp_region_lat (B := wr.heap.size) (w0 := wr) (by kernel_rfl) (by kernel_rfl) (Below.refl _ _) ?_
      repeat (go_big_quiet_step (exact hcall.out _))
      refine wpQuiet_nil ?_
      rintro _ ⟨nq, rfl⟩
      clear hcall C2 c0 c1 c2 c3 c4 c5
      obtain ⟨_, _, _, c3, c4, c5, hs3, _, _⟩ := HC.out nq.val nq.bel
      go_wp2_with fail
      rw [show (q : Int) + 1 + 1 + 1 = ((q + 3 : Nat) : Int) from by omega]
      refine (heldStringS_any (L j).nA (D j).nn (L j).nc (q + 3) nq.val hs3 (by omega) (by omega) (by omega)).mono ?_
      rintro e W4 ⟨rfl, hb4⟩
      have hb4' : Below wr.heap.size wr W4 := nq.bel.trans (hb4.mono nq.bel.size)
      clear c3 c4 c5 hs3 hb4
      obtain ⟨_, _, _, _, c4, c5, _, hi4, hbw⟩ := HC.out W4 hb4'
      have y1 : decide (((q + 3 + (D j).nn : Nat) : Int) < 0) = false := by simp; omega
      have HB4 : Hid (Below w.heap.size w W4) := hbw
      clear hbw hb4' HC
      go_wp2_with fail
      refine (heldIntS_own (L j).kA (D j).kn (L j).kc (q + 3 + (D j).nn) W4 hi4 (by omega) (by omega)).mono ?_
      rintro e W5 ⟨rfl, rfl⟩
      have y2 : decide (((q + 3 + (D j).nn + (D j).kn : Nat) : Int) < 0) = false := by simp; omega
      have y3 : ((q : Int) + 3 + ((D j).nn : Int) + ((D j).kn : Int) != (q : Int) + 3 + ((D j).nn : Int) + ((D j).kn : Int)) = false := by simp
      clear hi4 y1
      go_wp2_with fail
      go_roundw
      case rel => exact ⟨j + 1, by omega, by go_num, by rw [HQ3.out]; go_num, HB4.out⟩
      case measure => simp [intOf]; omega
    · obtain rfl : j = m := by omega
      have HR : Hid _ := hb
      clear hb
      go_wp2
      go_ret
      exact ⟨rfl, HR.out⟩

set_option maxHeartbeats 2000000 in
theorem markDump_own (la ia : Option Addr) (n lc m ic B : Nat) (since date : Int) (Z : Nat → Bool) (O : Nat → Int) (D : Nat → Nd) (L : Nat → Loc) (w : World) (h : OD w B n Z m O D L (.slice la n lc) (.slice ia m ic)) (hn : n ≤ 10) (hm : m ≤ 10) (hkap : kap D (1 + n) m ≤ 90000000) (hsz : ∀ i, i < m → (D i).nn ≤ 1048576 ∧ (D i).kn ≤ 1048576) (hB : B ≤ w.heap.size) (H : Nat) (hH : ∀ d b, d < 2 + 2 * m → (valD (.slice la n lc) (.slice ia m ic) D L d).ownBlock = some b → b < H) :
    Calls Try.prog 12 #[.agg #[.int .i64 since, .int .i64 date, .slice la n lc, .slice ia m ic], .int .i64 1] w fun e w' => e = .returned (.int .i64 (kap D (1 + n) m : Nat)) ∧ Fr B H w w' ∧ OD w' B n (markB 1) m (markO D (1 + n) O m) (markD D (1 + n) m) L (.slice la n lc) (.slice ia m ic) := by
  go_enter Try.func12, Try.ntmps12
  go_wp2_with fail
  refine at_world (F := New1 w _ _) (new1 w _ _) ?_
  rintro W ⟨hp, hb, hs⟩
  have hod := h.below hb
  refine (markBoolS_own la n lc 1 B Z W hod.ownL (by omega) (by omega)).mono ?_
  rintro e W2 ⟨rfl, hown, hg⟩
  have hod2 := hod.turnLive hg hown
  have hne : (Value.slice la n lc).ownBlock ≠ some w.heap.size := fun e => by have := (owns_block h.ownL e).2; omega
  have hp2 : Blk W2 w.heap.size #[.int .i64 since, .int .i64 date, .slice la n lc, .slice ia m ic] 29 := hp.of_block (hg.block _ hp.lt (fun e => hne e.symm))
  have p3 : W2.cell? ⟨w.heap.size, 3, none⟩ = some (.slice ia m ic) := hp2.cell 3
  have H2 : Hid (Fr B H w W2 ∧ OD W2 B n (markB 1) m O D L (.slice la n lc) (.slice ia m ic)) := ⟨((Fr.refl B H w).below hB hb).grow hg (by omega) (fun b e => ⟨(owns_block hod.ownL e).1, hH 0 b (by omega) e⟩), hod2⟩
  clear hp hb hs hod hown hg hod2 hp2
  go_wp2_with fail
  rw [show (1 : Int) + (n : Int) = ((1 + n : Nat) : Int) from by omega]
  refine (markItemS_own H ia m ic (1 + n) B n (markB 1) O D L (.slice la n lc) W2 H2.out.2 hm (by omega) hH hkap hsz).mono ?_
  rintro e W3 ⟨rfl, hb3, hod3⟩
  have H3 : Hid (Fr B H w W3 ∧ OD W3 B n (markB 1) m (markO D (1 + n) O m) (markD D (1 + n) m) L (.slice la n lc) (.slice ia m ic)) := ⟨H2.out.1.trans (by have := H2.out.1.bel.size; omega) hb3, hod3⟩
  clear hb3 hod3 p3
  go_wp2
  go_ret
  exact ⟨rfl, H3.out.1, H3.out.2⟩

set_option maxHeartbeats 2000000 in
theorem heldDump_own (la ia : Option Addr) (n lc m ic B : Nat) (since date : Int) (O : Nat → Int) (D : Nat → Nd) (L : Nat → Loc) (w : World) (h : OD w B n (markB 1) m (markO D (1 + n) O m) (markD D (1 + n) m) L (.slice la n lc) (.slice ia m ic)) (hn : n ≤ 10) (hm : m ≤ 10) (hkap : kap D (1 + n) m ≤ 90000000) (hsz : ∀ i, i < m → (D i).nn ≤ 1000000 ∧ (D i).kn ≤ 1000000) :
    Calls Try.prog 13 #[.agg #[.int .i64 since, .int .i64 date, .slice la n lc, .slice ia m ic], .int .i64 1] w fun e w' => e = .returned (.int .i64 (kap D (1 + n) m : Nat)) ∧ Below w.heap.size w w' := by
  go_enter Try.func13, Try.ntmps13
  go_wp2_with fail
  refine at_world (F := New1 w _ _) (new1 w _ _) ?_
  rintro W ⟨hp, hb, hs⟩
  have hod := h.below hb
  refine (heldBoolS_own la n lc 1 W (owns_bools hod.ownL) (by omega) (by omega)).mono ?_
  rintro e W2 ⟨rfl, rfl⟩
  have p3 : W2.cell? ⟨w.heap.size, 3, none⟩ = some (.slice ia m ic) := hp.cell 3
  have y1 : decide (((1 + n : Nat) : Int) < 0) = false := by simp; omega
  have H2 : Hid (Below w.heap.size w W2 ∧ OD W2 B n (markB 1) m (markO D (1 + n) O m) (markD D (1 + n) m) L (.slice la n lc) (.slice ia m ic)) := ⟨hb, hod⟩
  clear hp hb hs hod
  go_wp2_with fail
  rw [show (1 : Int) + (n : Int) = ((1 + n : Nat) : Int) from by omega]
  refine (heldItemS_own ia m ic (1 + n) B n (markB 1) O D L (.slice la n lc) W2 H2.out.2 hm (by omega) hkap hsz).mono ?_
  rintro e W3 ⟨rfl, hb3⟩
  have y2 : decide (((kap D (1 + n) m : Nat) : Int) < 0) = false := by simp
  have H3 : Hid (Below w.heap.size w W3) := H2.out.1.trans (hb3.mono H2.out.1.size)
  clear hb3 p3 y1
  go_wp2
  go_ret
  exact ⟨rfl, H3.out⟩
end Go.Proofs.Yteoanlkmkmajjaa

/-
  What DumpOf answers, said once for the specification and the program: one thing kept, in memory of its own.
-/
namespace Go.Proofs.Yteoanlkmkmajjaa
open Go.RowKit Go.Deep
set_option linter.unusedVariables false
set_option linter.unusedSimpArgs false

theorem OD.ext {W : World} {B k n : Nat} {Z : Nat → Bool} {O O' : Nat → Int} {D D' : Nat → Nd} {L : Nat → Loc} {lv iv : Value} (h : OD W B k Z n O D L lv iv) (he : ∀ i, i < n → O' i = O i ∧ D' i = D i) : OD W B k Z n O' D' L lv iv := by
  have hr : ∀ d, d < 2 + 2 * n → rowD k Z n O' D' L d = rowD k Z n O D L d := fun d hd => by
    unfold rowD
    by_cases e0 : d = 0
    · rw [if_pos e0, if_pos e0]
    · by_cases e1 : d = 1
      · rw [if_neg e0, if_pos e1, if_neg e0, if_pos e1, rowsI_ext n (fun i hi => ⟨(he i hi).1, (he i hi).2, rfl⟩)]
      · rw [if_neg e0, if_neg e1, if_neg e0, if_neg e1, (he ((d - 2) / 2) (by omega)).2]
  have hv : ∀ d, d < 2 + 2 * n → valD lv iv D' L d = valD lv iv D L d := fun d hd => by
    unfold valD
    by_cases e0 : d = 0
    · rw [if_pos e0, if_pos e0]
    · by_cases e1 : d = 1
      · rw [if_neg e0, if_pos e1, if_neg e0, if_pos e1]
      · rw [if_neg e0, if_neg e1, if_neg e0, if_neg e1, (he ((d - 2) / 2) (by omega)).2]
  exact ⟨⟨fun d hd => by rw [hr d hd, hv d hd]; exact h.rows.own d hd, fun d1 d2 g1 g2 hne b e1 e2 => by rw [hv d1 g1] at e1; rw [hv d2 g2] at e2; exact h.rows.apart d1 d2 g1 g2 hne b e1 e2⟩⟩

/-- Something kept, in memory of its own. -/
def OwnDp (W : World) (B : Nat) (d : Dp) (l : DLoc) : Prop := OD W B d.ln d.live d.m d.ino d.nd l.L (.slice l.lA d.ln l.lc) (.slice l.iA d.m l.ic)

theorem OwnDp.dpIn {W : World} {B : Nat} {d : Dp} {l : DLoc} (h : OwnDp W B d l) : DpIn W d l := by
  refine ⟨owns_bools h.ownL, ?_⟩
  by_cases hm : d.m = 0
  · exact Or.inl hm
  · obtain ⟨g, hg, hgl⟩ := owns_addr h.ownI (by omega)
    refine Or.inr ⟨g, 0, hg, hgl, fun i hi => ?_⟩
    have h' : OD W B d.ln d.live d.m d.ino d.nd l.L (.slice l.lA d.ln l.lc) (.slice (some ⟨g, 0, none⟩) d.m l.ic) := by rw [← hg]; exact h
    obtain ⟨c0, c1, c2, c3, c4, c5⟩ := h'.cells hi
    rw [Nat.zero_add]
    exact ⟨c0, c1, c2, c3, c4, c5, owns_strs (h.ownN hi), owns_ints (h.ownK hi)⟩

/-- What is kept of a tree that is ok. -/
def dpOf (n : Nat) (D : Nat → Nd) (now since : Int) : Dp := ⟨since, now, n, fun i => (D i).kind != 0, (selTo D since n).length, fun i => ((selTo D since n).getD i 0 : Nat), fun i => D ((selTo D since n).getD i 0)⟩
/-- Nothing. -/
def dpNone : Dp := ⟨0, 0, 0, fun _ => false, 0, fun _ => 0, fun _ => ⟨0, ByteArray.empty, 0, fun _ => ByteArray.empty, 0, fun _ => 0, 0⟩⟩

theorem selTo_lt {D : Nat → Nd} {since : Int} {n i : Nat} (h : i < (selTo D since n).length) : (selTo D since n).getD i 0 < n := by
  have hm : (selTo D since n).getD i 0 ∈ selTo D since n := by
    rw [List.getD_eq_getElem?_getD, List.getElem?_eq_getElem h]
    exact List.getElem_mem h
  have := List.mem_filter.1 hm
  simpa using this.1

theorem ndOk_same {n : Nat} {D : Nat → Nd} {now : Int} {d : Nd} (h : ndOk n D now d = true) : d.kn = d.nn := by
  unfold ndOk at h
  split at h
  · unfold freeOk at h; simp at h; omega
  · split at h
    · unfold fileOk at h; simp at h; omega
    · split at h
      · unfold dirOk at h; simp at h; exact h.1.1.2.2
      · cases h

theorem kap_le {D : Nat → Nd} {k0 c : Nat} : ∀ m, (∀ i, i < m → (D i).nn + (D i).kn ≤ c) → kap D k0 m ≤ k0 + m * (4 + c)
  | 0, _ => by simp [kap]
  | m + 1, h => by
    have h1 := kap_le (D := D) (k0 := k0) m (fun i hi => h i (by omega))
    have h2 := h m (by omega)
    rw [kap, Nat.succ_mul]
    omega

/-- The bounds that an answer keeps. -/
structure DpSmall (d : Dp) : Prop where
  fits : d.Fits
  ln : d.ln ≤ 10
  m : d.m ≤ 10
  kap : kap d.nd (1 + d.ln) d.m ≤ 90000000
  nds : ∀ i, i < d.m → (d.nd i).nn ≤ 1000000 ∧ (d.nd i).kn ≤ 1000000

theorem dpNone_small : DpSmall dpNone :=
  ⟨⟨by unfold In64 dpNone; simp, by unfold In64 dpNone; simp, by unfold maxLen dpNone; simp, by unfold maxLen dpNone; simp, fun i hi => absurd hi (Nat.not_lt_zero _), fun i hi => absurd hi (Nat.not_lt_zero _)⟩, by simp [dpNone], by simp [dpNone], by simp [dpNone, kap], fun i hi => absurd hi (Nat.not_lt_zero _)⟩

theorem dpOf_small {n : Nat} {D : Nat → Nd} {now since : Int} (hg : TreeGood n D now) (hf : FitAll n D) (hsz : sizeTo D n ≤ 1048576) (h0 : 0 ≤ since) (h1 : since ≤ now) : DpSmall (dpOf n D now since) := by
  have hl := selTo_len D since n
  have hfew := hg.few
  have hsoon := hg.soon
  have hnd : ∀ i, i < (selTo D since n).length → ((D ((selTo D since n).getD i 0)).nn + (D ((selTo D since n).getD i 0)).kn ≤ 1048576) ∧ (D ((selTo D since n).getD i 0)).kn = (D ((selTo D since n).getD i 0)).nn := fun i hi => by
    have h2 := selTo_lt hi
    have h3 := size_le_sizeTo D n _ h2
    unfold Nd.size at h3
    exact ⟨by omega, ndOk_same (hg.nodes _ h2)⟩
  refine ⟨⟨?_, ?_, ?_, ?_, fun i hi => ?_, fun i hi => hf _ (selTo_lt hi)⟩, hfew, by show (selTo D since n).length ≤ 10; omega, ?_, fun i hi => ?_⟩
  · show In64 since; unfold In64; omega
  · show In64 now; unfold In64; omega
  · show n ≤ maxLen; unfold maxLen; omega
  · show (selTo D since n).length ≤ maxLen; unfold maxLen; omega
  · have := selTo_lt hi
    show In64 (((selTo D since n).getD i 0 : Nat) : Int)
    unfold In64
    omega
  · have h2 := kap_le (D := fun i => D ((selTo D since n).getD i 0)) (k0 := 1 + n) (c := 1048576) (selTo D since n).length (fun i hi => (hnd i hi).1)
    have h3 : (selTo D since n).length * (4 + 1048576) ≤ 10 * (4 + 1048576) := Nat.mul_le_mul_right _ (by omega)
    show kap (fun i => D ((selTo D since n).getD i 0)) (1 + n) (selTo D since n).length ≤ 90000000
    omega
  · have := hnd i hi
    exact ⟨by show (D ((selTo D since n).getD i 0)).nn ≤ 1000000; omega, by show (D ((selTo D since n).getD i 0)).kn ≤ 1000000; omega⟩

/-- One answer, whoever is asked. -/
theorem dump_ans (n : Nat) (D : Nat → Nd) (now since : Int) (hf : FitAll n D) (hsz : sizeTo D n ≤ 1048576) : ∃ (d : Dp) (ok : Bool), DpSmall d ∧ ∀ w e w', DumpOfPost w n D now since e w' → Below w.heap.size w w' ∧ ∃ l, e = .returned (.tuple #[dpV d l, .bool ok]) ∧ OwnDp w' w.heap.size d l := by
  by_cases hgo : TreeGood n D now ∧ 0 ≤ since ∧ since ≤ now
  · refine ⟨dpOf n D now since, true, dpOf_small hgo.1 hf hsz hgo.2.1 hgo.2.2, fun w e w' h => ⟨h.1, ?_⟩⟩
    rcases h.2 with ⟨hno, _⟩ | ⟨_, _, _, la, lc, m, ia, ic, O, E, M, he, hod, hsel⟩
    · exact absurd hgo hno
    · have hm := hsel.len
      subst hm
      exact ⟨⟨la, lc, ia, ic, M⟩, he, hod.ext (fun i hi => ⟨((hsel.each i hi).1).symm, ((hsel.each i hi).2).symm⟩)⟩
  · refine ⟨dpNone, false, dpNone_small, fun w e w' h => ⟨h.1, ?_⟩⟩
    rcases h.2 with ⟨_, he⟩ | ⟨h1, h2, h3, _⟩
    · exact ⟨⟨none, 0, none, 0, fun _ => ⟨none, 0, none, 0⟩⟩, he, OD.start _ _ _ _ _ _⟩
    · exact absurd ⟨h1, h2, h3⟩ hgo
end Go.Proofs.Yteoanlkmkmajjaa

/-
  What turnedSince yields to whoever ranges over it: the places that were turned, in order; all of them, or the first ones, where a round has said that it wants no more.
-/
namespace Go.Proofs.Yteoanlkmkmajjaa
open Go.RowKit Go.Shelf
set_option linter.unusedVariables false
set_option linter.unusedSimpArgs false
attribute [local go_sem] Oper.semAt_some

/-- Those of the first k that were turned since. -/
def selT (D : Nat → Nd) (since : Int) (k : Nat) : List Nat := (List.range k).filter fun i => decide (since < (D i).turn)
theorem selT_yes {D : Nat → Nd} {since : Int} {k : Nat} (h : since < (D k).turn) : selT D since (k + 1) = selT D since k ++ [k] := by simp [selT, List.range_succ, List.filter_append, h]
theorem selT_no {D : Nat → Nd} {since : Int} {k : Nat} (h : ¬ since < (D k).turn) : selT D since (k + 1) = selT D since k := by simp [selT, List.range_succ, List.filter_append, h]
theorem selT_pre (D : Nat → Nd) (since : Int) {k n : Nat} (h : k ≤ n) : selT D since k <+: selT D since n := by
  induction h with
  | refl => exact List.prefix_refl _
  | step h ih =>
    rename_i m
    by_cases hm : since < (D m).turn
    · rw [selT_yes hm]; exact ih.trans (List.prefix_append _ _)
    · rw [selT_no hm]; exact ih

/-- What a round keeps: the blocks that the function reads. -/
def KeepsTwo (S b : Nat) (W W' : World) : Prop := W'.heap[S]? = W.heap[S]? ∧ W'.heap[b]? = W.heap[b]?

set_option maxRecDepth 100000 in
set_option maxHeartbeats 4000000 in
theorem turned1_in (q : Nat) (hq : 1 ≤ q) (l T S b off n c : Nat) (now since : Int) (D : Nat → Nd) (L : Nat → Loc) (hn : n ≤ 10) (J Jx : List Nat → World → Prop)
    (hY : ∀ pre x W, x < n → since < (D x).turn → J pre W → pre.length < (selT D since n).length → YieldAt Fence.wide (q - 1) Try.prog l #[.int .i64 (x : Nat), ndV (D x) (L x)] W fun e W' =>
      (e = .returned (.bool true) ∧ J (pre ++ [x]) W' ∧ KeepsTwo S b W W') ∨ (e = .returned (.bool false) ∧ Jx (pre ++ [x]) W'))
    (hJa : ∀ pre W o, J pre W → J pre (W.alloc o))
    (W : World) (hT : W.cell? ⟨T, 0, none⟩ = some (.slice (some ⟨b, off, none⟩) n c)) (hSs : W.cell? ⟨S, 0, none⟩ = some (.int .i64 since)) (hSl : S < W.heap.size) (hbl : b < W.heap.size)
    (hc : ∀ i, i < n → W.cell? ⟨b, off + i * 5, none⟩ = some (.int .i64 (D i).kind) ∧ W.cell? ⟨b, off + i * 5 + 1, none⟩ = some (.string (D i).text) ∧
      W.cell? ⟨b, off + i * 5 + 2, none⟩ = some (.slice (L i).nA (D i).nn (L i).nc) ∧ W.cell? ⟨b, off + i * 5 + 3, none⟩ = some (.slice (L i).kA (D i).kn (L i).kc) ∧ W.cell? ⟨b, off + i * 5 + 4, none⟩ = some (.int .i64 (D i).turn)) (h0 : J [] W) :
    CallsIn Fence.wide q Try.prog 54 #[.func (.yield l) #[] #[], .pointer (some ⟨T, 0, none⟩), .pointer (some ⟨S, 0, none⟩)] W fun e W' => (∃ v, e = .returned v) ∧
      (J (selT D since n) W' ∨ (∃ pre : List Nat, pre <+: selT D since n ∧ Jx pre W')) := by
  have HC : Hid _ := hc
  clear hc
  refine callsIn_of_wp Try.func54 rfl trivial ?_ rfl
  simp only [Try.ntmps54, List.size_toArray, List.length_cons, List.length_nil, Nat.reduceAdd, Nat.reduceSub, Array.replicate_succ, Array.replicate_zero, List.push_toArray, List.append_toArray, List.nil_append, List.cons_append]
  gi_wp2
  gi_loopw [9] (fun i wr => ∃ k : Nat, k ≤ n ∧ i = .int .i64 k ∧ J (selT D since k) wr ∧ wr.heap[S]? = W.heap[S]? ∧ wr.heap[b]? = W.heap[b]? ∧ S < wr.heap.size ∧ b < wr.heap.size) (fun i _ => n - (intOf i).toNat)
  case atStart => exact ⟨0, Nat.zero_le _, rfl, h0, rfl, rfl, hSl, hbl⟩
  case round =>
    obtain ⟨k, hk, rfl, hJ, hS, hb, hSl', hbl'⟩ := hrel
    have HJ : Hid (J (selT D since k) wr ∧ wr.heap[S]? = W.heap[S]? ∧ wr.heap[b]? = W.heap[b]?) := ⟨hJ, hS, hb⟩
    clear hJ hS hb
    by_cases hlt : k < n
    · have hlti : (k : Int) < (n : Int) := by omega
      have hcb : ∀ o, wr.cell? ⟨b, o, none⟩ = W.cell? ⟨b, o, none⟩ := fun o => World.cell?_of_block (a := ⟨b, o, none⟩) HJ.out.2.2
      obtain ⟨e0, e1, e2, e3, e4⟩ := HC.out k hlt
      have c0 := (hcb _).trans e0
      have c1 := (hcb _).trans e1
      have c2 := (hcb _).trans e2
      have c3 := (hcb _).trans e3
      have c4 := (hcb _).trans e4
      have cs : wr.cell? ⟨S, 0, none⟩ = some (.int .i64 since) := (World.cell?_of_block (a := ⟨S, 0, none⟩) HJ.out.2.1).trans hSs
      have hSne : S ≠ wr.heap.size := by omega
      have hbne : b ≠ wr.heap.size := by omega
      clear hcb e0 e1 e2 e3 e4
      by_cases ht : since < (D k).turn
      · have hbt : decide (since < (D k).turn) = true := by simp; omega
        have HTK : Hid (since < (D k).turn) := ht
        have HS2 : Hid (selT D since (k + 1) = selT D since k ++ [k]) := selT_yes ht
        have HP : Hid (selT D since (k + 1) <+: selT D since n) := selT_pre D since (by omega)
        have hpl : (selT D since k).length < (selT D since n).length := by
          have := HP.out.length_le
          rw [HS2.out] at this
          simp at this
          omega
        clear ht
        have hJ1 := hJa _ _ (.cells #[.int .i64 (D k).kind, .string (D k).text, .slice (L k).nA (D k).nn (L k).nc, .slice (L k).kA (D k).kn (L k).kc, .int .i64 (D k).turn] 53) HJ.out.1
        obtain ⟨fn, tmps, assign, body, hy, hR⟩ := hY (selT D since k) k _ hlt HTK.out hJ1 hpl
        have HSl : Hid (∀ W3, KeepsTwo S b (wr.alloc (.cells #[.int .i64 (D k).kind, .string (D k).text, .slice (L k).nA (D k).nn (L k).nc, .slice (L k).kA (D k).kn (L k).kc, .int .i64 (D k).turn] 53)) W3 → W3.heap[S]? = W.heap[S]? ∧ W3.heap[b]? = W.heap[b]? ∧ S < W3.heap.size ∧ b < W3.heap.size) := fun W3 h3 => by
          have a1 : W3.heap[S]? = W.heap[S]? := h3.1.trans ((Go.Deep.blk_alloc_lt _ _ _ hSl').trans HJ.out.2.1)
          have a2 : W3.heap[b]? = W.heap[b]? := h3.2.trans ((Go.Deep.blk_alloc_lt _ _ _ hbl').trans HJ.out.2.2)
          exact ⟨a1, a2, (Array.getElem?_eq_some_iff.1 (a1.trans (Array.getElem?_eq_getElem hSl))).1, (Array.getElem?_eq_some_iff.1 (a2.trans (Array.getElem?_eq_getElem hbl))).1⟩
        clear hJ1 HJ
        dsimp only [ndV] at hy
        gi_wp2
        refine hR.mono ?_
        rintro e' W3 (⟨rfl, hJ3, hk3⟩ | ⟨rfl, hJx3⟩)
        · have HJ3 : Hid (J (selT D since k ++ [k]) W3 ∧ W3.heap[S]? = W.heap[S]? ∧ W3.heap[b]? = W.heap[b]? ∧ S < W3.heap.size ∧ b < W3.heap.size) := ⟨hJ3, HSl.out W3 hk3⟩
          clear hJ3 hk3 hy hR HSl
          gi_wp2
          go_roundw
          case rel => exact ⟨k + 1, by omega, by go_num, by rw [HS2.out]; exact HJ3.out.1, HJ3.out.2⟩
          case measure => simp [intOf]; omega
        · have HX : Hid (Jx (selT D since k ++ [k]) W3) := hJx3
          clear hJx3 hy hR HSl
          gi_wp2
          refine bodyPost_ret (results_none rfl _ _ _) rfl ?_
          refine ⟨⟨_, rfl⟩, .inr ⟨selT D since k ++ [k], ?_, HX.out⟩⟩
          have := HP.out
          rwa [HS2.out] at this
      · have hbt : decide (since < (D k).turn) = false := by simp; omega
        have HS2 : Hid (selT D since (k + 1) = selT D since k) := selT_no ht
        clear ht
        gi_wp2
        refine ⟨fun f hf => (by cases hf), ?_⟩
        rename_i hKK xr hr wr' heqr
        refine hKK _ _ ?_
        clear heqr hKK
        gi_wp2
        go_roundw
        case rel => exact ⟨k + 1, by omega, by go_num, by rw [HS2.out]; exact hJa _ _ _ HJ.out.1, (Go.Deep.blk_alloc_lt _ _ _ hSl').trans HJ.out.2.1, (Go.Deep.blk_alloc_lt _ _ _ hbl').trans HJ.out.2.2, by simp; omega, by simp; omega⟩
        case measure => simp [intOf]; omega
    · obtain rfl : k = n := by omega
      gi_wp2
      refine bodyPost_end (results_none rfl _ _ _) rfl ?_
      exact ⟨⟨_, rfl⟩, .inl HJ.out.1⟩

set_option maxHeartbeats 1000000 in
/-- turnedSince: the tree and the turn are boxed; the function value holds the boxes. -/
theorem turned_in (q : Nat) (a : Option Addr) (n c : Nat) (now since : Int) (w : World) :
    CallsIn Fence.wide q Try.prog 25 #[trV a n c now, .int .i64 since] w fun e w' => e = .returned (.func (.func 54) #[] #[.pointer (some ⟨w.heap.size, 0, none⟩), .pointer (some ⟨w.heap.size + 1, 0, none⟩)]) ∧ w' = (w.alloc (.cells #[.slice a n c, .int .i64 now] 34)).alloc (.cells #[.int .i64 since] 3) := by
  unfold trV
  refine callsIn_of_wp Try.func25 rfl trivial ?_ rfl
  simp only [Try.ntmps25, List.size_toArray, List.length_cons, List.length_nil, Nat.reduceAdd, Nat.reduceSub, Array.replicate_succ, Array.replicate_zero, List.push_toArray, List.append_toArray, List.nil_append, List.cons_append]
  gi_wp2
  go_ret
  exact ⟨rfl, rfl⟩
end Go.Proofs.Yteoanlkmkmajjaa

/-
  A statement whose order is drawn, within a round of a range over a function: it is walked as anywhere else. Plain laws.
-/
namespace Go.Proofs.Yteoanlkmkmajjaa
open Go.RowKit
set_option linter.unusedVariables false

section
variable {P : Program} {md : Region.Mode} {Q : Exit → Act → World → Prop} {ops : Array Oper} {l n : Nat}

def noDefer (o : Oper) : Bool := match o.op with | .defer _ => false | _ => true

theorem oper_round {o : Oper} {a : Act} {w : World} {K : Act → World → Prop} (hd : noDefer o = true) (h : o.wp P a w K Q) : o.wpIn (Fence.wide.inRound l) n P a w K Q := by
  have hd' : ∀ c, o.op ≠ .defer c := fun c e => by simp [noDefer, e] at hd
  unfold Oper.wpIn
  refine ⟨fun _ _ => trivial, ?_⟩
  rw [Oper.semAt_eq _ _ _ hd']
  unfold Oper.wp at h
  generalize (execOp a.eval o).run P w = r at *
  cases r with
  | ok x w' =>
    cases x with
    | value v => exact h
    | skip => exact h
    | defer d => exact h
    | enter f args => exact ⟨fun e => by simp [Fence.wide] at e, CallsIn.inRound l (callsIn_wide.2 h)⟩
    | row row args => exact ⟨fun e => by simp [Fence.wide] at e, fun c cs _ => let ⟨v, w', r, s⟩ := h c cs; ⟨v, w', r, stepsIn_wide.2 s⟩⟩
    | _ => exact absurd h (by simp [Oper.upon])
  | halt x w' =>
    cases x <;> first | exact h | exact absurd h (by simp [Oper.upon])

theorem wpAnyIn_of_any (hd : ∀ o ∈ ops.toList, noDefer o = true) (hQ : ¬ LetsOut Q) : ∀ (fuel : Nat) (listed : Array Bool) (a : Act) (w : World), wpAny P md ops Q fuel listed a w → wpAnyIn (Fence.wide.inRound l) n P md ops Q fuel listed a w
  | 0, _, _, _, h => h
  | fuel + 1, listed, a, w, h => ⟨h.1, fun i hi => by
    have h1 := h.2 i hi
    unfold wpOp at h1
    unfold wpOpIn
    cases ho : ops[i]? with
    | none => simp only [ho] at h1 ⊢; exact wpAnyIn_of_any hd hQ fuel _ a w h1
    | some o =>
      have hdo : noDefer o = true := hd o (by have := Array.mem_of_getElem? ho; simpa using this)
      simp only [ho] at h1 ⊢
      by_cases hw : Region.wanted o (yielded ops a.tmps) = true
      · rw [if_pos hw] at h1 ⊢
        rcases h1 with h1 | ⟨_, h1⟩
        · exact Oper.wpIn_mono (fun a w h => wpAnyIn_of_any hd hQ fuel _ a w h) (oper_round hdo h1)
        · exact absurd h1 hQ
      · rw [if_neg hw] at h1 ⊢
        exact ⟨fun _ _ => trivial, wpAnyIn_of_any hd hQ fuel _ _ w h1⟩⟩

theorem wpIn_region_peel {id : Nat} {a : Act} {w : World} (S : World → Prop) (o : Oper) (hm : P.follows .mixedOrders = true) (hd : (ops.toList.all noDefer) = true) (hQ : ¬ LetsOut Q) (hb : ops.back? = some o) (hok : peelOk .any ops.pop o = true)
    (hS : S w.drew) (h : S w.drew → wpAnyH P .any ops.pop (Peel P o Q) S ops.pop.size (Array.replicate ops.pop.size false) a w.drew) : (Code.region id ops true).wpIn (Fence.wide.inRound l) n P Q a w := by
  refine wpIn_region_any hm (wpAnyIn_of_any (List.all_eq_true.1 hd) hQ _ _ _ _ ?_)
  have hp := push_pop hb
  have := wpAny_peel (Q := Q) (P := P) (peelOk_spec hok) ops.pop.size (Array.replicate ops.pop.size false) a w.drew ⟨by simp, fun j oj hj hl e he hbn => by
    rw [Array.getD_eq_getD_getElem?, Array.getElem?_replicate] at hl
    split at hl <;> cases hl⟩ (wpAny_of_held _ _ _ _ (h hS))
  have e1 : (Array.replicate ops.pop.size false).push false = Array.replicate ops.size false := by
    rw [← hp]; simp [Array.replicate_succ]
  have e2 : ops.pop.size + 1 = ops.size := by rw [← hp]; simp
  rw [hp, e1, e2] at this
  exact this
end
end Go.Proofs.Yteoanlkmkmajjaa

/-
  What DumpOf of the program holds between two rounds. Plain facts.
-/
namespace Go.Proofs.Yteoanlkmkmajjaa
open Go.RowKit Go.Deep Go.Shelf
set_option linter.unusedVariables false
set_option linter.unusedSimpArgs false

theorem OD.sameAt {W W' : World} {B k : Nat} {Z : Nat → Bool} {m : Nat} {O : Nat → Int} {D : Nat → Nd} {L : Nat → Loc} {lv iv : Value} (h : OD W B k Z m O D L lv iv) (hw : ∀ d b, d < 2 + 2 * m → (valD lv iv D L d).ownBlock = some b → W'.heap[b]? = W.heap[b]?) : OD W' B k Z m O D L lv iv :=
  ⟨⟨fun d hl => owns_same (h.rows.own d hl) fun b hb => hw d b hl hb, h.rows.apart⟩⟩

theorem owns_cells {W : World} {B : Nat} {e : TypeId} {size k : Nat} {v : Value} {xs : List Value} (h : W.ownsRow B e size v k xs) : ∀ (j : Nat) (o : Obj), v.ownBlock = some j → W.heap[j]? = some o → o.isCells = true := by
  intro j o ej hj
  rcases h.2 with ⟨rfl, _⟩ | ⟨g, cap, cur, rfl, _, hgb, _⟩
  · simp [Value.ownBlock] at ej
  · obtain rfl : g = j := by simpa [Value.ownBlock] using ej
    rw [hgb] at hj; cases hj; rfl

/-- What is known between two rounds: X are blocks of the caller's that are no rows. -/
structure IOf (w : World) (X : Nat → Prop) (a : Option Addr) (n c : Nat) (now since : Int) (Z : Nat → Bool) (V : Nat) (la : Option Addr) (lc m : Nat) (ia : Option Addr) (ic : Nat) (O : Nat → Int) (E : Nat → Nd) (M : Nat → Loc) (W : World) : Prop where
  p : Blk W w.heap.size #[.slice a n c, .int .i64 now] 34
  r : Blk W (w.heap.size + 1) #[.int .i64 0, .int .i64 0, .slice none 0 0, .slice none 0 0] 29
  v : Blk W V #[.int .i64 since, .int .i64 now, .slice la n lc, .slice ia m ic] 29
  bel : Below w.heap.size w W
  far : w.heap.size + 2 ≤ V
  od : OD W (w.heap.size + 2) n Z m O E M (.slice la n lc) (.slice ia m ic)
  off : ∀ d b, d < 2 + 2 * m → (valD (.slice la n lc) (.slice ia m ic) E M d).ownBlock = some b → ¬ X b ∧ b ≠ V
  lt : ∀ b, X b → b < W.heap.size

section
variable {w : World} {X : Nat → Prop} {a : Option Addr} {n c : Nat} {now since : Int} {Z : Nat → Bool} {V : Nat} {la : Option Addr} {lc m : Nat} {ia : Option Addr} {ic : Nat} {O : Nat → Int} {E : Nat → Nd} {M : Nat → Loc} {W W1 W' : World}

theorem IOf.below (h : IOf w X a n c now since Z V la lc m ia ic O E M W) (hb : Below W.heap.size W W') : IOf w X a n c now since Z V la lc m ia ic O E M W' :=
  ⟨h.p.below hb h.p.lt, h.r.below hb h.r.lt, h.v.below hb h.v.lt, h.bel.trans (hb.mono (by have := h.p.lt; omega)), h.far, h.od.below hb, h.off, fun b hX => Nat.lt_of_lt_of_le (h.lt b hX) hb.size⟩

theorem IOf.more {Y : Nat → Prop} (h : IOf w X a n c now since Z V la lc m ia ic O E M W) (hY : ∀ b, Y b → (X b ∨ W.heap.size ≤ b) ∧ b < W'.heap.size) (hb : Below W.heap.size W W') : IOf w Y a n c now since Z V la lc m ia ic O E M W' :=
  ⟨h.p.below hb h.p.lt, h.r.below hb h.r.lt, h.v.below hb h.v.lt, h.bel.trans (hb.mono (by have := h.p.lt; omega)), h.far, h.od.below hb, fun d b hd hv => ⟨fun hy => by
    rcases (hY b hy).1 with e | e
    · exact (h.off d b hd hv).1 e
    · have := (owns_block (h.od.rows.own d hd) hv).2; omega, (h.off d b hd hv).2⟩, fun b hy => (hY b hy).2⟩

/-- Blocks that are no cells may turn. -/
theorem IOf.turned {row : Option Nat} {B : Nat} (h : IOf w X a n c now since Z V la lc m ia ic O E M W) (hg : W.grownBy W' row) (hB : w.heap.size ≤ B) (hr : ∀ r, row = some r → B ≤ r ∧ ∃ o : Obj, W.heap[r]? = some o ∧ o.isCells = false) : IOf w X a n c now since Z V la lc m ia ic O E M W' := by
  have kb : ∀ {b : Nat} {cs : Array Value} {t : TypeId}, Blk W b cs t → Blk W' b cs t := fun {b cs t} hb => blk_grown hb hg (fun e => by
    obtain ⟨_, o, ho, hc⟩ := hr b e
    rw [hb] at ho
    cases ho
    cases hc)
  refine ⟨kb h.p, kb h.r, kb h.v, h.bel.grown hg h.bel.size (fun k e => by have := (hr k e).1; omega), h.far, h.od.sameAt (fun d b hd hv => hg.block b (owns_block (h.od.rows.own d hd) hv).2 (fun e => ?_)), h.off, fun b hX => Nat.lt_of_lt_of_le (h.lt b hX) hg.size⟩
  obtain ⟨_, o, ho, hc⟩ := hr b e.symm
  have := owns_cells (h.od.rows.own d hd) b o hv ho
  rw [this] at hc
  cases hc

/-- One place that was turned more, stored. -/
theorem IOf.item (h : IOf w X a n c now since Z V la lc m ia ic O E M W) {x : Nd} {o : Int} {l : Loc} (hN : NewNn W x l W1) {b c' : Nat} (hg : W1.grownBy W' (Value.slice ia m ic).ownBlock)
    (hown : W'.ownsRow (w.heap.size + 2) 56 6 (.slice (some ⟨b, 0, none⟩) (m + 1) c') (m + 1) (rowsI O E M m ++ it6 o x l)) (hb : (Value.slice ia m ic).ownBlock = some b ∨ W1.heap.size ≤ b) :
    IOf w X a n c now since Z V la lc (m + 1) (some ⟨b, 0, none⟩) c' (fun i => if i = m then o else O i) (fun i => if i = m then x else E i) (fun i => if i = m then l else M i) (W'.setCell ⟨V, 3, none⟩ (.slice (some ⟨b, 0, none⟩) (m + 1) c')) := by
  have h1 := h.below hN.bel
  have hfar := h.far
  have hsz := hN.bel.size
  have hof : ∀ j, (Value.slice ia m ic).ownBlock = some j → w.heap.size + 2 ≤ j ∧ j < W.heap.size ∧ ¬ X j ∧ j ≠ V := fun j e => ⟨(owns_block h.od.ownI e).1, (owns_block h.od.ownI e).2, h.off 1 j (by omega) (by simpa [valD] using e)⟩
  have hne : ∀ j, j ≤ w.heap.size + 1 ∨ j = V → (Value.slice ia m ic).ownBlock ≠ some j := fun j hj e => by
    obtain ⟨h2, _, _, h3⟩ := hof j e
    rcases hj with h4 | h4
    · omega
    · exact h3 h4
  have hVl := h.v.lt
  have hbel : Below w.heap.size w W' := h1.bel.grown hg (by have := h1.bel.size; omega) (fun j e => by have := (hof j e).1; omega)
  have hbV : b ≠ V := fun e => by
    rcases hb with h2 | h2
    · exact (hof b h2).2.2.2 e
    · omega
  have hbX : ¬ X b := fun e => by
    rcases hb with h2 | h2
    · exact (hof b h2).2.2.1 e
    · have := h.lt b e; omega
  have hoff : ∀ d b', d < 2 + 2 * (m + 1) → (valD (.slice la n lc) (.slice (some ⟨b, 0, none⟩) (m + 1) c') (fun i => if i = m then x else E i) (fun i => if i = m then l else M i) d).ownBlock = some b' → ¬ X b' ∧ b' ≠ V := fun d b' hd hv => by
    by_cases e1 : d = 1
    · subst e1
      have e : b = b' := by simpa [valD, Value.ownBlock] using hv
      exact e ▸ ⟨hbX, hbV⟩
    · by_cases e0 : d = 0
      · subst e0
        exact h.off 0 b' (by omega) (by simpa [valD] using hv)
      · unfold valD at hv
        rw [if_neg e0, if_neg e1] at hv
        by_cases hm : (d - 2) / 2 = m
        · simp only [hm, if_true] at hv
          have hfr : W.heap.size ≤ b' := by
            split at hv
            · exact (owns_block hN.names hv).1
            · exact (owns_block hN.kids hv).1
          exact ⟨fun e => by have := h.lt b' e; omega, by omega⟩
        · simp only [hm, if_false] at hv
          exact h.off d b' (by omega) (by unfold valD; rw [if_neg e0, if_neg e1]; exact hv)
  have hod := h.od.item (W' := W') hN (by have := h.p.lt; omega) hg hown (fun b' e => by simp [Value.ownBlock] at e; rw [← e]; exact hb)
  refine ⟨(blk_grown h1.p hg (hne _ (by omega))).off _ (by omega), (blk_grown h1.r hg (hne _ (by omega))).off _ (by omega), (blk_grown h1.v hg (hne _ (Or.inr rfl))).set 3 _, bel_put hbel _ (by omega), hfar, ?_, hoff, fun b' hX => ?_⟩
  · exact hod.sameAt fun d b' hd hv => blk_setCell_other _ _ _ _ (by show b' ≠ V; exact (hoff d b' hd hv).2)
  · have := h.lt b' hX
    have h3 := hg.size
    simp
    omega

/-- What the step leaves of other blocks. -/
theorem IOf.keep (h : IOf w X a n c now since Z V la lc m ia ic O E M W) {x : Nd} {l : Loc} (hN : NewNn W x l W1) {v : Value} (hg : W1.grownBy W' (Value.slice ia m ic).ownBlock) {s : Nat} (hs : X s ∨ s < w.heap.size) (hsV : s ≠ V) (hsl : s < W.heap.size) : (W'.setCell ⟨V, 3, none⟩ v).heap[s]? = W.heap[s]? := by
  have h2 := hN.bel.size
  refine (blk_setCell_other _ _ _ _ (show s ≠ V from hsV)).trans ((hg.block s (by omega) (fun e => ?_)).trans (hN.bel.block s hsl))
  have h3 := h.off 1 s (by omega) (by simpa [valD] using e.symm)
  have h4 := (owns_block h.od.ownI e.symm).1
  rcases hs with h5 | h5
  · exact h3.1 h5
  · omega

theorem keeps_bel {W W' : World} (hb : Below W.heap.size W W') : KeepsOthers W W' := ⟨hb.size, fun k o hk _ => (hb.block k (Array.getElem?_eq_some_iff.1 hk).1).trans hk⟩

theorem IOf.others (h : IOf w X a n c now since Z V la lc m ia ic O E M W) {x : Nd} {l : Loc} (hN : NewNn W x l W1) {v : Value} (hg : W1.grownBy W' (Value.slice ia m ic).ownBlock) : KeepsOthers W (W'.setCell ⟨V, 3, none⟩ v) :=
  ((keeps_bel hN.bel).trans (KeepsOthers.of_grownBy hg fun j o ej hj => owns_cells (owns_same h.od.ownI (w' := W1) (fun b hb => hN.bel.block b (owns_block h.od.ownI hb).2)) j o ej hj)).trans (KeepsOthers.setCell _ _ _)
end

theorem rowd_below {W W' : World} {b n : Nat} {t : TypeId} {f : Nat → Value} (h : W.rowIs b t n f) (hb : Below W.heap.size W W') : W'.rowIs b t n f := by
  obtain ⟨c, h1, h2⟩ := h
  exact ⟨c, (hb.block b (Array.getElem?_eq_some_iff.1 h1).1).trans h1, h2⟩

theorem row_owns {W : World} {B b n : Nat} {Z : Nat → Bool} (h : W.rowIs b 4 n (fun i => .bool (Z i))) (hB : B ≤ b) (hn : n ≤ maxLen) : W.ownsRow B 4 1 (.slice (some ⟨b, 0, none⟩) n n) n (boolv n Z) := by
  obtain ⟨cur, h1, h2, h3⟩ := h
  refine ⟨by rw [boolv_len]; omega, Or.inr ⟨b, n, cur, rfl, hB, h1, Nat.le_refl _, hn, by omega, ?_⟩⟩
  apply List.ext_getElem?
  intro i
  rw [List.getElem?_take]
  by_cases hi : i < n
  · rw [if_pos (by omega), Array.getElem?_toList, h3 i hi]
    simp [boolv, hi]
  · rw [if_neg (by omega)]
    simp [boolv, hi]

/-- At the start: nothing was turned yet. -/
theorem IOf.start {w w1 W : World} {a : Option Addr} {n c : Nat} {now since : Int} {Z : Nat → Bool} {V b2 : Nat} {D : Nat → Nd} {L : Nat → Loc} (h : Blk w1 w.heap.size #[.slice a n c, .int .i64 now] 34 ∧ Blk w1 (w.heap.size + 1) #[.int .i64 0, .int .i64 0, .slice none 0 0, .slice none 0 0] 29 ∧ Below w.heap.size w w1)
    (hb : Below w1.heap.size w1 W) (hv : Blk W V #[.int .i64 0, .int .i64 0, .slice none 0 0, .slice none 0 0] 29) (hrow : W.rowIs b2 4 n (fun i => .bool (Z i))) (hV : w1.heap.size ≤ V) (hb2 : w1.heap.size ≤ b2) (hn : n ≤ maxLen) :
    IOf w (fun _ => False) a n c now since Z V (some ⟨b2, 0, none⟩) n 0 none 0 (fun _ => 0) D L ((((W.setCell ⟨V, 0, none⟩ (.int .i64 since)).setCell ⟨V, 1, none⟩ (.int .i64 now)).setCell ⟨V, 2, none⟩ (.slice (some ⟨b2, 0, none⟩) n n)).setCell ⟨V, 3, none⟩ (.slice none 0 0)) := by
  have hne : b2 ≠ V := fun e => by
    obtain ⟨cur, k1, _, _⟩ := hrow
    rw [e] at k1
    have k2 := k1.symm.trans hv
    simp at k2
  obtain ⟨h1, h2, h3⟩ := h
  have l2 := h2.lt
  have hB : Below w.heap.size w W := h3.trans (hb.mono (by omega))
  have hown := row_owns (B := w.heap.size + 2) hrow (by omega) hn
  have hvs : ∀ d, d < 2 + 2 * 0 → d = 0 ∨ d = 1 := fun d hd => by omega
  have hod : OD W (w.heap.size + 2) n Z 0 (fun _ => 0) D L (.slice (some ⟨b2, 0, none⟩) n n) (.slice none 0 0) := ⟨⟨fun d hd => by
    rcases hvs d hd with rfl | rfl
    · exact hown
    · exact World.ownsRow_nil _ _ _ _, fun d d' hd hd' hne b e e' => by
    rcases hvs d hd with rfl | rfl
    · rcases hvs d' hd' with rfl | rfl
      · exact hne rfl
      · simp [valD, Value.ownBlock] at e'
    · simp [valD, Value.ownBlock] at e⟩⟩
  have hoff : ∀ d b, d < 2 + 2 * 0 → (valD (.slice (some ⟨b2, 0, none⟩) n n) (.slice none 0 0) D L d).ownBlock = some b → ¬ False ∧ b ≠ V := fun d b hd e => ⟨id, by
    rcases hvs d hd with rfl | rfl
    · have e' : b2 = b := by simpa [valD, Value.ownBlock] using e
      exact e' ▸ hne
    · simp [valD, Value.ownBlock] at e⟩
  have off : ∀ {j : Nat} {cs : Array Value} {t : TypeId}, Blk W j cs t → j ≠ V → Blk ((((W.setCell ⟨V, 0, none⟩ (.int .i64 since)).setCell ⟨V, 1, none⟩ (.int .i64 now)).setCell ⟨V, 2, none⟩ (.slice (some ⟨b2, 0, none⟩) n n)).setCell ⟨V, 3, none⟩ (.slice none 0 0)) j cs t := fun hj hV => (((hj.off _ hV).off _ hV).off _ hV).off _ hV
  refine ⟨off (h1.below hb h1.lt) (by have := h1.lt; omega), off (h2.below hb h2.lt) (by omega), (((hv.set 0 _).set 1 _).set 2 _).set 3 _, bel_put (bel_put (bel_put (bel_put hB _ (by omega)) _ (by omega)) _ (by omega)) _ (by omega), by omega, ?_, hoff, fun b hX => hX.elim⟩
  refine hod.sameAt fun d b hd e => ?_
  have hbV := (hoff d b hd e).2
  exact (blk_setCell_other _ _ _ _ (show b ≠ V from hbV)).trans ((blk_setCell_other _ _ _ _ (show b ≠ V from hbV)).trans ((blk_setCell_other _ _ _ _ (show b ≠ V from hbV)).trans (blk_setCell_other _ _ _ _ (show b ≠ V from hbV))))

theorem IOf.fresh {w w1 U : World} {a : Option Addr} {n c : Nat} {now since : Int} {Z : Nat → Bool} {b2 : Nat} {D : Nat → Nd} {L : Nat → Loc} (h : Blk w1 w.heap.size #[.slice a n c, .int .i64 now] 34 ∧ Blk w1 (w.heap.size + 1) #[.int .i64 0, .int .i64 0, .slice none 0 0, .slice none 0 0] 29 ∧ Below w.heap.size w w1)
    (hb : Below w1.heap.size w1 U) (hrow : U.rowIs b2 4 n (fun i => .bool (Z i))) (hb2 : w1.heap.size ≤ b2) (hn : n ≤ maxLen) :
    IOf w (fun _ => False) a n c now since Z U.heap.size (some ⟨b2, 0, none⟩) n 0 none 0 (fun _ => 0) D L (U.alloc (.cells #[.int .i64 since, .int .i64 now, .slice (some ⟨b2, 0, none⟩) n n, .slice none 0 0] 29)) := by
  have hb' := hb.alloc hb.size (.cells #[.int .i64 0, .int .i64 0, .slice none 0 0, .slice none 0 0] 29)
  have hU : Below U.heap.size U (U.alloc (.cells #[.int .i64 0, .int .i64 0, .slice none 0 0, .slice none 0 0] 29)) := (Below.refl _ _).alloc (Nat.le_refl _) _
  have := IOf.start (since := since) (D := D) (L := L) h hb' (Blk.new U _ _) (rowd_below hrow hU) hb.size hb2 hn
  simpa [go_sem] using this

/-- A place that is yielded. -/
abbrev Pl (D : Nat → Nd) (n : Nat) (since : Int) := { x : Nat // x < n ∧ since < (D x).turn }

/-- Between two rounds, these places having come. -/
def RndI (w : World) (a : Option Addr) (n c : Nat) (now since : Int) (D : Nat → Nd) (V b2 S : Nat) (pre : List (Pl D n since)) (W : World) : Prop :=
  ∃ ia ic O E M, IOf w (fun j => j = S) a n c now since (fun i => (D i).kind != 0) V (some ⟨b2, 0, none⟩) n pre.length ia ic O E M W ∧ ∀ i, i < pre.length → O i = ((pre.map (·.1)).getD i 0 : Nat) ∧ E i = D ((pre.map (·.1)).getD i 0)

theorem rndI_own {w : World} {a : Option Addr} {n c : Nat} {now since : Int} {D : Nat → Nd} {V b2 S B : Nat} (hB : w.heap.size ≤ B) : OwnFrom B (RndI w a n c now since D V b2 S) := by
  rintro pre A A' row ⟨ia, ic, O, E, M, h, hs⟩ hg hr
  exact ⟨ia, ic, O, E, M, h.turned hg hB hr, hs⟩

theorem own_ne {W : World} {B e t : Nat} {size k : Nat} {v : Value} {xs : List Value} {j : Nat} {cs : Array Value} (h : W.ownsRow B e size v k xs) (hb : Blk W j cs t) (hne : e ≠ t) : v.ownBlock ≠ some j := fun ej => by
  rcases h.2 with ⟨rfl, _⟩ | ⟨g, cap, cur, rfl, _, hgb, _⟩
  · simp [Value.ownBlock] at ej
  · obtain rfl : g = j := by simpa [Value.ownBlock] using ej
    rw [hb] at hgb
    simp at hgb
    exact hne hgb.2.symm

/-- What a round leaves. -/
theorem rnd_step {w : World} {a : Option Addr} {n c : Nat} {now since : Int} {D : Nat → Nd} {V b2 S B b0 : Nat} {pre : List (Pl D n since)} {x : Pl D n since} {ia : Option Addr} {ic : Nat} {O : Nat → Int} {E : Nat → Nd} {M : Nat → Loc} {W W1 W' : World}
    (h : IOf w (fun j => j = S) a n c now since (fun i => (D i).kind != 0) V (some ⟨b2, 0, none⟩) n pre.length ia ic O E M W) (hsel : ∀ i, i < pre.length → O i = ((pre.map (·.1)).getD i 0 : Nat) ∧ E i = D ((pre.map (·.1)).getD i 0))
    {l : Loc} (hN : NewNn W (D x.1) l W1) {g c' : Nat} (hg : W1.grownBy W' (Value.slice ia pre.length ic).ownBlock)
    (hown : W'.ownsRow (w.heap.size + 2) 56 6 (.slice (some ⟨g, 0, none⟩) (pre.length + 1) c') (pre.length + 1) (rowsI O E M pre.length ++ it6 (x.1 : Nat) (D x.1) l)) (hb : (Value.slice ia pre.length ic).ownBlock = some g ∨ W1.heap.size ≤ g) (hSV : S ≠ V) (hb0 : b0 < w.heap.size) :
    KeepsFrom B W (W'.setCell ⟨V, 3, none⟩ (.slice (some ⟨g, 0, none⟩) (pre.length + 1) c')) ∧ KeepsTwo S b0 W (W'.setCell ⟨V, 3, none⟩ (.slice (some ⟨g, 0, none⟩) (pre.length + 1) c')) ∧ RndI w a n c now since D V b2 S (pre ++ [x]) (W'.setCell ⟨V, 3, none⟩ (.slice (some ⟨g, 0, none⟩) (pre.length + 1) c')) := by
  have hfar := h.far
  have hsz := h.bel.size
  refine ⟨(h.others hN hg).from _, ⟨h.keep hN hg (Or.inl rfl) hSV (h.lt S rfl), h.keep hN hg (Or.inr hb0) (by omega) (by omega)⟩, some ⟨g, 0, none⟩, c', (fun i => if i = pre.length then ((x.1 : Nat) : Int) else O i), (fun i => if i = pre.length then D x.1 else E i), (fun i => if i = pre.length then l else M i), ?_, ?_⟩
  · rw [List.length_append]
    exact h.item hN hg hown hb
  · intro i hi
    rw [List.map_append]
    simp only [List.length_append, List.length_singleton] at hi
    by_cases e : i = pre.length
    · have e2 : (pre.map (·.1) ++ [x].map (·.1)).getD i 0 = x.1 := by rw [List.getD_eq_getElem?_getD, List.getElem?_append_right (by rw [List.length_map]; omega), List.length_map, e]; simp
      rw [e2]
      exact ⟨if_pos e, if_pos e⟩
    · have hi' : i < pre.length := by omega
      have := hsel i hi'
      have e2 : (pre.map (·.1) ++ [x].map (·.1)).getD i 0 = (pre.map (·.1)).getD i 0 := by rw [List.getD_eq_getElem?_getD, List.getD_eq_getElem?_getD, List.getElem?_append_left (by rw [List.length_map]; exact hi')]
      rw [e2]
      exact ⟨(if_neg e).trans this.1, (if_neg e).trans this.2⟩

/-- At the call's end. -/
theorem rnd_done {w : World} {X : Nat → Prop} {a : Option Addr} {n c : Nat} {now since : Int} {Z : Nat → Bool} {V : Nat} {la : Option Addr} {lc m : Nat} {ia : Option Addr} {ic : Nat} {O : Nat → Int} {E : Nat → Nd} {M : Nat → Loc} {U : World} {K : Nat} (h : IOf w X a n c now since Z V la lc m ia ic O E M U) (hK : U.heap[K]? = some (.deferred (some []))) (hl : w.heap.size + 2 ≤ K) :
    let U4 := (((U.setCell ⟨w.heap.size + 1, 0, none⟩ (.int .i64 since)).setCell ⟨w.heap.size + 1, 1, none⟩ (.int .i64 now)).setCell ⟨w.heap.size + 1, 2, none⟩ (.slice la n lc)).setCell ⟨w.heap.size + 1, 3, none⟩ (.slice ia m ic)
    U4.heap[K]? = some (.deferred (some [])) ∧ Blk (U4.putObj K (.deferred none)) (w.heap.size + 1) #[.int .i64 since, .int .i64 now, .slice la n lc, .slice ia m ic] 29 ∧ Below w.heap.size w (U4.putObj K (.deferred none)) ∧ OD (U4.putObj K (.deferred none)) w.heap.size n Z m O E M (.slice la n lc) (.slice ia m ic) := by
  intro U4
  have hset : ∀ b, b ≠ w.heap.size + 1 → U4.heap[b]? = U.heap[b]? := fun b hb => (blk_setCell_other _ _ _ _ (show b ≠ w.heap.size + 1 from hb)).trans ((blk_setCell_other _ _ _ _ (show b ≠ w.heap.size + 1 from hb)).trans ((blk_setCell_other _ _ _ _ (show b ≠ w.heap.size + 1 from hb)).trans (blk_setCell_other _ _ _ _ (show b ≠ w.heap.size + 1 from hb))))
  have hK4 : U4.heap[K]? = some (.deferred (some [])) := (hset K (by omega)).trans hK
  have hr : Blk U4 (w.heap.size + 1) #[.int .i64 since, .int .i64 now, .slice la n lc, .slice ia m ic] 29 := (((h.r.set 0 _).set 1 _).set 2 _).set 3 _
  have hb4 : Below w.heap.size w U4 := bel_put (bel_put (bel_put (bel_put h.bel _ (by omega)) _ (by omega)) _ (by omega)) _ (by omega)
  have hg := grownBy_putObj' U4 K (.deferred none)
  refine ⟨hK4, blk_grown hr hg (fun e => by simp at e; omega), hb4.grown hg hb4.size (fun k e => by cases e; omega), ?_⟩
  refine (h.od.lower (by omega)).sameAt fun d b hd hv => ?_
  have h1 := owns_block (h.od.rows.own d hd) hv
  have hbK : b ≠ K := fun e => by
    have := owns_cells (h.od.rows.own d hd) b _ hv (e ▸ hK)
    cases this
  exact (World.putObj_heap_other hbK).trans (hset b (by omega))

theorem sel_same {n : Nat} {D : Nat → Nd} {now since : Int} (hg : TreeGood n D now) (h0 : 0 ≤ since) : selT D since n = selTo D since n := by
  unfold selT selTo
  apply List.filter_congr
  intro i hi
  have hi' : i < n := by simpa using hi
  have hn := hg.nodes i hi'
  unfold turnedB
  by_cases hk : (D i).kind = 0
  · unfold ndOk at hn
    rw [if_pos hk] at hn
    have ht : (D i).turn = 0 := by
      unfold freeOk at hn
      simp at hn
      exact hn.2
    simp [hk, ht]
    omega
  · simp [hk]

theorem turned_stops (q : Nat) (hq : 1 ≤ q) (T S b off n c : Nat) (now since : Int) (D : Nat → Nd) (L : Nat → Loc) (hn : n ≤ 10) (w0 : World)
    (hT : w0.cell? ⟨T, 0, none⟩ = some (.slice (some ⟨b, off, none⟩) n c)) (hTl : T < w0.heap.size) (hSs : w0.cell? ⟨S, 0, none⟩ = some (.int .i64 since)) (hSl : S < w0.heap.size) (hbl : b < w0.heap.size)
    (hc : ∀ i, i < n → w0.cell? ⟨b, off + i * 5, none⟩ = some (.int .i64 (D i).kind) ∧ w0.cell? ⟨b, off + i * 5 + 1, none⟩ = some (.string (D i).text) ∧
      w0.cell? ⟨b, off + i * 5 + 2, none⟩ = some (.slice (L i).nA (D i).nn (L i).nc) ∧ w0.cell? ⟨b, off + i * 5 + 3, none⟩ = some (.slice (L i).kA (D i).kn (L i).kc) ∧ w0.cell? ⟨b, off + i * 5 + 4, none⟩ = some (.int .i64 (D i).turn)) :
    SeqStopsK Fence.wide q Try.prog 54 #[.pointer (some ⟨T, 0, none⟩), .pointer (some ⟨S, 0, none⟩)] (fun x : Pl D n since => #[.int .i64 (x.1 : Nat), ndV (D x.1) (L x.1)]) (KeepsTwo S b) (fun xs => xs.map (·.1) = selT D since n) (fun _ => True) (selT D since n).length w0 := by
  intro l J Jx W hW hJ hJx hY h0
  refine (turned1_in q hq l T S b off n c now since D L hn (fun pre W => ∃ p : List (Pl D n since), p.map (·.1) = pre ∧ J p W) (fun pre W => ∃ p, Jx p W) ?_ ?_ W ((hW.cell (p := ⟨T, 0, none⟩) hTl).trans hT) ((hW.cell (p := ⟨S, 0, none⟩) hSl).trans hSs) (Nat.lt_of_lt_of_le hSl hW.size) (Nat.lt_of_lt_of_le hbl hW.size) ?_ ⟨[], rfl, h0⟩).mono ?_
  · rintro pre x W1 hx ht ⟨p, rfl, hp⟩ hlen
    obtain ⟨fn, tmps, assign, body, hy, hR⟩ := hY p ⟨x, hx, ht⟩ W1 hp (by simpa using hlen)
    refine ⟨fn, tmps, assign, body, hy, hR.mono ?_⟩
    rintro e W2 (⟨rfl, h1, h2⟩ | ⟨rfl, h1⟩)
    · exact Or.inl ⟨rfl, ⟨p ++ [⟨x, hx, ht⟩], by simp, h1⟩, h2⟩
    · exact Or.inr ⟨rfl, _, h1⟩
  · rintro pre W1 o ⟨p, rfl, hp⟩
    exact ⟨p, rfl, hJ p W1 _ none hp ⟨rfl, rfl, rfl, by simp, fun k hk _ => Go.Deep.blk_alloc_lt _ _ _ hk⟩ (fun r e => by cases e)⟩
  · intro i hi
    obtain ⟨c0, c1, c2, c3, c4⟩ := hc i hi
    have k : ∀ o v, w0.cell? ⟨b, o, none⟩ = some v → W.cell? ⟨b, o, none⟩ = some v := fun o v h => (hW.cell (p := ⟨b, o, none⟩) hbl).trans h
    exact ⟨k _ _ c0, k _ _ c1, k _ _ c2, k _ _ c3, k _ _ c4⟩
  · rintro e W2 ⟨hv, ⟨p, h1, h2⟩ | ⟨pre, _, p, h2⟩⟩
    · exact ⟨hv, Or.inl ⟨p, h1, h2⟩⟩
    · exact ⟨hv, Or.inr ⟨p, trivial, h2⟩⟩
end Go.Proofs.Yteoanlkmkmajjaa

/-
  What is known of the library functions that the program calls, laid at this program.
-/
namespace Go.Proofs.Yteoanlkmkmajjaa
open Go.Shelf
def Try.laysM316_ren : Go.Shelf.Ren := ⟨fun | 316 => 81 | n => n, fun | 9 => 9 | 3 => 3 | 4 => 4 | 37 => 108 | 0 => 0 | 127 => 111 | 5 => 5 | n => n, fun | n => n⟩
theorem Try.laysM316 : Go.Proofs.LaysM.n316 Try.prog Try.laysM316_ren := {
  mixed := by kernel_rfl
  f316 := Try.func81.trans (congrArg some (by kernel_rfl))
  t0 := Try.underlying0
  a0 := Try.isAgg0
  z0 := Try.sizeOf0
  v0 := Try.zeroValue0
  t3 := Try.underlying3
  a3 := Try.isAgg3
  z3 := Try.sizeOf3
  v3 := Try.zeroValue3
  t4 := Try.underlying4
  a4 := Try.isAgg4
  z4 := Try.sizeOf4
  v4 := Try.zeroValue4
  t9 := Try.underlying9
  a9 := Try.isAgg9
  z9 := Try.sizeOf9
  v9 := Try.zeroValue9
  t37 := Try.underlying108
  a37 := Try.isAgg108
  z37 := Try.sizeOf108
  v37 := Try.zeroValue108
  t127 := Try.underlying111
  a127 := Try.isAgg111
  z127 := Try.sizeOf111
  v127 := Try.zeroValue111
  t5 := Try.underlying5
  a5 := Try.isAgg5
  z5 := Try.sizeOf5
  v5 := Try.zeroValue5
  i0 := by kernel_rfl
  i3 := by kernel_rfl
  i4 := by kernel_rfl
  i5 := by kernel_rfl
  i9 := by kernel_rfl
  i37 := by kernel_rfl
  i127 := by kernel_rfl }
open Go.RowKit in
theorem Try.stringslite_Clone (s : ByteArray) (w : World) (hlim : s.size ≤ 281474976710656) :
    Calls Try.prog 81 #[.string s] w fun e w' => e = .returned (.string s) ∧ Below w.heap.size w w' := Any.stringslite_Clone Try.laysM316 s w hlim
end Go.Proofs.Yteoanlkmkmajjaa

/-
  What strings.Clone answers.
-/
namespace Go.Proofs.Yteoanlkmkmajjaa
open Go.RowKit Go.Shelf

set_option maxHeartbeats 400000 in
theorem stringsClone_any (s : ByteArray) (w : World) (hs : s.size ≤ 1048576) :
    Calls Try.prog 55 #[.string s] w fun e w' => e = .returned (.string s) ∧ Below w.heap.size w w' := by
  go_enter Try.func55, Try.ntmps55
  go_wp2_with fail
  refine (Try.stringslite_Clone s _ (by omega)).mono ?_
  rintro e w1 ⟨rfl, hb⟩
  have HB : Hid (Below w.heap.size w w1) := hb
  clear hb
  go_wp2
  go_ret
  exact ⟨rfl, HB.out⟩
end Go.Proofs.Yteoanlkmkmajjaa

/-
  What copyNode of the program answers: a place in new memory.
-/
namespace Go.Proofs.Yteoanlkmkmajjaa
open Go.RowKit Go.Deep
set_option linter.unusedVariables false
set_option linter.unusedSimpArgs false

/-- What is known within copyNode. -/
structure CN (w : World) (d : Nd) (l : Loc) (W : World) : Prop where
  p : Blk W w.heap.size #[.int .i64 d.kind, .string d.text, .slice l.nA d.nn l.nc, .slice l.kA d.kn l.kc, .int .i64 d.turn] 53
  r : Blk W (w.heap.size + 1) #[.int .i64 0, .string ByteArray.empty, .slice none 0 0, .slice none 0 0, .int .i64 0] 53
  bel : Below w.heap.size w W

theorem CN.below {w : World} {d : Nd} {l : Loc} {W W' : World} (h : CN w d l W) (hb : Below W.heap.size W W') : CN w d l W' := ⟨h.p.below hb h.p.lt, h.r.below hb h.r.lt, h.bel.trans (hb.mono (by have := h.p.lt; omega))⟩

theorem CN.grown {w : World} {d : Nd} {l : Loc} {W W' : World} {r : Option Nat} (h : CN w d l W) (hg : W.grownBy W' r) (hr : ∀ b, r = some b → w.heap.size + 2 ≤ b) : CN w d l W' := by
  have hp := h.p.lt
  exact ⟨h.p.of_block (hg.block _ h.p.lt (fun e => by have := hr _ e.symm; omega)), h.r.of_block (hg.block _ h.r.lt (fun e => by have := hr _ e.symm; omega)), h.bel.grown hg (by omega) (fun b e => by have := hr b e; omega)⟩

theorem src_text (W : World) (s : ByteArray) : Src (W.alloc (.cells #[.string s] 9)) 1 (.slice (some ⟨W.heap.size, 0, none⟩) 1 1) 1 [.string s] :=
  ⟨rfl, by intro u hu; simp at hu; subst hu; rfl, Or.inr ⟨⟨W.heap.size, 0, none⟩, 1, rfl, fun j u hu => by
    rw [addr_add, Nat.zero_add, (Blk.new W #[.string s] 9).cell j]
    simpa using hu⟩⟩

theorem lst_more (n : Nat) (S : Nat → ByteArray) : strv (lst (n + 1) S) = strv (lst n S) ++ [.string (S n)] := by simp [strv, lst, List.range_succ]

set_option maxHeartbeats 4000000 in
theorem copyNode_any (d : Nd) (l : Loc) (w : World) (hI : NdIn w d l) (hnn : d.nn ≤ 1048576) (hkn : d.kn ≤ 1048576) (htx : d.text.size ≤ 1048576) (hnm : ∀ i, i < d.nn → (d.names i).size ≤ 1048576) :
    Calls Try.prog 26 #[ndV d l] w fun e w' => ∃ l', e = .returned (ndV d l') ∧ NewNn w d l' w' := by
  obtain ⟨i0, hi, hz0, hz1, hz2⟩ := info_parts infoStr
  obtain ⟨j0, hj, hy0, hy1, hy2⟩ := info_parts infoInt
  unfold ndV
  go_enter Try.func26, Try.ntmps26
  go_wp2_with fail
  go_loopw [3, 10] (fun v i wr => ∃ (k : Nat) (na : Option Addr) (nc : Nat), k ≤ d.nn ∧ i = .int .i64 k ∧ v = .slice na k nc ∧ CN w d l wr ∧ wr.ownsRow (w.heap.size + 2) 9 1 (.slice na k nc) k (strv (lst k d.names))) (fun _ i _ => d.nn - (intOf i).toNat)
  case atStart =>
    have h := new2 w #[.int .i64 d.kind, .string d.text, .slice l.nA d.nn l.nc, .slice l.kA d.kn l.kc, .int .i64 d.turn] 53 #[.int .i64 0, .string ByteArray.empty, .slice none 0 0, .slice none 0 0, .int .i64 0] 53
    exact ⟨0, none, 0, Nat.zero_le _, rfl, rfl, ⟨h.b0, h.b1, h.bel⟩, World.ownsRow_nil _ _ _ _⟩
  case round =>
    obtain ⟨k, na, nc, hk, rfl, rfl, hin, hown⟩ := hrel
    have HIN : Hid (CN w d l wr) := hin
    have HOW : Hid (wr.ownsRow (w.heap.size + 2) 9 1 (.slice na k nc) k (strv (lst k d.names))) := hown
    have hwl := hin.r.lt
    clear hin hown
    by_cases hlt : k < d.nn
    · obtain ⟨b, off, hA, hlt2, hc⟩ := (hI.1.below (Nat.le_refl _) HIN.out.bel).at hlt
      have g0 := hc k hlt
      have hlti : (k : Int) < (d.nn : Int) := by omega
      have HA : Hid (l.nA = some ⟨b, off, none⟩) := hA
      rw [hA]
      clear hc hA
      go_wp2_with fail
      refine (stringsClone_any (d.names k) wr (hnm k hlt)).mono ?_
      rintro e W1 ⟨rfl, hb1⟩
      have hC1 := HIN.out.below hb1
      have hO1 := owns_same HOW.out (w' := W1) (fun b hb => hb1.block b (owns_block HOW.out hb).2)
      have hsz1 := hb1.size
      have HC1 : Hid (CN w d l (W1.alloc (.cells #[.string (d.names k)] 9)) ∧ (W1.alloc (.cells #[.string (d.names k)] 9)).ownsRow (w.heap.size + 2) 9 1 (.slice na k nc) k (strv (lst k d.names))) := ⟨hC1.below ((Below.refl _ _).alloc (Nat.le_refl _) _), hO1.alloc _⟩
      clear hb1 hC1 hO1
      go_wp2_with (at_builtin; go_must (refine wpList_append_src (by rfl) _ _ 50 rfl (w.heap.size + 2) 9 i0 (.string ByteArray.empty) 1 16 Try.underlying50 hi hz0 hz1 hz2 rfl (by decide) (.slice na k nc) k _ (by rfl) HC1.out.2 _ 1 _ (by rfl) (src_text W1 (d.names k)) (by unfold maxLen; omega) (by omega) (by simp; omega) ?_))
      intro vL W3 hown hgrow hnil hat
      rcases hown.2 with ⟨_, h0⟩ | ⟨gL, cL, cur, hvL, _, _, _⟩
      · omega
      subst hvL
      have HR : Hid (CN w d l W3 ∧ W3.ownsRow (w.heap.size + 2) 9 1 (.slice (some ⟨gL, 0, none⟩) (k + 1) cL) (k + 1) (strv (lst (k + 1) d.names))) := ⟨HC1.out.1.grown hgrow (fun b e => (owns_block HC1.out.2 e).1), by rw [lst_more]; exact hown⟩
      clear hown hgrow hnil hat HC1
      go_wp2_with fail
      go_roundw
      case rel => exact ⟨k + 1, some ⟨gL, 0, none⟩, cL, by omega, by go_num, by go_num, HR.out.1, HR.out.2⟩
      case measure => simp [intOf]; omega
    · obtain rfl : k = d.nn := by omega
      have p3 : wr.cell? ⟨w.heap.size, 3, none⟩ = some (.slice l.kA d.kn l.kc) := HIN.out.p.cell 3
      have HSk : Hid (Src wr 1 (.slice l.kA d.kn l.kc) d.kn (intv0 d.kn d.kids)) := (hI.2.below (Nat.le_refl _) HIN.out.bel).src _
      go_wp2_with (at_builtin; go_must (refine wpList_append_src (by rfl) _ _ 51 rfl (wr.heap.size) 3 j0 (.int .i64 0) 1 8 Try.underlying51 hj hy0 hy1 hy2 rfl (by decide) (.slice none 0 0) 0 [] (by rfl) (World.ownsRow_nil _ _ _ _) _ d.kn _ (by rfl) HSk.out (by unfold maxLen; omega) (by omega) (Nat.le_refl _) ?_))
      intro vK W4 hown hgrow hnil hat
      obtain ⟨ka, kc, rfl, hown'⟩ : ∃ ka kc, vK = .slice ka d.kn kc ∧ W4.ownsRow wr.heap.size 3 1 (.slice ka d.kn kc) d.kn (intv0 d.kn d.kids) := by
        try rw [Nat.zero_add, List.nil_append] at hown
        rcases hown.2 with ⟨hv, h0⟩ | ⟨g, cap, cur, hv, _⟩
        · exact ⟨none, 0, by rw [hv, h0], by rw [hv, h0] at hown; rw [h0]; exact hown⟩
        · exact ⟨some ⟨g, 0, none⟩, cap, hv, by rw [hv] at hown; exact hown⟩
      have HC4 : Hid (CN w d l W4) := HIN.out.grown hgrow (fun b e => by simp [Value.ownBlock] at e)
      have HN4 : Hid (W4.ownsRow (w.heap.size + 2) 9 1 (.slice na d.nn nc) d.nn (strv (lst d.nn d.names)) ∧ W4.ownsRow (w.heap.size + 2) 3 1 (.slice ka d.kn kc) d.kn (intv0 d.kn d.kids)) := ⟨owns_kept HOW.out hgrow (fun b _ e => by simp [Value.ownBlock] at e), owns_lower hown' (by omega)⟩
      have HAP : Hid (∀ b, (Value.slice na d.nn nc).ownBlock = some b → (Value.slice ka d.kn kc).ownBlock ≠ some b) := fun b h1 h2 => by
        have a1 := (owns_block HOW.out h1).2
        have a2 := (owns_block hown' h2).1
        omega
      have hwl4 := HC4.out.r.lt
      have HSt : Hid (∀ W, Below W4.heap.size W4 W → W.cell? ⟨w.heap.size, 0, none⟩ = some (.int .i64 d.kind) ∧ W.cell? ⟨w.heap.size, 1, none⟩ = some (.string d.text) ∧ W.cell? ⟨w.heap.size, 4, none⟩ = some (.int .i64 d.turn)) := fun W hW => ⟨(HC4.out.below hW).p.cell 0, (HC4.out.below hW).p.cell 1, (HC4.out.below hW).p.cell 4⟩
      clear hown hown' hgrow hnil hat HSk p3 HOW HIN hwl
      go_wp2_with fail
      refine wp_region_noPanic ?_
      refine wp_region_peel (fun W' => W'.cell? ⟨w.heap.size, 0, none⟩ = some (.int .i64 d.kind) ∧ W'.cell? ⟨w.heap.size, 1, none⟩ = some (.string d.text) ∧ W'.cell? ⟨w.heap.size, 4, none⟩ = some (.int .i64 d.turn)) _ (by kernel_rfl) rfl (by kernel_rfl) ?_ (fun hHeld => ?_)
      · exact HSt.out _ (below_drewN (Below.refl _ _) 1)
      simp only [List.pop_toArray, List.dropLast, List.size_toArray, List.length_cons, List.length_nil, Nat.reduceAdd, Nat.reduceSub, List.getElem_toArray, List.getElem_cons_succ, List.getElem_cons_zero]
      refine peel_take (i := 0) (oi := ?oi0) (v := ?v0) (fun _ _ _ _ _ h => h) hHeld ?hi0 (by kernel_rfl) (by kernel_rfl) (by kernel_rfl) ?hw0 ?hy0 ?rest0
      case hi0 =>
        simp only [List.getElem?_toArray, List.getElem?_cons_zero]
        rfl
      case hw0 => rfl
      case hy0 =>
        intro w hSw
        obtain ⟨s0, s1, s2⟩ := hSw
        go_simp
        try with_reducible rfl
      try simp only [Act.put, List.setIfInBounds_toArray, List.set_cons_zero, List.set_cons_succ]
      refine peel_take (i := 1) (oi := ?oi1) (v := ?v1) (fun _ _ _ _ _ h => h) hHeld ?hi1 (by kernel_rfl) (by kernel_rfl) (by kernel_rfl) ?hw1 ?hy1 ?rest1
      case hi1 =>
        simp only [List.getElem?_toArray, List.getElem?_cons_succ, List.getElem?_cons_zero]
        rfl
      case hw1 => rfl
      case hy1 =>
        intro w hSw
        obtain ⟨s0, s1, s2⟩ := hSw
        go_simp
        try with_reducible rfl
      try simp only [Act.put, List.setIfInBounds_toArray, List.set_cons_zero, List.set_cons_succ]
      refine peel_take (i := 2) (oi := ?oi2) (v := ?v2) (fun _ _ _ _ _ h => h) hHeld ?hi2 (by kernel_rfl) (by kernel_rfl) (by kernel_rfl) ?hw2 ?hy2 ?rest2
      case hi2 =>
        simp only [List.getElem?_toArray, List.getElem?_cons_succ, List.getElem?_cons_zero]
        rfl
      case hw2 => rfl
      case hy2 =>
        intro w hSw
        obtain ⟨s0, s1, s2⟩ := hSw
        go_simp
        try with_reducible rfl
      try simp only [Act.put, List.setIfInBounds_toArray, List.set_cons_zero, List.set_cons_succ]
      refine peel_take (i := 3) (oi := ?oi3) (v := ?v3) (fun _ _ _ _ _ h => h) hHeld ?hi3 (by kernel_rfl) (by kernel_rfl) (by kernel_rfl) ?hw3 ?hy3 ?rest3
      case hi3 =>
        simp only [List.getElem?_toArray, List.getElem?_cons_succ, List.getElem?_cons_zero]
        rfl
      case hw3 => rfl
      case hy3 =>
        intro w hSw
        obtain ⟨s0, s1, s2⟩ := hSw
        go_simp
        try with_reducible rfl
      try simp only [Act.put, List.setIfInBounds_toArray, List.set_cons_zero, List.set_cons_succ]
      refine peel_take (i := 5) (oi := ?oi5) (v := ?v5) (fun _ _ _ _ _ h => h) hHeld ?hi5 (by kernel_rfl) (by kernel_rfl) (by kernel_rfl) ?hw5 ?hy5 ?rest5
      case hi5 =>
        simp only [List.getElem?_toArray, List.getElem?_cons_succ, List.getElem?_cons_zero]
        rfl
      case hw5 => rfl
      case hy5 =>
        intro w hSw
        obtain ⟨s0, s1, s2⟩ := hSw
        go_simp
        try with_reducible rfl
      try simp only [Act.put, List.setIfInBounds_toArray, List.set_cons_zero, List.set_cons_succ]
      refine peel_take (i := 6) (oi := ?oi6) (v := ?v6) (fun _ _ _ _ _ h => h) hHeld ?hi6 (by kernel_rfl) (by kernel_rfl) (by kernel_rfl) ?hw6 ?hy6 ?rest6
      case hi6 =>
        simp only [List.getElem?_toArray, List.getElem?_cons_succ, List.getElem?_cons_zero]
        rfl
      case hw6 => rfl
      case hy6 =>
        intro w hSw
        obtain ⟨s0, s1, s2⟩ := hSw
        go_simp
        try with_reducible rfl
      try simp only [Act.put, List.setIfInBounds_toArray, List.set_cons_zero, List.set_cons_succ]
      refine peel_take (i := 7) (oi := ?oi7) (v := ?v7) (fun _ _ _ _ _ h => h) hHeld ?hi7 (by kernel_rfl) (by kernel_rfl) (by kernel_rfl) ?hw7 ?hy7 ?rest7
      case hi7 =>
        simp only [List.getElem?_toArray, List.getElem?_cons_succ, List.getElem?_cons_zero]
        rfl
      case hw7 => rfl
      case hy7 =>
        intro w hSw
        obtain ⟨s0, s1, s2⟩ := hSw
        go_simp
        try with_reducible rfl
      try simp only [Act.put, List.setIfInBounds_toArray, List.set_cons_zero, List.set_cons_succ]
      refine peel_take (i := 8) (oi := ?oi8) (v := ?v8) (fun _ _ _ _ _ h => h) hHeld ?hi8 (by kernel_rfl) (by kernel_rfl) (by kernel_rfl) ?hw8 ?hy8 ?rest8
      case hi8 =>
        simp only [List.getElem?_toArray, List.getElem?_cons_succ, List.getElem?_cons_zero]
        rfl
      case hw8 => rfl
      case hy8 =>
        intro w hSw
        obtain ⟨s0, s1, s2⟩ := hSw
        go_simp
        try with_reducible rfl
      try simp only [Act.put, List.setIfInBounds_toArray, List.set_cons_zero, List.set_cons_succ]
      refine wpAnyH_ready (rs := [4]) (by kernel_rfl) (by simp) ?_
      refine AllReadyH.cons (o := ?o4) ?ho4 (fun K hK => ?st4) AllReadyH.nil
      case ho4 =>
        simp only [List.getElem?_toArray, List.getElem?_cons_succ, List.getElem?_cons_zero]
        rfl
      go_simp
      refine (stringsClone_any d.text W4.drew htx).mono ?_
      rintro e W5 ⟨rfl, hb5⟩
      have hb5' : Below W4.heap.size W4 W5 := (below_drewN (Below.refl _ _) 1).trans hb5
      refine hK.out _ _ (HSt.out W5 hb5') (fun hHeld => ?re4)
      clear hK K
      try simp only [Act.put, List.setIfInBounds_toArray, List.set_cons_zero, List.set_cons_succ]
      refine wpAnyH_ready (rs := [9]) (by kernel_rfl) (by simp) ?_
      refine AllReadyH.cons (o := ?o9) ?ho9 (fun K hK => ?st9) AllReadyH.nil
      case ho9 =>
        simp only [List.getElem?_toArray, List.getElem?_cons_succ, List.getElem?_cons_zero]
        rfl
      go_simp
      refine hK.out _ _ (HSt.out W5 hb5') (fun hHeld => ?re9)
      clear hK K
      try simp only [Act.put, List.setIfInBounds_toArray, List.set_cons_zero, List.set_cons_succ]
      refine wpAnyH_done (by kernel_rfl) ?_ _
      show Oper.wp _ _ _ _ _ _
      have hC5 := HC4.out.below hb5'
      have r0 : W5.cell? ⟨w.heap.size + 1, 0, none⟩ = some (.int .i64 0) := hC5.r.cell 0
      have r1 : W5.cell? ⟨w.heap.size + 1, 1, none⟩ = some (.string ByteArray.empty) := hC5.r.cell 1
      have r2 : W5.cell? ⟨w.heap.size + 1, 2, none⟩ = some (.slice none 0 0) := hC5.r.cell 2
      have r3 : W5.cell? ⟨w.heap.size + 1, 3, none⟩ = some (.slice none 0 0) := hC5.r.cell 3
      have r4 : W5.cell? ⟨w.heap.size + 1, 4, none⟩ = some (.int .i64 0) := hC5.r.cell 4
      have g0 := hC5.r.frozen 0
      have g1 := hC5.r.frozen 1
      have g2 := hC5.r.frozen 2
      have g3 := hC5.r.frozen 3
      have g4 := hC5.r.frozen 4
      have HC5 : Hid (CN w d l W5 ∧ W5.ownsRow (w.heap.size + 2) 9 1 (.slice na d.nn nc) d.nn (strv (lst d.nn d.names)) ∧ W5.ownsRow (w.heap.size + 2) 3 1 (.slice ka d.kn kc) d.kn (intv0 d.kn d.kids)) := ⟨hC5, owns_same HN4.out.1 (fun b hb => hb5'.block b (owns_block HN4.out.1 hb).2), owns_same HN4.out.2 (fun b hb => hb5'.block b (owns_block HN4.out.2 hb).2)⟩
      clear hC5 hb5 hb5' HSt hHeld HC4 HN4
      go_simp
      refine NoPanic.normal ?_
      go_wp2_with fail
      refine end_world (F := fun W => Blk W (w.heap.size + 1) #[.int .i64 d.kind, .string d.text, .slice na d.nn nc, .slice ka d.kn kc, .int .i64 d.turn] 53 ∧ NewNn w d ⟨na, nc, ka, kc⟩ W) ?_ ?_
      · obtain ⟨hc, h1, h2⟩ := HC5.out
        refine ⟨((((hc.r.set 0 _).set 1 _).set 2 _).set 3 _).set 4 _, bel_put (bel_put (bel_put (bel_put (bel_put hc.bel _ (by omega)) _ (by omega)) _ (by omega)) _ (by omega)) _ (by omega), ?_, ?_, HAP.out⟩
        · refine owns_lower (owns_same h1 fun b hb => ?_) (by omega)
          have := (owns_block h1 hb).1
          have hne : b ≠ w.heap.size + 1 := by omega
          exact ((((blk_setCell_other _ _ _ _ hne).trans (blk_setCell_other _ _ _ _ hne)).trans (blk_setCell_other _ _ _ _ hne)).trans (blk_setCell_other _ _ _ _ hne)).trans (blk_setCell_other _ _ _ _ hne)
        · refine owns_lower (owns_same h2 fun b hb => ?_) (by omega)
          have := (owns_block h2 hb).1
          have hne : b ≠ w.heap.size + 1 := by omega
          exact ((((blk_setCell_other _ _ _ _ hne).trans (blk_setCell_other _ _ _ _ hne)).trans (blk_setCell_other _ _ _ _ hne)).trans (blk_setCell_other _ _ _ _ hne)).trans (blk_setCell_other _ _ _ _ hne)
      clear HC5 r0 r1 r2 r3 r4 g0 g1 g2 g3 g4
      rintro W ⟨hr, hN⟩
      have r0 : W.cell? ⟨w.heap.size + 1, 0, none⟩ = some (.int .i64 d.kind) := hr.cell 0
      have r1 : W.cell? ⟨w.heap.size + 1, 1, none⟩ = some (.string d.text) := hr.cell 1
      have r2 : W.cell? ⟨w.heap.size + 1, 2, none⟩ = some (.slice na d.nn nc) := hr.cell 2
      have r3 : W.cell? ⟨w.heap.size + 1, 3, none⟩ = some (.slice ka d.kn kc) := hr.cell 3
      have r4 : W.cell? ⟨w.heap.size + 1, 4, none⟩ = some (.int .i64 d.turn) := hr.cell 4
      exact bodyPost_ret (v := .agg #[.int .i64 d.kind, .string d.text, .slice na d.nn nc, .slice ka d.kn kc, .int .i64 d.turn]) (by simp [results, Try.results26, go_sem, r0, r1, r2, r3, r4]) rfl ⟨⟨na, nc, ka, kc⟩, rfl, hN⟩
end Go.Proofs.Yteoanlkmkmajjaa

/-
  What slices.Equal answers at two lists of texts; it turns no memory.
-/
namespace Go.Proofs.Yteoanlkmkmajjaa
open Go.RowKit
set_option linter.unusedVariables false

set_option maxHeartbeats 400000 in
theorem slicesEqual_any (a a' : Option Addr) (n c m c' : Nat) (S T : Nat → ByteArray) (w : World) (hS : IsStrs w a n S) (hT : IsStrs w a' m T) (hn : n ≤ maxLen) (hm : m ≤ maxLen) :
    Calls Try.prog 87 #[.slice a n c, .slice a' m c'] w fun e w' => (∃ q, w' = w.drewN q) ∧ e = .returned (.bool (decide (n = m) && eqS n S T)) := by
  unfold maxLen at hn hm
  by_cases hne : n = m
  · subst hne
    have hb : ((n : Int) != (n : Int)) = false := by simp
    go_enter Try.func87, Try.ntmps87
    go_wp2
    go_loopw [13] (fun i wr => ∃ k q : Nat, k ≤ n ∧ i = .int .i64 k ∧ wr = w.drewN q ∧ eqS k S T = true) (fun i _ => n - (intOf i).toNat)
    case atStart => exact ⟨0, 0, Nat.zero_le _, rfl, rfl, rfl⟩
    case round =>
      obtain ⟨k, q, hk, rfl, rfl, heq⟩ := hrel
      have HE : Hid (eqS k S T = true) := heq
      clear heq
      by_cases hlt : k < n
      · obtain ⟨b, off, rfl, hlt2, hc⟩ := hS.at hlt
        obtain ⟨b', off', rfl, hlt2', hc'⟩ := hT.at hlt
        have h1 := hc k hlt
        have h2 := hc' k hlt
        have hlti : (k : Int) < (n : Int) := by omega
        clear hc hc'
        go_wp2
        go_quiet (fail)
        go_wp2
        · go_ret
          exact ⟨⟨q + nq, by simp⟩, ret_bool (by rw [← eqS_not n k S T hlt ‹_›]; simp)⟩
        · go_roundw
          case rel => exact ⟨k + 1, q + nq, by omega, by go_num, rfl, eqS_succ k S T HE.out ‹_›⟩
          case measure => simp [intOf]; omega
      · have hkn : k = n := by omega
        have HK : Hid (k = n) := hkn
        clear hkn
        go_wp2
        go_ret
        exact ⟨⟨q, rfl⟩, ret_bool (by rw [← HK.out, HE.out]; simp)⟩
  · have hb : ((n : Int) != (m : Int)) = true := by simp; omega
    go_enter Try.func87, Try.ntmps87
    go_wp2
    go_ret
    exact ⟨⟨0, rfl⟩, ret_bool (by simp [hne])⟩
end Go.Proofs.Yteoanlkmkmajjaa

/-
  What NodeSame of the program answers at two places, and slices.Equal at two lists of numbers.
-/
namespace Go.Proofs.Yteoanlkmkmajjaa
open Go.RowKit
set_option linter.unusedVariables false

set_option maxHeartbeats 400000 in
theorem intsEqual_any (a a' : Option Addr) (n c m c' : Nat) (Z Y : Nat → Int) (w : World) (hS : IsInts w a n Z) (hT : IsInts w a' m Y) (hn : n ≤ maxLen) (hm : m ≤ maxLen) :
    Calls Try.prog 88 #[.slice a n c, .slice a' m c'] w fun e w' => (∃ q, w' = w.drewN q) ∧ e = .returned (.bool (decide (n = m) && eqZ n Z Y)) := by
  unfold maxLen at hn hm
  by_cases hne : n = m
  · subst hne
    have hb : ((n : Int) != (n : Int)) = false := by simp
    go_enter Try.func88, Try.ntmps88
    go_wp2
    go_loopw [13] (fun i wr => ∃ k q : Nat, k ≤ n ∧ i = .int .i64 k ∧ wr = w.drewN q ∧ eqZ k Z Y = true) (fun i _ => n - (intOf i).toNat)
    case atStart => exact ⟨0, 0, Nat.zero_le _, rfl, rfl, rfl⟩
    case round =>
      obtain ⟨k, q, hk, rfl, rfl, heq⟩ := hrel
      have HE : Hid (eqZ k Z Y = true) := heq
      clear heq
      by_cases hlt : k < n
      · obtain ⟨b, off, rfl, hlt2, hc⟩ := hS.at hlt
        obtain ⟨b', off', rfl, hlt2', hc'⟩ := hT.at hlt
        have h1 := hc k hlt
        have h2 := hc' k hlt
        have hlti : (k : Int) < (n : Int) := by omega
        clear hc hc'
        by_cases hzy : Z k = Y k
        · have hzb : (Z k != Y k) = false := by simp [hzy]
          have HZ : Hid (Z k = Y k) := hzy
          clear hzy
          go_wp2
          go_quiet (fail)
          go_wp2
          go_roundw
          case rel => exact ⟨k + 1, q + nq, by omega, by go_num, rfl, eqZ_succ k Z Y HE.out HZ.out⟩
          case measure => simp [intOf]; omega
        · have hzb : (Z k != Y k) = true := by simp [hzy]
          have HZ : Hid (¬ Z k = Y k) := hzy
          clear hzy
          go_wp2
          go_quiet (fail)
          go_wp2
          go_ret
          exact ⟨⟨q + nq, by simp⟩, ret_bool (by rw [← eqZ_not n k Z Y hlt HZ.out]; simp)⟩
      · have hkn : k = n := by omega
        have HK : Hid (k = n) := hkn
        clear hkn
        go_wp2
        go_ret
        exact ⟨⟨q, rfl⟩, ret_bool (by rw [← HK.out, HE.out]; simp)⟩
  · have hb : ((n : Int) != (m : Int)) = true := by simp; omega
    go_enter Try.func88, Try.ntmps88
    go_wp2
    go_ret
    exact ⟨⟨0, rfl⟩, ret_bool (by simp [hne])⟩

set_option maxHeartbeats 1000000 in
theorem implNodeSame_any (d d' : Nd) (l l' : Loc) (w : World) (hI : NdIn w d l) (hI' : NdIn w d' l') (hf : d.Fits) (hf' : d'.Fits) :
    Calls Try.prog 75 #[ndV d l, ndV d' l'] w fun e w' => Below w.heap.size w w' ∧ e = .returned (.bool (d.same d')) := by
  have hn := hf.nn
  have hn' := hf'.nn
  have hk := hf.kn
  have hk' := hf'.kn
  unfold ndV
  cases b1 : (d.kind == d'.kind) with
  | false =>
    have H : Hid (false = d.same d') := same_kind (by simpa using b1)
    go_enter Try.func75, Try.ntmps75
    go_wp2_with fail
    go_ret
    exact ⟨((Below.refl _ _).alloc (Nat.le_refl _) _).alloc (by simp) _, ret_bool H.out⟩
  | true =>
    cases b2 : (d.text.toList == d'.text.toList) with
    | false =>
      have H : Hid (false = d.same d') := same_text (by rw [b2]; rfl)
      go_enter Try.func75, Try.ntmps75
      go_wp2_with fail
      go_ret
      exact ⟨((Below.refl _ _).alloc (Nat.le_refl _) _).alloc (by simp) _, ret_bool H.out⟩
    | true =>
      cases b3 : (d.turn == d'.turn) with
      | false =>
        have H : Hid (false = d.same d') := same_turn (by simpa using b3)
        go_enter Try.func75, Try.ntmps75
        go_wp2_with fail
        go_ret
        exact ⟨((Below.refl _ _).alloc (Nat.le_refl _) _).alloc (by simp) _, ret_bool H.out⟩
      | true =>
        have HK : Hid ((d.kind != d'.kind) = false ∧ (!d.text.toList == d'.text.toList) = false ∧ (d.turn != d'.turn) = false) := ⟨by simpa using b1, by rw [b2]; rfl, by simpa using b3⟩
        go_enter Try.func75, Try.ntmps75
        go_wp2_with fail
        refine at_world (F := New2 w _ _ _ _) (new2 w _ _ _ _) ?_
        rintro W ⟨hp, hp', hb, hs⟩
        have hI1 := hI.below (Nat.le_refl _) hb
        have hI1' := hI'.below (Nat.le_refl _) hb
        refine (slicesEqual_any l.nA l'.nA d.nn l.nc d'.nn l'.nc d.names d'.names W hI1.1 hI1'.1 hn hn').mono ?_
        rintro e w1 ⟨⟨q, rfl⟩, rfl⟩
        have p3 : W.cell? ⟨w.heap.size, 3, none⟩ = some (.slice l.kA d.kn l.kc) := hp.cell 3
        have q3 : W.cell? ⟨w.heap.size + 1, 3, none⟩ = some (.slice l'.kA d'.kn l'.kc) := hp'.cell 3
        have HI : Hid (IsInts W l.kA d.kn d.kids ∧ IsInts W l'.kA d'.kn d'.kids) := ⟨hI1.2, hI1'.2⟩
        have HB : Hid (Below w.heap.size w W) := hb
        clear hI1 hI1' hI hI' hp hp' hb hs hf hf'
        cases hq1 : (decide (d.nn = d'.nn) && eqS d.nn d.names d'.names) with
        | false =>
          have HQ : Hid ((decide (d.nn = d'.nn) && eqS d.nn d.names d'.names) = false) := hq1
          clear hq1
          go_wp2
          go_ret
          exact ⟨below_drewN HB.out _, ret_bool (same_names HQ.out)⟩
        | true =>
          have HQ : Hid ((decide (d.nn = d'.nn) && eqS d.nn d.names d'.names) = true) := hq1
          clear hq1
          go_wp2_with fail
          refine (intsEqual_any l.kA l'.kA d.kn l.kc d'.kn l'.kc d.kids d'.kids (W.drewN q) (HI.out.1.below (Nat.le_refl _) (below_drewN (Below.refl _ _) _)) (HI.out.2.below (Nat.le_refl _) (below_drewN (Below.refl _ _) _)) hk hk').mono ?_
          rintro e w1 ⟨⟨q', rfl⟩, rfl⟩
          have HZ : Hid ((decide (d.kn = d'.kn) && eqZ d.kn d.kids d'.kids) = d.same d') := by
            show _ = _
            unfold Nd.same
            rw [b1, b2, b3, HQ.out]; simp
          rw [HZ.out]
          go_wp2
          go_ret
          exact ⟨below_drewN HB.out _, rfl⟩
end Go.Proofs.Yteoanlkmkmajjaa

/-
  What lettersAlone and NameOk of the program answer at every text; they do not turn the world.
-/
namespace Go.Proofs.Yteoanlkmkmajjaa
open Go.RowKit
set_option linter.unusedVariables false

/-- Letters alone. -/
def lettersOk (s : ByteArray) : Bool := s.data.toList.all letter

set_option maxHeartbeats 400000 in
theorem lettersAlone_any (s : ByteArray) (w : World) (hs : s.size ≤ maxLen) :
    Calls Try.prog 91 #[.string s] w fun e w' => e = .returned (.bool (lettersOk s)) ∧ w' = w := by
  unfold maxLen at hs
  go_enter Try.func91, Try.ntmps91
  go_wp2
  go_loop [6] (fun i => ∃ k : Nat, k ≤ s.size ∧ i = .int .i64 k ∧ (s.data.toList.take k).all letter = true) (fun i => s.size - (intOf i).toNat)
  case atStart => exact ⟨0, Nat.zero_le _, rfl, rfl⟩
  case round =>
    obtain ⟨k, hk, rfl, ha⟩ := hrel
    have HA : Hid ((s.data.toList.take k).all letter = true) := ha
    clear ha
    by_cases hlt : k < s.size
    · go_wp2
      · go_ret
        exact ⟨ret_bool (not_all s k hlt (letter_no ‹_›)).symm, rfl⟩
      · go_round
        case rel => exact ⟨k + 1, by omega, by go_num, all_snoc s k hlt HA (letter_yes (by omega) (by omega))⟩
        case measure => simp [intOf]; omega
      · go_ret
        exact ⟨ret_bool (not_all s k hlt (letter_no (Or.inl ‹_›))).symm, rfl⟩
    · go_wp2
      go_ret
      refine ⟨ret_bool ?_, rfl⟩
      have h := HA.out
      rw [List.take_of_length_le (by simp; omega)] at h
      exact h.symm

theorem nameOk_mid (s : ByteArray) (h1 : 1 ≤ s.size) (h4 : s.size ≤ 4) : lettersOk s = nameOk s.data.toList := by
  have e : s.data.toList.length = s.size := by simp
  unfold lettersOk nameOk
  rw [decide_eq_true (show 1 ≤ s.data.toList.length by omega), decide_eq_true (show s.data.toList.length ≤ 4 by omega)]; simp

set_option maxHeartbeats 400000 in
theorem implNameOk_any (s : ByteArray) (w : World) (hs : s.size ≤ maxLen) :
    Calls Try.prog 92 #[.string s] w fun e w' => e = .returned (.bool (nameOk s.data.toList)) ∧ w' = w := by
  have hs' := hs
  unfold maxLen at hs'
  by_cases h1 : s.size < 1
  · have hb : decide ((1 : Int) ≤ s.size) = false := by simp; omega
    go_enter Try.func92, Try.ntmps92
    go_wp2
    go_ret
    exact ⟨ret_bool (nameOk_long s (Or.inl h1)), rfl⟩
  · have hb : decide ((1 : Int) ≤ s.size) = true := by simp; omega
    by_cases h4 : 4 < s.size
    · have hb4 : decide ((s.size : Int) ≤ 4) = false := by simp; omega
      go_enter Try.func92, Try.ntmps92
      go_wp2
      go_ret
      exact ⟨ret_bool (nameOk_long s (Or.inr h4)), rfl⟩
    · have hb4 : decide ((s.size : Int) ≤ 4) = true := by simp; omega
      go_enter Try.func92, Try.ntmps92
      go_wp2_with (go_at_call 91; refine (lettersAlone_any _ _ hs).mono ?_; rintro e w' ⟨rfl, rfl⟩)
      go_ret
      exact ⟨ret_bool (nameOk_mid s (by omega) (by omega)), rfl⟩
end Go.Proofs.Yteoanlkmkmajjaa

/-
  What the small parts of TreeOk of the program answer: turns, texts, names, places.
-/
namespace Go.Proofs.Yteoanlkmkmajjaa
open Go.RowKit
set_option linter.unusedVariables false

theorem less_total : ∀ a b : List UInt8, (!Op.bytesLess a b) = (Op.bytesLess b a || b == a)
  | [], [] => rfl
  | [], b :: y => by simp [Op.bytesLess]
  | a :: x, [] => by simp [Op.bytesLess]
  | a :: x, b :: y => by
    have ih := less_total x y
    simp only [Op.bytesLess]
    have e1 : (b :: y == a :: x) = (b == a && y == x) := by simp [List.cons_beq_cons]
    rw [e1]
    rcases Nat.lt_trichotomy a.toNat b.toNat with h | h | h
    · have h1 : a < b := UInt8.lt_iff_toNat_lt.2 h
      have h2 : ¬ b < a := fun hh => by have := UInt8.lt_iff_toNat_lt.1 hh; omega
      have h3 : (b == a) = false := by simp; intro hh; subst hh; omega
      rw [decide_eq_true h1, decide_eq_false h2, h3]; rfl
    · have h1 : a = b := UInt8.toNat_inj.1 h
      subst h1
      have h2 : ¬ a < a := fun hh => by have := UInt8.lt_iff_toNat_lt.1 hh; omega
      rw [decide_eq_false h2]
      simpa using ih
    · have h1 : b < a := UInt8.lt_iff_toNat_lt.2 h
      have h2 : ¬ a < b := fun hh => by have := UInt8.lt_iff_toNat_lt.1 hh; omega
      have h3 : (a == b) = false := by simp; intro hh; subst hh; omega
      rw [decide_eq_true h1, decide_eq_false h2, h3]; rfl

/-- A turn up to a last one. -/
def turnIn (z y : Int) : Bool := decide (1 ≤ z) && decide (z ≤ y)

theorem turnOk_any (z y : Int) (w : World) : Calls Try.prog 49 #[.int .i64 z, .int .i64 y] w fun e w' => e = .returned (.bool (turnIn z y)) ∧ w' = w := by
  by_cases h : 1 ≤ z
  · have hb : decide (1 ≤ z) = true := by simp; omega
    have HE : Hid (decide (z ≤ y) = turnIn z y) := by show _ = _; unfold turnIn; rw [hb]; rfl
    go_enter Try.func49, Try.ntmps49
    go_wp2
    go_ret
    exact ⟨ret_bool HE.out, rfl⟩
  · have hb : decide (1 ≤ z) = false := by simp; omega
    have HE : Hid (false = turnIn z y) := by show _ = _; unfold turnIn; rw [hb]; rfl
    go_enter Try.func49, Try.ntmps49
    go_wp2
    go_ret
    exact ⟨ret_bool HE.out, rfl⟩

theorem implTextOk_any (s : ByteArray) (w : World) (hs : s.size ≤ maxLen) :
    Calls Try.prog 89 #[.string s] w fun e w' => e = .returned (.bool (textOk s)) ∧ w' = w := by
  have hs' := hs
  unfold maxLen at hs'
  by_cases h : s.size ≤ 6
  · have hb : decide ((s.size : Int) ≤ 6) = true := by simp; omega
    have HE : Hid (s.data.toList.all letter = textOk s) := by show _ = _; unfold textOk; rw [decide_eq_true h, Bool.and_true]
    go_enter Try.func89, Try.ntmps89
    go_wp2_with (go_at_call 91; refine (lettersAlone_any _ _ hs).mono ?_; rintro e w' ⟨rfl, rfl⟩)
    go_ret
    exact ⟨ret_bool HE.out, rfl⟩
  · have hb : decide ((s.size : Int) ≤ 6) = false := by simp; omega
    have HE : Hid (false = textOk s) := by show _ = _; unfold textOk; rw [decide_eq_false h, Bool.and_false]
    go_enter Try.func89, Try.ntmps89
    go_wp2
    go_ret
    exact ⟨ret_bool HE.out, rfl⟩

set_option maxHeartbeats 1000000 in
theorem implNamesOk_any (a : Option Addr) (n c : Nat) (S : Nat → ByteArray) (w : World) (hS : IsStrs w a n S) (hm : Small n S) (hn : n ≤ maxLen) :
    Calls Try.prog 90 #[.slice a n c] w fun e w' => (∃ q, w' = w.drewN q) ∧ e = .returned (.bool (dirNames S n)) := by
  unfold maxLen at hn
  go_enter Try.func90, Try.ntmps90
  go_wp2
  go_loopw [7] (fun i wr => ∃ k q : Nat, k ≤ n ∧ i = .int .i64 k ∧ wr = w.drewN q ∧ dirNames S k = true) (fun i _ => n - (intOf i).toNat)
  case atStart => exact ⟨0, 0, Nat.zero_le _, rfl, rfl, rfl⟩
  case round =>
    obtain ⟨k, q, hk, rfl, hwr, heq⟩ := hrel
    have HE : Hid (dirNames S k = true ∧ wr = w.drewN q) := ⟨heq, hwr⟩
    have hSr : IsStrs wr a n S := by rw [hwr]; exact hS.below (Nat.le_refl _) (below_drewN (Below.refl _ _) _)
    clear heq hwr
    by_cases hlt : k < n
    · obtain ⟨b, off, rfl, hlt2, hc⟩ := hSr.at hlt
      have h1 := hc k hlt
      have hlti : (k : Int) < (n : Int) := by omega
      have hmk := hm k hlt
      have hcall : Hid (Calls Try.prog 92 #[.string (S k)] wr fun e w' => e = .returned (.bool (nameOk (S k).data.toList)) ∧ w' = wr) := implNameOk_any (S k) _ hmk
      cases hnm : nameOk (S k).data.toList with
      | false =>
        rw [hnm] at hcall
        have HN : Hid (nameOk (S k).data.toList = false) := hnm
        clear hc hnm
        go_wp2_with (go_at_call 92; refine hcall.out.mono ?_; rintro e w' ⟨rfl, rfl⟩)
        go_ret
        exact ⟨⟨q, HE.out.2⟩, ret_bool (dirNames_bad S k n hlt (by rw [HN.out]; rfl))⟩
      | true =>
        rw [hnm] at hcall
        have HN : Hid (nameOk (S k).data.toList = true) := hnm
        clear hnm
        by_cases hk0 : k = 0
        · subst hk0
          clear hc
          rw [Nat.add_zero] at h1
          go_wp2_with (go_at_call 92; refine hcall.out.mono ?_; rintro e w' ⟨rfl, rfl⟩)
          go_roundw
          case rel => exact ⟨1, q, by omega, by go_num, HE.out.2, dirNames_one S HN.out⟩
          case measure => simp [intOf]; omega
        · have h2 : wr.cell? ⟨b, off + (k - 1), none⟩ = some (.string (S (k - 1))) := hc (k - 1) (by omega)
          have hk0' : decide (0 < k) = true := by simp; omega
          have hk1 : ((k - 1 : Nat) : Int) < (n : Int) := by omega
          have hwr : IntKind.i64.wrap ((k : Int) - 1) = ((k - 1 : Nat) : Int) := by rw [IntKind.wrap_i64]; omega
          clear hc
          cases hle : lessEq (S k) (S (k - 1)) with
          | true =>
            have hle' : (!Op.bytesLess (S (k - 1)).toList (S k).toList) = true := (less_total _ _).trans hle
            have HL : Hid (lessEq (S k) (S (k - 1)) = true) := hle
            clear hle
            go_wp2_with (go_at_call 92; refine hcall.out.mono ?_; rintro e w' ⟨rfl, rfl⟩)
            go_ret
            exact ⟨⟨q, HE.out.2⟩, ret_bool (dirNames_bad S k n hlt (by rw [HN.out, HL.out]; simp; omega))⟩
          | false =>
            have hle' : (!Op.bytesLess (S (k - 1)).toList (S k).toList) = false := (less_total _ _).trans hle
            have HL : Hid (lessEq (S k) (S (k - 1)) = false) := hle
            clear hle
            go_wp2_with (go_at_call 92; refine hcall.out.mono ?_; rintro e w' ⟨rfl, rfl⟩)
            go_roundw
            case rel => exact ⟨k + 1, q, by omega, by go_num, HE.out.2, dirNames_succ S k HE.out.1 (by rw [HN.out, HL.out]; simp)⟩
            case measure => simp [intOf]; omega
    · have hkn : k = n := by omega
      have HK : Hid (k = n) := hkn
      clear hkn
      go_wp2
      go_ret
      exact ⟨⟨q, HE.out.2⟩, ret_bool (by rw [← HK.out, HE.out.1])⟩

set_option maxHeartbeats 1000000 in
theorem implKidsOk_any (a : Option Addr) (n c : Nat) (now : Int) (D : Nat → Nd) (L : Nat → Loc) (kA : Option Addr) (kn kc : Nat) (Z : Nat → Int) (w : World) (hS : IsNds w a n D L) (hI : IsInts w kA kn Z) (hkn : kn ≤ maxLen) (hZ : ∀ i, i < kn → In64 (Z i)) (hn : n ≤ maxLen) :
    Calls Try.prog 78 #[trV a n c now, .slice kA kn kc] w fun e w' => Below w.heap.size w w' ∧ e = .returned (.bool (kidsOk n D Z kn)) := by
  unfold maxLen at hkn hn
  unfold trV
  go_enter Try.func78, Try.ntmps78
  go_wp2
  go_loopw [9] (fun i wr => ∃ k : Nat, k ≤ kn ∧ i = .int .i64 k ∧ RefsIn w a n c now wr ∧ kidsOk n D Z k = true) (fun i _ => kn - (intOf i).toNat)
  case atStart => exact ⟨0, Nat.zero_le _, rfl, ⟨(new1 w _ _).b0, (new1 w _ _).bel⟩, rfl⟩
  case round =>
    obtain ⟨k, hk, rfl, hin, heq⟩ := hrel
    have t0 : wr.cell? ⟨w.heap.size, 0, none⟩ = some (.slice a n c) := hin.t.cell 0
    have hSr := hS.below (Nat.le_refl _) hin.bel
    have hIr := hI.below (Nat.le_refl _) hin.bel
    have HE : Hid (kidsOk n D Z k = true ∧ RefsIn w a n c now wr) := ⟨heq, hin⟩
    clear heq hin
    by_cases hlt : k < kn
    · obtain ⟨b, off, rfl, hlt2, hc⟩ := hIr.at hlt
      have h1 := hc k hlt
      have hlti : (k : Int) < (kn : Int) := by omega
      clear hc
      have hz := hZ k hlt
      unfold In64 at hz
      have bad : kidOk n D (Z k) = false → Hid (kidsOk n D Z kn = false) := fun h => kidsOk_bad hlt h
      by_cases hz1 : Z k < 1
      · have H : Hid (kidsOk n D Z kn = false) := bad (by unfold kidOk; rw [decide_eq_false (show ¬ 1 ≤ Z k by omega)]; rfl)
        clear bad
        go_wp2_with fail
        go_ret
        exact ⟨HE.out.2.bel, ret_bool (by rw [H.out])⟩
      · by_cases hz2 : (n : Int) ≤ Z k
        · have H : Hid (kidsOk n D Z kn = false) := bad (by unfold kidOk; rw [decide_eq_false (show ¬ Z k < n by omega)]; simp)
          clear bad
          go_wp2_with fail
          go_ret
          exact ⟨HE.out.2.bel, ret_bool (by rw [H.out])⟩
        · obtain ⟨j, hj⟩ : ∃ j : Nat, Z k = j := ⟨(Z k).toNat, by omega⟩
          have hjn : j < n := by omega
          obtain ⟨b', off', ha, hlt2', hc'⟩ := hSr.at hjn
          have g0 := (hc' j hjn).1
          have hko : kidOk n D (Z k) = ((D j).kind != 0) := by
            unfold kidOk; rw [decide_eq_true (show 1 ≤ Z k by omega), decide_eq_true (show Z k < n by omega), hj]; simp
          clear hc' hSr
          rw [ha] at t0
          rw [hj] at h1 hz1 hz2 hz
          cases hkd : ((D j).kind == 0) with
          | true =>
            have H : Hid (kidsOk n D Z kn = false) := bad (by rw [hko]; simp only [bne, hkd]; rfl)
            clear bad hko
            go_wp2_with fail
            go_ret
            exact ⟨HE.out.2.bel, ret_bool (by rw [H.out])⟩
          | false =>
            have H : Hid (kidOk n D (Z k) = true) := hko.trans (by simp only [bne, hkd]; rfl)
            clear bad hko
            go_wp2_with fail
            go_roundw
            case rel => exact ⟨k + 1, by omega, by go_num, HE.out.2, kidsOk_succ HE.out.1 H.out⟩
            case measure => simp [intOf]; omega
    · have hke : k = kn := by omega
      have HK : Hid (kidsOk n D Z kn = true) := by have := HE.out.1; rw [hke] at this; exact this
      clear hke hSr hIr
      go_wp2
      go_ret
      exact ⟨HE.out.2.bel, ret_bool (by rw [HK.out])⟩
end Go.Proofs.Yteoanlkmkmajjaa

/-
  What placeOk of the program answers: whether a place is right by itself.
-/
namespace Go.Proofs.Yteoanlkmkmajjaa
open Go.RowKit
set_option linter.unusedVariables false

/-- The empty place. -/
def nd0 : Nd := ⟨0, ByteArray.empty, 0, fun _ => ByteArray.empty, 0, fun _ => 0, 0⟩
def loc0 : Loc := ⟨none, 0, none, 0⟩
theorem nd0_fits : nd0.Fits := ⟨⟨by decide, by decide⟩, ⟨by decide, by decide⟩, by unfold nd0 maxLen; simp, fun i hi => by unfold nd0 at hi; simp at hi, by unfold nd0 maxLen; simp, by unfold nd0 maxLen; simp, fun i hi => by unfold nd0 at hi; simp at hi⟩
theorem nd0_in (w : World) : NdIn w nd0 loc0 := ⟨Or.inl rfl, Or.inl rfl⟩

theorem same_free (d : Nd) (h : d.kind = 0) : d.same nd0 = freeOk d := by
  unfold Nd.same freeOk nd0
  rw [h]
  by_cases hn : d.nn = 0
  · by_cases hk : d.kn = 0
    · rw [hn, hk]; simp [eqS, eqZ]
    · simp [hk]
  · simp [hn]

/-- What a file has. -/
def fileIs (d : Nd) : Bool := textOk d.text && decide (d.nn = 0) && decide (d.kn = 0)
/-- What a directory has. -/
def dirIs (d : Nd) : Bool := (d.text.toList == []) && dirNames d.names d.nn && decide (d.kn = d.nn)

theorem fileOk_eq (now : Int) (d : Nd) : fileOk now d = (fileIs d && turnIn d.turn now) := by
  unfold fileOk fileIs turnIn; simp only [Bool.and_assoc]

theorem dirOk_eq (n : Nat) (D : Nat → Nd) (now : Int) (d : Nd) : dirOk n D now d = (dirIs d && kidsOk n D d.kids d.kn && turnIn d.turn now) := by
  unfold dirOk dirIs turnIn
  cases (d.text.toList == []) <;> cases dirNames d.names d.nn <;> cases kidsOk n D d.kids d.kn <;> cases decide (d.kn = d.nn) <;> simp

set_option maxHeartbeats 1000000 in
theorem implFileOk_any (d : Nd) (l : Loc) (w : World) (hf : d.Fits) :
    Calls Try.prog 76 #[ndV d l] w fun e w' => Below w.heap.size w w' ∧ e = .returned (.bool (fileIs d)) := by
  have hkn := hf.kn
  have hnn := hf.nn
  unfold maxLen at hkn hnn
  unfold ndV
  go_enter Try.func76, Try.ntmps76
  go_wp2_with fail
  refine (implTextOk_any d.text _ hf.text).mono ?_
  rintro e w1 ⟨rfl, rfl⟩
  cases htx : textOk d.text with
  | false =>
    have HT : Hid (textOk d.text = false) := htx
    clear htx
    go_wp2_with fail
    go_ret
    exact ⟨(Below.refl _ _).alloc (Nat.le_refl _) _, ret_bool (by unfold fileIs; rw [HT.out]; rfl)⟩
  | true =>
    have HT : Hid (textOk d.text = true) := htx
    clear htx
    go_wp2_with fail
    all_goals
      go_ret
      refine ⟨(Below.refl _ _).alloc (Nat.le_refl _) _, ret_bool ?_⟩
      unfold fileIs
      rw [HT.out]
      by_cases h1 : d.nn = 0 <;> by_cases h2 : d.kn = 0 <;> simp_all

set_option maxHeartbeats 1000000 in
theorem implDirOk_any (d : Nd) (l : Loc) (w : World) (hI : NdIn w d l) (hf : d.Fits) :
    Calls Try.prog 77 #[ndV d l] w fun e w' => Below w.heap.size w w' ∧ e = .returned (.bool (dirIs d)) := by
  have hkn := hf.kn
  have hnn := hf.nn
  unfold maxLen at hkn hnn
  unfold ndV
  cases ht : (d.text.toList == []) with
  | false =>
    have HT : Hid ((d.text.toList == []) = false) := ht
    go_enter Try.func77, Try.ntmps77
    go_wp2_with fail
    go_ret
    exact ⟨(Below.refl _ _).alloc (Nat.le_refl _) _, ret_bool (by unfold dirIs; rw [HT.out]; rfl)⟩
  | true =>
    have HT : Hid ((d.text.toList == []) = true) := ht
    go_enter Try.func77, Try.ntmps77
    go_wp2_with fail
    refine at_world (F := New1 w _ _) (new1 w _ _) ?_
    rintro W ⟨hp, hb, hs⟩
    refine (implNamesOk_any l.nA d.nn l.nc d.names W (hI.1.below (Nat.le_refl _) hb) hf.names hf.nn).mono ?_
    rintro e w1 ⟨⟨q, rfl⟩, rfl⟩
    have p2 : W.cell? ⟨w.heap.size, 2, none⟩ = some (.slice l.nA d.nn l.nc) := hp.cell 2
    have p3 : W.cell? ⟨w.heap.size, 3, none⟩ = some (.slice l.kA d.kn l.kc) := hp.cell 3
    have HB : Hid (Below w.heap.size w W) := hb
    clear hp hb hs ht
    cases hnm : dirNames d.names d.nn with
    | false =>
      have HN : Hid (dirNames d.names d.nn = false) := hnm
      clear hnm
      go_wp2_with fail
      go_ret
      exact ⟨below_drewN HB.out _, ret_bool (by unfold dirIs; rw [HN.out]; simp)⟩
    | true =>
      have HN : Hid (dirNames d.names d.nn = true) := hnm
      clear hnm
      go_wp2_with fail
      all_goals
        go_ret
        refine ⟨below_drewN HB.out _, ret_bool ?_⟩
        unfold dirIs; rw [HN.out, HT.out]
        by_cases h : d.kn = d.nn
        · simp [h]
        · rw [decide_eq_false h]; simp; omega

set_option maxHeartbeats 1000000 in
theorem placeOk_any (a : Option Addr) (n c : Nat) (now : Int) (D : Nat → Nd) (L : Nat → Loc) (d : Nd) (l : Loc) (w : World) (hS : IsNds w a n D L) (hI : NdIn w d l) (hf : d.Fits) (hn : n ≤ maxLen) :
    Calls Try.prog 50 #[trV a n c now, ndV d l] w fun e w' => Below w.heap.size w w' ∧ e = .returned (.bool (ndOk n D now d)) := by
  unfold trV ndV
  by_cases h0 : d.kind = 0
  · have H : Hid (d.same nd0 = ndOk n D now d) := (same_free d h0).trans (if_pos h0).symm
    have b0 : (d.kind == 0) = true := by simp [h0]
    clear h0
    go_enter Try.func50, Try.ntmps50
    go_wp2_with fail
    refine at_world (F := New2 w _ _ _ _) (new2 w _ _ _ _) ?_
    rintro W ⟨hp, hp', hb, hs⟩
    refine (implNodeSame_any d nd0 l loc0 W (hI.below (Nat.le_refl _) hb) (nd0_in _) hf nd0_fits).mono ?_
    rintro e w1 ⟨hb1, rfl⟩
    have HB : Hid (Below w.heap.size w w1) := hb.trans (hb1.mono (by omega))
    clear hp hp' hb hs hb1
    rw [H.out]
    go_wp2
    go_ret
    exact ⟨HB.out, rfl⟩
  · have n0 : (d.kind == 0) = false := by simp [h0]
    by_cases h1 : d.kind = 1
    · have H : Hid (ndOk n D now d = (fileIs d && turnIn d.turn now)) := ((if_neg h0).trans (if_pos h1)).trans (fileOk_eq now d)
      have b1 : (d.kind == 1) = true := by simp [h1]
      clear h0 h1
      go_enter Try.func50, Try.ntmps50
      go_wp2_with fail
      refine at_world (F := New2 w _ _ _ _) (new2 w _ _ _ _) ?_
      rintro W ⟨hp, hp', hb, hs⟩
      refine (implFileOk_any d l W hf).mono ?_
      rintro e w1 ⟨hb1, rfl⟩
      have p1 : w1.cell? ⟨w.heap.size, 1, none⟩ = some (.int .i64 now) := (hp.below hb1 (by omega)).cell 1
      have d4 : w1.cell? ⟨w.heap.size + 1, 4, none⟩ = some (.int .i64 d.turn) := (hp'.below hb1 (by omega)).cell 4
      have HB : Hid (Below w.heap.size w w1) := hb.trans (hb1.mono (by omega))
      clear hp hp' hb hs hb1
      cases hq : fileIs d with
      | false =>
        have HQ : Hid (false = ndOk n D now d) := by show _ = _; rw [H.out, hq]; rfl
        clear hq
        go_wp2
        go_ret
        exact ⟨HB.out, ret_bool HQ.out⟩
      | true =>
        have HQ : Hid (turnIn d.turn now = ndOk n D now d) := by show _ = _; rw [H.out, hq]; rfl
        clear hq
        go_wp2_with (go_at_call 49; refine (turnOk_any _ _ _).mono ?_; rintro e w' ⟨rfl, rfl⟩)
        go_ret
        exact ⟨HB.out, ret_bool HQ.out⟩
    · have n1 : (d.kind == 1) = false := by simp [h1]
      by_cases h2 : d.kind = 2
      · have H : Hid (ndOk n D now d = (dirIs d && kidsOk n D d.kids d.kn && turnIn d.turn now)) := ((if_neg h0).trans ((if_neg h1).trans (if_pos h2))).trans (dirOk_eq n D now d)
        have b2 : (d.kind == 2) = true := by simp [h2]
        clear h0 h1 h2
        go_enter Try.func50, Try.ntmps50
        go_wp2_with fail
        refine at_world (F := New2 w _ _ _ _) (new2 w _ _ _ _) ?_
        rintro W ⟨hp, hp', hb, hs⟩
        refine (implDirOk_any d l W (hI.below (Nat.le_refl _) hb) hf).mono ?_
        rintro e w1 ⟨hb1, rfl⟩
        have hp1 := hp.below hb1 (by omega)
        have hp1' := hp'.below hb1 (by omega)
        have p0 : w1.cell? ⟨w.heap.size, 0, none⟩ = some (.slice a n c) := hp1.cell 0
        have p1 : w1.cell? ⟨w.heap.size, 1, none⟩ = some (.int .i64 now) := hp1.cell 1
        have d3 : w1.cell? ⟨w.heap.size + 1, 3, none⟩ = some (.slice l.kA d.kn l.kc) := hp1'.cell 3
        have hwl := hp1'.lt
        have HB : Hid (Below w.heap.size w w1 ∧ Blk w1 w.heap.size _ _ ∧ Blk w1 (w.heap.size + 1) _ _) := ⟨hb.trans (hb1.mono (by omega)), hp1, hp1'⟩
        clear hp hp' hb hs hb1 hp1 hp1'
        cases hq : dirIs d with
        | false =>
          have HQ : Hid (false = ndOk n D now d) := by show _ = _; rw [H.out, hq]; rfl
          clear hq
          go_wp2
          go_ret
          exact ⟨HB.out.1, ret_bool HQ.out⟩
        | true =>
          have HQ1 : Hid (ndOk n D now d = (kidsOk n D d.kids d.kn && turnIn d.turn now)) := by show _ = _; rw [H.out, hq]; rfl
          clear hq
          go_wp2_with fail
          refine (implKidsOk_any a n c now D L l.kA d.kn l.kc d.kids w1 (hS.below (Nat.le_refl _) HB.out.1) (hI.2.below (Nat.le_refl _) HB.out.1) hf.kn hf.kids hn).mono ?_
          rintro e w2 ⟨hb2, rfl⟩
          have p1' : w2.cell? ⟨w.heap.size, 1, none⟩ = some (.int .i64 now) := (HB.out.2.1.below hb2 (by omega)).cell 1
          have d4 : w2.cell? ⟨w.heap.size + 1, 4, none⟩ = some (.int .i64 d.turn) := (HB.out.2.2.below hb2 (by omega)).cell 4
          have HB2 : Hid (Below w.heap.size w w2) := HB.out.1.trans (hb2.mono (by omega))
          clear hb2 p0 p1 d3
          cases hq : kidsOk n D d.kids d.kn with
          | false =>
            have HQ : Hid (false = ndOk n D now d) := by show _ = _; rw [HQ1.out, hq]; rfl
            clear hq
            go_wp2
            go_ret
            exact ⟨HB2.out, ret_bool HQ.out⟩
          | true =>
            have HQ : Hid (turnIn d.turn now = ndOk n D now d) := by show _ = _; rw [HQ1.out, hq]; rfl
            clear hq
            go_wp2_with (go_at_call 49; refine (turnOk_any _ _ _).mono ?_; rintro e w' ⟨rfl, rfl⟩)
            go_ret
            exact ⟨HB2.out, ret_bool HQ.out⟩
      · have n2 : (d.kind == 2) = false := by simp [h2]
        have H : Hid (false = ndOk n D now d) := ((if_neg h0).trans ((if_neg h1).trans (if_neg h2))).symm
        clear h0 h1 h2
        go_enter Try.func50, Try.ntmps50
        go_wp2_with fail
        go_ret
        exact ⟨((Below.refl _ _).alloc (Nat.le_refl _) _).alloc (by simp) _, ret_bool H.out⟩
end Go.Proofs.Yteoanlkmkmajjaa

/-
  When what is kept is right: plain facts.
-/
namespace Go.Proofs.Yteoanlkmkmajjaa
open Go.RowKit
set_option linter.unusedVariables false

/-- A place that there is. -/
def liveIn (n : Nat) (Z : Nat → Bool) (z : Int) : Bool := decide (0 ≤ z) && decide (z < n) && Z z.toNat
/-- .. and that is not the root. -/
def kidIn (n : Nat) (Z : Nat → Bool) (z : Int) : Bool := decide (1 ≤ z) && decide (z < n) && Z z.toNat
def kidsIn (n : Nat) (Z : Nat → Bool) (K : Nat → Int) (k : Nat) : Bool := (List.range k).all fun i => kidIn n Z (K i)

theorem kidsIn_succ {n : Nat} {Z : Nat → Bool} {K : Nat → Int} {k : Nat} (h : kidsIn n Z K k = true) (hk : kidIn n Z (K k) = true) : kidsIn n Z K (k + 1) = true := by
  unfold kidsIn at *
  rw [List.range_succ, List.all_append, h]; simpa using hk

theorem kidsIn_bad {n : Nat} {Z : Nat → Bool} {K : Nat → Int} {k m : Nat} (hk : k < m) (h : kidIn n Z (K k) = false) : kidsIn n Z K m = false := by
  rw [Bool.eq_false_iff]
  intro ha
  have := List.all_eq_true.1 ha k (by simpa using hk)
  rw [h] at this; cases this

/-- What was turned may be there. -/
def nodeIn (d : Dp) (o : Int) (x : Nd) : Bool := if x.kind = 1 then fileIs x && decide (0 < o) else if x.kind = 2 then dirIs x && kidsIn d.ln d.live x.kids x.kn else false
def turnedIn (d : Dp) (x : Nd) : Bool := decide (d.since < x.turn) && decide (x.turn ≤ d.date)
def itIn (d : Dp) (o : Int) (x : Nd) : Bool := liveIn d.ln d.live o && turnedIn d x && nodeIn d o x
/-- The first k are right, and in order. -/
def stepIn (d : Dp) (i : Nat) : Bool := itIn d (d.ino i) (d.nd i) && (i == 0 || decide (d.ino (i - 1) < d.ino i))
def itsIn (d : Dp) (k : Nat) : Bool := (List.range k).all (stepIn d)
def headIn (d : Dp) : Bool := decide (0 ≤ d.since) && decide (d.since ≤ d.date) && (decide (1 ≤ d.date) && decide (d.date ≤ 1000)) && (decide (1 ≤ d.ln) && decide (d.ln ≤ 10)) && d.live 0
def Dp.ok (d : Dp) : Bool := headIn d && itsIn d d.m

theorem itsIn_succ {d : Dp} {k : Nat} (h : itsIn d k = true) (hk : stepIn d k = true) : itsIn d (k + 1) = true := by
  unfold itsIn at *
  rw [List.range_succ, List.all_append, h]; simpa using hk

theorem ok_bad {d : Dp} {k : Nat} (hk : k < d.m) (h : stepIn d k = false) : false = d.ok := by
  have : itsIn d d.m = false := by
    rw [Bool.eq_false_iff]
    intro ha
    have := List.all_eq_true.1 ha k (by simpa using hk)
    rw [h] at this; cases this
  unfold Dp.ok; rw [this]; simp

theorem ok_head {d : Dp} (h : headIn d = false) : false = d.ok := by unfold Dp.ok; rw [h]; rfl

theorem step_item {d : Dp} {k : Nat} (h : itIn d (d.ino k) (d.nd k) = false) : stepIn d k = false := by unfold stepIn; rw [h]; rfl
theorem step_zero {d : Dp} (h : itIn d (d.ino 0) (d.nd 0) = true) : stepIn d 0 = true := by unfold stepIn; rw [h]; rfl
theorem step_low {d : Dp} {k : Nat} (hk : k ≠ 0) (h : d.ino k ≤ d.ino (k - 1)) : stepIn d k = false := by
  unfold stepIn; rw [decide_eq_false (show ¬ d.ino (k - 1) < d.ino k by omega)]; simp [hk]
theorem step_more {d : Dp} {k : Nat} (h : itIn d (d.ino k) (d.nd k) = true) (h' : d.ino (k - 1) < d.ino k) : stepIn d k = true := by
  unfold stepIn; rw [h, decide_eq_true h']; simp

/-- The bits of truth values. -/
def bvv (Z : Nat → Bool) : Nat → Nat | 0 => 0 | k + 1 => bvv Z k + if Z k then 2 ^ k else 0

theorem bvv_lt (Z : Nat → Bool) : ∀ k, bvv Z k < 2 ^ k
  | 0 => by simp [bvv]
  | k + 1 => by
    have := bvv_lt Z k
    rw [bvv, Nat.pow_succ]
    split <;> omega

theorem bvv_test (Z : Nat → Bool) (i : Nat) : ∀ k, (bvv Z k).testBit i = (decide (i < k) && Z i)
  | 0 => by simp [bvv]
  | k + 1 => by
    have hl := bvv_lt Z k
    have ih := bvv_test Z i k
    rw [bvv]
    cases hz : Z k with
    | false =>
      simp only [Bool.false_eq_true, if_false, Nat.add_zero]
      rw [ih]
      by_cases e : i = k
      · subst e; simp [hz]
      · by_cases e2 : i < k
        · simp [e2, show i < k + 1 by omega]
        · simp [e2, show ¬ i < k + 1 by omega]
    | true =>
      simp only [if_true]
      rw [Nat.add_comm]
      by_cases e : i = k
      · subst e
        rw [Nat.testBit_two_pow_add_eq, ih]
        simp [hz]
      · by_cases e2 : i < k
        · rw [Nat.testBit_two_pow_add_gt e2, ih]
          simp [e2, show i < k + 1 by omega]
        · have h1 : 2 ^ k + bvv Z k < 2 ^ i := by
            have : 2 ^ (k + 1) ≤ 2 ^ i := Nat.pow_le_pow_right (by omega) (by omega)
            rw [Nat.pow_succ] at this
            omega
          rw [Nat.testBit_lt_two_pow h1]
          simp [show ¬ i < k + 1 by omega]
end Go.Proofs.Yteoanlkmkmajjaa

/-
  The bits of a number in which the program keeps which places are not free.
-/
namespace Go.Proofs.Yteoanlkmkmajjaa
open Go.RowKit
set_option linter.unusedVariables false

theorem wrap16 {z : Int} (h0 : 0 ≤ z) (h1 : z < 65536) : IntKind.u16.wrap z = z := by
  simp [IntKind.wrap, IntKind.bits, IntKind.signed]
  omega

theorem shl16 {k : Nat} (hk : k ≤ 10) : IntKind.u16.wrap ((2 : Int) ^ k) = ((2 ^ k : Nat) : Int) := by
  have hp : 2 ^ k ≤ 2 ^ 10 := Nat.pow_le_pow_right (by omega) hk
  have h1 : 2 ^ k < 65536 := by omega
  have e : (2 : Int) ^ k = ((2 ^ k : Nat) : Int) := by simp
  rw [e]
  clear e hp
  generalize 2 ^ k = y at h1 ⊢
  exact wrap16 (by omega) (by omega)

theorem or16 {x k : Nat} (hk : k ≤ 10) (hx : x < 2 ^ k) : bits .or .u16 (x : Int) ((2 ^ k : Nat) : Int) = ((x + 2 ^ k : Nat) : Int) := by
  have hp : 2 ^ k ≤ 2 ^ 10 := Nat.pow_le_pow_right (by omega) hk
  have hor : x ||| 2 ^ k = x + 2 ^ k := by
    have := Nat.two_pow_add_eq_or_of_lt hx 1
    rw [Nat.mul_one] at this
    rw [Nat.or_comm, ← this, Nat.add_comm]
  unfold bits
  simp only [show IntKind.u16.bits = 16 from rfl, BitVec.ofInt_natCast, BitVec.toNat_or, BitVec.toNat_ofNat]
  rw [Nat.mod_eq_of_lt (show x < 2 ^ 16 by omega), Nat.mod_eq_of_lt (show 2 ^ k < 2 ^ 16 by omega), hor]
  exact wrap16 (by omega) (by omega)

theorem and16 {y : Nat} (hy : y < 65536) : bits .and .u16 (y : Int) 1 = ((y % 2 : Nat) : Int) := by
  unfold bits
  have h1 : (BitVec.ofInt IntKind.u16.bits 1).toNat = 1 := by decide
  simp only [BitVec.ofInt_natCast, BitVec.toNat_and, BitVec.toNat_ofNat]
  rw [h1, show IntKind.u16.bits = 16 from rfl, Nat.mod_eq_of_lt (show y < 2 ^ 16 by omega), Nat.and_one_is_mod]
  exact wrap16 (by omega) (by omega)

theorem has16 {Z : Nat → Bool} {n j : Nat} (hn : n ≤ 10) : (bits .and .u16 (((bvv Z n : Nat) : Int) / 2 ^ j) 1 == 1) = (decide (j < n) && Z j) := by
  have hlt := bvv_lt Z n
  have hp : 2 ^ n ≤ 2 ^ 10 := Nat.pow_le_pow_right (by omega) hn
  have e1 : (((bvv Z n : Nat) : Int) / 2 ^ j) = ((bvv Z n / 2 ^ j : Nat) : Int) := by simp
  have h2 : bvv Z n / 2 ^ j ≤ bvv Z n := Nat.div_le_self _ _
  rw [e1, and16 (by omega), ← bvv_test Z j n, Nat.testBit_eq_decide_div_mod_eq]
  rcases Nat.mod_two_eq_zero_or_one (bvv Z n / 2 ^ j) with h | h <;> rw [h] <;> rfl

set_option maxHeartbeats 1000000 in
theorem bitsOfList_any (a : Option Addr) (n c : Nat) (Z : Nat → Bool) (w : World) (hS : IsBools w a n Z) (hn : n ≤ 10) :
    Calls Try.prog 66 #[.slice a n c] w fun e w' => w' = w ∧ e = .returned (.int .u16 (bvv Z n : Nat)) := by
  go_enter Try.func66, Try.ntmps66
  go_wp2
  go_loopw [3, 8] (fun v i wr => ∃ k : Nat, k ≤ n ∧ i = .int .i64 k ∧ v = .int .u16 (bvv Z k : Nat) ∧ wr = w) (fun _ i _ => n - (intOf i).toNat)
  case atStart => exact ⟨0, Nat.zero_le _, rfl, rfl, rfl⟩
  case round =>
    obtain ⟨k, hk, rfl, rfl, rfl⟩ := hrel
    by_cases hlt : k < n
    · obtain ⟨b, off, rfl, hlt2, hc⟩ := hS.at hlt
      have g0 := hc k hlt
      have hlti : (k : Int) < (n : Int) := by omega
      clear hc
      cases hz : Z k with
      | false =>
        rw [hz] at g0
        have HE : Hid (bvv Z (k + 1) = bvv Z k) := by show _ = _; rw [bvv, hz]; rfl
        clear hz
        go_wp2
        go_roundw
        case rel => exact ⟨k + 1, by omega, by go_num, by rw [HE.out], trivial⟩
        case measure => simp [intOf]; omega
      | true =>
        rw [hz] at g0
        have HE : Hid (bvv Z (k + 1) = bvv Z k + 2 ^ k) := by show _ = _; rw [bvv, hz]; rfl
        have HS : Hid (IntKind.u16.wrap ((2 : Int) ^ k) = ((2 ^ k : Nat) : Int) ∧ bits .or .u16 ((bvv Z k : Nat) : Int) ((2 ^ k : Nat) : Int) = ((bvv Z k + 2 ^ k : Nat) : Int)) := ⟨shl16 (by omega), or16 (by omega) (bvv_lt Z k)⟩
        clear hz
        go_wp2
        go_roundw
        case rel => exact ⟨k + 1, by omega, by go_num, by rw [HS.out.1, HS.out.2, HE.out], trivial⟩
        case measure => simp [intOf]; omega
    · obtain rfl : k = n := by omega
      go_wp2
      go_ret
      exact ⟨rfl, rfl⟩

set_option maxHeartbeats 1000000 in
theorem has_any (Z : Nat → Bool) (n : Nat) (z : Int) (w : World) (hn : n ≤ 10) (hz : In64 z) :
    Calls Try.prog 53 #[.int .u16 (bvv Z n : Nat), .int .i64 z] w fun e w' => w' = w ∧ e = .returned (.bool (liveIn n Z z)) := by
  unfold In64 at hz
  by_cases h0 : 0 ≤ z
  · by_cases h10 : z < 10
    · obtain ⟨j, rfl⟩ : ∃ j : Nat, z = j := ⟨z.toNat, by omega⟩
      have hb0 : decide ((0 : Int) ≤ (j : Int)) = true := by simp
      have hb1 : decide ((j : Int) < 10) = true := by simp; omega
      have H16 : Hid _ := has16 (Z := Z) (n := n) (j := j) hn
      have HX : Hid ((decide (j < n) && Z j) = liveIn n Z j) := by show _ = _; unfold liveIn; simp
      have hj0 : (0 : Int) ≤ (j : Int) := by omega
      go_enter Try.func53, Try.ntmps53
      go_wp2
      go_ret
      exact ⟨rfl, ret_bool (by rw [← HX.out, ← H16.out])⟩
    · have hb0 : decide ((0 : Int) ≤ z) = true := by simp; omega
      have hb1 : decide (z < 10) = false := by simp; omega
      have HX : Hid (false = liveIn n Z z) := by show _ = _; unfold liveIn; rw [decide_eq_false (show ¬ z < n by omega)]; simp
      go_enter Try.func53, Try.ntmps53
      go_wp2
      go_ret
      exact ⟨rfl, ret_bool HX.out⟩
  · have hb0 : decide ((0 : Int) ≤ z) = false := by simp; omega
    have HX : Hid (false = liveIn n Z z) := by show _ = _; unfold liveIn; rw [decide_eq_false h0]; rfl
    go_enter Try.func53, Try.ntmps53
    go_wp2
    go_ret
    exact ⟨rfl, ret_bool HX.out⟩
end Go.Proofs.Yteoanlkmkmajjaa

/-
  The bits of a tree, and the list that is told of them.
-/
namespace Go.Proofs.Yteoanlkmkmajjaa
open Go.RowKit
set_option linter.unusedVariables false
set_option linter.unusedSimpArgs false

/-- What is known within bitsOfTree. -/
structure T1In (w : World) (a : Option Addr) (n c : Nat) (now : Int) (W : World) : Prop where
  p : Blk W w.heap.size #[.slice a n c, .int .i64 now] 34
  bel : Below w.heap.size w W

theorem T1In.below {w : World} {a : Option Addr} {n c : Nat} {now : Int} {W W' : World} (h : T1In w a n c now W) (hb : Below W.heap.size W W') : T1In w a n c now W' :=
  ⟨h.p.below hb h.p.lt, h.bel.trans (hb.mono (by have := h.p.lt; omega))⟩

set_option maxHeartbeats 1000000 in
theorem bitsOfTree_any (a : Option Addr) (n c : Nat) (now : Int) (D : Nat → Nd) (L : Nat → Loc) (w : World) (hS : IsNds w a n D L) (hn : n ≤ 10) :
    Calls Try.prog 23 #[trV a n c now] w fun e w' => Below w.heap.size w w' ∧ e = .returned (.int .u16 (bvv (fun i => (D i).kind != 0) n : Nat)) := by
  unfold trV
  go_enter Try.func23, Try.ntmps23
  go_wp2
  go_loopw [3, 9] (fun v i wr => ∃ k : Nat, k ≤ n ∧ i = .int .i64 k ∧ v = .int .u16 (bvv (fun i => (D i).kind != 0) k : Nat) ∧ T1In w a n c now wr) (fun _ i _ => n - (intOf i).toNat)
  case atStart =>
    have h := new1 w #[.slice a n c, .int .i64 now] 34
    exact ⟨0, Nat.zero_le _, rfl, rfl, ⟨h.b0, h.bel⟩⟩
  case round =>
    obtain ⟨k, hk, rfl, rfl, hin⟩ := hrel
    by_cases hlt : k < n
    · obtain ⟨b, off, hA, hlt2, hc⟩ := (hS.below (Nat.le_refl _) hin.bel).at hlt
      obtain ⟨c0, c1, c2, c3, c4, _⟩ := hc k hlt
      have hlti : (k : Int) < (n : Int) := by omega
      have hwne : b ≠ wr.heap.size := by omega
      have HE : Hid (∀ o, T1In w a n c now (wr.alloc o)) := fun o => hin.below ((Below.refl _ _).alloc (Nat.le_refl _) _)
      have HA : Hid (a = some ⟨b, off, none⟩) := hA
      rw [hA]
      clear hc hin hA
      cases hz : ((D k).kind != 0) with
      | false =>
        have HB : Hid (bvv (fun i => (D i).kind != 0) (k + 1) = bvv (fun i => (D i).kind != 0) k) := by show _ = _; rw [bvv]; simp [hz]
        go_wp2_with fail
        go_roundw
        case rel => exact ⟨k + 1, by omega, by go_num, by rw [HB.out], by rw [← HA.out]; exact HE.out _⟩
        case measure => simp [intOf]; omega
      | true =>
        have HB : Hid (bvv (fun i => (D i).kind != 0) (k + 1) = bvv (fun i => (D i).kind != 0) k + 2 ^ k) := by show _ = _; rw [bvv]; simp [hz]
        have HS : Hid (IntKind.u16.wrap ((2 : Int) ^ k) = ((2 ^ k : Nat) : Int) ∧ bits .or .u16 ((bvv (fun i => (D i).kind != 0) k : Nat) : Int) ((2 ^ k : Nat) : Int) = ((bvv (fun i => (D i).kind != 0) k + 2 ^ k : Nat) : Int)) := ⟨shl16 (by omega), or16 (by omega) (bvv_lt _ k)⟩
        go_wp2_with fail
        go_roundw
        case rel => exact ⟨k + 1, by omega, by go_num, by rw [HS.out.1, HS.out.2, HB.out], by rw [← HA.out]; exact HE.out _⟩
        case measure => simp [intOf]; omega
    · obtain rfl : k = n := by omega
      have HB : Hid (Below w.heap.size w wr) := hin.bel
      clear hin
      go_wp2
      go_ret
      exact ⟨HB.out, rfl⟩

set_option maxHeartbeats 1000000 in
theorem list_any (Z : Nat → Bool) (n : Nat) (w : World) (hn : n ≤ 10) :
    Calls Try.prog 24 #[.int .u16 (bvv Z n : Nat), .int .i64 n] w fun e w' => e = .returned (.slice (some ⟨w.heap.size, 0, none⟩) n n) ∧ Below w.heap.size w w' ∧ w'.rowIs w.heap.size 4 n (fun i => .bool (Z i)) := by
  have hmk := fun w => run_make_row' (P := Try.prog) 26 4 (.bool false) 1 Try.underlying26 infoBool rfl .i64 .i64 n (by omega) (by omega) w
  go_enter Try.func24, Try.ntmps24
  go_wp2
  go_loopw [11] (fun i wr => ∃ k : Nat, k ≤ n ∧ i = .int .i64 k ∧ Below w.heap.size w wr ∧ wr.rowIs w.heap.size 4 n (fun j => if j < k then .bool (Z j) else .bool false)) (fun i _ => n - (intOf i).toNat)
  case atStart => exact ⟨0, Nat.zero_le _, rfl, (Below.refl _ _).alloc (Nat.le_refl _) _, (World.rowIs_made w (.bool false) n 4).congr (fun i _ => by simp)⟩
  case round =>
    obtain ⟨k, hk, rfl, hb, hrow⟩ := hrel
    by_cases hlt : k < n
    · have hcr := hrow.cell hlt
      have hfr := hrow.frozen k
      have hlti : (k : Int) < (n : Int) := by omega
      have HB : Hid (Below w.heap.size w wr) := hb
      have HR : Hid (wr.rowIs w.heap.size 4 n (fun j => if j < k then .bool (Z j) else .bool false)) := hrow
      have HL : Hid (liveIn n Z (k : Int) = Z k) := by show _ = _; unfold liveIn; simp [hlt]
      clear hb hrow
      go_wp2_with fail
      refine (has_any Z n (k : Int) wr hn ⟨by omega, by omega⟩).mono ?_
      rintro e w2 ⟨rfl, rfl⟩
      rw [HL.out]
      go_wp2_with fail
      go_roundw
      case rel => exact ⟨k + 1, by omega, by go_num, HB.out.setCell (Nat.le_refl _) _, (HR.out.set k (.bool (Z k))).congr (fun i _ => by
        by_cases h : i = k
        · subst h; simp
        · by_cases h2 : i < k
          · simp [h, h2, show i < k + 1 by omega]
          · simp [h, h2, show ¬ i < k + 1 by omega])⟩
      case measure => simp [intOf]; omega
    · have HB : Hid (Below w.heap.size w wr) := hb
      have HR : Hid (wr.rowIs w.heap.size 4 n (fun j => if j < k then .bool (Z j) else .bool false)) := hrow
      clear hb hrow
      go_wp2
      go_ret
      exact ⟨rfl, HB.out, HR.out.congr (fun i hi => by simp [show i < k by omega])⟩
end Go.Proofs.Yteoanlkmkmajjaa

/-
  What refsOf and namedOnce of the program answer.
-/
namespace Go.Proofs.Yteoanlkmkmajjaa
open Go.RowKit
set_option linter.unusedVariables false

/-- What is known within refsOf. -/
structure RefRow (w : World) (a : Option Addr) (n c : Nat) (now : Int) (f : Nat → Nat) (W : World) : Prop where
  t : Blk W w.heap.size #[.slice a n c, .int .i64 now] 34
  row : W.rowIs (w.heap.size + 1) 3 n (fun j => .int .i64 (f j))
  bel : Below w.heap.size w W

theorem RefRow.put {w : World} {a : Option Addr} {n c : Nat} {now : Int} {f : Nat → Nat} {W : World} (h : RefRow w a n c now f W) (x : Nat) {g : Nat → Nat} (hg : ∀ j, j < n → g j = if j = x then f j + 1 else f j) :
    RefRow w a n c now g (W.setCell ⟨w.heap.size + 1, x, none⟩ (.int .i64 ((f x : Int) + 1))) :=
  ⟨h.t.off _ (by omega), (h.row.set x (.int .i64 ((f x : Int) + 1))).congr (fun i hi => by
    rw [hg i hi]
    by_cases e : i = x
    · subst e; simp
    · simp [e]), bel_put h.bel _ (by omega)⟩

theorem RefRow.alloc {w : World} {a : Option Addr} {n c : Nat} {now : Int} {f : Nat → Nat} {W : World} (h : RefRow w a n c now f W) (o : Obj) : RefRow w a n c now f (W.alloc o) :=
  ⟨h.t.alloc _, rowIs_below h.row ((Below.refl W.heap.size W).alloc (Nat.le_refl _) _) h.row.lt, h.bel.alloc (by have := h.t.lt; omega) _⟩

theorem RefRow.to {w : World} {a : Option Addr} {n c : Nat} {now : Int} {f g : Nat → Nat} {W : World} (h : RefRow w a n c now f W) (hg : ∀ j, j < n → f j = g j) : RefRow w a n c now g W :=
  ⟨h.t, h.row.congr (fun i hi => by rw [hg i hi]), h.bel⟩

theorem refs_start (w : World) (a : Option Addr) (n c : Nat) (now : Int) : RefRow w a n c now (fun _ => 0)
    ((w.alloc (.cells #[.slice a n c, .int .i64 now] 34)).alloc (.cells (madeCells #[.int .i64 0] n) 3)) := by
  have h := new2 w #[.slice a n c, .int .i64 now] 34 (madeCells #[.int .i64 0] n) 3
  refine ⟨h.b0, ⟨_, h.b1, by simp [size_madeCells], fun i hi => ?_⟩, h.bel⟩
  simp [madeCells, hi, Nat.mod_one]

set_option maxHeartbeats 2000000 in
theorem refsOf_any (a : Option Addr) (n c : Nat) (now : Int) (D : Nat → Nd) (L : Nat → Loc) (w : World) (hS : IsNds w a n D L) (hn : n ≤ 1048576) (hsz : sizeTo D n ≤ 1048576) (hsm : ∀ i, i < n → (D i).kn ≤ maxLen) (hk : ∀ i, i < n → ∀ j, j < (D i).kn → 0 ≤ (D i).kids j ∧ (D i).kids j < n) :
    Calls Try.prog 80 #[trV a n c now] w fun e w' => Below w.heap.size w w' ∧ e = .returned (.slice (some ⟨w.heap.size + 1, 0, none⟩) n n) ∧ w'.rowIs (w.heap.size + 1) 3 n (fun j => .int .i64 (refsTo D j n)) := by
  have hmk := fun w => run_make_row' (P := Try.prog) 51 3 (.int .i64 0) 8 Try.underlying51 infoInt rfl .i64 .i64 n (by omega) (by omega) w
  unfold trV
  go_enter Try.func80, Try.ntmps80
  go_wp2
  go_loopw [15] (fun i wr => ∃ k : Nat, k ≤ n ∧ i = .int .i64 k ∧ RefRow w a n c now (fun j => refsTo D j k) wr) (fun i _ => n - (intOf i).toNat)
  case atStart => exact ⟨0, Nat.zero_le _, rfl, (refs_start w a n c now).to (fun _ _ => rfl)⟩
  case round =>
    obtain ⟨k, hk', rfl, hin⟩ := hrel
    by_cases hlt : k < n
    · have hSr := hS.below (Nat.le_refl _) hin.bel
      obtain ⟨b, off, rfl, hlt2, hc⟩ := hSr.at hlt
      obtain ⟨c0, c1, c2, c3, c4, hI⟩ := hc k hlt
      have hki : (k : Int) < (n : Int) := by omega
      have hkn := hsm k hlt
      unfold maxLen at hkn
      have HIN : Hid (RefRow w (some ⟨b, off, none⟩) n c now (fun j => refsTo D j k) wr ∧ NdIn wr (D k) (L k)) := ⟨hin, hI⟩
      clear hc hI hin hSr hmk
      go_wp2
      go_loopw [22] (fun i wr' => ∃ j : Nat, j ≤ (D k).kn ∧ i = .int .i64 j ∧ RefRow w (some ⟨b, off, none⟩) n c now (fun x => refsTo D x k + cnt (D k).kids x j) wr') (fun i _ => (D k).kn - (intOf i).toNat)
      case atStart => exact ⟨0, Nat.zero_le _, rfl, (HIN.out.1.alloc _).to (fun _ _ => rfl)⟩
      case round =>
        obtain ⟨j, hj, rfl, hin⟩ := hrel
        by_cases hltj : j < (D k).kn
        · have hIr := (hS.below (Nat.le_refl _) hin.bel)
          obtain ⟨b2, off2, ha2, _, hc2⟩ := hIr.at hlt
          cases ha2
          obtain ⟨b', off', ha', hlt2', hc'⟩ := (hc2 k hlt).2.2.2.2.2.2.at hltj
          have hz := hc' j hltj
          obtain ⟨hk0, hk1⟩ := hk k hlt j hltj
          obtain ⟨x, hx⟩ : ∃ x : Nat, (D k).kids j = x := ⟨((D k).kids j).toNat, by omega⟩
          have hxn : x < n := by omega
          have hjj : (j : Int) < ((D k).kn : Int) := by omega
          rw [hx] at hz
          obtain ⟨v, hv⟩ : ∃ v : Nat, v = refsTo D x k + cnt (D k).kids x j := ⟨_, rfl⟩
          have hvb : v ≤ 1048576 := by
            have h1 := refsTo_le D x k
            have h2 := cnt_le (D k).kids x j
            have h3 := sizeTo_mono D (show k + 1 ≤ n by omega)
            rw [sizeTo_succ] at h3
            unfold Nd.size at h3
            omega
          have xc : wr.cell? ⟨w.heap.size + 1, x, none⟩ = some (.int .i64 v) := by rw [hv]; exact hin.row.cell hxn
          have xf := hin.row.frozen x
          have HALL : Hid (RefRow w (some ⟨b, off, none⟩) n c now (fun x => refsTo D x k + cnt (D k).kids x j) wr ∧ (D k).kids j = x ∧ v = refsTo D x k + cnt (D k).kids x j) := ⟨hin, hx, hv⟩
          have hxi : (x : Int) < (n : Int) := by omega
          rw [ha']
          clear hin hIr hc2 hc' hx hk0 hk1 hv c0 c1 c2 c3 c4
          go_wp2
          go_roundw
          case rel =>
            obtain ⟨h1, h2, h3⟩ := HALL.out
            refine ⟨j + 1, by omega, by go_num, ?_⟩
            have h4 := h1.put (g := fun y => refsTo D y k + cnt (D k).kids y (j + 1)) x (fun y _ => by
              show _ + cnt (D k).kids y (j + 1) = _
              rw [cnt, h2]
              by_cases e : y = x
              · subst e; simp; omega
              · have : ¬ (x : Int) = (y : Int) := by omega
                simp [e, this])
            rw [h3]
            exact h4
          case measure => simp [intOf]; omega
        · have hje : j = (D k).kn := by omega
          have HALL : Hid (RefRow w (some ⟨b, off, none⟩) n c now (fun x => refsTo D x (k + 1)) wr) := hin.to (fun y _ => by rw [refsTo, hje])
          clear hin hje c0 c1 c2 c3 c4
          go_wp2
          go_roundw
          case rel => exact ⟨k + 1, by omega, by go_num, HALL.out⟩
          case measure => simp [intOf]; omega
    · have hke : k = n := by omega
      have HALL : Hid (RefRow w a n c now (fun x => refsTo D x n) wr) := hin.to (fun y _ => by rw [hke])
      clear hin hke hmk
      go_wp2
      go_ret
      exact ⟨HALL.out.bel, rfl, HALL.out.row⟩
end Go.Proofs.Yteoanlkmkmajjaa

/-
  What namedOnce of the program answers: whether each directory but the root has one name.
-/
namespace Go.Proofs.Yteoanlkmkmajjaa
open Go.RowKit
set_option linter.unusedVariables false

set_option maxHeartbeats 2000000 in
theorem namedOnce_any (a : Option Addr) (n c : Nat) (now : Int) (D : Nat → Nd) (L : Nat → Loc) (w : World) (hS : IsNds w a n D L) (hn : n ≤ 1048576) (hsz : sizeTo D n ≤ 1048576) (hsm : ∀ i, i < n → (D i).kn ≤ maxLen) (hk : ∀ i, i < n → ∀ j, j < (D i).kn → 0 ≤ (D i).kids j ∧ (D i).kids j < n) :
    Calls Try.prog 52 #[trV a n c now] w fun e w' => Below w.heap.size w w' ∧ ∃ r : Bool, e = .returned (.bool r) ∧ (r = true ↔ ∀ i, 1 ≤ i → i < n → (D i).kind = 2 → refsTo D i n = 1) := by
  unfold trV
  go_enter Try.func52, Try.ntmps52
  go_wp2_with fail
  refine at_world (F := New1 w _ _) (new1 w _ _) ?_
  rintro W ⟨hp, hb, hs⟩
  refine (refsOf_any a n c now D L W (hS.below (Nat.le_refl _) hb) hn hsz hsm hk).mono ?_
  rintro e w1 ⟨hb1, rfl, hrow⟩
  have hp1 := hp.below hb1 (by omega)
  have HIN : Hid (RefsIn w a n c now w1 ∧ w1.rowIs (W.heap.size + 1) 3 n (fun j => .int .i64 (refsTo D j n))) := ⟨⟨hp1, hb.trans (hb1.mono (by omega))⟩, hrow⟩
  clear hp hb hs hb1 hrow hp1
  generalize W.heap.size + 1 = bm at *
  go_wp2
  go_loopw [8] (fun i wr => ∃ k : Nat, k ≤ n ∧ i = .int .i64 k ∧ RefsIn w a n c now wr ∧ wr.rowIs bm 3 n (fun j => .int .i64 (refsTo D j n)) ∧ ∀ i, 1 ≤ i → i < k → (D i).kind = 2 → refsTo D i n = 1) (fun i _ => n - (intOf i).toNat)
  case atStart => exact ⟨0, Nat.zero_le _, rfl, HIN.out.1, HIN.out.2, fun i h1 h2 => by omega⟩
  case round =>
    obtain ⟨k, hk', rfl, hin, hrow, hall⟩ := hrel
    by_cases hlt : k < n
    · have hSr := hS.below (Nat.le_refl _) hin.bel
      obtain ⟨b, off, rfl, hlt2, hc⟩ := hSr.at hlt
      have c0 := (hc k hlt).1
      have t0 : wr.cell? ⟨w.heap.size, 0, none⟩ = some (.slice (some ⟨b, off, none⟩) n c) := hin.t.cell 0
      have hki : (k : Int) < (n : Int) := by omega
      have rc : wr.cell? ⟨bm, k, none⟩ = some (.int .i64 (refsTo D k n)) := hrow.cell hlt
      have HR : Hid (RefsIn w (some ⟨b, off, none⟩) n c now wr ∧ wr.rowIs bm 3 n (fun j => .int .i64 (refsTo D j n)) ∧ ∀ i, 1 ≤ i → i < k → (D i).kind = 2 → refsTo D i n = 1) := ⟨hin, hrow, hall⟩
      clear hc hin hrow hall hSr HIN
      by_cases hk0 : k = 0
      · subst hk0
        rw [Nat.zero_mul, Nat.add_zero] at c0
        go_wp2
        go_roundw
        case rel => exact ⟨1, by omega, by go_num, HR.out.1, HR.out.2.1, fun i h1 h2 => by omega⟩
        case measure => simp [intOf]; omega
      · have hkb : ((k : Int) != 0) = true := by simp; omega
        cases hd2 : ((D k).kind == 2) with
        | false =>
          have H2 : Hid (¬ (D k).kind = 2) := show ¬ (D k).kind = 2 by simpa using hd2
          go_wp2
          go_roundw
          case rel => exact ⟨k + 1, by omega, by go_num, HR.out.1, HR.out.2.1, fun i h1 h2 h3 => by
            by_cases e : i = k
            · subst e; exact absurd h3 H2.out
            · exact HR.out.2.2 i h1 (by omega) h3⟩
          case measure => simp [intOf]; omega
        | true =>
          have H2 : Hid ((D k).kind = 2) := show (D k).kind = 2 by simpa using hd2
          by_cases hr1 : refsTo D k n = 1
          · have hrb : (((refsTo D k n : Nat) : Int) != 1) = false := by simp [hr1]
            have HX : Hid (refsTo D k n = 1) := hr1
            clear hr1
            go_wp2
            go_roundw
            case rel => exact ⟨k + 1, by omega, by go_num, HR.out.1, HR.out.2.1, fun i h1 h2 h3 => by
              by_cases e : i = k
              · subst e; exact HX.out
              · exact HR.out.2.2 i h1 (by omega) h3⟩
            case measure => simp [intOf]; omega
          · have hrb : (((refsTo D k n : Nat) : Int) != 1) = true := by simp; omega
            have HX : Hid (¬ refsTo D k n = 1) := hr1
            clear hr1
            go_wp2
            go_ret
            exact ⟨HR.out.1.bel, false, rfl, fun h => (by cases h), fun h => absurd (h k (by omega) hlt H2.out) HX.out⟩
    · have HALL : Hid (Below w.heap.size w wr ∧ ∀ i, 1 ≤ i → i < n → (D i).kind = 2 → refsTo D i n = 1) := ⟨hin.bel, fun i h1 h2 h3 => hall i h1 (by omega) h3⟩
      clear hin hrow hall HIN
      go_wp2
      go_ret
      exact ⟨HALL.out.1, true, rfl, fun _ => HALL.out.2, fun _ => rfl⟩
end Go.Proofs.Yteoanlkmkmajjaa

/-
  Which places are reached from the root, by a stack: plain facts. A place is put on the stack when it is marked; what is marked and no longer on the stack leads to what is marked.
-/
namespace Go.Proofs.Yteoanlkmkmajjaa
set_option linter.unusedVariables false

/-- Between two rounds. -/
structure Stk (n : Nat) (D : Nat → Nd) (m : Nat → Bool) (L : List Nat) : Prop where
  sound : Sound n D m
  root : m 0 = true
  on : ∀ i, i ∈ L → i < n ∧ m i = true
  done : ∀ i, i < n → m i = true → i ∉ L → ∀ j, j < (D i).kn → m ((D i).kids j).toNat = true
  few : L.length ≤ cntB m n

/-- Within a round, whose place is x: the first k of its places are through. -/
structure StkIn (n : Nat) (D : Nat → Nd) (x k : Nat) (m : Nat → Bool) (L : List Nat) : Prop where
  sound : Sound n D m
  root : m 0 = true
  cur : x < n ∧ m x = true
  on : ∀ i, i ∈ L → i < n ∧ m i = true
  done : ∀ i, i < n → m i = true → i ∉ L → i ≠ x → ∀ j, j < (D i).kn → m ((D i).kids j).toNat = true
  kids : ∀ j, j < k → m ((D x).kids j).toNat = true
  few : L.length + 1 ≤ cntB m n

theorem Stk.start {n : Nat} {D : Nat → Nd} (hn : 1 ≤ n) : Stk n D (fun j => decide (j = 0)) [0] :=
  ⟨fun i hi => by simp at hi; subst hi; exact .root, by simp, fun i hi => by simp at hi; subst hi; exact ⟨hn, by simp⟩, fun i _ hm hi => by simp at hm hi; exact absurd hm hi, by
    have := cntB_one (m := fun j => decide (j = 0)) (by simp) n hn
    simpa using this⟩

theorem Stk.pop {n : Nat} {D : Nat → Nd} {m : Nat → Bool} {L : List Nat} {x : Nat} (h : Stk n D m (L ++ [x])) : StkIn n D x 0 m L :=
  ⟨h.sound, h.root, h.on x (by simp), fun i hi => h.on i (by simp [hi]), fun i hi hm hL hx => h.done i hi hm (by simp [hL, hx]), fun j hj => by omega, by have := h.few; simpa using this⟩

theorem StkIn.push {n : Nat} {D : Nat → Nd} {x k : Nat} {m : Nat → Bool} {L : List Nat} (h : StkIn n D x k m L) (hk : k < (D x).kn) {z : Nat} (hz : ((D x).kids k).toNat = z) (hzn : z < n) (hm : m z = false) :
    StkIn n D x (k + 1) (fun j => if j = z then true else m j) (L ++ [z]) := by
  have up : ∀ j, m j = true → (if j = z then true else m j) = true := fun j hj => by by_cases e : j = z <;> simp [e, hj]
  refine ⟨fun i hi => ?_, up 0 h.root, ⟨h.cur.1, up x h.cur.2⟩, fun i hi => ?_, fun i hi hmi hL hx j hj => ?_, fun j hj => ?_, ?_⟩
  · by_cases e : i = z
    · subst e; rw [← hz]; exact .step (h.sound x h.cur.2) h.cur.1 hk
    · simp only [if_neg e] at hi; exact h.sound i hi
  · rcases List.mem_append.1 hi with hi | hi
    · exact ⟨(h.on i hi).1, up i (h.on i hi).2⟩
    · simp at hi; subst hi; exact ⟨hzn, by simp⟩
  · have hne : i ≠ z := fun e => hL (by simp [e])
    simp only [if_neg hne] at hmi
    exact up _ (h.done i hi hmi (fun hi' => hL (by simp [hi'])) hx j hj)
  · by_cases e : j = k
    · subst e; simp [hz]
    · exact up _ (h.kids j (by omega))
  · have := cntB_lt up (i := z) (by simp [hm]) (by simp) n hzn
    have h2 := h.few
    simp only [List.length_append, List.length_singleton]
    omega

theorem StkIn.pass {n : Nat} {D : Nat → Nd} {x k : Nat} {m : Nat → Bool} {L : List Nat} (h : StkIn n D x k m L) (hm : m ((D x).kids k).toNat = true) : StkIn n D x (k + 1) m L :=
  ⟨h.sound, h.root, h.cur, h.on, h.done, fun j hj => by
    by_cases e : j = k
    · subst e; exact hm
    · exact h.kids j (by omega), h.few⟩

theorem StkIn.out {n : Nat} {D : Nat → Nd} {x : Nat} {m : Nat → Bool} {L : List Nat} (h : StkIn n D x (D x).kn m L) : Stk n D m L :=
  ⟨h.sound, h.root, h.on, fun i hi hm hL => by
    by_cases e : i = x
    · subst e; exact h.kids
    · exact h.done i hi hm hL e, by have := h.few; omega⟩

theorem Stk.fin {n : Nat} {D : Nat → Nd} {m : Nat → Bool} (h : Stk n D m []) (i : Nat) : m i = true ↔ Reach n D i := by
  refine ⟨h.sound i, fun hr => ?_⟩
  induction hr with
  | root => exact h.root
  | step hr hi hj ih => exact h.done _ hi ih (by simp) _ hj
end Go.Proofs.Yteoanlkmkmajjaa

/-
  What reached of the program answers: which places are reached from the root, marked with a stack.
-/
namespace Go.Proofs.Yteoanlkmkmajjaa
open Go.RowKit Go.Deep
set_option linter.unusedVariables false

/-- A list of numbers, as cells. -/
def natv (L : List Nat) : List Value := L.map fun (i : Nat) => Value.int .i64 (i : Int)
theorem natv_length (L : List Nat) : (natv L).length = L.length := by simp [natv]
theorem natv_append (L M : List Nat) : natv L ++ natv M = natv (L ++ M) := by simp [natv]
theorem natv_one (L : List Nat) : ∀ u ∈ natv L, u.oneCell' = true := by
  intro u hu
  simp only [natv, List.mem_map] at hu
  obtain ⟨s, _, rfl⟩ := hu
  rfl

/-- The mark at a place. -/
def bitAt (W : World) (b j : Nat) : Bool := match W.cell? ⟨b, j, none⟩ with | some (.bool x) => x | _ => false
/-- How long a slice is. -/
def lenOf : Value → Nat | .slice _ n _ => n | _ => 0

theorem cntB_congr {m m' : Nat → Bool} {k : Nat} (h : ∀ j, j < k → m j = m' j) : cntB m k = cntB m' k := by
  induction k with
  | zero => rfl
  | succ k ih => unfold cntB; rw [ih (fun j hj => h j (by omega)), h k (by omega)]

/-- What is known within reached. -/
structure StkW (w : World) (a : Option Addr) (n c : Nat) (now : Int) (m : Nat → Bool) (L : List Nat) (s : Value) (W : World) : Prop where
  t : Blk W w.heap.size #[.slice a n c, .int .i64 now] 34
  row : W.rowIs (w.heap.size + 1) 4 n (fun j => .bool (m j))
  own : W.ownsRow (w.heap.size + 2) 3 1 s L.length (natv L)
  some : s ≠ .slice none 0 0
  bel : Below w.heap.size w W
  size : w.heap.size + 2 ≤ W.heap.size

theorem StkW.shape {w : World} {a : Option Addr} {n c : Nat} {now : Int} {m : Nat → Bool} {L : List Nat} {s : Value} {W : World} (h : StkW w a n c now m L s W) :
    ∃ g cap, s = .slice (Option.some ⟨g, 0, none⟩) L.length cap ∧ w.heap.size + 2 ≤ g ∧ g < W.heap.size ∧ L.length ≤ cap ∧ cap ≤ maxLen ∧ ∀ i, i < L.length → W.cell? ⟨g, i, none⟩ = Option.some (.int .i64 (L.getD i 0 : Nat)) := by
  obtain ⟨h1, h2⟩ := h.own
  rcases h2 with ⟨rfl, h0⟩ | ⟨g, cap, cur, rfl, hb, hblk, hn, hm, hsz, htake⟩
  · exact absurd rfl h.some
  · have hglt : g < W.heap.size := (Array.getElem?_eq_some_iff.1 hblk).1
    refine ⟨g, cap, rfl, hb, hglt, hn, hm, fun i hi => ?_⟩
    have hi2 : (natv L)[i]? = Option.some (.int .i64 (L.getD i 0 : Nat)) := by simp [natv, hi]
    rw [← htake, Nat.mul_one, List.getElem?_take_of_lt hi] at hi2
    simp only [World.cell?, hblk]
    simpa using hi2

/-- The last one is taken off. -/
theorem StkW.pop {w : World} {a : Option Addr} {n c : Nat} {now : Int} {m : Nat → Bool} {L : List Nat} {x g cap : Nat} {k : Nat} {W : World} (h : StkW w a n c now m (L ++ [x]) (.slice (Option.some ⟨g, 0, none⟩) k cap) W) :
    StkW w a n c now m L (.slice (Option.some ⟨g, 0, none⟩) L.length cap) W := by
  refine ⟨h.t, h.row, ?_, by simp, h.bel, h.size⟩
  obtain ⟨h1, h2⟩ := h.own
  rcases h2 with ⟨h2, h0⟩ | ⟨g', cap', cur, hv, hb, hblk, hn, hm, hsz, htake⟩
  · cases h2
  · cases hv
    refine ⟨by simp [natv], Or.inr ⟨g, cap, cur, rfl, hb, hblk, by simp at hn; omega, hm, hsz, ?_⟩⟩
    have e : natv (L ++ [x]) = natv L ++ natv [x] := (natv_append L [x]).symm
    rw [e] at htake
    have h5 : (natv L ++ natv [x]).take L.length = natv L := by
      have := List.take_left (l₁ := natv L) (l₂ := natv [x])
      rwa [natv_length] at this
    have := congrArg (List.take L.length) htake
    rw [List.take_take, Nat.min_eq_left (by simp), h5] at this
    rw [Nat.mul_one]
    exact this

theorem StkW.mark {w : World} {a : Option Addr} {n c : Nat} {now : Int} {m : Nat → Bool} {L : List Nat} {s : Value} {W : World} (h : StkW w a n c now m L s W) (x : Nat) :
    StkW w a n c now (fun j => if j = x then true else m j) L s (W.setCell ⟨w.heap.size + 1, x, none⟩ (.bool true)) := by
  refine ⟨h.t.off _ (by omega), (h.row.set x (.bool true)).congr (fun i _ => by by_cases e : i = x <;> simp [e]), ⟨h.own.1, ?_⟩, h.some, bel_put h.bel _ (by omega), by simpa [World.setCell] using h.size⟩
  rcases h.own.2 with h2 | ⟨g, cap, cur, hv, hb, hblk, rest⟩
  · exact Or.inl h2
  · exact Or.inr ⟨g, cap, cur, hv, hb, (blk_setCell_other _ _ _ _ (by show g ≠ w.heap.size + 1; omega)).trans hblk, rest⟩

theorem StkW.alloc {w : World} {a : Option Addr} {n c : Nat} {now : Int} {m : Nat → Bool} {L : List Nat} {s : Value} {W : World} (h : StkW w a n c now m L s W) (o : Obj) : StkW w a n c now m L s (W.alloc o) :=
  ⟨h.t.alloc _, rowIs_below h.row ((Below.refl W.heap.size W).alloc (Nat.le_refl _) _) h.row.lt, h.own.alloc o, h.some, h.bel.alloc (by have := h.t.lt; omega) _, by have := h.size; simp; omega⟩

/-- One more is put on it. -/
theorem StkW.push {w : World} {a : Option Addr} {n c : Nat} {now : Int} {m : Nat → Bool} {L : List Nat} {s s' : Value} {W W' : World} (h : StkW w a n c now m L s W) {x : Nat}
    (hown : W'.ownsRow (w.heap.size + 2) 3 1 s' (L.length + 1) (natv L ++ natv [x])) (hg : W.grownBy W' s.ownBlock) (hs : ¬ s' = .slice none 0 0) : StkW w a n c now m (L ++ [x]) s' W' := by
  have hob : ∀ g, s.ownBlock = Option.some g → w.heap.size + 2 ≤ g := by
    intro g hg
    obtain ⟨g', cap, rfl, hb, _⟩ := h.shape
    simp [Value.ownBlock] at hg
    omega
  have blk : ∀ b, b < w.heap.size + 2 → b < W.heap.size → W'.heap[b]? = W.heap[b]? := fun b hb hlt => hg.block b hlt (fun e => by have := hob b e.symm; omega)
  have hrow := h.row
  refine ⟨h.t.of_block (blk _ (by omega) h.t.lt), ?_, ?_, hs, h.bel.grown hg (by have := h.t.lt; omega) (fun g hg' => by have := hob g hg'; omega), Nat.le_trans h.size hg.size⟩
  · obtain ⟨cs, hb, r⟩ := hrow
    exact ⟨cs, (blk _ (by omega) h.row.lt).trans hb, r⟩
  · rw [List.length_append, ← natv_append]; exact hown

theorem StkW.meas {w : World} {a : Option Addr} {n c : Nat} {now : Int} {m : Nat → Bool} {L : List Nat} {s : Value} {W : World} (h : StkW w a n c now m L s W) :
    2 * (n - cntB (fun j => bitAt W (w.heap.size + 1) j) n) + lenOf s = 2 * (n - cntB m n) + L.length := by
  have e : cntB (fun j => bitAt W (w.heap.size + 1) j) n = cntB m n := cntB_congr (fun j hj => by
    unfold bitAt
    rw [h.row.cell hj])
  obtain ⟨g, cap, rfl, _⟩ := h.shape
  rw [e]
  rfl

theorem StkW.drew {w : World} {a : Option Addr} {n c : Nat} {now : Int} {m : Nat → Bool} {L : List Nat} {s : Value} {W : World} (h : StkW w a n c now m L s W) (q : Nat) : StkW w a n c now m L s (W.drewN q) :=
  ⟨h.t, h.row, h.own, h.some, below_drewN h.bel q, h.size⟩

theorem natv_cells (w : World) (x : Nat) : ∀ j u, (natv [x])[j]? = some u → (w.alloc (.cells #[.int .i64 (x : Int)] 3)).cell? ((⟨w.heap.size, 0, none⟩ : Addr).add j) = some u := by
  intro j u h
  have hj : j = 0 := by
    rcases Nat.eq_zero_or_pos j with h0 | h0
    · exact h0
    · rw [List.getElem?_eq_none (by simp [natv]; omega)] at h; cases h
  subst hj
  have := cell_one_new w (.int .i64 (x : Int)) 3
  simp [natv] at h
  subst h
  rw [show (⟨w.heap.size, 0, none⟩ : Addr).add 0 = ⟨w.heap.size, 0, none⟩ by unfold Addr.add; split <;> simp_all]
  exact (Blk.new w #[.int .i64 (x : Int)] 3).cell 0

theorem stk_start (w : World) (a : Option Addr) (n c : Nat) (now : Int) : StkW w a n c now (fun j => decide (j = 0)) [0] (.slice (some ⟨w.heap.size + 1 + 1, 0, none⟩) 1 1)
    (((w.alloc (.cells #[.slice a n c, .int .i64 now] 34)).alloc (.cells ((madeCells #[.bool false] n).setIfInBounds 0 (.bool true)) 4)).alloc (.cells #[.int .i64 0] 3)) := by
  have h := marks_start w a n c now
  have h3 := new3 w #[.slice a n c, .int .i64 now] 34 ((madeCells #[.bool false] n).setIfInBounds 0 (.bool true)) 4 #[.int .i64 0] 3
  refine ⟨h3.b0, rowIs_below h.row ((Below.refl _ _).alloc (Nat.le_refl _) _) h.row.lt, ⟨rfl, Or.inr ⟨w.heap.size + 1 + 1, 1, _, rfl, by omega, h3.b2, Nat.le_refl _, by unfold maxLen; omega, rfl, rfl⟩⟩, by simp, h3.bel, by have := h3.size; omega⟩

set_option maxHeartbeats 2000000 in
theorem reached_any (a : Option Addr) (n c : Nat) (now : Int) (D : Nat → Nd) (L : Nat → Loc) (w : World) (hS : IsNds w a n D L) (h1 : 1 ≤ n) (hn : n ≤ 1048576) (hsm : ∀ i, i < n → (D i).kn ≤ maxLen) (hk : ∀ i, i < n → ∀ j, j < (D i).kn → 0 ≤ (D i).kids j ∧ (D i).kids j < n) :
    Calls Try.prog 79 #[trV a n c now] w fun e w' => Below w.heap.size w w' ∧ e = .returned (.slice (some ⟨w.heap.size + 1, 0, none⟩) n n) ∧ ∃ m : Nat → Bool, w'.rowIs (w.heap.size + 1) 4 n (fun j => .bool (m j)) ∧ ∀ j, m j = true ↔ Reach n D j := by
  have hmk := fun w => run_make_row' (P := Try.prog) 26 4 (.bool false) 1 Try.underlying26 infoBool rfl .i64 .i64 n (by omega) (by omega) w
  have hm0 : (madeCells #[Value.bool false] n)[0]? = some (.bool false) := by simp [madeCells, show 0 < n from h1]
  obtain ⟨i0, hi, hz0, hz1, hz2⟩ := info_parts infoInt
  unfold trV
  go_enter Try.func79, Try.ntmps79
  go_wp2
  go_loopw [4] (fun s wr => ∃ (m : Nat → Bool) (L : List Nat), StkW w a n c now m L s wr ∧ Stk n D m L) (fun s wr => 2 * (n - cntB (fun j => bitAt wr (w.heap.size + 1) j) n) + lenOf s)
  case atStart => exact ⟨_, _, stk_start w a n c now, Stk.start h1⟩
  case round =>
    obtain ⟨m0, K, hin, hst⟩ := hrel
    have hfew := hst.few
    have hfew2 := cntB_le m0 n
    have hmeas := hin.meas
    obtain ⟨g, cap, rfl, hg1, hg2, hcap, hcapm, hcells⟩ := hin.shape
    unfold maxLen at hcapm
    clear hmk hm0
    rcases List.eq_nil_or_concat K with rfl | ⟨K', x, rfl⟩
    · have HALL : Hid (StkW w a n c now m0 [] (.slice (some ⟨g, 0, none⟩) 0 cap) wr ∧ Stk n D m0 []) := ⟨hin, hst⟩
      have h00 : ((([] : List Nat).length : Nat)) = 0 := rfl
      rw [h00]
      clear hin hst hcells
      go_wp2
      go_ret
      exact ⟨HALL.out.1.bel, rfl, m0, HALL.out.1.row, HALL.out.2.fin⟩
    · rw [List.concat_eq_append] at *
      have hxc : wr.cell? ⟨g, K'.length, none⟩ = some (.int .i64 (x : Nat)) := by
        have := hcells K'.length (by simp)
        simpa using this
      have hlen : (K' ++ [x]).length = K'.length + 1 := by simp
      rw [hlen] at hfew hmeas hcap ⊢
      obtain ⟨hxn, hmx⟩ := hst.on x (by simp)
      have hSr := hS.below (Nat.le_refl _) hin.bel
      obtain ⟨b, off, rfl, hlt2, hc⟩ := hSr.at hxn
      have c3 := (hc x hxn).2.2.2.1
      have t0 : wr.cell? ⟨w.heap.size, 0, none⟩ = some (.slice (some ⟨b, off, none⟩) n c) := hin.t.cell 0
      have hknb := hsm x hxn
      unfold maxLen at hknb
      have hxi : (x : Int) < (n : Int) := by omega
      have HST : Hid (StkW w (some ⟨b, off, none⟩) n c now m0 K' (.slice (some ⟨g, 0, none⟩) K'.length cap) wr ∧ StkIn n D x 0 m0 K' ∧ 2 * (n - cntB m0 n) + K'.length + 1 = 2 * (n - cntB (fun j => bitAt wr (w.heap.size + 1) j) n) + lenOf (.slice (some ⟨g, 0, none⟩) (K'.length + 1) cap)) := ⟨hin.pop, hst.pop, hmeas.symm⟩
      clear hin hst hmeas hc hcells hSr hmx
      generalize hkl : K'.length = kl at *
      have hwr : IntKind.i64.wrap ((kl : Int) + 1 - 1) = (kl : Int) := by rw [IntKind.wrap_i64]; omega
      have hwr2 : IntKind.i64.wrap (((kl + 1 : Nat) : Int) - 1) = (kl : Int) := by rw [IntKind.wrap_i64]; omega
      have hki : (kl : Int) < ((kl + 1 : Nat) : Int) := by omega
      go_wp2_with fail
      go_quiet (fail)
      have HS1 := HST.out.1.drew nq
      have HS : Hid (StkW w (some ⟨b, off, none⟩) n c now m0 K' (.slice (some ⟨g, 0, none⟩) kl cap) (wr.drewN nq)) := HS1
      clear HS1
      go_wp2
      go_loopw [4, 36] (fun s i wr' => ∃ (j : Nat) (m : Nat → Bool) (K : List Nat), j ≤ (D x).kn ∧ i = .int .i64 j ∧ StkW w (some ⟨b, off, none⟩) n c now m K s wr' ∧ StkIn n D x j m K ∧ 2 * (n - cntB m n) + K.length ≤ 2 * (n - cntB m0 n) + kl) (fun _ i _ => (D x).kn - (intOf i).toNat)
      case atStart => exact ⟨0, m0, K', Nat.zero_le _, rfl, HS.out, HST.out.2.1, by omega⟩
      case round =>
        obtain ⟨j, m, K, hj, rfl, hin, hst, hms⟩ := hrel
        have hfew3 := hst.few
        have hfew4 := cntB_le m n
        by_cases hltj : j < (D x).kn
        · have hSr := hS.below (Nat.le_refl _) hin.bel
          obtain ⟨b2, off2, ha2, _, hc2⟩ := hSr.at hxn
          cases ha2
          obtain ⟨b', off', ha', hlt2', hc'⟩ := (hc2 x hxn).2.2.2.2.2.2.at hltj
          have hz := hc' j hltj
          obtain ⟨hk0, hk1⟩ := hk x hxn j hltj
          obtain ⟨z, hz'⟩ : ∃ z : Nat, (D x).kids j = z := ⟨((D x).kids j).toNat, by omega⟩
          have hzn : z < n := by omega
          have hzt : ((D x).kids j).toNat = z := by rw [hz']; rfl
          have hjj : (j : Int) < ((D x).kn : Int) := by omega
          have hzi : (z : Int) < (n : Int) := by omega
          rw [hz'] at hz
          have mz : wr.cell? ⟨w.heap.size + 1, z, none⟩ = some (.bool (m z)) := hin.row.cell hzn
          have mf := hin.row.frozen z
          rw [ha']
          clear hSr hc2 hc' hk0 hk1 t0 c3 hxc hwr hwr2 hki hg1 hg2
          cases hmz : m z with
          | true =>
            rw [hmz] at mz
            have HALL : Hid (StkW w (some ⟨b, off, none⟩) n c now m K u4 wr ∧ StkIn n D x (j + 1) m K ∧ 2 * (n - cntB m n) + K.length ≤ 2 * (n - cntB m0 n) + kl) := ⟨hin, hst.pass (by rw [hzt]; exact hmz), hms⟩
            clear hin hst hms hmz
            go_wp2
            go_roundw
            case rel => exact ⟨j + 1, m, K, by omega, by go_num, HALL.out.1, HALL.out.2.1, HALL.out.2.2⟩
            case measure => simp [intOf]; omega
          | false =>
            rw [hmz] at mz
            have hst2 := hst.push hltj hzt hzn hmz
            have hcl := cntB_lt (m := m) (m' := fun j => if j = z then true else m j) (fun y hy => by by_cases e : y = z <;> simp [e, hy]) (i := z) (by simp [hmz]) (by simp) n hzn
            have hfew5 := cntB_le (fun j => if j = z then true else m j) n
            have hin2 := hin.mark z
            have HALL : Hid (StkIn n D x (j + 1) (fun j => if j = z then true else m j) (K ++ [z]) ∧ 2 * (n - cntB (fun j => if j = z then true else m j) n) + (K ++ [z]).length ≤ 2 * (n - cntB m0 n) + kl) := ⟨hst2, by rw [List.length_append]; simp only [List.length_singleton]; omega⟩
            have HIN : Hid (StkW w (some ⟨b, off, none⟩) n c now (fun j => if j = z then true else m j) K u4 (wr.setCell ⟨w.heap.size + 1, z, none⟩ (.bool true))) := hin2
            have hsz := hin.size
            clear hin hst hms hmz hst2 hcl hin2
            go_wp2_with (at_builtin; refine wpList_append_own _ rfl _ _ 51 rfl (w.heap.size + 2) 3 i0 (.int .i64 0) 1 8 Try.underlying51 hi hz0 hz1 hz2 rfl (by decide) _ _ _ rfl (HIN.out.alloc _).own ⟨_, 0, none⟩ 1 1 (natv [z]) rfl rfl ?c1 ?c2 ?c3 ?c4 ?c5 ?_)
            case c1 =>
              have := natv_cells (wr.setCell ⟨w.heap.size + 1, z, none⟩ (.bool true)) z
              rwa [show (wr.setCell ⟨w.heap.size + 1, z, none⟩ (.bool true)).heap.size = wr.heap.size by simp [World.setCell]] at this
            case c2 => exact natv_one _
            case c3 => unfold maxLen; omega
            case c4 => omega
            case c5 => simp [World.setCell]; omega
            intro v' w1 hown hgrow hnil
            have HN : Hid (StkW w (some ⟨b, off, none⟩) n c now (fun j => if j = z then true else m j) (K ++ [z]) v' w1) := (HIN.out.alloc _).push hown hgrow hnil
            clear hown hgrow hnil
            go_wp2
            go_roundw
            case rel => exact ⟨j + 1, _, K ++ [z], by omega, by go_num, HN.out, HALL.out.1, HALL.out.2⟩
            case measure => simp [intOf]; omega
        · have hje : j = (D x).kn := by omega
          have hmeas := hin.meas
          have HALL : Hid (StkW w (some ⟨b, off, none⟩) n c now m K u4 wr ∧ Stk n D m K ∧ 2 * (n - cntB m n) + K.length ≤ 2 * (n - cntB m0 n) + kl ∧ 2 * (n - cntB (fun j => bitAt wr (w.heap.size + 1) j) n) + lenOf u4 = 2 * (n - cntB m n) + K.length) := ⟨hin, (hje ▸ hst).out, hms, hmeas⟩
          clear hin hst hms hje hmeas
          go_wp2
          go_roundw
          case rel => exact ⟨m, K, HALL.out.1, HALL.out.2.1⟩
          case measure =>
            have h1 := HALL.out.2.2
            have h2 := HST.out.2.2
            simp at h2 ⊢
            omega
end Go.Proofs.Yteoanlkmkmajjaa

/-
  What TreeOk of the program has to keep.
-/
namespace Go.Proofs.Yteoanlkmkmajjaa
open Go.RowKit

/-- What TreeOk of the program has to keep. -/
def ImplTreeOk : Prop := ∀ (a : Option Addr) (n c : Nat) (now : Int) (D : Nat → Nd) (L : Nat → Loc) (w : World), IsNds w a n D L → FitAll n D → n ≤ maxLen → sizeTo D n ≤ 1048576 → In64 now →
    Calls Try.prog 22 #[trV a n c now] w fun e w' => Below w.heap.size w w' ∧ ∃ r : Bool, e = .returned (.bool r) ∧ (r = true ↔ TreeGood n D now)
end Go.Proofs.Yteoanlkmkmajjaa
