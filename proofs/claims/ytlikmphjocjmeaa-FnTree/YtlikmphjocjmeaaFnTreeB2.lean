/-
  Texts that the proof needs, laid one behind the other.
-/
import Derived.Test.YtlikmphjocjmeaaFnTreeB1
import Derived.Deep.RegionLaw
import Derived.Deep.RegionWith
import Derived.BigRegion
import Derived.Test.YtlikmphjocjmeaaRows
import Derived.ProofKit
import Derived.OpenShut
import Derived.ShutString
import Derived.ChangeOld
import Derived.Deep.RegionHeld3
import Derived.Laws.AppendOwn
import Derived.OwnWalk

/-
  What l2Grow does to a tree that is being drawn.
-/
namespace Go.Proofs.Ytlikmphjocjmeaa
open Go.RowKit Go.Deep
set_option linter.unusedVariables false

/-- What is known while the directories are gathered. -/
structure DI (w : World) (g n cap : Nat) (now : Int) (v : Value) (DL : List Int) (W : World) : Prop where
  t : Blk W w.heap.size #[.slice (some ⟨g, 0, none⟩) n cap, .int .i64 now] 25
  res : Blk W (w.heap.size + 1) #[.slice none 0 0, .int .i64 0] 25
  own : W.ownsRow (w.heap.size + 2) 3 1 v DL.length (intv DL)
  some : v ≠ .slice none 0 0
  bel : Below w.heap.size w W
  size : w.heap.size + 2 ≤ W.heap.size

/-- .. of which directories. -/
structure DirL (n : Nat) (D : Nat → Nd) (k : Nat) (DL : List Int) : Prop where
  dir : ∀ z ∈ DL, ∃ x : Nat, z = x ∧ x < n ∧ (D x).kind = 2
  some : 1 ≤ k → 1 ≤ DL.length
  few : DL.length ≤ k

theorem DirL.more {n : Nat} {D : Nat → Nd} {k : Nat} {DL : List Int} (h : DirL n D k DL) (hk : k < n) (hd : (D k).kind = 2) : DirL n D (k + 1) (DL ++ [(k : Int)]) :=
  ⟨fun z hz => by
    rcases List.mem_append.1 hz with hz | hz
    · exact h.dir z hz
    · simp at hz; exact ⟨k, hz, hk, hd⟩, fun _ => by simp, by simp; exact h.few⟩

theorem DirL.skip {n : Nat} {D : Nat → Nd} {k : Nat} {DL : List Int} (h : DirL n D k DL) (hr : (D 0).kind = 2) (hd : ¬ (D k).kind = 2) : DirL n D (k + 1) DL :=
  ⟨h.dir, fun _ => h.some (by
    rcases Nat.eq_zero_or_pos k with e | e
    · subst e; exact absurd hr hd
    · exact e), by have := h.few; omega⟩

theorem DI.app {w : World} {g n cap : Nat} {now : Int} {v v' : Value} {DL : List Int} {W W' : World} {z : Int} (h : DI w g n cap now v DL W) (hown : W'.ownsRow (w.heap.size + 2) 3 1 v' (DL.length + 1) (intv DL ++ intv [z])) (hgrow : W.grownBy W' v.ownBlock) (hs : ¬ v' = .slice none 0 0) : DI w g n cap now v' (DL ++ [z]) W' := by
  have hsz := h.size
  have hob := own_ge h.own
  have hb : ∀ b, b < w.heap.size + 2 → W'.heap[b]? = W.heap[b]? := fun b hb => hgrow.block b (by omega) (fun e => by have := hob b e.symm; omega)
  exact ⟨h.t.of_block (hb _ (by omega)), h.res.of_block (hb _ (by omega)), by rw [List.length_append, ← intv_append]; exact hown, hs, h.bel.grown hgrow (by omega) (fun b e => by have := hob b e; omega), Nat.le_trans hsz hgrow.size⟩

theorem DI.alloc {w : World} {g n cap : Nat} {now : Int} {v : Value} {DL : List Int} {W : World} (h : DI w g n cap now v DL W) (o : Obj) : DI w g n cap now v DL (W.alloc o) :=
  ⟨h.t.alloc _, h.res.alloc _, h.own.alloc o, h.some, h.bel.alloc (by have := h.size; omega) _, by have := h.size; simp; omega⟩

/-- What l2Grow leaves. -/
structure Grew (w : World) (X : Nat → Prop) (r : Nat) (a : Option Addr) (len cp : Nat) (zs : Nat → Int) (p m : Nat) (now : Int) (g cap n : Nat) (D : Nat → Nd) (L : Nat → Loc) (W : World) : Prop where
  rd : ∃ q, IsRd W r a len cp zs q ∧ q ≤ p + 20
  own : OwnT W (r + 1) g cap n D L
  nice : Nice n (m + 1) D
  bel : Below r w W
  away : Away X g n L
  kept : ∀ b, X b → W.heap[b]? = w.heap[b]?
  kids : KidsOwn W n D L

/-- What is known at l2Grow's end, behind the store into its answer. -/
structure GEnd (w : World) (X : Nat → Prop) (r : Nat) (a : Option Addr) (len cp : Nat) (zs : Nat → Int) (p m : Nat) (now : Int) (g cap n : Nat) (D : Nat → Nd) (L : Nat → Loc) (W : World) : Prop where
  ans : Blk W (w.heap.size + 1) #[.slice (some ⟨g, 0, none⟩) n cap, .int .i64 (now + 1)] 25
  grew : Grew w X r a len cp zs p m now g cap n D L W

theorem GI.fin {w : World} {X : Nat → Prop} {r : Nat} {a : Option Addr} {len cp : Nat} {zs : Nat → Int} {p q m g cap n : Nat} {D : Nat → Nd} {L : Nat → Loc} {now : Int} {W : World} (h : GI w X r a len cp zs q g cap n D L (now + 1) W) (hq : q ≤ p + 20) (hN : Nice n (m + 1) D) :
    GEnd w X r a len cp zs p m now g cap n D L ((W.setCell ⟨w.heap.size + 1, 0, none⟩ (.slice (some ⟨g, 0, none⟩) n cap)).setCell ⟨w.heap.size + 1, 1, none⟩ (.int .i64 (now + 1))) := by
  have hl := h.rlt
  have h1 := h.own.setOther h.away (b := w.heap.size + 1) (Or.inr rfl) 0 (.slice (some ⟨g, 0, none⟩) n cap)
  have h2 := h1.setOther h.away (b := w.heap.size + 1) (Or.inr rfl) 1 (.int .i64 (now + 1))
  refine ⟨(h.res.set 0 _).set 1 _, ⟨q, ?_, hq⟩, h2, hN, bel_put (bel_put h.bel (b := w.heap.size + 1) _ (by omega)) (b := w.heap.size + 1) _ (by omega), h.awX, fun b hx => ((blk_setCell_other _ _ _ _ (by show b ≠ w.heap.size + 1; have := h.hX b hx; omega)).trans (blk_setCell_other _ _ _ _ (by show b ≠ w.heap.size + 1; have := h.hX b hx; omega))).trans (h.kept b hx), h.kids.of_blocks (fun i hi b o x e => by have h2 := (h.away.lists i hi).2 b o x e; exact (blk_setCell_other _ _ _ _ (by show b ≠ w.heap.size + 1; omega)).trans (blk_setCell_other _ _ _ _ (by show b ≠ w.heap.size + 1; omega)))⟩
  exact h.rd.kept (fun k hk => (blk_setCell_other _ _ _ _ (by show k ≠ w.heap.size + 1; omega)).trans (blk_setCell_other _ _ _ _ (by show k ≠ w.heap.size + 1; omega)))

/-- A region is walked, and left with four things known. -/
theorem wp_cut4 {X Y Z U : Type} (F : X → Y → Z → U → World → Prop) {P : Program} {c : Code} {K : Act → World → Prop} {Q : Exit → Act → World → Prop} {a : Act} {w : World} (A : X → Y → Z → U → Act)
    (leaf : (∀ x y z u W, F x y z u W → K (A x y z u) W) → c.wp P (Exit.then K Q) a w) (k : ∀ x y z u W, F x y z u W → K (A x y z u) W) : c.wp P (Exit.then K Q) a w := leaf k

/-- A place is appended, and t.Nodes written. -/
theorem GI.append {w : World} {X : Nat → Prop} {r : Nat} {a : Option Addr} {len cp : Nat} {zs : Nat → Int} {q g cap n : Nat} {D : Nat → Nd} {L : Nat → Loc} {now : Int} {W W' : World} (h : GI w X r a len cp zs q g cap n D L now W) {cur : Array Value} (hc : W.heap[g]? = some (.cells cur 36 (0, 0))) (hs : cur.size = cap * 5) {g' cap' : Nat} {k : Int}
    (hown : W'.ownsRow (r + 1) 36 5 (.slice (some ⟨g', 0, none⟩) (n + 1) cap') (n + 1) (cur.toList.take (n * 5) ++ kindCells k)) (hgrow : W.grownBy W' (some g)) (hat : g = g' ∨ W.heap.size ≤ g') :
    GI w X r a len cp zs q g' cap' (n + 1) (putNd D n (kindNd k)) (putLoc L n loc00) now (W'.setCell ⟨w.heap.size, 0, none⟩ (.slice (some ⟨g', 0, none⟩) (n + 1) cap')) := by
  have hl := h.rlt
  have hsz := h.size
  have hb := h.own.base
  have hr : ¬ (g = w.heap.size ∨ g = w.heap.size + 1) := h.away.row
  have ho := h.own.app hc hs hown hgrow hat
  have ha : Away (fun b => b = w.heap.size ∨ b = w.heap.size + 1) g' (n + 1) (putLoc L n loc00) := by
    refine ⟨by rcases hat with rfl | hat <;> omega, fun j hj => ?_⟩
    by_cases e : j = n
    · subst e
      simp only [putLoc, if_true]
      exact ⟨fun b o x e => by simp [loc00] at e, fun b o x e => by simp [loc00] at e⟩
    · simp only [putLoc, if_neg e]
      exact h.away.lists j (by omega)
  have hx' : Away X g' (n + 1) (putLoc L n loc00) := by
    refine ⟨fun hx => by rcases hat with rfl | hat; (exact h.awX.row hx); (have := h.hX _ hx; omega), fun j hj => ?_⟩
    by_cases e : j = n
    · subst e
      simp only [putLoc, if_true]
      exact ⟨fun b o x e => by simp [loc00] at e, fun b o x e => by simp [loc00] at e⟩
    · simp only [putLoc, if_neg e]
      exact h.awX.lists j (by omega)
  have hblk : ∀ b, b < W.heap.size → b ≠ g → W'.heap[b]? = W.heap[b]? := fun b h1 h2 => hgrow.block b h1 (by simpa using h2)
  refine ⟨h.rd.kept (fun j hj => (blk_setCell_other _ _ _ _ (by show j ≠ w.heap.size; omega)).trans (hblk j (by omega) (by omega))), (h.t.of_block (hblk _ (by omega) (by omega))).set 0 _, (h.res.of_block (hblk _ (by omega) (by omega))).off _ (by omega), ho.setOther ha (Or.inl rfl) _ _, ha, bel_put (h.bel.grown hgrow (by omega) (fun b e => by simp at e; omega)) _ (by omega), h.rlt, hx', fun b hx => (blk_setCell_other _ _ _ _ (by show b ≠ w.heap.size; have := h.hX b hx; omega)).trans ((hblk b (by have := h.hX b hx; omega) (fun e => by subst e; exact h.awX.row hx)).trans (h.kept b hx)), h.hX, (h.kids.of_blocks (fun i hi b o x e => by have h1 := (h.own.lists i hi).2.2 b o x e; have h2 := (h.away.lists i hi).2 b o x e; exact (blk_setCell_other _ _ _ _ (by show b ≠ w.heap.size; omega)).trans (hblk b (by omega) (by omega)))).app _ _ rfl rfl rfl rfl⟩

theorem putNd_kn {n : Nat} (D : Nat → Nd) (i0 : Nat) {d : Nd} (h : d.kn = (D i0).kn) : ∀ i, i < n → (putNd D i0 d i).kn = (D i).kn := fun i _ => by
  by_cases e : i = i0
  · subst e; rw [putNd_same, h]
  · rw [putNd_ne D _ e]

/-- New lists are other than those that were there. -/
theorem far_new {w w' : World} {l : Loc} {B g cap n : Nat} {D : Nat → Nd} {L : Nat → Loc} (hk : New w w' l.kA) (hn : New w w' l.nA) (h : OwnT w B g cap n D L) (i : Nat) : ∀ j, j < n → j ≠ i → Apart l.kA (L j).kA ∧ Apart l.kA (L j).nA ∧ Apart (L j).kA l.nA := fun j hj _ =>
  ⟨fun b o x b' o' x' e e' => by have h1 := hk b o x e; have h2 := (h.lists j hj).2.2 b' o' x' e'; omega,
   fun b o x b' o' x' e e' => by have h1 := hk b o x e; have h2 := (h.lists j hj).2.1 b' o' x' e'; omega,
   fun b o x b' o' x' e e' => by have h1 := hn b' o' x' e'; have h2 := (h.lists j hj).2.2 b o x e; omega⟩

theorem Nice.app {n m : Nat} {D : Nat → Nd} (h : Nice n m D) (hn : n < 10) {k : Int} (hk : 1 ≤ k ∧ k ≤ 2) : Nice (n + 1) m (putNd D n (kindNd k)) := by
  have h1 := h.some
  refine ⟨by omega, by omega, by rw [putNd_ne D _ (by omega)]; exact h.root, fun j hj => ?_⟩
  by_cases e : j = n
  · subst e
    rw [putNd_same]
    exact ⟨rfl, Nat.zero_le _, fun i hi => absurd hi (Nat.not_lt_zero _), fun i hi => absurd hi (Nat.not_lt_zero _), by simp [kindNd], hk, by simp [kindNd]⟩
  · rw [putNd_ne D _ e]
    exact (h.each j (by omega)).more (Nat.le_succ _) (Nat.le_refl _)

def new4 : List ByteArray := [⟨#[120]⟩, ⟨#[121, 121]⟩, ⟨#[]⟩, ⟨#[110, 101, 119]⟩]

set_option maxRecDepth 100000 in
set_option maxHeartbeats 8000000 in
theorem l2Grow_any (w : World) (X : Nat → Prop) (r : Nat) (a : Option Addr) (len cp : Nat) (zs : Nat → Int) (p g cap n m : Nat) (D : Nat → Nd) (L : Nat → Loc) (now : Int) (hR : IsRd w r a len cp zs p) (hp : p ≤ 1000) (hO : OwnT w (r + 1) g cap n D L) (hXA : Away X g n L) (hX : ∀ b, X b → b < w.heap.size ∧ b ≠ r) (hKO : KidsOwn w n D L) (hN : Nice n m D) (hm : m ≤ 100) (h0 : 0 ≤ now) (h1 : now ≤ 100) :
    Calls Try.prog 45 #[.pointer (some ⟨r, 0, none⟩), trV (some ⟨g, 0, none⟩) n cap now] w fun e w' => ∃ g' cap' n' D' L', e = .returned (trV (some ⟨g', 0, none⟩) n' cap' (now + 1)) ∧ Grew w X r a len cp zs p m now g' cap' n' D' L' w' := by
  obtain ⟨j0, hj, hy0, hy1, hy2⟩ := info_parts infoInt
  have hn1 := hN.some
  have hn10 := hN.few
  have hlt0 := hO.lt
  unfold trV
  go_enter Try.func45, Try.ntmps45
  go_wp2
  go_loopw [5, 6] (fun v i wr => ∃ (k : Nat) (DL : List Int), k ≤ n ∧ i = .int .i64 k ∧ DI w g n cap now v DL wr ∧ DirL n D k DL) (fun _ i _ => n - (intOf i).toNat)
  case atStart =>
    have h3 := new3 w #[.slice (some ⟨g, 0, none⟩) n cap, .int .i64 now] 25 #[.slice none 0 0, .int .i64 0] 25 #[] 3
    refine ⟨0, [], Nat.zero_le _, rfl, ⟨h3.b0, h3.b1, ⟨rfl, Or.inr ⟨w.heap.size + 1 + 1, 0, #[], rfl, by omega, h3.b2, Nat.le_refl _, by unfold maxLen; omega, rfl, rfl⟩⟩, by simp, h3.bel, by have := h3.size; omega⟩, ⟨fun z hz => by simp at hz, fun h => by omega, Nat.le_refl _⟩⟩
  case round =>
    obtain ⟨k, DL, hk, rfl, hin, hdl⟩ := hrel
    have t0 : wr.cell? ⟨w.heap.size, 0, none⟩ = some (.slice (some ⟨g, 0, none⟩) n cap) := hin.t.cell 0
    have hfew := hdl.few
    have hsz := hin.size
    by_cases hlt : k < n
    · have hOr := hO.below hin.bel
      have c0 := (hOr.cells k hlt).1
      have hki : (k : Int) < (n : Int) := by omega
      have HIN : Hid (DI w g n cap now u5 DL wr ∧ DirL n D k DL) := ⟨hin, hdl⟩
      clear hin hdl hOr
      cases hd2 : ((D k).kind == 2) with
      | true =>
        have H2 : Hid ((D k).kind = 2) := show (D k).kind = 2 by simpa using hd2
        go_wp2_with (at_builtin; refine wpList_append_own _ rfl _ _ 34 rfl (w.heap.size + 2) 3 j0 (.int .i64 0) 1 8 Try.underlying34 hj hy0 hy1 hy2 rfl (by decide) u5 DL.length (intv DL) rfl (HIN.out.1.alloc _).own ⟨wr.heap.size, 0, none⟩ 1 1 (intv [(k : Int)]) rfl rfl (intv_at wr _) (intv_one _) (by unfold maxLen; omega) (by omega) (by simp; omega) ?_)
        intro v' w1 hown hgrow hnil
        have HD : Hid (DI w g n cap now v' (DL ++ [(k : Int)]) w1) := (HIN.out.1.alloc _).app hown hgrow hnil
        clear hown hgrow hnil c0 t0
        go_wp2
        go_roundw
        case rel => exact ⟨k + 1, _, by omega, by go_num, HD.out, HIN.out.2.more hlt H2.out⟩
        case measure => simp [intOf]; omega
      | false =>
        have H2 : Hid (¬ (D k).kind = 2) := show ¬ (D k).kind = 2 by simpa using hd2
        go_wp2
        go_roundw
        case rel => exact ⟨k + 1, _, by omega, by go_num, HIN.out.1, HIN.out.2.skip hN.root H2.out⟩
        case measure => simp [intOf]; omega
    · have hke : k = n := by omega
      have hdl' : DirL n D n DL := hke ▸ hdl
      obtain ⟨gd, cd, hv, hbd, hltd⟩ : ∃ gd cd, u5 = .slice (some ⟨gd, 0, none⟩) DL.length cd ∧ w.heap.size + 2 ≤ gd ∧ gd < wr.heap.size := hin.own.form (by have := hdl'.some hn1; omega)
      subst hv
      have HDI : Hid (DI w g n cap now (.slice (some ⟨gd, 0, none⟩) DL.length cd) DL wr ∧ DirL n D n DL) := ⟨hin, hdl'⟩
      have hR1 := hR.kept (W' := wr) (fun k hk => hin.bel.block k (by have := hR.lt; omega))
      have hlen1 : 1 ≤ DL.length := hdl'.some hn1
      have hlen2 : DL.length ≤ 10 := by have := hdl'.few; omega
      have hdcell : ∀ i, i < DL.length → wr.cell? ⟨gd, i, none⟩ = some (.int .i64 (DL.getD i 0)) := by
        obtain ⟨a1, c1, e1, h1, _⟩ := owns_ints hin.own
        cases e1
        rcases h1 with h1 | ⟨b', o', e', _, hc'⟩
        · intro i hi; omega
        · cases e'
          intro i hi
          have := hc' i hi
          rwa [Nat.zero_add] at this
      clear hin hdl hdl' hke
      go_wp2_with fail
      have hG1 : GI w X r a len cp zs p g cap n D L now wr := ⟨hR1, HDI.out.1.t, HDI.out.1.res, hO.below HDI.out.1.bel, away_low hO (Nat.le_refl _), HDI.out.1.bel.mono (by have := hR.lt; omega), hR.lt, hXA, fun b hx => HDI.out.1.bel.block b (hX b hx).1, hX, hKO.of_blocks (fun i hi b o x e => HDI.out.1.bel.block b (by have := (hO.lists i hi).2.2 b o x e; omega))⟩
      refine (pick_any wr r a len cp zs p DL.length hR1 (by omega) (by omega) (by omega)).mono ?_
      rintro e w2 ⟨x, rfl, hx0, hx1, hg2, hR2⟩
      obtain ⟨x, rfl⟩ := Int.eq_ofNat_of_zero_le hx0
      have hxl : x < DL.length := by omega
      obtain ⟨xd, hxd, hxn, hxk⟩ := HDI.out.2.dir (DL.getD x 0) (by simp [hxl])
      have dcell : w2.cell? ⟨gd, x, none⟩ = some (.int .i64 (xd : Nat)) := by
        have := hg2.cell (hdcell x hxl) (by simp; have := hR.lt; omega)
        rwa [hxd] at this
      have HG2 : Hid (GI w X r a len cp zs (p + 1) g cap n D L now w2) := hG1.read hg2 hR2
      have HXK : Hid ((D xd).kind = 2) := hxk
      have hrl := hR.lt
      clear hg2 hR2 hG1 hR1 HDI hdcell hxd hxk t0 hsz hfew hx0
      go_wp2_with fail
      refine (l1Name_nm w2 r a len cp zs (p + 1) HG2.out.rd (by omega)).mono ?_
      rintro e w3 ⟨name, rfl, hname, hg3, hR3⟩
      have HG3 : Hid (GI w X r a len cp zs (p + 1 + 1) g cap n D L now w3) := HG2.out.read hg3 hR3
      clear hg3 hR3 HG2 dcell
      have t0 : w3.cell? ⟨w.heap.size, 0, none⟩ = some (.slice (some ⟨g, 0, none⟩) n cap) := HG3.out.t.cell 0
      have t1 : w3.cell? ⟨w.heap.size, 1, none⟩ = some (.int .i64 now) := HG3.out.t.cell 1
      obtain ⟨c0, c1, c2, c3, c4⟩ := HG3.out.own.cells xd hxn
      have hxi : (xd : Int) < (n : Int) := by omega
      go_wp2_with fail
      have hnd := hN.each xd hxn
      refine (l2Name_any (D xd) (L xd) name w3 (HG3.out.own.lists xd hxn).1 (by have := hnd.few; unfold maxLen; omega)).mono ?_
      rintro e w4 ⟨hb4, rfl⟩
      have HG4 : Hid (GI w X r a len cp zs (p + 1 + 1) g cap n D L now w4) := HG3.out.below hb4
      clear hb4 HG3 t0 t1 c0 c1 c2 c3 c4
      have t0 : w4.cell? ⟨w.heap.size, 0, none⟩ = some (.slice (some ⟨g, 0, none⟩) n cap) := HG4.out.t.cell 0
      have t1 : w4.cell? ⟨w.heap.size, 1, none⟩ = some (.int .i64 now) := HG4.out.t.cell 1
      have tf1 := HG4.out.t.frozen 1
      obtain ⟨c0, c1, c2, c3, c4⟩ := HG4.out.own.cells xd hxn
      have hgb := HG4.out.away.row
      have hgb0 : g ≠ w.heap.size := fun e => hgb (Or.inl e)
      have hgb1 : w.heap.size ≠ g := fun e => hgb (Or.inl e.symm)
      have hgb2 : g ≠ w.heap.size + 1 := fun e => hgb (Or.inr e)
      have hgb3 : w.heap.size + 1 ≠ g := fun e => hgb (Or.inr e.symm)
      have rs0 : w4.cell? ⟨w.heap.size + 1, 0, none⟩ = some (.slice none 0 0) := HG4.out.res.cell 0
      have rs1 : w4.cell? ⟨w.heap.size + 1, 1, none⟩ = some (.int .i64 0) := HG4.out.res.cell 1
      have rf0 := HG4.out.res.frozen 0
      have rf1 := HG4.out.res.frozen 1
      rcases nameIx_spec (D xd) name with ⟨hix, hno⟩ | ⟨ix, hix, hixn, hixe⟩
      · rw [hix]
        clear hix hno
        go_wp2_with fail
        refine wp_world (F := GI w X r a len cp zs (p + 1 + 1) g cap n D L (now + 1)) (HG4.out.setNow (now + 1)) ?_
        clear HG4 t0 t1 tf1 c0 c1 c2 c3 c4 rs0 rs1 rf0 rf1
        intro W5 hW5
        go_loopw [11, 12] (fun kd i wr => ∃ (kd' k q : Nat), 1 ≤ k ∧ k ≤ n ∧ i = .int .i64 k ∧ kd = .int .i64 kd' ∧ (kd' = n ∨ (1 ≤ kd' ∧ kd' < n)) ∧ GI w X r a len cp zs q g cap n D L (now + 1) wr ∧ q ≤ p + 2 + k) (fun _ i _ => n - (intOf i).toNat)
        case atStart => exact ⟨n, 1, p + 1 + 1, Nat.le_refl _, hn1, rfl, rfl, Or.inl rfl, hW5, by omega⟩
        case round =>
          obtain ⟨kd, k', q, hk1, hkn', rfl, rfl, hkd, hin, hq⟩ := hrel
          clear hW5
          have t0 : wr.cell? ⟨w.heap.size, 0, none⟩ = some (.slice (some ⟨g, 0, none⟩) n cap) := hin.t.cell 0
          by_cases hltk : k' < n
          · have HIN : Hid _ := hin
            have hki : (k' : Int) < (n : Int) := by omega
            clear hin
            go_wp2_with fail
            refine (pick_any wr r a len cp zs q 4 HIN.out.rd (by omega) (by omega) (by omega)).mono ?_
            rintro e w6 ⟨x4, rfl, hx40, hx41, hg6, hR6⟩
            have HG6 : Hid (GI w X r a len cp zs (q + 1) g cap n D L (now + 1) w6) := HIN.out.read hg6 hR6
            clear hg6 hR6 HIN t0
            have t0 : w6.cell? ⟨w.heap.size, 0, none⟩ = some (.slice (some ⟨g, 0, none⟩) n cap) := HG6.out.t.cell 0
            have e0 := (HG6.out.own.cells k' hltk).1
            cases hx4 : (x4 == 0) with
            | false =>
              go_wp2
              go_roundw
              case rel => exact ⟨kd, k' + 1, q + 1, by omega, by omega, by go_num, rfl, hkd, HG6.out, by omega⟩
              case measure => simp [intOf]; omega
            | true =>
              cases hkf : ((D k').kind == 1) with
              | false =>
                go_wp2
                go_roundw
                case rel => exact ⟨kd, k' + 1, q + 1, by omega, by omega, by go_num, rfl, hkd, HG6.out, by omega⟩
                case measure => simp [intOf]; omega
              | true =>
                go_wp2
                go_roundw
                case rel => exact ⟨k', k' + 1, q + 1, by omega, by omega, by go_num, rfl, Or.inr ⟨hk1, hltk⟩, HG6.out, by omega⟩
                case measure => simp [intOf]; omega
          · have hqq : q ≤ p + 12 := by omega
            by_cases hk10 : 10 ≤ kd
            · have hdk : decide ((10 : Int) ≤ kd) = true := by simp; omega
              have HE : Hid _ := hin.fin (p := p) (m := m) (by omega) (hN.more (Nat.le_succ _))
              have t1 : wr.cell? ⟨w.heap.size, 1, none⟩ = some (.int .i64 (now + 1)) := hin.t.cell 1
              have rs0 : wr.cell? ⟨w.heap.size + 1, 0, none⟩ = some (.slice none 0 0) := hin.res.cell 0
              have rs1 : wr.cell? ⟨w.heap.size + 1, 1, none⟩ = some (.int .i64 0) := hin.res.cell 1
              have rf0 := hin.res.frozen 0
              have rf1 := hin.res.frozen 1
              clear hin
              go_wp2
              refine end_world (F := GEnd w X r a len cp zs p m now g cap n D L) HE.out ?_
              clear HE t0 t1 rs0 rs1 rf0 rf1
              rintro WF ⟨hr, hgr⟩
              have r0 := hr.cell 0
              have r1 := hr.cell 1
              simp at r0 r1
              exact bodyPost_ret (v := .agg #[.slice (some ⟨g, 0, none⟩) n cap, .int .i64 (now + 1)]) (by simp [results, Try.results45, go_sem, r0, r1]) rfl (by first | exact ⟨g, cap, n, _, L, rfl, hgr⟩ | exact ⟨g, cap, n, rfl, _, L, hgr⟩)
            · have hdk : decide ((10 : Int) ≤ kd) = false := by simp; omega
              by_cases hkn2 : kd = n
              · have hkb : ((kd : Int) == (n : Int)) = true := by simp [hkn2]
                subst hkn2
                have HIN : Hid _ := hin
                have hwl := hin.t.lt
                have hgl := hin.own.lt
                have hgbX := hin.away.row
                have hgx0 : g ≠ w.heap.size := fun e => hgbX (Or.inl e)
                have hgx1 : w.heap.size ≠ g := fun e => hgbX (Or.inl e.symm)
                obtain ⟨i0, hi0, hz0, hz1, hz2⟩ := info_parts infoNode
                clear hin hgbX
                go_wp2_with fail
                apply wp_cut4 (X := Nat) (Y := Nat) (Z := Int) (U := Nat) (fun g' c' z b W => GI w X r a len cp zs (q + 1) g' c' (kd + 1) (putNd D kd (kindNd (1 + z))) (putLoc L kd loc00) (now + 1) W ∧ 0 ≤ z ∧ z < 2)
                · intro key
                  have KEY : Hid _ := key
                  clear key
                  go_region_law (first
                    | (obtain ⟨cur6, hc6, hs6⟩ := (hG6.alloc (.cells #[.int .i64 (1 + x2), .string ⟨#[]⟩, .slice none 0 0, .slice none 0 0, .int .i64 0] 36)).own.blk
                       refine step_append_lies _ (by rfl) _ _ _ (by rfl) (r + 1) 36 i0 _ 5 80 Try.underlying23 hi0 hz0 hz1 hz2 rfl (by decide) (.slice (some ⟨g, 0, none⟩) kd cap) kd (cur6.toList.take (kd * 5)) (by rfl) ((hG6.alloc _).own.owns hc6 hs6) ⟨w6.heap.size, 0, none⟩ 1 1 (kindCells (1 + x2)) (by rfl) (by rfl) (World.news_of_block (cs := #[.int .i64 (1 + x2), .string ⟨#[]⟩, .slice none 0 0, .slice none 0 0, .int .i64 0]) (t := 36) (fr := (0, 0)) (heap_alloc_new w6 _)) (by simp [kindCells, Value.oneCell']) (by decide) (by unfold maxLen; omega) (by omega) (by have := hG6.rlt; have := hG6.size; simp; omega) (w6.heap.size + 1) (by simp) ?_
                       intro g' c' w7 hown hgrow hat hlt7
                       have q0 : w7.cell? ⟨w.heap.size, 0, none⟩ = some (.slice (some ⟨g, 0, none⟩) kd cap) := (hgrow.cell_far _ (by simp; omega) (by simp [Value.ownBlock]; omega)).trans ((hG6.alloc _).t.cell 0)
                       have q0f : w7.frozen? ⟨w.heap.size, 0, none⟩ = false := (hgrow.frozen_far _ (by simp; omega) (by simp [Value.ownBlock]; omega)).trans ((hG6.alloc _).t.frozen 0))
                    | (go_simp
                       go_at_call 31
                       refine (pick_any (wr.drewN 1) r a len cp zs q 2 (HIN.out.drew 1).rd (by omega) (by omega) (by omega)).mono ?_
                       rintro e w6 ⟨x2, rfl, hx20, hx21, hg6, hR6⟩
                       have hG6 := (HIN.out.drew 1).read hg6 hR6
                       have T0 : w6.cell? ⟨w.heap.size, 0, none⟩ = some (.slice (some ⟨g, 0, none⟩) kd cap) := hG6.t.cell 0
                       have hwr : IntKind.i64.wrap (1 + x2) = 1 + x2 := wrap_i64 (1 + x2) (by omega) (by omega)
                       have hl6 := hG6.t.lt))
                  all_goals (generalize w6.heap.size = b6; exact KEY.out g' c' x2 b6 _ ⟨(hG6.alloc _).append hc6 hs6 hown (by simpa [Value.ownBlock] using hgrow) (hat.elim (fun e => Or.inl (by simpa [Value.ownBlock] using e)) (fun e => Or.inr (by rw [e]; simp))), hx20, hx21⟩)
                · intro g' c' z b6 W7 hF7
                  have hN7a : Nice (kd + 1) m (putNd D kd (kindNd (1 + z))) := hN.app (by omega) ⟨by omega, by omega⟩
                  obtain ⟨D6, hD6⟩ : ∃ X', X' = putNd D kd (kindNd (1 + z)) := ⟨_, rfl⟩
                  obtain ⟨L6, hL6⟩ : ∃ X', X' = putLoc L kd loc00 := ⟨_, rfl⟩
                  have hG7a := hF7.1
                  rw [← hD6, ← hL6] at hG7a
                  rw [← hD6] at hN7a
                  have HIN7 : Hid _ := hG7a
                  have HNN : Hid (Nice (kd + 1) m D6) := hN7a
                  clear hD6 hL6 hF7 hG7a hN7a hi0 hz0 hz1 hz2 t0 HIN hgx0 hgx1
                  have HIN : Hid _ := HIN7.out
                  clear HIN7
                  have hkdn : kd < kd + 1 := Nat.lt_succ_self _
                  have hxN : xd < kd + 1 := by omega
                  have t0 : W7.cell? ⟨w.heap.size, 0, none⟩ = some (.slice (some ⟨g', 0, none⟩) (kd + 1) c') := HIN.out.t.cell 0
                  have t1 : W7.cell? ⟨w.heap.size, 1, none⟩ = some (.int .i64 (now + 1)) := HIN.out.t.cell 1
                  obtain ⟨e0, e1, e2, e3, e4⟩ := HIN.out.own.cells kd hkdn
                  have ef4 := HIN.out.own.frozen (kd * 5 + 4)
                  have hgbX := HIN.out.away.row
                  have hgx0 : g' ≠ w.heap.size := fun e => hgbX (Or.inl e)
                  have hgx1 : w.heap.size ≠ g' := fun e => hgbX (Or.inl e.symm)
                  have hgx2 : g' ≠ w.heap.size + 1 := fun e => hgbX (Or.inr e)
                  have hgx3 : w.heap.size + 1 ≠ g' := fun e => hgbX (Or.inr e.symm)
                  have hkdi : (kd : Int) < (((kd + 1) : Nat) : Int) := by omega
                  have hxdi : (xd : Int) < (((kd + 1) : Nat) : Int) := by omega
                  have hG7 := HIN.out.put (by exact putNd_kn _ _ rfl) (HIN.out.own.setTurn hkdn (now + 1))
                  have hN7 := HNN.out.put hkdn ((HNN.out.each kd hkdn).setTurn (z := now + 1) (by omega) (by omega)) rfl
                  have HG7 : Hid _ := hG7
                  have HN7 : Hid _ := hN7
                  clear hG7 hN7 hgbX
                  go_wp2_with fail
                  obtain ⟨D7, hD7⟩ : ∃ X', X' = putNd D6 kd { D6 kd with turn := now + 1 } := ⟨_, rfl⟩
                  rw [← hD7] at HG7 HN7
                  clear hD7
                  refine wp_world (F := GI w X r a len cp zs (q + 1) g' c' (kd + 1) D7 L6 (now + 1)) HG7.out ?_
                  clear HG7 HIN HNN t0 t1 e0 e1 e2 e3 e4 ef4
                  intro W8 hW8
                  have t0 : W8.cell? ⟨w.heap.size, 0, none⟩ = some (.slice (some ⟨g', 0, none⟩) (kd + 1) c') := hW8.t.cell 0
                  obtain ⟨e0, e1, e2, e3, e4⟩ := hW8.own.cells xd hxN
                  have hn8 := HN7.out.each xd hxN
                  have HW8 : Hid _ := hW8
                  have hsz8 := hW8.size
                  have hlt8 := hW8.own.lt
                  clear hW8
                  apply wp_cut3 (X := List ByteArray) (Y := List Int) (Z := Loc) (fun NL KL l' W => GI w X r a len cp zs (q + 1) g' c' (kd + 1) (putNd D7 xd (withNd (D7 xd) NL KL)) (putLoc L6 xd l') (now + 1) W ∧ WL (fun z => 0 ≤ z ∧ z < (((kd + 1) : Nat) : Int)) (D7 xd).nn true NL KL)
                  · intro key
                    have KEY : Hid _ := key
                    clear key
                    go_region_with (
                      go_at_call 33
                      refine (l2With_any (fun z => 0 ≤ z ∧ z < (((kd + 1) : Nat) : Int)) (D7 xd) (L6 xd) name kd (W8.drewN 1) ((HW8.out.drew 1).own.lists xd hxN).1 hn8.same (by have := hn8.few; omega) hn8.short hname hn8.kids ⟨by omega, by omega⟩).mono ?_
                      rintro e w9 ⟨NL, KL, l', rfl, hmade, hwl⟩
                      unfold ndV
                      have hG9 := (HW8.out.drew 1).below hmade.bel
                      have T0 : w9.cell? ⟨w.heap.size, 0, none⟩ = some (.slice (some ⟨g', 0, none⟩) (kd + 1) c') := hG9.t.cell 0
                      obtain ⟨E0, E1, E2, E3, E4⟩ := hG9.own.cells xd hxN
                      have F0 := hG9.own.frozen (xd * 5)
                      have F1 := hG9.own.frozen (xd * 5 + 1)
                      have F2 := hG9.own.frozen (xd * 5 + 2)
                      have F3 := hG9.own.frozen (xd * 5 + 3)
                      have F4 := hG9.own.frozen (xd * 5 + 4))
                    all_goals exact KEY.out NL KL l' _ ⟨hG9.putNode hxN (withNd (D7 xd) NL KL) l' hmade.lies hmade.room hmade.apart (far_new hmade.kA hmade.nA (HW8.out.drew 1).own xd) (fun b o x e => by have := hmade.nA b o x e; have h2 : (W8.drewN 1).heap.size = W8.heap.size := rfl; omega) (fun b o x e => by have := hmade.kA b o x e; have h2 : (W8.drewN 1).heap.size = W8.heap.size := rfl; omega), hwl⟩
                  · intro NL KL l' W9 hF9
                    have hN9 := (HN7.out.more (Nat.le_succ _)).put hxN (nice_with hn8 hF9.2) rfl
                    obtain ⟨D9, hD9⟩ : ∃ X', X' = putNd D7 xd (withNd (D7 xd) NL KL) := ⟨_, rfl⟩
                    obtain ⟨L9, hL9⟩ : ∃ X', X' = putLoc L6 xd l' := ⟨_, rfl⟩
                    have hG9 := hF9.1
                    rw [← hD9] at hN9
                    rw [← hD9, ← hL9] at hG9
                    clear hD9 hL9 hF9
                    have hN10 := hN9.put hxN ((hN9.each xd hxN).setTurn (z := now + 1) (by omega) (by omega)) rfl
                    have HE : Hid _ := (hG9.put (by exact putNd_kn _ _ rfl) (hG9.own.setTurn hxN (now + 1))).fin (p := p) (by omega) hN10
                    have t0 : W9.cell? ⟨w.heap.size, 0, none⟩ = some (.slice (some ⟨g', 0, none⟩) (kd + 1) c') := hG9.t.cell 0
                    have t1 : W9.cell? ⟨w.heap.size, 1, none⟩ = some (.int .i64 (now + 1)) := hG9.t.cell 1
                    obtain ⟨e0, e1, e2, e3, e4⟩ := hG9.own.cells xd hxN
                    have ef4 := hG9.own.frozen (xd * 5 + 4)
                    have rs0 : W9.cell? ⟨w.heap.size + 1, 0, none⟩ = some (.slice none 0 0) := hG9.res.cell 0
                    have rs1 : W9.cell? ⟨w.heap.size + 1, 1, none⟩ = some (.int .i64 0) := hG9.res.cell 1
                    have rf0 := hG9.res.frozen 0
                    have rf1 := hG9.res.frozen 1
                    clear hN9 hN10 hG9 HN7 HW8 hn8
                    go_wp2
                    refine end_world (F := GEnd w X r a len cp zs p m now g' c' (kd + 1) (putNd D9 xd { D9 xd with turn := now + 1 }) L9) HE.out ?_
                    clear HE t0 t1 rs0 rs1 rf0 rf1 e0 e1 e2 e3 e4 ef4
                    rintro WF ⟨hr, hgr⟩
                    have r0 := hr.cell 0
                    have r1 := hr.cell 1
                    simp at r0 r1
                    exact bodyPost_ret (v := .agg #[.slice (some ⟨g', 0, none⟩) (kd + 1) c', .int .i64 (now + 1)]) (by simp [results, Try.results45, go_sem, r0, r1]) rfl (by first | exact ⟨g', c', (kd + 1), _, L9, rfl, hgr⟩ | exact ⟨g', c', (kd + 1), rfl, _, L9, hgr⟩)
              · have hkdn : kd < n := by omega
                have hkb : ((kd : Int) == (n : Int)) = false := by simp; omega
                have HIN : Hid _ := hin
                have HNN : Hid (Nice n m D) := hN
                have hxN : xd < n := hxn
                clear hin t0
                have t0 : wr.cell? ⟨w.heap.size, 0, none⟩ = some (.slice (some ⟨g, 0, none⟩) n cap) := HIN.out.t.cell 0
                have t1 : wr.cell? ⟨w.heap.size, 1, none⟩ = some (.int .i64 (now + 1)) := HIN.out.t.cell 1
                obtain ⟨e0, e1, e2, e3, e4⟩ := HIN.out.own.cells kd hkdn
                have ef4 := HIN.out.own.frozen (kd * 5 + 4)
                have hgbX := HIN.out.away.row
                have hgx0 : g ≠ w.heap.size := fun e => hgbX (Or.inl e)
                have hgx1 : w.heap.size ≠ g := fun e => hgbX (Or.inl e.symm)
                have hgx2 : g ≠ w.heap.size + 1 := fun e => hgbX (Or.inr e)
                have hgx3 : w.heap.size + 1 ≠ g := fun e => hgbX (Or.inr e.symm)
                have hkdi : (kd : Int) < ((n : Nat) : Int) := by omega
                have hxdi : (xd : Int) < ((n : Nat) : Int) := by omega
                have hG7 := HIN.out.put (by exact putNd_kn _ _ rfl) (HIN.out.own.setTurn hkdn (now + 1))
                have hN7 := HNN.out.put hkdn ((HNN.out.each kd hkdn).setTurn (z := now + 1) (by omega) (by omega)) rfl
                have HG7 : Hid _ := hG7
                have HN7 : Hid _ := hN7
                clear hG7 hN7 hgbX
                go_wp2_with fail
                obtain ⟨D7, hD7⟩ : ∃ X', X' = putNd D kd { D kd with turn := now + 1 } := ⟨_, rfl⟩
                rw [← hD7] at HG7 HN7
                clear hD7
                refine wp_world (F := GI w X r a len cp zs q g cap n D7 L (now + 1)) HG7.out ?_
                clear HG7 HIN HNN t0 t1 e0 e1 e2 e3 e4 ef4
                intro W8 hW8
                have t0 : W8.cell? ⟨w.heap.size, 0, none⟩ = some (.slice (some ⟨g, 0, none⟩) n cap) := hW8.t.cell 0
                obtain ⟨e0, e1, e2, e3, e4⟩ := hW8.own.cells xd hxN
                have hn8 := HN7.out.each xd hxN
                have HW8 : Hid _ := hW8
                have hsz8 := hW8.size
                have hlt8 := hW8.own.lt
                clear hW8
                apply wp_cut3 (X := List ByteArray) (Y := List Int) (Z := Loc) (fun NL KL l' W => GI w X r a len cp zs q g cap n (putNd D7 xd (withNd (D7 xd) NL KL)) (putLoc L xd l') (now + 1) W ∧ WL (fun z => 0 ≤ z ∧ z < ((n : Nat) : Int)) (D7 xd).nn true NL KL)
                · intro key
                  have KEY : Hid _ := key
                  clear key
                  go_region_with (
                    go_at_call 33
                    refine (l2With_any (fun z => 0 ≤ z ∧ z < ((n : Nat) : Int)) (D7 xd) (L xd) name kd (W8.drewN 1) ((HW8.out.drew 1).own.lists xd hxN).1 hn8.same (by have := hn8.few; omega) hn8.short hname hn8.kids ⟨by omega, by omega⟩).mono ?_
                    rintro e w9 ⟨NL, KL, l', rfl, hmade, hwl⟩
                    unfold ndV
                    have hG9 := (HW8.out.drew 1).below hmade.bel
                    have T0 : w9.cell? ⟨w.heap.size, 0, none⟩ = some (.slice (some ⟨g, 0, none⟩) n cap) := hG9.t.cell 0
                    obtain ⟨E0, E1, E2, E3, E4⟩ := hG9.own.cells xd hxN
                    have F0 := hG9.own.frozen (xd * 5)
                    have F1 := hG9.own.frozen (xd * 5 + 1)
                    have F2 := hG9.own.frozen (xd * 5 + 2)
                    have F3 := hG9.own.frozen (xd * 5 + 3)
                    have F4 := hG9.own.frozen (xd * 5 + 4))
                  all_goals exact KEY.out NL KL l' _ ⟨hG9.putNode hxN (withNd (D7 xd) NL KL) l' hmade.lies hmade.room hmade.apart (far_new hmade.kA hmade.nA (HW8.out.drew 1).own xd) (fun b o x e => by have := hmade.nA b o x e; have h2 : (W8.drewN 1).heap.size = W8.heap.size := rfl; omega) (fun b o x e => by have := hmade.kA b o x e; have h2 : (W8.drewN 1).heap.size = W8.heap.size := rfl; omega), hwl⟩
                · intro NL KL l' W9 hF9
                  have hN9 := (HN7.out.more (Nat.le_succ _)).put hxN (nice_with hn8 hF9.2) rfl
                  obtain ⟨D9, hD9⟩ : ∃ X', X' = putNd D7 xd (withNd (D7 xd) NL KL) := ⟨_, rfl⟩
                  obtain ⟨L9, hL9⟩ : ∃ X', X' = putLoc L xd l' := ⟨_, rfl⟩
                  have hG9 := hF9.1
                  rw [← hD9] at hN9
                  rw [← hD9, ← hL9] at hG9
                  clear hD9 hL9 hF9
                  have hN10 := hN9.put hxN ((hN9.each xd hxN).setTurn (z := now + 1) (by omega) (by omega)) rfl
                  have HE : Hid _ := (hG9.put (by exact putNd_kn _ _ rfl) (hG9.own.setTurn hxN (now + 1))).fin (p := p) (by omega) hN10
                  have t0 : W9.cell? ⟨w.heap.size, 0, none⟩ = some (.slice (some ⟨g, 0, none⟩) n cap) := hG9.t.cell 0
                  have t1 : W9.cell? ⟨w.heap.size, 1, none⟩ = some (.int .i64 (now + 1)) := hG9.t.cell 1
                  obtain ⟨e0, e1, e2, e3, e4⟩ := hG9.own.cells xd hxN
                  have ef4 := hG9.own.frozen (xd * 5 + 4)
                  have rs0 : W9.cell? ⟨w.heap.size + 1, 0, none⟩ = some (.slice none 0 0) := hG9.res.cell 0
                  have rs1 : W9.cell? ⟨w.heap.size + 1, 1, none⟩ = some (.int .i64 0) := hG9.res.cell 1
                  have rf0 := hG9.res.frozen 0
                  have rf1 := hG9.res.frozen 1
                  clear hN9 hN10 hG9 HN7 HW8 hn8
                  go_wp2
                  refine end_world (F := GEnd w X r a len cp zs p m now g cap n (putNd D9 xd { D9 xd with turn := now + 1 }) L9) HE.out ?_
                  clear HE t0 t1 rs0 rs1 rf0 rf1 e0 e1 e2 e3 e4 ef4
                  rintro WF ⟨hr, hgr⟩
                  have r0 := hr.cell 0
                  have r1 := hr.cell 1
                  simp at r0 r1
                  exact bodyPost_ret (v := .agg #[.slice (some ⟨g, 0, none⟩) n cap, .int .i64 (now + 1)]) (by simp [results, Try.results45, go_sem, r0, r1]) rfl (by first | exact ⟨g, cap, n, _, L9, rfl, hgr⟩ | exact ⟨g, cap, n, rfl, _, L9, hgr⟩)
      · rw [hix]
        clear hix hixe
        have hkx : ix < (D xd).kn := by rw [hnd.same]; exact hixn
        obtain ⟨b5, o5, ha5, hlt5, hc5⟩ := (HG4.out.own.lists xd hxn).1.2.at hkx
        obtain ⟨hf0, hf1⟩ := hnd.kids ix hixn
        obtain ⟨f, hf⟩ : ∃ f : Nat, (D xd).kids ix = f := ⟨((D xd).kids ix).toNat, by omega⟩
        have k5 := hc5 ix hkx
        rw [hf] at k5
        rw [ha5] at c3
        have hfn : f < n := by omega
        have hfi : (f : Int) < (n : Int) := by omega
        have hkxi : (ix : Int) < ((D xd).kn : Int) := by omega
        have hb5 : b5 ≠ w.heap.size := fun e => (HG4.out.away.lists xd hxn).2 b5 o5 none ha5 (Or.inl e)
        obtain ⟨e0, e1, e2, e3, e4⟩ := HG4.out.own.cells f hfn
        have ef4 := HG4.out.own.frozen (f * 5 + 4)
        have ef1 := HG4.out.own.frozen (f * 5 + 1)
        clear hc5 hf hf0 hf1
        have hnf := hN.each f hfn
        have hG5 := (HG4.out.setNow (now + 1)).put (by exact putNd_kn _ _ rfl) ((HG4.out.setNow (now + 1)).own.setTurn hfn (now + 1))
        have hN5 : Nice n (m + 1) (putNd D f { D f with turn := now + 1 }) := (hN.more (Nat.le_succ _)).put hfn ((hnf.more (Nat.le_refl _) (Nat.le_succ _)).setTurn (by omega) (by omega)) rfl
        cases hkf : ((D f).kind == 1) with
        | false =>
          have HE : Hid _ := hG5.fin (p := p) (by omega) hN5
          clear hG5 hN5
          go_wp2
          refine end_world (F := GEnd w X r a len cp zs p m now g cap n (putNd D f { D f with turn := now + 1 }) L) HE.out ?_
          clear HE HG4 t0 t1 tf1 c0 c1 c2 c3 c4 rs0 rs1 rf0 rf1 e0 e1 e2 e3 e4 ef4 ef1
          rintro WF ⟨hr, hgr⟩
          have r0 := hr.cell 0
          have r1 := hr.cell 1
          simp at r0 r1
          exact bodyPost_ret (v := .agg #[.slice (some ⟨g, 0, none⟩) n cap, .int .i64 (now + 1)]) (by simp [results, Try.results45, go_sem, r0, r1]) rfl (by first | exact ⟨g, cap, n, _, L, rfl, hgr⟩ | exact ⟨g, cap, n, rfl, _, L, hgr⟩)
        | true =>
          have HG5 : Hid _ := hG5
          have HN5 : Hid _ := hN5
          clear hG5 hN5
          go_wp2_with fail
          refine wp_world (F := GI w X r a len cp zs (p + 1 + 1) g cap n (putNd D f { D f with turn := now + 1 }) L (now + 1)) HG5.out ?_
          intro W5 hW5
          clear HG5 HG4 t0 t1 tf1 c0 c1 c2 c3 c4 rs0 rs1 rf0 rf1 e0 e1 e2 e3 e4 ef4 ef1 k5
          have t0 : W5.cell? ⟨w.heap.size, 0, none⟩ = some (.slice (some ⟨g, 0, none⟩) n cap) := hW5.t.cell 0
          have hwl := hW5.t.lt
          have hgl := hW5.own.lt
          have HW5 : Hid _ := hW5
          clear hW5
          apply wp_cut1 (X := ByteArray) (fun s W => GI w X r a len cp zs (p + 1 + 1 + 1) g cap n (putNd (putNd D f { D f with turn := now + 1 }) f { (putNd D f { D f with turn := now + 1 }) f with text := s }) L (now + 1) W ∧ s.size ≤ 10)
          · intro key
            have KEY : Hid _ := key
            clear key
            go_region_with (
              go_at_call 34
              refine (of_any ((W5.drewN 1).alloc _) r a len cp zs (p + 1 + 1) ((HW5.out.drew 1).alloc _).rd (by omega) W5.heap.size 0 4 4 (fun i => new4.getD i ByteArray.empty) (by have := HW5.out.rd.lt; omega) (by omega) (by omega) (new_strs (W5.drewN 1) new4)).mono ?_
              rintro e w6 ⟨i, hi4, rfl, hg6, hR6⟩
              have hs6 : (new4.getD i ByteArray.empty).size ≤ 10 := getD_size rfl i
              have hG6 := ((HW5.out.drew 1).alloc _).read hg6 hR6
              have T0 : w6.cell? ⟨w.heap.size, 0, none⟩ = some (.slice (some ⟨g, 0, none⟩) n cap) := hG6.t.cell 0
              have E1 := (hG6.own.cells f hfn).2.1
              have EF1 := hG6.own.frozen (f * 5 + 1)
              generalize hsd : new4.getD i ByteArray.empty = s at hs6)
            all_goals exact KEY.out s _ ⟨hG6.put (by exact putNd_kn _ _ rfl) (hG6.own.setText hfn s), hs6⟩
          · intro s W7 hF7
            have hN7 := HN5.out.put hfn ((HN5.out.each f hfn).setText hF7.2) rfl
            have HE : Hid _ := hF7.1.fin (p := p) (by omega) hN7
            have t0 : W7.cell? ⟨w.heap.size, 0, none⟩ = some (.slice (some ⟨g, 0, none⟩) n cap) := hF7.1.t.cell 0
            have t1 : W7.cell? ⟨w.heap.size, 1, none⟩ = some (.int .i64 (now + 1)) := hF7.1.t.cell 1
            have rs0 : W7.cell? ⟨w.heap.size + 1, 0, none⟩ = some (.slice none 0 0) := hF7.1.res.cell 0
            have rs1 : W7.cell? ⟨w.heap.size + 1, 1, none⟩ = some (.int .i64 0) := hF7.1.res.cell 1
            have rf0 := hF7.1.res.frozen 0
            have rf1 := hF7.1.res.frozen 1
            clear hF7 hN7 HN5 HW5
            go_wp2
            refine end_world (F := GEnd w X r a len cp zs p m now g cap n _ L) HE.out ?_
            clear HE t0 t1 rs0 rs1 rf0 rf1
            rintro WF ⟨hr, hgr⟩
            have r0 := hr.cell 0
            have r1 := hr.cell 1
            simp at r0 r1
            exact bodyPost_ret (v := .agg #[.slice (some ⟨g, 0, none⟩) n cap, .int .i64 (now + 1)]) (by simp [results, Try.results45, go_sem, r0, r1]) rfl (by first | exact ⟨g, cap, n, _, L, rfl, hgr⟩ | exact ⟨g, cap, n, rfl, _, L, hgr⟩)
end Go.Proofs.Ytlikmphjocjmeaa

/-
  What TreeNew of the specification and TreeNew of the program answer: a tree with a root alone; nothing, if that is no turn.
-/
namespace Go.Proofs.Ytlikmphjocjmeaa
open Go.RowKit
set_option linter.unusedVariables false

/-- The root of a new tree. -/
def rootNd (now : Int) : Nd := ⟨2, ByteArray.empty, 0, fun _ => ByteArray.empty, 0, fun _ => 0, now⟩
def noLoc : Loc := ⟨none, 0, none, 0⟩
/-- .. as it lies in memory. -/
def rootCells (now : Int) : Array Value := #[.int .i64 2, .string ByteArray.empty, .slice none 0 0, .slice none 0 0, .int .i64 now]

theorem root_nds {W : World} {b : Nat} {now : Int} (h : Blk W b (rootCells now) 36) : IsNds W (some ⟨b, 0, none⟩) 1 (fun _ => rootNd now) (fun _ => noLoc) := by
  refine Or.inr ⟨b, 0, rfl, h.lt, fun i hi => ?_⟩
  have : i = 0 := by omega
  subst this
  exact ⟨h.cell 0, h.cell 1, h.cell 2, h.cell 3, h.cell 4, Or.inl rfl, Or.inl rfl⟩

theorem root_fits {now : Int} (h : In64 now) : FitAll 1 (fun _ => rootNd now) := fun i _ =>
  ⟨⟨by show (-9223372036854775808 : Int) ≤ 2; omega, by show (2 : Int) ≤ 9223372036854775807; omega⟩, h, by unfold rootNd maxLen; simp, fun i hi => by unfold rootNd at hi; simp at hi, by unfold rootNd maxLen; simp, by unfold rootNd maxLen; simp, fun i hi => by unfold rootNd at hi; simp at hi⟩

set_option maxHeartbeats 400000 in
theorem specTreeNew_yes (now : Int) (w : World) (h1 : 1 ≤ now) (h2 : now ≤ 1000) :
    Calls Try.prog 11 #[.int .i64 now] w fun e w' => ∃ b, e = .returned (trV (some ⟨b, 0, none⟩) 1 1 now) ∧ w.heap.size ≤ b ∧ Below w.heap.size w w' ∧ Blk w' b (rootCells now) 36 := by
  have hb1 : decide (now < 1) = false := by simp; omega
  have hb2 : decide (1000 < now) = false := by simp; omega
  go_enter Try.func11, Try.ntmps11
  go_wp2
  have h := new2 w #[.slice (some ⟨w.heap.size + 1, 0, none⟩) 1 1, .int .i64 now] 25 (rootCells now) 36
  refine end_world (F := New2 w #[.slice (some ⟨w.heap.size + 1, 0, none⟩) 1 1, .int .i64 now] 25 (rootCells now) 36) h ?_
  rintro W ⟨h0, h1, hb, hs⟩
  have r0 : W.cell? ⟨w.heap.size, 0, none⟩ = some (.slice (some ⟨w.heap.size + 1, 0, none⟩) 1 1) := h0.cell 0
  have r1 : W.cell? ⟨w.heap.size, 1, none⟩ = some (.int .i64 now) := h0.cell 1
  exact bodyPost_ret (v := .agg #[.slice (some ⟨w.heap.size + 1, 0, none⟩) 1 1, .int .i64 now]) (by simp [results, Try.results11, go_sem, r0, r1]) rfl ⟨w.heap.size + 1, rfl, by omega, hb, h1⟩

set_option maxHeartbeats 400000 in
theorem specTreeNew_no (now : Int) (w : World) (h : ¬ (1 ≤ now ∧ now ≤ 1000)) :
    Calls Try.prog 11 #[.int .i64 now] w fun e w' => e = .returned (trV none 0 0 0) ∧ Below w.heap.size w w' := by
  by_cases h1 : now < 1
  · have hb1 : decide (now < 1) = true := by simp; omega
    go_enter Try.func11, Try.ntmps11
    go_wp2
    refine end_world (F := New1 w #[.slice none 0 0, .int .i64 0] 25) (new1 w _ _) ?_
    rintro W ⟨h0, hb, hs⟩
    have r0 : W.cell? ⟨w.heap.size, 0, none⟩ = some (.slice none 0 0) := h0.cell 0
    have r1 : W.cell? ⟨w.heap.size, 1, none⟩ = some (.int .i64 0) := h0.cell 1
    exact bodyPost_ret (v := .agg #[.slice none 0 0, .int .i64 0]) (by simp [results, Try.results11, go_sem, r0, r1]) rfl ⟨rfl, hb⟩
  · have hb1 : decide (now < 1) = false := by simp; omega
    have hb2 : decide (1000 < now) = true := by simp; omega
    go_enter Try.func11, Try.ntmps11
    go_wp2
    refine end_world (F := New1 w #[.slice none 0 0, .int .i64 0] 25) (new1 w _ _) ?_
    rintro W ⟨h0, hb, hs⟩
    have r0 : W.cell? ⟨w.heap.size, 0, none⟩ = some (.slice none 0 0) := h0.cell 0
    have r1 : W.cell? ⟨w.heap.size, 1, none⟩ = some (.int .i64 0) := h0.cell 1
    exact bodyPost_ret (v := .agg #[.slice none 0 0, .int .i64 0]) (by simp [results, Try.results11, go_sem, r0, r1]) rfl ⟨rfl, hb⟩
/-- A turn up to a last one. -/
def turnTo (z y : Int) : Bool := decide (1 ≤ z) && decide (z ≤ y)

theorem turnOk_new (z y : Int) (w : World) : Calls Try.prog 19 #[.int .i64 z, .int .i64 y] w fun e w' => e = .returned (.bool (turnTo z y)) ∧ w' = w := by
  by_cases h : 1 ≤ z
  · have hb : decide (1 ≤ z) = true := by simp; omega
    have HE : Hid (decide (z ≤ y) = turnTo z y) := by show _ = _; unfold turnTo; rw [hb]; rfl
    go_enter Try.func19, Try.ntmps19
    go_wp2
    go_ret
    exact ⟨ret_bool HE.out, rfl⟩
  · have hb : decide (1 ≤ z) = false := by simp; omega
    have HE : Hid (false = turnTo z y) := by show _ = _; unfold turnTo; rw [hb]; rfl
    go_enter Try.func19, Try.ntmps19
    go_wp2
    go_ret
    exact ⟨ret_bool HE.out, rfl⟩

set_option maxHeartbeats 400000 in
theorem implTreeNew_yes (now : Int) (w : World) (h1 : 1 ≤ now) (h2 : now ≤ 1000) :
    Calls Try.prog 10 #[.int .i64 now] w fun e w' => ∃ b, e = .returned (trV (some ⟨b, 0, none⟩) 1 1 now) ∧ w.heap.size ≤ b ∧ Below w.heap.size w w' ∧ Blk w' b (rootCells now) 36 := by
  have hto : turnTo now 1000 = true := by unfold turnTo; simp; omega
  go_enter Try.func10, Try.ntmps10
  go_wp2_with (go_at_call 19; refine (turnOk_new _ _ _).mono ?_; rintro e w' ⟨rfl, rfl⟩; rw [hto])
  have h := new2 w #[.slice (some ⟨w.heap.size + 1, 0, none⟩) 1 1, .int .i64 now] 25 (rootCells now) 36
  refine end_world (F := New2 w #[.slice (some ⟨w.heap.size + 1, 0, none⟩) 1 1, .int .i64 now] 25 (rootCells now) 36) h ?_
  rintro W ⟨h0, h1, hb, hs⟩
  have r0 : W.cell? ⟨w.heap.size, 0, none⟩ = some (.slice (some ⟨w.heap.size + 1, 0, none⟩) 1 1) := h0.cell 0
  have r1 : W.cell? ⟨w.heap.size, 1, none⟩ = some (.int .i64 now) := h0.cell 1
  exact bodyPost_ret (v := .agg #[.slice (some ⟨w.heap.size + 1, 0, none⟩) 1 1, .int .i64 now]) (by simp [results, Try.results10, go_sem, r0, r1]) rfl ⟨w.heap.size + 1, rfl, by omega, hb, h1⟩

set_option maxHeartbeats 400000 in
theorem implTreeNew_no (now : Int) (w : World) (h : ¬ (1 ≤ now ∧ now ≤ 1000)) :
    Calls Try.prog 10 #[.int .i64 now] w fun e w' => e = .returned (trV none 0 0 0) ∧ Below w.heap.size w w' := by
  have hto : turnTo now 1000 = false := by unfold turnTo; simp; omega
  go_enter Try.func10, Try.ntmps10
  go_wp2_with (go_at_call 19; refine (turnOk_new _ _ _).mono ?_; rintro e w' ⟨rfl, rfl⟩; rw [hto])
  refine end_world (F := New1 w #[.slice none 0 0, .int .i64 0] 25) (new1 w _ _) ?_
  rintro W ⟨h0, hb, hs⟩
  have r0 : W.cell? ⟨w.heap.size, 0, none⟩ = some (.slice none 0 0) := h0.cell 0
  have r1 : W.cell? ⟨w.heap.size, 1, none⟩ = some (.int .i64 0) := h0.cell 1
  exact bodyPost_ret (v := .agg #[.slice none 0 0, .int .i64 0]) (by simp [results, Try.results10, go_sem, r0, r1]) rfl ⟨rfl, hb⟩
end Go.Proofs.Ytlikmphjocjmeaa

/-
  What l2Some gives: a tree in new memory.
-/
namespace Go.Proofs.Ytlikmphjocjmeaa
open Go.RowKit Go.Deep
set_option linter.unusedVariables false

/-- A tree has been drawn. -/
structure Drew (w : World) (r : Nat) (a : Option Addr) (len cp : Nat) (zs : Nat → Int) (q g cap n : Nat) (D : Nat → Nd) (L : Nat → Loc) (W : World) : Prop where
  rd : IsRd W r a len cp zs q
  own : OwnT W w.heap.size g cap n D L
  nice : Nice n 10 D
  grown : w.grownBy W (some r)
  kids : KidsOwn W n D L

theorem OwnT.lower {W : World} {B B' g cap n : Nat} {D : Nat → Nd} {L : Nat → Loc} (h : OwnT W B g cap n D L) (hB : B' ≤ B) : OwnT W B' g cap n D L :=
  ⟨h.blk, Nat.le_trans hB h.base, h.room, h.most, h.cells, fun i hi => ⟨(h.lists i hi).1, fun b o x e => by have := (h.lists i hi).2.1 b o x e; omega, fun b o x e => by have := (h.lists i hi).2.2 b o x e; omega⟩⟩

theorem OwnT.raise {W : World} {B B' g cap n : Nat} {D : Nat → Nd} {L : Nat → Loc} (h : OwnT W B g cap n D L) {X : Nat → Prop} (ha : Away X g n L) (hX : ∀ b, B ≤ b → ¬ X b → B' ≤ b) : OwnT W B' g cap n D L :=
  ⟨h.blk, hX _ h.base ha.row, h.room, h.most, h.cells, fun i hi => ⟨(h.lists i hi).1, fun b o x e => by have h1 := (h.lists i hi).2.1 b o x e; exact ⟨hX b h1.1 ((ha.lists i hi).1 b o x e), h1.2⟩, fun b o x e => by have h1 := (h.lists i hi).2.2 b o x e; exact ⟨hX b h1.1 ((ha.lists i hi).2 b o x e), h1.2⟩⟩⟩

/-- What is known within l2Some: its answer lies in block w.heap.size, t in block T. -/
structure SI (w : World) (T r : Nat) (a : Option Addr) (len cp : Nat) (zs : Nat → Int) (q g cap n m : Nat) (D : Nat → Nd) (L : Nat → Loc) (now : Int) (W : World) : Prop where
  rd : IsRd W r a len cp zs q
  res : Blk W w.heap.size #[.slice none 0 0, .int .i64 0] 25
  t : Blk W T #[.slice (some ⟨g, 0, none⟩) n cap, .int .i64 now] 25
  own : OwnT W (w.heap.size + 1) g cap n D L
  away : Away (fun b => b = T) g n L
  nice : Nice n m D
  above : w.heap.size < T
  grown : w.grownBy W (some r)
  rlt : r < w.heap.size
  kids : KidsOwn W n D L

/-- The blocks that l2Some keeps while l2Grow works. -/
def SX (w : World) (T r : Nat) : Nat → Prop := fun b => (b < w.heap.size + 1 ∧ b ≠ r) ∨ b = T

section
variable {w : World} {T r : Nat} {a : Option Addr} {len cp : Nat} {zs : Nat → Int} {q g cap n m : Nat} {D : Nat → Nd} {L : Nat → Loc} {now : Int} {W W' : World}

theorem SI.sx (h : SI w T r a len cp zs q g cap n m D L now W) : Away (SX w T r) g n L ∧ ∀ b, SX w T r b → b < W.heap.size ∧ b ≠ r := by
  have hb := h.own.base
  have hr : ¬ g = T := h.away.row
  have h1 := h.res.lt
  have h2 := h.t.lt
  have h3 := h.above
  have h4 := h.rlt
  refine ⟨⟨by unfold SX; omega, fun i hi => ⟨fun b o x e => ?_, fun b o x e => ?_⟩⟩, fun b hx => by unfold SX at hx; omega⟩
  · have := ((h.own.lists i hi).2.1 b o x e).1
    have : ¬ b = T := (h.away.lists i hi).1 b o x e
    unfold SX; omega
  · have := ((h.own.lists i hi).2.2 b o x e).1
    have : ¬ b = T := (h.away.lists i hi).2 b o x e
    unfold SX; omega

/-- The tree has grown, and is written into t. -/
theorem SI.grew (h : SI w T r a len cp zs q g cap n m D L now W) {g' cap' n' : Nat} {D' : Nat → Nd} {L' : Nat → Loc} (hg : Grew W (SX w T r) r a len cp zs q m now g' cap' n' D' L' W') :
    ∃ q', q' ≤ q + 20 ∧ SI w T r a len cp zs q' g' cap' n' (m + 1) D' L' (now + 1) ((W'.setCell ⟨T, 0, none⟩ (.slice (some ⟨g', 0, none⟩) n' cap')).setCell ⟨T, 1, none⟩ (.int .i64 (now + 1))) := by
  obtain ⟨q', hR, hq⟩ := hg.rd
  have h3 := h.above
  have h4 := h.rlt
  have h5 := h.grown.size
  have ha : Away (fun b => b = T) g' n' L' := ⟨fun e => hg.away.row (Or.inr e), fun i hi => ⟨fun b o x e e' => (hg.away.lists i hi).1 b o x e (Or.inr e'), fun b o x e e' => (hg.away.lists i hi).2 b o x e (Or.inr e')⟩⟩
  have ho : OwnT W' (w.heap.size + 1) g' cap' n' D' L' := hg.own.raise hg.away (fun b h1 h2 => by unfold SX at h2; omega)
  have hk : ∀ b, b < w.heap.size + 1 → b ≠ r → W'.heap[b]? = W.heap[b]? := fun b h1 h2 => hg.kept b (Or.inl ⟨h1, h2⟩)
  have hs : ∀ b, b ≠ T → ((W'.setCell ⟨T, 0, none⟩ (.slice (some ⟨g', 0, none⟩) n' cap')).setCell ⟨T, 1, none⟩ (.int .i64 (now + 1))).heap[b]? = W'.heap[b]? := fun b hb => (blk_setCell_other _ _ _ _ hb).trans (blk_setCell_other _ _ _ _ hb)
  refine ⟨q', hq, hR.kept (fun k hk => hs k (by omega)), (h.res.of_block (hk _ (by omega) (by omega))).of_block (hs _ (by omega)), ((h.t.of_block (hg.kept T (Or.inr rfl))).set 0 _).set 1 _, (ho.setOther ha rfl _ _).setOther ha rfl _ _, ha, hg.nice, h3, ⟨?_, ?_, ?_, ?_, fun k h1 h2 => (hs k (by omega)).trans ((hk k (by omega) (by simpa using h2)).trans (h.grown.block k h1 h2))⟩, h4, hg.kids.of_blocks (fun i hi b o x e => hs b (ha.lists i hi |>.2 b o x e))⟩
  · exact hg.bel.os.trans h.grown.os
  · exact hg.bel.tape.trans h.grown.tape
  · exact hg.bel.output.trans h.grown.output
  · have := hg.bel.size; simp [World.setCell]; omega

/-- The reader goes on. -/
theorem SI.read (h : SI w T r a len cp zs q g cap n m D L now W) (hg : W.grownBy W' (some r)) {q' : Nat} (hr : IsRd W' r a len cp zs q') : SI w T r a len cp zs q' g cap n m D L now W' := by
  have h3 := h.above
  have h4 := h.rlt
  have h5 := h.grown.size
  have h6 := h.res.lt
  have h7 := h.t.lt
  exact ⟨hr, h.res.of_block (hg.block _ h6 (by simp; omega)), h.t.of_block (hg.block _ h7 (by simp; omega)), h.own.grown hg (by omega), h.away, h.nice, h3, grown_trans h.grown hg, h4, h.kids.of_blocks (fun i hi b o x e => by have h1 := (h.own.lists i hi).2.2 b o x e; exact hg.block b (by omega) (by simp; omega))⟩
/-- .. and is written into the answer. -/
structure SEnd (w : World) (r : Nat) (a : Option Addr) (len cp : Nat) (zs : Nat → Int) (q g cap n : Nat) (D : Nat → Nd) (L : Nat → Loc) (now : Int) (W : World) : Prop where
  ans : Blk W w.heap.size #[.slice (some ⟨g, 0, none⟩) n cap, .int .i64 now] 25
  drew : Drew w r a len cp zs q g cap n D L W

theorem SI.fin (h : SI w T r a len cp zs q g cap n m D L now W) (hm : m ≤ 10) : SEnd w r a len cp zs q g cap n D L now ((W.setCell ⟨w.heap.size, 0, none⟩ (.slice (some ⟨g, 0, none⟩) n cap)).setCell ⟨w.heap.size, 1, none⟩ (.int .i64 now)) := by
  have h3 := h.above
  have h4 := h.rlt
  have h5 := h.grown.size
  have hb := h.own.base
  have ha : Away (fun b => b = w.heap.size) g n L := ⟨by omega, fun i hi => ⟨fun b o x e => by have := ((h.own.lists i hi).2.1 b o x e).1; omega, fun b o x e => by have := ((h.own.lists i hi).2.2 b o x e).1; omega⟩⟩
  have hs : ∀ b, b ≠ w.heap.size → ((W.setCell ⟨w.heap.size, 0, none⟩ (.slice (some ⟨g, 0, none⟩) n cap)).setCell ⟨w.heap.size, 1, none⟩ (.int .i64 now)).heap[b]? = W.heap[b]? := fun b hb => (blk_setCell_other _ _ _ _ hb).trans (blk_setCell_other _ _ _ _ hb)
  refine ⟨(h.res.set 0 _).set 1 _, h.rd.kept (fun k hk => hs k (by omega)), ((h.own.setOther ha rfl _ _).setOther ha rfl _ _).lower (by omega), h.nice.more hm, ⟨h.grown.os, h.grown.tape, h.grown.output, ?_, fun k h1 h2 => (hs k (by omega)).trans (h.grown.block k h1 h2)⟩, h.kids.of_blocks (fun i hi b o x e => hs b (ha.lists i hi |>.2 b o x e))⟩
  simp [World.setCell]; omega

/-- A new tree. -/
theorem root_own {b B : Nat} (h : Blk W b (rootCells now) 36) (hB : B ≤ b) : OwnT W B b 1 1 (fun _ => rootNd now) (fun _ => noLoc) := by
  refine ⟨⟨_, h, rfl⟩, hB, Nat.le_refl _, by unfold maxLen; omega, fun i hi => ?_, fun i hi => ⟨⟨Or.inl rfl, Or.inl rfl⟩, fun b o x e => by simp [noLoc] at e, fun b o x e => by simp [noLoc] at e⟩⟩
  have : i = 0 := by omega
  subst this
  exact ⟨h.cell 0, h.cell 1, h.cell 2, h.cell 3, h.cell 4⟩

theorem root_nice : Nice 1 1 (fun _ => rootNd 1) :=
  ⟨Nat.le_refl _, by omega, rfl, fun i hi => ⟨rfl, Nat.zero_le _, fun j hj => absurd hj (Nat.not_lt_zero _), fun j hj => absurd hj (Nat.not_lt_zero _), by simp [rootNd], by simp [rootNd], by simp [rootNd]⟩⟩

theorem SI.start {w1 : World} {b p : Nat} (hR : IsRd w1 r a len cp zs p) (hrl : r < w.heap.size) (hb : w.heap.size + 1 ≤ b) (hbel : Below (w.heap.size + 1) (w.alloc (.cells #[.slice none 0 0, .int .i64 0] 25)) w1) (hblk : Blk w1 b (rootCells 1) 36) :
    SI w w1.heap.size r a len cp zs p b 1 1 1 (fun _ => rootNd 1) (fun _ => noLoc) 1 (w1.alloc (.cells #[.slice (some ⟨b, 0, none⟩) 1 1, .int .i64 1] 25)) := by
  have hl := hblk.lt
  have hs := hbel.size
  have hs' : w.heap.size + 1 ≤ w1.heap.size := by simpa using hs
  refine ⟨hR.alloc _, ((Blk.new w _ _).below hbel (by omega)).alloc _, Blk.new w1 _ _, root_own (hblk.alloc _) hb, ⟨by omega, fun i hi => ⟨fun b o x e => by simp [noLoc] at e, fun b o x e => by simp [noLoc] at e⟩⟩, root_nice, by omega, ?_, hrl, ⟨fun i hi => Or.inl ⟨rfl, rfl, rfl⟩, fun i j hi hj e => apart_none _, fun i j hi hj => apart_none _⟩⟩
  exact ⟨hbel.os, hbel.tape, hbel.output, by simp; omega, fun k h1 h2 => ((blk_alloc_lt _ _ _ (by omega)).trans (hbel.block k (by omega))).trans (blk_alloc_lt _ _ _ h1)⟩
end

set_option maxRecDepth 100000 in
set_option maxHeartbeats 4000000 in
theorem l2Some_any (w : World) (r : Nat) (a : Option Addr) (len cp : Nat) (zs : Nat → Int) (p : Nat) (hR : IsRd w r a len cp zs p) (hp : p ≤ 500) :
    Calls Try.prog 32 #[.pointer (some ⟨r, 0, none⟩)] w fun e w' => ∃ g cap n D L now q, e = .returned (trV (some ⟨g, 0, none⟩) n cap now) ∧ 1 ≤ now ∧ now ≤ 9 ∧ q ≤ p + 200 ∧ Drew w r a len cp zs q g cap n D L w' := by
  have hrl := hR.lt
  go_enter Try.func32, Try.ntmps32
  go_wp2_with fail
  refine (specTreeNew_yes 1 _ (by omega) (by omega)).mono ?_
  rintro e w1 ⟨b, rfl, hb, hbel, hblk⟩
  unfold trV
  have HSI : Hid (SI w w1.heap.size r a len cp zs p b 1 1 1 (fun _ => rootNd 1) (fun _ => noLoc) 1 (w1.alloc (.cells #[.slice (some ⟨b, 0, none⟩) 1 1, .int .i64 1] 25))) := SI.start ((hR.alloc _).kept (fun k hk => hbel.block k (by simp; omega))) hrl (by simpa using hb) (by simpa using hbel) hblk
  clear hbel hblk
  go_wp2_with fail
  refine (pick_any _ r a len cp zs p 9 HSI.out.rd (by omega) (by omega) (by omega)).mono ?_
  rintro e w2 ⟨x, rfl, hx0, hx1, hg2, hR2⟩
  obtain ⟨x, rfl⟩ := Int.eq_ofNat_of_zero_le hx0
  have HS2 : Hid _ := HSI.out.read hg2 hR2
  clear hg2 hR2 HSI hx0
  obtain ⟨T, hT⟩ : ∃ T, T = w1.heap.size := ⟨_, rfl⟩
  rw [← hT] at HS2 ⊢
  clear hT
  go_wp2
  go_loopw [4] (fun i wr => ∃ (j k q g cap n : Nat) (D : Nat → Nd) (L : Nat → Loc), j + k ≤ 8 ∧ i = .int .i64 j ∧ SI w T r a len cp zs q g cap n (1 + k) D L (1 + (k : Int)) wr ∧ q ≤ p + 1 + 20 * k) (fun i _ => (intOf i).toNat)
  case atStart => exact ⟨x, 0, _, _, _, _, _, _, by omega, rfl, HS2.out, by omega⟩
  case round =>
    obtain ⟨j, k, q, g, cap, n, D, L, hj, rfl, hin, hq⟩ := hrel
    clear HS2
    have t0 : wr.cell? ⟨T, 0, none⟩ = some (.slice (some ⟨g, 0, none⟩) n cap) := hin.t.cell 0
    have t1 : wr.cell? ⟨T, 1, none⟩ = some (.int .i64 (1 + (k : Int))) := hin.t.cell 1
    have HIN : Hid _ := hin
    by_cases hj0 : 0 < j
    · have hd : decide ((0 : Int) < j) = true := by simp; omega
      clear hin
      go_wp2_with fail
      refine (l2Grow_any wr (SX w T r) r a len cp zs q g cap n (1 + k) D L (1 + (k : Int)) HIN.out.rd (by omega) (HIN.out.own.lower (by omega)) HIN.out.sx.1 HIN.out.sx.2 HIN.out.kids HIN.out.nice (by omega) (by omega) (by omega)).mono ?_
      rintro e w3 ⟨g', cap', n', D', L', rfl, hgr⟩
      obtain ⟨q', hq', hS⟩ := HIN.out.grew hgr
      have hb3 : Blk w3 T #[.slice (some ⟨g, 0, none⟩) n cap, .int .i64 (1 + (k : Int))] 25 := HIN.out.t.of_block (hgr.kept T (Or.inr rfl))
      have T0 : w3.cell? ⟨T, 0, none⟩ = some (.slice (some ⟨g, 0, none⟩) n cap) := hb3.cell 0
      have T1 : w3.cell? ⟨T, 1, none⟩ = some (.int .i64 (1 + (k : Int))) := hb3.cell 1
      have F0 := hb3.frozen 0
      have F1 := hb3.frozen 1
      have HS : Hid _ := hS
      unfold trV
      clear hb3 hgr hS HIN t0 t1
      go_wp2
      go_roundw
      case rel =>
        have e : (1 + (k : Int) + 1) = 1 + ((k + 1 : Nat) : Int) := by omega
        have e2 : 1 + k + 1 = 1 + (k + 1) := by omega
        have h := HS.out
        rw [e2] at h
        refine ⟨j - 1, k + 1, q', g', cap', n', D', L', by omega, by first | go_num | (congr 1; omega), ?_, by omega⟩
        rw [← e]
        exact h
      case measure => simp [intOf]; omega
    · have hd : decide ((0 : Int) < j) = false := by simp; omega
      have rs0 : wr.cell? ⟨w.heap.size, 0, none⟩ = some (.slice none 0 0) := hin.res.cell 0
      have rs1 : wr.cell? ⟨w.heap.size, 1, none⟩ = some (.int .i64 0) := hin.res.cell 1
      have rf0 := hin.res.frozen 0
      have rf1 := hin.res.frozen 1
      have HE : Hid _ := hin.fin (by omega)
      clear hin
      go_wp2
      refine end_world (F := SEnd w r a len cp zs q g cap n D L (1 + (k : Int))) HE.out ?_
      clear HE t0 t1 rs0 rs1 rf0 rf1 HIN
      rintro WF ⟨hr, hgr⟩
      have r0 := hr.cell 0
      have r1 := hr.cell 1
      simp at r0 r1
      exact bodyPost_ret (v := .agg #[.slice (some ⟨g, 0, none⟩) n cap, .int .i64 (1 + (k : Int))]) (by simp [results, Try.results32, go_sem, r0, r1]) rfl ⟨g, cap, n, D, L, 1 + (k : Int), q, rfl, by omega, by omega, by omega, hgr⟩
end Go.Proofs.Ytlikmphjocjmeaa

/-
  How a code that is handed in is opened: its bytes lie in memory from its address on.
-/
namespace Go.Proofs.Ytlikmphjocjmeaa
open Go.ChangeShapes Go.WideShapes Go.ChangeAt Go.RowKit

theorem own : ownKnob Try.prog.godebug = none := by kernel_rfl
theorem laidOut : laidOutB Try.prog = true := by kernel_rfl
theorem cellsU8 : Try.prog.cellsOf 5 = 1 := by kernel_rfl

theorem lt_of_cell {w : World} {b o : Nat} {v : Value} (h : w.cell? ⟨b, o, none⟩ = some v) : b < w.heap.size := by
  simp only [World.cell?] at h
  by_cases hb : b < w.heap.size
  · exact hb
  · rw [Array.getElem?_eq_none (by omega)] at h
    simp at h

theorem openCode {H : Type} {enc : TypeId × Value → H} {W : World} {a : Option Addr} {n cap : Nat} {d : DataW H} {p : List MemPlace}
    (h : DataW.Trod enc Try.prog W 0 (fun _ => true) true 22 (.slice a n cap) d p) : ∃ zs : Nat → Int, IsCode W a n zs ∧ n ≤ maxLen ∧ n ≤ cap := by
  obtain ⟨fuel, hf⟩ := h
  rcases open_ints Try.underlying22 Try.underlying5 cellsU8 hf with ⟨hcs, _⟩ | ⟨x, l, c, zs, hcs, _, hl, hm, hz, _, hcell, hwz⟩
  · simp [Value.cells] at hcs
    obtain ⟨rfl, rfl, rfl⟩ := hcs
    exact ⟨fun _ => 0, Or.inl rfl, by unfold maxLen; omega, by omega⟩
  · simp [Value.cells] at hcs
    obtain ⟨rfl, rfl, rfl⟩ := hcs
    simp at hz
    obtain ⟨b, off, spot⟩ := x
    refine ⟨fun i => zs.getD i 0, ?_, by omega, hl⟩
    by_cases h0 : n = 0
    · exact Or.inl h0
    · have h00 := hcell 0 (by omega)
      have hspot : spot = none := by simpa [Addr.add] using World.cell?_spot h00
      subst hspot
      refine Or.inr ⟨b, off, rfl, lt_of_cell (by simpa [Addr.add] using h00), fun i hi => ?_⟩
      have hci := hcell i (by omega)
      rw [add_plain] at hci
      refine ⟨hci, u8_bounds ?_⟩
      show (Lit.int .u8 (zs.getD i 0)).wf = true
      rw [List.getD_eq_getElem?_getD, List.getElem?_eq_getElem (by omega)]
      exact hwz _ (List.getElem_mem _)
end Go.Proofs.Ytlikmphjocjmeaa

/-
  What DrawTreeNew gives: one of six numbers.
-/
namespace Go.Proofs.Ytlikmphjocjmeaa
open Go.RowKit
set_option linter.unusedVariables false

set_option maxHeartbeats 400000 in
theorem num_any (w : World) (r : Nat) (a : Option Addr) (len cap : Nat) (zs : Nat → Int) (p : Nat) (hR : IsRd w r a len cap zs p) (hp : p ≤ 1000000)
    (b off m c : Nat) (S : Nat → Int) (hb : b ≠ r) (hm : 1 ≤ m) (hm2 : m ≤ 1000) (hc : ∀ i, i < m → w.cell? ⟨b, off + i, none⟩ = some (.int .i64 (S i))) :
    Calls Try.prog 18 #[.pointer (some ⟨r, 0, none⟩), .slice (some ⟨b, off, none⟩) m c] w fun e w' => ∃ i, i < m ∧ e = .returned (.int .i64 (S i)) ∧ w.grownBy w' (some r) ∧ IsRd w' r a len cap zs (p + 1) := by
  go_enter Try.func18, Try.ntmps18
  go_wp2_with fail
  refine (pick_any w r a len cap zs p m hR hp (by omega) (by omega)).mono ?_
  rintro e w1 ⟨x, rfl, hx0, hx1, hg, hR1⟩
  obtain ⟨i, rfl⟩ := Int.eq_ofNat_of_zero_le hx0
  have hi : i < m := by omega
  have hci : w1.cell? ⟨b, off + i, none⟩ = some (.int .i64 (S i)) := hg.cell (hc i hi) (by simp; exact hb)
  have HG : Hid (w.grownBy w1 (some r)) := hg
  have HR : Hid (IsRd w1 r a len cap zs (p + 1)) := hR1
  clear hc hg hR1 hR
  go_wp2
  go_ret
  exact ⟨i, hi, rfl, HG.out, HR.out⟩

def six6 : List Int := [1, 7, 1000, 0, -1, 1001]

set_option maxHeartbeats 400000 in
theorem drawTreeNew_any (w : World) (a : Option Addr) (len cap : Nat) (zs : Nat → Int) (hc : IsCode w a len zs) (hlen : len ≤ maxLen) (hcap : len ≤ cap) :
    Calls Try.prog 6 #[.slice a len cap] w fun e w' => ∃ z : Int, e = .returned (.int .i64 z) ∧ -1 ≤ z ∧ z ≤ 1001 ∧ Below w.heap.size w w' := by
  go_enter Try.func6, Try.ntmps6
  go_wp2_with fail
  refine (l11Open_any w a len cap zs hlen hcap hc).mono ?_
  rintro e w1 ⟨rfl, hb, len', hR⟩
  have hlt := hR.lt
  have HB : Hid (Below w.heap.size w w1) := hb
  clear hb
  go_wp2_with fail
  have H6 : ∀ i, i < 6 → (w1.alloc (.cells #[.int .i64 1, .int .i64 7, .int .i64 1000, .int .i64 0, .int .i64 (-1), .int .i64 1001] 3)).cell? ⟨w1.heap.size, 0 + i, none⟩ = some (.int .i64 (six6.getD i 0)) := fun i hi => by
    simp only [World.cell?, new_block]
    match i, hi with
    | 0, _ => rfl
    | 1, _ => rfl
    | 2, _ => rfl
    | 3, _ => rfl
    | 4, _ => rfl
    | 5, _ => rfl
  refine (num_any _ w.heap.size a len' cap zs 0 (hR.alloc _) (by omega) w1.heap.size 0 6 6 (fun i => six6.getD i 0) (by omega) (by omega) (by omega) H6).mono ?_
  rintro e w2 ⟨i, hi6, rfl, hg, hR2⟩
  have hz : -1 ≤ six6.getD i 0 ∧ six6.getD i 0 ≤ 1001 := by
    match i, hi6 with
    | 0, _ => exact ⟨by decide, by decide⟩
    | 1, _ => exact ⟨by decide, by decide⟩
    | 2, _ => exact ⟨by decide, by decide⟩
    | 3, _ => exact ⟨by decide, by decide⟩
    | 4, _ => exact ⟨by decide, by decide⟩
    | 5, _ => exact ⟨by decide, by decide⟩
  generalize six6.getD i 0 = z at hz ⊢
  have HB2 : Hid (Below w.heap.size w w2) := below_grown (HB.out.alloc HB.out.size _) (Nat.le_refl _) hg
  clear hg hR2 H6 hR HB
  go_wp2
  go_ret
  exact ⟨z, rfl, hz.1, hz.2, HB2.out⟩
end Go.Proofs.Ytlikmphjocjmeaa

/-
  What is known within l2Bent, and what its steps leave. Plain facts.
-/
namespace Go.Proofs.Ytlikmphjocjmeaa
open Go.RowKit Go.Deep
set_option linter.unusedVariables false

/-- A place of a drawn tree, bent or not. -/
structure FairNd (d : Nd) : Prop where
  nn : d.nn ≤ 11
  kn : d.kn ≤ 11
  names : ∀ j, j < d.nn → Nm (d.names j)
  kids : ∀ j, j < d.kn → 0 ≤ d.kids j ∧ d.kids j ≤ 99
  text : d.text.size ≤ 10
  kind : 0 ≤ d.kind ∧ d.kind ≤ 3
  turn : -1 ≤ d.turn ∧ d.turn ≤ 1001

/-- A drawn tree, bent or not. -/
structure Fair (n : Nat) (D : Nat → Nd) : Prop where
  some : 1 ≤ n
  few : n ≤ 11
  each : ∀ i, i < n → FairNd (D i)

theorem FairNd.fits {d : Nd} (h : FairNd d) : d.Fits := by
  have h1 := h.nn
  have h2 := h.kn
  have h3 := h.text
  have h4 := h.kind
  have h5 := h.turn
  refine ⟨⟨by omega, by omega⟩, ⟨by omega, by omega⟩, by unfold maxLen; omega, fun i hi => by have := (h.names i hi).size; unfold maxLen; omega, by unfold maxLen; omega, by unfold maxLen; omega, fun i hi => by have := h.kids i hi; exact ⟨by omega, by omega⟩⟩

theorem Fair.fits {n : Nat} {D : Nat → Nd} (h : Fair n D) : FitAll n D := fun i hi => (h.each i hi).fits

theorem NiceNd.fair {n m : Nat} {d : Nd} (h : NiceNd n m d) (hn : n ≤ 10) (hm : m ≤ 10) : FairNd d := by
  have h1 := h.same
  have h2 := h.few
  have h3 := h.kind
  have h4 := h.turn
  exact ⟨by omega, by omega, h.short, fun j hj => by have := h.kids j (by omega); omega, h.text, by omega, by omega⟩

theorem Nice.fair {n m : Nat} {D : Nat → Nd} (h : Nice n m D) (hm : m ≤ 10) : Fair n D := ⟨h.some, by have := h.few; omega, fun i hi => (h.each i hi).fair h.few hm⟩

theorem Fair.put {n : Nat} {D : Nat → Nd} (h : Fair n D) {i : Nat} {d : Nd} (hd : FairNd d) : Fair n (putNd D i d) :=
  ⟨h.some, h.few, fun j hj => by
    by_cases e : j = i
    · subst e; rw [putNd_same]; exact hd
    · rw [putNd_ne D d e]; exact h.each j hj⟩

theorem Fair.app {n : Nat} {D : Nat → Nd} (h : Fair n D) (hn : n ≤ 10) {d : Nd} (hd : FairNd d) : Fair (n + 1) (putNd D n d) :=
  ⟨by omega, by omega, fun j hj => by
    by_cases e : j = n
    · subst e; rw [putNd_same]; exact hd
    · rw [putNd_ne D d e]; exact h.each j (by omega)⟩

theorem leaf_fair : FairNd (leafNd 1 1) := ⟨Nat.zero_le _, Nat.zero_le _, fun j hj => absurd hj (Nat.not_lt_zero _), fun j hj => absurd hj (Nat.not_lt_zero _), by simp [leafNd], by simp [leafNd], by simp [leafNd]⟩

theorem with_fair {d : Nd} {NL : List ByteArray} {KL : List Int} (h : FairNd d) (hn : d.nn ≤ 10) (hw : WL (fun z => 0 ≤ z ∧ z ≤ 99) d.nn true NL KL) : FairNd (withNd d NL KL) := by
  have h1 := hw.len
  have h2 := hw.same
  simp at h1
  refine ⟨by show NL.length ≤ 11; omega, by show KL.length ≤ 11; omega, fun j hj => ?_, fun j hj => ?_, by show ByteArray.empty.size ≤ 10; simp, h.kind, h.turn⟩
  · have hj' : j < NL.length := hj
    have : (withNd d NL KL).names j = NL[j] := by simp [withNd, hj']
    rw [this]
    exact hw.short _ (List.getElem_mem hj')
  · have hj' : j < KL.length := hj
    have : (withNd d NL KL).kids j = KL[j] := by simp [withNd, hj']
    rw [this]
    exact hw.right _ (List.getElem_mem hj')

/-- A place with one of Kids more. -/
def kidNd (d : Nd) (z : Int) : Nd := { d with kn := d.kn + 1, kids := fun j => if j < d.kn then d.kids j else z }

theorem kid_fair {d : Nd} {z : Int} (h : FairNd d) (hk : d.kn ≤ 10) (h0 : 0 ≤ z) (h1 : z ≤ 99) : FairNd (kidNd d z) :=
  ⟨h.nn, by show d.kn + 1 ≤ 11; omega, h.names, fun j hj => by
    by_cases e : j < d.kn
    · have : (kidNd d z).kids j = d.kids j := by simp [kidNd, e]
      rw [this]; exact h.kids j e
    · have : (kidNd d z).kids j = z := by simp [kidNd, e]
      rw [this]; exact ⟨h0, h1⟩, h.text, h.kind, h.turn⟩

/-- What is known within l2Bent: its answer lies in block w.heap.size, t in block T. -/
structure BI (w : World) (T r : Nat) (a : Option Addr) (len cp : Nat) (zs : Nat → Int) (q g cap n : Nat) (D : Nat → Nd) (L : Nat → Loc) (now : Int) (W : World) : Prop where
  rd : IsRd W r a len cp zs q
  res : Blk W w.heap.size #[.slice none 0 0, .int .i64 0] 25
  t : Blk W T #[.slice (some ⟨g, 0, none⟩) n cap, .int .i64 now] 25
  own : OwnT W (w.heap.size + 1) g cap n D L
  away : Away (fun b => b = T) g n L
  above : w.heap.size < T
  grown : w.grownBy W (some r)
  rlt : r < w.heap.size

/-- A tree has been drawn, bent or not. -/
structure BentD (w : World) (r : Nat) (a : Option Addr) (len cp : Nat) (zs : Nat → Int) (q g cap n : Nat) (D : Nat → Nd) (L : Nat → Loc) (W : World) : Prop where
  rd : IsRd W r a len cp zs q
  own : OwnT W w.heap.size g cap n D L
  fair : Fair n D
  grown : w.grownBy W (some r)

/-- .. and is written into the answer. -/
structure BEnd (w : World) (r : Nat) (a : Option Addr) (len cp : Nat) (zs : Nat → Int) (q g cap n : Nat) (D : Nat → Nd) (L : Nat → Loc) (now : Int) (W : World) : Prop where
  ans : Blk W w.heap.size #[.slice (some ⟨g, 0, none⟩) n cap, .int .i64 now] 25
  drew : BentD w r a len cp zs q g cap n D L W

section
variable {w : World} {T r : Nat} {a : Option Addr} {len cp : Nat} {zs : Nat → Int} {q g cap n m : Nat} {D D' : Nat → Nd} {L L' : Nat → Loc} {now : Int} {W W' : World}

theorem BI.base (h : BI w T r a len cp zs q g cap n D L now W) : w.heap.size + 1 ≤ g ∧ g ≠ T ∧ w.heap.size < W.heap.size := ⟨h.own.base, h.away.row, h.res.lt⟩

theorem BI.start {w1 : World} {p : Nat} (hd : Drew (w.alloc (.cells #[.slice none 0 0, .int .i64 0] 25)) r a len cp zs q g cap n D L w1) (hrl : r < w.heap.size) :
    BI w w1.heap.size r a len cp zs q g cap n D L now (w1.alloc (.cells #[.slice (some ⟨g, 0, none⟩) n cap, .int .i64 now] 25)) := by
  have hs := hd.grown.size
  have hs' : w.heap.size + 1 ≤ w1.heap.size := by simpa using hs
  have ho := hd.own
  have e : (w.alloc (.cells #[.slice none 0 0, .int .i64 0] 25)).heap.size = w.heap.size + 1 := by simp
  rw [e] at ho
  have hl := ho.lt
  refine ⟨hd.rd.alloc _, ((Blk.new w _ _).of_block (hd.grown.block _ (by simp) (by simp; omega))).alloc _, Blk.new w1 _ _, ho.below ((Below.refl _ _).alloc (Nat.le_refl _) _), ⟨by omega, fun i hi => ⟨fun b o x e => by have := ((ho.lists i hi).2.1 b o x e).2.2; omega, fun b o x e => by have := ((ho.lists i hi).2.2 b o x e).2.2; omega⟩⟩, by omega, ?_, hrl⟩
  exact ⟨hd.grown.os, hd.grown.tape, hd.grown.output, by simp; omega, fun k h1 h2 => ((blk_alloc_lt _ _ _ (by omega)).trans (hd.grown.block k (by simp; omega) h2)).trans (blk_alloc_lt _ _ _ h1)⟩

theorem Drew.kids2 {w0 w1 : World} (hd : Drew w0 r a len cp zs q g cap n D L w1) (o : Obj) : KidsOwn (w1.alloc o) n D L :=
  hd.kids.of_blocks (fun i hi b o' x e => blk_alloc_lt _ _ _ ((hd.own.lists i hi).2.2 b o' x e).2.2)

/-- The reader goes on. -/
theorem BI.read (h : BI w T r a len cp zs q g cap n D L now W) (hg : W.grownBy W' (some r)) {q' : Nat} (hr : IsRd W' r a len cp zs q') : BI w T r a len cp zs q' g cap n D L now W' := by
  have h3 := h.above
  have h4 := h.rlt
  have h5 := h.grown.size
  have h6 := h.res.lt
  have h7 := h.t.lt
  exact ⟨hr, h.res.of_block (hg.block _ h6 (by simp; omega)), h.t.of_block (hg.block _ h7 (by simp; omega)), h.own.grown hg (by omega), h.away, h3, grown_trans h.grown hg, h4⟩

theorem BI.readKids (h : BI w T r a len cp zs q g cap n D L now W) (hk : KidsOwn W n D L) (hg : W.grownBy W' (some r)) : KidsOwn W' n D L :=
  hk.of_blocks (fun i hi b o x e => by have h1 := (h.own.lists i hi).2.2 b o x e; have h2 := h.rlt; exact hg.block b (by omega) (by simp; omega))

/-- Nothing that was there turns. -/
theorem BI.below (h : BI w T r a len cp zs q g cap n D L now W) (hb : Below W.heap.size W W') : BI w T r a len cp zs q g cap n D L now W' := by
  have h4 := h.rlt
  have h5 := h.grown.size
  have hs := hb.size
  exact ⟨h.rd.kept (fun k hk => hb.block k (by omega)), h.res.below hb h.res.lt, h.t.below hb h.t.lt, h.own.below hb, h.away, h.above, ⟨hb.os.trans h.grown.os, hb.tape.trans h.grown.tape, hb.output.trans h.grown.output, by omega, fun k h1 h2 => (hb.block k (by omega)).trans (h.grown.block k h1 h2)⟩, h.rlt⟩
theorem BI.drew (h : BI w T r a len cp zs q g cap n D L now W) (k : Nat) : BI w T r a len cp zs q g cap n D L now (W.drewN k) := h.below (below_drewN (Below.refl _ _) k)
theorem BI.alloc (h : BI w T r a len cp zs q g cap n D L now W) (o : Obj) : BI w T r a len cp zs q g cap n D L now (W.alloc o) := h.below ((Below.refl _ _).alloc (Nat.le_refl _) _)
theorem BI.belowKids (h : BI w T r a len cp zs q g cap n D L now W) (hk : KidsOwn W n D L) (hb : Below W.heap.size W W') : KidsOwn W' n D L :=
  hk.of_blocks (fun i hi b o x e => hb.block b ((h.own.lists i hi).2.2 b o x e).2.2)

theorem grown_put {w W : World} {r b k : Nat} {v : Value} (h : w.grownBy W (some r)) (hb : w.heap.size ≤ b) : w.grownBy (W.setCell ⟨b, k, none⟩ v) (some r) :=
  ⟨h.os, h.tape, h.output, by have := h.size; simpa [World.setCell] using this, fun j h1 h2 => (blk_setCell_other _ _ _ _ (by show j ≠ b; omega)).trans (h.block j h1 h2)⟩

/-- Some block of one's own is written, and nothing else. -/
theorem BI.grownSet (h : BI w T r a len cp zs q g cap n D L now W) {b k : Nat} {v : Value} (hb : w.heap.size ≤ b) : w.grownBy (W.setCell ⟨b, k, none⟩ v) (some r) :=
  ⟨h.grown.os, h.grown.tape, h.grown.output, by have := h.grown.size; simpa [World.setCell] using this, fun j h1 h2 => (blk_setCell_other _ _ _ _ (by show j ≠ b; omega)).trans (h.grown.block j h1 h2)⟩

/-- Now is written. -/
theorem BI.setNow (h : BI w T r a len cp zs q g cap n D L now W) (z : Int) : BI w T r a len cp zs q g cap n D L z (W.setCell ⟨T, 1, none⟩ (.int .i64 z)) := by
  have h3 := h.above
  have h4 := h.rlt
  exact ⟨h.rd.kept (fun k hk => blk_setCell_other _ _ _ _ (by show k ≠ T; omega)), h.res.off _ (by omega), h.t.set 1 _, h.own.setOther h.away rfl _ _, h.away, h3, h.grownSet (by omega), h4⟩

/-- A cell of the row is written. -/
theorem BI.put (h : BI w T r a len cp zs q g cap n D L now W) {k : Nat} {v : Value} (ho : OwnT (W.setCell ⟨g, k, none⟩ v) (w.heap.size + 1) g cap n D' L) : BI w T r a len cp zs q g cap n D' L now (W.setCell ⟨g, k, none⟩ v) := by
  have h3 := h.above
  have h4 := h.rlt
  have hb := h.base
  exact ⟨h.rd.kept (fun k hk => blk_setCell_other _ _ _ _ (by show k ≠ g; omega)), h.res.off _ (by omega), h.t.off _ (by omega), ho, h.away, h3, h.grownSet (by omega), h4⟩

/-- A place is written whole. -/
theorem BI.putNode (h : BI w T r a len cp zs q g cap n D L now W) {i : Nat} (hi : i < n) (d : Nd) (l : Loc) (hd : NdIn W d l) (hn : ∀ b o x, l.nA = some ⟨b, o, x⟩ → w.heap.size + 1 ≤ b ∧ b ≠ g ∧ b ≠ T ∧ b < W.heap.size) (hk : ∀ b o x, l.kA = some ⟨b, o, x⟩ → w.heap.size + 1 ≤ b ∧ b ≠ g ∧ b ≠ T ∧ b < W.heap.size) :
    BI w T r a len cp zs q g cap n (putNd D i d) (putLoc L i l) now (((((W.setCell ⟨g, i * 5, none⟩ (.int .i64 d.kind)).setCell ⟨g, i * 5 + 1, none⟩ (.string d.text)).setCell ⟨g, i * 5 + 2, none⟩ (.slice l.nA d.nn l.nc)).setCell ⟨g, i * 5 + 3, none⟩ (.slice l.kA d.kn l.kc)).setCell ⟨g, i * 5 + 4, none⟩ (.int .i64 d.turn)) := by
  have h3 := h.above
  have h4 := h.rlt
  have hb := h.base
  have ho := h.own.setNode hi d l hd (fun b o x e => by have := hn b o x e; omega) (fun b o x e => by have := hk b o x e; omega)
  have oth : ∀ (X : World) (k : Nat) (v : Value) (b : Nat), b ≠ g → (X.setCell ⟨g, k, none⟩ v).heap[b]? = X.heap[b]? := fun X k v b hb => blk_setCell_other _ _ _ _ hb
  have all : ∀ b, b ≠ g → (((((W.setCell ⟨g, i * 5, none⟩ (.int .i64 d.kind)).setCell ⟨g, i * 5 + 1, none⟩ (.string d.text)).setCell ⟨g, i * 5 + 2, none⟩ (.slice l.nA d.nn l.nc)).setCell ⟨g, i * 5 + 3, none⟩ (.slice l.kA d.kn l.kc)).setCell ⟨g, i * 5 + 4, none⟩ (.int .i64 d.turn)).heap[b]? = W.heap[b]? := fun b hb => by
    rw [oth _ _ _ b hb, oth _ _ _ b hb, oth _ _ _ b hb, oth _ _ _ b hb, oth _ _ _ b hb]
  refine ⟨h.rd.kept (fun j hj => all j (by omega)), h.res.of_block (all _ (by omega)), h.t.of_block (all _ (by omega)), ho, ⟨h.away.row, fun j hj => ?_⟩, h3, grown_put (grown_put (grown_put (grown_put (grown_put h.grown (by omega)) (by omega)) (by omega)) (by omega)) (by omega), h4⟩
  by_cases e : j = i
  · subst e
    simp only [putLoc, if_true]
    exact ⟨fun b o x e => by have := hn b o x e; omega, fun b o x e => by have := hk b o x e; omega⟩
  · simp only [putLoc, if_neg e]
    exact h.away.lists j hj

/-- A place is appended, and t.Nodes written. -/
theorem BI.append (h : BI w T r a len cp zs q g cap n D L now W) {cur : Array Value} (hc : W.heap[g]? = some (.cells cur 36 (0, 0))) (hs : cur.size = cap * 5) {g' cap' : Nat} {k z : Int}
    (hown : W'.ownsRow (w.heap.size + 1) 36 5 (.slice (some ⟨g', 0, none⟩) (n + 1) cap') (n + 1) (cur.toList.take (n * 5) ++ leafCells k z)) (hgrow : W.grownBy W' (some g)) (hat : g = g' ∨ W.heap.size ≤ g') :
    BI w T r a len cp zs q g' cap' (n + 1) (putNd D n (leafNd k z)) (putLoc L n loc00) now (W'.setCell ⟨T, 0, none⟩ (.slice (some ⟨g', 0, none⟩) (n + 1) cap')) := by
  have h3 := h.above
  have h4 := h.rlt
  have hb := h.base
  have h5 := h.t.lt
  have h6 := h.grown.size
  have ho := h.own.appL hc hs hown hgrow hat
  have ha : Away (fun b => b = T) g' (n + 1) (putLoc L n loc00) := by
    refine ⟨by rcases hat with rfl | hat <;> omega, fun j hj => ?_⟩
    by_cases e : j = n
    · subst e
      simp only [putLoc, if_true]
      exact ⟨fun b o x e => by simp [loc00] at e, fun b o x e => by simp [loc00] at e⟩
    · simp only [putLoc, if_neg e]
      exact h.away.lists j (by omega)
  have hblk : ∀ b, b < W.heap.size → b ≠ g → W'.heap[b]? = W.heap[b]? := fun b h1 h2 => hgrow.block b h1 (by simpa using h2)
  refine ⟨h.rd.kept (fun j hj => (blk_setCell_other _ _ _ _ (by show j ≠ T; omega)).trans (hblk j (by omega) (by omega))), (h.res.of_block (hblk _ (by omega) (by omega))).off _ (by omega), (h.t.of_block (hblk _ (by omega) (by omega))).set 0 _, ho.setOther ha rfl _ _, ha, h3, ?_, h4⟩
  exact ⟨hgrow.os.trans h.grown.os, hgrow.tape.trans h.grown.tape, hgrow.output.trans h.grown.output, by have := hgrow.size; simp [World.setCell]; omega, fun j h1 h2 => (blk_setCell_other _ _ _ _ (by show j ≠ T; omega)).trans ((hblk j (by omega) (by omega)).trans (h.grown.block j h1 h2))⟩

/-- A cell of the row is written, in a world where lists have changed. -/
theorem OwnT.setIn {B : Nat} (h : OwnT W B g cap n D L) (hgb : W'.heap[g]? = W.heap[g]?) {k : Nat} {v : Value}
    (hc : ∀ i, i < n → (if i * 5 = k then some v else W.cell? ⟨g, i * 5, none⟩) = some (.int .i64 (D' i).kind) ∧ (if i * 5 + 1 = k then some v else W.cell? ⟨g, i * 5 + 1, none⟩) = some (.string (D' i).text) ∧
      (if i * 5 + 2 = k then some v else W.cell? ⟨g, i * 5 + 2, none⟩) = some (.slice (L' i).nA (D' i).nn (L' i).nc) ∧ (if i * 5 + 3 = k then some v else W.cell? ⟨g, i * 5 + 3, none⟩) = some (.slice (L' i).kA (D' i).kn (L' i).kc) ∧ (if i * 5 + 4 = k then some v else W.cell? ⟨g, i * 5 + 4, none⟩) = some (.int .i64 (D' i).turn))
    (hl : ∀ i, i < n → NdIn W' (D' i) (L' i) ∧ Off W' B g (L' i).nA ∧ Off W' B g (L' i).kA) : OwnT (W'.setCell ⟨g, k, none⟩ v) B g cap n D' L' := by
  obtain ⟨cur, hb0, hcs⟩ := h.blk
  have hb : W'.heap[g]? = some (.cells cur 36 (0, 0)) := hgb.trans hb0
  have hs : (W'.setCell ⟨g, k, none⟩ v).heap.size = W'.heap.size := by simp [World.setCell]
  have hcell : ∀ j, j < cap * 5 → (W'.setCell ⟨g, k, none⟩ v).cell? ⟨g, j, none⟩ = if j = k then some v else W.cell? ⟨g, j, none⟩ := fun j hj => by
    have hset : (W'.setCell ⟨g, k, none⟩ v).heap[g]? = some (.cells (cur.setIfInBounds k v) 36 (0, 0)) := by simp [World.setCell, Array.getElem?_modify, hb]
    simp only [World.cell?, hset, hb0]
    by_cases e : j = k
    · subst e; simp [hcs, hj]
    · simp [e, Ne.symm e]
  have hoth : ∀ b, b ≠ g → (W'.setCell ⟨g, k, none⟩ v).heap[b]? = W'.heap[b]? := fun b hbg => blk_setCell_other _ _ _ _ hbg
  have hroom := h.room
  refine ⟨⟨cur.setIfInBounds k v, by simp [World.setCell, Array.getElem?_modify, hb], by simp [hcs]⟩, h.base, h.room, h.most, fun i hi => ?_, fun i hi => ?_⟩
  · rw [hcell _ (by omega), hcell _ (by omega), hcell _ (by omega), hcell _ (by omega), hcell _ (by omega)]
    exact hc i hi
  · obtain ⟨⟨h1, h2⟩, h3, h4⟩ := hl i hi
    exact ⟨⟨h1.of_blocks (by omega) (fun b o x e => hoth b (h3 b o x e).2.1), h2.of_blocks (by omega) (fun b o x e => hoth b (h4 b o x e).2.1)⟩, h3.grow (by omega), h4.grow (by omega)⟩

/-- One of Kids is appended, and written. -/
theorem BI.kidApp (h : BI w T r a len cp zs q g cap n D L now W) (hk : KidsOwn W n D L) {i : Nat} (hi : i < n) {z : Int} {g' c' : Nat}
    (hown : W'.ownsRow (w.heap.size + 1) 3 1 (.slice (some ⟨g', 0, none⟩) ((D i).kn + 1) c') ((D i).kn + 1) (intv ((List.range (D i).kn).map (D i).kids) ++ intv [z])) (hgrow : W.grownBy W' (Value.slice (L i).kA (D i).kn (L i).kc).ownBlock) (hat : (Value.slice (L i).kA (D i).kn (L i).kc).ownBlock = some g' ∨ W.heap.size ≤ g') :
    BI w T r a len cp zs q g cap n (putNd D i (kidNd (D i) z)) (putLoc L i { L i with kA := some ⟨g', 0, none⟩, kc := c' }) now (W'.setCell ⟨g, i * 5 + 3, none⟩ (.slice (some ⟨g', 0, none⟩) ((D i).kn + 1) c')) := by
  have h3 := h.above
  have h4 := h.rlt
  have hb := h.base
  have h5 := h.t.lt
  have h6 := h.grown.size
  have h7 := h.own.lt
  have hob : ∀ b, (Value.slice (L i).kA (D i).kn (L i).kc).ownBlock = some b → ∃ o x, (L i).kA = some ⟨b, o, x⟩ := fun b e => by
    rcases hk.room i hi with ⟨e1, e2, e3⟩ | ⟨b', cur, e1, _⟩
    · rw [e1, e2, e3] at e; simp [Value.ownBlock] at e
    · rw [e1] at e; simp [Value.ownBlock] at e; subst e; exact ⟨0, none, e1⟩
  have hblk : ∀ b, b < W.heap.size → (∀ o x, (L i).kA ≠ some ⟨b, o, x⟩) → W'.heap[b]? = W.heap[b]? := fun b h1 h2 => hgrow.block b h1 (fun e => by obtain ⟨o, x, e'⟩ := hob b e.symm; exact h2 o x e')
  have kof := (h.own.lists i hi).2.2
  have kaw := (h.away.lists i hi).2
  have hgb : W'.heap[g]? = W.heap[g]? := hblk g h7 (fun o x e => (kof g o x e).2.1 rfl)
  have hg' : w.heap.size + 1 ≤ g' ∧ g' ≠ g ∧ g' ≠ T := by
    rcases hat with e | e
    · obtain ⟨o, x, e'⟩ := hob g' e
      have h1 := kof g' o x e'
      have h2 := kaw g' o x e'
      exact ⟨h1.1, h1.2.1, h2⟩
    · omega
  have hs' := hgrow.size
  have hg'lt : g' < W'.heap.size := by
    rcases hown.2 with ⟨h0, _⟩ | ⟨g2, cap2, cur2, hv, hb2, hblk2, _⟩
    · cases h0
    · cases hv; exact (Array.getElem?_eq_some_iff.1 hblk2).1
  have hZ : IsInts W' (some ⟨g', 0, none⟩) ((D i).kn + 1) (kidNd (D i) z).kids := by
    rcases hown.2 with ⟨h0, _⟩ | ⟨g2, cap2, cur2, hv, hb2, hblk2, hn2, hm2, hs2, ht2⟩
    · cases h0
    cases hv
    refine Or.inr ⟨g', 0, rfl, hg'lt, fun j hj => ?_⟩
    have e1 : W'.cell? ⟨g', 0 + j, none⟩ = (intv ((List.range (D i).kn).map (D i).kids) ++ intv [z])[j]? := by
      rw [← ht2, List.getElem?_take_of_lt (by omega)]
      simp [World.cell?, hblk2]
    rw [e1]
    by_cases e : j < (D i).kn
    · rw [List.getElem?_append_left (by simpa [intv] using e)]
      simp [intv, kidNd, e]
    · have : j = (D i).kn := by omega
      subst this
      rw [List.getElem?_append_right (by simp [intv])]
      simp [intv, kidNd]
  refine ⟨h.rd.kept (fun j hj => (blk_setCell_other _ _ _ _ (by show j ≠ g; omega)).trans (hblk j (by omega) (fun o x e => by have := (kof j o x e).1; omega))), (h.res.of_block (hblk _ (by omega) (fun o x e => by have := (kof _ o x e).1; omega))).off _ (by omega), (h.t.of_block (hblk _ (by omega) (fun o x e => kaw _ o x e rfl))).off _ (by omega), ?_, ⟨h.away.row, fun j hj => ?_⟩, h3, ?_, h4⟩
  · refine h.own.setIn hgb (fun j hj => ?_) (fun j hj => ?_)
    · obtain ⟨c0, c1, c2, c3, c4⟩ := h.own.cells j hj
      by_cases e : j = i
      · subst e
        rw [putNd_same]
        simp [c0, c1, c2, c4, putLoc, kidNd]
      · rw [putNd_ne D _ e]
        rw [if_neg (by omega), if_neg (by omega), if_neg (by omega), if_neg (by omega), if_neg (by omega)]
        simp only [putLoc, if_neg e]
        exact ⟨c0, c1, c2, c3, c4⟩
    · obtain ⟨⟨s1, s2⟩, o1, o2⟩ := h.own.lists j hj
      have hn : IsStrs W' (L j).nA (D j).nn (D j).names := s1.of_blocks hs' (fun b o x e => hblk b (o1 b o x e).2.2 (fun o' x' e' => hk.names i j hi hj b o' x' b o x e' e rfl))
      by_cases e : j = i
      · subst e
        rw [putNd_same]
        simp only [putLoc, if_true]
        exact ⟨⟨hn, hZ⟩, o1.grow hs', fun b o x e => by cases e; exact ⟨hg'.1, hg'.2.1, hg'lt⟩⟩
      · rw [putNd_ne D _ e]
        simp only [putLoc, if_neg e]
        exact ⟨⟨hn, s2.of_blocks hs' (fun b o x e2 => hblk b (o2 b o x e2).2.2 (fun o' x' e' => hk.kids i j hi hj (Ne.symm e) b o' x' b o x e' e2 rfl))⟩, o1.grow hs', o2.grow hs'⟩
  · by_cases e : j = i
    · subst e
      simp only [putLoc, if_true]
      exact ⟨(h.away.lists j hj).1, fun b o x e => by cases e; exact hg'.2.2⟩
    · simp only [putLoc, if_neg e]
      exact h.away.lists j hj
  · exact ⟨hgrow.os.trans h.grown.os, hgrow.tape.trans h.grown.tape, hgrow.output.trans h.grown.output, by simp [World.setCell]; omega, fun j h1 h2 => (blk_setCell_other _ _ _ _ (by show j ≠ g; omega)).trans ((hblk j (by omega) (fun o x e => by have := (kof j o x e).1; omega)).trans (h.grown.block j h1 h2))⟩

/-- The answer is written. -/
theorem BI.fin (h : BI w T r a len cp zs q g cap n D L now W) (hf : Fair n D) : BEnd w r a len cp zs q g cap n D L now ((W.setCell ⟨w.heap.size, 0, none⟩ (.slice (some ⟨g, 0, none⟩) n cap)).setCell ⟨w.heap.size, 1, none⟩ (.int .i64 now)) := by
  have h3 := h.above
  have h4 := h.rlt
  have h5 := h.grown.size
  have hb := h.own.base
  have ha : Away (fun b => b = w.heap.size) g n L := ⟨by omega, fun i hi => ⟨fun b o x e => by have := ((h.own.lists i hi).2.1 b o x e).1; omega, fun b o x e => by have := ((h.own.lists i hi).2.2 b o x e).1; omega⟩⟩
  have hs : ∀ b, b ≠ w.heap.size → ((W.setCell ⟨w.heap.size, 0, none⟩ (.slice (some ⟨g, 0, none⟩) n cap)).setCell ⟨w.heap.size, 1, none⟩ (.int .i64 now)).heap[b]? = W.heap[b]? := fun b hb => (blk_setCell_other _ _ _ _ hb).trans (blk_setCell_other _ _ _ _ hb)
  refine ⟨(h.res.set 0 _).set 1 _, h.rd.kept (fun k hk => hs k (by omega)), ((h.own.setOther ha rfl _ _).setOther ha rfl _ _).lower (by omega), hf, ⟨h.grown.os, h.grown.tape, h.grown.output, ?_, fun k h1 h2 => (hs k (by omega)).trans (h.grown.block k h1 h2)⟩⟩
  simp [World.setCell]; omega
end
end Go.Proofs.Ytlikmphjocjmeaa

/-
  A statement whose order is drawn and whose last operation waits for all others: that one is cut off, and walked behind them. Plain laws.
-/
namespace Go.Proofs.Ytlikmphjocjmeaa
open Go.RowKit

section
variable {P : Program} {md : Region.Mode} {Q : Exit → Act → World → Prop}

/-- What is asked ahead of the last operation. -/
def Peel (P : Program) (o : Oper) (Q : Exit → Act → World → Prop) : Exit → Act → World → Prop
  | .normal, a, w => o.wp P a w (fun a' w' => Q .normal a' w') Q
  | e, a, w => Q e a w

/-- All others come ahead of the last one, and none has a guard. -/
def peelOk (md : Region.Mode) (ops : Array Oper) (o : Oper) : Bool :=
  o.guard.isNone && (o.after.all fun e => !Region.binds md e || decide (e.on < ops.size)) && (List.range ops.size).all fun j =>
    (match ops[j]? with | some oj => oj.guard.isNone && oj.after.all (fun e => !Region.binds md e || decide (e.on < j)) | none => false) &&
    ((o.after.any fun e => Region.binds md e && e.on == j) || (List.range ops.size).any fun k => decide (j < k) && (match ops[k]? with | some ok => ok.after.any (fun e => Region.binds md e && e.on == j) | none => false))

structure PeelOk (md : Region.Mode) (ops : Array Oper) (o : Oper) : Prop where
  og : o.guard = none
  oa : ∀ e ∈ o.after, Region.binds md e = true → e.on < ops.size
  gs : ∀ (j : Nat) (oj : Oper), ops[j]? = some oj → oj.guard = none
  lt : ∀ (j : Nat) (oj : Oper), ops[j]? = some oj → ∀ e ∈ oj.after, Region.binds md e = true → e.on < j
  cov : ∀ j, j < ops.size → (∃ e ∈ o.after, Region.binds md e = true ∧ e.on = j) ∨ ∃ (k : Nat) (ok : Oper), j < k ∧ ops[k]? = some ok ∧ ∃ e ∈ ok.after, Region.binds md e = true ∧ e.on = j

theorem peelOk_spec {ops : Array Oper} {o : Oper} (h : peelOk md ops o = true) : PeelOk md ops o := by
  unfold peelOk at h
  simp only [Bool.and_eq_true, List.all_eq_true, List.mem_range] at h
  obtain ⟨⟨h1, h2⟩, h3⟩ := h
  have aux : ∀ (j : Nat) (oj : Oper), ops[j]? = some oj → oj.guard = none ∧ ∀ e ∈ oj.after, Region.binds md e = true → e.on < j := fun j oj hj => by
    have hlt : j < ops.size := (Array.getElem?_eq_some_iff.1 hj).1
    have := (h3 j hlt).1
    rw [hj] at this
    simp only [Bool.and_eq_true, Array.all_eq_true_iff_forall_mem, Bool.or_eq_true, Bool.not_eq_true', decide_eq_true_eq] at this
    exact ⟨by simpa using this.1, fun e he hb => (this.2 e he).resolve_left (by simp [hb])⟩
  refine ⟨by simpa using h1, fun e he hb => ?_, fun j oj hj => (aux j oj hj).1, fun j oj hj => (aux j oj hj).2, fun j hj => ?_⟩
  · simp only [Array.all_eq_true_iff_forall_mem, Bool.or_eq_true, Bool.not_eq_true', decide_eq_true_eq] at h2
    exact (h2 e he).resolve_left (by simp [hb])
  · have := (h3 j hj).2
    simp only [Bool.or_eq_true, Array.any_eq_true', Bool.and_eq_true, beq_iff_eq, List.any_eq_true, List.mem_range, decide_eq_true_eq] at this
    rcases this with ⟨e, he, hb, hon⟩ | ⟨k, hk, hjk, hm⟩
    · exact Or.inl ⟨e, he, hb, hon⟩
    · cases hok : ops[k]? with
      | none => rw [hok] at hm; cases hm
      | some ok =>
        rw [hok] at hm
        simp only [Array.any_eq_true', Bool.and_eq_true, beq_iff_eq] at hm
        obtain ⟨e, he, hb, hon⟩ := hm
        exact Or.inr ⟨k, ok, hjk, hok, e, he, hb, hon⟩

/-- What has come up, has so behind what it waits for. -/
def ListedOk (md : Region.Mode) (ops : Array Oper) (listed : Array Bool) : Prop :=
  listed.size = ops.size ∧ ∀ (j : Nat) (oj : Oper), ops[j]? = some oj → listed.getD j false = true → ∀ e ∈ oj.after, Region.binds md e = true → listed.getD e.on false = true

theorem getD_both {l : Array Bool} {j : Nat} (hj : j < l.size) (b : Bool) : l.getD j b = l[j] := by simp [hj]

theorem listed_all {ops : Array Oper} {o : Oper} (h : PeelOk md ops o) {listed : Array Bool} (hv : ListedOk md ops listed) (ho : ∀ e ∈ o.after, Region.binds md e = true → listed.getD e.on false = true) : ∀ d j, j < ops.size → ops.size - j ≤ d → listed.getD j false = true
  | 0, j, hj, hd => by omega
  | d + 1, j, hj, hd => by
    rcases h.cov j hj with ⟨e, he, hb, rfl⟩ | ⟨k, ok, hjk, hok, e, he, hb, rfl⟩
    · exact ho e he hb
    · have hk : k < ops.size := (Array.getElem?_eq_some_iff.1 hok).1
      exact hv.2 k ok hok (listed_all h hv ho d k hk (by omega)) e he hb

theorem ready_nil_all {ops : Array Oper} {o : Oper} (h : PeelOk md ops o) {listed : Array Bool} (hv : ListedOk md ops listed) (hr : Region.ready md ops listed = []) : ∀ j, j < ops.size → listed.getD j false = true := by
  intro j
  induction j using Nat.strongRecOn with
  | _ j ih =>
    intro hj
    cases hb : listed.getD j false with
    | true => rfl
    | false =>
      exfalso
      have hjl : j < listed.size := by rw [hv.1]; exact hj
      have : j ∈ Region.ready md ops listed := mem_ready.2 ⟨by rw [getD_both hjl] at hb ⊢; exact hb, ops[j], by simp [hj], fun e he hbn => ih e.on (h.lt j ops[j] (by simp [hj]) e he hbn) (Nat.lt_trans (h.lt j ops[j] (by simp [hj]) e he hbn) hj)⟩
      rw [hr] at this
      cases this

theorem listed_push {l : Array Bool} {j : Nat} (b : Bool) (hj : j < l.size) : (l.push false).getD j b = l.getD j b := by
  simp [Array.getElem_push, hj, Nat.lt_succ_of_lt hj]

theorem listed_push_last {l : Array Bool} (b : Bool) : (l.push false).getD l.size b = false := by simp

theorem wpOp_peel {ops : Array Oper} {o : Oper} (h : PeelOk md ops o) {i : Nat} (hi : i < ops.size) {K K' : Act → World → Prop} (hK : ∀ a w, K a w → K' a w) {a : Act} {w : World} (hh : wpOp P ops (Peel P o Q) i K a w) : wpOp P (ops.push o) Q i K' a w := by
  have e : (ops.push o)[i]? = ops[i]? := by rw [Array.getElem?_push]; simp [Nat.ne_of_lt hi]
  unfold wpOp at *
  rw [e]
  have hoi : ops[i]? = some ops[i] := by simp [hi]
  simp only [hoi] at hh ⊢
  have hg := h.gs i _ hoi
  have hw : ∀ y, Region.wanted ops[i] y = true := fun y => by simp [Region.wanted, hg]
  simp only [hw, if_true] at hh ⊢
  rcases hh with hh | ⟨h1, h2⟩
  · refine Or.inl ?_
    unfold Oper.wp at *
    generalize (execOp a.eval ops[i]).run P w = r at *
    cases r with
    | ok n w' =>
      cases n <;> simp only [Oper.upon] at hh ⊢
      case value v => exact hK _ _ hh
      case skip => exact hK _ _ hh
      case defer d => exact hK _ _ hh
      case enter f args =>
        refine Calls.mono hh fun e w'' he => ?_
        cases e with
        | returned u => exact hK _ _ he
        | panicked c => exact he
        | outgrown => exact he
      case row row args => exact Rows.mono hh fun u w'' he => hK _ _ he
    | halt x w' =>
      cases x <;> simp only [Oper.upon] at hh ⊢
      case panic u => exact hh
  · exact Or.inr ⟨h1, h2⟩

theorem wpAny_peel {ops : Array Oper} {o : Oper} (h : PeelOk md ops o) : ∀ (fuel : Nat) (listed : Array Bool) (a : Act) (w : World), ListedOk md ops listed → wpAny P md ops (Peel P o Q) fuel listed a w → wpAny P md (ops.push o) Q (fuel + 1) (listed.push false) a w := by
  intro fuel
  have lastOp : (ops.push o)[ops.size]? = some o := by simp
  have lastReady : ∀ listed, ListedOk md ops listed → Region.ready md ops listed = [] → ops.size ∈ Region.ready md (ops.push o) (listed.push false) := fun listed hv hr =>
    mem_ready.2 ⟨by rw [← hv.1]; exact listed_push_last _, o, lastOp, fun e he hb => by
      have := h.oa e he hb
      rw [listed_push _ (by rw [hv.1]; exact this)]
      exact ready_nil_all h hv hr e.on this⟩
  have readyOld : ∀ listed i, ListedOk md ops listed → i < ops.size → i ∈ Region.ready md (ops.push o) (listed.push false) → i ∈ Region.ready md ops listed := fun listed i hv hi hr => by
    rw [mem_ready] at hr ⊢
    obtain ⟨h0, oi, hoi, hall⟩ := hr
    rw [Array.getElem?_push] at hoi
    simp only [Nat.ne_of_lt hi, if_false] at hoi
    exact ⟨by rw [listed_push _ (by rw [hv.1]; exact hi)] at h0; exact h0, oi, hoi, fun e he hb => by
      have := h.lt i oi hoi e he hb
      rw [← hall e he hb, listed_push _ (by rw [hv.1]; omega)]⟩
  have doneLast : ∀ (f : Nat) listed a w, ListedOk md ops listed → Region.ready md ops listed = [] → Peel P o Q .normal a w → wpOp P (ops.push o) Q ops.size (wpAny P md (ops.push o) Q f ((listed.push false).setIfInBounds ops.size true)) a w := fun f listed a w hv hr hp => by
    unfold wpOp
    simp only [lastOp]
    have hw : Region.wanted o (yielded (ops.push o) a.tmps) = true := by simp [Region.wanted, h.og]
    simp only [hw, if_true]
    refine Or.inl (Oper.wp_mono (fun a' w' hq => wpAny_done ?_ hq f) hp)
    have hall := ready_nil_all h hv hr
    cases hrr : Region.ready md (ops.push o) ((listed.push false).setIfInBounds ops.size true) with
    | nil => rfl
    | cons x xs =>
      exfalso
      have hx : x ∈ Region.ready md (ops.push o) ((listed.push false).setIfInBounds ops.size true) := by rw [hrr]; simp
      obtain ⟨h0, ox, hox, _⟩ := mem_ready.1 hx
      have hxl : x < ops.size + 1 := by have := (Array.getElem?_eq_some_iff.1 hox).1; simpa using this
      have hsz := hv.1
      by_cases e : x = ops.size
      · subst e; simp [hsz] at h0
      · have hx' : x < ops.size := by omega
        rw [getD_set_ne true (Ne.symm e), listed_push _ (by omega)] at h0
        have := hall x hx'
        rw [getD_both (by omega)] at h0 this
        rw [h0] at this
        cases this
  have setPush : ∀ (listed : Array Bool) i, listed.size = ops.size → i < ops.size → (listed.push false).setIfInBounds i true = (listed.setIfInBounds i true).push false := fun listed i hs hi => by
    apply Array.ext_getElem?
    intro j
    by_cases e : j = i
    · subst e
      rw [Array.getElem?_push, Array.getElem?_setIfInBounds]
      simp [hs, Nat.ne_of_lt hi, hi, Nat.lt_succ_of_lt hi]
    · rw [Array.getElem?_push, Array.getElem?_setIfInBounds, if_neg (Ne.symm e), Array.getElem?_push, Array.size_setIfInBounds, Array.getElem?_setIfInBounds, if_neg (Ne.symm e)]
  have okSet : ∀ listed i, ListedOk md ops listed → i ∈ Region.ready md ops listed → ListedOk md ops (listed.setIfInBounds i true) := fun listed i hv hr => by
    obtain ⟨h0, oi, hoi, hall⟩ := mem_ready.1 hr
    refine ⟨by simpa using hv.1, fun j oj hj hl e he hb => ?_⟩
    by_cases ej : j = i
    · subst ej
      rw [hoi] at hj
      cases hj
      exact getD_set_true (hall e he hb)
    · rw [getD_set_ne false (Ne.symm ej)] at hl
      exact getD_set_true (hv.2 j oj hj hl e he hb)
  induction fuel with
  | zero =>
    intro listed a w hv hh
    obtain ⟨hr, hp⟩ := hh
    refine ⟨fun hn => ?_, fun i hi => ?_⟩
    · have := lastReady listed hv hr
      rw [hn] at this
      cases this
    · by_cases e : i = ops.size
      · subst e; exact doneLast 0 listed a w hv hr hp
      · have hlt : i < ops.size := by
          obtain ⟨_, oi, hoi, _⟩ := mem_ready.1 hi
          have := (Array.getElem?_eq_some_iff.1 hoi).1
          simp at this; omega
        have := readyOld listed i hv hlt hi
        rw [hr] at this
        cases this
  | succ fuel ih =>
    intro listed a w hv hh
    obtain ⟨hn, hstep⟩ := hh
    refine ⟨fun hnil => ?_, fun i hi => ?_⟩
    · exfalso
      cases hr : Region.ready md ops listed with
      | nil =>
        have := lastReady listed hv hr
        rw [hnil] at this
        cases this
      | cons x xs =>
        have hx : x ∈ Region.ready md ops listed := by rw [hr]; simp
        obtain ⟨h0, ox, hox, hall⟩ := mem_ready.1 hx
        have hxl : x < ops.size := (Array.getElem?_eq_some_iff.1 hox).1
        have : x ∈ Region.ready md (ops.push o) (listed.push false) := mem_ready.2 ⟨by rw [listed_push _ (by rw [hv.1]; exact hxl)]; exact h0, ox, by rw [Array.getElem?_push]; simp [Nat.ne_of_lt hxl, hox], fun e he hb => by
          have := h.lt x ox hox e he hb
          rw [listed_push _ (by rw [hv.1]; omega)]
          exact hall e he hb⟩
        rw [hnil] at this
        cases this
    · by_cases e : i = ops.size
      · subst e
        have hall : ∀ e ∈ o.after, Region.binds md e = true → listed.getD e.on false = true := fun e he hb => by
          obtain ⟨_, oi, hoi, hal⟩ := mem_ready.1 hi
          rw [lastOp] at hoi
          cases hoi
          rw [← hal e he hb, listed_push _ (by rw [hv.1]; exact h.oa e he hb)]
        have hr : Region.ready md ops listed = [] := by
          cases hrr : Region.ready md ops listed with
          | nil => rfl
          | cons x xs =>
            exfalso
            have hx : x ∈ Region.ready md ops listed := by rw [hrr]; simp
            obtain ⟨h0, ox, hox, _⟩ := mem_ready.1 hx
            have hxl : x < ops.size := (Array.getElem?_eq_some_iff.1 hox).1
            have := listed_all h hv hall ops.size x hxl (by omega)
            rw [getD_both (by rw [hv.1]; exact hxl)] at h0 this
            rw [h0] at this
            cases this
        exact doneLast (fuel + 1) listed a w hv hr (hn hr)
      · have hlt : i < ops.size := by
          obtain ⟨_, oi, hoi, _⟩ := mem_ready.1 hi
          have := (Array.getElem?_eq_some_iff.1 hoi).1
          simp at this; omega
        have hi' := readyOld listed i hv hlt hi
        refine wpOp_peel h hlt (fun a' w' hh => ?_) (hstep i hi')
        rw [setPush listed i hv.1 hlt]
        exact ih _ a' w' (okSet listed i hv hi') hh

theorem push_pop {ops : Array Oper} {o : Oper} (h : ops.back? = some o) : ops.pop.push o = ops := by
  rcases ops with ⟨l⟩
  rcases List.eq_nil_or_concat l with rfl | ⟨l', x, rfl⟩
  · simp at h
  · simp at h; subst h; simp

/-- The last operation is cut off; of the others a condition S on the world holds till they have all come up. -/
theorem wp_region_peel {id : Nat} {ops : Array Oper} {a : Act} {w : World} (S : World → Prop) (o : Oper) (hm : P.follows .mixedOrders = true) (hb : ops.back? = some o) (hok : peelOk .any ops.pop o = true)
    (hS : S w.drew) (h : S w.drew → wpAnyH P .any ops.pop (Peel P o Q) S ops.pop.size (Array.replicate ops.pop.size false) a w.drew) : (Code.region id ops true).wp P Q a w := by
  refine wp_region_any hm ?_
  have hp := push_pop hb
  have := wpAny_peel (Q := Q) (P := P) (peelOk_spec hok) ops.pop.size (Array.replicate ops.pop.size false) a w.drew ⟨by simp, fun j oj hj hl e he hbn => by
    rw [Array.getD_eq_getD_getElem?, Array.getElem?_replicate] at hl
    split at hl <;> cases hl⟩ (wpAny_of_held _ _ _ _ (h hS))
  have e1 : (Array.replicate ops.pop.size false).push false = Array.replicate ops.size false := by
    rw [← hp]; simp [Array.replicate_succ]
  have e2 : ops.pop.size + 1 = ops.size := by rw [← hp]; simp
  rw [hp, e1, e2] at this
  exact this

/-- Take number i first, where the last operation is cut off. -/
theorem peel_take {ops : Array Oper} {o : Oper} {S : World → Prop} {i : Nat} {oi : Oper} {v : Value} {fuel : Nat} {listed : Array Bool} {a : Act} {w : World} (hQ : ∀ c (a : Act) d v w, Q (.panic c) (a.put d v) w → Q (.panic c) a w) (hS : S w)
    (hi : ops[i]? = some oi) (hs : Region.noSelect ops = true) (hf : Region.free md ops listed i = true) (hr : (Region.ready md ops listed).contains i = true) (hw : Region.wanted oi (yielded ops a.tmps) = true) (hy : ∀ w, S w → (execOp a.eval oi).run P w = .ok (.value v) w)
    (h : wpAnyH P md ops (Peel P o Q) S fuel (listed.setIfInBounds i true) (a.put oi.dst v) w) : wpAnyH P md ops (Peel P o Q) S (fuel + 1) listed a w :=
  wpAnyH_take hi hs hf hr (fun c a w h => hQ c a _ _ w h) (Or.inl ⟨hw, hy⟩) hS h

/-- At a step of a drawn region: an append to a row of one's own. -/
theorem step_append_own (w : World) {ops : Array Oper} {o : Oper} {a : Act} {K : Act → World → Prop} {E : Prop} (hgd : o.guard = none) (s x : Operand) (t : TypeId)
    (ho : o.op = .call { callee := .builtin .append, args := #[s, x], argTypes := #[t, t] })
    (base : Nat) (e : TypeId) (i : TypeInfo) (z : Value) (size bytes : Nat) (ht : P.underlying t = some (.slice e)) (hi : P.info? e = some i) (hz : i.zero = some z)
    (hsize : i.size = size) (hby : i.bytes = bytes) (hzs : z.cells.size = size) (hsz : 0 < size)
    (v : Value) (n : Nat) (xs : List Value) (hs : a.eval s = v) (hown : w.ownsRow base e size v n xs)
    (ad : Addr) (m c : Nat) (news : List Value) (hx : a.eval x = .slice (some ad) m c) (hl : news.length = m * size) (hnews : ∀ j u, news[j]? = some u → w.cell? (ad.add j) = some u) (h1 : ∀ u ∈ news, u.oneCell' = true)
    (h63 : n + m ≤ maxLen) (hbytes : (n + m) * bytes ≤ 140737488355328) (hbase : base ≤ w.heap.size)
    (h : ∀ v' w', w'.ownsRow base e size v' (n + m) (xs ++ news) → w.grownBy w' v.ownBlock → (v' = .slice none 0 0 ↔ v = .slice none 0 0 ∧ m = 0) → K (a.put o.dst v') w') :
    if Region.wanted o (yielded ops a.tmps) = true then Oper.wp P o a w K Q else E := by
  have hw : Region.wanted o (yielded ops a.tmps) = true := by simp [Region.wanted, hgd]
  rw [if_pos hw]
  exact wp_append_own w s x t ho base e i z size bytes ht hi hz hsize hby hzs hsz v n xs hs hown ad m c news hx hl hnews h1 h63 hbytes hbase h
end
end Go.Proofs.Ytlikmphjocjmeaa

/-
  What l2Bent gives: a tree in new memory, bent or not.
-/
namespace Go.Proofs.Ytlikmphjocjmeaa
open Go.RowKit Go.Deep
set_option linter.unusedVariables false

theorem new_ints (w : World) (L : List Int) : ∀ i, i < L.length → (w.alloc (.cells (intv L).toArray 3)).cell? ⟨w.heap.size, 0 + i, none⟩ = some (.int .i64 (L.getD i 0)) := by
  intro i hi
  simp only [World.cell?, new_block]
  simp [intv, hi]

theorem getD_in {L : List Int} {lo hi : Int} (h : ∀ z ∈ L, lo ≤ z ∧ z ≤ hi) (i : Nat) (hi' : i < L.length) : lo ≤ L.getD i 0 ∧ L.getD i 0 ≤ hi := by
  have := h (L[i]) (List.getElem_mem hi')
  simpa [hi'] using this

theorem wp_cutq3 {X Y Z : Type} (F : X → Y → Z → World → Prop) {P : Program} {c : Code} {Q : Exit → Act → World → Prop} {a : Act} {w : World} (A : X → Y → Z → Act)
    (leaf : (∀ x y z W, F x y z W → Q .normal (A x y z) W) → c.wp P Q a w) (k : ∀ x y z W, F x y z W → Q .normal (A x y z) W) : c.wp P Q a w := leaf k

theorem wp_cutq4 {X Y Z U : Type} (F : X → Y → Z → U → World → Prop) {P : Program} {c : Code} {Q : Exit → Act → World → Prop} {a : Act} {w : World} (A : X → Y → Z → U → Act)
    (leaf : (∀ x y z u W, F x y z u W → Q .normal (A x y z u) W) → c.wp P Q a w) (k : ∀ x y z u W, F x y z u W → Q .normal (A x y z u) W) : c.wp P Q a w := leaf k

def bent3 : List ByteArray := [⟨#[65]⟩, ⟨#[97, 98, 99, 100, 101, 102, 103]⟩, ⟨#[120]⟩]

/-- What l2Bent leaves. -/
def BentPost (w : World) (r : Nat) (a : Option Addr) (len cp : Nat) (zs : Nat → Int) (p : Nat) (e : Ending) (w' : World) : Prop :=
  ∃ g cap n D L now q, e = .returned (trV (some ⟨g, 0, none⟩) n cap now) ∧ 0 ≤ now ∧ now ≤ 1001 ∧ q ≤ p + 210 ∧ BentD w r a len cp zs q g cap n D L w'

theorem bentPost_mk {w : World} {r : Nat} {a : Option Addr} {len cp : Nat} {zs : Nat → Int} {p q g cap n : Nat} {D : Nat → Nd} {L : Nat → Loc} {now : Int} {W : World} (h0 : 0 ≤ now) (h1 : now ≤ 1001) (hq : q ≤ p + 210) (h : BentD w r a len cp zs q g cap n D L W) : BentPost w r a len cp zs p (.returned (.agg #[.slice (some ⟨g, 0, none⟩) n cap, .int .i64 now])) W :=
  ⟨g, cap, n, D, L, now, q, rfl, h0, h1, hq, h⟩

theorem kid_block {w : World} {T r : Nat} {a : Option Addr} {len cp : Nat} {zs : Nat → Int} {q g cap n : Nat} {D : Nat → Nd} {L : Nat → Loc} {now : Int} {W : World} (h : BI w T r a len cp zs q g cap n D L now W) (hk : KidsOwn W n D L) {k : Nat} (hi : k < n) :
    ∀ b, (Value.slice (L k).kA (D k).kn (L k).kc).ownBlock = some b → b ≠ g ∧ b ≠ T := fun b e => by
  rcases hk.room k hi with ⟨e1, e2, e3⟩ | ⟨b', cur, e1, _⟩
  · rw [e1, e2, e3] at e; simp [Value.ownBlock] at e
  · have e' := e
    rw [e1] at e'; simp [Value.ownBlock] at e'; subst e'
    exact ⟨((h.own.lists k hi).2.2 b' 0 none e1).2.1, (h.away.lists k hi).2 b' 0 none e1⟩

set_option maxRecDepth 100000 in
set_option maxHeartbeats 8000000 in
theorem l2Bent_any (w : World) (r : Nat) (a : Option Addr) (len cp : Nat) (zs : Nat → Int) (p : Nat) (hR : IsRd w r a len cp zs p) (hp : p ≤ 400) :
    Calls Try.prog 16 #[.pointer (some ⟨r, 0, none⟩)] w (BentPost w r a len cp zs p) := by
  have hrl := hR.lt
  obtain ⟨j0, hj, hy0, hy1, hy2⟩ := info_parts infoInt
  obtain ⟨i0, hi0, hz0, hz1, hz2⟩ := info_parts infoNode
  go_enter Try.func16, Try.ntmps16
  go_wp2_with fail
  refine (l2Some_any _ r a len cp zs p (hR.alloc _) (by omega)).mono ?_
  rintro e w1 ⟨g, cap, n, D, L, now, q, rfl, hnow0, hnow1, hq, hd⟩
  unfold trV
  have hN := hd.nice
  have hn1 := hN.some
  have hn10 := hN.few
  have HF : Hid (BI w w1.heap.size r a len cp zs q g cap n D L now (w1.alloc (.cells #[.slice (some ⟨g, 0, none⟩) n cap, .int .i64 now] 25))) := BI.start (p := p) hd hrl
  have HK : Hid (KidsOwn (w1.alloc (.cells #[.slice (some ⟨g, 0, none⟩) n cap, .int .i64 now] 25)) n D L) := hd.kids2 _
  have hw1 : w.heap.size < w1.heap.size := HF.out.above
  clear hd hR
  go_wp2_with fail
  obtain ⟨T, hT⟩ : ∃ T, T = w1.heap.size := ⟨_, rfl⟩
  refine (pick_any _ r a len cp zs q n HF.out.rd (by omega) (by omega) (by omega)).mono ?_
  rintro e w2 ⟨x, rfl, hx0, hx1, hg2, hR2⟩
  obtain ⟨k, rfl⟩ := Int.eq_ofNat_of_zero_le hx0
  have hkn : k < n := by omega
  have HK2 : Hid _ := HF.out.readKids HK.out hg2
  have HF2 : Hid _ := HF.out.read hg2 hR2
  clear hg2 hR2 HF HK hx0
  rw [← hT] at HF2 hw1 ⊢
  clear hT
  go_wp2_with fail
  refine (pick_any _ r a len cp zs (q + 1) 56 HF2.out.rd (by omega) (by omega) (by omega)).mono ?_
  rintro e w3 ⟨x, rfl, hxa, hx56, hg3, hR3⟩
  have HK : Hid _ := HF2.out.readKids HK2.out hg3
  have HF : Hid _ := HF2.out.read hg3 hR3
  clear hg3 hR3 HF2 HK2
  have hgT : g ≠ T := HF.out.base.2.1
  have hTg : T ≠ g := Ne.symm hgT
  have hki : (k : Int) < (n : Int) := by omega
  have hwT : w.heap.size < T := HF.out.above
  have hTlt : T < w3.heap.size := HF.out.t.lt
  have hglt : g < w3.heap.size := HF.out.own.lt
  have hfk := (hN.fair (Nat.le_refl _)).each k hkn
  have t0 : w3.cell? ⟨T, 0, none⟩ = some (.slice (some ⟨g, 0, none⟩) n cap) := HF.out.t.cell 0
  have t1 : w3.cell? ⟨T, 1, none⟩ = some (.int .i64 now) := HF.out.t.cell 1
  by_cases hx0 : x = 0
  · subst hx0
    go_wp2_with fail
    clear HK
    have hwr : IntKind.i64.wrap (now + 1) = now + 1 := wrap_i64 (now + 1) (by omega) (by omega)
    apply wp_cutq1 (X := Int) (fun z W => BI w T r a len cp zs (q + 1 + 1 + 1) g cap n (putNd D k { D k with turn := z }) L now W ∧ -1 ≤ z ∧ z ≤ 1001)
    · intro key
      have KEY : Hid _ := key
      clear key
      go_region_with (
        go_at_call 18
        refine (num_any ((w3.drewN 1).alloc _) r a len cp zs (q + 1 + 1) ((HF.out.drew 1).alloc _).rd (by omega) w3.heap.size 0 3 3 (fun i => [0, -1, now + 1].getD i 0) (by omega) (by omega) (by omega) (new_ints (w3.drewN 1) [0, -1, now + 1])).mono ?_
        rintro e w6 ⟨i, hi3, rfl, hg6, hR6⟩
        have hs6 : -1 ≤ [0, -1, now + 1].getD i 0 ∧ [0, -1, now + 1].getD i 0 ≤ 1001 := getD_in (by simp; omega) i hi3
        have hG6 := ((HF.out.drew 1).alloc _).read hg6 hR6
        have T0 : w6.cell? ⟨T, 0, none⟩ = some (.slice (some ⟨g, 0, none⟩) n cap) := hG6.t.cell 0
        have E4 := (hG6.own.cells k hkn).2.2.2.2
        have EF4 := hG6.own.frozen (k * 5 + 4)
        generalize hsd : [0, -1, now + 1].getD i 0 = z at hs6)
      all_goals exact KEY.out z _ ⟨hG6.put (hG6.own.setTurn hkn z), hs6⟩
    · intro z W7 hF7
      have hf : Fair n (putNd D k { D k with turn := z }) := (hN.fair (Nat.le_refl _)).put ⟨hfk.nn, hfk.kn, hfk.names, hfk.kids, hfk.text, hfk.kind, hF7.2⟩
      have HF7 : Hid _ := hF7.1
      have HE : Hid _ := hF7.1.fin hf
      clear hf hF7 t0 t1 HF
      have t0 : W7.cell? ⟨T, 0, none⟩ = some (.slice (some ⟨g, 0, none⟩) (n) cap) := HF7.out.t.cell 0
      have t1 : W7.cell? ⟨T, 1, none⟩ = some (.int .i64 (now)) := HF7.out.t.cell 1
      have rs0 : W7.cell? ⟨w.heap.size, 0, none⟩ = some (.slice none 0 0) := HF7.out.res.cell 0
      have rs1 : W7.cell? ⟨w.heap.size, 1, none⟩ = some (.int .i64 0) := HF7.out.res.cell 1
      have rf0 := HF7.out.res.frozen 0
      have rf1 := HF7.out.res.frozen 1
      clear HF7
      go_wp2
      refine end_world (F := BEnd w r a len cp zs (q + 1 + 1 + 1) g cap (n) _ L (now)) HE.out ?_
      clear HE
      rintro WF ⟨hr, hgr⟩
      have r0 := hr.cell 0
      have r1 := hr.cell 1
      simp at r0 r1
      exact bodyPost_ret (v := .agg #[.slice (some ⟨g, 0, none⟩) (n) cap, .int .i64 (now)]) (by simp [results, Try.results16, go_sem, r0, r1]) rfl (bentPost_mk (by omega) (by omega) (by omega) hgr)
  have hb0 : (x == 0) = false := by simp; exact hx0
  by_cases hx1 : x = 1
  · subst hx1
    go_wp2_with fail
    clear HK
    apply wp_cutq1 (X := Int) (fun z W => BI w T r a len cp zs (q + 1 + 1 + 1) g cap n (putNd D k { D k with kind := z }) L now W ∧ 0 ≤ z ∧ z < 4)
    · intro key
      have KEY : Hid _ := key
      clear key
      go_region_with (
        go_at_call 31
        refine (pick_any (w3.drewN 1) r a len cp zs (q + 1 + 1) 4 (HF.out.drew 1).rd (by omega) (by omega) (by omega)).mono ?_
        rintro e w6 ⟨z, rfl, hzz0, hzz1, hg6, hR6⟩
        have hG6 := (HF.out.drew 1).read hg6 hR6
        have T0 : w6.cell? ⟨T, 0, none⟩ = some (.slice (some ⟨g, 0, none⟩) n cap) := hG6.t.cell 0
        have E0 := (hG6.own.cells k hkn).1
        have EF0 := hG6.own.frozen (k * 5))
      all_goals exact KEY.out z _ ⟨hG6.put (hG6.own.setKind hkn z), hzz0, hzz1⟩
    · intro z W7 hF7
      have hf : Fair n (putNd D k { D k with kind := z }) := (hN.fair (Nat.le_refl _)).put ⟨hfk.nn, hfk.kn, hfk.names, hfk.kids, hfk.text, ⟨hF7.2.1, by have := hF7.2.2; show z ≤ 3; omega⟩, hfk.turn⟩
      have HF7 : Hid _ := hF7.1
      have HE : Hid _ := hF7.1.fin hf
      clear hf hF7 t0 t1 HF
      have t0 : W7.cell? ⟨T, 0, none⟩ = some (.slice (some ⟨g, 0, none⟩) (n) cap) := HF7.out.t.cell 0
      have t1 : W7.cell? ⟨T, 1, none⟩ = some (.int .i64 (now)) := HF7.out.t.cell 1
      have rs0 : W7.cell? ⟨w.heap.size, 0, none⟩ = some (.slice none 0 0) := HF7.out.res.cell 0
      have rs1 : W7.cell? ⟨w.heap.size, 1, none⟩ = some (.int .i64 0) := HF7.out.res.cell 1
      have rf0 := HF7.out.res.frozen 0
      have rf1 := HF7.out.res.frozen 1
      clear HF7
      go_wp2
      refine end_world (F := BEnd w r a len cp zs (q + 1 + 1 + 1) g cap (n) _ L (now)) HE.out ?_
      clear HE
      rintro WF ⟨hr, hgr⟩
      have r0 := hr.cell 0
      have r1 := hr.cell 1
      simp at r0 r1
      exact bodyPost_ret (v := .agg #[.slice (some ⟨g, 0, none⟩) (n) cap, .int .i64 (now)]) (by simp [results, Try.results16, go_sem, r0, r1]) rfl (bentPost_mk (by omega) (by omega) (by omega) hgr)
  have hb1 : (x == 1) = false := by simp; exact hx1
  by_cases hx2 : x = 2
  · subst hx2
    go_wp2_with fail
    have c3 := (HF.out.own.cells k hkn).2.2.2.1
    have hk10 : (D k).kn ≤ 10 := by have h1 := (hN.each k hkn).same; have h2 := (hN.each k hkn).few; omega
    have hnum : ∀ i, i < 4 → (0 : Int) ≤ [0, 1, (k : Int), 99].getD i 0 ∧ [0, 1, (k : Int), 99].getD i 0 ≤ 99 := fun i hi => getD_in (L := [0, 1, (k : Int), 99]) (by simp; omega) i hi
    apply wp_cutq4 (X := Nat) (Y := Nat) (Z := Int) (U := Nat) (fun g' c' z _ W => BI w T r a len cp zs (q + 1 + 1 + 1) g cap n (putNd D k (kidNd (D k) z)) (putLoc L k { L k with kA := some ⟨g', 0, none⟩, kc := c' }) now W ∧ 0 ≤ z ∧ z ≤ 99)
    · intro key
      have KEY : Hid _ := key
      clear key
      refine wp_region_noPanic ?_
      refine wp_region_peel (fun W' => W'.cell? ⟨T, 0, none⟩ = some (.slice (some ⟨g, 0, none⟩) n cap) ∧ W'.cell? ⟨g, k * 5 + 3, none⟩ = some (.slice (L k).kA (D k).kn (L k).kc)) _ (by kernel_rfl) rfl (by kernel_rfl) ?_ (fun hHeld => ?_)
      · exact ⟨t0, c3⟩
      simp only [List.pop_toArray, List.dropLast, List.size_toArray, List.length_cons, List.length_nil, Nat.reduceAdd, Nat.reduceSub, List.getElem_toArray, List.getElem_cons_succ, List.getElem_cons_zero]
      refine peel_take (i := 0) (oi := ?oi0b) (v := ?v0b) (fun _ _ _ _ _ h => h) hHeld ?hi0b (by kernel_rfl) (by kernel_rfl) (by kernel_rfl) ?hw0b ?hy0b ?rest0b
      case hi0b =>
        simp only [List.getElem?_toArray, List.getElem?_cons_zero]
        rfl
      case hw0b => rfl
      case hy0b =>
        intro w hSw
        obtain ⟨s0, s1⟩ := hSw
        go_simp
        try with_reducible rfl
      try simp only [Act.put, List.setIfInBounds_toArray, List.set_cons_zero, List.set_cons_succ]
      refine peel_take (i := 1) (oi := ?oi1b) (v := ?v1b) (fun _ _ _ _ _ h => h) hHeld ?hi1b (by kernel_rfl) (by kernel_rfl) (by kernel_rfl) ?hw1b ?hy1b ?rest1b
      case hi1b =>
        simp only [List.getElem?_toArray, List.getElem?_cons_succ, List.getElem?_cons_zero]
        rfl
      case hw1b => rfl
      case hy1b =>
        intro w hSw
        obtain ⟨s0, s1⟩ := hSw
        go_simp
        try with_reducible rfl
      try simp only [Act.put, List.setIfInBounds_toArray, List.set_cons_zero, List.set_cons_succ]
      refine peel_take (i := 2) (oi := ?oi2b) (v := ?v2b) (fun _ _ _ _ _ h => h) hHeld ?hi2b (by kernel_rfl) (by kernel_rfl) (by kernel_rfl) ?hw2b ?hy2b ?rest2b
      case hi2b =>
        simp only [List.getElem?_toArray, List.getElem?_cons_succ, List.getElem?_cons_zero]
        rfl
      case hw2b => rfl
      case hy2b =>
        intro w hSw
        obtain ⟨s0, s1⟩ := hSw
        go_simp
        try with_reducible rfl
      try simp only [Act.put, List.setIfInBounds_toArray, List.set_cons_zero, List.set_cons_succ]
      refine peel_take (i := 3) (oi := ?oi3b) (v := ?v3b) (fun _ _ _ _ _ h => h) hHeld ?hi3b (by kernel_rfl) (by kernel_rfl) (by kernel_rfl) ?hw3b ?hy3b ?rest3b
      case hi3b =>
        simp only [List.getElem?_toArray, List.getElem?_cons_succ, List.getElem?_cons_zero]
        rfl
      case hw3b => rfl
      case hy3b =>
        intro w hSw
        obtain ⟨s0, s1⟩ := hSw
        go_simp
        try with_reducible rfl
      try simp only [Act.put, List.setIfInBounds_toArray, List.set_cons_zero, List.set_cons_succ]
      refine peel_take (i := 4) (oi := ?oi4b) (v := ?v4b) (fun _ _ _ _ _ h => h) hHeld ?hi4b (by kernel_rfl) (by kernel_rfl) (by kernel_rfl) ?hw4b ?hy4b ?rest4b
      case hi4b =>
        simp only [List.getElem?_toArray, List.getElem?_cons_succ, List.getElem?_cons_zero]
        rfl
      case hw4b => rfl
      case hy4b =>
        intro w hSw
        obtain ⟨s0, s1⟩ := hSw
        go_simp
        try with_reducible rfl
      try simp only [Act.put, List.setIfInBounds_toArray, List.set_cons_zero, List.set_cons_succ]
      refine peel_take (i := 5) (oi := ?oi5b) (v := ?v5b) (fun _ _ _ _ _ h => h) hHeld ?hi5b (by kernel_rfl) (by kernel_rfl) (by kernel_rfl) ?hw5b ?hy5b ?rest5b
      case hi5b =>
        simp only [List.getElem?_toArray, List.getElem?_cons_succ, List.getElem?_cons_zero]
        rfl
      case hw5b => rfl
      case hy5b =>
        intro w hSw
        obtain ⟨s0, s1⟩ := hSw
        go_simp
        try with_reducible rfl
      try simp only [Act.put, List.setIfInBounds_toArray, List.set_cons_zero, List.set_cons_succ]
      refine peel_take (i := 6) (oi := ?oi6b) (v := ?v6b) (fun _ _ _ _ _ h => h) hHeld ?hi6b (by kernel_rfl) (by kernel_rfl) (by kernel_rfl) ?hw6b ?hy6b ?rest6b
      case hi6b =>
        simp only [List.getElem?_toArray, List.getElem?_cons_succ, List.getElem?_cons_zero]
        rfl
      case hw6b => rfl
      case hy6b =>
        intro w hSw
        obtain ⟨s0, s1⟩ := hSw
        go_simp
        try with_reducible rfl
      try simp only [Act.put, List.setIfInBounds_toArray, List.set_cons_zero, List.set_cons_succ]
      refine peel_take (i := 7) (oi := ?oi7b) (v := ?v7b) (fun _ _ _ _ _ h => h) hHeld ?hi7b (by kernel_rfl) (by kernel_rfl) (by kernel_rfl) ?hw7b ?hy7b ?rest7b
      case hi7b =>
        simp only [List.getElem?_toArray, List.getElem?_cons_succ, List.getElem?_cons_zero]
        rfl
      case hw7b => rfl
      case hy7b =>
        intro w hSw
        obtain ⟨s0, s1⟩ := hSw
        go_simp
        try with_reducible rfl
      try simp only [Act.put, List.setIfInBounds_toArray, List.set_cons_zero, List.set_cons_succ]
      refine peel_take (i := 8) (oi := ?oi8b) (v := ?v8b) (fun _ _ _ _ _ h => h) hHeld ?hi8b (by kernel_rfl) (by kernel_rfl) (by kernel_rfl) ?hw8b ?hy8b ?rest8b
      case hi8b =>
        simp only [List.getElem?_toArray, List.getElem?_cons_succ, List.getElem?_cons_zero]
        rfl
      case hw8b => rfl
      case hy8b =>
        intro w hSw
        obtain ⟨s0, s1⟩ := hSw
        go_simp
        try with_reducible rfl
      try simp only [Act.put, List.setIfInBounds_toArray, List.set_cons_zero, List.set_cons_succ]
      refine peel_take (i := 9) (oi := ?oi9b) (v := ?v9b) (fun _ _ _ _ _ h => h) hHeld ?hi9b (by kernel_rfl) (by kernel_rfl) (by kernel_rfl) ?hw9b ?hy9b ?rest9b
      case hi9b =>
        simp only [List.getElem?_toArray, List.getElem?_cons_succ, List.getElem?_cons_zero]
        rfl
      case hw9b => rfl
      case hy9b =>
        intro w hSw
        obtain ⟨s0, s1⟩ := hSw
        go_simp
        try with_reducible rfl
      try simp only [Act.put, List.setIfInBounds_toArray, List.set_cons_zero, List.set_cons_succ]
      refine peel_take (i := 10) (oi := ?oi10b) (v := ?v10b) (fun _ _ _ _ _ h => h) hHeld ?hi10b (by kernel_rfl) (by kernel_rfl) (by kernel_rfl) ?hw10b ?hy10b ?rest10b
      case hi10b =>
        simp only [List.getElem?_toArray, List.getElem?_cons_succ, List.getElem?_cons_zero]
        rfl
      case hw10b => rfl
      case hy10b =>
        intro w hSw
        obtain ⟨s0, s1⟩ := hSw
        go_simp
        try with_reducible rfl
      try simp only [Act.put, List.setIfInBounds_toArray, List.set_cons_zero, List.set_cons_succ]
      refine wpAnyH_ready (rs := [11]) (by kernel_rfl) (by simp) ?_
      refine AllReadyH.cons (o := ?o11b) ?ho11b (fun K hK => ?st11b) AllReadyH.nil
      case ho11b =>
        simp only [List.getElem?_toArray, List.getElem?_cons_succ, List.getElem?_cons_zero]
        rfl
      go_simp
      refine hK.out _ _ ?hs11b (fun hHeld => ?re11b)
      case hs11b =>
        have hG5 := (HF.out.drew 1).alloc (.cells #[.int .i64 0, .int .i64 1, .int .i64 k, .int .i64 99] 3)
        exact ⟨hG5.t.cell 0, (hG5.own.cells k hkn).2.2.2.1⟩
      clear hK K
      try simp only [Act.put, List.setIfInBounds_toArray, List.set_cons_zero, List.set_cons_succ]
      refine wpAnyH_ready (rs := [12]) (by kernel_rfl) (by simp) ?_
      refine AllReadyH.cons (o := ?o12b) ?ho12b (fun K hK => ?st12b) AllReadyH.nil
      case ho12b =>
        simp only [List.getElem?_toArray, List.getElem?_cons_succ, List.getElem?_cons_zero]
        rfl
      go_simp
      refine (num_any ((w3.drewN 1).alloc _) r a len cp zs (q + 1 + 1) ((HF.out.drew 1).alloc _).rd (by omega) w3.heap.size 0 4 4 (fun i => [0, 1, (k : Int), 99].getD i 0) (by omega) (by omega) (by omega) (new_ints (w3.drewN 1) [0, 1, (k : Int), 99])).mono ?_
      rintro e w6 ⟨i, hi4, rfl, hg6, hR6⟩
      have hs6 := hnum i hi4
      have hG6 := ((HF.out.drew 1).alloc _).read hg6 hR6
      have hK6 := ((HF.out.drew 1).alloc _).readKids ((HF.out.drew 1).belowKids (HF.out.belowKids HK.out (below_drewN (Below.refl _ _) 1)) ((Below.refl _ _).alloc (Nat.le_refl _) _)) hg6
      have hOw6 : w6.ownsRow (w.heap.size + 1) 3 1 (.slice (L k).kA (D k).kn (L k).kc) (D k).kn (intv ((List.range (D k).kn).map (D k).kids)) := (hK6.room k hkn).owns (hG6.own.lists k hkn).1.2 (fun b o x e => ((hG6.own.lists k hkn).2.2 b o x e).1)
      have hl6 := hG6.t.lt
      have hl6g := hG6.own.lt
      have hl6w := hG6.res.lt
      have hob6 : ∀ b, (Value.slice (L k).kA (D k).kn (L k).kc).ownBlock = some b → b ≠ g ∧ b ≠ T := kid_block hG6 hK6 hkn
      have hnT : some T ≠ (Value.slice (L k).kA (D k).kn (L k).kc).ownBlock := fun e => (hob6 T e.symm).2 rfl
      have hnG : some g ≠ (Value.slice (L k).kA (D k).kn (L k).kc).ownBlock := fun e => (hob6 g e.symm).1 rfl
      generalize hsd : [0, 1, (k : Int), 99].getD i 0 = z at hs6
      refine hK.out _ _ ⟨hG6.t.cell 0, (hG6.own.cells k hkn).2.2.2.1⟩ (fun hHeld => ?re12b)
      clear hK K
      try simp only [Act.put, List.setIfInBounds_toArray, List.set_cons_zero, List.set_cons_succ]
      refine wpAnyH_ready (rs := [13]) (by kernel_rfl) (by simp) ?_
      refine AllReadyH.cons (o := ?o13b) ?ho13b (fun K hK => ?st13b) AllReadyH.nil
      case ho13b =>
        simp only [List.getElem?_toArray, List.getElem?_cons_succ, List.getElem?_cons_zero]
        rfl
      go_simp
      have hG7 := hG6.alloc (.cells #[.int .i64 z] 3)
      refine hK.out _ _ ⟨hG7.t.cell 0, (hG7.own.cells k hkn).2.2.2.1⟩ (fun hHeld => ?re13b)
      clear hK K
      try simp only [Act.put, List.setIfInBounds_toArray, List.set_cons_zero, List.set_cons_succ]
      refine wpAnyH_ready (rs := [14]) (by kernel_rfl) (by simp) ?_
      refine AllReadyH.cons (o := ?o14b) ?ho14b (fun K hK => ?st14b) AllReadyH.nil
      case ho14b =>
        simp only [List.getElem?_toArray, List.getElem?_cons_succ, List.getElem?_cons_zero]
        rfl
      refine step_append_lies _ (by rfl) _ _ _ (by rfl) (w.heap.size + 1) 3 j0 (.int .i64 0) 1 8 Try.underlying34 hj hy0 hy1 hy2 rfl (by decide) (.slice (L k).kA (D k).kn (L k).kc) (D k).kn (intv ((List.range (D k).kn).map (D k).kids)) (by rfl) (hOw6.alloc _) ⟨w6.heap.size, 0, none⟩ 1 1 (intv [z]) (by rfl) (by rfl) (intv_at w6 _) (intv_one _) (by decide) (by unfold maxLen; omega) (by omega) (by simp; omega) (w6.heap.size + 1) (by simp) ?_
      intro g' c' w7 hown hgrow hat hlt7
      have q0 : w7.cell? ⟨T, 0, none⟩ = some (.slice (some ⟨g, 0, none⟩) n cap) := (hgrow.cell_far _ (by simp; omega) hnT).trans (hG7.t.cell 0)
      have q3 : w7.cell? ⟨g, k * 5 + 3, none⟩ = some (.slice (L k).kA (D k).kn (L k).kc) := (hgrow.cell_far _ (by simp; omega) hnG).trans (hG7.own.cells k hkn).2.2.2.1
      have q3f : w7.frozen? ⟨g, k * 5 + 3, none⟩ = false := (hgrow.frozen_far _ (by simp; omega) hnG).trans (hG7.own.frozen (k * 5 + 3))
      refine hK.out _ _ ⟨q0, q3⟩ (fun hHeld => ?re14b)
      clear hK K
      try simp only [Act.put, List.setIfInBounds_toArray, List.set_cons_zero, List.set_cons_succ]
      refine peel_take (i := 15) (oi := ?oi15b) (v := ?v15b) (fun _ _ _ _ _ h => h) hHeld ?hi15b (by kernel_rfl) (by kernel_rfl) (by kernel_rfl) ?hw15b ?hy15b ?rest15b
      case hi15b =>
        simp only [List.getElem?_toArray, List.getElem?_cons_succ, List.getElem?_cons_zero]
        rfl
      case hw15b => rfl
      case hy15b =>
        intro w hSw
        obtain ⟨s0, s1⟩ := hSw
        go_simp
        try with_reducible rfl
      try simp only [Act.put, List.setIfInBounds_toArray, List.set_cons_zero, List.set_cons_succ]
      refine peel_take (i := 16) (oi := ?oi16b) (v := ?v16b) (fun _ _ _ _ _ h => h) hHeld ?hi16b (by kernel_rfl) (by kernel_rfl) (by kernel_rfl) ?hw16b ?hy16b ?rest16b
      case hi16b =>
        simp only [List.getElem?_toArray, List.getElem?_cons_succ, List.getElem?_cons_zero]
        rfl
      case hw16b => rfl
      case hy16b =>
        intro w hSw
        obtain ⟨s0, s1⟩ := hSw
        go_simp
        try with_reducible rfl
      try simp only [Act.put, List.setIfInBounds_toArray, List.set_cons_zero, List.set_cons_succ]
      refine wpAnyH_done (by kernel_rfl) ?_ _
      show Oper.wp _ _ _ _ _ _
      go_simp
      generalize w6.heap.size = b6
      exact NoPanic.normal (KEY.out g' c' z b6 _ ⟨hG7.kidApp (hG6.belowKids hK6 ((Below.refl _ _).alloc (Nat.le_refl _) _)) hkn hown hgrow (hat.elim Or.inl (fun e => Or.inr (by rw [e]; simp))), hs6⟩)
    · intro g' c' z b6 W7 hF7
      have hf : Fair n (putNd D k (kidNd (D k) z)) := (hN.fair (Nat.le_refl _)).put (kid_fair hfk hk10 hF7.2.1 hF7.2.2)
      have HF7 : Hid _ := hF7.1
      have HE : Hid _ := hF7.1.fin hf
      clear hf hF7 t0 t1 HF HK c3
      have t0 : W7.cell? ⟨T, 0, none⟩ = some (.slice (some ⟨g, 0, none⟩) (n) cap) := HF7.out.t.cell 0
      have t1 : W7.cell? ⟨T, 1, none⟩ = some (.int .i64 (now)) := HF7.out.t.cell 1
      have rs0 : W7.cell? ⟨w.heap.size, 0, none⟩ = some (.slice none 0 0) := HF7.out.res.cell 0
      have rs1 : W7.cell? ⟨w.heap.size, 1, none⟩ = some (.int .i64 0) := HF7.out.res.cell 1
      have rf0 := HF7.out.res.frozen 0
      have rf1 := HF7.out.res.frozen 1
      clear HF7
      go_wp2
      refine end_world (F := BEnd w r a len cp zs (q + 1 + 1 + 1) g cap (n) _ _ (now)) HE.out ?_
      clear HE
      rintro WF ⟨hr, hgr⟩
      have r0 := hr.cell 0
      have r1 := hr.cell 1
      simp at r0 r1
      exact bodyPost_ret (v := .agg #[.slice (some ⟨g, 0, none⟩) (n) cap, .int .i64 (now)]) (by simp [results, Try.results16, go_sem, r0, r1]) rfl (bentPost_mk (by omega) (by omega) (by omega) hgr)
  have hb2 : (x == 2) = false := by simp; exact hx2
  by_cases hx3 : x = 3
  · subst hx3
    go_wp2_with fail
    obtain ⟨c0, c1, c2, c3, c4⟩ := HF.out.own.cells 0 hn1
    have hn8 := hN.each 0 hn1
    have hf8 := (hN.fair (Nat.le_refl _)).each 0 hn1
    have hn0i : (0 : Int) < (n : Int) := by omega
    have hn00 : 0 < n := hn1
    have hnum : ∀ i, i < 3 → (0 : Int) ≤ [0, (k : Int), (n : Int)].getD i 0 ∧ [0, (k : Int), (n : Int)].getD i 0 ≤ 99 := fun i hi => getD_in (L := [0, (k : Int), (n : Int)]) (by simp; omega) i hi
    apply wp_cutq4 (X := List ByteArray) (Y := List Int) (Z := Loc) (U := Int) (fun NL KL l' _ W => BI w T r a len cp zs (q + 1 + 1 + 1) g cap n (putNd D 0 (withNd (D 0) NL KL)) (putLoc L 0 l') now W ∧ WL (fun z => 0 ≤ z ∧ z ≤ 99) (D 0).nn true NL KL)
    · intro key
      have KEY : Hid _ := key
      clear key
      refine wp_region_noPanic ?_
      refine wp_region_peel (fun W' => W'.cell? ⟨T, 0, none⟩ = some (.slice (some ⟨g, 0, none⟩) n cap) ∧ W'.cell? ⟨g, 0, none⟩ = some (.int .i64 (D 0).kind) ∧ W'.cell? ⟨g, 1, none⟩ = some (.string (D 0).text) ∧ W'.cell? ⟨g, 2, none⟩ = some (.slice (L 0).nA (D 0).nn (L 0).nc) ∧ W'.cell? ⟨g, 3, none⟩ = some (.slice (L 0).kA (D 0).kn (L 0).kc) ∧ W'.cell? ⟨g, 4, none⟩ = some (.int .i64 (D 0).turn)) _ (by kernel_rfl) rfl (by kernel_rfl) ?_ (fun hHeld => ?_)
      · exact ⟨t0, c0, c1, c2, c3, c4⟩
      simp only [List.pop_toArray, List.dropLast, List.size_toArray, List.length_cons, List.length_nil, Nat.reduceAdd, Nat.reduceSub, List.getElem_toArray, List.getElem_cons_succ, List.getElem_cons_zero]
      refine peel_take (i := 0) (oi := ?oi0) (v := ?v0) (fun _ _ _ _ _ h => h) hHeld ?hi0 (by kernel_rfl) (by kernel_rfl) (by kernel_rfl) ?hw0 ?hy0 ?rest0
      case hi0 =>
        simp only [List.getElem?_toArray, List.getElem?_cons_zero]
        rfl
      case hw0 => rfl
      case hy0 =>
        intro w hSw
        obtain ⟨s0, s1, s2, s3, s4, s5⟩ := hSw
        go_simp
        try with_reducible rfl
      try simp only [Act.put, List.setIfInBounds_toArray, List.set_cons_zero, List.set_cons_succ]
      refine peel_take (i := 1) (oi := ?oi1) (v := ?v1) (fun _ _ _ _ _ h => h) hHeld ?hi1 (by kernel_rfl) (by kernel_rfl) (by kernel_rfl) ?hw1 ?hy1 ?rest1
      case hi1 =>
        simp only [List.getElem?_toArray, List.getElem?_cons_succ, List.getElem?_cons_zero]
        rfl
      case hw1 => rfl
      case hy1 =>
        intro w hSw
        obtain ⟨s0, s1, s2, s3, s4, s5⟩ := hSw
        go_simp
        try with_reducible rfl
      try simp only [Act.put, List.setIfInBounds_toArray, List.set_cons_zero, List.set_cons_succ]
      refine peel_take (i := 2) (oi := ?oi2) (v := ?v2) (fun _ _ _ _ _ h => h) hHeld ?hi2 (by kernel_rfl) (by kernel_rfl) (by kernel_rfl) ?hw2 ?hy2 ?rest2
      case hi2 =>
        simp only [List.getElem?_toArray, List.getElem?_cons_succ, List.getElem?_cons_zero]
        rfl
      case hw2 => rfl
      case hy2 =>
        intro w hSw
        obtain ⟨s0, s1, s2, s3, s4, s5⟩ := hSw
        go_simp
        try with_reducible rfl
      try simp only [Act.put, List.setIfInBounds_toArray, List.set_cons_zero, List.set_cons_succ]
      refine peel_take (i := 3) (oi := ?oi3) (v := ?v3) (fun _ _ _ _ _ h => h) hHeld ?hi3 (by kernel_rfl) (by kernel_rfl) (by kernel_rfl) ?hw3 ?hy3 ?rest3
      case hi3 =>
        simp only [List.getElem?_toArray, List.getElem?_cons_succ, List.getElem?_cons_zero]
        rfl
      case hw3 => rfl
      case hy3 =>
        intro w hSw
        obtain ⟨s0, s1, s2, s3, s4, s5⟩ := hSw
        go_simp
        try with_reducible rfl
      try simp only [Act.put, List.setIfInBounds_toArray, List.set_cons_zero, List.set_cons_succ]
      refine peel_take (i := 4) (oi := ?oi4) (v := ?v4) (fun _ _ _ _ _ h => h) hHeld ?hi4 (by kernel_rfl) (by kernel_rfl) (by kernel_rfl) ?hw4 ?hy4 ?rest4
      case hi4 =>
        simp only [List.getElem?_toArray, List.getElem?_cons_succ, List.getElem?_cons_zero]
        rfl
      case hw4 => rfl
      case hy4 =>
        intro w hSw
        obtain ⟨s0, s1, s2, s3, s4, s5⟩ := hSw
        go_simp
        try with_reducible rfl
      try simp only [Act.put, List.setIfInBounds_toArray, List.set_cons_zero, List.set_cons_succ]
      refine peel_take (i := 5) (oi := ?oi5) (v := ?v5) (fun _ _ _ _ _ h => h) hHeld ?hi5 (by kernel_rfl) (by kernel_rfl) (by kernel_rfl) ?hw5 ?hy5 ?rest5
      case hi5 =>
        simp only [List.getElem?_toArray, List.getElem?_cons_succ, List.getElem?_cons_zero]
        rfl
      case hw5 => rfl
      case hy5 =>
        intro w hSw
        obtain ⟨s0, s1, s2, s3, s4, s5⟩ := hSw
        go_simp
        try with_reducible rfl
      try simp only [Act.put, List.setIfInBounds_toArray, List.set_cons_zero, List.set_cons_succ]
      refine peel_take (i := 6) (oi := ?oi6) (v := ?v6) (fun _ _ _ _ _ h => h) hHeld ?hi6 (by kernel_rfl) (by kernel_rfl) (by kernel_rfl) ?hw6 ?hy6 ?rest6
      case hi6 =>
        simp only [List.getElem?_toArray, List.getElem?_cons_succ, List.getElem?_cons_zero]
        rfl
      case hw6 => rfl
      case hy6 =>
        intro w hSw
        obtain ⟨s0, s1, s2, s3, s4, s5⟩ := hSw
        go_simp
        try with_reducible rfl
      try simp only [Act.put, List.setIfInBounds_toArray, List.set_cons_zero, List.set_cons_succ]
      refine peel_take (i := 7) (oi := ?oi7) (v := ?v7) (fun _ _ _ _ _ h => h) hHeld ?hi7 (by kernel_rfl) (by kernel_rfl) (by kernel_rfl) ?hw7 ?hy7 ?rest7
      case hi7 =>
        simp only [List.getElem?_toArray, List.getElem?_cons_succ, List.getElem?_cons_zero]
        rfl
      case hw7 => rfl
      case hy7 =>
        intro w hSw
        obtain ⟨s0, s1, s2, s3, s4, s5⟩ := hSw
        go_simp
        try with_reducible rfl
      try simp only [Act.put, List.setIfInBounds_toArray, List.set_cons_zero, List.set_cons_succ]
      refine peel_take (i := 8) (oi := ?oi8) (v := ?v8) (fun _ _ _ _ _ h => h) hHeld ?hi8 (by kernel_rfl) (by kernel_rfl) (by kernel_rfl) ?hw8 ?hy8 ?rest8
      case hi8 =>
        simp only [List.getElem?_toArray, List.getElem?_cons_succ, List.getElem?_cons_zero]
        rfl
      case hw8 => rfl
      case hy8 =>
        intro w hSw
        obtain ⟨s0, s1, s2, s3, s4, s5⟩ := hSw
        go_simp
        try with_reducible rfl
      try simp only [Act.put, List.setIfInBounds_toArray, List.set_cons_zero, List.set_cons_succ]
      refine peel_take (i := 9) (oi := ?oi9) (v := ?v9) (fun _ _ _ _ _ h => h) hHeld ?hi9 (by kernel_rfl) (by kernel_rfl) (by kernel_rfl) ?hw9 ?hy9 ?rest9
      case hi9 =>
        simp only [List.getElem?_toArray, List.getElem?_cons_succ, List.getElem?_cons_zero]
        rfl
      case hw9 => rfl
      case hy9 =>
        intro w hSw
        obtain ⟨s0, s1, s2, s3, s4, s5⟩ := hSw
        go_simp
        try with_reducible rfl
      try simp only [Act.put, List.setIfInBounds_toArray, List.set_cons_zero, List.set_cons_succ]
      refine peel_take (i := 10) (oi := ?oi10) (v := ?v10) (fun _ _ _ _ _ h => h) hHeld ?hi10 (by kernel_rfl) (by kernel_rfl) (by kernel_rfl) ?hw10 ?hy10 ?rest10
      case hi10 =>
        simp only [List.getElem?_toArray, List.getElem?_cons_succ, List.getElem?_cons_zero]
        rfl
      case hw10 => rfl
      case hy10 =>
        intro w hSw
        obtain ⟨s0, s1, s2, s3, s4, s5⟩ := hSw
        go_simp
        try with_reducible rfl
      try simp only [Act.put, List.setIfInBounds_toArray, List.set_cons_zero, List.set_cons_succ]
      refine wpAnyH_ready (rs := [11]) (by kernel_rfl) (by simp) ?_
      refine AllReadyH.cons (o := ?o11) ?ho11 (fun K hK => ?st11) AllReadyH.nil
      case ho11 =>
        simp only [List.getElem?_toArray, List.getElem?_cons_succ, List.getElem?_cons_zero]
        rfl
      go_simp
      refine hK.out _ _ ?hs11 (fun hHeld => ?re11)
      case hs11 =>
        have hG5 := (HF.out.drew 1).alloc (.cells #[.int .i64 0, .int .i64 k, .int .i64 n] 3)
        obtain ⟨C0, C1, C2, C3, C4⟩ := hG5.own.cells 0 hn1
        exact ⟨hG5.t.cell 0, C0, C1, C2, C3, C4⟩
      clear hK K
      try simp only [Act.put, List.setIfInBounds_toArray, List.set_cons_zero, List.set_cons_succ]
      refine wpAnyH_ready (rs := [12]) (by kernel_rfl) (by simp) ?_
      refine AllReadyH.cons (o := ?o12) ?ho12 (fun K hK => ?st12) AllReadyH.nil
      case ho12 =>
        simp only [List.getElem?_toArray, List.getElem?_cons_succ, List.getElem?_cons_zero]
        rfl
      go_simp
      refine (num_any ((w3.drewN 1).alloc _) r a len cp zs (q + 1 + 1) ((HF.out.drew 1).alloc _).rd (by omega) w3.heap.size 0 3 3 (fun i => [0, (k : Int), (n : Int)].getD i 0) (by omega) (by omega) (by omega) (new_ints (w3.drewN 1) [0, (k : Int), (n : Int)])).mono ?_
      rintro e w6 ⟨i, hi3, rfl, hg6, hR6⟩
      have hs6 := hnum i hi3
      have hG6 := ((HF.out.drew 1).alloc _).read hg6 hR6
      obtain ⟨C0, C1, C2, C3, C4⟩ := hG6.own.cells 0 hn1
      have hl6 := hG6.t.lt
      have hl6g := hG6.own.lt
      generalize hsd : [0, (k : Int), (n : Int)].getD i 0 = z at hs6
      refine hK.out _ _ ⟨hG6.t.cell 0, C0, C1, C2, C3, C4⟩ (fun hHeld => ?re12)
      clear hK K
      try simp only [Act.put, List.setIfInBounds_toArray, List.set_cons_zero, List.set_cons_succ]
      refine wpAnyH_ready (rs := [13]) (by kernel_rfl) (by simp) ?_
      refine AllReadyH.cons (o := ?o13) ?ho13 (fun K hK => ?st13) AllReadyH.nil
      case ho13 =>
        simp only [List.getElem?_toArray, List.getElem?_cons_succ, List.getElem?_cons_zero]
        rfl
      go_simp
      refine (l2With_any (fun z => 0 ≤ z ∧ z ≤ 99) (D 0) (L 0) ⟨#[122, 122]⟩ z w6 (hG6.own.lists 0 hn1).1 hn8.same (by have := hn8.few; omega) hn8.short (by simp [Nm, nmL]) (fun i hi => by have h1 := hn8.kids i hi; omega) hs6).mono ?_
      rintro e w9 ⟨NL, KL, l', rfl, hmade, hwl⟩
      unfold ndV
      have hG9 := hG6.below hmade.bel
      obtain ⟨E0, E1, E2, E3, E4⟩ := hG9.own.cells 0 hn1
      refine hK.out _ _ ⟨hG9.t.cell 0, E0, E1, E2, E3, E4⟩ (fun hHeld => ?re13)
      clear hK K
      try simp only [Act.put, List.setIfInBounds_toArray, List.set_cons_zero, List.set_cons_succ]
      refine peel_take (i := 14) (oi := ?oi14) (v := ?v14) (fun _ _ _ _ _ h => h) hHeld ?hi14 (by kernel_rfl) (by kernel_rfl) (by kernel_rfl) ?hw14 ?hy14 ?rest14
      case hi14 =>
        simp only [List.getElem?_toArray, List.getElem?_cons_succ, List.getElem?_cons_zero]
        rfl
      case hw14 => rfl
      case hy14 =>
        intro w hSw
        obtain ⟨s0, s1, s2, s3, s4, s5⟩ := hSw
        go_simp
        try with_reducible rfl
      try simp only [Act.put, List.setIfInBounds_toArray, List.set_cons_zero, List.set_cons_succ]
      refine wpAnyH_done (by kernel_rfl) ?_ _
      have F0 := hG9.own.frozen (0 * 5)
      have F1 := hG9.own.frozen (0 * 5 + 1)
      have F2 := hG9.own.frozen (0 * 5 + 2)
      have F3 := hG9.own.frozen (0 * 5 + 3)
      have F4 := hG9.own.frozen (0 * 5 + 4)
      obtain ⟨S0, S1, S2, S3, S4, S5⟩ := hHeld
      show Oper.wp _ _ _ _ _ _
      go_simp
      exact NoPanic.normal (KEY.out NL KL l' z _ ⟨hG9.putNode hn1 (withNd (D 0) NL KL) l' hmade.lies (fun b o x e => by have := hmade.nA b o x e; omega) (fun b o x e => by have := hmade.kA b o x e; omega), hwl⟩)
    · intro NL KL l' z W7 hF7
      have hf : Fair n (putNd D 0 (withNd (D 0) NL KL)) := (hN.fair (Nat.le_refl _)).put (with_fair hf8 (by have := hn8.few; omega) hF7.2)
      have HF7 : Hid _ := hF7.1
      have HE : Hid _ := hF7.1.fin hf
      clear hf hF7 t0 t1 HF c0 c1 c2 c3 c4
      have t0 : W7.cell? ⟨T, 0, none⟩ = some (.slice (some ⟨g, 0, none⟩) (n) cap) := HF7.out.t.cell 0
      have t1 : W7.cell? ⟨T, 1, none⟩ = some (.int .i64 (now)) := HF7.out.t.cell 1
      have rs0 : W7.cell? ⟨w.heap.size, 0, none⟩ = some (.slice none 0 0) := HF7.out.res.cell 0
      have rs1 : W7.cell? ⟨w.heap.size, 1, none⟩ = some (.int .i64 0) := HF7.out.res.cell 1
      have rf0 := HF7.out.res.frozen 0
      have rf1 := HF7.out.res.frozen 1
      clear HF7
      go_wp2
      refine end_world (F := BEnd w r a len cp zs (q + 1 + 1 + 1) g cap (n) _ _ (now)) HE.out ?_
      clear HE
      rintro WF ⟨hr, hgr⟩
      have r0 := hr.cell 0
      have r1 := hr.cell 1
      simp at r0 r1
      exact bodyPost_ret (v := .agg #[.slice (some ⟨g, 0, none⟩) (n) cap, .int .i64 (now)]) (by simp [results, Try.results16, go_sem, r0, r1]) rfl (bentPost_mk (by omega) (by omega) (by omega) hgr)
  have hb3 : (x == 3) = false := by simp; exact hx3
  by_cases hx4 : x = 4
  · subst hx4
    go_wp2_with fail
    clear HK
    apply wp_cutq1 (X := ByteArray) (fun s W => BI w T r a len cp zs (q + 1 + 1 + 1) g cap n (putNd D k { D k with text := s }) L now W ∧ s.size ≤ 10)
    · intro key
      have KEY : Hid _ := key
      clear key
      go_region_with (
        go_at_call 34
        refine (of_any ((w3.drewN 1).alloc _) r a len cp zs (q + 1 + 1) ((HF.out.drew 1).alloc _).rd (by omega) w3.heap.size 0 3 3 (fun i => bent3.getD i ByteArray.empty) (by omega) (by omega) (by omega) (new_strs (w3.drewN 1) bent3)).mono ?_
        rintro e w6 ⟨i, hi3, rfl, hg6, hR6⟩
        have hs6 : (bent3.getD i ByteArray.empty).size ≤ 10 := getD_size rfl i
        have hG6 := ((HF.out.drew 1).alloc _).read hg6 hR6
        have T0 : w6.cell? ⟨T, 0, none⟩ = some (.slice (some ⟨g, 0, none⟩) n cap) := hG6.t.cell 0
        have E1 := (hG6.own.cells k hkn).2.1
        have EF1 := hG6.own.frozen (k * 5 + 1)
        generalize hsd : bent3.getD i ByteArray.empty = s at hs6)
      all_goals exact KEY.out s _ ⟨hG6.put (hG6.own.setText hkn s), hs6⟩
    · intro s W7 hF7
      have hf : Fair n (putNd D k { D k with text := s }) := (hN.fair (Nat.le_refl _)).put ⟨hfk.nn, hfk.kn, hfk.names, hfk.kids, hF7.2, hfk.kind, hfk.turn⟩
      have HF7 : Hid _ := hF7.1
      have HE : Hid _ := hF7.1.fin hf
      clear hf hF7 t0 t1 HF
      have t0 : W7.cell? ⟨T, 0, none⟩ = some (.slice (some ⟨g, 0, none⟩) (n) cap) := HF7.out.t.cell 0
      have t1 : W7.cell? ⟨T, 1, none⟩ = some (.int .i64 (now)) := HF7.out.t.cell 1
      have rs0 : W7.cell? ⟨w.heap.size, 0, none⟩ = some (.slice none 0 0) := HF7.out.res.cell 0
      have rs1 : W7.cell? ⟨w.heap.size, 1, none⟩ = some (.int .i64 0) := HF7.out.res.cell 1
      have rf0 := HF7.out.res.frozen 0
      have rf1 := HF7.out.res.frozen 1
      clear HF7
      go_wp2
      refine end_world (F := BEnd w r a len cp zs (q + 1 + 1 + 1) g cap (n) _ L (now)) HE.out ?_
      clear HE
      rintro WF ⟨hr, hgr⟩
      have r0 := hr.cell 0
      have r1 := hr.cell 1
      simp at r0 r1
      exact bodyPost_ret (v := .agg #[.slice (some ⟨g, 0, none⟩) (n) cap, .int .i64 (now)]) (by simp [results, Try.results16, go_sem, r0, r1]) rfl (bentPost_mk (by omega) (by omega) (by omega) hgr)
  have hb4 : (x == 4) = false := by simp; exact hx4
  by_cases hx5 : x = 5
  · subst hx5
    clear HK
    obtain ⟨cur6, hc6, hs6⟩ := (HF.out.alloc (.cells #[.int .i64 1, .string ⟨#[]⟩, .slice none 0 0, .slice none 0 0, .int .i64 1] 36)).own.blk
    go_wp2_with (at_builtin; refine wpList_append_lies _ rfl _ _ 23 rfl (w.heap.size + 1) 36 i0 _ 5 80 Try.underlying23 hi0 hz0 hz1 hz2 rfl (by decide) (.slice (some ⟨g, 0, none⟩) n cap) n (cur6.toList.take (n * 5)) rfl ((HF.out.alloc _).own.owns hc6 hs6) ⟨w3.heap.size, 0, none⟩ 1 1 (leafCells 1 1) rfl rfl (World.news_of_block (cs := #[.int .i64 1, .string ⟨#[]⟩, .slice none 0 0, .slice none 0 0, .int .i64 1]) (t := 36) (fr := (0, 0)) (heap_alloc_new w3 _)) (by simp [leafCells, Value.oneCell']) (by decide) (by unfold maxLen; omega) (by omega) (by simp; omega) (w3.heap.size + 1) (by simp) ?_)
    intro g' c' w7 hown hgrow hat hlt7
    have q0 : w7.cell? ⟨T, 0, none⟩ = some (.slice (some ⟨g, 0, none⟩) n cap) := (hgrow.cell_far _ (by simp; omega) (by simp [Value.ownBlock]; omega)).trans ((HF.out.alloc _).t.cell 0)
    have q1 : w7.cell? ⟨T, 1, none⟩ = some (.int .i64 now) := (hgrow.cell_far _ (by simp; omega) (by simp [Value.ownBlock]; omega)).trans ((HF.out.alloc _).t.cell 1)
    have q0f : w7.frozen? ⟨T, 0, none⟩ = false := (hgrow.frozen_far _ (by simp; omega) (by simp [Value.ownBlock]; omega)).trans ((HF.out.alloc _).t.frozen 0)
    have hgw : g ≠ w.heap.size := by have := HF.out.base.1; omega
    have rs0 : w7.cell? ⟨w.heap.size, 0, none⟩ = some (.slice none 0 0) := (hgrow.cell_far _ (by simp; omega) (by simp [Value.ownBlock]; omega)).trans ((HF.out.alloc _).res.cell 0)
    have rs1 : w7.cell? ⟨w.heap.size, 1, none⟩ = some (.int .i64 0) := (hgrow.cell_far _ (by simp; omega) (by simp [Value.ownBlock]; omega)).trans ((HF.out.alloc _).res.cell 1)
    have rf0 : w7.frozen? ⟨w.heap.size, 0, none⟩ = false := (hgrow.frozen_far _ (by simp; omega) (by simp [Value.ownBlock]; omega)).trans ((HF.out.alloc _).res.frozen 0)
    have rf1 : w7.frozen? ⟨w.heap.size, 1, none⟩ = false := (hgrow.frozen_far _ (by simp; omega) (by simp [Value.ownBlock]; omega)).trans ((HF.out.alloc _).res.frozen 1)
    have hF7 := (HF.out.alloc _).append hc6 hs6 hown (by simpa [Value.ownBlock] using hgrow) (hat.elim (fun e => Or.inl (by simpa [Value.ownBlock] using e)) (fun e => Or.inr (by rw [e]; simp)))
    have HE : Hid _ := hF7.fin ((hN.fair (Nat.le_refl _)).app (by omega) leaf_fair)
    clear hF7 hown hgrow hat hlt7 t0 t1 HF hc6 hs6
    go_wp2
    refine end_world (F := BEnd w r a len cp zs (q + 1 + 1) g' c' (n + 1) _ _ (now)) HE.out ?_
    clear HE
    rintro WF ⟨hr, hgr⟩
    have r0 := hr.cell 0
    have r1 := hr.cell 1
    simp at r0 r1
    exact bodyPost_ret (v := .agg #[.slice (some ⟨g', 0, none⟩) (n + 1) c', .int .i64 (now)]) (by simp [results, Try.results16, go_sem, r0, r1]) rfl (bentPost_mk (by omega) (by omega) (by omega) hgr)
  have hb5 : (x == 5) = false := by simp; exact hx5
  by_cases hx6 : x = 6
  · subst hx6
    go_wp2_with fail
    clear HK
    refine (num_any (w3.alloc _) r a len cp zs (q + 1 + 1) (HF.out.alloc _).rd (by omega) w3.heap.size 0 2 2 (fun i => [(0 : Int), 1001].getD i 0) (by omega) (by omega) (by omega) (new_ints w3 [0, 1001])).mono ?_
    rintro e w6 ⟨i, hi3, rfl, hg6, hR6⟩
    have hs6 : 0 ≤ [(0 : Int), 1001].getD i 0 ∧ [(0 : Int), 1001].getD i 0 ≤ 1001 := getD_in (by simp) i hi3
    have HF6 : Hid _ := (HF.out.alloc _).read hg6 hR6
    generalize [(0 : Int), 1001].getD i 0 = z at hs6 ⊢
    have HE : Hid _ := (HF6.out.setNow z).fin (hN.fair (Nat.le_refl _))
    clear hg6 hR6 t0 t1 HF
    have t0 : w6.cell? ⟨T, 0, none⟩ = some (.slice (some ⟨g, 0, none⟩) n cap) := HF6.out.t.cell 0
    have t1 : w6.cell? ⟨T, 1, none⟩ = some (.int .i64 now) := HF6.out.t.cell 1
    have tf1 := HF6.out.t.frozen 1
    have rs0 : w6.cell? ⟨w.heap.size, 0, none⟩ = some (.slice none 0 0) := HF6.out.res.cell 0
    have rs1 : w6.cell? ⟨w.heap.size, 1, none⟩ = some (.int .i64 0) := HF6.out.res.cell 1
    have rf0 := HF6.out.res.frozen 0
    have rf1 := HF6.out.res.frozen 1
    clear HF6
    go_wp2
    refine end_world (F := BEnd w r a len cp zs (q + 1 + 1 + 1) g cap (n) D L (z)) HE.out ?_
    clear HE
    rintro WF ⟨hr, hgr⟩
    have r0 := hr.cell 0
    have r1 := hr.cell 1
    simp at r0 r1
    exact bodyPost_ret (v := .agg #[.slice (some ⟨g, 0, none⟩) (n) cap, .int .i64 (z)]) (by simp [results, Try.results16, go_sem, r0, r1]) rfl (bentPost_mk (by omega) (by omega) (by omega) hgr)
  have hb6 : (x == 6) = false := by simp; exact hx6
  have HE : Hid _ := HF.out.fin (hN.fair (Nat.le_refl _))
  have rs0 : w3.cell? ⟨w.heap.size, 0, none⟩ = some (.slice none 0 0) := HF.out.res.cell 0
  have rs1 : w3.cell? ⟨w.heap.size, 1, none⟩ = some (.int .i64 0) := HF.out.res.cell 1
  have rf0 := HF.out.res.frozen 0
  have rf1 := HF.out.res.frozen 1
  clear HF HK hx0 hx1 hx2 hx3 hx4 hx5 hx6
  go_wp2
  refine end_world (F := BEnd w r a len cp zs (q + 1 + 1) g cap (n) D L (now)) HE.out ?_
  clear HE
  rintro WF ⟨hr, hgr⟩
  have r0 := hr.cell 0
  have r1 := hr.cell 1
  simp at r0 r1
  exact bodyPost_ret (v := .agg #[.slice (some ⟨g, 0, none⟩) (n) cap, .int .i64 (now)]) (by simp [results, Try.results16, go_sem, r0, r1]) rfl (bentPost_mk (by omega) (by omega) (by omega) hgr)
end Go.Proofs.Ytlikmphjocjmeaa

/-
  What the draws of trees give: a tree in new memory, bent or not.
-/
namespace Go.Proofs.Ytlikmphjocjmeaa
open Go.RowKit Go.Deep
set_option linter.unusedVariables false

/-- A drawn tree lies in new memory. -/
structure DrawnT (w : World) (g c n : Nat) (D : Nat → Nd) (L : Nat → Loc) (now : Int) (w' : World) : Prop where
  own : OwnT w' w.heap.size g c n D L
  fair : Fair n D
  now0 : 0 ≤ now
  now1 : now ≤ 1001
  bel : Below w.heap.size w w'

theorem sizeTo_le {n : Nat} {D : Nat → Nd} (k : Nat) (h : ∀ i, i < n → (D i).size ≤ k) : ∀ m, m ≤ n → sizeTo D m ≤ m * k
  | 0, _ => by simp [sizeTo]
  | m + 1, hm => by
    have h1 := sizeTo_le k h m (by omega)
    have h2 := h m (by omega)
    rw [sizeTo_succ, Nat.add_mul]
    omega

theorem sumTo_le {n : Nat} {S : Nat → ByteArray} (k : Nat) (h : ∀ i, i < n → (S i).size ≤ k) : ∀ m, m ≤ n → sumTo S m ≤ m * k
  | 0, _ => by simp [sumTo]
  | m + 1, hm => by
    have h1 := sumTo_le k h m (by omega)
    have h2 := h m (by omega)
    rw [sumTo_succ, Nat.add_mul]
    omega

theorem FairNd.small {d : Nd} (h : FairNd d) : d.size ≤ 100 := by
  have h1 := h.nn
  have h2 := h.kn
  have h3 := h.text
  have h4 := sumTo_le 4 (fun i hi => (h.names i hi).size) d.nn (Nat.le_refl _)
  unfold Nd.size
  omega

theorem Fair.size {n : Nat} {D : Nat → Nd} (h : Fair n D) : sizeTo D n ≤ 1048576 := by
  have h1 := sizeTo_le 100 (fun i hi => (h.each i hi).small) n (Nat.le_refl _)
  have h2 := h.few
  omega

theorem Fair.len {n : Nat} {D : Nat → Nd} (h : Fair n D) : n ≤ maxLen := by have := h.few; unfold maxLen; omega

section
variable {w : World} {g c n : Nat} {D : Nat → Nd} {L : Nat → Loc} {now : Int} {w' w'' : World}

theorem DrawnT.nds (h : DrawnT w g c n D L now w') : IsNds w' (some ⟨g, 0, none⟩) n D L := h.own.nds

theorem DrawnT.below (h : DrawnT w g c n D L now w') (hb : Below w'.heap.size w' w'') : DrawnT w g c n D L now w'' :=
  ⟨h.own.below hb, h.fair, h.now0, h.now1, h.bel.trans (hb.mono h.bel.size)⟩
end

/-- .. and in a variable of the law's. -/
structure InT (w : World) (T g c n : Nat) (D : Nat → Nd) (L : Nat → Loc) (now : Int) (W : World) : Prop where
  drawn : DrawnT w g c n D L now W
  t : Blk W T #[.slice (some ⟨g, 0, none⟩) n c, .int .i64 now] 25

section
variable {w : World} {T g c n : Nat} {D : Nat → Nd} {L : Nat → Loc} {now : Int} {W W' : World}
theorem InT.below (h : InT w T g c n D L now W) (hb : Below W.heap.size W W') : InT w T g c n D L now W' := ⟨h.drawn.below hb, h.t.below hb h.t.lt⟩
theorem InT.drew (h : InT w T g c n D L now W) (k : Nat) : InT w T g c n D L now (W.drewN k) := h.below (below_drewN (Below.refl _ _) k)
theorem InT.alloc (h : InT w T g c n D L now W) (o : Obj) : InT w T g c n D L now (W.alloc o) := h.below ((Below.refl _ _).alloc (Nat.le_refl _) _)
theorem InT.start (h : DrawnT w g c n D L now W) : InT w W.heap.size g c n D L now (W.alloc (.cells #[.slice (some ⟨g, 0, none⟩) n c, .int .i64 now] 25)) := ⟨h.below ((Below.refl _ _).alloc (Nat.le_refl _) _), Blk.new W _ _⟩
theorem InT.in64 (h : InT w T g c n D L now W) : In64 now := by have h0 := h.drawn.now0; have h1 := h.drawn.now1; unfold In64; omega
end

/-- The answer of a draw is written into its block. -/
structure DEnd (w : World) (B g c n : Nat) (D : Nat → Nd) (L : Nat → Loc) (now : Int) (W : World) : Prop where
  ans : Blk W B #[.slice (some ⟨g, 0, none⟩) n c, .int .i64 now] 25
  drawn : DrawnT w g c n D L now W

/-- What is known of a drawn tree behind a reader of one's own: the answer's block is w.heap.size, the reader's the next one. -/
structure RT (w : World) (a : Option Addr) (len cp : Nat) (zs : Nat → Int) (q g c n : Nat) (D : Nat → Nd) (L : Nat → Loc) (now : Int) (W : World) : Prop where
  rd : IsRd W (w.heap.size + 1) a len cp zs q
  res : Blk W w.heap.size #[.slice none 0 0, .int .i64 0] 25
  own : OwnT W (w.heap.size + 2) g c n D L
  fair : Fair n D
  now0 : 0 ≤ now
  now1 : now ≤ 1001
  bel : Below w.heap.size w W

theorem RT.start {w w1 w2 : World} {a : Option Addr} {len cp : Nat} {zs : Nat → Int} {q g c n : Nat} {D : Nat → Nd} {L : Nat → Loc} {now : Int} (h1 : Below (w.heap.size + 1) (w.alloc (.cells #[.slice none 0 0, .int .i64 0] 25)) w1) (hl : w.heap.size + 2 ≤ w1.heap.size)
    (h : BentD w1 (w.heap.size + 1) a len cp zs q g c n D L w2) (h0 : 0 ≤ now) (h1' : now ≤ 1001) : RT w a len cp zs q g c n D L now w2 := by
  have hs := h.grown.size
  have b1 : Blk w1 w.heap.size #[.slice none 0 0, .int .i64 0] 25 := (Blk.new w _ _).below h1 (by omega)
  refine ⟨h.rd, b1.of_block (h.grown.block _ (by omega) (by simp)), h.own.lower (by omega), h.fair, h0, h1', ?_⟩
  refine ⟨h.grown.os.trans h1.os, h.grown.tape.trans h1.tape, h.grown.output.trans h1.output, by omega, fun k hk => ?_⟩
  exact (h.grown.block k (by omega) (by simp; omega)).trans ((h1.block k (by omega)).trans (blk_alloc_lt _ _ _ hk))

theorem RT.fin {w : World} {a : Option Addr} {len cp : Nat} {zs : Nat → Int} {q g c n : Nat} {D : Nat → Nd} {L : Nat → Loc} {now : Int} {W : World} (h : RT w a len cp zs q g c n D L now W) :
    DEnd w w.heap.size g c n D L now ((W.setCell ⟨w.heap.size, 0, none⟩ (.slice (some ⟨g, 0, none⟩) n c)).setCell ⟨w.heap.size, 1, none⟩ (.int .i64 now)) := by
  have hb := h.own.base
  have ha : Away (fun b => b = w.heap.size) g n L := ⟨by omega, fun i hi => ⟨fun b o x e => by have := ((h.own.lists i hi).2.1 b o x e).1; omega, fun b o x e => by have := ((h.own.lists i hi).2.2 b o x e).1; omega⟩⟩
  exact ⟨(h.res.set 0 _).set 1 _, ((h.own.setOther ha rfl _ _).setOther ha rfl _ _).lower (by omega), h.fair, h.now0, h.now1, bel_put (bel_put h.bel _ (Nat.le_refl _)) _ (Nat.le_refl _)⟩

def DrawTPost (w : World) (e : Ending) (w' : World) : Prop := ∃ g c n D L now, e = .returned (trV (some ⟨g, 0, none⟩) n c now) ∧ DrawnT w g c n D L now w'
theorem drawTPost_mk {w : World} {g c n : Nat} {D : Nat → Nd} {L : Nat → Loc} {now : Int} {W : World} (h : DrawnT w g c n D L now W) : DrawTPost w (.returned (.agg #[.slice (some ⟨g, 0, none⟩) n c, .int .i64 now])) W := ⟨g, c, n, D, L, now, rfl, h⟩

theorem RT.below {w : World} {a : Option Addr} {len cp : Nat} {zs : Nat → Int} {q g c n : Nat} {D : Nat → Nd} {L : Nat → Loc} {now : Int} {W W' : World} (h : RT w a len cp zs q g c n D L now W) (hb : Below W.heap.size W W') : RT w a len cp zs q g c n D L now W' := by
  have h1 := h.rd.lt
  have h2 := h.bel.size
  exact ⟨h.rd.kept (fun k hk => hb.block k (by omega)), h.res.below hb h.res.lt, h.own.below hb, h.fair, h.now0, h.now1, h.bel.trans (hb.mono h2)⟩

theorem RT.read {w : World} {a : Option Addr} {len cp : Nat} {zs : Nat → Int} {q q' g c n : Nat} {D : Nat → Nd} {L : Nat → Loc} {now : Int} {W W' : World} (h : RT w a len cp zs q g c n D L now W) (hg : W.grownBy W' (some (w.heap.size + 1))) (hr : IsRd W' (w.heap.size + 1) a len cp zs q') : RT w a len cp zs q' g c n D L now W' := by
  have h1 := h.res.lt
  exact ⟨hr, h.res.of_block (hg.block _ h1 (by simp)), h.own.grown hg (by omega), h.fair, h.now0, h.now1, h.bel.grown hg (Nat.le_of_lt h1) (fun k e => by simp at e; omega)⟩

/-- .. and the tree lies in a variable. -/
structure RTB (w : World) (T : Nat) (a : Option Addr) (len cp : Nat) (zs : Nat → Int) (q g c n : Nat) (D : Nat → Nd) (L : Nat → Loc) (now : Int) (W : World) : Prop where
  rt : RT w a len cp zs q g c n D L now W
  t : Blk W T #[.slice (some ⟨g, 0, none⟩) n c, .int .i64 now] 25
  far : w.heap.size + 1 < T

section
variable {w : World} {T : Nat} {a : Option Addr} {len cp : Nat} {zs : Nat → Int} {q q' g c n : Nat} {D : Nat → Nd} {L : Nat → Loc} {now : Int} {W W' : World}
theorem RTB.below (h : RTB w T a len cp zs q g c n D L now W) (hb : Below W.heap.size W W') : RTB w T a len cp zs q g c n D L now W' := ⟨h.rt.below hb, h.t.below hb h.t.lt, h.far⟩
theorem RTB.drew (h : RTB w T a len cp zs q g c n D L now W) (k : Nat) : RTB w T a len cp zs q g c n D L now (W.drewN k) := h.below (below_drewN (Below.refl _ _) k)
theorem RTB.alloc (h : RTB w T a len cp zs q g c n D L now W) (o : Obj) : RTB w T a len cp zs q g c n D L now (W.alloc o) := h.below ((Below.refl _ _).alloc (Nat.le_refl _) _)
theorem RTB.read (h : RTB w T a len cp zs q g c n D L now W) (hg : W.grownBy W' (some (w.heap.size + 1))) (hr : IsRd W' (w.heap.size + 1) a len cp zs q') : RTB w T a len cp zs q' g c n D L now W' :=
  ⟨h.rt.read hg hr, h.t.of_block (hg.block T h.t.lt (by have := h.far; simp; omega)), h.far⟩
end

theorem IsCode.alloc {w : World} {a : Option Addr} {len : Nat} {zs : Nat → Int} (h : IsCode w a len zs) (o : Obj) : IsCode (w.alloc o) a len zs := h.below ((Below.refl _ _).alloc (Nat.le_refl _) _)

set_option maxRecDepth 100000 in
set_option maxHeartbeats 1000000 in
theorem drawTreeOk_any (w : World) (a : Option Addr) (len cap : Nat) (zs : Nat → Int) (hc : IsCode w a len zs) (hlen : len ≤ maxLen) (hcap : len ≤ cap) :
    Calls Try.prog 5 #[.slice a len cap] w (DrawTPost w) := by
  go_enter Try.func5, Try.ntmps5
  go_wp2_with fail
  refine (l11Open_any _ a len cap zs hlen hcap (hc.alloc _)).mono ?_
  rintro e w1 ⟨rfl, hb, len', hR⟩
  have es : (w.alloc (.cells #[.slice none 0 0, .int .i64 0] 25)).heap.size = w.heap.size + 1 := by simp
  rw [es] at hb hR ⊢
  have hl := hR.lt
  go_wp2_with fail
  refine (l2Bent_any w1 (w.heap.size + 1) a len' cap zs 0 hR (by omega)).mono ?_
  rintro e w2 ⟨g, c, n, D, L, now, q, rfl, hn0, hn1, hq, hd⟩
  have HT : Hid _ := RT.start hb hl hd hn0 hn1
  have rs0 : w2.cell? ⟨w.heap.size, 0, none⟩ = some (.slice none 0 0) := HT.out.res.cell 0
  have rs1 : w2.cell? ⟨w.heap.size, 1, none⟩ = some (.int .i64 0) := HT.out.res.cell 1
  have rf0 := HT.out.res.frozen 0
  have rf1 := HT.out.res.frozen 1
  have HE : Hid _ := HT.out.fin
  unfold trV
  clear hd hR hb HT
  go_wp2
  refine end_world (F := DEnd w w.heap.size g c n D L now) HE.out ?_
  clear HE
  rintro WF ⟨hr, hgr⟩
  have r0 := hr.cell 0
  have r1 := hr.cell 1
  simp at r0 r1
  exact bodyPost_ret (v := .agg #[.slice (some ⟨g, 0, none⟩) n c, .int .i64 now]) (by simp [results, Try.results5, go_sem, r0, r1]) rfl (drawTPost_mk hgr)

theorem pick_back {x y : Int} {n : Nat} (hx0 : 0 ≤ x) (hx1 : x < (n : Int) + 1) (hn : n ≤ 11) (hy0 : 0 ≤ y) (hy1 : y < 9) : -1 ≤ IntKind.i64.wrap (x - IntKind.i64.wrap (y.tdiv 8)) ∧ IntKind.i64.wrap (x - IntKind.i64.wrap (y.tdiv 8)) ≤ n := by
  have hd : y.tdiv 8 = y / 8 := by rw [Int.tdiv_eq_ediv_of_nonneg hy0]
  rw [hd, wrap_i64 (y / 8) (by omega) (by omega)]
  by_cases h : 0 ≤ x - y / 8
  · rw [wrap_i64 _ h (by omega)]; omega
  · have : x - y / 8 = -1 := by omega
    rw [this]
    have e : IntKind.i64.wrap (-1) = -1 := by decide
    rw [e]; omega

def DrawRPost (w : World) (e : Ending) (w' : World) : Prop := ∃ g c n D L now ino, e = .returned (.tuple #[trV (some ⟨g, 0, none⟩) n c now, .int .i64 ino]) ∧ DrawnT w g c n D L now w' ∧ -1 ≤ ino ∧ ino ≤ n
theorem drawRPost_mk {w : World} {g c n : Nat} {D : Nat → Nd} {L : Nat → Loc} {now ino : Int} {W : World} (h : DrawnT w g c n D L now W) (h0 : -1 ≤ ino) (h1 : ino ≤ n) : DrawRPost w (.returned (.tuple #[.agg #[.slice (some ⟨g, 0, none⟩) n c, .int .i64 now], .int .i64 ino])) W := ⟨g, c, n, D, L, now, ino, rfl, h, h0, h1⟩

set_option maxRecDepth 100000 in
set_option maxHeartbeats 1000000 in
theorem drawTreeRefs_any (w : World) (a : Option Addr) (len cap : Nat) (zs : Nat → Int) (hc : IsCode w a len zs) (hlen : len ≤ maxLen) (hcap : len ≤ cap) :
    Calls Try.prog 14 #[.slice a len cap] w (DrawRPost w) := by
  go_enter Try.func14, Try.ntmps14
  go_wp2_with fail
  refine (l11Open_any _ a len cap zs hlen hcap (hc.alloc _)).mono ?_
  rintro e w1 ⟨rfl, hb, len', hR⟩
  have es : (w.alloc (.cells #[.slice none 0 0, .int .i64 0] 25)).heap.size = w.heap.size + 1 := by simp
  rw [es] at hb hR ⊢
  have hl := hR.lt
  go_wp2_with fail
  refine (l2Bent_any w1 (w.heap.size + 1) a len' cap zs 0 hR (by omega)).mono ?_
  rintro e w2 ⟨g, c, n, D, L, now, q, rfl, hn0, hn1, hq, hd⟩
  have hTw : w.heap.size + 1 < w2.heap.size := by have := hd.grown.size; omega
  unfold trV
  have HF : Hid (RTB w w2.heap.size a len' cap zs q g c n D L now (w2.alloc (.cells #[.slice (some ⟨g, 0, none⟩) n c, .int .i64 now] 25))) := ⟨(RT.start hb hl hd hn0 hn1).below ((Below.refl _ _).alloc (Nat.le_refl _) _), Blk.new w2 _ _, hTw⟩
  clear hd hR hb
  go_wp2_with fail
  obtain ⟨T, hT⟩ : ∃ T, T = w2.heap.size := ⟨_, rfl⟩
  rw [← hT] at HF hTw ⊢
  refine wp_world (F := RTB w T a len' cap zs q g c n D L now) HF.out ?_
  clear HF hT w2
  intro W hW
  have hn11 := hW.rt.fair.few
  have hTl := hW.t.lt
  have t0 : W.cell? ⟨T, 0, none⟩ = some (.slice (some ⟨g, 0, none⟩) n c) := hW.t.cell 0
  have t1 : W.cell? ⟨T, 1, none⟩ = some (.int .i64 now) := hW.t.cell 1
  have hne : T ≠ w.heap.size := by omega
  have hne2 : w.heap.size ≠ T := by omega
  have hwr : IntKind.i64.wrap ((n : Int) + 1) = (n : Int) + 1 := wrap_i64 _ (by omega) (by omega)
  have HW : Hid _ := hW
  clear hW
  go_region_held3 (fun W' => W'.cell? ⟨T, 0, none⟩ = some (.slice (some ⟨g, 0, none⟩) n c) ∧ W'.cell? ⟨T, 1, none⟩ = some (.int .i64 now)) (go_keep) (first
    | (go_at_call 31
       refine (pick_any w4 (w.heap.size + 1) a len' cap zs (q + 1) 9 hW4.rt.rd (by omega) (by omega) (by omega)).mono ?_
       rintro e w5 ⟨y, rfl, hy0, hy1, hg5, hR5⟩
       have hW5 := hW4.read hg5 hR5
       have V0 : w5.cell? ⟨T, 0, none⟩ = some (.slice (some ⟨g, 0, none⟩) n c) := hW5.t.cell 0
       have V1 : w5.cell? ⟨T, 1, none⟩ = some (.int .i64 now) := hW5.t.cell 1
       have rs0 : w5.cell? ⟨w.heap.size, 0, none⟩ = some (.slice none 0 0) := hW5.rt.res.cell 0
       have rs1 : w5.cell? ⟨w.heap.size, 1, none⟩ = some (.int .i64 0) := hW5.rt.res.cell 1
       have rf0 := hW5.rt.res.frozen 0
       have rf1 := hW5.rt.res.frozen 1)
    | (go_at_call 31
       refine (pick_any (W.drewN 1) (w.heap.size + 1) a len' cap zs q ((n : Int) + 1) (HW.out.drew 1).rt.rd (by omega) (by omega) (by omega)).mono ?_
       rintro e w4 ⟨x, rfl, hx0, hx1, hg4, hR4⟩
       have hW4 := (HW.out.drew 1).read hg4 hR4
       have U0 : w4.cell? ⟨T, 0, none⟩ = some (.slice (some ⟨g, 0, none⟩) n c) := hW4.t.cell 0
       have U1 : w4.cell? ⟨T, 1, none⟩ = some (.int .i64 now) := hW4.t.cell 1))
  have hino := pick_back hx0 hx1 hn11 hy0 hy1
  generalize IntKind.i64.wrap (x - IntKind.i64.wrap (y.tdiv 8)) = ino at hino ⊢
  have HE : Hid _ := hW5.rt.fin
  clear t0 t1 HW hg4 hR4 hW4 U0 U1 hg5 hR5 hW5 V0 V1 rs0 rs1 rf0 rf1
  go_wp2
  refine end_world (F := DEnd w w.heap.size g c n D L now) HE.out ?_
  clear HE
  rintro WF ⟨hr, hgr⟩
  have r0 := hr.cell 0
  have r1 := hr.cell 1
  simp at r0 r1
  exact bodyPost_ret (v := .tuple #[.agg #[.slice (some ⟨g, 0, none⟩) n c, .int .i64 now], .int .i64 ino]) (by simp [results, Try.results14, go_sem, r0, r1]) rfl (drawRPost_mk hgr hino.1 hino.2)
end Go.Proofs.Ytlikmphjocjmeaa

/-
  What slices.Equal answers at two lists of texts; it turns no memory.
-/
namespace Go.Proofs.Ytlikmphjocjmeaa
open Go.RowKit
set_option linter.unusedVariables false

set_option maxHeartbeats 400000 in
theorem slicesEqual_any (a a' : Option Addr) (n c m c' : Nat) (S T : Nat → ByteArray) (w : World) (hS : IsStrs w a n S) (hT : IsStrs w a' m T) (hn : n ≤ maxLen) (hm : m ≤ maxLen) :
    Calls Try.prog 42 #[.slice a n c, .slice a' m c'] w fun e w' => (∃ q, w' = w.drewN q) ∧ e = .returned (.bool (decide (n = m) && eqS n S T)) := by
  unfold maxLen at hn hm
  by_cases hne : n = m
  · subst hne
    have hb : ((n : Int) != (n : Int)) = false := by simp
    go_enter Try.func42, Try.ntmps42
    go_wp2
    go_loopw [13] (fun i wr => ∃ k q : Nat, k ≤ n ∧ i = .int .i64 k ∧ wr = w.drewN q ∧ eqS k S T = true) (fun i _ => n - (intOf i).toNat)
    case atStart => exact ⟨0, 0, Nat.zero_le _, rfl, rfl, rfl⟩
    case round =>
      obtain ⟨k, q, hk, rfl, rfl, heq⟩ := hrel
      have HE : Hid (eqS k S T = true) := heq
      clear heq
      by_cases hlt : k < n
      · obtain ⟨b, off, rfl, hlt2, hc⟩ := hS.at hlt
        obtain ⟨b', off', rfl, hlt2', hc'⟩ := hT.at hlt
        have h1 := hc k hlt
        have h2 := hc' k hlt
        have hlti : (k : Int) < (n : Int) := by omega
        clear hc hc'
        go_wp2
        go_quiet (fail)
        go_wp2
        · go_ret
          exact ⟨⟨q + nq, by simp⟩, ret_bool (by rw [← eqS_not n k S T hlt ‹_›]; simp)⟩
        · go_roundw
          case rel => exact ⟨k + 1, q + nq, by omega, by go_num, rfl, eqS_succ k S T HE.out ‹_›⟩
          case measure => simp [intOf]; omega
      · have hkn : k = n := by omega
        have HK : Hid (k = n) := hkn
        clear hkn
        go_wp2
        go_ret
        exact ⟨⟨q, rfl⟩, ret_bool (by rw [← HK.out, HE.out]; simp)⟩
  · have hb : ((n : Int) != (m : Int)) = true := by simp; omega
    go_enter Try.func42, Try.ntmps42
    go_wp2
    go_ret
    exact ⟨⟨0, rfl⟩, ret_bool (by simp [hne])⟩
end Go.Proofs.Ytlikmphjocjmeaa

/-
  What NodeSame of the program answers at two places, and slices.Equal at two lists of numbers.
-/
namespace Go.Proofs.Ytlikmphjocjmeaa
open Go.RowKit
set_option linter.unusedVariables false

set_option maxHeartbeats 400000 in
theorem intsEqual_any (a a' : Option Addr) (n c m c' : Nat) (Z Y : Nat → Int) (w : World) (hS : IsInts w a n Z) (hT : IsInts w a' m Y) (hn : n ≤ maxLen) (hm : m ≤ maxLen) :
    Calls Try.prog 43 #[.slice a n c, .slice a' m c'] w fun e w' => (∃ q, w' = w.drewN q) ∧ e = .returned (.bool (decide (n = m) && eqZ n Z Y)) := by
  unfold maxLen at hn hm
  by_cases hne : n = m
  · subst hne
    have hb : ((n : Int) != (n : Int)) = false := by simp
    go_enter Try.func43, Try.ntmps43
    go_wp2
    go_loopw [13] (fun i wr => ∃ k q : Nat, k ≤ n ∧ i = .int .i64 k ∧ wr = w.drewN q ∧ eqZ k Z Y = true) (fun i _ => n - (intOf i).toNat)
    case atStart => exact ⟨0, 0, Nat.zero_le _, rfl, rfl, rfl⟩
    case round =>
      obtain ⟨k, q, hk, rfl, rfl, heq⟩ := hrel
      have HE : Hid (eqZ k Z Y = true) := heq
      clear heq
      by_cases hlt : k < n
      · obtain ⟨b, off, rfl, hlt2, hc⟩ := hS.at hlt
        obtain ⟨b', off', rfl, hlt2', hc'⟩ := hT.at hlt
        have h1 := hc k hlt
        have h2 := hc' k hlt
        have hlti : (k : Int) < (n : Int) := by omega
        clear hc hc'
        by_cases hzy : Z k = Y k
        · have hzb : (Z k != Y k) = false := by simp [hzy]
          have HZ : Hid (Z k = Y k) := hzy
          clear hzy
          go_wp2
          go_quiet (fail)
          go_wp2
          go_roundw
          case rel => exact ⟨k + 1, q + nq, by omega, by go_num, rfl, eqZ_succ k Z Y HE.out HZ.out⟩
          case measure => simp [intOf]; omega
        · have hzb : (Z k != Y k) = true := by simp [hzy]
          have HZ : Hid (¬ Z k = Y k) := hzy
          clear hzy
          go_wp2
          go_quiet (fail)
          go_wp2
          go_ret
          exact ⟨⟨q + nq, by simp⟩, ret_bool (by rw [← eqZ_not n k Z Y hlt HZ.out]; simp)⟩
      · have hkn : k = n := by omega
        have HK : Hid (k = n) := hkn
        clear hkn
        go_wp2
        go_ret
        exact ⟨⟨q, rfl⟩, ret_bool (by rw [← HK.out, HE.out]; simp)⟩
  · have hb : ((n : Int) != (m : Int)) = true := by simp; omega
    go_enter Try.func43, Try.ntmps43
    go_wp2
    go_ret
    exact ⟨⟨0, rfl⟩, ret_bool (by simp [hne])⟩

set_option maxHeartbeats 1000000 in
theorem implNodeSame_any (d d' : Nd) (l l' : Loc) (w : World) (hI : NdIn w d l) (hI' : NdIn w d' l') (hf : d.Fits) (hf' : d'.Fits) :
    Calls Try.prog 27 #[ndV d l, ndV d' l'] w fun e w' => Below w.heap.size w w' ∧ e = .returned (.bool (d.same d')) := by
  have hn := hf.nn
  have hn' := hf'.nn
  have hk := hf.kn
  have hk' := hf'.kn
  unfold ndV
  cases b1 : (d.kind == d'.kind) with
  | false =>
    have H : Hid (false = d.same d') := same_kind (by simpa using b1)
    go_enter Try.func27, Try.ntmps27
    go_wp2_with fail
    go_ret
    exact ⟨((Below.refl _ _).alloc (Nat.le_refl _) _).alloc (by simp) _, ret_bool H.out⟩
  | true =>
    cases b2 : (d.text.toList == d'.text.toList) with
    | false =>
      have H : Hid (false = d.same d') := same_text (by rw [b2]; rfl)
      go_enter Try.func27, Try.ntmps27
      go_wp2_with fail
      go_ret
      exact ⟨((Below.refl _ _).alloc (Nat.le_refl _) _).alloc (by simp) _, ret_bool H.out⟩
    | true =>
      cases b3 : (d.turn == d'.turn) with
      | false =>
        have H : Hid (false = d.same d') := same_turn (by simpa using b3)
        go_enter Try.func27, Try.ntmps27
        go_wp2_with fail
        go_ret
        exact ⟨((Below.refl _ _).alloc (Nat.le_refl _) _).alloc (by simp) _, ret_bool H.out⟩
      | true =>
        have HK : Hid ((d.kind != d'.kind) = false ∧ (!d.text.toList == d'.text.toList) = false ∧ (d.turn != d'.turn) = false) := ⟨by simpa using b1, by rw [b2]; rfl, by simpa using b3⟩
        go_enter Try.func27, Try.ntmps27
        go_wp2_with fail
        refine at_world (F := New2 w _ _ _ _) (new2 w _ _ _ _) ?_
        rintro W ⟨hp, hp', hb, hs⟩
        have hI1 := hI.below (Nat.le_refl _) hb
        have hI1' := hI'.below (Nat.le_refl _) hb
        refine (slicesEqual_any l.nA l'.nA d.nn l.nc d'.nn l'.nc d.names d'.names W hI1.1 hI1'.1 hn hn').mono ?_
        rintro e w1 ⟨⟨q, rfl⟩, rfl⟩
        have p3 : W.cell? ⟨w.heap.size, 3, none⟩ = some (.slice l.kA d.kn l.kc) := hp.cell 3
        have q3 : W.cell? ⟨w.heap.size + 1, 3, none⟩ = some (.slice l'.kA d'.kn l'.kc) := hp'.cell 3
        have HI : Hid (IsInts W l.kA d.kn d.kids ∧ IsInts W l'.kA d'.kn d'.kids) := ⟨hI1.2, hI1'.2⟩
        have HB : Hid (Below w.heap.size w W) := hb
        clear hI1 hI1' hI hI' hp hp' hb hs hf hf'
        cases hq1 : (decide (d.nn = d'.nn) && eqS d.nn d.names d'.names) with
        | false =>
          have HQ : Hid ((decide (d.nn = d'.nn) && eqS d.nn d.names d'.names) = false) := hq1
          clear hq1
          go_wp2
          go_ret
          exact ⟨below_drewN HB.out _, ret_bool (same_names HQ.out)⟩
        | true =>
          have HQ : Hid ((decide (d.nn = d'.nn) && eqS d.nn d.names d'.names) = true) := hq1
          clear hq1
          go_wp2_with fail
          refine (intsEqual_any l.kA l'.kA d.kn l.kc d'.kn l'.kc d.kids d'.kids (W.drewN q) (HI.out.1.below (Nat.le_refl _) (below_drewN (Below.refl _ _) _)) (HI.out.2.below (Nat.le_refl _) (below_drewN (Below.refl _ _) _)) hk hk').mono ?_
          rintro e w1 ⟨⟨q', rfl⟩, rfl⟩
          have HZ : Hid ((decide (d.kn = d'.kn) && eqZ d.kn d.kids d'.kids) = d.same d') := by
            show _ = _
            unfold Nd.same
            rw [b1, b2, b3, HQ.out]; simp
          rw [HZ.out]
          go_wp2
          go_ret
          exact ⟨below_drewN HB.out _, rfl⟩
end Go.Proofs.Ytlikmphjocjmeaa

/-
  What the small parts of TreeOk of the program answer: turns, texts, names, places.
-/
namespace Go.Proofs.Ytlikmphjocjmeaa
open Go.RowKit
set_option linter.unusedVariables false

theorem less_total : ∀ a b : List UInt8, (!Op.bytesLess a b) = (Op.bytesLess b a || b == a)
  | [], [] => rfl
  | [], b :: y => by simp [Op.bytesLess]
  | a :: x, [] => by simp [Op.bytesLess]
  | a :: x, b :: y => by
    have ih := less_total x y
    simp only [Op.bytesLess]
    have e1 : (b :: y == a :: x) = (b == a && y == x) := by simp [List.cons_beq_cons]
    rw [e1]
    rcases Nat.lt_trichotomy a.toNat b.toNat with h | h | h
    · have h1 : a < b := UInt8.lt_iff_toNat_lt.2 h
      have h2 : ¬ b < a := fun hh => by have := UInt8.lt_iff_toNat_lt.1 hh; omega
      have h3 : (b == a) = false := by simp; intro hh; subst hh; omega
      rw [decide_eq_true h1, decide_eq_false h2, h3]; rfl
    · have h1 : a = b := UInt8.toNat_inj.1 h
      subst h1
      have h2 : ¬ a < a := fun hh => by have := UInt8.lt_iff_toNat_lt.1 hh; omega
      rw [decide_eq_false h2]
      simpa using ih
    · have h1 : b < a := UInt8.lt_iff_toNat_lt.2 h
      have h2 : ¬ a < b := fun hh => by have := UInt8.lt_iff_toNat_lt.1 hh; omega
      have h3 : (a == b) = false := by simp; intro hh; subst hh; omega
      rw [decide_eq_true h1, decide_eq_false h2, h3]; rfl

/-- A turn up to a last one. -/
def turnIn (z y : Int) : Bool := decide (1 ≤ z) && decide (z ≤ y)

theorem turnOk_any (z y : Int) (w : World) : Calls Try.prog 19 #[.int .i64 z, .int .i64 y] w fun e w' => e = .returned (.bool (turnIn z y)) ∧ w' = w := by
  by_cases h : 1 ≤ z
  · have hb : decide (1 ≤ z) = true := by simp; omega
    have HE : Hid (decide (z ≤ y) = turnIn z y) := by show _ = _; unfold turnIn; rw [hb]; rfl
    go_enter Try.func19, Try.ntmps19
    go_wp2
    go_ret
    exact ⟨ret_bool HE.out, rfl⟩
  · have hb : decide (1 ≤ z) = false := by simp; omega
    have HE : Hid (false = turnIn z y) := by show _ = _; unfold turnIn; rw [hb]; rfl
    go_enter Try.func19, Try.ntmps19
    go_wp2
    go_ret
    exact ⟨ret_bool HE.out, rfl⟩

theorem implTextOk_any (s : ByteArray) (w : World) (hs : s.size ≤ maxLen) :
    Calls Try.prog 46 #[.string s] w fun e w' => e = .returned (.bool (textOk s)) ∧ w' = w := by
  have hs' := hs
  unfold maxLen at hs'
  by_cases h : s.size ≤ 6
  · have hb : decide ((s.size : Int) ≤ 6) = true := by simp; omega
    have HE : Hid (s.data.toList.all letter = textOk s) := by show _ = _; unfold textOk; rw [decide_eq_true h, Bool.and_true]
    go_enter Try.func46, Try.ntmps46
    go_wp2_with (go_at_call 49; refine (lettersAlone_any _ _ hs).mono ?_; rintro e w' ⟨rfl, rfl⟩)
    go_ret
    exact ⟨ret_bool HE.out, rfl⟩
  · have hb : decide ((s.size : Int) ≤ 6) = false := by simp; omega
    have HE : Hid (false = textOk s) := by show _ = _; unfold textOk; rw [decide_eq_false h, Bool.and_false]
    go_enter Try.func46, Try.ntmps46
    go_wp2
    go_ret
    exact ⟨ret_bool HE.out, rfl⟩

set_option maxHeartbeats 1000000 in
theorem implNamesOk_any (a : Option Addr) (n c : Nat) (S : Nat → ByteArray) (w : World) (hS : IsStrs w a n S) (hm : Small n S) (hn : n ≤ maxLen) :
    Calls Try.prog 47 #[.slice a n c] w fun e w' => (∃ q, w' = w.drewN q) ∧ e = .returned (.bool (dirNames S n)) := by
  unfold maxLen at hn
  go_enter Try.func47, Try.ntmps47
  go_wp2
  go_loopw [7] (fun i wr => ∃ k q : Nat, k ≤ n ∧ i = .int .i64 k ∧ wr = w.drewN q ∧ dirNames S k = true) (fun i _ => n - (intOf i).toNat)
  case atStart => exact ⟨0, 0, Nat.zero_le _, rfl, rfl, rfl⟩
  case round =>
    obtain ⟨k, q, hk, rfl, hwr, heq⟩ := hrel
    have HE : Hid (dirNames S k = true ∧ wr = w.drewN q) := ⟨heq, hwr⟩
    have hSr : IsStrs wr a n S := by rw [hwr]; exact hS.below (Nat.le_refl _) (below_drewN (Below.refl _ _) _)
    clear heq hwr
    by_cases hlt : k < n
    · obtain ⟨b, off, rfl, hlt2, hc⟩ := hSr.at hlt
      have h1 := hc k hlt
      have hlti : (k : Int) < (n : Int) := by omega
      have hmk := hm k hlt
      have hcall : Hid (Calls Try.prog 44 #[.string (S k)] wr fun e w' => e = .returned (.bool (nameOk (S k).data.toList)) ∧ w' = wr) := implNameOk_any (S k) _ hmk
      cases hnm : nameOk (S k).data.toList with
      | false =>
        rw [hnm] at hcall
        have HN : Hid (nameOk (S k).data.toList = false) := hnm
        clear hc hnm
        go_wp2_with (go_at_call 44; refine hcall.out.mono ?_; rintro e w' ⟨rfl, rfl⟩)
        go_ret
        exact ⟨⟨q, HE.out.2⟩, ret_bool (dirNames_bad S k n hlt (by rw [HN.out]; rfl))⟩
      | true =>
        rw [hnm] at hcall
        have HN : Hid (nameOk (S k).data.toList = true) := hnm
        clear hnm
        by_cases hk0 : k = 0
        · subst hk0
          clear hc
          rw [Nat.add_zero] at h1
          go_wp2_with (go_at_call 44; refine hcall.out.mono ?_; rintro e w' ⟨rfl, rfl⟩)
          go_roundw
          case rel => exact ⟨1, q, by omega, by go_num, HE.out.2, dirNames_one S HN.out⟩
          case measure => simp [intOf]; omega
        · have h2 : wr.cell? ⟨b, off + (k - 1), none⟩ = some (.string (S (k - 1))) := hc (k - 1) (by omega)
          have hk0' : decide (0 < k) = true := by simp; omega
          have hk1 : ((k - 1 : Nat) : Int) < (n : Int) := by omega
          have hwr : IntKind.i64.wrap ((k : Int) - 1) = ((k - 1 : Nat) : Int) := by rw [IntKind.wrap_i64]; omega
          clear hc
          cases hle : lessEq (S k) (S (k - 1)) with
          | true =>
            have hle' : (!Op.bytesLess (S (k - 1)).toList (S k).toList) = true := (less_total _ _).trans hle
            have HL : Hid (lessEq (S k) (S (k - 1)) = true) := hle
            clear hle
            go_wp2_with (go_at_call 44; refine hcall.out.mono ?_; rintro e w' ⟨rfl, rfl⟩)
            go_ret
            exact ⟨⟨q, HE.out.2⟩, ret_bool (dirNames_bad S k n hlt (by rw [HN.out, HL.out]; simp; omega))⟩
          | false =>
            have hle' : (!Op.bytesLess (S (k - 1)).toList (S k).toList) = false := (less_total _ _).trans hle
            have HL : Hid (lessEq (S k) (S (k - 1)) = false) := hle
            clear hle
            go_wp2_with (go_at_call 44; refine hcall.out.mono ?_; rintro e w' ⟨rfl, rfl⟩)
            go_roundw
            case rel => exact ⟨k + 1, q, by omega, by go_num, HE.out.2, dirNames_succ S k HE.out.1 (by rw [HN.out, HL.out]; simp)⟩
            case measure => simp [intOf]; omega
    · have hkn : k = n := by omega
      have HK : Hid (k = n) := hkn
      clear hkn
      go_wp2
      go_ret
      exact ⟨⟨q, HE.out.2⟩, ret_bool (by rw [← HK.out, HE.out.1])⟩

set_option maxHeartbeats 1000000 in
theorem implKidsOk_any (a : Option Addr) (n c : Nat) (now : Int) (D : Nat → Nd) (L : Nat → Loc) (kA : Option Addr) (kn kc : Nat) (Z : Nat → Int) (w : World) (hS : IsNds w a n D L) (hI : IsInts w kA kn Z) (hkn : kn ≤ maxLen) (hZ : ∀ i, i < kn → In64 (Z i)) (hn : n ≤ maxLen) :
    Calls Try.prog 37 #[trV a n c now, .slice kA kn kc] w fun e w' => Below w.heap.size w w' ∧ e = .returned (.bool (kidsOk n D Z kn)) := by
  unfold maxLen at hkn hn
  unfold trV
  go_enter Try.func37, Try.ntmps37
  go_wp2
  go_loopw [9] (fun i wr => ∃ k : Nat, k ≤ kn ∧ i = .int .i64 k ∧ RefsIn w a n c now wr ∧ kidsOk n D Z k = true) (fun i _ => kn - (intOf i).toNat)
  case atStart => exact ⟨0, Nat.zero_le _, rfl, ⟨(new1 w _ _).b0, (new1 w _ _).bel⟩, rfl⟩
  case round =>
    obtain ⟨k, hk, rfl, hin, heq⟩ := hrel
    have t0 : wr.cell? ⟨w.heap.size, 0, none⟩ = some (.slice a n c) := hin.t.cell 0
    have hSr := hS.below (Nat.le_refl _) hin.bel
    have hIr := hI.below (Nat.le_refl _) hin.bel
    have HE : Hid (kidsOk n D Z k = true ∧ RefsIn w a n c now wr) := ⟨heq, hin⟩
    clear heq hin
    by_cases hlt : k < kn
    · obtain ⟨b, off, rfl, hlt2, hc⟩ := hIr.at hlt
      have h1 := hc k hlt
      have hlti : (k : Int) < (kn : Int) := by omega
      clear hc
      have hz := hZ k hlt
      unfold In64 at hz
      have bad : kidOk n D (Z k) = false → Hid (kidsOk n D Z kn = false) := fun h => kidsOk_bad hlt h
      by_cases hz1 : Z k < 1
      · have H : Hid (kidsOk n D Z kn = false) := bad (by unfold kidOk; rw [decide_eq_false (show ¬ 1 ≤ Z k by omega)]; rfl)
        clear bad
        go_wp2_with fail
        go_ret
        exact ⟨HE.out.2.bel, ret_bool (by rw [H.out])⟩
      · by_cases hz2 : (n : Int) ≤ Z k
        · have H : Hid (kidsOk n D Z kn = false) := bad (by unfold kidOk; rw [decide_eq_false (show ¬ Z k < n by omega)]; simp)
          clear bad
          go_wp2_with fail
          go_ret
          exact ⟨HE.out.2.bel, ret_bool (by rw [H.out])⟩
        · obtain ⟨j, hj⟩ : ∃ j : Nat, Z k = j := ⟨(Z k).toNat, by omega⟩
          have hjn : j < n := by omega
          obtain ⟨b', off', ha, hlt2', hc'⟩ := hSr.at hjn
          have g0 := (hc' j hjn).1
          have hko : kidOk n D (Z k) = ((D j).kind != 0) := by
            unfold kidOk; rw [decide_eq_true (show 1 ≤ Z k by omega), decide_eq_true (show Z k < n by omega), hj]; simp
          clear hc' hSr
          rw [ha] at t0
          rw [hj] at h1 hz1 hz2 hz
          cases hkd : ((D j).kind == 0) with
          | true =>
            have H : Hid (kidsOk n D Z kn = false) := bad (by rw [hko]; simp only [bne, hkd]; rfl)
            clear bad hko
            go_wp2_with fail
            go_ret
            exact ⟨HE.out.2.bel, ret_bool (by rw [H.out])⟩
          | false =>
            have H : Hid (kidOk n D (Z k) = true) := hko.trans (by simp only [bne, hkd]; rfl)
            clear bad hko
            go_wp2_with fail
            go_roundw
            case rel => exact ⟨k + 1, by omega, by go_num, HE.out.2, kidsOk_succ HE.out.1 H.out⟩
            case measure => simp [intOf]; omega
    · have hke : k = kn := by omega
      have HK : Hid (kidsOk n D Z kn = true) := by have := HE.out.1; rw [hke] at this; exact this
      clear hke hSr hIr
      go_wp2
      go_ret
      exact ⟨HE.out.2.bel, ret_bool (by rw [HK.out])⟩
end Go.Proofs.Ytlikmphjocjmeaa

/-
  What placeOk of the program answers: whether a place is right by itself.
-/
namespace Go.Proofs.Ytlikmphjocjmeaa
open Go.RowKit
set_option linter.unusedVariables false

/-- The empty place. -/
def nd0 : Nd := ⟨0, ByteArray.empty, 0, fun _ => ByteArray.empty, 0, fun _ => 0, 0⟩
def loc0 : Loc := ⟨none, 0, none, 0⟩
theorem nd0_fits : nd0.Fits := ⟨⟨by decide, by decide⟩, ⟨by decide, by decide⟩, by unfold nd0 maxLen; simp, fun i hi => by unfold nd0 at hi; simp at hi, by unfold nd0 maxLen; simp, by unfold nd0 maxLen; simp, fun i hi => by unfold nd0 at hi; simp at hi⟩
theorem nd0_in (w : World) : NdIn w nd0 loc0 := ⟨Or.inl rfl, Or.inl rfl⟩

theorem same_free (d : Nd) (h : d.kind = 0) : d.same nd0 = freeOk d := by
  unfold Nd.same freeOk nd0
  rw [h]
  by_cases hn : d.nn = 0
  · by_cases hk : d.kn = 0
    · rw [hn, hk]; simp [eqS, eqZ]
    · simp [hk]
  · simp [hn]

/-- What a file has. -/
def fileIs (d : Nd) : Bool := textOk d.text && decide (d.nn = 0) && decide (d.kn = 0)
/-- What a directory has. -/
def dirIs (d : Nd) : Bool := (d.text.toList == []) && dirNames d.names d.nn && decide (d.kn = d.nn)

theorem fileOk_eq (now : Int) (d : Nd) : fileOk now d = (fileIs d && turnIn d.turn now) := by
  unfold fileOk fileIs turnIn; simp only [Bool.and_assoc]

theorem dirOk_eq (n : Nat) (D : Nat → Nd) (now : Int) (d : Nd) : dirOk n D now d = (dirIs d && kidsOk n D d.kids d.kn && turnIn d.turn now) := by
  unfold dirOk dirIs turnIn
  cases (d.text.toList == []) <;> cases dirNames d.names d.nn <;> cases kidsOk n D d.kids d.kn <;> cases decide (d.kn = d.nn) <;> simp

set_option maxHeartbeats 1000000 in
theorem implFileOk_any (d : Nd) (l : Loc) (w : World) (hf : d.Fits) :
    Calls Try.prog 35 #[ndV d l] w fun e w' => Below w.heap.size w w' ∧ e = .returned (.bool (fileIs d)) := by
  have hkn := hf.kn
  have hnn := hf.nn
  unfold maxLen at hkn hnn
  unfold ndV
  go_enter Try.func35, Try.ntmps35
  go_wp2_with fail
  refine (implTextOk_any d.text _ hf.text).mono ?_
  rintro e w1 ⟨rfl, rfl⟩
  cases htx : textOk d.text with
  | false =>
    have HT : Hid (textOk d.text = false) := htx
    clear htx
    go_wp2_with fail
    go_ret
    exact ⟨(Below.refl _ _).alloc (Nat.le_refl _) _, ret_bool (by unfold fileIs; rw [HT.out]; rfl)⟩
  | true =>
    have HT : Hid (textOk d.text = true) := htx
    clear htx
    go_wp2_with fail
    all_goals
      go_ret
      refine ⟨(Below.refl _ _).alloc (Nat.le_refl _) _, ret_bool ?_⟩
      unfold fileIs
      rw [HT.out]
      by_cases h1 : d.nn = 0 <;> by_cases h2 : d.kn = 0 <;> simp_all

set_option maxHeartbeats 1000000 in
theorem implDirOk_any (d : Nd) (l : Loc) (w : World) (hI : NdIn w d l) (hf : d.Fits) :
    Calls Try.prog 36 #[ndV d l] w fun e w' => Below w.heap.size w w' ∧ e = .returned (.bool (dirIs d)) := by
  have hkn := hf.kn
  have hnn := hf.nn
  unfold maxLen at hkn hnn
  unfold ndV
  cases ht : (d.text.toList == []) with
  | false =>
    have HT : Hid ((d.text.toList == []) = false) := ht
    go_enter Try.func36, Try.ntmps36
    go_wp2_with fail
    go_ret
    exact ⟨(Below.refl _ _).alloc (Nat.le_refl _) _, ret_bool (by unfold dirIs; rw [HT.out]; rfl)⟩
  | true =>
    have HT : Hid ((d.text.toList == []) = true) := ht
    go_enter Try.func36, Try.ntmps36
    go_wp2_with fail
    refine at_world (F := New1 w _ _) (new1 w _ _) ?_
    rintro W ⟨hp, hb, hs⟩
    refine (implNamesOk_any l.nA d.nn l.nc d.names W (hI.1.below (Nat.le_refl _) hb) hf.names hf.nn).mono ?_
    rintro e w1 ⟨⟨q, rfl⟩, rfl⟩
    have p2 : W.cell? ⟨w.heap.size, 2, none⟩ = some (.slice l.nA d.nn l.nc) := hp.cell 2
    have p3 : W.cell? ⟨w.heap.size, 3, none⟩ = some (.slice l.kA d.kn l.kc) := hp.cell 3
    have HB : Hid (Below w.heap.size w W) := hb
    clear hp hb hs ht
    cases hnm : dirNames d.names d.nn with
    | false =>
      have HN : Hid (dirNames d.names d.nn = false) := hnm
      clear hnm
      go_wp2_with fail
      go_ret
      exact ⟨below_drewN HB.out _, ret_bool (by unfold dirIs; rw [HN.out]; simp)⟩
    | true =>
      have HN : Hid (dirNames d.names d.nn = true) := hnm
      clear hnm
      go_wp2_with fail
      all_goals
        go_ret
        refine ⟨below_drewN HB.out _, ret_bool ?_⟩
        unfold dirIs; rw [HN.out, HT.out]
        by_cases h : d.kn = d.nn
        · simp [h]
        · rw [decide_eq_false h]; simp; omega

set_option maxHeartbeats 1000000 in
theorem placeOk_any (a : Option Addr) (n c : Nat) (now : Int) (D : Nat → Nd) (L : Nat → Loc) (d : Nd) (l : Loc) (w : World) (hS : IsNds w a n D L) (hI : NdIn w d l) (hf : d.Fits) (hn : n ≤ maxLen) :
    Calls Try.prog 20 #[trV a n c now, ndV d l] w fun e w' => Below w.heap.size w w' ∧ e = .returned (.bool (ndOk n D now d)) := by
  unfold trV ndV
  by_cases h0 : d.kind = 0
  · have H : Hid (d.same nd0 = ndOk n D now d) := (same_free d h0).trans (if_pos h0).symm
    have b0 : (d.kind == 0) = true := by simp [h0]
    clear h0
    go_enter Try.func20, Try.ntmps20
    go_wp2_with fail
    refine at_world (F := New2 w _ _ _ _) (new2 w _ _ _ _) ?_
    rintro W ⟨hp, hp', hb, hs⟩
    refine (implNodeSame_any d nd0 l loc0 W (hI.below (Nat.le_refl _) hb) (nd0_in _) hf nd0_fits).mono ?_
    rintro e w1 ⟨hb1, rfl⟩
    have HB : Hid (Below w.heap.size w w1) := hb.trans (hb1.mono (by omega))
    clear hp hp' hb hs hb1
    rw [H.out]
    go_wp2
    go_ret
    exact ⟨HB.out, rfl⟩
  · have n0 : (d.kind == 0) = false := by simp [h0]
    by_cases h1 : d.kind = 1
    · have H : Hid (ndOk n D now d = (fileIs d && turnIn d.turn now)) := ((if_neg h0).trans (if_pos h1)).trans (fileOk_eq now d)
      have b1 : (d.kind == 1) = true := by simp [h1]
      clear h0 h1
      go_enter Try.func20, Try.ntmps20
      go_wp2_with fail
      refine at_world (F := New2 w _ _ _ _) (new2 w _ _ _ _) ?_
      rintro W ⟨hp, hp', hb, hs⟩
      refine (implFileOk_any d l W hf).mono ?_
      rintro e w1 ⟨hb1, rfl⟩
      have p1 : w1.cell? ⟨w.heap.size, 1, none⟩ = some (.int .i64 now) := (hp.below hb1 (by omega)).cell 1
      have d4 : w1.cell? ⟨w.heap.size + 1, 4, none⟩ = some (.int .i64 d.turn) := (hp'.below hb1 (by omega)).cell 4
      have HB : Hid (Below w.heap.size w w1) := hb.trans (hb1.mono (by omega))
      clear hp hp' hb hs hb1
      cases hq : fileIs d with
      | false =>
        have HQ : Hid (false = ndOk n D now d) := by show _ = _; rw [H.out, hq]; rfl
        clear hq
        go_wp2
        go_ret
        exact ⟨HB.out, ret_bool HQ.out⟩
      | true =>
        have HQ : Hid (turnIn d.turn now = ndOk n D now d) := by show _ = _; rw [H.out, hq]; rfl
        clear hq
        go_wp2_with (go_at_call 19; refine (turnOk_any _ _ _).mono ?_; rintro e w' ⟨rfl, rfl⟩)
        go_ret
        exact ⟨HB.out, ret_bool HQ.out⟩
    · have n1 : (d.kind == 1) = false := by simp [h1]
      by_cases h2 : d.kind = 2
      · have H : Hid (ndOk n D now d = (dirIs d && kidsOk n D d.kids d.kn && turnIn d.turn now)) := ((if_neg h0).trans ((if_neg h1).trans (if_pos h2))).trans (dirOk_eq n D now d)
        have b2 : (d.kind == 2) = true := by simp [h2]
        clear h0 h1 h2
        go_enter Try.func20, Try.ntmps20
        go_wp2_with fail
        refine at_world (F := New2 w _ _ _ _) (new2 w _ _ _ _) ?_
        rintro W ⟨hp, hp', hb, hs⟩
        refine (implDirOk_any d l W (hI.below (Nat.le_refl _) hb) hf).mono ?_
        rintro e w1 ⟨hb1, rfl⟩
        have hp1 := hp.below hb1 (by omega)
        have hp1' := hp'.below hb1 (by omega)
        have p0 : w1.cell? ⟨w.heap.size, 0, none⟩ = some (.slice a n c) := hp1.cell 0
        have p1 : w1.cell? ⟨w.heap.size, 1, none⟩ = some (.int .i64 now) := hp1.cell 1
        have d3 : w1.cell? ⟨w.heap.size + 1, 3, none⟩ = some (.slice l.kA d.kn l.kc) := hp1'.cell 3
        have hwl := hp1'.lt
        have HB : Hid (Below w.heap.size w w1 ∧ Blk w1 w.heap.size _ _ ∧ Blk w1 (w.heap.size + 1) _ _) := ⟨hb.trans (hb1.mono (by omega)), hp1, hp1'⟩
        clear hp hp' hb hs hb1 hp1 hp1'
        cases hq : dirIs d with
        | false =>
          have HQ : Hid (false = ndOk n D now d) := by show _ = _; rw [H.out, hq]; rfl
          clear hq
          go_wp2
          go_ret
          exact ⟨HB.out.1, ret_bool HQ.out⟩
        | true =>
          have HQ1 : Hid (ndOk n D now d = (kidsOk n D d.kids d.kn && turnIn d.turn now)) := by show _ = _; rw [H.out, hq]; rfl
          clear hq
          go_wp2_with fail
          refine (implKidsOk_any a n c now D L l.kA d.kn l.kc d.kids w1 (hS.below (Nat.le_refl _) HB.out.1) (hI.2.below (Nat.le_refl _) HB.out.1) hf.kn hf.kids hn).mono ?_
          rintro e w2 ⟨hb2, rfl⟩
          have p1' : w2.cell? ⟨w.heap.size, 1, none⟩ = some (.int .i64 now) := (HB.out.2.1.below hb2 (by omega)).cell 1
          have d4 : w2.cell? ⟨w.heap.size + 1, 4, none⟩ = some (.int .i64 d.turn) := (HB.out.2.2.below hb2 (by omega)).cell 4
          have HB2 : Hid (Below w.heap.size w w2) := HB.out.1.trans (hb2.mono (by omega))
          clear hb2 p0 p1 d3
          cases hq : kidsOk n D d.kids d.kn with
          | false =>
            have HQ : Hid (false = ndOk n D now d) := by show _ = _; rw [HQ1.out, hq]; rfl
            clear hq
            go_wp2
            go_ret
            exact ⟨HB2.out, ret_bool HQ.out⟩
          | true =>
            have HQ : Hid (turnIn d.turn now = ndOk n D now d) := by show _ = _; rw [HQ1.out, hq]; rfl
            clear hq
            go_wp2_with (go_at_call 19; refine (turnOk_any _ _ _).mono ?_; rintro e w' ⟨rfl, rfl⟩)
            go_ret
            exact ⟨HB2.out, ret_bool HQ.out⟩
      · have n2 : (d.kind == 2) = false := by simp [h2]
        have H : Hid (false = ndOk n D now d) := ((if_neg h0).trans ((if_neg h1).trans (if_neg h2))).symm
        clear h0 h1 h2
        go_enter Try.func20, Try.ntmps20
        go_wp2_with fail
        go_ret
        exact ⟨((Below.refl _ _).alloc (Nat.le_refl _) _).alloc (by simp) _, ret_bool H.out⟩
end Go.Proofs.Ytlikmphjocjmeaa

/-
  What refsOf and namedOnce of the program answer.
-/
namespace Go.Proofs.Ytlikmphjocjmeaa
open Go.RowKit
set_option linter.unusedVariables false

/-- What is known within refsOf. -/
structure RefRow (w : World) (a : Option Addr) (n c : Nat) (now : Int) (f : Nat → Nat) (W : World) : Prop where
  t : Blk W w.heap.size #[.slice a n c, .int .i64 now] 25
  row : W.rowIs (w.heap.size + 1) 3 n (fun j => .int .i64 (f j))
  bel : Below w.heap.size w W

theorem RefRow.put {w : World} {a : Option Addr} {n c : Nat} {now : Int} {f : Nat → Nat} {W : World} (h : RefRow w a n c now f W) (x : Nat) {g : Nat → Nat} (hg : ∀ j, j < n → g j = if j = x then f j + 1 else f j) :
    RefRow w a n c now g (W.setCell ⟨w.heap.size + 1, x, none⟩ (.int .i64 ((f x : Int) + 1))) :=
  ⟨h.t.off _ (by omega), (h.row.set x (.int .i64 ((f x : Int) + 1))).congr (fun i hi => by
    rw [hg i hi]
    by_cases e : i = x
    · subst e; simp
    · simp [e]), bel_put h.bel _ (by omega)⟩

theorem RefRow.alloc {w : World} {a : Option Addr} {n c : Nat} {now : Int} {f : Nat → Nat} {W : World} (h : RefRow w a n c now f W) (o : Obj) : RefRow w a n c now f (W.alloc o) :=
  ⟨h.t.alloc _, rowIs_below h.row ((Below.refl W.heap.size W).alloc (Nat.le_refl _) _) h.row.lt, h.bel.alloc (by have := h.t.lt; omega) _⟩

theorem RefRow.to {w : World} {a : Option Addr} {n c : Nat} {now : Int} {f g : Nat → Nat} {W : World} (h : RefRow w a n c now f W) (hg : ∀ j, j < n → f j = g j) : RefRow w a n c now g W :=
  ⟨h.t, h.row.congr (fun i hi => by rw [hg i hi]), h.bel⟩

theorem refs_start (w : World) (a : Option Addr) (n c : Nat) (now : Int) : RefRow w a n c now (fun _ => 0)
    ((w.alloc (.cells #[.slice a n c, .int .i64 now] 25)).alloc (.cells (madeCells #[.int .i64 0] n) 3)) := by
  have h := new2 w #[.slice a n c, .int .i64 now] 25 (madeCells #[.int .i64 0] n) 3
  refine ⟨h.b0, ⟨_, h.b1, by simp [size_madeCells], fun i hi => ?_⟩, h.bel⟩
  simp [madeCells, hi, Nat.mod_one]

set_option maxHeartbeats 2000000 in
theorem refsOf_any (a : Option Addr) (n c : Nat) (now : Int) (D : Nat → Nd) (L : Nat → Loc) (w : World) (hS : IsNds w a n D L) (hn : n ≤ 1048576) (hsz : sizeTo D n ≤ 1048576) (hsm : ∀ i, i < n → (D i).kn ≤ maxLen) (hk : ∀ i, i < n → ∀ j, j < (D i).kn → 0 ≤ (D i).kids j ∧ (D i).kids j < n) :
    Calls Try.prog 30 #[trV a n c now] w fun e w' => Below w.heap.size w w' ∧ e = .returned (.slice (some ⟨w.heap.size + 1, 0, none⟩) n n) ∧ w'.rowIs (w.heap.size + 1) 3 n (fun j => .int .i64 (refsTo D j n)) := by
  have hmk := fun w => run_make_row' (P := Try.prog) 34 3 (.int .i64 0) 8 Try.underlying34 infoInt rfl .i64 .i64 n (by omega) (by omega) w
  unfold trV
  go_enter Try.func30, Try.ntmps30
  go_wp2
  go_loopw [15] (fun i wr => ∃ k : Nat, k ≤ n ∧ i = .int .i64 k ∧ RefRow w a n c now (fun j => refsTo D j k) wr) (fun i _ => n - (intOf i).toNat)
  case atStart => exact ⟨0, Nat.zero_le _, rfl, (refs_start w a n c now).to (fun _ _ => rfl)⟩
  case round =>
    obtain ⟨k, hk', rfl, hin⟩ := hrel
    by_cases hlt : k < n
    · have hSr := hS.below (Nat.le_refl _) hin.bel
      obtain ⟨b, off, rfl, hlt2, hc⟩ := hSr.at hlt
      obtain ⟨c0, c1, c2, c3, c4, hI⟩ := hc k hlt
      have hki : (k : Int) < (n : Int) := by omega
      have hkn := hsm k hlt
      unfold maxLen at hkn
      have HIN : Hid (RefRow w (some ⟨b, off, none⟩) n c now (fun j => refsTo D j k) wr ∧ NdIn wr (D k) (L k)) := ⟨hin, hI⟩
      clear hc hI hin hSr hmk
      go_wp2
      go_loopw [22] (fun i wr' => ∃ j : Nat, j ≤ (D k).kn ∧ i = .int .i64 j ∧ RefRow w (some ⟨b, off, none⟩) n c now (fun x => refsTo D x k + cnt (D k).kids x j) wr') (fun i _ => (D k).kn - (intOf i).toNat)
      case atStart => exact ⟨0, Nat.zero_le _, rfl, (HIN.out.1.alloc _).to (fun _ _ => rfl)⟩
      case round =>
        obtain ⟨j, hj, rfl, hin⟩ := hrel
        by_cases hltj : j < (D k).kn
        · have hIr := (hS.below (Nat.le_refl _) hin.bel)
          obtain ⟨b2, off2, ha2, _, hc2⟩ := hIr.at hlt
          cases ha2
          obtain ⟨b', off', ha', hlt2', hc'⟩ := (hc2 k hlt).2.2.2.2.2.2.at hltj
          have hz := hc' j hltj
          obtain ⟨hk0, hk1⟩ := hk k hlt j hltj
          obtain ⟨x, hx⟩ : ∃ x : Nat, (D k).kids j = x := ⟨((D k).kids j).toNat, by omega⟩
          have hxn : x < n := by omega
          have hjj : (j : Int) < ((D k).kn : Int) := by omega
          rw [hx] at hz
          obtain ⟨v, hv⟩ : ∃ v : Nat, v = refsTo D x k + cnt (D k).kids x j := ⟨_, rfl⟩
          have hvb : v ≤ 1048576 := by
            have h1 := refsTo_le D x k
            have h2 := cnt_le (D k).kids x j
            have h3 := sizeTo_mono D (show k + 1 ≤ n by omega)
            rw [sizeTo_succ] at h3
            unfold Nd.size at h3
            omega
          have xc : wr.cell? ⟨w.heap.size + 1, x, none⟩ = some (.int .i64 v) := by rw [hv]; exact hin.row.cell hxn
          have xf := hin.row.frozen x
          have HALL : Hid (RefRow w (some ⟨b, off, none⟩) n c now (fun x => refsTo D x k + cnt (D k).kids x j) wr ∧ (D k).kids j = x ∧ v = refsTo D x k + cnt (D k).kids x j) := ⟨hin, hx, hv⟩
          have hxi : (x : Int) < (n : Int) := by omega
          rw [ha']
          clear hin hIr hc2 hc' hx hk0 hk1 hv c0 c1 c2 c3 c4
          go_wp2
          go_roundw
          case rel =>
            obtain ⟨h1, h2, h3⟩ := HALL.out
            refine ⟨j + 1, by omega, by go_num, ?_⟩
            have h4 := h1.put (g := fun y => refsTo D y k + cnt (D k).kids y (j + 1)) x (fun y _ => by
              show _ + cnt (D k).kids y (j + 1) = _
              rw [cnt, h2]
              by_cases e : y = x
              · subst e; simp; omega
              · have : ¬ (x : Int) = (y : Int) := by omega
                simp [e, this])
            rw [h3]
            exact h4
          case measure => simp [intOf]; omega
        · have hje : j = (D k).kn := by omega
          have HALL : Hid (RefRow w (some ⟨b, off, none⟩) n c now (fun x => refsTo D x (k + 1)) wr) := hin.to (fun y _ => by rw [refsTo, hje])
          clear hin hje c0 c1 c2 c3 c4
          go_wp2
          go_roundw
          case rel => exact ⟨k + 1, by omega, by go_num, HALL.out⟩
          case measure => simp [intOf]; omega
    · have hke : k = n := by omega
      have HALL : Hid (RefRow w a n c now (fun x => refsTo D x n) wr) := hin.to (fun y _ => by rw [hke])
      clear hin hke hmk
      go_wp2
      go_ret
      exact ⟨HALL.out.bel, rfl, HALL.out.row⟩
end Go.Proofs.Ytlikmphjocjmeaa

/-
  What namedOnce of the program answers: whether each directory but the root has one name.
-/
namespace Go.Proofs.Ytlikmphjocjmeaa
open Go.RowKit
set_option linter.unusedVariables false

set_option maxHeartbeats 2000000 in
theorem namedOnce_any (a : Option Addr) (n c : Nat) (now : Int) (D : Nat → Nd) (L : Nat → Loc) (w : World) (hS : IsNds w a n D L) (hn : n ≤ 1048576) (hsz : sizeTo D n ≤ 1048576) (hsm : ∀ i, i < n → (D i).kn ≤ maxLen) (hk : ∀ i, i < n → ∀ j, j < (D i).kn → 0 ≤ (D i).kids j ∧ (D i).kids j < n) :
    Calls Try.prog 22 #[trV a n c now] w fun e w' => Below w.heap.size w w' ∧ ∃ r : Bool, e = .returned (.bool r) ∧ (r = true ↔ ∀ i, 1 ≤ i → i < n → (D i).kind = 2 → refsTo D i n = 1) := by
  unfold trV
  go_enter Try.func22, Try.ntmps22
  go_wp2_with fail
  refine at_world (F := New1 w _ _) (new1 w _ _) ?_
  rintro W ⟨hp, hb, hs⟩
  refine (refsOf_any a n c now D L W (hS.below (Nat.le_refl _) hb) hn hsz hsm hk).mono ?_
  rintro e w1 ⟨hb1, rfl, hrow⟩
  have hp1 := hp.below hb1 (by omega)
  have HIN : Hid (RefsIn w a n c now w1 ∧ w1.rowIs (W.heap.size + 1) 3 n (fun j => .int .i64 (refsTo D j n))) := ⟨⟨hp1, hb.trans (hb1.mono (by omega))⟩, hrow⟩
  clear hp hb hs hb1 hrow hp1
  generalize W.heap.size + 1 = bm at *
  go_wp2
  go_loopw [8] (fun i wr => ∃ k : Nat, k ≤ n ∧ i = .int .i64 k ∧ RefsIn w a n c now wr ∧ wr.rowIs bm 3 n (fun j => .int .i64 (refsTo D j n)) ∧ ∀ i, 1 ≤ i → i < k → (D i).kind = 2 → refsTo D i n = 1) (fun i _ => n - (intOf i).toNat)
  case atStart => exact ⟨0, Nat.zero_le _, rfl, HIN.out.1, HIN.out.2, fun i h1 h2 => by omega⟩
  case round =>
    obtain ⟨k, hk', rfl, hin, hrow, hall⟩ := hrel
    by_cases hlt : k < n
    · have hSr := hS.below (Nat.le_refl _) hin.bel
      obtain ⟨b, off, rfl, hlt2, hc⟩ := hSr.at hlt
      have c0 := (hc k hlt).1
      have t0 : wr.cell? ⟨w.heap.size, 0, none⟩ = some (.slice (some ⟨b, off, none⟩) n c) := hin.t.cell 0
      have hki : (k : Int) < (n : Int) := by omega
      have rc : wr.cell? ⟨bm, k, none⟩ = some (.int .i64 (refsTo D k n)) := hrow.cell hlt
      have HR : Hid (RefsIn w (some ⟨b, off, none⟩) n c now wr ∧ wr.rowIs bm 3 n (fun j => .int .i64 (refsTo D j n)) ∧ ∀ i, 1 ≤ i → i < k → (D i).kind = 2 → refsTo D i n = 1) := ⟨hin, hrow, hall⟩
      clear hc hin hrow hall hSr HIN
      by_cases hk0 : k = 0
      · subst hk0
        rw [Nat.zero_mul, Nat.add_zero] at c0
        go_wp2
        go_roundw
        case rel => exact ⟨1, by omega, by go_num, HR.out.1, HR.out.2.1, fun i h1 h2 => by omega⟩
        case measure => simp [intOf]; omega
      · have hkb : ((k : Int) != 0) = true := by simp; omega
        cases hd2 : ((D k).kind == 2) with
        | false =>
          have H2 : Hid (¬ (D k).kind = 2) := show ¬ (D k).kind = 2 by simpa using hd2
          go_wp2
          go_roundw
          case rel => exact ⟨k + 1, by omega, by go_num, HR.out.1, HR.out.2.1, fun i h1 h2 h3 => by
            by_cases e : i = k
            · subst e; exact absurd h3 H2.out
            · exact HR.out.2.2 i h1 (by omega) h3⟩
          case measure => simp [intOf]; omega
        | true =>
          have H2 : Hid ((D k).kind = 2) := show (D k).kind = 2 by simpa using hd2
          by_cases hr1 : refsTo D k n = 1
          · have hrb : (((refsTo D k n : Nat) : Int) != 1) = false := by simp [hr1]
            have HX : Hid (refsTo D k n = 1) := hr1
            clear hr1
            go_wp2
            go_roundw
            case rel => exact ⟨k + 1, by omega, by go_num, HR.out.1, HR.out.2.1, fun i h1 h2 h3 => by
              by_cases e : i = k
              · subst e; exact HX.out
              · exact HR.out.2.2 i h1 (by omega) h3⟩
            case measure => simp [intOf]; omega
          · have hrb : (((refsTo D k n : Nat) : Int) != 1) = true := by simp; omega
            have HX : Hid (¬ refsTo D k n = 1) := hr1
            clear hr1
            go_wp2
            go_ret
            exact ⟨HR.out.1.bel, false, rfl, fun h => (by cases h), fun h => absurd (h k (by omega) hlt H2.out) HX.out⟩
    · have HALL : Hid (Below w.heap.size w wr ∧ ∀ i, 1 ≤ i → i < n → (D i).kind = 2 → refsTo D i n = 1) := ⟨hin.bel, fun i h1 h2 h3 => hall i h1 (by omega) h3⟩
      clear hin hrow hall HIN
      go_wp2
      go_ret
      exact ⟨HALL.out.1, true, rfl, fun _ => HALL.out.2, fun _ => rfl⟩
end Go.Proofs.Ytlikmphjocjmeaa

/-
  Which places are reached from the root, by a stack: plain facts. A place is put on the stack when it is marked; what is marked and no longer on the stack leads to what is marked.
-/
namespace Go.Proofs.Ytlikmphjocjmeaa
set_option linter.unusedVariables false

/-- Between two rounds. -/
structure Stk (n : Nat) (D : Nat → Nd) (m : Nat → Bool) (L : List Nat) : Prop where
  sound : Sound n D m
  root : m 0 = true
  on : ∀ i, i ∈ L → i < n ∧ m i = true
  done : ∀ i, i < n → m i = true → i ∉ L → ∀ j, j < (D i).kn → m ((D i).kids j).toNat = true
  few : L.length ≤ cntB m n

/-- Within a round, whose place is x: the first k of its places are through. -/
structure StkIn (n : Nat) (D : Nat → Nd) (x k : Nat) (m : Nat → Bool) (L : List Nat) : Prop where
  sound : Sound n D m
  root : m 0 = true
  cur : x < n ∧ m x = true
  on : ∀ i, i ∈ L → i < n ∧ m i = true
  done : ∀ i, i < n → m i = true → i ∉ L → i ≠ x → ∀ j, j < (D i).kn → m ((D i).kids j).toNat = true
  kids : ∀ j, j < k → m ((D x).kids j).toNat = true
  few : L.length + 1 ≤ cntB m n

theorem Stk.start {n : Nat} {D : Nat → Nd} (hn : 1 ≤ n) : Stk n D (fun j => decide (j = 0)) [0] :=
  ⟨fun i hi => by simp at hi; subst hi; exact .root, by simp, fun i hi => by simp at hi; subst hi; exact ⟨hn, by simp⟩, fun i _ hm hi => by simp at hm hi; exact absurd hm hi, by
    have := cntB_one (m := fun j => decide (j = 0)) (by simp) n hn
    simpa using this⟩

theorem Stk.pop {n : Nat} {D : Nat → Nd} {m : Nat → Bool} {L : List Nat} {x : Nat} (h : Stk n D m (L ++ [x])) : StkIn n D x 0 m L :=
  ⟨h.sound, h.root, h.on x (by simp), fun i hi => h.on i (by simp [hi]), fun i hi hm hL hx => h.done i hi hm (by simp [hL, hx]), fun j hj => by omega, by have := h.few; simpa using this⟩

theorem StkIn.push {n : Nat} {D : Nat → Nd} {x k : Nat} {m : Nat → Bool} {L : List Nat} (h : StkIn n D x k m L) (hk : k < (D x).kn) {z : Nat} (hz : ((D x).kids k).toNat = z) (hzn : z < n) (hm : m z = false) :
    StkIn n D x (k + 1) (fun j => if j = z then true else m j) (L ++ [z]) := by
  have up : ∀ j, m j = true → (if j = z then true else m j) = true := fun j hj => by by_cases e : j = z <;> simp [e, hj]
  refine ⟨fun i hi => ?_, up 0 h.root, ⟨h.cur.1, up x h.cur.2⟩, fun i hi => ?_, fun i hi hmi hL hx j hj => ?_, fun j hj => ?_, ?_⟩
  · by_cases e : i = z
    · subst e; rw [← hz]; exact .step (h.sound x h.cur.2) h.cur.1 hk
    · simp only [if_neg e] at hi; exact h.sound i hi
  · rcases List.mem_append.1 hi with hi | hi
    · exact ⟨(h.on i hi).1, up i (h.on i hi).2⟩
    · simp at hi; subst hi; exact ⟨hzn, by simp⟩
  · have hne : i ≠ z := fun e => hL (by simp [e])
    simp only [if_neg hne] at hmi
    exact up _ (h.done i hi hmi (fun hi' => hL (by simp [hi'])) hx j hj)
  · by_cases e : j = k
    · subst e; simp [hz]
    · exact up _ (h.kids j (by omega))
  · have := cntB_lt up (i := z) (by simp [hm]) (by simp) n hzn
    have h2 := h.few
    simp only [List.length_append, List.length_singleton]
    omega

theorem StkIn.pass {n : Nat} {D : Nat → Nd} {x k : Nat} {m : Nat → Bool} {L : List Nat} (h : StkIn n D x k m L) (hm : m ((D x).kids k).toNat = true) : StkIn n D x (k + 1) m L :=
  ⟨h.sound, h.root, h.cur, h.on, h.done, fun j hj => by
    by_cases e : j = k
    · subst e; exact hm
    · exact h.kids j (by omega), h.few⟩

theorem StkIn.out {n : Nat} {D : Nat → Nd} {x : Nat} {m : Nat → Bool} {L : List Nat} (h : StkIn n D x (D x).kn m L) : Stk n D m L :=
  ⟨h.sound, h.root, h.on, fun i hi hm hL => by
    by_cases e : i = x
    · subst e; exact h.kids
    · exact h.done i hi hm hL e, by have := h.few; omega⟩

theorem Stk.fin {n : Nat} {D : Nat → Nd} {m : Nat → Bool} (h : Stk n D m []) (i : Nat) : m i = true ↔ Reach n D i := by
  refine ⟨h.sound i, fun hr => ?_⟩
  induction hr with
  | root => exact h.root
  | step hr hi hj ih => exact h.done _ hi ih (by simp) _ hj
end Go.Proofs.Ytlikmphjocjmeaa

/-
  What reached of the program answers: which places are reached from the root, marked with a stack.
-/
namespace Go.Proofs.Ytlikmphjocjmeaa
open Go.RowKit Go.Deep
set_option linter.unusedVariables false

/-- A list of numbers, as cells. -/
def natv (L : List Nat) : List Value := L.map fun (i : Nat) => Value.int .i64 (i : Int)
theorem natv_length (L : List Nat) : (natv L).length = L.length := by simp [natv]
theorem natv_append (L M : List Nat) : natv L ++ natv M = natv (L ++ M) := by simp [natv]
theorem natv_one (L : List Nat) : ∀ u ∈ natv L, u.oneCell' = true := by
  intro u hu
  simp only [natv, List.mem_map] at hu
  obtain ⟨s, _, rfl⟩ := hu
  rfl

/-- The mark at a place. -/
def bitAt (W : World) (b j : Nat) : Bool := match W.cell? ⟨b, j, none⟩ with | some (.bool x) => x | _ => false
/-- How long a slice is. -/
def lenOf : Value → Nat | .slice _ n _ => n | _ => 0

theorem cntB_congr {m m' : Nat → Bool} {k : Nat} (h : ∀ j, j < k → m j = m' j) : cntB m k = cntB m' k := by
  induction k with
  | zero => rfl
  | succ k ih => unfold cntB; rw [ih (fun j hj => h j (by omega)), h k (by omega)]

/-- What is known within reached. -/
structure StkW (w : World) (a : Option Addr) (n c : Nat) (now : Int) (m : Nat → Bool) (L : List Nat) (s : Value) (W : World) : Prop where
  t : Blk W w.heap.size #[.slice a n c, .int .i64 now] 25
  row : W.rowIs (w.heap.size + 1) 4 n (fun j => .bool (m j))
  own : W.ownsRow (w.heap.size + 2) 3 1 s L.length (natv L)
  some : s ≠ .slice none 0 0
  bel : Below w.heap.size w W
  size : w.heap.size + 2 ≤ W.heap.size

theorem StkW.shape {w : World} {a : Option Addr} {n c : Nat} {now : Int} {m : Nat → Bool} {L : List Nat} {s : Value} {W : World} (h : StkW w a n c now m L s W) :
    ∃ g cap, s = .slice (Option.some ⟨g, 0, none⟩) L.length cap ∧ w.heap.size + 2 ≤ g ∧ g < W.heap.size ∧ L.length ≤ cap ∧ cap ≤ maxLen ∧ ∀ i, i < L.length → W.cell? ⟨g, i, none⟩ = Option.some (.int .i64 (L.getD i 0 : Nat)) := by
  obtain ⟨h1, h2⟩ := h.own
  rcases h2 with ⟨rfl, h0⟩ | ⟨g, cap, cur, rfl, hb, hblk, hn, hm, hsz, htake⟩
  · exact absurd rfl h.some
  · have hglt : g < W.heap.size := (Array.getElem?_eq_some_iff.1 hblk).1
    refine ⟨g, cap, rfl, hb, hglt, hn, hm, fun i hi => ?_⟩
    have hi2 : (natv L)[i]? = Option.some (.int .i64 (L.getD i 0 : Nat)) := by simp [natv, hi]
    rw [← htake, Nat.mul_one, List.getElem?_take_of_lt hi] at hi2
    simp only [World.cell?, hblk]
    simpa using hi2

/-- The last one is taken off. -/
theorem StkW.pop {w : World} {a : Option Addr} {n c : Nat} {now : Int} {m : Nat → Bool} {L : List Nat} {x g cap : Nat} {k : Nat} {W : World} (h : StkW w a n c now m (L ++ [x]) (.slice (Option.some ⟨g, 0, none⟩) k cap) W) :
    StkW w a n c now m L (.slice (Option.some ⟨g, 0, none⟩) L.length cap) W := by
  refine ⟨h.t, h.row, ?_, by simp, h.bel, h.size⟩
  obtain ⟨h1, h2⟩ := h.own
  rcases h2 with ⟨h2, h0⟩ | ⟨g', cap', cur, hv, hb, hblk, hn, hm, hsz, htake⟩
  · cases h2
  · cases hv
    refine ⟨by simp [natv], Or.inr ⟨g, cap, cur, rfl, hb, hblk, by simp at hn; omega, hm, hsz, ?_⟩⟩
    have e : natv (L ++ [x]) = natv L ++ natv [x] := (natv_append L [x]).symm
    rw [e] at htake
    have h5 : (natv L ++ natv [x]).take L.length = natv L := by
      have := List.take_left (l₁ := natv L) (l₂ := natv [x])
      rwa [natv_length] at this
    have := congrArg (List.take L.length) htake
    rw [List.take_take, Nat.min_eq_left (by simp), h5] at this
    rw [Nat.mul_one]
    exact this

theorem StkW.mark {w : World} {a : Option Addr} {n c : Nat} {now : Int} {m : Nat → Bool} {L : List Nat} {s : Value} {W : World} (h : StkW w a n c now m L s W) (x : Nat) :
    StkW w a n c now (fun j => if j = x then true else m j) L s (W.setCell ⟨w.heap.size + 1, x, none⟩ (.bool true)) := by
  refine ⟨h.t.off _ (by omega), (h.row.set x (.bool true)).congr (fun i _ => by by_cases e : i = x <;> simp [e]), ⟨h.own.1, ?_⟩, h.some, bel_put h.bel _ (by omega), by simpa [World.setCell] using h.size⟩
  rcases h.own.2 with h2 | ⟨g, cap, cur, hv, hb, hblk, rest⟩
  · exact Or.inl h2
  · exact Or.inr ⟨g, cap, cur, hv, hb, (blk_setCell_other _ _ _ _ (by show g ≠ w.heap.size + 1; omega)).trans hblk, rest⟩

theorem StkW.alloc {w : World} {a : Option Addr} {n c : Nat} {now : Int} {m : Nat → Bool} {L : List Nat} {s : Value} {W : World} (h : StkW w a n c now m L s W) (o : Obj) : StkW w a n c now m L s (W.alloc o) :=
  ⟨h.t.alloc _, rowIs_below h.row ((Below.refl W.heap.size W).alloc (Nat.le_refl _) _) h.row.lt, h.own.alloc o, h.some, h.bel.alloc (by have := h.t.lt; omega) _, by have := h.size; simp; omega⟩

/-- One more is put on it. -/
theorem StkW.push {w : World} {a : Option Addr} {n c : Nat} {now : Int} {m : Nat → Bool} {L : List Nat} {s s' : Value} {W W' : World} (h : StkW w a n c now m L s W) {x : Nat}
    (hown : W'.ownsRow (w.heap.size + 2) 3 1 s' (L.length + 1) (natv L ++ natv [x])) (hg : W.grownBy W' s.ownBlock) (hs : ¬ s' = .slice none 0 0) : StkW w a n c now m (L ++ [x]) s' W' := by
  have hob : ∀ g, s.ownBlock = Option.some g → w.heap.size + 2 ≤ g := by
    intro g hg
    obtain ⟨g', cap, rfl, hb, _⟩ := h.shape
    simp [Value.ownBlock] at hg
    omega
  have blk : ∀ b, b < w.heap.size + 2 → b < W.heap.size → W'.heap[b]? = W.heap[b]? := fun b hb hlt => hg.block b hlt (fun e => by have := hob b e.symm; omega)
  have hrow := h.row
  refine ⟨h.t.of_block (blk _ (by omega) h.t.lt), ?_, ?_, hs, h.bel.grown hg (by have := h.t.lt; omega) (fun g hg' => by have := hob g hg'; omega), Nat.le_trans h.size hg.size⟩
  · obtain ⟨cs, hb, r⟩ := hrow
    exact ⟨cs, (blk _ (by omega) h.row.lt).trans hb, r⟩
  · rw [List.length_append, ← natv_append]; exact hown

theorem StkW.meas {w : World} {a : Option Addr} {n c : Nat} {now : Int} {m : Nat → Bool} {L : List Nat} {s : Value} {W : World} (h : StkW w a n c now m L s W) :
    2 * (n - cntB (fun j => bitAt W (w.heap.size + 1) j) n) + lenOf s = 2 * (n - cntB m n) + L.length := by
  have e : cntB (fun j => bitAt W (w.heap.size + 1) j) n = cntB m n := cntB_congr (fun j hj => by
    unfold bitAt
    rw [h.row.cell hj])
  obtain ⟨g, cap, rfl, _⟩ := h.shape
  rw [e]
  rfl

theorem StkW.drew {w : World} {a : Option Addr} {n c : Nat} {now : Int} {m : Nat → Bool} {L : List Nat} {s : Value} {W : World} (h : StkW w a n c now m L s W) (q : Nat) : StkW w a n c now m L s (W.drewN q) :=
  ⟨h.t, h.row, h.own, h.some, below_drewN h.bel q, h.size⟩

theorem natv_cells (w : World) (x : Nat) : ∀ j u, (natv [x])[j]? = some u → (w.alloc (.cells #[.int .i64 (x : Int)] 3)).cell? ((⟨w.heap.size, 0, none⟩ : Addr).add j) = some u := by
  intro j u h
  have hj : j = 0 := by
    rcases Nat.eq_zero_or_pos j with h0 | h0
    · exact h0
    · rw [List.getElem?_eq_none (by simp [natv]; omega)] at h; cases h
  subst hj
  have := cell_one_new w (.int .i64 (x : Int)) 3
  simp [natv] at h
  subst h
  rw [show (⟨w.heap.size, 0, none⟩ : Addr).add 0 = ⟨w.heap.size, 0, none⟩ by unfold Addr.add; split <;> simp_all]
  exact (Blk.new w #[.int .i64 (x : Int)] 3).cell 0

theorem stk_start (w : World) (a : Option Addr) (n c : Nat) (now : Int) : StkW w a n c now (fun j => decide (j = 0)) [0] (.slice (some ⟨w.heap.size + 1 + 1, 0, none⟩) 1 1)
    (((w.alloc (.cells #[.slice a n c, .int .i64 now] 25)).alloc (.cells ((madeCells #[.bool false] n).setIfInBounds 0 (.bool true)) 4)).alloc (.cells #[.int .i64 0] 3)) := by
  have h := marks_start w a n c now
  have h3 := new3 w #[.slice a n c, .int .i64 now] 25 ((madeCells #[.bool false] n).setIfInBounds 0 (.bool true)) 4 #[.int .i64 0] 3
  refine ⟨h3.b0, rowIs_below h.row ((Below.refl _ _).alloc (Nat.le_refl _) _) h.row.lt, ⟨rfl, Or.inr ⟨w.heap.size + 1 + 1, 1, _, rfl, by omega, h3.b2, Nat.le_refl _, by unfold maxLen; omega, rfl, rfl⟩⟩, by simp, h3.bel, by have := h3.size; omega⟩

set_option maxHeartbeats 2000000 in
theorem reached_any (a : Option Addr) (n c : Nat) (now : Int) (D : Nat → Nd) (L : Nat → Loc) (w : World) (hS : IsNds w a n D L) (h1 : 1 ≤ n) (hn : n ≤ 1048576) (hsm : ∀ i, i < n → (D i).kn ≤ maxLen) (hk : ∀ i, i < n → ∀ j, j < (D i).kn → 0 ≤ (D i).kids j ∧ (D i).kids j < n) :
    Calls Try.prog 38 #[trV a n c now] w fun e w' => Below w.heap.size w w' ∧ e = .returned (.slice (some ⟨w.heap.size + 1, 0, none⟩) n n) ∧ ∃ m : Nat → Bool, w'.rowIs (w.heap.size + 1) 4 n (fun j => .bool (m j)) ∧ ∀ j, m j = true ↔ Reach n D j := by
  have hmk := fun w => run_make_row' (P := Try.prog) 46 4 (.bool false) 1 Try.underlying46 infoBool rfl .i64 .i64 n (by omega) (by omega) w
  have hm0 : (madeCells #[Value.bool false] n)[0]? = some (.bool false) := by simp [madeCells, show 0 < n from h1]
  obtain ⟨i0, hi, hz0, hz1, hz2⟩ := info_parts infoInt
  unfold trV
  go_enter Try.func38, Try.ntmps38
  go_wp2
  go_loopw [4] (fun s wr => ∃ (m : Nat → Bool) (L : List Nat), StkW w a n c now m L s wr ∧ Stk n D m L) (fun s wr => 2 * (n - cntB (fun j => bitAt wr (w.heap.size + 1) j) n) + lenOf s)
  case atStart => exact ⟨_, _, stk_start w a n c now, Stk.start h1⟩
  case round =>
    obtain ⟨m0, K, hin, hst⟩ := hrel
    have hfew := hst.few
    have hfew2 := cntB_le m0 n
    have hmeas := hin.meas
    obtain ⟨g, cap, rfl, hg1, hg2, hcap, hcapm, hcells⟩ := hin.shape
    unfold maxLen at hcapm
    clear hmk hm0
    rcases List.eq_nil_or_concat K with rfl | ⟨K', x, rfl⟩
    · have HALL : Hid (StkW w a n c now m0 [] (.slice (some ⟨g, 0, none⟩) 0 cap) wr ∧ Stk n D m0 []) := ⟨hin, hst⟩
      have h00 : ((([] : List Nat).length : Nat)) = 0 := rfl
      rw [h00]
      clear hin hst hcells
      go_wp2
      go_ret
      exact ⟨HALL.out.1.bel, rfl, m0, HALL.out.1.row, HALL.out.2.fin⟩
    · rw [List.concat_eq_append] at *
      have hxc : wr.cell? ⟨g, K'.length, none⟩ = some (.int .i64 (x : Nat)) := by
        have := hcells K'.length (by simp)
        simpa using this
      have hlen : (K' ++ [x]).length = K'.length + 1 := by simp
      rw [hlen] at hfew hmeas hcap ⊢
      obtain ⟨hxn, hmx⟩ := hst.on x (by simp)
      have hSr := hS.below (Nat.le_refl _) hin.bel
      obtain ⟨b, off, rfl, hlt2, hc⟩ := hSr.at hxn
      have c3 := (hc x hxn).2.2.2.1
      have t0 : wr.cell? ⟨w.heap.size, 0, none⟩ = some (.slice (some ⟨b, off, none⟩) n c) := hin.t.cell 0
      have hknb := hsm x hxn
      unfold maxLen at hknb
      have hxi : (x : Int) < (n : Int) := by omega
      have HST : Hid (StkW w (some ⟨b, off, none⟩) n c now m0 K' (.slice (some ⟨g, 0, none⟩) K'.length cap) wr ∧ StkIn n D x 0 m0 K' ∧ 2 * (n - cntB m0 n) + K'.length + 1 = 2 * (n - cntB (fun j => bitAt wr (w.heap.size + 1) j) n) + lenOf (.slice (some ⟨g, 0, none⟩) (K'.length + 1) cap)) := ⟨hin.pop, hst.pop, hmeas.symm⟩
      clear hin hst hmeas hc hcells hSr hmx
      generalize hkl : K'.length = kl at *
      have hwr : IntKind.i64.wrap ((kl : Int) + 1 - 1) = (kl : Int) := by rw [IntKind.wrap_i64]; omega
      have hwr2 : IntKind.i64.wrap (((kl + 1 : Nat) : Int) - 1) = (kl : Int) := by rw [IntKind.wrap_i64]; omega
      have hki : (kl : Int) < ((kl + 1 : Nat) : Int) := by omega
      go_wp2_with fail
      go_quiet (fail)
      have HS1 := HST.out.1.drew nq
      have HS : Hid (StkW w (some ⟨b, off, none⟩) n c now m0 K' (.slice (some ⟨g, 0, none⟩) kl cap) (wr.drewN nq)) := HS1
      clear HS1
      go_wp2
      go_loopw [4, 36] (fun s i wr' => ∃ (j : Nat) (m : Nat → Bool) (K : List Nat), j ≤ (D x).kn ∧ i = .int .i64 j ∧ StkW w (some ⟨b, off, none⟩) n c now m K s wr' ∧ StkIn n D x j m K ∧ 2 * (n - cntB m n) + K.length ≤ 2 * (n - cntB m0 n) + kl) (fun _ i _ => (D x).kn - (intOf i).toNat)
      case atStart => exact ⟨0, m0, K', Nat.zero_le _, rfl, HS.out, HST.out.2.1, by omega⟩
      case round =>
        obtain ⟨j, m, K, hj, rfl, hin, hst, hms⟩ := hrel
        have hfew3 := hst.few
        have hfew4 := cntB_le m n
        by_cases hltj : j < (D x).kn
        · have hSr := hS.below (Nat.le_refl _) hin.bel
          obtain ⟨b2, off2, ha2, _, hc2⟩ := hSr.at hxn
          cases ha2
          obtain ⟨b', off', ha', hlt2', hc'⟩ := (hc2 x hxn).2.2.2.2.2.2.at hltj
          have hz := hc' j hltj
          obtain ⟨hk0, hk1⟩ := hk x hxn j hltj
          obtain ⟨z, hz'⟩ : ∃ z : Nat, (D x).kids j = z := ⟨((D x).kids j).toNat, by omega⟩
          have hzn : z < n := by omega
          have hzt : ((D x).kids j).toNat = z := by rw [hz']; rfl
          have hjj : (j : Int) < ((D x).kn : Int) := by omega
          have hzi : (z : Int) < (n : Int) := by omega
          rw [hz'] at hz
          have mz : wr.cell? ⟨w.heap.size + 1, z, none⟩ = some (.bool (m z)) := hin.row.cell hzn
          have mf := hin.row.frozen z
          rw [ha']
          clear hSr hc2 hc' hk0 hk1 t0 c3 hxc hwr hwr2 hki hg1 hg2
          cases hmz : m z with
          | true =>
            rw [hmz] at mz
            have HALL : Hid (StkW w (some ⟨b, off, none⟩) n c now m K u4 wr ∧ StkIn n D x (j + 1) m K ∧ 2 * (n - cntB m n) + K.length ≤ 2 * (n - cntB m0 n) + kl) := ⟨hin, hst.pass (by rw [hzt]; exact hmz), hms⟩
            clear hin hst hms hmz
            go_wp2
            go_roundw
            case rel => exact ⟨j + 1, m, K, by omega, by go_num, HALL.out.1, HALL.out.2.1, HALL.out.2.2⟩
            case measure => simp [intOf]; omega
          | false =>
            rw [hmz] at mz
            have hst2 := hst.push hltj hzt hzn hmz
            have hcl := cntB_lt (m := m) (m' := fun j => if j = z then true else m j) (fun y hy => by by_cases e : y = z <;> simp [e, hy]) (i := z) (by simp [hmz]) (by simp) n hzn
            have hfew5 := cntB_le (fun j => if j = z then true else m j) n
            have hin2 := hin.mark z
            have HALL : Hid (StkIn n D x (j + 1) (fun j => if j = z then true else m j) (K ++ [z]) ∧ 2 * (n - cntB (fun j => if j = z then true else m j) n) + (K ++ [z]).length ≤ 2 * (n - cntB m0 n) + kl) := ⟨hst2, by rw [List.length_append]; simp only [List.length_singleton]; omega⟩
            have HIN : Hid (StkW w (some ⟨b, off, none⟩) n c now (fun j => if j = z then true else m j) K u4 (wr.setCell ⟨w.heap.size + 1, z, none⟩ (.bool true))) := hin2
            have hsz := hin.size
            clear hin hst hms hmz hst2 hcl hin2
            go_wp2_with (at_builtin; refine wpList_append_own _ rfl _ _ 34 rfl (w.heap.size + 2) 3 i0 (.int .i64 0) 1 8 Try.underlying34 hi hz0 hz1 hz2 rfl (by decide) _ _ _ rfl (HIN.out.alloc _).own ⟨_, 0, none⟩ 1 1 (natv [z]) rfl rfl ?c1 ?c2 ?c3 ?c4 ?c5 ?_)
            case c1 =>
              have := natv_cells (wr.setCell ⟨w.heap.size + 1, z, none⟩ (.bool true)) z
              rwa [show (wr.setCell ⟨w.heap.size + 1, z, none⟩ (.bool true)).heap.size = wr.heap.size by simp [World.setCell]] at this
            case c2 => exact natv_one _
            case c3 => unfold maxLen; omega
            case c4 => omega
            case c5 => simp [World.setCell]; omega
            intro v' w1 hown hgrow hnil
            have HN : Hid (StkW w (some ⟨b, off, none⟩) n c now (fun j => if j = z then true else m j) (K ++ [z]) v' w1) := (HIN.out.alloc _).push hown hgrow hnil
            clear hown hgrow hnil
            go_wp2
            go_roundw
            case rel => exact ⟨j + 1, _, K ++ [z], by omega, by go_num, HN.out, HALL.out.1, HALL.out.2⟩
            case measure => simp [intOf]; omega
        · have hje : j = (D x).kn := by omega
          have hmeas := hin.meas
          have HALL : Hid (StkW w (some ⟨b, off, none⟩) n c now m K u4 wr ∧ Stk n D m K ∧ 2 * (n - cntB m n) + K.length ≤ 2 * (n - cntB m0 n) + kl ∧ 2 * (n - cntB (fun j => bitAt wr (w.heap.size + 1) j) n) + lenOf u4 = 2 * (n - cntB m n) + K.length) := ⟨hin, (hje ▸ hst).out, hms, hmeas⟩
          clear hin hst hms hje hmeas
          go_wp2
          go_roundw
          case rel => exact ⟨m, K, HALL.out.1, HALL.out.2.1⟩
          case measure =>
            have h1 := HALL.out.2.2
            have h2 := HST.out.2.2
            simp at h2 ⊢
            omega
end Go.Proofs.Ytlikmphjocjmeaa

/-
  What TreeOk of the program has to keep.
-/
namespace Go.Proofs.Ytlikmphjocjmeaa
open Go.RowKit

/-- What TreeOk of the program has to keep. -/
def ImplTreeOk : Prop := ∀ (a : Option Addr) (n c : Nat) (now : Int) (D : Nat → Nd) (L : Nat → Loc) (w : World), IsNds w a n D L → FitAll n D → n ≤ maxLen → sizeTo D n ≤ 1048576 → In64 now →
    Calls Try.prog 7 #[trV a n c now] w fun e w' => Below w.heap.size w w' ∧ ∃ r : Bool, e = .returned (.bool r) ∧ (r = true ↔ TreeGood n D now)
end Go.Proofs.Ytlikmphjocjmeaa
