/-
  What l2Grow does to a tree that is being drawn.
-/
import Derived.Test.YtbifhfnoogjoeaaDrawGrowIn
import Derived.Deep.RegionLaw
import Derived.Deep.RegionWith
import Derived.BigRegion
import Derived.Test.YtbifhfnoogjoeaaCut2
namespace Go.Proofs.Ytbifhfnoogjoeaa
open Go.RowKit Go.Deep
set_option linter.unusedVariables false

/-- What is known while the directories are gathered. -/
structure DI (w : World) (g n cap : Nat) (now : Int) (v : Value) (DL : List Int) (W : World) : Prop where
  t : Blk W w.heap.size #[.slice (some ⟨g, 0, none⟩) n cap, .int .i64 now] 25
  res : Blk W (w.heap.size + 1) #[.slice none 0 0, .int .i64 0] 25
  own : W.ownsRow (w.heap.size + 2) 3 1 v DL.length (intv DL)
  some : v ≠ .slice none 0 0
  bel : Below w.heap.size w W
  size : w.heap.size + 2 ≤ W.heap.size

/-- .. of which directories. -/
structure DirL (n : Nat) (D : Nat → Nd) (k : Nat) (DL : List Int) : Prop where
  dir : ∀ z ∈ DL, ∃ x : Nat, z = x ∧ x < n ∧ (D x).kind = 2
  some : 1 ≤ k → 1 ≤ DL.length
  few : DL.length ≤ k

theorem DirL.more {n : Nat} {D : Nat → Nd} {k : Nat} {DL : List Int} (h : DirL n D k DL) (hk : k < n) (hd : (D k).kind = 2) : DirL n D (k + 1) (DL ++ [(k : Int)]) :=
  ⟨fun z hz => by
    rcases List.mem_append.1 hz with hz | hz
    · exact h.dir z hz
    · simp at hz; exact ⟨k, hz, hk, hd⟩, fun _ => by simp, by simp; exact h.few⟩

theorem DirL.skip {n : Nat} {D : Nat → Nd} {k : Nat} {DL : List Int} (h : DirL n D k DL) (hr : (D 0).kind = 2) (hd : ¬ (D k).kind = 2) : DirL n D (k + 1) DL :=
  ⟨h.dir, fun _ => h.some (by
    rcases Nat.eq_zero_or_pos k with e | e
    · subst e; exact absurd hr hd
    · exact e), by have := h.few; omega⟩

theorem DI.app {w : World} {g n cap : Nat} {now : Int} {v v' : Value} {DL : List Int} {W W' : World} {z : Int} (h : DI w g n cap now v DL W) (hown : W'.ownsRow (w.heap.size + 2) 3 1 v' (DL.length + 1) (intv DL ++ intv [z])) (hgrow : W.grownBy W' v.ownBlock) (hs : ¬ v' = .slice none 0 0) : DI w g n cap now v' (DL ++ [z]) W' := by
  have hsz := h.size
  have hob := own_ge h.own
  have hb : ∀ b, b < w.heap.size + 2 → W'.heap[b]? = W.heap[b]? := fun b hb => hgrow.block b (by omega) (fun e => by have := hob b e.symm; omega)
  exact ⟨h.t.of_block (hb _ (by omega)), h.res.of_block (hb _ (by omega)), by rw [List.length_append, ← intv_append]; exact hown, hs, h.bel.grown hgrow (by omega) (fun b e => by have := hob b e; omega), Nat.le_trans hsz hgrow.size⟩

theorem DI.alloc {w : World} {g n cap : Nat} {now : Int} {v : Value} {DL : List Int} {W : World} (h : DI w g n cap now v DL W) (o : Obj) : DI w g n cap now v DL (W.alloc o) :=
  ⟨h.t.alloc _, h.res.alloc _, h.own.alloc o, h.some, h.bel.alloc (by have := h.size; omega) _, by have := h.size; simp; omega⟩

/-- What l2Grow leaves. -/
structure Grew (w : World) (X : Nat → Prop) (r : Nat) (a : Option Addr) (len cp : Nat) (zs : Nat → Int) (p m : Nat) (now : Int) (g cap n : Nat) (D : Nat → Nd) (L : Nat → Loc) (W : World) : Prop where
  rd : ∃ q, IsRd W r a len cp zs q ∧ q ≤ p + 20
  own : OwnT W (r + 1) g cap n D L
  nice : Nice n (m + 1) D
  bel : Below r w W
  away : Away X g n L
  kept : ∀ b, X b → W.heap[b]? = w.heap[b]?
  kids : KidsOwn W n D L

/-- What is known at l2Grow's end, behind the store into its answer. -/
structure GEnd (w : World) (X : Nat → Prop) (r : Nat) (a : Option Addr) (len cp : Nat) (zs : Nat → Int) (p m : Nat) (now : Int) (g cap n : Nat) (D : Nat → Nd) (L : Nat → Loc) (W : World) : Prop where
  ans : Blk W (w.heap.size + 1) #[.slice (some ⟨g, 0, none⟩) n cap, .int .i64 (now + 1)] 25
  grew : Grew w X r a len cp zs p m now g cap n D L W

theorem GI.fin {w : World} {X : Nat → Prop} {r : Nat} {a : Option Addr} {len cp : Nat} {zs : Nat → Int} {p q m g cap n : Nat} {D : Nat → Nd} {L : Nat → Loc} {now : Int} {W : World} (h : GI w X r a len cp zs q g cap n D L (now + 1) W) (hq : q ≤ p + 20) (hN : Nice n (m + 1) D) :
    GEnd w X r a len cp zs p m now g cap n D L ((W.setCell ⟨w.heap.size + 1, 0, none⟩ (.slice (some ⟨g, 0, none⟩) n cap)).setCell ⟨w.heap.size + 1, 1, none⟩ (.int .i64 (now + 1))) := by
  have hl := h.rlt
  have h1 := h.own.setOther h.away (b := w.heap.size + 1) (Or.inr rfl) 0 (.slice (some ⟨g, 0, none⟩) n cap)
  have h2 := h1.setOther h.away (b := w.heap.size + 1) (Or.inr rfl) 1 (.int .i64 (now + 1))
  refine ⟨(h.res.set 0 _).set 1 _, ⟨q, ?_, hq⟩, h2, hN, bel_put (bel_put h.bel (b := w.heap.size + 1) _ (by omega)) (b := w.heap.size + 1) _ (by omega), h.awX, fun b hx => ((blk_setCell_other _ _ _ _ (by show b ≠ w.heap.size + 1; have := h.hX b hx; omega)).trans (blk_setCell_other _ _ _ _ (by show b ≠ w.heap.size + 1; have := h.hX b hx; omega))).trans (h.kept b hx), h.kids.of_blocks (fun i hi b o x e => by have h2 := (h.away.lists i hi).2 b o x e; exact (blk_setCell_other _ _ _ _ (by show b ≠ w.heap.size + 1; omega)).trans (blk_setCell_other _ _ _ _ (by show b ≠ w.heap.size + 1; omega)))⟩
  exact h.rd.kept (fun k hk => (blk_setCell_other _ _ _ _ (by show k ≠ w.heap.size + 1; omega)).trans (blk_setCell_other _ _ _ _ (by show k ≠ w.heap.size + 1; omega)))

/-- A region is walked, and left with four things known. -/
theorem wp_cut4 {X Y Z U : Type} (F : X → Y → Z → U → World → Prop) {P : Program} {c : Code} {K : Act → World → Prop} {Q : Exit → Act → World → Prop} {a : Act} {w : World} (A : X → Y → Z → U → Act)
    (leaf : (∀ x y z u W, F x y z u W → K (A x y z u) W) → c.wp P (Exit.then K Q) a w) (k : ∀ x y z u W, F x y z u W → K (A x y z u) W) : c.wp P (Exit.then K Q) a w := leaf k

/-- A place is appended, and t.Nodes written. -/
theorem GI.append {w : World} {X : Nat → Prop} {r : Nat} {a : Option Addr} {len cp : Nat} {zs : Nat → Int} {q g cap n : Nat} {D : Nat → Nd} {L : Nat → Loc} {now : Int} {W W' : World} (h : GI w X r a len cp zs q g cap n D L now W) {cur : Array Value} (hc : W.heap[g]? = some (.cells cur 36 (0, 0))) (hs : cur.size = cap * 5) {g' cap' : Nat} {k : Int}
    (hown : W'.ownsRow (r + 1) 36 5 (.slice (some ⟨g', 0, none⟩) (n + 1) cap') (n + 1) (cur.toList.take (n * 5) ++ kindCells k)) (hgrow : W.grownBy W' (some g)) (hat : g = g' ∨ W.heap.size ≤ g') :
    GI w X r a len cp zs q g' cap' (n + 1) (putNd D n (kindNd k)) (putLoc L n loc00) now (W'.setCell ⟨w.heap.size, 0, none⟩ (.slice (some ⟨g', 0, none⟩) (n + 1) cap')) := by
  have hl := h.rlt
  have hsz := h.size
  have hb := h.own.base
  have hr : ¬ (g = w.heap.size ∨ g = w.heap.size + 1) := h.away.row
  have ho := h.own.app hc hs hown hgrow hat
  have ha : Away (fun b => b = w.heap.size ∨ b = w.heap.size + 1) g' (n + 1) (putLoc L n loc00) := by
    refine ⟨by rcases hat with rfl | hat <;> omega, fun j hj => ?_⟩
    by_cases e : j = n
    · subst e
      simp only [putLoc, if_true]
      exact ⟨fun b o x e => by simp [loc00] at e, fun b o x e => by simp [loc00] at e⟩
    · simp only [putLoc, if_neg e]
      exact h.away.lists j (by omega)
  have hx' : Away X g' (n + 1) (putLoc L n loc00) := by
    refine ⟨fun hx => by rcases hat with rfl | hat; (exact h.awX.row hx); (have := h.hX _ hx; omega), fun j hj => ?_⟩
    by_cases e : j = n
    · subst e
      simp only [putLoc, if_true]
      exact ⟨fun b o x e => by simp [loc00] at e, fun b o x e => by simp [loc00] at e⟩
    · simp only [putLoc, if_neg e]
      exact h.awX.lists j (by omega)
  have hblk : ∀ b, b < W.heap.size → b ≠ g → W'.heap[b]? = W.heap[b]? := fun b h1 h2 => hgrow.block b h1 (by simpa using h2)
  refine ⟨h.rd.kept (fun j hj => (blk_setCell_other _ _ _ _ (by show j ≠ w.heap.size; omega)).trans (hblk j (by omega) (by omega))), (h.t.of_block (hblk _ (by omega) (by omega))).set 0 _, (h.res.of_block (hblk _ (by omega) (by omega))).off _ (by omega), ho.setOther ha (Or.inl rfl) _ _, ha, bel_put (h.bel.grown hgrow (by omega) (fun b e => by simp at e; omega)) _ (by omega), h.rlt, hx', fun b hx => (blk_setCell_other _ _ _ _ (by show b ≠ w.heap.size; have := h.hX b hx; omega)).trans ((hblk b (by have := h.hX b hx; omega) (fun e => by subst e; exact h.awX.row hx)).trans (h.kept b hx)), h.hX, (h.kids.of_blocks (fun i hi b o x e => by have h1 := (h.own.lists i hi).2.2 b o x e; have h2 := (h.away.lists i hi).2 b o x e; exact (blk_setCell_other _ _ _ _ (by show b ≠ w.heap.size; omega)).trans (hblk b (by omega) (by omega)))).app _ _ rfl rfl rfl rfl⟩

theorem putNd_kn {n : Nat} (D : Nat → Nd) (i0 : Nat) {d : Nd} (h : d.kn = (D i0).kn) : ∀ i, i < n → (putNd D i0 d i).kn = (D i).kn := fun i _ => by
  by_cases e : i = i0
  · subst e; rw [putNd_same, h]
  · rw [putNd_ne D _ e]

/-- New lists are other than those that were there. -/
theorem far_new {w w' : World} {l : Loc} {B g cap n : Nat} {D : Nat → Nd} {L : Nat → Loc} (hk : New w w' l.kA) (hn : New w w' l.nA) (h : OwnT w B g cap n D L) (i : Nat) : ∀ j, j < n → j ≠ i → Apart l.kA (L j).kA ∧ Apart l.kA (L j).nA ∧ Apart (L j).kA l.nA := fun j hj _ =>
  ⟨fun b o x b' o' x' e e' => by have h1 := hk b o x e; have h2 := (h.lists j hj).2.2 b' o' x' e'; omega,
   fun b o x b' o' x' e e' => by have h1 := hk b o x e; have h2 := (h.lists j hj).2.1 b' o' x' e'; omega,
   fun b o x b' o' x' e e' => by have h1 := hn b' o' x' e'; have h2 := (h.lists j hj).2.2 b o x e; omega⟩

theorem Nice.app {n m : Nat} {D : Nat → Nd} (h : Nice n m D) (hn : n < 10) {k : Int} (hk : 1 ≤ k ∧ k ≤ 2) : Nice (n + 1) m (putNd D n (kindNd k)) := by
  have h1 := h.some
  refine ⟨by omega, by omega, by rw [putNd_ne D _ (by omega)]; exact h.root, fun j hj => ?_⟩
  by_cases e : j = n
  · subst e
    rw [putNd_same]
    exact ⟨rfl, Nat.zero_le _, fun i hi => absurd hi (Nat.not_lt_zero _), fun i hi => absurd hi (Nat.not_lt_zero _), by simp [kindNd], hk, by simp [kindNd]⟩
  · rw [putNd_ne D _ e]
    exact (h.each j (by omega)).more (Nat.le_succ _) (Nat.le_refl _)

def new4 : List ByteArray := [⟨#[120]⟩, ⟨#[121, 121]⟩, ⟨#[]⟩, ⟨#[110, 101, 119]⟩]

set_option maxRecDepth 100000 in
set_option maxHeartbeats 8000000 in
theorem l2Grow_any (w : World) (X : Nat → Prop) (r : Nat) (a : Option Addr) (len cp : Nat) (zs : Nat → Int) (p g cap n m : Nat) (D : Nat → Nd) (L : Nat → Loc) (now : Int) (hR : IsRd w r a len cp zs p) (hp : p ≤ 1000) (hO : OwnT w (r + 1) g cap n D L) (hXA : Away X g n L) (hX : ∀ b, X b → b < w.heap.size ∧ b ≠ r) (hKO : KidsOwn w n D L) (hN : Nice n m D) (hm : m ≤ 100) (h0 : 0 ≤ now) (h1 : now ≤ 100) :
    Calls Try.prog 55 #[.pointer (some ⟨r, 0, none⟩), trV (some ⟨g, 0, none⟩) n cap now] w fun e w' => ∃ g' cap' n' D' L', e = .returned (trV (some ⟨g', 0, none⟩) n' cap' (now + 1)) ∧ Grew w X r a len cp zs p m now g' cap' n' D' L' w' := by
  obtain ⟨j0, hj, hy0, hy1, hy2⟩ := info_parts infoInt
  have hn1 := hN.some
  have hn10 := hN.few
  have hlt0 := hO.lt
  unfold trV
  go_enter Try.func55, Try.ntmps55
  go_wp2
  go_loopw [5, 6] (fun v i wr => ∃ (k : Nat) (DL : List Int), k ≤ n ∧ i = .int .i64 k ∧ DI w g n cap now v DL wr ∧ DirL n D k DL) (fun _ i _ => n - (intOf i).toNat)
  case atStart =>
    have h3 := new3 w #[.slice (some ⟨g, 0, none⟩) n cap, .int .i64 now] 25 #[.slice none 0 0, .int .i64 0] 25 #[] 3
    refine ⟨0, [], Nat.zero_le _, rfl, ⟨h3.b0, h3.b1, ⟨rfl, Or.inr ⟨w.heap.size + 1 + 1, 0, #[], rfl, by omega, h3.b2, Nat.le_refl _, by unfold maxLen; omega, rfl, rfl⟩⟩, by simp, h3.bel, by have := h3.size; omega⟩, ⟨fun z hz => by simp at hz, fun h => by omega, Nat.le_refl _⟩⟩
  case round =>
    obtain ⟨k, DL, hk, rfl, hin, hdl⟩ := hrel
    have t0 : wr.cell? ⟨w.heap.size, 0, none⟩ = some (.slice (some ⟨g, 0, none⟩) n cap) := hin.t.cell 0
    have hfew := hdl.few
    have hsz := hin.size
    by_cases hlt : k < n
    · have hOr := hO.below hin.bel
      have c0 := (hOr.cells k hlt).1
      have hki : (k : Int) < (n : Int) := by omega
      have HIN : Hid (DI w g n cap now u5 DL wr ∧ DirL n D k DL) := ⟨hin, hdl⟩
      clear hin hdl hOr
      cases hd2 : ((D k).kind == 2) with
      | true =>
        have H2 : Hid ((D k).kind = 2) := show (D k).kind = 2 by simpa using hd2
        go_wp2_with (at_builtin; refine wpList_append_own _ rfl _ _ 34 rfl (w.heap.size + 2) 3 j0 (.int .i64 0) 1 8 Try.underlying34 hj hy0 hy1 hy2 rfl (by decide) u5 DL.length (intv DL) rfl (HIN.out.1.alloc _).own ⟨wr.heap.size, 0, none⟩ 1 1 (intv [(k : Int)]) rfl rfl (intv_at wr _) (intv_one _) (by unfold maxLen; omega) (by omega) (by simp; omega) ?_)
        intro v' w1 hown hgrow hnil
        have HD : Hid (DI w g n cap now v' (DL ++ [(k : Int)]) w1) := (HIN.out.1.alloc _).app hown hgrow hnil
        clear hown hgrow hnil c0 t0
        go_wp2
        go_roundw
        case rel => exact ⟨k + 1, _, by omega, by go_num, HD.out, HIN.out.2.more hlt H2.out⟩
        case measure => simp [intOf]; omega
      | false =>
        have H2 : Hid (¬ (D k).kind = 2) := show ¬ (D k).kind = 2 by simpa using hd2
        go_wp2
        go_roundw
        case rel => exact ⟨k + 1, _, by omega, by go_num, HIN.out.1, HIN.out.2.skip hN.root H2.out⟩
        case measure => simp [intOf]; omega
    · have hke : k = n := by omega
      have hdl' : DirL n D n DL := hke ▸ hdl
      obtain ⟨gd, cd, hv, hbd, hltd⟩ : ∃ gd cd, u5 = .slice (some ⟨gd, 0, none⟩) DL.length cd ∧ w.heap.size + 2 ≤ gd ∧ gd < wr.heap.size := hin.own.form (by have := hdl'.some hn1; omega)
      subst hv
      have HDI : Hid (DI w g n cap now (.slice (some ⟨gd, 0, none⟩) DL.length cd) DL wr ∧ DirL n D n DL) := ⟨hin, hdl'⟩
      have hR1 := hR.kept (W' := wr) (fun k hk => hin.bel.block k (by have := hR.lt; omega))
      have hlen1 : 1 ≤ DL.length := hdl'.some hn1
      have hlen2 : DL.length ≤ 10 := by have := hdl'.few; omega
      have hdcell : ∀ i, i < DL.length → wr.cell? ⟨gd, i, none⟩ = some (.int .i64 (DL.getD i 0)) := by
        obtain ⟨a1, c1, e1, h1, _⟩ := owns_ints hin.own
        cases e1
        rcases h1 with h1 | ⟨b', o', e', _, hc'⟩
        · intro i hi; omega
        · cases e'
          intro i hi
          have := hc' i hi
          rwa [Nat.zero_add] at this
      clear hin hdl hdl' hke
      go_wp2_with fail
      have hG1 : GI w X r a len cp zs p g cap n D L now wr := ⟨hR1, HDI.out.1.t, HDI.out.1.res, hO.below HDI.out.1.bel, away_low hO (Nat.le_refl _), HDI.out.1.bel.mono (by have := hR.lt; omega), hR.lt, hXA, fun b hx => HDI.out.1.bel.block b (hX b hx).1, hX, hKO.of_blocks (fun i hi b o x e => HDI.out.1.bel.block b (by have := (hO.lists i hi).2.2 b o x e; omega))⟩
      refine (pick_any wr r a len cp zs p DL.length hR1 (by omega) (by omega) (by omega)).mono ?_
      rintro e w2 ⟨x, rfl, hx0, hx1, hg2, hR2⟩
      obtain ⟨x, rfl⟩ := Int.eq_ofNat_of_zero_le hx0
      have hxl : x < DL.length := by omega
      obtain ⟨xd, hxd, hxn, hxk⟩ := HDI.out.2.dir (DL.getD x 0) (by simp [hxl])
      have dcell : w2.cell? ⟨gd, x, none⟩ = some (.int .i64 (xd : Nat)) := by
        have := hg2.cell (hdcell x hxl) (by simp; have := hR.lt; omega)
        rwa [hxd] at this
      have HG2 : Hid (GI w X r a len cp zs (p + 1) g cap n D L now w2) := hG1.read hg2 hR2
      have HXK : Hid ((D xd).kind = 2) := hxk
      have hrl := hR.lt
      clear hg2 hR2 hG1 hR1 HDI hdcell hxd hxk t0 hsz hfew hx0
      go_wp2_with fail
      refine (l1Name_nm w2 r a len cp zs (p + 1) HG2.out.rd (by omega)).mono ?_
      rintro e w3 ⟨name, rfl, hname, hg3, hR3⟩
      have HG3 : Hid (GI w X r a len cp zs (p + 1 + 1) g cap n D L now w3) := HG2.out.read hg3 hR3
      clear hg3 hR3 HG2 dcell
      have t0 : w3.cell? ⟨w.heap.size, 0, none⟩ = some (.slice (some ⟨g, 0, none⟩) n cap) := HG3.out.t.cell 0
      have t1 : w3.cell? ⟨w.heap.size, 1, none⟩ = some (.int .i64 now) := HG3.out.t.cell 1
      obtain ⟨c0, c1, c2, c3, c4⟩ := HG3.out.own.cells xd hxn
      have hxi : (xd : Int) < (n : Int) := by omega
      go_wp2_with fail
      have hnd := hN.each xd hxn
      refine (l2Name_any (D xd) (L xd) name w3 (HG3.out.own.lists xd hxn).1 (by have := hnd.few; unfold maxLen; omega)).mono ?_
      rintro e w4 ⟨hb4, rfl⟩
      have HG4 : Hid (GI w X r a len cp zs (p + 1 + 1) g cap n D L now w4) := HG3.out.below hb4
      clear hb4 HG3 t0 t1 c0 c1 c2 c3 c4
      have t0 : w4.cell? ⟨w.heap.size, 0, none⟩ = some (.slice (some ⟨g, 0, none⟩) n cap) := HG4.out.t.cell 0
      have t1 : w4.cell? ⟨w.heap.size, 1, none⟩ = some (.int .i64 now) := HG4.out.t.cell 1
      have tf1 := HG4.out.t.frozen 1
      obtain ⟨c0, c1, c2, c3, c4⟩ := HG4.out.own.cells xd hxn
      have hgb := HG4.out.away.row
      have hgb0 : g ≠ w.heap.size := fun e => hgb (Or.inl e)
      have hgb1 : w.heap.size ≠ g := fun e => hgb (Or.inl e.symm)
      have hgb2 : g ≠ w.heap.size + 1 := fun e => hgb (Or.inr e)
      have hgb3 : w.heap.size + 1 ≠ g := fun e => hgb (Or.inr e.symm)
      have rs0 : w4.cell? ⟨w.heap.size + 1, 0, none⟩ = some (.slice none 0 0) := HG4.out.res.cell 0
      have rs1 : w4.cell? ⟨w.heap.size + 1, 1, none⟩ = some (.int .i64 0) := HG4.out.res.cell 1
      have rf0 := HG4.out.res.frozen 0
      have rf1 := HG4.out.res.frozen 1
      rcases nameIx_spec (D xd) name with ⟨hix, hno⟩ | ⟨ix, hix, hixn, hixe⟩
      · rw [hix]
        clear hix hno
        go_wp2_with fail
        refine wp_world (F := GI w X r a len cp zs (p + 1 + 1) g cap n D L (now + 1)) (HG4.out.setNow (now + 1)) ?_
        clear HG4 t0 t1 tf1 c0 c1 c2 c3 c4 rs0 rs1 rf0 rf1
        intro W5 hW5
        go_loopw [11, 12] (fun kd i wr => ∃ (kd' k q : Nat), 1 ≤ k ∧ k ≤ n ∧ i = .int .i64 k ∧ kd = .int .i64 kd' ∧ (kd' = n ∨ (1 ≤ kd' ∧ kd' < n)) ∧ GI w X r a len cp zs q g cap n D L (now + 1) wr ∧ q ≤ p + 2 + k) (fun _ i _ => n - (intOf i).toNat)
        case atStart => exact ⟨n, 1, p + 1 + 1, Nat.le_refl _, hn1, rfl, rfl, Or.inl rfl, hW5, by omega⟩
        case round =>
          obtain ⟨kd, k', q, hk1, hkn', rfl, rfl, hkd, hin, hq⟩ := hrel
          clear hW5
          have t0 : wr.cell? ⟨w.heap.size, 0, none⟩ = some (.slice (some ⟨g, 0, none⟩) n cap) := hin.t.cell 0
          by_cases hltk : k' < n
          · have HIN : Hid _ := hin
            have hki : (k' : Int) < (n : Int) := by omega
            clear hin
            go_wp2_with fail
            refine (pick_any wr r a len cp zs q 4 HIN.out.rd (by omega) (by omega) (by omega)).mono ?_
            rintro e w6 ⟨x4, rfl, hx40, hx41, hg6, hR6⟩
            have HG6 : Hid (GI w X r a len cp zs (q + 1) g cap n D L (now + 1) w6) := HIN.out.read hg6 hR6
            clear hg6 hR6 HIN t0
            have t0 : w6.cell? ⟨w.heap.size, 0, none⟩ = some (.slice (some ⟨g, 0, none⟩) n cap) := HG6.out.t.cell 0
            have e0 := (HG6.out.own.cells k' hltk).1
            cases hx4 : (x4 == 0) with
            | false =>
              go_wp2
              go_roundw
              case rel => exact ⟨kd, k' + 1, q + 1, by omega, by omega, by go_num, rfl, hkd, HG6.out, by omega⟩
              case measure => simp [intOf]; omega
            | true =>
              cases hkf : ((D k').kind == 1) with
              | false =>
                go_wp2
                go_roundw
                case rel => exact ⟨kd, k' + 1, q + 1, by omega, by omega, by go_num, rfl, hkd, HG6.out, by omega⟩
                case measure => simp [intOf]; omega
              | true =>
                go_wp2
                go_roundw
                case rel => exact ⟨k', k' + 1, q + 1, by omega, by omega, by go_num, rfl, Or.inr ⟨hk1, hltk⟩, HG6.out, by omega⟩
                case measure => simp [intOf]; omega
          · have hqq : q ≤ p + 12 := by omega
            by_cases hk10 : 10 ≤ kd
            · have hdk : decide ((10 : Int) ≤ kd) = true := by simp; omega
              have HE : Hid _ := hin.fin (p := p) (m := m) (by omega) (hN.more (Nat.le_succ _))
              have t1 : wr.cell? ⟨w.heap.size, 1, none⟩ = some (.int .i64 (now + 1)) := hin.t.cell 1
              have rs0 : wr.cell? ⟨w.heap.size + 1, 0, none⟩ = some (.slice none 0 0) := hin.res.cell 0
              have rs1 : wr.cell? ⟨w.heap.size + 1, 1, none⟩ = some (.int .i64 0) := hin.res.cell 1
              have rf0 := hin.res.frozen 0
              have rf1 := hin.res.frozen 1
              clear hin
              go_wp2
              refine end_world (F := GEnd w X r a len cp zs p m now g cap n D L) HE.out ?_
              clear HE t0 t1 rs0 rs1 rf0 rf1
              rintro WF ⟨hr, hgr⟩
              have r0 := hr.cell 0
              have r1 := hr.cell 1
              simp at r0 r1
              exact bodyPost_ret (v := .agg #[.slice (some ⟨g, 0, none⟩) n cap, .int .i64 (now + 1)]) (by simp [results, Try.results55, go_sem, r0, r1]) rfl (by first | exact ⟨g, cap, n, _, L, rfl, hgr⟩ | exact ⟨g, cap, n, rfl, _, L, hgr⟩)
            · have hdk : decide ((10 : Int) ≤ kd) = false := by simp; omega
              by_cases hkn2 : kd = n
              · have hkb : ((kd : Int) == (n : Int)) = true := by simp [hkn2]
                subst hkn2
                have HIN : Hid _ := hin
                have hwl := hin.t.lt
                have hgl := hin.own.lt
                have hgbX := hin.away.row
                have hgx0 : g ≠ w.heap.size := fun e => hgbX (Or.inl e)
                have hgx1 : w.heap.size ≠ g := fun e => hgbX (Or.inl e.symm)
                obtain ⟨i0, hi0, hz0, hz1, hz2⟩ := info_parts infoNode
                clear hin hgbX
                go_wp2_with fail
                apply wp_cut4 (X := Nat) (Y := Nat) (Z := Int) (U := Nat) (fun g' c' z b W => GI w X r a len cp zs (q + 1) g' c' (kd + 1) (putNd D kd (kindNd (1 + z))) (putLoc L kd loc00) (now + 1) W ∧ 0 ≤ z ∧ z < 2)
                · intro key
                  have KEY : Hid _ := key
                  clear key
                  go_region_law (first
                    | (obtain ⟨cur6, hc6, hs6⟩ := (hG6.alloc (.cells #[.int .i64 (1 + x2), .string ⟨#[]⟩, .slice none 0 0, .slice none 0 0, .int .i64 0] 36)).own.blk
                       refine step_append_lies _ (by rfl) _ _ _ (by rfl) (r + 1) 36 i0 _ 5 80 Try.underlying23 hi0 hz0 hz1 hz2 rfl (by decide) (.slice (some ⟨g, 0, none⟩) kd cap) kd (cur6.toList.take (kd * 5)) (by rfl) ((hG6.alloc _).own.owns hc6 hs6) ⟨w6.heap.size, 0, none⟩ 1 1 (kindCells (1 + x2)) (by rfl) (by rfl) (World.news_of_block (cs := #[.int .i64 (1 + x2), .string ⟨#[]⟩, .slice none 0 0, .slice none 0 0, .int .i64 0]) (t := 36) (fr := (0, 0)) (heap_alloc_new w6 _)) (by simp [kindCells, Value.oneCell']) (by decide) (by unfold maxLen; omega) (by omega) (by have := hG6.rlt; have := hG6.size; simp; omega) (w6.heap.size + 1) (by simp) ?_
                       intro g' c' w7 hown hgrow hat hlt7
                       have q0 : w7.cell? ⟨w.heap.size, 0, none⟩ = some (.slice (some ⟨g, 0, none⟩) kd cap) := (hgrow.cell_far _ (by simp; omega) (by simp [Value.ownBlock]; omega)).trans ((hG6.alloc _).t.cell 0)
                       have q0f : w7.frozen? ⟨w.heap.size, 0, none⟩ = false := (hgrow.frozen_far _ (by simp; omega) (by simp [Value.ownBlock]; omega)).trans ((hG6.alloc _).t.frozen 0))
                    | (go_simp
                       go_at_call 38
                       refine (pick_any (wr.drewN 1) r a len cp zs q 2 (HIN.out.drew 1).rd (by omega) (by omega) (by omega)).mono ?_
                       rintro e w6 ⟨x2, rfl, hx20, hx21, hg6, hR6⟩
                       have hG6 := (HIN.out.drew 1).read hg6 hR6
                       have T0 : w6.cell? ⟨w.heap.size, 0, none⟩ = some (.slice (some ⟨g, 0, none⟩) kd cap) := hG6.t.cell 0
                       have hwr : IntKind.i64.wrap (1 + x2) = 1 + x2 := wrap_i64 (1 + x2) (by omega) (by omega)
                       have hl6 := hG6.t.lt))
                  all_goals (generalize w6.heap.size = b6; exact KEY.out g' c' x2 b6 _ ⟨(hG6.alloc _).append hc6 hs6 hown (by simpa [Value.ownBlock] using hgrow) (hat.elim (fun e => Or.inl (by simpa [Value.ownBlock] using e)) (fun e => Or.inr (by rw [e]; simp))), hx20, hx21⟩)
                · intro g' c' z b6 W7 hF7
                  have hN7a : Nice (kd + 1) m (putNd D kd (kindNd (1 + z))) := hN.app (by omega) ⟨by omega, by omega⟩
                  obtain ⟨D6, hD6⟩ : ∃ X', X' = putNd D kd (kindNd (1 + z)) := ⟨_, rfl⟩
                  obtain ⟨L6, hL6⟩ : ∃ X', X' = putLoc L kd loc00 := ⟨_, rfl⟩
                  have hG7a := hF7.1
                  rw [← hD6, ← hL6] at hG7a
                  rw [← hD6] at hN7a
                  have HIN7 : Hid _ := hG7a
                  have HNN : Hid (Nice (kd + 1) m D6) := hN7a
                  clear hD6 hL6 hF7 hG7a hN7a hi0 hz0 hz1 hz2 t0 HIN hgx0 hgx1
                  have HIN : Hid _ := HIN7.out
                  clear HIN7
                  have hkdn : kd < kd + 1 := Nat.lt_succ_self _
                  have hxN : xd < kd + 1 := by omega
                  have t0 : W7.cell? ⟨w.heap.size, 0, none⟩ = some (.slice (some ⟨g', 0, none⟩) (kd + 1) c') := HIN.out.t.cell 0
                  have t1 : W7.cell? ⟨w.heap.size, 1, none⟩ = some (.int .i64 (now + 1)) := HIN.out.t.cell 1
                  obtain ⟨e0, e1, e2, e3, e4⟩ := HIN.out.own.cells kd hkdn
                  have ef4 := HIN.out.own.frozen (kd * 5 + 4)
                  have hgbX := HIN.out.away.row
                  have hgx0 : g' ≠ w.heap.size := fun e => hgbX (Or.inl e)
                  have hgx1 : w.heap.size ≠ g' := fun e => hgbX (Or.inl e.symm)
                  have hgx2 : g' ≠ w.heap.size + 1 := fun e => hgbX (Or.inr e)
                  have hgx3 : w.heap.size + 1 ≠ g' := fun e => hgbX (Or.inr e.symm)
                  have hkdi : (kd : Int) < (((kd + 1) : Nat) : Int) := by omega
                  have hxdi : (xd : Int) < (((kd + 1) : Nat) : Int) := by omega
                  have hG7 := HIN.out.put (by exact putNd_kn _ _ rfl) (HIN.out.own.setTurn hkdn (now + 1))
                  have hN7 := HNN.out.put hkdn ((HNN.out.each kd hkdn).setTurn (z := now + 1) (by omega) (by omega)) rfl
                  have HG7 : Hid _ := hG7
                  have HN7 : Hid _ := hN7
                  clear hG7 hN7 hgbX
                  go_wp2_with fail
                  obtain ⟨D7, hD7⟩ : ∃ X', X' = putNd D6 kd { D6 kd with turn := now + 1 } := ⟨_, rfl⟩
                  rw [← hD7] at HG7 HN7
                  clear hD7
                  refine wp_world (F := GI w X r a len cp zs (q + 1) g' c' (kd + 1) D7 L6 (now + 1)) HG7.out ?_
                  clear HG7 HIN HNN t0 t1 e0 e1 e2 e3 e4 ef4
                  intro W8 hW8
                  have t0 : W8.cell? ⟨w.heap.size, 0, none⟩ = some (.slice (some ⟨g', 0, none⟩) (kd + 1) c') := hW8.t.cell 0
                  obtain ⟨e0, e1, e2, e3, e4⟩ := hW8.own.cells xd hxN
                  have hn8 := HN7.out.each xd hxN
                  have HW8 : Hid _ := hW8
                  have hsz8 := hW8.size
                  have hlt8 := hW8.own.lt
                  clear hW8
                  apply wp_cut3 (X := List ByteArray) (Y := List Int) (Z := Loc) (fun NL KL l' W => GI w X r a len cp zs (q + 1) g' c' (kd + 1) (putNd D7 xd (withNd (D7 xd) NL KL)) (putLoc L6 xd l') (now + 1) W ∧ WL (fun z => 0 ≤ z ∧ z < (((kd + 1) : Nat) : Int)) (D7 xd).nn true NL KL)
                  · intro key
                    have KEY : Hid _ := key
                    clear key
                    go_region_with (
                      go_at_call 45
                      refine (l2With_any (fun z => 0 ≤ z ∧ z < (((kd + 1) : Nat) : Int)) (D7 xd) (L6 xd) name kd (W8.drewN 1) ((HW8.out.drew 1).own.lists xd hxN).1 hn8.same (by have := hn8.few; omega) hn8.short hname hn8.kids ⟨by omega, by omega⟩).mono ?_
                      rintro e w9 ⟨NL, KL, l', rfl, hmade, hwl⟩
                      unfold ndV
                      have hG9 := (HW8.out.drew 1).below hmade.bel
                      have T0 : w9.cell? ⟨w.heap.size, 0, none⟩ = some (.slice (some ⟨g', 0, none⟩) (kd + 1) c') := hG9.t.cell 0
                      obtain ⟨E0, E1, E2, E3, E4⟩ := hG9.own.cells xd hxN
                      have F0 := hG9.own.frozen (xd * 5)
                      have F1 := hG9.own.frozen (xd * 5 + 1)
                      have F2 := hG9.own.frozen (xd * 5 + 2)
                      have F3 := hG9.own.frozen (xd * 5 + 3)
                      have F4 := hG9.own.frozen (xd * 5 + 4))
                    all_goals exact KEY.out NL KL l' _ ⟨hG9.putNode hxN (withNd (D7 xd) NL KL) l' hmade.lies hmade.room hmade.apart (far_new hmade.kA hmade.nA (HW8.out.drew 1).own xd) (fun b o x e => by have := hmade.nA b o x e; have h2 : (W8.drewN 1).heap.size = W8.heap.size := rfl; omega) (fun b o x e => by have := hmade.kA b o x e; have h2 : (W8.drewN 1).heap.size = W8.heap.size := rfl; omega), hwl⟩
                  · intro NL KL l' W9 hF9
                    have hN9 := (HN7.out.more (Nat.le_succ _)).put hxN (nice_with hn8 hF9.2) rfl
                    obtain ⟨D9, hD9⟩ : ∃ X', X' = putNd D7 xd (withNd (D7 xd) NL KL) := ⟨_, rfl⟩
                    obtain ⟨L9, hL9⟩ : ∃ X', X' = putLoc L6 xd l' := ⟨_, rfl⟩
                    have hG9 := hF9.1
                    rw [← hD9] at hN9
                    rw [← hD9, ← hL9] at hG9
                    clear hD9 hL9 hF9
                    have hN10 := hN9.put hxN ((hN9.each xd hxN).setTurn (z := now + 1) (by omega) (by omega)) rfl
                    have HE : Hid _ := (hG9.put (by exact putNd_kn _ _ rfl) (hG9.own.setTurn hxN (now + 1))).fin (p := p) (by omega) hN10
                    have t0 : W9.cell? ⟨w.heap.size, 0, none⟩ = some (.slice (some ⟨g', 0, none⟩) (kd + 1) c') := hG9.t.cell 0
                    have t1 : W9.cell? ⟨w.heap.size, 1, none⟩ = some (.int .i64 (now + 1)) := hG9.t.cell 1
                    obtain ⟨e0, e1, e2, e3, e4⟩ := hG9.own.cells xd hxN
                    have ef4 := hG9.own.frozen (xd * 5 + 4)
                    have rs0 : W9.cell? ⟨w.heap.size + 1, 0, none⟩ = some (.slice none 0 0) := hG9.res.cell 0
                    have rs1 : W9.cell? ⟨w.heap.size + 1, 1, none⟩ = some (.int .i64 0) := hG9.res.cell 1
                    have rf0 := hG9.res.frozen 0
                    have rf1 := hG9.res.frozen 1
                    clear hN9 hN10 hG9 HN7 HW8 hn8
                    go_wp2
                    refine end_world (F := GEnd w X r a len cp zs p m now g' c' (kd + 1) (putNd D9 xd { D9 xd with turn := now + 1 }) L9) HE.out ?_
                    clear HE t0 t1 rs0 rs1 rf0 rf1 e0 e1 e2 e3 e4 ef4
                    rintro WF ⟨hr, hgr⟩
                    have r0 := hr.cell 0
                    have r1 := hr.cell 1
                    simp at r0 r1
                    exact bodyPost_ret (v := .agg #[.slice (some ⟨g', 0, none⟩) (kd + 1) c', .int .i64 (now + 1)]) (by simp [results, Try.results55, go_sem, r0, r1]) rfl (by first | exact ⟨g', c', (kd + 1), _, L9, rfl, hgr⟩ | exact ⟨g', c', (kd + 1), rfl, _, L9, hgr⟩)
              · have hkdn : kd < n := by omega
                have hkb : ((kd : Int) == (n : Int)) = false := by simp; omega
                have HIN : Hid _ := hin
                have HNN : Hid (Nice n m D) := hN
                have hxN : xd < n := hxn
                clear hin t0
                have t0 : wr.cell? ⟨w.heap.size, 0, none⟩ = some (.slice (some ⟨g, 0, none⟩) n cap) := HIN.out.t.cell 0
                have t1 : wr.cell? ⟨w.heap.size, 1, none⟩ = some (.int .i64 (now + 1)) := HIN.out.t.cell 1
                obtain ⟨e0, e1, e2, e3, e4⟩ := HIN.out.own.cells kd hkdn
                have ef4 := HIN.out.own.frozen (kd * 5 + 4)
                have hgbX := HIN.out.away.row
                have hgx0 : g ≠ w.heap.size := fun e => hgbX (Or.inl e)
                have hgx1 : w.heap.size ≠ g := fun e => hgbX (Or.inl e.symm)
                have hgx2 : g ≠ w.heap.size + 1 := fun e => hgbX (Or.inr e)
                have hgx3 : w.heap.size + 1 ≠ g := fun e => hgbX (Or.inr e.symm)
                have hkdi : (kd : Int) < ((n : Nat) : Int) := by omega
                have hxdi : (xd : Int) < ((n : Nat) : Int) := by omega
                have hG7 := HIN.out.put (by exact putNd_kn _ _ rfl) (HIN.out.own.setTurn hkdn (now + 1))
                have hN7 := HNN.out.put hkdn ((HNN.out.each kd hkdn).setTurn (z := now + 1) (by omega) (by omega)) rfl
                have HG7 : Hid _ := hG7
                have HN7 : Hid _ := hN7
                clear hG7 hN7 hgbX
                go_wp2_with fail
                obtain ⟨D7, hD7⟩ : ∃ X', X' = putNd D kd { D kd with turn := now + 1 } := ⟨_, rfl⟩
                rw [← hD7] at HG7 HN7
                clear hD7
                refine wp_world (F := GI w X r a len cp zs q g cap n D7 L (now + 1)) HG7.out ?_
                clear HG7 HIN HNN t0 t1 e0 e1 e2 e3 e4 ef4
                intro W8 hW8
                have t0 : W8.cell? ⟨w.heap.size, 0, none⟩ = some (.slice (some ⟨g, 0, none⟩) n cap) := hW8.t.cell 0
                obtain ⟨e0, e1, e2, e3, e4⟩ := hW8.own.cells xd hxN
                have hn8 := HN7.out.each xd hxN
                have HW8 : Hid _ := hW8
                have hsz8 := hW8.size
                have hlt8 := hW8.own.lt
                clear hW8
                apply wp_cut3 (X := List ByteArray) (Y := List Int) (Z := Loc) (fun NL KL l' W => GI w X r a len cp zs q g cap n (putNd D7 xd (withNd (D7 xd) NL KL)) (putLoc L xd l') (now + 1) W ∧ WL (fun z => 0 ≤ z ∧ z < ((n : Nat) : Int)) (D7 xd).nn true NL KL)
                · intro key
                  have KEY : Hid _ := key
                  clear key
                  go_region_with (
                    go_at_call 45
                    refine (l2With_any (fun z => 0 ≤ z ∧ z < ((n : Nat) : Int)) (D7 xd) (L xd) name kd (W8.drewN 1) ((HW8.out.drew 1).own.lists xd hxN).1 hn8.same (by have := hn8.few; omega) hn8.short hname hn8.kids ⟨by omega, by omega⟩).mono ?_
                    rintro e w9 ⟨NL, KL, l', rfl, hmade, hwl⟩
                    unfold ndV
                    have hG9 := (HW8.out.drew 1).below hmade.bel
                    have T0 : w9.cell? ⟨w.heap.size, 0, none⟩ = some (.slice (some ⟨g, 0, none⟩) n cap) := hG9.t.cell 0
                    obtain ⟨E0, E1, E2, E3, E4⟩ := hG9.own.cells xd hxN
                    have F0 := hG9.own.frozen (xd * 5)
                    have F1 := hG9.own.frozen (xd * 5 + 1)
                    have F2 := hG9.own.frozen (xd * 5 + 2)
                    have F3 := hG9.own.frozen (xd * 5 + 3)
                    have F4 := hG9.own.frozen (xd * 5 + 4))
                  all_goals exact KEY.out NL KL l' _ ⟨hG9.putNode hxN (withNd (D7 xd) NL KL) l' hmade.lies hmade.room hmade.apart (far_new hmade.kA hmade.nA (HW8.out.drew 1).own xd) (fun b o x e => by have := hmade.nA b o x e; have h2 : (W8.drewN 1).heap.size = W8.heap.size := rfl; omega) (fun b o x e => by have := hmade.kA b o x e; have h2 : (W8.drewN 1).heap.size = W8.heap.size := rfl; omega), hwl⟩
                · intro NL KL l' W9 hF9
                  have hN9 := (HN7.out.more (Nat.le_succ _)).put hxN (nice_with hn8 hF9.2) rfl
                  obtain ⟨D9, hD9⟩ : ∃ X', X' = putNd D7 xd (withNd (D7 xd) NL KL) := ⟨_, rfl⟩
                  obtain ⟨L9, hL9⟩ : ∃ X', X' = putLoc L xd l' := ⟨_, rfl⟩
                  have hG9 := hF9.1
                  rw [← hD9] at hN9
                  rw [← hD9, ← hL9] at hG9
                  clear hD9 hL9 hF9
                  have hN10 := hN9.put hxN ((hN9.each xd hxN).setTurn (z := now + 1) (by omega) (by omega)) rfl
                  have HE : Hid _ := (hG9.put (by exact putNd_kn _ _ rfl) (hG9.own.setTurn hxN (now + 1))).fin (p := p) (by omega) hN10
                  have t0 : W9.cell? ⟨w.heap.size, 0, none⟩ = some (.slice (some ⟨g, 0, none⟩) n cap) := hG9.t.cell 0
                  have t1 : W9.cell? ⟨w.heap.size, 1, none⟩ = some (.int .i64 (now + 1)) := hG9.t.cell 1
                  obtain ⟨e0, e1, e2, e3, e4⟩ := hG9.own.cells xd hxN
                  have ef4 := hG9.own.frozen (xd * 5 + 4)
                  have rs0 : W9.cell? ⟨w.heap.size + 1, 0, none⟩ = some (.slice none 0 0) := hG9.res.cell 0
                  have rs1 : W9.cell? ⟨w.heap.size + 1, 1, none⟩ = some (.int .i64 0) := hG9.res.cell 1
                  have rf0 := hG9.res.frozen 0
                  have rf1 := hG9.res.frozen 1
                  clear hN9 hN10 hG9 HN7 HW8 hn8
                  go_wp2
                  refine end_world (F := GEnd w X r a len cp zs p m now g cap n (putNd D9 xd { D9 xd with turn := now + 1 }) L9) HE.out ?_
                  clear HE t0 t1 rs0 rs1 rf0 rf1 e0 e1 e2 e3 e4 ef4
                  rintro WF ⟨hr, hgr⟩
                  have r0 := hr.cell 0
                  have r1 := hr.cell 1
                  simp at r0 r1
                  exact bodyPost_ret (v := .agg #[.slice (some ⟨g, 0, none⟩) n cap, .int .i64 (now + 1)]) (by simp [results, Try.results55, go_sem, r0, r1]) rfl (by first | exact ⟨g, cap, n, _, L9, rfl, hgr⟩ | exact ⟨g, cap, n, rfl, _, L9, hgr⟩)
      · rw [hix]
        clear hix hixe
        have hkx : ix < (D xd).kn := by rw [hnd.same]; exact hixn
        obtain ⟨b5, o5, ha5, hlt5, hc5⟩ := (HG4.out.own.lists xd hxn).1.2.at hkx
        obtain ⟨hf0, hf1⟩ := hnd.kids ix hixn
        obtain ⟨f, hf⟩ : ∃ f : Nat, (D xd).kids ix = f := ⟨((D xd).kids ix).toNat, by omega⟩
        have k5 := hc5 ix hkx
        rw [hf] at k5
        rw [ha5] at c3
        have hfn : f < n := by omega
        have hfi : (f : Int) < (n : Int) := by omega
        have hkxi : (ix : Int) < ((D xd).kn : Int) := by omega
        have hb5 : b5 ≠ w.heap.size := fun e => (HG4.out.away.lists xd hxn).2 b5 o5 none ha5 (Or.inl e)
        obtain ⟨e0, e1, e2, e3, e4⟩ := HG4.out.own.cells f hfn
        have ef4 := HG4.out.own.frozen (f * 5 + 4)
        have ef1 := HG4.out.own.frozen (f * 5 + 1)
        clear hc5 hf hf0 hf1
        have hnf := hN.each f hfn
        have hG5 := (HG4.out.setNow (now + 1)).put (by exact putNd_kn _ _ rfl) ((HG4.out.setNow (now + 1)).own.setTurn hfn (now + 1))
        have hN5 : Nice n (m + 1) (putNd D f { D f with turn := now + 1 }) := (hN.more (Nat.le_succ _)).put hfn ((hnf.more (Nat.le_refl _) (Nat.le_succ _)).setTurn (by omega) (by omega)) rfl
        cases hkf : ((D f).kind == 1) with
        | false =>
          have HE : Hid _ := hG5.fin (p := p) (by omega) hN5
          clear hG5 hN5
          go_wp2
          refine end_world (F := GEnd w X r a len cp zs p m now g cap n (putNd D f { D f with turn := now + 1 }) L) HE.out ?_
          clear HE HG4 t0 t1 tf1 c0 c1 c2 c3 c4 rs0 rs1 rf0 rf1 e0 e1 e2 e3 e4 ef4 ef1
          rintro WF ⟨hr, hgr⟩
          have r0 := hr.cell 0
          have r1 := hr.cell 1
          simp at r0 r1
          exact bodyPost_ret (v := .agg #[.slice (some ⟨g, 0, none⟩) n cap, .int .i64 (now + 1)]) (by simp [results, Try.results55, go_sem, r0, r1]) rfl (by first | exact ⟨g, cap, n, _, L, rfl, hgr⟩ | exact ⟨g, cap, n, rfl, _, L, hgr⟩)
        | true =>
          have HG5 : Hid _ := hG5
          have HN5 : Hid _ := hN5
          clear hG5 hN5
          go_wp2_with fail
          refine wp_world (F := GI w X r a len cp zs (p + 1 + 1) g cap n (putNd D f { D f with turn := now + 1 }) L (now + 1)) HG5.out ?_
          intro W5 hW5
          clear HG5 HG4 t0 t1 tf1 c0 c1 c2 c3 c4 rs0 rs1 rf0 rf1 e0 e1 e2 e3 e4 ef4 ef1 k5
          have t0 : W5.cell? ⟨w.heap.size, 0, none⟩ = some (.slice (some ⟨g, 0, none⟩) n cap) := hW5.t.cell 0
          have hwl := hW5.t.lt
          have hgl := hW5.own.lt
          have HW5 : Hid _ := hW5
          clear hW5
          apply wp_cut1 (X := ByteArray) (fun s W => GI w X r a len cp zs (p + 1 + 1 + 1) g cap n (putNd (putNd D f { D f with turn := now + 1 }) f { (putNd D f { D f with turn := now + 1 }) f with text := s }) L (now + 1) W ∧ s.size ≤ 10)
          · intro key
            have KEY : Hid _ := key
            clear key
            go_region_with (
              go_at_call 46
              refine (of_any ((W5.drewN 1).alloc _) r a len cp zs (p + 1 + 1) ((HW5.out.drew 1).alloc _).rd (by omega) W5.heap.size 0 4 4 (fun i => new4.getD i ByteArray.empty) (by have := HW5.out.rd.lt; omega) (by omega) (by omega) (new_strs (W5.drewN 1) new4)).mono ?_
              rintro e w6 ⟨i, hi4, rfl, hg6, hR6⟩
              have hs6 : (new4.getD i ByteArray.empty).size ≤ 10 := getD_size rfl i
              have hG6 := ((HW5.out.drew 1).alloc _).read hg6 hR6
              have T0 : w6.cell? ⟨w.heap.size, 0, none⟩ = some (.slice (some ⟨g, 0, none⟩) n cap) := hG6.t.cell 0
              have E1 := (hG6.own.cells f hfn).2.1
              have EF1 := hG6.own.frozen (f * 5 + 1)
              generalize hsd : new4.getD i ByteArray.empty = s at hs6)
            all_goals exact KEY.out s _ ⟨hG6.put (by exact putNd_kn _ _ rfl) (hG6.own.setText hfn s), hs6⟩
          · intro s W7 hF7
            have hN7 := HN5.out.put hfn ((HN5.out.each f hfn).setText hF7.2) rfl
            have HE : Hid _ := hF7.1.fin (p := p) (by omega) hN7
            have t0 : W7.cell? ⟨w.heap.size, 0, none⟩ = some (.slice (some ⟨g, 0, none⟩) n cap) := hF7.1.t.cell 0
            have t1 : W7.cell? ⟨w.heap.size, 1, none⟩ = some (.int .i64 (now + 1)) := hF7.1.t.cell 1
            have rs0 : W7.cell? ⟨w.heap.size + 1, 0, none⟩ = some (.slice none 0 0) := hF7.1.res.cell 0
            have rs1 : W7.cell? ⟨w.heap.size + 1, 1, none⟩ = some (.int .i64 0) := hF7.1.res.cell 1
            have rf0 := hF7.1.res.frozen 0
            have rf1 := hF7.1.res.frozen 1
            clear hF7 hN7 HN5 HW5
            go_wp2
            refine end_world (F := GEnd w X r a len cp zs p m now g cap n _ L) HE.out ?_
            clear HE t0 t1 rs0 rs1 rf0 rf1
            rintro WF ⟨hr, hgr⟩
            have r0 := hr.cell 0
            have r1 := hr.cell 1
            simp at r0 r1
            exact bodyPost_ret (v := .agg #[.slice (some ⟨g, 0, none⟩) n cap, .int .i64 (now + 1)]) (by simp [results, Try.results55, go_sem, r0, r1]) rfl (by first | exact ⟨g, cap, n, _, L, rfl, hgr⟩ | exact ⟨g, cap, n, rfl, _, L, hgr⟩)
end Go.Proofs.Ytbifhfnoogjoeaa
