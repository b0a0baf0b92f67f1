/-
  What l2Copy gives: a place in new memory.
-/
import Derived.Test.YtbifhfnoogjoeaaRegOps
namespace Go.Proofs.Ytbifhfnoogjoeaa
open Go.RowKit Go.Deep
set_option linter.unusedVariables false

def intv0 (n : Nat) (Z : Nat → Int) : List Value := (List.range n).map fun i => .int .i64 (Z i)

/-- A place whose lists lie in new memory of their own. -/
structure NewNd (w : World) (d : Nd) (l : Loc) (W : World) : Prop where
  bel : Below w.heap.size w W
  names : W.ownsRow w.heap.size 9 1 (.slice l.nA d.nn l.nc) d.nn (strv (lst d.nn d.names))
  kids : W.ownsRow w.heap.size 3 1 (.slice l.kA d.kn l.kc) d.kn (intv0 d.kn d.kids)
  nA : ∃ b, l.nA = some ⟨b, 0, none⟩ ∧ w.heap.size ≤ b ∧ b < W.heap.size
  kA : ∃ b, l.kA = some ⟨b, 0, none⟩ ∧ w.heap.size ≤ b ∧ b < W.heap.size
  apart : ∀ b b', l.nA = some ⟨b, 0, none⟩ → l.kA = some ⟨b', 0, none⟩ → b ≠ b'

theorem NewNd.lies {w : World} {d : Nd} {l : Loc} {W : World} (h : NewNd w d l W) : NdIn W d l := by
  obtain ⟨b, e, _, hb⟩ := h.nA
  obtain ⟨b', e', _, hb'⟩ := h.kA
  have h1 := h.names
  have h2 := h.kids
  rw [e] at h1
  rw [e'] at h2
  unfold NdIn
  rw [e, e']
  refine ⟨(ownsRow_strs h1 (lst_length _ _) hb).congr (fun i hi => lst_getD _ _ _ hi), Or.inr ⟨b', 0, rfl, hb', fun i hi => ?_⟩⟩
  have := h2.cells (g := b') rfl i (.int .i64 (d.kids i)) (by simp [intv0, hi])
  rwa [addr_add] at this

theorem grown_cell (w : World) (b k : Nat) (v : Value) : w.grownBy (w.setCell ⟨b, k, none⟩ v) (some b) :=
  ⟨rfl, rfl, rfl, by simp [World.setCell], fun j _ hne => blk_setCell_other _ _ _ _ (fun e => hne (by rw [e]))⟩

theorem owns_lower {w : World} {B B' : Nat} {e : TypeId} {size n : Nat} {xs : List Value} {v : Value} (h : w.ownsRow B e size v n xs) (hB : B' ≤ B) : w.ownsRow B' e size v n xs :=
  ⟨h.1, h.2.imp id fun ⟨g, cap, cur, hv, hb, hr⟩ => ⟨g, cap, cur, hv, Nat.le_trans hB hb, hr⟩⟩

/-- A cell of a block that neither list lies in is written. -/
theorem NewNd.set {w : World} {d : Nd} {l : Loc} {W : World} (h : NewNd w d l W) {q k : Nat} {v : Value} (hq : w.heap.size ≤ q) (h1 : ∀ b, l.nA = some ⟨b, 0, none⟩ → b ≠ q) (h2 : ∀ b, l.kA = some ⟨b, 0, none⟩ → b ≠ q) : NewNd w d l (W.setCell ⟨q, k, none⟩ v) := by
  have hs : (W.setCell ⟨q, k, none⟩ v).heap.size = W.heap.size := by simp [World.setCell]
  obtain ⟨b, e, hb⟩ := h.nA
  obtain ⟨b', e', hb'⟩ := h.kA
  refine ⟨bel_put h.bel v hq, h.names.kept (grown_cell W q k v) (Or.inr ?_), h.kids.kept (grown_cell W q k v) (Or.inr ?_), ⟨b, e, by rw [hs]; exact hb⟩, ⟨b', e', by rw [hs]; exact hb'⟩, h.apart⟩
  · rw [e]; intro he; simp [Value.ownBlock] at he; exact h1 b e he
  · rw [e']; intro he; simp [Value.ownBlock] at he; exact h2 b' e' he

theorem owned_form {w : World} {B : Nat} {e : TypeId} {size n : Nat} {xs : List Value} {v : Value} (h : w.ownsRow B e size v n xs) {b : Nat} (hb : v.ownBlock = some b) : ∃ c, v = .slice (some ⟨b, 0, none⟩) n c ∧ B ≤ b ∧ b < w.heap.size := by
  have hlt := owns_block h hb
  rcases h.2 with ⟨h0, _⟩ | ⟨g, cap, cur, hv, _⟩
  · rw [h0] at hb; simp [Value.ownBlock] at hb
  · rw [hv] at hb
    simp [Value.ownBlock] at hb
    subst hb
    exact ⟨cap, hv, hlt.1, hlt.2⟩

set_option maxRecDepth 100000 in
set_option maxHeartbeats 4000000 in
theorem l2Copy_any (d : Nd) (l : Loc) (w : World) (hI : NdIn w d l) (hnn : d.nn ≤ 1048576) (hkn : d.kn ≤ 1048576) :
    Calls Try.prog 39 #[ndV d l] w fun e w' => ∃ l', e = .returned (ndV d l') ∧ NewNd w d l' w' := by
  obtain ⟨i0, hi, hz0, hz1, hz2⟩ := info_parts infoStr
  obtain ⟨j0, hj, hy0, hy1, hy2⟩ := info_parts infoInt
  unfold ndV
  go_enter Try.func39, Try.ntmps39
  go_wp2_with fail
  refine wp_world (F := New2 w _ _ _ _) (new2 w _ _ _ _) ?_
  rintro W ⟨hp, hr, hb, hs⟩
  have p0 : W.cell? ⟨w.heap.size, 0, none⟩ = some (.int .i64 d.kind) := hp.cell 0
  have p1 : W.cell? ⟨w.heap.size, 1, none⟩ = some (.string d.text) := hp.cell 1
  have p2 : W.cell? ⟨w.heap.size, 2, none⟩ = some (.slice l.nA d.nn l.nc) := hp.cell 2
  have p3 : W.cell? ⟨w.heap.size, 3, none⟩ = some (.slice l.kA d.kn l.kc) := hp.cell 3
  have p4 : W.cell? ⟨w.heap.size, 4, none⟩ = some (.int .i64 d.turn) := hp.cell 4
  have HI : Hid (NdIn W d l) := hI.below (Nat.le_refl _) hb
  have HB : Hid (Below w.heap.size w W ∧ Blk W (w.heap.size + 1) _ _) := ⟨hb, hr⟩
  have hlt : w.heap.size < W.heap.size := by omega
  have hsW : w.heap.size + 1 < W.heap.size := by omega
  clear hI hp hr hb hs
  refine wp_region_noPanic ?_
  refine wp_region_peel2 (fun W' => W'.cell? ⟨w.heap.size, 0, none⟩ = some (.int .i64 d.kind) ∧ W'.cell? ⟨w.heap.size, 1, none⟩ = some (.string d.text) ∧ W'.cell? ⟨w.heap.size, 2, none⟩ = some (.slice l.nA d.nn l.nc) ∧ W'.cell? ⟨w.heap.size, 3, none⟩ = some (.slice l.kA d.kn l.kc) ∧ W'.cell? ⟨w.heap.size, 4, none⟩ = some (.int .i64 d.turn)) _ _ (by kernel_rfl) rfl rfl (by kernel_rfl) (by kernel_rfl) ?_ (fun hHeld => ?_)
  · exact ⟨p0, p1, p2, p3, p4⟩
  simp only [List.pop_toArray, List.dropLast, List.size_toArray, List.length_cons, List.length_nil, Nat.reduceAdd, Nat.reduceSub, List.getElem_toArray, List.getElem_cons_succ, List.getElem_cons_zero]
  refine peel_take (i := 0) (oi := ?oi0) (v := ?v0) (fun _ _ _ _ _ h => h) hHeld ?hi0 (by kernel_rfl) (by kernel_rfl) (by kernel_rfl) ?hw0 ?hy0 ?rest0
  case hi0 =>
    simp only [List.getElem?_toArray, List.getElem?_cons_zero]
    rfl
  case hw0 => rfl
  case hy0 =>
    intro w hSw
    obtain ⟨s0, s1, s2, s3, s4⟩ := hSw
    go_simp
    try with_reducible rfl
  try simp only [Act.put, List.setIfInBounds_toArray, List.set_cons_zero, List.set_cons_succ]
  refine peel_take (i := 1) (oi := ?oi1) (v := ?v1) (fun _ _ _ _ _ h => h) hHeld ?hi1 (by kernel_rfl) (by kernel_rfl) (by kernel_rfl) ?hw1 ?hy1 ?rest1
  case hi1 =>
    simp only [List.getElem?_toArray, List.getElem?_cons_succ, List.getElem?_cons_zero]
    rfl
  case hw1 => rfl
  case hy1 =>
    intro w hSw
    obtain ⟨s0, s1, s2, s3, s4⟩ := hSw
    go_simp
    try with_reducible rfl
  try simp only [Act.put, List.setIfInBounds_toArray, List.set_cons_zero, List.set_cons_succ]
  refine peel_take (i := 2) (oi := ?oi2) (v := ?v2) (fun _ _ _ _ _ h => h) hHeld ?hi2 (by kernel_rfl) (by kernel_rfl) (by kernel_rfl) ?hw2 ?hy2 ?rest2
  case hi2 =>
    simp only [List.getElem?_toArray, List.getElem?_cons_succ, List.getElem?_cons_zero]
    rfl
  case hw2 => rfl
  case hy2 =>
    intro w hSw
    obtain ⟨s0, s1, s2, s3, s4⟩ := hSw
    go_simp
    try with_reducible rfl
  try simp only [Act.put, List.setIfInBounds_toArray, List.set_cons_zero, List.set_cons_succ]
  refine peel_take (i := 3) (oi := ?oi3) (v := ?v3) (fun _ _ _ _ _ h => h) hHeld ?hi3 (by kernel_rfl) (by kernel_rfl) (by kernel_rfl) ?hw3 ?hy3 ?rest3
  case hi3 =>
    simp only [List.getElem?_toArray, List.getElem?_cons_succ, List.getElem?_cons_zero]
    rfl
  case hw3 => rfl
  case hy3 =>
    intro w hSw
    obtain ⟨s0, s1, s2, s3, s4⟩ := hSw
    go_simp
    try with_reducible rfl
  try simp only [Act.put, List.setIfInBounds_toArray, List.set_cons_zero, List.set_cons_succ]
  refine peel_take (i := 5) (oi := ?oi5) (v := ?v5) (fun _ _ _ _ _ h => h) hHeld ?hi5 (by kernel_rfl) (by kernel_rfl) (by kernel_rfl) ?hw5 ?hy5 ?rest5
  case hi5 =>
    simp only [List.getElem?_toArray, List.getElem?_cons_succ, List.getElem?_cons_zero]
    rfl
  case hw5 => rfl
  case hy5 =>
    intro w hSw
    obtain ⟨s0, s1, s2, s3, s4⟩ := hSw
    go_simp
    try with_reducible rfl
  try simp only [Act.put, List.setIfInBounds_toArray, List.set_cons_zero, List.set_cons_succ]
  refine peel_take (i := 6) (oi := ?oi6) (v := ?v6) (fun _ _ _ _ _ h => h) hHeld ?hi6 (by kernel_rfl) (by kernel_rfl) (by kernel_rfl) ?hw6 ?hy6 ?rest6
  case hi6 =>
    simp only [List.getElem?_toArray, List.getElem?_cons_succ, List.getElem?_cons_zero]
    rfl
  case hw6 => rfl
  case hy6 =>
    intro w hSw
    obtain ⟨s0, s1, s2, s3, s4⟩ := hSw
    go_simp
    try with_reducible rfl
  try simp only [Act.put, List.setIfInBounds_toArray, List.set_cons_zero, List.set_cons_succ]
  refine peel_take (i := 9) (oi := ?oi9) (v := ?v9) (fun _ _ _ _ _ h => h) hHeld ?hi9 (by kernel_rfl) (by kernel_rfl) (by kernel_rfl) ?hw9 ?hy9 ?rest9
  case hi9 =>
    simp only [List.getElem?_toArray, List.getElem?_cons_succ, List.getElem?_cons_zero]
    rfl
  case hw9 => rfl
  case hy9 =>
    intro w hSw
    obtain ⟨s0, s1, s2, s3, s4⟩ := hSw
    go_simp
    try with_reducible rfl
  try simp only [Act.put, List.setIfInBounds_toArray, List.set_cons_zero, List.set_cons_succ]
  refine peel_take (i := 10) (oi := ?oi10) (v := ?v10) (fun _ _ _ _ _ h => h) hHeld ?hi10 (by kernel_rfl) (by kernel_rfl) (by kernel_rfl) ?hw10 ?hy10 ?rest10
  case hi10 =>
    simp only [List.getElem?_toArray, List.getElem?_cons_succ, List.getElem?_cons_zero]
    rfl
  case hw10 => rfl
  case hy10 =>
    intro w hSw
    obtain ⟨s0, s1, s2, s3, s4⟩ := hSw
    go_simp
    try with_reducible rfl
  try simp only [Act.put, List.setIfInBounds_toArray, List.set_cons_zero, List.set_cons_succ]
  refine peel_take (i := 12) (oi := ?oi12) (v := ?v12) (fun _ _ _ _ _ h => h) hHeld ?hi12 (by kernel_rfl) (by kernel_rfl) (by kernel_rfl) ?hw12 ?hy12 ?rest12
  case hi12 =>
    simp only [List.getElem?_toArray, List.getElem?_cons_succ, List.getElem?_cons_zero]
    rfl
  case hw12 => rfl
  case hy12 =>
    intro w hSw
    obtain ⟨s0, s1, s2, s3, s4⟩ := hSw
    go_simp
    try with_reducible rfl
  try simp only [Act.put, List.setIfInBounds_toArray, List.set_cons_zero, List.set_cons_succ]
  refine peel_take (i := 13) (oi := ?oi13) (v := ?v13) (fun _ _ _ _ _ h => h) hHeld ?hi13 (by kernel_rfl) (by kernel_rfl) (by kernel_rfl) ?hw13 ?hy13 ?rest13
  case hi13 =>
    simp only [List.getElem?_toArray, List.getElem?_cons_succ, List.getElem?_cons_zero]
    rfl
  case hw13 => rfl
  case hy13 =>
    intro w hSw
    obtain ⟨s0, s1, s2, s3, s4⟩ := hSw
    go_simp
    try with_reducible rfl
  try simp only [Act.put, List.setIfInBounds_toArray, List.set_cons_zero, List.set_cons_succ]
  refine wpAnyH_act fun aR hA => ?_
  have e9 : aR.eval (.tmp 9) = .slice l.nA d.nn l.nc := by rw [hA]; rfl
  have e13 : aR.eval (.tmp 13) = .slice l.kA d.kn l.kc := by rw [hA]; rfl
  have hsz : 17 < aR.tmps.size := by rw [hA]; simp
  have HA' : Hid _ := hA
  clear hA
  refine wpAnyH_plain (a0 := aR) [7, 10, 11, 14] (RJ [0, 1, 2, 3, 5, 6, 9, 10, 12, 13] W (fun d' => if d' = 7 then ⟨9, 1, 0, []⟩ else if d' = 10 then ⟨9, 1, d.nn, strv (lst d.nn d.names)⟩ else if d' = 11 then ⟨3, 1, 0, []⟩ else ⟨3, 1, d.kn, intv0 d.kn d.kids⟩)
    [(7, 4, 7), (10, 7, 99), (11, 8, 11), (14, 11, 99)] []) (by kernel_rfl) (by kernel_rfl) (by rfl) (by decide) (fun v => RJ.start (below_drewN (Below.refl _ _) 1) (by decide) (by decide) (by decide) (by simp)) (fun L' v w' h => ⟨(h.bel.cell hlt).trans p0, (h.bel.cell hlt).trans p1, (h.bel.cell hlt).trans p2, (h.bel.cell hlt).trans p3, (h.bel.cell hlt).trans p4⟩) ⟨?_, ?_, ?_, ?_, ?_, ?_, ?_, ?_, ?_, ?_, ?_, ?_, ?_, ?_, trivial⟩ ?_
  · intro L2 v2 w2 h2 hd2 hJ2
    exact hJ2.gone (k := 0) (by decide) h2
  · intro L2 v2 w2 h2 hd2 hJ2
    exact hJ2.gone (k := 1) (by decide) h2
  · intro L2 v2 w2 h2 hd2 hJ2
    exact hJ2.gone (k := 2) (by decide) h2
  · intro L2 v2 w2 h2 hd2 hJ2
    exact hJ2.gone (k := 3) (by decide) h2
  · intro L' v w' h hd hJ K hK
    exact ⟨wp_strs0 (hK _ _ _ (upd_put _ _ _ 7 _ (by decide)) (hJ.make (k := 4) (d := 7) (by decide) (by simp) (by decide) (xs := []) (n := 0) (e := 9) (size := 1) rfl rfl (by unfold maxLen; omega)))⟩
  · intro L2 v2 w2 h2 hd2 hJ2
    exact hJ2.gone (k := 5) (by decide) h2
  · intro L2 v2 w2 h2 hd2 hJ2
    exact hJ2.gone (k := 6) (by decide) h2
  · intro L' v w' h hd hJ K hK
    have hd4 : L' 4 = true := hd _ (List.Mem.head _) rfl
    have hlive : liveAt [(7, 4, 7), (10, 7, 99), (11, 8, 11), (14, 11, 99)] L' 7 := ⟨4, 7, by decide, hd4, h⟩
    refine ⟨wp_append_src (.tmp 7) (.tmp 9) 33 rfl W.heap.size 9 i0 (.string ByteArray.empty) 1 16 Try.underlying33 hi hz0 hz1 hz2 rfl (by decide) (v 7) 0 [] (upd_eval_in aR _ v 7 (by decide) (by omega)) (hJ.rws.own 7 hlive).1 _ d.nn _ ((upd_eval_out aR _ v 9 (by decide)).trans e9) ((HI.out.1.below (Nat.le_refl _) hJ.bel).src _) (by unfold maxLen; omega) (by omega) hJ.bel.size ?_⟩
    intro v' w2 hown hgrow hnil hat
    exact hK _ _ _ (upd_put _ _ _ 10 _ (by decide)) (hJ.app (k := 7) (d := 10) (s := 7) hlive (by decide) hgrow (by decide) (by simp) (by decide) (by simpa using hown) hat)
  · intro L' v w' h hd hJ K hK
    exact ⟨wp_ints0 (hK _ _ _ (upd_put _ _ _ 11 _ (by decide)) (hJ.make (k := 8) (d := 11) (by decide) (by simp) (by decide) (xs := []) (n := 0) (e := 3) (size := 1) rfl rfl (by unfold maxLen; omega)))⟩
  · intro L2 v2 w2 h2 hd2 hJ2
    exact hJ2.gone (k := 9) (by decide) h2
  · intro L2 v2 w2 h2 hd2 hJ2
    exact hJ2.gone (k := 10) (by decide) h2
  · intro L' v w' h hd hJ K hK
    have hd8 : L' 8 = true := hd _ (List.Mem.head _) rfl
    have hlive : liveAt [(7, 4, 7), (10, 7, 99), (11, 8, 11), (14, 11, 99)] L' 11 := ⟨8, 11, by decide, hd8, h⟩
    refine ⟨wp_append_src (.tmp 11) (.tmp 13) 34 rfl W.heap.size 3 j0 (.int .i64 0) 1 8 Try.underlying34 hj hy0 hy1 hy2 rfl (by decide) (v 11) 0 [] (upd_eval_in aR _ v 11 (by decide) (by omega)) (hJ.rws.own 11 hlive).1 _ d.kn _ ((upd_eval_out aR _ v 13 (by decide)).trans e13) ((HI.out.2.below (Nat.le_refl _) hJ.bel).src _) (by unfold maxLen; omega) (by omega) hJ.bel.size ?_⟩
    intro v' w2 hown hgrow hnil hat
    exact hK _ _ _ (upd_put _ _ _ 14 _ (by decide)) (hJ.app (k := 11) (d := 14) (s := 11) hlive (by decide) hgrow (by decide) (by simp) (by decide) (by simpa [intv0] using hown) hat)
  · intro L2 v2 w2 h2 hd2 hJ2
    exact hJ2.gone (k := 12) (by decide) h2
  · intro L2 v2 w2 h2 hd2 hJ2
    exact hJ2.gone (k := 13) (by decide) h2
  intro L' v w' hL hJ
  obtain ⟨hown1, b1, hb1⟩ := hJ.rws.own 10 ⟨7, 99, by decide, hL 7 (by decide), hJ.none⟩
  obtain ⟨hown2, b2, hb2⟩ := hJ.rws.own 14 ⟨11, 99, by decide, hL 11 (by decide), hJ.none⟩
  have hap := hJ.rws.apart 10 14 ⟨7, 99, by decide, hL 7 (by decide), hJ.none⟩ ⟨11, 99, by decide, hL 11 (by decide), hJ.none⟩ (by decide)
  obtain ⟨c1, hv1, hB1, hl1⟩ := owned_form hown1 hb1
  obtain ⟨c2, hv2, hB2, hl2⟩ := owned_form hown2 hb2
  have hne : b1 ≠ b2 := fun e => hap (by rw [hb1, hb2, e])
  rw [hv1] at hown1
  rw [hv2] at hown2
  have hv1' : v 10 = .slice (some ⟨b1, 0, none⟩) d.nn c1 := hv1
  have hv2' : v 14 = .slice (some ⟨b2, 0, none⟩) d.kn c2 := hv2
  have hr := HB.out.2.below hJ.bel hsW
  have HN : Hid (W.heap.size ≤ w'.heap.size ∧ Below w.heap.size w w' ∧ w'.ownsRow W.heap.size 9 1 (.slice (some ⟨b1, 0, none⟩) d.nn c1) d.nn (strv (lst d.nn d.names)) ∧ w'.ownsRow W.heap.size 3 1 (.slice (some ⟨b2, 0, none⟩) d.kn c2) d.kn (intv0 d.kn d.kids) ∧ W.heap.size ≤ b1 ∧ b1 < w'.heap.size ∧ W.heap.size ≤ b2 ∧ b2 < w'.heap.size ∧ b1 ≠ b2 ∧ Blk w' (w.heap.size + 1) _ _) :=
    ⟨hJ.bel.size, HB.out.1.trans (hJ.bel.mono (by omega)), hown1, hown2, hB1, hl1, hB2, hl2, hne, hr⟩
  have r0 := hr.cell 0
  have r1 := hr.cell 1
  have r2 := hr.cell 2
  have r3 := hr.cell 3
  have r4 := hr.cell 4
  have f0 := hr.frozen 0
  have f1 := hr.frozen 1
  have f2 := hr.frozen 2
  have f3 := hr.frozen 3
  have f4 := hr.frozen 4
  simp at r0 r1 r2 r3 r4
  refine ⟨?_⟩
  show Oper.wp _ _ _ _ _ _
  rw [HA'.out]
  simp only [upd, List.foldl_cons, List.foldl_nil, List.setIfInBounds_toArray, List.set_cons_zero, List.set_cons_succ, hv1', hv2']
  generalize v 7 = y7
  generalize v 11 = y11
  clear hJ hL hown1 hown2 hv1 hv2 hv1' hv2' hr HA' hsz e9 e13 hap hb1 hb2 HB hB1 hB2 hl1 hl2 hne HI hHeld
  go_simp
  show Oper.wp _ _ _ _ _ _
  go_simp
  refine NoPanic.normal ?_
  go_wp2
  obtain ⟨n1, n2, n3, n4, n5, n6, n7, n8, n9, n10⟩ := HN.out
  have hN : NewNd w d ⟨some ⟨b1, 0, none⟩, c1, some ⟨b2, 0, none⟩, c2⟩ w' := ⟨n2, owns_lower n3 (by omega), owns_lower n4 (by omega), ⟨b1, rfl, by omega, n6⟩, ⟨b2, rfl, by omega, n8⟩, fun b b' e e' => by cases e; cases e'; exact n9⟩
  have hq1 : ∀ b, (some ⟨b1, 0, none⟩ : Option Addr) = some ⟨b, 0, none⟩ → b ≠ w.heap.size + 1 := fun b e => by cases e; omega
  have hq2 : ∀ b, (some ⟨b2, 0, none⟩ : Option Addr) = some ⟨b, 0, none⟩ → b ≠ w.heap.size + 1 := fun b e => by cases e; omega
  have hq : w.heap.size ≤ w.heap.size + 1 := by omega
  refine end_world (F := fun WF => NewNd w d ⟨some ⟨b1, 0, none⟩, c1, some ⟨b2, 0, none⟩, c2⟩ WF ∧ Blk WF (w.heap.size + 1) #[.int .i64 d.kind, .string d.text, .slice (some ⟨b1, 0, none⟩) d.nn c1, .slice (some ⟨b2, 0, none⟩) d.kn c2, .int .i64 d.turn] 36)
    ⟨((((hN.set hq hq1 hq2).set hq hq1 hq2).set hq hq1 hq2).set hq hq1 hq2).set hq hq1 hq2, ((((n10.set 0 _).set 1 _).set 2 _).set 3 _).set 4 _⟩ ?_
  clear hN HN n10
  rintro WF ⟨hN, hr⟩
  have r0 := hr.cell 0
  have r1 := hr.cell 1
  have r2 := hr.cell 2
  have r3 := hr.cell 3
  have r4 := hr.cell 4
  simp at r0 r1 r2 r3 r4
  exact bodyPost_ret (v := .agg #[.int .i64 d.kind, .string d.text, .slice (some ⟨b1, 0, none⟩) d.nn c1, .slice (some ⟨b2, 0, none⟩) d.kn c2, .int .i64 d.turn]) (by simp [results, Try.results39, go_sem, r0, r1, r2, r3, r4]) rfl ⟨⟨some ⟨b1, 0, none⟩, c1, some ⟨b2, 0, none⟩, c2⟩, rfl, hN⟩
end Go.Proofs.Ytbifhfnoogjoeaa
