/-
  Texts that the proof needs, laid one behind the other.
-/
import Derived.Test.YteoanlkmkmajjaaExBackThenB3
import Derived.Laws.AppendOwn
import Derived.OwnWalk
import Derived.WalkSmall
import Derived.Deep.RegionWith
import Derived.BigRegion

/-
  What toTree answers: a tree in memory of its own.
-/
namespace Go.Proofs.Yteoanlkmkmajjaa
open Go.RowKit Go.Deep
set_option linter.unusedVariables false
set_option linter.unusedSimpArgs false

theorem row_below {W W' : World} {b n : Nat} {t : TypeId} {f : Nat → Value} (h : W.rowIs b t n f) (hb : Below W.heap.size W W') : W'.rowIs b t n f := by
  obtain ⟨c, h1, h2⟩ := h
  exact ⟨c, (hb.block b (Array.getElem?_eq_some_iff.1 h1).1).trans h1, h2⟩

theorem row_off {W : World} {b n : Nat} {t : TypeId} {f : Nat → Value} (h : W.rowIs b t n f) {b' i : Nat} (v : Value) (hb : b ≠ b') : (W.setCell ⟨b', i, none⟩ v).rowIs b t n f := h.setOther (a := ⟨b', i, none⟩) hb v

theorem row_own {W : World} {B b n : Nat} {t : TypeId} {f : Nat → Value} (h : W.rowIs b t n f) (hB : B ≤ b) (hn : n ≤ maxLen) : W.ownsRow B t 1 (.slice (some ⟨b, 0, none⟩) n n) n ((List.range n).map f) := by
  obtain ⟨cur, h1, h2, h3⟩ := h
  refine ⟨by simp, Or.inr ⟨b, n, cur, rfl, hB, h1, Nat.le_refl _, hn, by omega, ?_⟩⟩
  apply List.ext_getElem?
  intro i
  rw [List.getElem?_take]
  by_cases hi : i < n
  · rw [if_pos (by omega), Array.getElem?_toList, h3 i hi]
    simp [hi]
  · rw [if_neg (by omega)]
    simp [hi]

theorem row_ownS {W : World} {B b n : Nat} {S : Nat → ByteArray} (h : W.rowIs b 9 n (fun i => .string (S i))) (hB : B ≤ b) (hn : n ≤ maxLen) : W.ownsRow B 9 1 (.slice (some ⟨b, 0, none⟩) n n) n (strv (lst n S)) := by
  have := row_own h hB hn
  rw [show strv (lst n S) = (List.range n).map (fun i => .string (S i)) from by simp [strv, lst]]
  exact this

theorem row_ownI {W : World} {B b n : Nat} {Z : Nat → Int} (h : W.rowIs b 3 n (fun i => .int .i64 (Z i))) (hB : B ≤ b) (hn : n ≤ maxLen) : W.ownsRow B 3 1 (.slice (some ⟨b, 0, none⟩) n n) n (intv0 n Z) := row_own h hB hn

theorem toStringS_row (a : Option Addr) (n c : Nat) (S : Nat → ByteArray) (w : World) (hS : IsStrs w a n S) (hn : n ≤ 1048576) :
    Calls Try.prog 73 #[.slice a n c] w fun e w' => ∃ b, e = .returned (.slice (some ⟨b, 0, none⟩) n n) ∧ w.heap.size ≤ b ∧ b < w'.heap.size ∧ Below w.heap.size w w' ∧ w'.rowIs b 9 n (fun i => .string (S i)) :=
  (toStringS_any a n c S w hS hn).mono fun e w' ⟨he, hb, hr⟩ => ⟨_, he, Nat.le_refl _, hr.lt, hb, hr⟩

theorem toIntS_row (a : Option Addr) (n c : Nat) (Z : Nat → Int) (w : World) (hS : IsInts w a n Z) (hn : n ≤ 1048576) :
    Calls Try.prog 74 #[.slice a n c] w fun e w' => ∃ b, e = .returned (.slice (some ⟨b, 0, none⟩) n n) ∧ w.heap.size ≤ b ∧ b < w'.heap.size ∧ Below w.heap.size w w' ∧ w'.rowIs b 3 n (fun i => .int .i64 (Z i)) :=
  (toIntS_any a n c Z w hS hn).mono fun e w' ⟨he, hb, hr⟩ => ⟨_, he, Nat.le_refl _, hr.lt, hb, hr⟩

/-- What is known within toNode, the names being copied. -/
structure Node2o (w : World) (d : Nd) (l : Loc) (b : Nat) (W : World) : Prop where
  p : Blk W w.heap.size #[.int .i64 d.kind, .string d.text, .slice l.nA d.nn l.nc, .slice l.kA d.kn l.kc, .int .i64 d.turn] 79
  r : Blk W (w.heap.size + 1) #[.int .i64 0, .string ByteArray.empty, .slice none 0 0, .slice none 0 0, .int .i64 0] 53
  o : Blk W (w.heap.size + 1 + 1) #[.int .i64 d.kind, .string d.text, .slice (some ⟨b, 0, none⟩) d.nn d.nn, .slice none 0 0, .int .i64 0] 53
  bel : Below w.heap.size w W
  size : w.heap.size + 3 ≤ W.heap.size
  le : w.heap.size + 3 ≤ b
  lt : b < W.heap.size
  names : W.rowIs b 9 d.nn (fun i => .string (d.names i))

/-- What is known at toNode's end. -/
structure NodeEndo (w : World) (d : Nd) (b b' : Nat) (W : World) : Prop where
  r : Blk W (w.heap.size + 1) #[.int .i64 d.kind, .string d.text, .slice (some ⟨b, 0, none⟩) d.nn d.nn, .slice (some ⟨b', 0, none⟩) d.kn d.kn, .int .i64 d.turn] 53
  bel : Below w.heap.size w W
  names : W.rowIs b 9 d.nn (fun i => .string (d.names i))
  kids : W.rowIs b' 3 d.kn (fun i => .int .i64 (d.kids i))

set_option maxHeartbeats 1000000 in
theorem toNode_new (d : Nd) (l : Loc) (w : World) (hI : NdIn w d l) (hn : d.nn ≤ 1048576) (hk : d.kn ≤ 1048576) :
    Calls Try.prog 48 #[ndV d l] w fun e w' => ∃ l', e = .returned (ndV d l') ∧ NewNn w d l' w' := by
  unfold ndV
  go_enter Try.func48, Try.ntmps48
  go_wp2_with fail
  refine at_world (F := New3 w _ _ _ _ _ _) (new3 w _ _ _ _ _ _) ?_
  rintro W ⟨hp, hr, ho, hb0, hs0⟩
  refine (toStringS_row l.nA d.nn l.nc d.names _ (hI.1.below (Nat.le_refl _) hb0) hn).mono ?_
  rintro e w1 ⟨b, rfl, hge, hlt, hb1, hS1⟩
  have hp1 := hp.below hb1 (by omega)
  have hr1 := hr.below hb1 (by omega)
  have ho1 := ho.below hb1 (by omega)
  have hk1 := (hI.2.below (Nat.le_refl _) hb0).below (Nat.le_refl _) hb1
  have hB1 := hb0.trans (hb1.mono (by omega))
  have o2 : w1.cell? ⟨w.heap.size + 1 + 1, 2, none⟩ = some (.slice none 0 0) := ho1.cell 2
  have f2 := ho1.frozen 2
  have p3 : w1.cell? ⟨w.heap.size, 3, none⟩ = some (.slice l.kA d.kn l.kc) := hp1.cell 3
  have hsz1 := hb1.size
  have F2 : Hid (Node2o w d l b _) := ⟨hp1.off (b' := w.heap.size + 1 + 1) (i := 2) (.slice (some ⟨b, 0, none⟩) d.nn d.nn) (by omega), hr1.off _ (by omega), ho1.set 2 _, bel_put hB1 _ (by omega), by simp; omega, by omega, by simp; omega, row_off hS1 _ (by omega)⟩
  clear hp hr ho hb0 hb1 hp1 hr1 ho1 hk1 hB1 hS1
  go_wp2_with fail
  refine at_world (F := Node2o w d l b) F2.out ?_
  clear F2 hge hlt f2 o2 p3 hs0 hsz1
  rintro W ⟨hp, hr, ho, hb0, hs0, hlb, hbl, hS⟩
  refine (toIntS_row l.kA d.kn l.kc d.kids _ (hI.2.below (Nat.le_refl _) hb0) hk).mono ?_
  rintro e w2 ⟨b', rfl, hge, hlt, hb1, hZ⟩
  have hp1 := hp.below hb1 (by omega)
  have hr1 := hr.below hb1 (by omega)
  have ho1 := ho.below hb1 (by omega)
  have hB1 := hb0.trans (hb1.mono (by omega))
  have hS1 := row_below hS hb1
  have hsz := hb1.size
  have o0 : w2.cell? ⟨w.heap.size + 1 + 1, 0, none⟩ = some (.int .i64 d.kind) := ho1.cell 0
  have o1 : w2.cell? ⟨w.heap.size + 1 + 1, 1, none⟩ = some (.string d.text) := ho1.cell 1
  have o2 : w2.cell? ⟨w.heap.size + 1 + 1, 2, none⟩ = some (.slice (some ⟨b, 0, none⟩) d.nn d.nn) := ho1.cell 2
  have o3 : w2.cell? ⟨w.heap.size + 1 + 1, 3, none⟩ = some (.slice none 0 0) := ho1.cell 3
  have o4 : w2.cell? ⟨w.heap.size + 1 + 1, 4, none⟩ = some (.int .i64 0) := ho1.cell 4
  have f3 := ho1.frozen 3
  have f4 := ho1.frozen 4
  have p4 : w2.cell? ⟨w.heap.size, 4, none⟩ = some (.int .i64 d.turn) := hp1.cell 4
  have r0 : w2.cell? ⟨w.heap.size + 1, 0, none⟩ = some (.int .i64 0) := hr1.cell 0
  have r1 : w2.cell? ⟨w.heap.size + 1, 1, none⟩ = some (.string ByteArray.empty) := hr1.cell 1
  have r2 : w2.cell? ⟨w.heap.size + 1, 2, none⟩ = some (.slice none 0 0) := hr1.cell 2
  have r3 : w2.cell? ⟨w.heap.size + 1, 3, none⟩ = some (.slice none 0 0) := hr1.cell 3
  have r4 : w2.cell? ⟨w.heap.size + 1, 4, none⟩ = some (.int .i64 0) := hr1.cell 4
  have g0 := hr1.frozen 0
  have g1 := hr1.frozen 1
  have g2 := hr1.frozen 2
  have g3 := hr1.frozen 3
  have g4 := hr1.frozen 4
  have FB : Hid (Blk w2 (w.heap.size + 1) _ _ ∧ Below w.heap.size w w2 ∧ w2.rowIs b 9 d.nn (fun i => .string (d.names i)) ∧ w2.rowIs b' 3 d.kn (fun i => .int .i64 (d.kids i))) := ⟨hr1, hB1, hS1, hZ⟩
  clear hp hr ho hb0 hb1 hp1 hr1 ho1 hB1 hS1 hZ hS
  go_wp2_with fail
  obtain ⟨hr, hB, hS, hZ⟩ := FB.out
  refine end_world (F := NodeEndo w d b b')
    ⟨((((((hr.off _ (by omega)).off _ (by omega)).set 0 _).set 1 _).set 2 _).set 3 _).set 4 _,
     bel_put (bel_put (bel_put (bel_put (bel_put (bel_put (bel_put hB _ (by omega)) _ (by omega)) _ (by omega)) _ (by omega)) _ (by omega)) _ (by omega)) _ (by omega),
     (row_off (row_off (row_off (row_off (row_off (row_off (row_off hS _ (by omega)) _ (by omega)) _ (by omega)) _ (by omega)) _ (by omega)) _ (by omega)) _ (by omega)),
     (row_off (row_off (row_off (row_off (row_off (row_off (row_off hZ _ (by omega)) _ (by omega)) _ (by omega)) _ (by omega)) _ (by omega)) _ (by omega)) _ (by omega))⟩ ?_
  clear hr hB hS hZ FB o0 o1 o2 o3 o4 f3 f4 p4 r0 r1 r2 r3 r4 g0 g1 g2 g3 g4
  rintro W ⟨hr, hB, hS, hZ⟩
  have r0 : W.cell? ⟨w.heap.size + 1, 0, none⟩ = some (.int .i64 d.kind) := hr.cell 0
  have r1 : W.cell? ⟨w.heap.size + 1, 1, none⟩ = some (.string d.text) := hr.cell 1
  have r2 : W.cell? ⟨w.heap.size + 1, 2, none⟩ = some (.slice (some ⟨b, 0, none⟩) d.nn d.nn) := hr.cell 2
  have r3 : W.cell? ⟨w.heap.size + 1, 3, none⟩ = some (.slice (some ⟨b', 0, none⟩) d.kn d.kn) := hr.cell 3
  have r4 : W.cell? ⟨w.heap.size + 1, 4, none⟩ = some (.int .i64 d.turn) := hr.cell 4
  exact bodyPost_ret (v := .agg #[.int .i64 d.kind, .string d.text, .slice (some ⟨b, 0, none⟩) d.nn d.nn, .slice (some ⟨b', 0, none⟩) d.kn d.kn, .int .i64 d.turn]) (by simp [results, Try.results48, go_sem, r0, r1, r2, r3, r4]) rfl ⟨⟨some ⟨b, 0, none⟩, d.nn, some ⟨b', 0, none⟩, d.kn⟩, rfl, hB, row_ownS hS (by omega) (by unfold maxLen; omega), row_ownI hZ (by omega) (by unfold maxLen; omega), fun j e1 e2 => by
      have e3 : b = j := by simpa [Value.ownBlock] using e1
      have e4 : b' = j := by simpa [Value.ownBlock] using e2
      omega⟩

/-- A place more is laid behind the first ones, within the row's room. -/
theorem owns_fill {W : World} {B : Nat} {e : TypeId} {g k cap : Nat} {xs : List Value} {v0 v1 v2 v3 v4 : Value} (h : W.ownsRow B e 5 (.slice (some ⟨g, 0, none⟩) k cap) k xs) (hk : k < cap) :
    (((((W.setCell ⟨g, k * 5, none⟩ v0).setCell ⟨g, k * 5 + 1, none⟩ v1).setCell ⟨g, k * 5 + 2, none⟩ v2).setCell ⟨g, k * 5 + 3, none⟩ v3).setCell ⟨g, k * 5 + 4, none⟩ v4).ownsRow B e 5 (.slice (some ⟨g, 0, none⟩) (k + 1) cap) (k + 1) (xs ++ [v0, v1, v2, v3, v4]) := by
  obtain ⟨hl, h0 | ⟨g', cap', cur, hv, hB, hg, hc, hm, hs, ht⟩⟩ := h
  · simp at h0
  simp at hv
  obtain ⟨rfl, rfl⟩ := hv
  have hb : Blk W g cur e := hg
  have hb' := ((((hb.set (k * 5) v0).set (k * 5 + 1) v1).set (k * 5 + 2) v2).set (k * 5 + 3) v3).set (k * 5 + 4) v4
  refine ⟨by simp [hl]; omega, Or.inr ⟨g, cap, _, rfl, hB, hb', by omega, hm, by simp [hs], ?_⟩⟩
  apply List.ext_getElem?
  intro i
  rw [List.getElem?_take]
  by_cases hi : i < (k + 1) * 5
  · rw [if_pos hi, Array.getElem?_toList]
    simp only [Array.getElem?_setIfInBounds]
    by_cases h1 : i < k * 5
    · rw [List.getElem?_append_left (by omega)]
      have : xs[i]? = cur[i]? := by rw [← ht, List.getElem?_take, if_pos h1, Array.getElem?_toList]
      rw [this]
      simp only [show ¬ k * 5 + 4 = i by omega, show ¬ k * 5 + 3 = i by omega, show ¬ k * 5 + 2 = i by omega, show ¬ k * 5 + 1 = i by omega, show ¬ k * 5 = i by omega, if_false]
    · rw [List.getElem?_append_right (by omega), hl]
      obtain ⟨r, rfl⟩ : ∃ r, i = k * 5 + r := ⟨i - k * 5, by omega⟩
      have hr : r < 5 := by omega
      have hsz : ∀ q, q < 5 → k * 5 + q < cur.size := fun q hq => by omega
      rw [show k * 5 + r - k * 5 = r by omega]
      have hr5 : r = 0 ∨ r = 1 ∨ r = 2 ∨ r = 3 ∨ r = 4 := by omega
      rcases hr5 with rfl | rfl | rfl | rfl | rfl <;> simp [hsz 0 (by omega), hsz 1 (by omega), hsz 2 (by omega), hsz 3 (by omega), hsz 4 (by omega)] <;> (try (have := hsz 0 (by omega); omega))
  · rw [if_neg hi, List.getElem?_eq_none (by simp [hl]; omega)]

theorem OT.fill {W W1 : World} {B k : Nat} {O : Nat → Int} {D : Nat → Nd} {L : Nat → Loc} {g cap : Nat} {x : Nd} {l : Loc} (h : OT W B 0 (fun _ => false) k O D L (.slice none 0 0) (.slice (some ⟨g, 0, none⟩) k cap)) (hN : NewNn W x l W1) (hB : B ≤ W.heap.size) (hk : k < cap) :
    OT (((((W1.setCell ⟨g, k * 5, none⟩ (.int .i64 x.kind)).setCell ⟨g, k * 5 + 1, none⟩ (.string x.text)).setCell ⟨g, k * 5 + 2, none⟩ (.slice l.nA x.nn l.nc)).setCell ⟨g, k * 5 + 3, none⟩ (.slice l.kA x.kn l.kc)).setCell ⟨g, k * 5 + 4, none⟩ (.int .i64 x.turn)) B 0 (fun _ => false) (k + 1) (fun i => if i = k then 0 else O i) (fun i => if i = k then x else D i) (fun i => if i = k then l else L i) (.slice none 0 0) (.slice (some ⟨g, 0, none⟩) (k + 1) cap) := by
  refine h.item (o := 0) hN hB ?_ ?_ (fun b e => Or.inl e)
  · have hst : ∀ (i : Nat) (v : Value) (U : World), U.grownBy (U.setCell ⟨g, i, none⟩ v) (some g) := fun i v U => ⟨rfl, rfl, rfl, by simp, fun b _ hb => blk_setCell_other _ _ _ _ (show b ≠ g from fun e => hb (by rw [e]))⟩
    have tr : ∀ {A C E : World}, A.grownBy C (some g) → C.grownBy E (some g) → A.grownBy E (some g) := fun {A C E} h1 h2 => ⟨h2.os.trans h1.os, h2.tape.trans h1.tape, h2.output.trans h1.output, Nat.le_trans h1.size h2.size, fun b hb hne => (h2.block b (Nat.lt_of_lt_of_le hb h1.size) hne).trans (h1.block b hb hne)⟩
    exact tr (tr (tr (tr (hst _ _ _) (hst _ _ _)) (hst _ _ _)) (hst _ _ _)) (hst _ _ _)
  · exact owns_fill (owns_same h.ownI (fun b hb => hN.bel.block b (owns_block h.ownI hb).2)) hk

theorem OT.ext {W : World} {B k n : Nat} {Z : Nat → Bool} {O O' : Nat → Int} {D D' : Nat → Nd} {L L' : Nat → Loc} {lv iv : Value} (h : OT W B k Z n O D L lv iv) (he : ∀ i, i < n → D' i = D i ∧ L' i = L i) : OT W B k Z n O' D' L' lv iv := by
  have hr : ∀ d, d < 2 + 2 * n → rowT k Z n O' D' L' d = rowT k Z n O D L d := fun d hd => by
    unfold rowT
    by_cases e0 : d = 0
    · rw [if_pos e0, if_pos e0]
    · by_cases e1 : d = 1
      · rw [if_neg e0, if_pos e1, if_neg e0, if_pos e1]
        have key : ∀ m, m ≤ n → rowsT O' D' L' m = rowsT O D L m := fun m => by
          induction m with
          | zero => intro _; rfl
          | succ m ih => intro hm; rw [rowsT, rowsT, ih (by omega), (he m (by omega)).1, (he m (by omega)).2]; rfl
        rw [key n (Nat.le_refl _)]
      · rw [if_neg e0, if_neg e1, if_neg e0, if_neg e1, (he ((d - 2) / 2) (by omega)).1]
  have hv : ∀ d, d < 2 + 2 * n → valT lv iv D' L' d = valT lv iv D L d := fun d hd => by
    unfold valT
    by_cases e0 : d = 0
    · rw [if_pos e0, if_pos e0]
    · by_cases e1 : d = 1
      · rw [if_neg e0, if_pos e1, if_neg e0, if_pos e1]
      · rw [if_neg e0, if_neg e1, if_neg e0, if_neg e1, (he ((d - 2) / 2) (by omega)).1, (he ((d - 2) / 2) (by omega)).2]
  exact ⟨⟨fun d hd => by rw [hr d hd, hv d hd]; exact h.rows.own d hd, fun d1 d2 g1 g2 hne b e1 e2 => by rw [hv d1 g1] at e1; rw [hv d2 g2] at e2; exact h.rows.apart d1 d2 g1 g2 hne b e1 e2⟩⟩

theorem ot_strs {w : World} {B n c : Nat} {a : Option Addr} {S : Nat → ByteArray} (h : w.ownsRow B 9 1 (.slice a n c) n (strv (lst n S))) : IsStrs w a n S := by
  by_cases hn : n = 0
  · exact Or.inl hn
  · obtain ⟨g, rfl, hg⟩ := owns_addr h (by omega)
    exact Or.inr ⟨g, 0, rfl, hg, fun i hi => by rw [Nat.zero_add, h.cellAt i (by omega)]; simp [strv, lst, hi]⟩

theorem ot_ints {w : World} {B n c : Nat} {a : Option Addr} {Z : Nat → Int} (h : w.ownsRow B 3 1 (.slice a n c) n (intv0 n Z)) : IsInts w a n Z := by
  by_cases hn : n = 0
  · exact Or.inl hn
  · obtain ⟨g, rfl, hg⟩ := owns_addr h (by omega)
    exact Or.inr ⟨g, 0, rfl, hg, fun i hi => by rw [Nat.zero_add, h.cellAt i (by omega)]; simp [intv0, hi]⟩

theorem OT.nds {W : World} {B k n c : Nat} {Z : Nat → Bool} {O : Nat → Int} {D : Nat → Nd} {L : Nat → Loc} {lv : Value} {a : Option Addr} (h : OT W B k Z n O D L lv (.slice a n c)) : IsNds W a n D L := by
  by_cases hn : n = 0
  · exact Or.inl hn
  · obtain ⟨g, rfl, hg⟩ := owns_addr h.ownI (by omega)
    refine Or.inr ⟨g, 0, rfl, hg, fun i hi => ?_⟩
    obtain ⟨c0, c1, c2, c3, c4⟩ := h.cells hi
    rw [Nat.zero_add]
    exact ⟨c0, c1, c2, c3, c4, ot_strs (h.ownN hi), ot_ints (h.ownK hi)⟩

set_option maxHeartbeats 1000000 in
theorem toNodeS_own (a : Option Addr) (n c : Nat) (D : Nat → Nd) (L : Nat → Loc) (w : World) (hS : IsNds w a n D L) (hn : n ≤ 1048576) (hsm : ∀ i, i < n → (D i).nn ≤ 1048576 ∧ (D i).kn ≤ 1048576) :
    Calls Try.prog 21 #[.slice a n c] w fun e w' => e = .returned (.slice (some ⟨w.heap.size, 0, none⟩) n n) ∧ Below w.heap.size w w' ∧ ∃ L', OT w' w.heap.size 0 (fun _ => false) n (fun _ => 0) D L' (.slice none 0 0) (.slice (some ⟨w.heap.size, 0, none⟩) n n) := by
  have hmk := fun w => run_make_wide (P := Try.prog) 32 53 _ 80 5 Try.underlying32 infoNode .i64 .i64 n (by omega) (by omega) w
  go_enter Try.func21, Try.ntmps21
  go_wp2
  go_loopw [4] (fun i wr => ∃ (k : Nat) (L' : Nat → Loc), k ≤ n ∧ i = .int .i64 k ∧ Below w.heap.size w wr ∧ OT wr w.heap.size 0 (fun _ => false) k (fun _ => 0) D L' (.slice none 0 0) (.slice (some ⟨w.heap.size, 0, none⟩) k n) ∧ ∃ g, wr.rowIs w.heap.size 53 (n * 5) g) (fun i _ => n - (intOf i).toNat)
  case atStart =>
    obtain ⟨g, hg⟩ := rowIs_wide w #[.int .i64 0, .string ByteArray.empty, .slice none 0 0, .slice none 0 0, .int .i64 0] (n * 5) 53
    refine ⟨0, L, Nat.zero_le _, rfl, (Below.refl _ _).alloc (Nat.le_refl _) _, ?_, g, hg⟩
    obtain ⟨cur, h1, h2, _⟩ := hg
    refine ⟨⟨fun d hd => ?_, fun d1 d2 g1 g2 hne b e1 e2 => ?_⟩⟩
    · have hd' : d = 0 ∨ d = 1 := by omega
      rcases hd' with rfl | rfl
      · exact World.ownsRow_nil _ _ _ _
      · exact ⟨by simp [rowT, rowsT], Or.inr ⟨w.heap.size, n, cur, rfl, Nat.le_refl _, h1, by simp [rowT], by unfold maxLen; omega, by simpa [rowT] using h2, by simp [rowT, rowsT]⟩⟩
    · have hd1 : d1 = 0 ∨ d1 = 1 := by omega
      have hd2 : d2 = 0 ∨ d2 = 1 := by omega
      rcases hd1 with rfl | rfl
      · simp [valT, Value.ownBlock] at e1
      · rcases hd2 with rfl | rfl
        · simp [valT, Value.ownBlock] at e2
        · exact hne rfl
  case round =>
    obtain ⟨k, L', hk, rfl, hb, hot, g, hrow⟩ := hrel
    by_cases hlt : k < n
    · obtain ⟨b, off, rfl, hlt2, hc⟩ := (hS.below (Nat.le_refl _) hb).at hlt
      obtain ⟨c0, c1, c2, c3, c4, hI⟩ := hc k hlt
      clear hc
      go_wp2_with fail
      refine (toNode_new (D k) (L k) wr hI (hsm k hlt).1 (hsm k hlt).2).mono ?_
      rintro e w1 ⟨l', rfl, hN⟩
      unfold ndV
      have hB := hb.trans (hN.bel.mono hb.size)
      have hrow1 := row_below hrow hN.bel
      have HR : Hid (OT wr w.heap.size 0 (fun _ => false) k (fun _ => 0) D L' (.slice none 0 0) (.slice (some ⟨w.heap.size, 0, none⟩) k n) ∧ NewNn wr (D k) l' w1 ∧ Below w.heap.size w w1 ∧ w.heap.size ≤ wr.heap.size ∧ w1.rowIs w.heap.size 53 (n * 5) g) := ⟨hot, hN, hB, hb.size, hrow1⟩
      have d0 := hrow1.cell (show k * 5 < n * 5 by omega)
      have d1 := hrow1.cell (show k * 5 + 1 < n * 5 by omega)
      have d2 := hrow1.cell (show k * 5 + 2 < n * 5 by omega)
      have d3 := hrow1.cell (show k * 5 + 3 < n * 5 by omega)
      have d4 := hrow1.cell (show k * 5 + 4 < n * 5 by omega)
      have e0 := hrow1.frozen (k * 5)
      have e1 := hrow1.frozen (k * 5 + 1)
      have e2 := hrow1.frozen (k * 5 + 2)
      have e3 := hrow1.frozen (k * 5 + 3)
      have e4 := hrow1.frozen (k * 5 + 4)
      clear hb hot hrow hB hrow1 hN hI c0 c1 c2 c3 c4
      go_wp2
      go_roundw
      case rel => exact ⟨k + 1, fun i => if i = k then l' else L' i, by omega, by go_num, bel_put (bel_put (bel_put (bel_put (bel_put HR.out.2.2.1 _ (Nat.le_refl _)) _ (Nat.le_refl _)) _ (Nat.le_refl _)) _ (Nat.le_refl _)) _ (Nat.le_refl _), (HR.out.1.fill HR.out.2.1 HR.out.2.2.2.1 hlt).ext (fun i hi => by by_cases e : i = k <;> simp [e]), _, ((((HR.out.2.2.2.2.set _ _).set _ _).set _ _).set _ _).set _ _⟩
      case measure => simp [intOf]; omega
    · have hkn : k = n := by omega
      subst hkn
      have HR : Hid (Below w.heap.size w wr ∧ ∃ L', OT wr w.heap.size 0 (fun _ => false) k (fun _ => 0) D L' (.slice none 0 0) (.slice (some ⟨w.heap.size, 0, none⟩) k k)) := ⟨hb, L', hot⟩
      clear hb hrow hot
      go_wp2
      go_ret
      exact ⟨rfl, HR.out.1, HR.out.2⟩

/-- What is known at toTree's end. -/
structure TreeEndo (w : World) (n : Nat) (now : Int) (D : Nat → Nd) (b : Nat) (W : World) : Prop where
  r : Blk W (w.heap.size + 1) #[.slice (some ⟨b, 0, none⟩) n n, .int .i64 now] 34
  bel : Below w.heap.size w W
  row : ∃ L', OT W b 0 (fun _ => false) n (fun _ => 0) D L' (.slice none 0 0) (.slice (some ⟨b, 0, none⟩) n n)

set_option maxHeartbeats 1000000 in
theorem toTree_own (a : Option Addr) (n c : Nat) (now : Int) (D : Nat → Nd) (L : Nat → Loc) (w : World) (hS : IsNds w a n D L) (hn : n ≤ 1048576) (hsm : ∀ i, i < n → (D i).nn ≤ 1048576 ∧ (D i).kn ≤ 1048576) :
    Calls Try.prog 7 #[trV a n c now] w fun e w' => ∃ b, e = .returned (trV (some ⟨b, 0, none⟩) n n now) ∧ Below w.heap.size w w' ∧ w.heap.size ≤ b ∧ ∃ L', OT w' b 0 (fun _ => false) n (fun _ => 0) D L' (.slice none 0 0) (.slice (some ⟨b, 0, none⟩) n n) := by
  unfold trV
  go_enter Try.func7, Try.ntmps7
  go_wp2_with fail
  refine at_world (F := New3 w _ _ _ _ _ _) (new3 w _ _ _ _ _ _) ?_
  rintro W ⟨hp, hr, ho, hb0, hs0⟩
  refine (toNodeS_own a n c D L _ (hS.below (Nat.le_refl _) hb0) hn hsm).mono ?_
  rintro e w1 ⟨rfl, hb1, hrow⟩
  have hp1 := hp.below hb1 (by omega)
  have hr1 := hr.below hb1 (by omega)
  have ho1 := ho.below hb1 (by omega)
  have hB1 := hb0.trans (hb1.mono (by omega))
  have hsz := hb1.size
  have p1 : w1.cell? ⟨w.heap.size, 1, none⟩ = some (.int .i64 now) := hp1.cell 1
  have o0 : w1.cell? ⟨w.heap.size + 1 + 1, 0, none⟩ = some (.slice none 0 0) := ho1.cell 0
  have o1 : w1.cell? ⟨w.heap.size + 1 + 1, 1, none⟩ = some (.int .i64 0) := ho1.cell 1
  have f0 := ho1.frozen 0
  have f1 := ho1.frozen 1
  have r0 : w1.cell? ⟨w.heap.size + 1, 0, none⟩ = some (.slice none 0 0) := hr1.cell 0
  have r1 : w1.cell? ⟨w.heap.size + 1, 1, none⟩ = some (.int .i64 0) := hr1.cell 1
  have g0 := hr1.frozen 0
  have g1 := hr1.frozen 1
  have FB : Hid (Blk w1 (w.heap.size + 1) _ _ ∧ Below w.heap.size w w1 ∧ ∃ L', OT w1 W.heap.size 0 (fun _ => false) n (fun _ => 0) D L' (.slice none 0 0) (.slice (some ⟨W.heap.size, 0, none⟩) n n)) := ⟨hr1, hB1, hrow⟩
  have hs1 : w.heap.size + 3 ≤ W.heap.size := by omega
  generalize W.heap.size = bW at *
  clear hp hr ho hb0 hb1 hp1 hr1 ho1 hB1 hrow hs0
  go_wp2_with fail
  obtain ⟨hr, hB, L', hrow⟩ := FB.out
  refine end_world (F := TreeEndo w n now D bW)
    ⟨(((hr.off _ (by omega)).off _ (by omega)).set 0 _).set 1 _,
     bel_put (bel_put (bel_put (bel_put hB _ (by omega)) _ (by omega)) _ (by omega)) _ (by omega),
     L', (((hrow.off _ (by omega)).off _ (by omega)).off _ (by omega)).off _ (by omega)⟩ ?_
  clear hr hB hrow FB o0 o1 f0 f1 p1 r0 r1 g0 g1
  rintro W ⟨hr, hB, hrow⟩
  have r0 : W.cell? ⟨w.heap.size + 1, 0, none⟩ = some (.slice (some ⟨bW, 0, none⟩) n n) := hr.cell 0
  have r1 : W.cell? ⟨w.heap.size + 1, 1, none⟩ = some (.int .i64 now) := hr.cell 1
  exact bodyPost_ret (v := .agg #[.slice (some ⟨bW, 0, none⟩) n n, .int .i64 now]) (by simp [results, Try.results7, go_sem, r0, r1]) rfl ⟨bW, rfl, hB, by omega, hrow⟩

end Go.Proofs.Yteoanlkmkmajjaa

/-
  What the small helpers of the exact laws do at a list of truth values that lies in memory: szBoolS counts it, toBoolS makes a copy of it, eqBoolS holds two of them against each other.
-/
namespace Go.Proofs.Yteoanlkmkmajjaa
open Go.RowKit
set_option linter.unusedVariables false

set_option maxHeartbeats 400000 in
theorem szBoolS_any (a : Option Addr) (n c : Nat) (left : Int) (w : World) (hn : n ≤ maxLen) (h0 : 0 ≤ left) (h1 : left ≤ 1048576) :
    Calls Try.prog 35 #[.slice a n c, .int .i64 left] w fun e w' => w = w' ∧ ∃ r : Int, e = .returned (.int .i64 r) ∧ r ≤ left ∧ (0 ≤ r → r + n ≤ left) := by
  unfold maxLen at hn
  go_enter Try.func35, Try.ntmps35
  go_wp2
  · go_ret
    exact ⟨rfl, -1, rfl, by omega, fun h => by omega⟩
  · go_ret
    exact ⟨rfl, left - n, rfl, by omega, fun h => by omega⟩

theorem copyB_step (Z : Nat → Bool) (i k : Nat) : (if i = k then Value.bool (Z k) else if i < k then .bool (Z i) else .bool false) = if i < k + 1 then .bool (Z i) else .bool false := by
  by_cases h : i = k
  · subst h; simp
  · by_cases h2 : i < k
    · simp [h, h2, show i < k + 1 by omega]
    · simp [h, h2, show ¬ i < k + 1 by omega]

set_option maxHeartbeats 400000 in
theorem toBoolS_any (a : Option Addr) (n c : Nat) (Z : Nat → Bool) (w : World) (hS : IsBools w a n Z) (hn : n ≤ 1048576) :
    Calls Try.prog 39 #[.slice a n c] w fun e w' => e = .returned (.slice (some ⟨w.heap.size, 0, none⟩) n n) ∧ Below w.heap.size w w' ∧ w'.rowIs w.heap.size 4 n (fun i => .bool (Z i)) := by
  have hmk := fun w => run_make_row' (P := Try.prog) 26 4 (.bool false) 1 Try.underlying26 infoBool rfl .i64 .i64 n (by omega) (by omega) w
  go_enter Try.func39, Try.ntmps39
  go_wp2
  go_loopw [4] (fun i wr => ∃ k : Nat, k ≤ n ∧ i = .int .i64 k ∧ Below w.heap.size w wr ∧ wr.rowIs w.heap.size 4 n (fun j => if j < k then .bool (Z j) else .bool false)) (fun i _ => n - (intOf i).toNat)
  case atStart => exact ⟨0, Nat.zero_le _, rfl, (Below.refl _ _).alloc (Nat.le_refl _) _, (World.rowIs_made w (.bool false) n 4).congr (fun i _ => by simp)⟩
  case round =>
    obtain ⟨k, hk, rfl, hb, hrow⟩ := hrel
    by_cases hlt : k < n
    · obtain ⟨b, off, rfl, hlt2, hc⟩ := hS.at hlt
      have hck : wr.cell? ⟨b, off + k, none⟩ = some (.bool (Z k)) := by rw [hb.cell (p := ⟨b, off + k, none⟩) hlt2]; exact hc k hlt
      have hcr := hrow.cell hlt
      have hfr := hrow.frozen k
      have HB : Hid (Below w.heap.size w wr) := hb
      have HR : Hid (wr.rowIs w.heap.size 4 n (fun j => if j < k then .bool (Z j) else .bool false)) := hrow
      clear hc hb hrow
      go_wp2
      go_roundw
      case rel => exact ⟨k + 1, by omega, by go_num, HB.out.setCell (Nat.le_refl _) _, (HR.out.set k (.bool (Z k))).congr (fun i _ => copyB_step Z i k)⟩
      case measure => simp [intOf]; omega
    · have HB : Hid (Below w.heap.size w wr) := hb
      have HR : Hid (wr.rowIs w.heap.size 4 n (fun j => if j < k then .bool (Z j) else .bool false)) := hrow
      clear hb hrow
      go_wp2
      go_ret
      exact ⟨rfl, HB.out, HR.out.congr (fun i hi => by simp [show i < k by omega])⟩

set_option maxHeartbeats 400000 in
theorem eqBoolS_any (a a' : Option Addr) (n c m c' : Nat) (Z Y : Nat → Bool) (w : World) (hS : IsBools w a n Z) (hT : IsBools w a' m Y) (hn : n ≤ maxLen) (hm : m ≤ maxLen) :
    Calls Try.prog 27 #[.slice a n c, .slice a' m c'] w fun e w' => (∃ q, w' = w.drewN q) ∧ e = .returned (.bool (decide (n = m) && eqB n Z Y)) := by
  unfold maxLen at hn hm
  by_cases hne : n = m
  · subst hne
    have hb : ((n : Int) != (n : Int)) = false := by simp
    go_enter Try.func27, Try.ntmps27
    go_wp2
    go_loopw [5] (fun i wr => ∃ k q : Nat, k ≤ n ∧ i = .int .i64 k ∧ wr = w.drewN q ∧ eqB k Z Y = true) (fun i _ => n - (intOf i).toNat)
    case atStart => exact ⟨0, 0, Nat.zero_le _, rfl, rfl, rfl⟩
    case round =>
      obtain ⟨k, q, hk, rfl, rfl, heq⟩ := hrel
      have HE : Hid (eqB k Z Y = true) := heq
      clear heq
      by_cases hlt : k < n
      · obtain ⟨b, off, rfl, hlt2, hc⟩ := hS.at hlt
        obtain ⟨b', off', rfl, hlt2', hc'⟩ := hT.at hlt
        have h1 := hc k hlt
        have h2 := hc' k hlt
        have hlti : (k : Int) < (n : Int) := by omega
        clear hc hc'
        by_cases hzy : Z k = Y k
        · have hzb : (!(Z k == Y k)) = false := by simp [hzy]
          have HZ : Hid (Z k = Y k) := hzy
          clear hzy
          go_wp2
          go_quiet (fail)
          go_wp2
          go_roundw
          case rel => exact ⟨k + 1, q + nq, by omega, by go_num, rfl, eqB_succ k Z Y HE.out HZ.out⟩
          case measure => simp [intOf]; omega
        · have hzb : (!(Z k == Y k)) = true := by simp [hzy]
          have HZ : Hid (¬ Z k = Y k) := hzy
          clear hzy
          go_wp2
          go_quiet (fail)
          go_wp2
          go_ret
          exact ⟨⟨q + nq, by simp⟩, ret_bool (by rw [← eqB_not n k Z Y hlt HZ.out]; simp)⟩
      · have hkn : k = n := by omega
        have HK : Hid (k = n) := hkn
        clear hkn
        go_wp2
        go_ret
        exact ⟨⟨q, rfl⟩, ret_bool (by rw [← HK.out, HE.out]; simp)⟩
  · have hb : ((n : Int) != (m : Int)) = true := by simp; omega
    go_enter Try.func27, Try.ntmps27
    go_wp2
    go_ret
    exact ⟨⟨0, rfl⟩, ret_bool (by simp [hne])⟩

end Go.Proofs.Yteoanlkmkmajjaa

/-
  What the small helpers of the exact laws do at places that were turned, and at lists of them.
-/
namespace Go.Proofs.Yteoanlkmkmajjaa
open Go.RowKit
set_option linter.unusedVariables false
set_option linter.unusedSimpArgs false

set_option maxHeartbeats 400000 in
theorem szItem_any (o : Int) (d : Nd) (l : Loc) (left : Int) (w : World) (hI : NdIn w d l) (hf : d.Fits) (h0 : 0 ≤ left) (h1 : left ≤ 1048576) :
    Calls Try.prog 63 #[itV o d l, .int .i64 left] w fun e w' => Below w.heap.size w w' ∧ ∃ r : Int, e = .returned (.int .i64 r) ∧ r ≤ left ∧ (0 ≤ r → r + d.size ≤ left) := by
  unfold itV
  go_enter Try.func63, Try.ntmps63
  go_wp2_with fail
  refine at_world (F := New1 w _ _) (new1 w _ _) ?_
  rintro W ⟨hp, hb, hs⟩
  refine (szNode_any d l left W (hI.below (Nat.le_refl _) hb) hf h0 h1).mono ?_
  rintro e w1 ⟨hb1, r, rfl, hr1, hr2⟩
  have hB := hb.trans (hb1.mono (by omega))
  by_cases hr3 : r < 0
  · have hr3' : decide (r < 0) = true := by simp; omega
    have HB : Hid (Below w.heap.size w w1) := hB
    clear hB hb1 hb hp hr2
    go_wp2
    go_ret
    exact ⟨HB.out, -1, rfl, by omega, fun h => by omega⟩
  · have hr3' : decide (r < 0) = false := by simp; omega
    have HB : Hid (Below w.heap.size w w1 ∧ (0 ≤ r → r + d.size ≤ left)) := ⟨hB, hr2⟩
    clear hB hb1 hb hp hr2
    go_wp2
    go_ret
    exact ⟨HB.out.1, r, rfl, by omega, HB.out.2⟩

set_option maxHeartbeats 400000 in
theorem szItemS_any (a : Option Addr) (n c : Nat) (O : Nat → Int) (D : Nat → Nd) (L : Nat → Loc) (left : Int) (w : World) (hS : IsIts w a n O D L) (hf : FitAll n D) (hn : n ≤ maxLen) (h0 : 0 ≤ left) (h1 : left ≤ 1048576) :
    Calls Try.prog 36 #[.slice a n c, .int .i64 left] w fun e w' => Below w.heap.size w w' ∧ ∃ r : Int, e = .returned (.int .i64 r) ∧ r ≤ left ∧ (0 ≤ r → r + n + sizeTo D n ≤ left) := by
  unfold maxLen at hn
  by_cases hbig : left < n
  · go_enter Try.func36, Try.ntmps36
    go_wp2
    go_ret
    exact ⟨Below.refl _ _, -1, rfl, by omega, fun h => by omega⟩
  · go_enter Try.func36, Try.ntmps36
    go_wp2
    go_loopw [1, 5] (fun l i wr => ∃ (k : Nat) (r : Int), k ≤ n ∧ 0 ≤ r ∧ i = .int .i64 k ∧ l = .int .i64 r ∧ r + n + sizeTo D k ≤ left ∧ Below w.heap.size w wr) (fun _ i _ => n - (intOf i).toNat)
    case atStart => exact ⟨0, left - n, Nat.zero_le _, by omega, rfl, rfl, by simp [sizeTo], Below.refl _ _⟩
    case round =>
      obtain ⟨k, r, hk, hr, rfl, rfl, hsum, hbel⟩ := hrel
      by_cases hlt : k < n
      · obtain ⟨b, off, rfl, hlt2, hc⟩ := (hS.below (Nat.le_refl _) hbel).at hlt
        obtain ⟨c0, c1, c2, c3, c4, c5, hI⟩ := hc k hlt
        clear hc
        go_wp2_with fail
        refine (szItem_any (O k) (D k) (L k) r wr hI (hf k hlt) hr (by omega)).mono ?_
        rintro e w1 ⟨hb1, r', rfl, hr1, hr2⟩
        have hB := hbel.trans (hb1.mono hbel.size)
        by_cases hr3 : r' < 0
        · have hr3' : decide (r' < 0) = true := by simp; omega
          have HB : Hid (Below w.heap.size w w1) := hB
          clear hB hb1 hbel c0 c1 c2 c3 c4 c5 hI hr2
          go_wp2
          go_ret
          exact ⟨HB.out, -1, rfl, by omega, fun h => by omega⟩
        · have hr3' : decide (r' < 0) = false := by simp; omega
          have HS : Hid (r' + n + sizeTo D (k + 1) ≤ left ∧ Below w.heap.size w w1) := ⟨by have := hr2 (by omega); rw [sizeTo_succ]; omega, hB⟩
          clear hB hb1 hbel c0 c1 c2 c3 c4 c5 hI hr2 hsum
          go_wp2
          go_roundw
          case rel => exact ⟨k + 1, r', by omega, by omega, by go_num, by go_num, HS.out.1, HS.out.2⟩
          case measure => simp [intOf]; omega
      · go_wp2
        go_ret
        exact ⟨hbel, r, rfl, by omega, fun _ => by have : k = n := by omega
                                                   subst this; omega⟩

/-- What is known at toItem's end. -/
structure ItemEnd (w : World) (o : Int) (d : Nd) (l : Loc) (W : World) : Prop where
  r : Blk W (w.heap.size + 1) #[.int .i64 o, .int .i64 d.kind, .string d.text, .slice l.nA d.nn l.nc, .slice l.kA d.kn l.kc, .int .i64 d.turn] 56
  bel : Below w.heap.size w W
  nd : NdIn W d l

set_option maxHeartbeats 1000000 in
theorem toItem_any (o : Int) (d : Nd) (l : Loc) (w : World) (hI : NdIn w d l) (hn : d.nn ≤ 1048576) (hk : d.kn ≤ 1048576) :
    Calls Try.prog 65 #[itV o d l] w fun e w' => ∃ l', e = .returned (itV o d l') ∧ Below w.heap.size w w' ∧ NdIn w' d l' ∧ l'.Past w.heap.size := by
  unfold itV
  go_enter Try.func65, Try.ntmps65
  go_wp2_with fail
  refine at_world (F := New3 w _ _ _ _ _ _) (new3 w _ _ _ _ _ _) ?_
  rintro W ⟨hp, hr, ho, hb0, hs0⟩
  refine (toNode_any d l W (hI.below (Nat.le_refl _) hb0) hn hk).mono ?_
  rintro e w1 ⟨l', rfl, hb1, hI1, hp1⟩
  unfold ndV
  have hr1 := hr.below hb1 (by omega)
  have ho1 := ho.below hb1 (by omega)
  have hB1 := hb0.trans (hb1.mono (by omega))
  have hsz := hb1.size
  have o0 : w1.cell? ⟨w.heap.size + 1 + 1, 0, none⟩ = some (.int .i64 o) := ho1.cell 0
  have o1 : w1.cell? ⟨w.heap.size + 1 + 1, 1, none⟩ = some (.int .i64 0) := ho1.cell 1
  have o2 : w1.cell? ⟨w.heap.size + 1 + 1, 2, none⟩ = some (.string ByteArray.empty) := ho1.cell 2
  have o3 : w1.cell? ⟨w.heap.size + 1 + 1, 3, none⟩ = some (.slice none 0 0) := ho1.cell 3
  have o4 : w1.cell? ⟨w.heap.size + 1 + 1, 4, none⟩ = some (.slice none 0 0) := ho1.cell 4
  have o5 : w1.cell? ⟨w.heap.size + 1 + 1, 5, none⟩ = some (.int .i64 0) := ho1.cell 5
  have f0 := ho1.frozen 0
  have f1 := ho1.frozen 1
  have f2 := ho1.frozen 2
  have f3 := ho1.frozen 3
  have f4 := ho1.frozen 4
  have f5 := ho1.frozen 5
  have r0 : w1.cell? ⟨w.heap.size + 1, 0, none⟩ = some (.int .i64 0) := hr1.cell 0
  have r1 : w1.cell? ⟨w.heap.size + 1, 1, none⟩ = some (.int .i64 0) := hr1.cell 1
  have r2 : w1.cell? ⟨w.heap.size + 1, 2, none⟩ = some (.string ByteArray.empty) := hr1.cell 2
  have r3 : w1.cell? ⟨w.heap.size + 1, 3, none⟩ = some (.slice none 0 0) := hr1.cell 3
  have r4 : w1.cell? ⟨w.heap.size + 1, 4, none⟩ = some (.slice none 0 0) := hr1.cell 4
  have r5 : w1.cell? ⟨w.heap.size + 1, 5, none⟩ = some (.int .i64 0) := hr1.cell 5
  have g0 := hr1.frozen 0
  have g1 := hr1.frozen 1
  have g2 := hr1.frozen 2
  have g3 := hr1.frozen 3
  have g4 := hr1.frozen 4
  have g5 := hr1.frozen 5
  have hpp := hp1.mono (show w.heap.size + 3 ≤ W.heap.size by omega)
  have FB : Hid (Blk w1 (w.heap.size + 1) _ _ ∧ Below w.heap.size w w1 ∧ NdIn w1 d l' ∧ l'.Past (w.heap.size + 3)) := ⟨hr1, hB1, hI1, hpp⟩
  clear hp hr ho hb0 hb1 hr1 ho1 hB1 hI1 hp1 hpp hs0 hsz
  go_wp2_with fail
  obtain ⟨hr, hB, hN, hP⟩ := FB.out
  have hP1 : l'.Past (w.heap.size + 1 + 1) := hP.mono (by omega)
  have hP2 : l'.Past (w.heap.size + 1 + 1 + 1) := hP
  refine end_world (F := ItemEnd w o d l')
    ⟨(((((((((((hr.off _ (by omega)).off _ (by omega)).off _ (by omega)).off _ (by omega)).off _ (by omega)).set 0 _).set 1 _).set 2 _).set 3 _).set 4 _).set 5 _),
     bel_put (bel_put (bel_put (bel_put (bel_put (bel_put (bel_put (bel_put (bel_put (bel_put (bel_put hB _ (by omega)) _ (by omega)) _ (by omega)) _ (by omega)) _ (by omega)) _ (by omega)) _ (by omega)) _ (by omega)) _ (by omega)) _ (by omega)) _ (by omega),
     ((((((((((hN.off _ hP2).off _ hP2).off _ hP2).off _ hP2).off _ hP2).off _ hP1).off _ hP1).off _ hP1).off _ hP1).off _ hP1).off _ hP1⟩ ?_
  clear hr hB hN FB o0 o1 o2 o3 o4 o5 f0 f1 f2 f3 f4 f5 r0 r1 r2 r3 r4 r5 g0 g1 g2 g3 g4 g5
  rintro W ⟨hr, hB, hN⟩
  have r0 : W.cell? ⟨w.heap.size + 1, 0, none⟩ = some (.int .i64 o) := hr.cell 0
  have r1 : W.cell? ⟨w.heap.size + 1, 1, none⟩ = some (.int .i64 d.kind) := hr.cell 1
  have r2 : W.cell? ⟨w.heap.size + 1, 2, none⟩ = some (.string d.text) := hr.cell 2
  have r3 : W.cell? ⟨w.heap.size + 1, 3, none⟩ = some (.slice l'.nA d.nn l'.nc) := hr.cell 3
  have r4 : W.cell? ⟨w.heap.size + 1, 4, none⟩ = some (.slice l'.kA d.kn l'.kc) := hr.cell 4
  have r5 : W.cell? ⟨w.heap.size + 1, 5, none⟩ = some (.int .i64 d.turn) := hr.cell 5
  exact bodyPost_ret (v := .agg #[.int .i64 o, .int .i64 d.kind, .string d.text, .slice l'.nA d.nn l'.nc, .slice l'.kA d.kn l'.kc, .int .i64 d.turn]) (by simp [results, Try.results65, go_sem, r0, r1, r2, r3, r4, r5]) rfl ⟨l', rfl, hB, hN, hP.mono (by omega)⟩

set_option maxHeartbeats 1000000 in
theorem toItemS_any (a : Option Addr) (n c : Nat) (O : Nat → Int) (D : Nat → Nd) (L : Nat → Loc) (w : World) (hS : IsIts w a n O D L) (hn : n ≤ 1048576) (hsm : ∀ i, i < n → (D i).nn ≤ 1048576 ∧ (D i).kn ≤ 1048576) :
    Calls Try.prog 40 #[.slice a n c] w fun e w' => e = .returned (.slice (some ⟨w.heap.size, 0, none⟩) n n) ∧ Below w.heap.size w w' ∧ ∃ L', ItRow w' w.heap.size n n O D L' := by
  have hmk := fun w => run_make_wide (P := Try.prog) 27 56 _ 88 6 Try.underlying27 infoItem .i64 .i64 n (by omega) (by omega) w
  go_enter Try.func40, Try.ntmps40
  go_wp2
  go_loopw [4] (fun i wr => ∃ (k : Nat) (L' : Nat → Loc), k ≤ n ∧ i = .int .i64 k ∧ Below w.heap.size w wr ∧ ItRow wr w.heap.size n k O D L') (fun i _ => n - (intOf i).toNat)
  case atStart =>
    obtain ⟨g, hg⟩ := rowIs_wide w #[.int .i64 0, .int .i64 0, .string ByteArray.empty, .slice none 0 0, .slice none 0 0, .int .i64 0] (n * 6) 56
    exact ⟨0, L, Nat.zero_le _, rfl, (Below.refl _ _).alloc (Nat.le_refl _) _, ⟨g, hg, fun i hi => by omega⟩, fun i hi => by omega⟩
  case round =>
    obtain ⟨k, L', hk, rfl, hb, hrow⟩ := hrel
    by_cases hlt : k < n
    · obtain ⟨b, off, rfl, hlt2, hc⟩ := (hS.below (Nat.le_refl _) hb).at hlt
      obtain ⟨c0, c1, c2, c3, c4, c5, hI⟩ := hc k hlt
      clear hc
      go_wp2_with fail
      refine (toItem_any (O k) (D k) (L k) wr hI (hsm k hlt).1 (hsm k hlt).2).mono ?_
      rintro e w1 ⟨l', rfl, hb1, hI1, hp1⟩
      unfold itV
      have hrow1 := hrow.below (Nat.le_refl _) hb1
      have hB := hb.trans (hb1.mono hb.size)
      have hwl : w.heap.size < wr.heap.size := by obtain ⟨⟨g, hr, _⟩, _⟩ := hrow; exact hr.lt
      have hpp := hp1.mono (show w.heap.size + 1 ≤ wr.heap.size by omega)
      have HR : Hid (ItRow w1 w.heap.size n k O D L' ∧ NdIn w1 (D k) l' ∧ l'.Past (w.heap.size + 1) ∧ Below w.heap.size w w1) := ⟨hrow1, hI1, hpp, hB⟩
      obtain ⟨⟨g, hr, _⟩, _⟩ := hrow1
      have d0 := hr.cell (show k * 6 < n * 6 by omega)
      have d1 := hr.cell (show k * 6 + 1 < n * 6 by omega)
      have d2 := hr.cell (show k * 6 + 2 < n * 6 by omega)
      have d3 := hr.cell (show k * 6 + 3 < n * 6 by omega)
      have d4 := hr.cell (show k * 6 + 4 < n * 6 by omega)
      have d5 := hr.cell (show k * 6 + 5 < n * 6 by omega)
      have e0 := hr.frozen (k * 6)
      have e1 := hr.frozen (k * 6 + 1)
      have e2 := hr.frozen (k * 6 + 2)
      have e3 := hr.frozen (k * 6 + 3)
      have e4 := hr.frozen (k * 6 + 4)
      have e5 := hr.frozen (k * 6 + 5)
      clear hb hrow hr hB hb1 hI1 hp1 hpp hI c0 c1 c2 c3 c4 c5
      go_wp2
      go_roundw
      case rel => exact ⟨k + 1, _, by omega, by go_num, bel_put (bel_put (bel_put (bel_put (bel_put (bel_put HR.out.2.2.2 _ (Nat.le_refl _)) _ (Nat.le_refl _)) _ (Nat.le_refl _)) _ (Nat.le_refl _)) _ (Nat.le_refl _)) _ (Nat.le_refl _), HR.out.1.step HR.out.2.1 HR.out.2.2.1⟩
      case measure => simp [intOf]; omega
    · have hkn : k = n := by omega
      have HR : Hid (Below w.heap.size w wr ∧ ∃ L', ItRow wr w.heap.size n n O D L') := ⟨hb, L', hkn ▸ hrow⟩
      clear hb hrow hkn
      go_wp2
      go_ret
      exact ⟨rfl, HR.out.1, HR.out.2⟩

set_option maxHeartbeats 1000000 in
theorem eqItem_any (o o' : Int) (d d' : Nd) (l l' : Loc) (w : World) (hI : NdIn w d l) (hI' : NdIn w d' l') (hf : d.Fits) (hf' : d'.Fits) :
    Calls Try.prog 56 #[itV o d l, itV o' d' l'] w fun e w' => Below w.heap.size w w' ∧ e = .returned (.bool (sameIt o o' d d')) := by
  unfold itV
  cases hoo : (o == o') with
  | false =>
    have hnb : (o != o') = true := by simp only [bne, hoo]; rfl
    have HX : Hid (false = sameIt o o' d d') := by show _ = _; unfold sameIt; rw [hoo]; rfl
    clear hoo
    go_enter Try.func56, Try.ntmps56
    go_wp2_with fail
    go_ret
    exact ⟨((Below.refl _ _).alloc (Nat.le_refl _) _).alloc (by simp) _, ret_bool HX.out⟩
  | true =>
    have hnb : (o != o') = false := by simpa [bne] using hoo
    have HX : Hid (d.same d' = sameIt o o' d d') := by show _ = _; unfold sameIt; rw [hoo]; rfl
    clear hoo
    go_enter Try.func56, Try.ntmps56
    go_wp2_with fail
    refine at_world (F := New2 w _ _ _ _) (new2 w _ _ _ _) ?_
    rintro W ⟨hp, hp', hb, hs⟩
    refine (eqNode_any d d' l l' W (hI.below (Nat.le_refl _) hb) (hI'.below (Nat.le_refl _) hb) hf hf').mono ?_
    rintro e w1 ⟨hb1, rfl⟩
    have HB : Hid (Below w.heap.size w w1) := hb.trans (hb1.mono (by omega))
    clear hp hp' hb hs hb1
    cases hq : d.same d' with
    | false =>
      have HQ : Hid (d.same d' = false) := hq
      clear hq
      go_wp2
      go_ret
      exact ⟨HB.out, ret_bool (by rw [← HX.out, HQ.out])⟩
    | true =>
      have HQ : Hid (d.same d' = true) := hq
      clear hq
      go_wp2
      go_ret
      exact ⟨HB.out, ret_bool (by rw [← HX.out, HQ.out])⟩

set_option maxHeartbeats 1000000 in
theorem eqItemS_any (a a' : Option Addr) (n c m c' : Nat) (O P : Nat → Int) (D E : Nat → Nd) (L M : Nat → Loc) (w : World) (hS : IsIts w a n O D L) (hT : IsIts w a' m P E M) (hf : FitAll n D) (hf' : FitAll m E) (hn : n ≤ maxLen) (hm : m ≤ maxLen) :
    Calls Try.prog 28 #[.slice a n c, .slice a' m c'] w fun e w' => Below w.heap.size w w' ∧ e = .returned (.bool (decide (n = m) && sameIts n O P D E)) := by
  unfold maxLen at hn hm
  by_cases hne : n = m
  · subst hne
    have hb : ((n : Int) != (n : Int)) = false := by simp
    go_enter Try.func28, Try.ntmps28
    go_wp2
    go_loopw [5] (fun i wr => ∃ k : Nat, k ≤ n ∧ i = .int .i64 k ∧ Below w.heap.size w wr ∧ sameIts k O P D E = true) (fun i _ => n - (intOf i).toNat)
    case atStart => exact ⟨0, Nat.zero_le _, rfl, Below.refl _ _, rfl⟩
    case round =>
      obtain ⟨k, hk, rfl, hbel, heq⟩ := hrel
      have HE : Hid (sameIts k O P D E = true) := heq
      clear heq
      by_cases hlt : k < n
      · have hSr := hS.below (Nat.le_refl _) hbel
        have hTr := hT.below (Nat.le_refl _) hbel
        obtain ⟨b, off, rfl, hlt2, hc⟩ := hSr.at hlt
        obtain ⟨b', off', rfl, hlt2', hc'⟩ := hTr.at hlt
        obtain ⟨c0, c1, c2, c3, c4, c5, hI⟩ := hc k hlt
        obtain ⟨d0, d1, d2, d3, d4, d5, hI'⟩ := hc' k hlt
        have hlti : (k : Int) < (n : Int) := by omega
        have C0 := Lat.cell (B := wr.heap.size) c0 hlt2
        have C1 := Lat.cell (B := wr.heap.size) c1 hlt2
        have C2 := Lat.cell (B := wr.heap.size) c2 hlt2
        have C3 := Lat.cell (B := wr.heap.size) c3 hlt2
        have C4 := Lat.cell (B := wr.heap.size) c4 hlt2
        have C5 := Lat.cell (B := wr.heap.size) c5 hlt2
        have D0 := Lat.cell (B := wr.heap.size) d0 hlt2'
        have D1 := Lat.cell (B := wr.heap.size) d1 hlt2'
        have D2 := Lat.cell (B := wr.heap.size) d2 hlt2'
        have D3 := Lat.cell (B := wr.heap.size) d3 hlt2'
        have D4 := Lat.cell (B := wr.heap.size) d4 hlt2'
        have D5 := Lat.cell (B := wr.heap.size) d5 hlt2'
        have hcall : Hid (∀ n : Lat wr.heap.size wr, Calls Try.prog 56 #[itV (O k) (D k) (L k), itV (P k) (E k) (M k)] n.val fun e w'' => e = .returned (.bool (sameIt (O k) (P k) (D k) (E k))) ∧ ∃ m : Lat wr.heap.size wr, w'' = m.val) := fun n =>
          Calls.lat_of (eqItem_any (O k) (P k) (D k) (E k) (L k) (M k) n.val (hI.below (Nat.le_refl _) n.bel) (hI'.below (Nat.le_refl _) n.bel) (hf k hlt) (hf' k hlt)) (fun e w' h => ⟨h.2, h.1.mono n.bel.size⟩)
        clear hc hc' hSr hTr c0 c1 c2 c3 c4 c5 d0 d1 d2 d3 d4 d5 hI hI'
        have HBL : Hid (Below w.heap.size w wr) := hbel
        clear hbel
        go_wp2_with fail
        refine wp_region_lat (B := wr.heap.size) (w0 := wr) (by kernel_rfl) (by kernel_rfl) (Below.refl _ _) ?_
        repeat (go_big_quiet_step (exact hcall.out _))
        refine wpQuiet_nil ?_
        rintro _ ⟨nq, rfl⟩
        have hB : Hid (Below w.heap.size w nq.val) := HBL.out.trans (nq.bel.mono HBL.out.size)
        clear hcall C0 C1 C2 C3 C4 C5 D0 D1 D2 D3 D4 D5
        cases hq : sameIt (O k) (P k) (D k) (E k) with
        | false =>
          have HQ : Hid (sameIt (O k) (P k) (D k) (E k) = false) := hq
          clear hq
          go_wp2
          go_ret
          exact ⟨hB.out, ret_bool (by rw [← sameIts_not n k O P D E hlt HQ.out]; simp)⟩
        | true =>
          have HQ : Hid (sameIt (O k) (P k) (D k) (E k) = true) := hq
          clear hq
          go_wp2
          go_roundw
          case rel => exact ⟨k + 1, by omega, by go_num, hB.out, sameIts_succ k O P D E HE.out HQ.out⟩
          case measure => simp [intOf]; omega
      · have hkn : k = n := by omega
        have HK : Hid (k = n ∧ Below w.heap.size w wr) := ⟨hkn, hbel⟩
        clear hkn hbel
        go_wp2
        go_ret
        exact ⟨HK.out.2, ret_bool (by rw [← HK.out.1, HE.out]; simp)⟩
  · have hb : ((n : Int) != (m : Int)) = true := by simp; omega
    go_enter Try.func28, Try.ntmps28
    go_wp2
    go_ret
    exact ⟨Below.refl _ _, ret_bool (by simp [hne])⟩
end Go.Proofs.Yteoanlkmkmajjaa

/-
  What the helpers of the exact laws do at what is kept of a tree.
-/
namespace Go.Proofs.Yteoanlkmkmajjaa
open Go.RowKit
set_option linter.unusedVariables false
set_option linter.unusedSimpArgs false

set_option maxHeartbeats 1000000 in
theorem szDump_any (d : Dp) (l : DLoc) (left : Int) (w : World) (hI : DpIn w d l) (hf : d.Fits) (h0 : 0 ≤ left) (h1 : left ≤ 1048576) :
    Calls Try.prog 14 #[dpV d l, .int .i64 left] w fun e w' => Below w.heap.size w w' ∧ ∃ r : Int, e = .returned (.int .i64 r) ∧ r ≤ left ∧ (0 ≤ r → r + d.size ≤ left) := by
  unfold dpV Dp.size
  have hn := hf.ln
  go_enter Try.func14, Try.ntmps14
  go_wp2_with fail
  refine at_world (F := New1 w _ _) (new1 w _ _) ?_
  rintro W ⟨hp, hb, hs⟩
  refine (szBoolS_any l.lA d.ln l.lc left W hn h0 h1).mono ?_
  rintro e w1 ⟨rfl, r, rfl, hr1, hr2⟩
  by_cases hr3 : r < 0
  · have hr3' : decide (r < 0) = true := by simp; omega
    have HB : Hid (Below w.heap.size w W) := hb
    clear hb hp hr2
    go_wp2
    go_ret
    exact ⟨HB.out, -1, rfl, by omega, fun h => by omega⟩
  · have hr3' : decide (r < 0) = false := by simp; omega
    have p3 : W.cell? ⟨w.heap.size, 3, none⟩ = some (.slice l.iA d.m l.ic) := hp.cell 3
    have hr4 := hr2 (by omega)
    clear hr2 hp
    go_wp2_with fail
    refine (szItemS_any l.iA d.m l.ic d.ino d.nd l.L r W (hI.items.below (Nat.le_refl _) hb) hf.nds hf.m (by omega) (by omega)).mono ?_
    rintro e w2 ⟨hb2, r', rfl, hr1', hr2'⟩
    have HB : Hid (Below w.heap.size w w2 ∧ (0 ≤ r' → r' + d.m + sizeTo d.nd d.m ≤ r)) := ⟨hb.trans (hb2.mono (by omega)), hr2'⟩
    clear hb hb2 hr2' p3
    by_cases hr5 : r' < 0
    · have hr5' : decide (r' < 0) = true := by simp; omega
      go_wp2
      go_ret
      exact ⟨HB.out.1, -1, rfl, by omega, fun h => by omega⟩
    · have hr5' : decide (r' < 0) = false := by simp; omega
      go_wp2
      go_ret
      exact ⟨HB.out.1, r', rfl, by omega, fun h => by have := HB.out.2 h; omega⟩

theorem toBoolS_at (a : Option Addr) (n c : Nat) (Z : Nat → Bool) (w : World) (hS : IsBools w a n Z) (hn : n ≤ 1048576) :
    Calls Try.prog 39 #[.slice a n c] w fun e w' => ∃ b, e = .returned (.slice (some ⟨b, 0, none⟩) n n) ∧ w.heap.size ≤ b ∧ b < w'.heap.size ∧ Below w.heap.size w w' ∧ IsBools w' (some ⟨b, 0, none⟩) n Z :=
  (toBoolS_any a n c Z w hS hn).mono fun e w' ⟨he, hb, hr⟩ => ⟨_, he, Nat.le_refl _, hr.lt, hb, IsBools.row hr⟩

/-- What is known within toDump, the truth values being copied. -/
structure Dump2 (w : World) (d : Dp) (l : DLoc) (b : Nat) (W : World) : Prop where
  p : Blk W w.heap.size #[.int .i64 d.since, .int .i64 d.date, .slice l.lA d.ln l.lc, .slice l.iA d.m l.ic] 43
  r : Blk W (w.heap.size + 1) #[.int .i64 0, .int .i64 0, .slice none 0 0, .slice none 0 0] 29
  o : Blk W (w.heap.size + 1 + 1) #[.int .i64 d.since, .int .i64 d.date, .slice (some ⟨b, 0, none⟩) d.ln d.ln, .slice none 0 0] 29
  bel : Below w.heap.size w W
  size : w.heap.size + 3 ≤ W.heap.size
  le : w.heap.size + 3 ≤ b
  lt : b < W.heap.size
  live : IsBools W (some ⟨b, 0, none⟩) d.ln d.live

/-- What is known at toDump's end. -/
structure DumpEnd (w : World) (d : Dp) (b b' : Nat) (W : World) : Prop where
  r : Blk W (w.heap.size + 1) #[.int .i64 d.since, .int .i64 d.date, .slice (some ⟨b, 0, none⟩) d.ln d.ln, .slice (some ⟨b', 0, none⟩) d.m d.m] 29
  bel : Below w.heap.size w W
  live : IsBools W (some ⟨b, 0, none⟩) d.ln d.live
  items : ∃ L', ItRow W b' d.m d.m d.ino d.nd L'

set_option maxHeartbeats 1000000 in
theorem toDump_any (d : Dp) (l : DLoc) (w : World) (hI : DpIn w d l) (hsz : d.size ≤ 1048576) :
    Calls Try.prog 16 #[dpV d l] w fun e w' => ∃ l', e = .returned (dpV d l') ∧ Below w.heap.size w w' ∧ DpIn w' d l' := by
  unfold dpV
  have hln : d.ln ≤ 1048576 := by unfold Dp.size at hsz; omega
  have hm : d.m ≤ 1048576 := by unfold Dp.size at hsz; omega
  have HSM : Hid (∀ i, i < d.m → (d.nd i).nn ≤ 1048576 ∧ (d.nd i).kn ≤ 1048576) := small_of_size (by unfold Dp.size at hsz; omega)
  go_enter Try.func16, Try.ntmps16
  go_wp2_with fail
  refine at_world (F := New3 w _ _ _ _ _ _) (new3 w _ _ _ _ _ _) ?_
  rintro W ⟨hp, hr, ho, hb0, hs0⟩
  refine (toBoolS_at l.lA d.ln l.lc d.live _ (hI.live.below (Nat.le_refl _) hb0) hln).mono ?_
  rintro e w1 ⟨b, rfl, hge, hlt, hb1, hS1⟩
  have hp1 := hp.below hb1 (by omega)
  have hr1 := hr.below hb1 (by omega)
  have ho1 := ho.below hb1 (by omega)
  have hB1 := hb0.trans (hb1.mono (by omega))
  have o2 : w1.cell? ⟨w.heap.size + 1 + 1, 2, none⟩ = some (.slice none 0 0) := ho1.cell 2
  have f2 := ho1.frozen 2
  have p3 : w1.cell? ⟨w.heap.size, 3, none⟩ = some (.slice l.iA d.m l.ic) := hp1.cell 3
  have hsz1 := hb1.size
  have F2 : Hid (Dump2 w d l b _) := ⟨hp1.off (b' := w.heap.size + 1 + 1) (i := 2) (.slice (some ⟨b, 0, none⟩) d.ln d.ln) (by omega), hr1.off _ (by omega), ho1.set 2 _, bel_put hB1 _ (by omega), by simp; omega, by omega, by simp; omega, hS1.off _ (by omega)⟩
  clear hp hr ho hb0 hb1 hp1 hr1 ho1 hB1 hS1
  go_wp2_with fail
  refine at_world (F := Dump2 w d l b) F2.out ?_
  clear F2 hge hlt f2 o2 p3 hs0 hsz1
  rintro W ⟨hp, hr, ho, hb0, hs0, hlb, hbl, hS⟩
  refine (toItemS_any l.iA d.m l.ic d.ino d.nd l.L _ (hI.items.below (Nat.le_refl _) hb0) hm HSM.out).mono ?_
  rintro e w2 ⟨rfl, hb1, hrow⟩
  have hp1 := hp.below hb1 (by omega)
  have hr1 := hr.below hb1 (by omega)
  have ho1 := ho.below hb1 (by omega)
  have hB1 := hb0.trans (hb1.mono (by omega))
  have hS1 := hS.below (Nat.le_refl _) hb1
  have hsz := hb1.size
  have o0 : w2.cell? ⟨w.heap.size + 1 + 1, 0, none⟩ = some (.int .i64 d.since) := ho1.cell 0
  have o1 : w2.cell? ⟨w.heap.size + 1 + 1, 1, none⟩ = some (.int .i64 d.date) := ho1.cell 1
  have o2 : w2.cell? ⟨w.heap.size + 1 + 1, 2, none⟩ = some (.slice (some ⟨b, 0, none⟩) d.ln d.ln) := ho1.cell 2
  have o3 : w2.cell? ⟨w.heap.size + 1 + 1, 3, none⟩ = some (.slice none 0 0) := ho1.cell 3
  have f3 := ho1.frozen 3
  have r0 : w2.cell? ⟨w.heap.size + 1, 0, none⟩ = some (.int .i64 0) := hr1.cell 0
  have r1 : w2.cell? ⟨w.heap.size + 1, 1, none⟩ = some (.int .i64 0) := hr1.cell 1
  have r2 : w2.cell? ⟨w.heap.size + 1, 2, none⟩ = some (.slice none 0 0) := hr1.cell 2
  have r3 : w2.cell? ⟨w.heap.size + 1, 3, none⟩ = some (.slice none 0 0) := hr1.cell 3
  have g0 := hr1.frozen 0
  have g1 := hr1.frozen 1
  have g2 := hr1.frozen 2
  have g3 := hr1.frozen 3
  have FB : Hid (Blk w2 (w.heap.size + 1) _ _ ∧ Below w.heap.size w w2 ∧ IsBools w2 (some ⟨b, 0, none⟩) d.ln d.live ∧ ∃ L', ItRow w2 W.heap.size d.m d.m d.ino d.nd L') := ⟨hr1, hB1, hS1, hrow⟩
  have hs1 : w.heap.size + 3 ≤ W.heap.size := by omega
  have hbw : b < W.heap.size := hbl
  generalize W.heap.size = bW at *
  clear hp hr ho hb0 hb1 hp1 hr1 ho1 hB1 hS1 hrow hS hs0
  go_wp2_with fail
  obtain ⟨hr, hB, hS, L', hrow⟩ := FB.out
  refine end_world (F := DumpEnd w d b bW)
    ⟨((((hr.off _ (by omega)).set 0 _).set 1 _).set 2 _).set 3 _,
     bel_put (bel_put (bel_put (bel_put (bel_put hB _ (by omega)) _ (by omega)) _ (by omega)) _ (by omega)) _ (by omega),
     ((((hS.off _ (by omega)).off _ (by omega)).off _ (by omega)).off _ (by omega)).off _ (by omega),
     L', ((((hrow.off _ (by omega)).off _ (by omega)).off _ (by omega)).off _ (by omega)).off _ (by omega)⟩ ?_
  clear hr hB hS hrow FB o0 o1 o2 o3 f3 r0 r1 r2 r3 g0 g1 g2 g3
  rintro W ⟨hr, hB, hS, L2, hrow⟩
  have r0 : W.cell? ⟨w.heap.size + 1, 0, none⟩ = some (.int .i64 d.since) := hr.cell 0
  have r1 : W.cell? ⟨w.heap.size + 1, 1, none⟩ = some (.int .i64 d.date) := hr.cell 1
  have r2 : W.cell? ⟨w.heap.size + 1, 2, none⟩ = some (.slice (some ⟨b, 0, none⟩) d.ln d.ln) := hr.cell 2
  have r3 : W.cell? ⟨w.heap.size + 1, 3, none⟩ = some (.slice (some ⟨bW, 0, none⟩) d.m d.m) := hr.cell 3
  exact bodyPost_ret (v := .agg #[.int .i64 d.since, .int .i64 d.date, .slice (some ⟨b, 0, none⟩) d.ln d.ln, .slice (some ⟨bW, 0, none⟩) d.m d.m]) (by simp [results, Try.results16, go_sem, r0, r1, r2, r3]) rfl ⟨⟨some ⟨b, 0, none⟩, d.ln, some ⟨bW, 0, none⟩, d.m, L2⟩, rfl, hB, hS, hrow.its⟩

set_option maxHeartbeats 1000000 in
theorem eqDump_any (d e : Dp) (l k : DLoc) (w : World) (hI : DpIn w d l) (hI' : DpIn w e k) (hf : d.Fits) (hf' : e.Fits) :
    Calls Try.prog 9 #[dpV d l, dpV e k] w fun r w' => Below w.heap.size w w' ∧ r = .returned (.bool (d.same e)) := by
  unfold dpV
  have hl := hf.ln
  have hl' := hf'.ln
  cases h1 : (d.since == e.since) with
  | false =>
    have hnb : (d.since != e.since) = true := by simp only [bne, h1]; rfl
    have HX : Hid (false = d.same e) := by show _ = _; unfold Dp.same; rw [h1]; rfl
    clear h1
    go_enter Try.func9, Try.ntmps9
    go_wp2_with fail
    go_ret
    exact ⟨((Below.refl _ _).alloc (Nat.le_refl _) _).alloc (by simp) _, ret_bool HX.out⟩
  | true =>
  have hnb : (d.since != e.since) = false := by simpa [bne] using h1
  cases h2 : (d.date == e.date) with
  | false =>
    have hnc : (d.date != e.date) = true := by simp only [bne, h2]; rfl
    have HX : Hid (false = d.same e) := by show _ = _; unfold Dp.same; rw [h1, h2]; rfl
    clear h1 h2
    go_enter Try.func9, Try.ntmps9
    go_wp2_with fail
    go_ret
    exact ⟨((Below.refl _ _).alloc (Nat.le_refl _) _).alloc (by simp) _, ret_bool HX.out⟩
  | true =>
  have hnc : (d.date != e.date) = false := by simpa [bne] using h2
  have HX : Hid (((decide (d.ln = e.ln) && eqB d.ln d.live e.live) && (decide (d.m = e.m) && sameIts d.m d.ino e.ino d.nd e.nd)) = d.same e) := by show _ = _; unfold Dp.same; rw [h1, h2]; rfl
  clear h1 h2
  go_enter Try.func9, Try.ntmps9
  go_wp2_with fail
  refine at_world (F := New2 w _ _ _ _) (new2 w _ _ _ _) ?_
  rintro W ⟨hp, hp', hb, hs⟩
  refine (eqBoolS_any l.lA k.lA d.ln l.lc e.ln k.lc d.live e.live W (hI.live.below (Nat.le_refl _) hb) (hI'.live.below (Nat.le_refl _) hb) hl hl').mono ?_
  rintro r w1 ⟨⟨q, rfl⟩, rfl⟩
  have p3 : W.cell? ⟨w.heap.size, 3, none⟩ = some (.slice l.iA d.m l.ic) := hp.cell 3
  have q3 : W.cell? ⟨w.heap.size + 1, 3, none⟩ = some (.slice k.iA e.m k.ic) := hp'.cell 3
  have HB : Hid (Below w.heap.size w W) := hb
  clear hp hp' hb
  cases hq1 : (decide (d.ln = e.ln) && eqB d.ln d.live e.live) with
  | false =>
    have HQ : Hid ((decide (d.ln = e.ln) && eqB d.ln d.live e.live) = false) := hq1
    clear hq1
    go_wp2
    go_ret
    exact ⟨below_drewN HB.out _, ret_bool (by rw [← HX.out, HQ.out]; rfl)⟩
  | true =>
    have HQ : Hid ((decide (d.ln = e.ln) && eqB d.ln d.live e.live) = true) := hq1
    clear hq1
    go_wp2_with fail
    have hB2 := below_drewN HB.out q
    refine (eqItemS_any l.iA k.iA d.m l.ic e.m k.ic d.ino e.ino d.nd e.nd l.L k.L (W.drewN q) (hI.items.below (Nat.le_refl _) hB2) (hI'.items.below (Nat.le_refl _) hB2) hf.nds hf'.nds hf.m hf'.m).mono ?_
    rintro r w2 ⟨hb2, rfl⟩
    have HB2 : Hid (Below w.heap.size w w2) := hB2.trans (hb2.mono hB2.size)
    clear hb2 hB2 HB p3 q3
    cases hq1 : (decide (d.m = e.m) && sameIts d.m d.ino e.ino d.nd e.nd) with
    | false =>
      have HZ : Hid ((decide (d.m = e.m) && sameIts d.m d.ino e.ino d.nd e.nd) = false) := hq1
      clear hq1
      go_wp2
      go_ret
      exact ⟨HB2.out, ret_bool (by rw [← HX.out, HQ.out, HZ.out]; rfl)⟩
    | true =>
      have HZ : Hid ((decide (d.m = e.m) && sameIts d.m d.ino e.ino d.nd e.nd) = true) := hq1
      clear hq1
      go_wp2
      go_ret
      exact ⟨HB2.out, ret_bool (by rw [← HX.out, HQ.out, HZ.out]; rfl)⟩
end Go.Proofs.Yteoanlkmkmajjaa

/-
  What toDump answers: something kept in memory of its own.
-/
namespace Go.Proofs.Yteoanlkmkmajjaa
open Go.RowKit Go.Deep
set_option linter.unusedVariables false
set_option linter.unusedSimpArgs false

theorem own_off {W : World} {B : Nat} {e : TypeId} {size n : Nat} {xs : List Value} {v : Value} (h : W.ownsRow B e size v n xs) {V i : Nat} {u : Value} (hV : V < B) : (W.setCell ⟨V, i, none⟩ u).ownsRow B e size v n xs :=
  owns_same h fun b hb => blk_setCell_other _ _ _ _ (show b ≠ V by have := (owns_block h hb).1; omega)

theorem OD.ext2 {W : World} {B k n : Nat} {Z : Nat → Bool} {O O' : Nat → Int} {D D' : Nat → Nd} {L L' : Nat → Loc} {lv iv : Value} (h : OD W B k Z n O D L lv iv) (he : ∀ i, i < n → O' i = O i ∧ D' i = D i ∧ L' i = L i) : OD W B k Z n O' D' L' lv iv := by
  have hr : ∀ d, d < 2 + 2 * n → rowD k Z n O' D' L' d = rowD k Z n O D L d := fun d hd => by
    unfold rowD
    by_cases e0 : d = 0
    · rw [if_pos e0, if_pos e0]
    · by_cases e1 : d = 1
      · rw [if_neg e0, if_pos e1, if_neg e0, if_pos e1, rowsI_ext n he]
      · rw [if_neg e0, if_neg e1, if_neg e0, if_neg e1, (he ((d - 2) / 2) (by omega)).2.1]
  have hv : ∀ d, d < 2 + 2 * n → valD lv iv D' L' d = valD lv iv D L d := fun d hd => by
    unfold valD
    by_cases e0 : d = 0
    · rw [if_pos e0, if_pos e0]
    · by_cases e1 : d = 1
      · rw [if_neg e0, if_pos e1, if_neg e0, if_pos e1]
      · rw [if_neg e0, if_neg e1, if_neg e0, if_neg e1, (he ((d - 2) / 2) (by omega)).2.1, (he ((d - 2) / 2) (by omega)).2.2]
  exact ⟨⟨fun d hd => by rw [hr d hd, hv d hd]; exact h.rows.own d hd, fun d1 d2 g1 g2 hne b e1 e2 => by rw [hv d1 g1] at e1; rw [hv d2 g2] at e2; exact h.rows.apart d1 d2 g1 g2 hne b e1 e2⟩⟩

/-- The truth values come to it: their list lies below. -/
theorem OD.withLive {W : World} {B B' k : Nat} {Z : Nat → Bool} {n : Nat} {O : Nat → Int} {D : Nat → Nd} {L : Nat → Loc} {lv iv : Value} (h : OD W B 0 (fun _ => false) n O D L (.slice none 0 0) iv) (hown : W.ownsRow B' 4 1 lv k (boolv k Z)) (hB : B' ≤ B) (hl : ∀ b, lv.ownBlock = some b → b < B) : OD W B' k Z n O D L lv iv := by
  have key : ∀ d, d < 2 + 2 * n → d ≠ 0 → ∀ b, (valD (.slice none 0 0) iv D L d).ownBlock = some b → B ≤ b := fun d hd _ b hb => (owns_block (h.rows.own d hd) hb).1
  refine ⟨⟨fun d hd => ?_, fun d1 d2 g1 g2 hne b e1 e2 => ?_⟩⟩
  · by_cases e : d = 0
    · subst e; simpa [rowD, valD] using hown
    · rw [rowD_rest (k := 0) (Z := fun _ => false) e, valD_rest (lv := .slice none 0 0) e]
      exact owns_lower (h.rows.own d hd) hB
  · by_cases h1 : d1 = 0
    · have h2 : d2 ≠ 0 := fun e => hne (h1.trans e.symm)
      subst h1
      rw [valD_rest (lv := .slice none 0 0) h2] at e2
      have e1' : lv.ownBlock = some b := by simpa [valD] using e1
      have := key d2 g2 h2 b e2
      have := hl b e1'
      omega
    · by_cases h2 : d2 = 0
      · subst h2
        rw [valD_rest (lv := .slice none 0 0) h1] at e1
        have e2' : lv.ownBlock = some b := by simpa [valD] using e2
        have := key d1 g1 h1 b e1
        have := hl b e2'
        omega
      · rw [valD_rest (lv := .slice none 0 0) h1] at e1
        rw [valD_rest (lv := .slice none 0 0) h2] at e2
        exact h.rows.apart d1 d2 g1 g2 hne b e1 e2

theorem row_ownB {W : World} {B b n : Nat} {Z : Nat → Bool} (h : W.rowIs b 4 n (fun i => .bool (Z i))) (hB : B ≤ b) (hn : n ≤ maxLen) : W.ownsRow B 4 1 (.slice (some ⟨b, 0, none⟩) n n) n (boolv n Z) := row_own h hB hn

/-- What is known at toItem's end. -/
structure ItemEndo (w : World) (o : Int) (d : Nd) (l : Loc) (W : World) : Prop where
  r : Blk W (w.heap.size + 1) #[.int .i64 o, .int .i64 d.kind, .string d.text, .slice l.nA d.nn l.nc, .slice l.kA d.kn l.kc, .int .i64 d.turn] 56
  bel : Below w.heap.size w W
  names : W.ownsRow (w.heap.size + 3) 9 1 (.slice l.nA d.nn l.nc) d.nn (strv (lst d.nn d.names))
  kids : W.ownsRow (w.heap.size + 3) 3 1 (.slice l.kA d.kn l.kc) d.kn (intv0 d.kn d.kids)

set_option maxHeartbeats 1000000 in
theorem toItem_new (o : Int) (d : Nd) (l : Loc) (w : World) (hI : NdIn w d l) (hn : d.nn ≤ 1048576) (hk : d.kn ≤ 1048576) :
    Calls Try.prog 65 #[itV o d l] w fun e w' => ∃ l', e = .returned (itV o d l') ∧ NewNn w d l' w' := by
  unfold itV
  go_enter Try.func65, Try.ntmps65
  go_wp2_with fail
  refine at_world (F := New3 w _ _ _ _ _ _) (new3 w _ _ _ _ _ _) ?_
  rintro W ⟨hp, hr, ho, hb0, hs0⟩
  refine (toNode_new d l W (hI.below (Nat.le_refl _) hb0) hn hk).mono ?_
  rintro e w1 ⟨l', rfl, hN1⟩
  have hb1 := hN1.bel
  have HAP : Hid (∀ b, (Value.slice l'.nA d.nn l'.nc).ownBlock = some b → (Value.slice l'.kA d.kn l'.kc).ownBlock ≠ some b) := hN1.apart
  unfold ndV
  have hr1 := hr.below hb1 (by omega)
  have ho1 := ho.below hb1 (by omega)
  have hB1 := hb0.trans (hb1.mono (by omega))
  have hsz := hb1.size
  have o0 : w1.cell? ⟨w.heap.size + 1 + 1, 0, none⟩ = some (.int .i64 o) := ho1.cell 0
  have o1 : w1.cell? ⟨w.heap.size + 1 + 1, 1, none⟩ = some (.int .i64 0) := ho1.cell 1
  have o2 : w1.cell? ⟨w.heap.size + 1 + 1, 2, none⟩ = some (.string ByteArray.empty) := ho1.cell 2
  have o3 : w1.cell? ⟨w.heap.size + 1 + 1, 3, none⟩ = some (.slice none 0 0) := ho1.cell 3
  have o4 : w1.cell? ⟨w.heap.size + 1 + 1, 4, none⟩ = some (.slice none 0 0) := ho1.cell 4
  have o5 : w1.cell? ⟨w.heap.size + 1 + 1, 5, none⟩ = some (.int .i64 0) := ho1.cell 5
  have f0 := ho1.frozen 0
  have f1 := ho1.frozen 1
  have f2 := ho1.frozen 2
  have f3 := ho1.frozen 3
  have f4 := ho1.frozen 4
  have f5 := ho1.frozen 5
  have r0 : w1.cell? ⟨w.heap.size + 1, 0, none⟩ = some (.int .i64 0) := hr1.cell 0
  have r1 : w1.cell? ⟨w.heap.size + 1, 1, none⟩ = some (.int .i64 0) := hr1.cell 1
  have r2 : w1.cell? ⟨w.heap.size + 1, 2, none⟩ = some (.string ByteArray.empty) := hr1.cell 2
  have r3 : w1.cell? ⟨w.heap.size + 1, 3, none⟩ = some (.slice none 0 0) := hr1.cell 3
  have r4 : w1.cell? ⟨w.heap.size + 1, 4, none⟩ = some (.slice none 0 0) := hr1.cell 4
  have r5 : w1.cell? ⟨w.heap.size + 1, 5, none⟩ = some (.int .i64 0) := hr1.cell 5
  have g0 := hr1.frozen 0
  have g1 := hr1.frozen 1
  have g2 := hr1.frozen 2
  have g3 := hr1.frozen 3
  have g4 := hr1.frozen 4
  have g5 := hr1.frozen 5
  have FB : Hid (Blk w1 (w.heap.size + 1) _ _ ∧ Below w.heap.size w w1 ∧ w1.ownsRow (w.heap.size + 3) 9 1 (.slice l'.nA d.nn l'.nc) d.nn (strv (lst d.nn d.names)) ∧ w1.ownsRow (w.heap.size + 3) 3 1 (.slice l'.kA d.kn l'.kc) d.kn (intv0 d.kn d.kids)) := ⟨hr1, hB1, owns_lower hN1.names (by omega), owns_lower hN1.kids (by omega)⟩
  clear hp hr ho hb0 hb1 hr1 ho1 hB1 hN1 hs0 hsz
  go_wp2_with fail
  obtain ⟨hr, hB, hN, hP⟩ := FB.out
  refine end_world (F := ItemEndo w o d l')
    ⟨(((((((((((hr.off _ (by omega)).off _ (by omega)).off _ (by omega)).off _ (by omega)).off _ (by omega)).set 0 _).set 1 _).set 2 _).set 3 _).set 4 _).set 5 _),
     bel_put (bel_put (bel_put (bel_put (bel_put (bel_put (bel_put (bel_put (bel_put (bel_put (bel_put hB _ (by omega)) _ (by omega)) _ (by omega)) _ (by omega)) _ (by omega)) _ (by omega)) _ (by omega)) _ (by omega)) _ (by omega)) _ (by omega)) _ (by omega),
     (own_off (own_off (own_off (own_off (own_off (own_off (own_off (own_off (own_off (own_off (own_off hN (by omega)) (by omega)) (by omega)) (by omega)) (by omega)) (by omega)) (by omega)) (by omega)) (by omega)) (by omega)) (by omega)), (own_off (own_off (own_off (own_off (own_off (own_off (own_off (own_off (own_off (own_off (own_off hP (by omega)) (by omega)) (by omega)) (by omega)) (by omega)) (by omega)) (by omega)) (by omega)) (by omega)) (by omega)) (by omega))⟩ ?_
  clear hr hB hN FB o0 o1 o2 o3 o4 o5 f0 f1 f2 f3 f4 f5 r0 r1 r2 r3 r4 r5 g0 g1 g2 g3 g4 g5
  rintro W ⟨hr, hB, hN, hP⟩
  have r0 : W.cell? ⟨w.heap.size + 1, 0, none⟩ = some (.int .i64 o) := hr.cell 0
  have r1 : W.cell? ⟨w.heap.size + 1, 1, none⟩ = some (.int .i64 d.kind) := hr.cell 1
  have r2 : W.cell? ⟨w.heap.size + 1, 2, none⟩ = some (.string d.text) := hr.cell 2
  have r3 : W.cell? ⟨w.heap.size + 1, 3, none⟩ = some (.slice l'.nA d.nn l'.nc) := hr.cell 3
  have r4 : W.cell? ⟨w.heap.size + 1, 4, none⟩ = some (.slice l'.kA d.kn l'.kc) := hr.cell 4
  have r5 : W.cell? ⟨w.heap.size + 1, 5, none⟩ = some (.int .i64 d.turn) := hr.cell 5
  exact bodyPost_ret (v := .agg #[.int .i64 o, .int .i64 d.kind, .string d.text, .slice l'.nA d.nn l'.nc, .slice l'.kA d.kn l'.kc, .int .i64 d.turn]) (by simp [results, Try.results65, go_sem, r0, r1, r2, r3, r4, r5]) rfl ⟨l', rfl, hB, owns_lower hN (by omega), owns_lower hP (by omega), HAP.out⟩

/-- A place more is laid behind the first ones, within the row's room. -/
theorem owns_fill6 {W : World} {B : Nat} {e : TypeId} {g k cap : Nat} {xs : List Value} {v0 v1 v2 v3 v4 v5 : Value} (h : W.ownsRow B e 6 (.slice (some ⟨g, 0, none⟩) k cap) k xs) (hk : k < cap) :
    ((((((W.setCell ⟨g, k * 6, none⟩ v0).setCell ⟨g, k * 6 + 1, none⟩ v1).setCell ⟨g, k * 6 + 2, none⟩ v2).setCell ⟨g, k * 6 + 3, none⟩ v3).setCell ⟨g, k * 6 + 4, none⟩ v4).setCell ⟨g, k * 6 + 5, none⟩ v5).ownsRow B e 6 (.slice (some ⟨g, 0, none⟩) (k + 1) cap) (k + 1) (xs ++ [v0, v1, v2, v3, v4, v5]) := by
  obtain ⟨hl, h0 | ⟨g', cap', cur, hv, hB, hg, hc, hm, hs, ht⟩⟩ := h
  · simp at h0
  simp at hv
  obtain ⟨rfl, rfl⟩ := hv
  have hb : Blk W g cur e := hg
  have hb' := (((((hb.set (k * 6) v0).set (k * 6 + 1) v1).set (k * 6 + 2) v2).set (k * 6 + 3) v3).set (k * 6 + 4) v4).set (k * 6 + 5) v5
  refine ⟨by simp [hl]; omega, Or.inr ⟨g, cap, _, rfl, hB, hb', by omega, hm, by simp [hs], ?_⟩⟩
  apply List.ext_getElem?
  intro i
  rw [List.getElem?_take]
  by_cases hi : i < (k + 1) * 6
  · rw [if_pos hi, Array.getElem?_toList]
    simp only [Array.getElem?_setIfInBounds]
    by_cases h1 : i < k * 6
    · rw [List.getElem?_append_left (by omega)]
      have : xs[i]? = cur[i]? := by rw [← ht, List.getElem?_take, if_pos h1, Array.getElem?_toList]
      rw [this]
      simp only [show ¬ k * 6 + 5 = i by omega, show ¬ k * 6 + 4 = i by omega, show ¬ k * 6 + 3 = i by omega, show ¬ k * 6 + 2 = i by omega, show ¬ k * 6 + 1 = i by omega, show ¬ k * 6 = i by omega, if_false]
    · rw [List.getElem?_append_right (by omega), hl]
      obtain ⟨r, rfl⟩ : ∃ r, i = k * 6 + r := ⟨i - k * 6, by omega⟩
      have hr : r < 6 := by omega
      have hsz : ∀ q, q < 6 → k * 6 + q < cur.size := fun q hq => by omega
      rw [show k * 6 + r - k * 6 = r by omega]
      have hr5 : r = 0 ∨ r = 1 ∨ r = 2 ∨ r = 3 ∨ r = 4 ∨ r = 5 := by omega
      rcases hr5 with rfl | rfl | rfl | rfl | rfl | rfl <;> simp [hsz 0 (by omega), hsz 1 (by omega), hsz 2 (by omega), hsz 3 (by omega), hsz 4 (by omega), hsz 5 (by omega)] <;> (try (have := hsz 0 (by omega); omega))
  · rw [if_neg hi, List.getElem?_eq_none (by simp [hl]; omega)]

theorem OD.fill6 {W W1 : World} {B k : Nat} {O : Nat → Int} {D : Nat → Nd} {L : Nat → Loc} {g cap : Nat} {o : Int} {x : Nd} {l : Loc} (h : OD W B 0 (fun _ => false) k O D L (.slice none 0 0) (.slice (some ⟨g, 0, none⟩) k cap)) (hN : NewNn W x l W1) (hB : B ≤ W.heap.size) (hk : k < cap) :
    OD ((((((W1.setCell ⟨g, k * 6, none⟩ (.int .i64 o)).setCell ⟨g, k * 6 + 1, none⟩ (.int .i64 x.kind)).setCell ⟨g, k * 6 + 2, none⟩ (.string x.text)).setCell ⟨g, k * 6 + 3, none⟩ (.slice l.nA x.nn l.nc)).setCell ⟨g, k * 6 + 4, none⟩ (.slice l.kA x.kn l.kc)).setCell ⟨g, k * 6 + 5, none⟩ (.int .i64 x.turn)) B 0 (fun _ => false) (k + 1) (fun i => if i = k then o else O i) (fun i => if i = k then x else D i) (fun i => if i = k then l else L i) (.slice none 0 0) (.slice (some ⟨g, 0, none⟩) (k + 1) cap) := by
  refine h.item (o := o) hN hB ?_ ?_ (fun b e => Or.inl e)
  · have hst : ∀ (i : Nat) (v : Value) (U : World), U.grownBy (U.setCell ⟨g, i, none⟩ v) (some g) := fun i v U => ⟨rfl, rfl, rfl, by simp, fun b _ hb => blk_setCell_other _ _ _ _ (show b ≠ g from fun e => hb (by rw [e]))⟩
    have tr : ∀ {A C E : World}, A.grownBy C (some g) → C.grownBy E (some g) → A.grownBy E (some g) := fun {A C E} h1 h2 => ⟨h2.os.trans h1.os, h2.tape.trans h1.tape, h2.output.trans h1.output, Nat.le_trans h1.size h2.size, fun b hb hne => (h2.block b (Nat.lt_of_lt_of_le hb h1.size) hne).trans (h1.block b hb hne)⟩
    exact tr (tr (tr (tr (tr (hst _ _ _) (hst _ _ _)) (hst _ _ _)) (hst _ _ _)) (hst _ _ _)) (hst _ _ _)
  · exact owns_fill6 (owns_same h.ownI (fun b hb => hN.bel.block b (owns_block h.ownI hb).2)) hk

set_option maxHeartbeats 1000000 in
theorem toItemS_own (a : Option Addr) (n c : Nat) (O : Nat → Int) (D : Nat → Nd) (L : Nat → Loc) (w : World) (hS : IsIts w a n O D L) (hn : n ≤ 1048576) (hsm : ∀ i, i < n → (D i).nn ≤ 1048576 ∧ (D i).kn ≤ 1048576) :
    Calls Try.prog 40 #[.slice a n c] w fun e w' => e = .returned (.slice (some ⟨w.heap.size, 0, none⟩) n n) ∧ Below w.heap.size w w' ∧ ∃ L', OD w' w.heap.size 0 (fun _ => false) n O D L' (.slice none 0 0) (.slice (some ⟨w.heap.size, 0, none⟩) n n) := by
  have hmk := fun w => run_make_wide (P := Try.prog) 27 56 _ 88 6 Try.underlying27 infoItem .i64 .i64 n (by omega) (by omega) w
  go_enter Try.func40, Try.ntmps40
  go_wp2
  go_loopw [4] (fun i wr => ∃ (k : Nat) (L' : Nat → Loc), k ≤ n ∧ i = .int .i64 k ∧ Below w.heap.size w wr ∧ OD wr w.heap.size 0 (fun _ => false) k O D L' (.slice none 0 0) (.slice (some ⟨w.heap.size, 0, none⟩) k n) ∧ ∃ g, wr.rowIs w.heap.size 56 (n * 6) g) (fun i _ => n - (intOf i).toNat)
  case atStart =>
    obtain ⟨g, hg⟩ := rowIs_wide w #[.int .i64 0, .int .i64 0, .string ByteArray.empty, .slice none 0 0, .slice none 0 0, .int .i64 0] (n * 6) 56
    refine ⟨0, L, Nat.zero_le _, rfl, (Below.refl _ _).alloc (Nat.le_refl _) _, ?_, g, hg⟩
    obtain ⟨cur, h1, h2, _⟩ := hg
    refine ⟨⟨fun d hd => ?_, fun d1 d2 g1 g2 hne b e1 e2 => ?_⟩⟩
    · have hd' : d = 0 ∨ d = 1 := by omega
      rcases hd' with rfl | rfl
      · exact World.ownsRow_nil _ _ _ _
      · exact ⟨by simp [rowD, rowsI], Or.inr ⟨w.heap.size, n, cur, rfl, Nat.le_refl _, h1, by simp [rowD], by unfold maxLen; omega, by simpa [rowD] using h2, by simp [rowD, rowsI]⟩⟩
    · have hd1 : d1 = 0 ∨ d1 = 1 := by omega
      have hd2 : d2 = 0 ∨ d2 = 1 := by omega
      rcases hd1 with rfl | rfl
      · simp [valD, Value.ownBlock] at e1
      · rcases hd2 with rfl | rfl
        · simp [valD, Value.ownBlock] at e2
        · exact hne rfl
  case round =>
    obtain ⟨k, L', hk, rfl, hb, hot, g, hrow⟩ := hrel
    by_cases hlt : k < n
    · obtain ⟨b, off, rfl, hlt2, hc⟩ := (hS.below (Nat.le_refl _) hb).at hlt
      obtain ⟨c0, c1, c2, c3, c4, c5, hI⟩ := hc k hlt
      clear hc
      go_wp2_with fail
      refine (toItem_new (O k) (D k) (L k) wr hI (hsm k hlt).1 (hsm k hlt).2).mono ?_
      rintro e w1 ⟨l', rfl, hN⟩
      unfold itV
      have hB := hb.trans (hN.bel.mono hb.size)
      have hrow1 := row_below hrow hN.bel
      have HR : Hid (OD wr w.heap.size 0 (fun _ => false) k O D L' (.slice none 0 0) (.slice (some ⟨w.heap.size, 0, none⟩) k n) ∧ NewNn wr (D k) l' w1 ∧ Below w.heap.size w w1 ∧ w.heap.size ≤ wr.heap.size ∧ w1.rowIs w.heap.size 56 (n * 6) g) := ⟨hot, hN, hB, hb.size, hrow1⟩
      have d0 := hrow1.cell (show k * 6 < n * 6 by omega)
      have d1 := hrow1.cell (show k * 6 + 1 < n * 6 by omega)
      have d2 := hrow1.cell (show k * 6 + 2 < n * 6 by omega)
      have d3 := hrow1.cell (show k * 6 + 3 < n * 6 by omega)
      have d4 := hrow1.cell (show k * 6 + 4 < n * 6 by omega)
      have d5 := hrow1.cell (show k * 6 + 5 < n * 6 by omega)
      have e5 := hrow1.frozen (k * 6 + 5)
      have e0 := hrow1.frozen (k * 6)
      have e1 := hrow1.frozen (k * 6 + 1)
      have e2 := hrow1.frozen (k * 6 + 2)
      have e3 := hrow1.frozen (k * 6 + 3)
      have e4 := hrow1.frozen (k * 6 + 4)
      clear hb hot hrow hB hrow1 hN hI c0 c1 c2 c3 c4 c5
      go_wp2
      go_roundw
      case rel => exact ⟨k + 1, fun i => if i = k then l' else L' i, by omega, by go_num, bel_put (bel_put (bel_put (bel_put (bel_put (bel_put HR.out.2.2.1 _ (Nat.le_refl _)) _ (Nat.le_refl _)) _ (Nat.le_refl _)) _ (Nat.le_refl _)) _ (Nat.le_refl _)) _ (Nat.le_refl _), (HR.out.1.fill6 (o := O k) HR.out.2.1 HR.out.2.2.2.1 hlt).ext2 (fun i hi => by by_cases e : i = k <;> simp [e]), _, (((((HR.out.2.2.2.2.set _ _).set _ _).set _ _).set _ _).set _ _).set _ _⟩
      case measure => simp [intOf]; omega
    · have hkn : k = n := by omega
      subst hkn
      have HR : Hid (Below w.heap.size w wr ∧ ∃ L', OD wr w.heap.size 0 (fun _ => false) k O D L' (.slice none 0 0) (.slice (some ⟨w.heap.size, 0, none⟩) k k)) := ⟨hb, L', hot⟩
      clear hb hrow hot
      go_wp2
      go_ret
      exact ⟨rfl, HR.out.1, HR.out.2⟩

theorem toBoolS_row (a : Option Addr) (n c : Nat) (Z : Nat → Bool) (w : World) (hS : IsBools w a n Z) (hn : n ≤ 1048576) :
    Calls Try.prog 39 #[.slice a n c] w fun e w' => ∃ b, e = .returned (.slice (some ⟨b, 0, none⟩) n n) ∧ w.heap.size ≤ b ∧ b < w'.heap.size ∧ Below w.heap.size w w' ∧ w'.rowIs b 4 n (fun i => .bool (Z i)) :=
  (toBoolS_any a n c Z w hS hn).mono fun e w' ⟨he, hb, hr⟩ => ⟨_, he, Nat.le_refl _, hr.lt, hb, hr⟩

/-- What is known within toDump, the truth values being copied. -/
structure Dump2o (w : World) (d : Dp) (l : DLoc) (b : Nat) (W : World) : Prop where
  p : Blk W w.heap.size #[.int .i64 d.since, .int .i64 d.date, .slice l.lA d.ln l.lc, .slice l.iA d.m l.ic] 43
  r : Blk W (w.heap.size + 1) #[.int .i64 0, .int .i64 0, .slice none 0 0, .slice none 0 0] 29
  o : Blk W (w.heap.size + 1 + 1) #[.int .i64 d.since, .int .i64 d.date, .slice (some ⟨b, 0, none⟩) d.ln d.ln, .slice none 0 0] 29
  bel : Below w.heap.size w W
  size : w.heap.size + 3 ≤ W.heap.size
  le : w.heap.size + 3 ≤ b
  lt : b < W.heap.size
  live : W.rowIs b 4 d.ln (fun i => .bool (d.live i))

/-- What is known at toDump's end. -/
structure DumpEndo (w : World) (d : Dp) (b b' : Nat) (W : World) : Prop where
  r : Blk W (w.heap.size + 1) #[.int .i64 d.since, .int .i64 d.date, .slice (some ⟨b, 0, none⟩) d.ln d.ln, .slice (some ⟨b', 0, none⟩) d.m d.m] 29
  bel : Below w.heap.size w W
  live : W.rowIs b 4 d.ln (fun i => .bool (d.live i))
  items : ∃ L', OD W b' 0 (fun _ => false) d.m d.ino d.nd L' (.slice none 0 0) (.slice (some ⟨b', 0, none⟩) d.m d.m)

set_option maxHeartbeats 1000000 in
theorem toDump_own (d : Dp) (l : DLoc) (w : World) (hI : DpIn w d l) (hsz : d.size ≤ 1048576) :
    Calls Try.prog 16 #[dpV d l] w fun e w' => ∃ l', e = .returned (dpV d l') ∧ Below w.heap.size w w' ∧ OwnDp w' w.heap.size d l' := by
  unfold dpV
  have hln : d.ln ≤ 1048576 := by unfold Dp.size at hsz; omega
  have hm : d.m ≤ 1048576 := by unfold Dp.size at hsz; omega
  have HSM : Hid (∀ i, i < d.m → (d.nd i).nn ≤ 1048576 ∧ (d.nd i).kn ≤ 1048576) := small_of_size (by unfold Dp.size at hsz; omega)
  go_enter Try.func16, Try.ntmps16
  go_wp2_with fail
  refine at_world (F := New3 w _ _ _ _ _ _) (new3 w _ _ _ _ _ _) ?_
  rintro W ⟨hp, hr, ho, hb0, hs0⟩
  refine (toBoolS_row l.lA d.ln l.lc d.live _ (hI.live.below (Nat.le_refl _) hb0) hln).mono ?_
  rintro e w1 ⟨b, rfl, hge, hlt, hb1, hS1⟩
  have hp1 := hp.below hb1 (by omega)
  have hr1 := hr.below hb1 (by omega)
  have ho1 := ho.below hb1 (by omega)
  have hB1 := hb0.trans (hb1.mono (by omega))
  have o2 : w1.cell? ⟨w.heap.size + 1 + 1, 2, none⟩ = some (.slice none 0 0) := ho1.cell 2
  have f2 := ho1.frozen 2
  have p3 : w1.cell? ⟨w.heap.size, 3, none⟩ = some (.slice l.iA d.m l.ic) := hp1.cell 3
  have hsz1 := hb1.size
  have F2 : Hid (Dump2o w d l b _) := ⟨hp1.off (b' := w.heap.size + 1 + 1) (i := 2) (.slice (some ⟨b, 0, none⟩) d.ln d.ln) (by omega), hr1.off _ (by omega), ho1.set 2 _, bel_put hB1 _ (by omega), by simp; omega, by omega, by simp; omega, row_off hS1 _ (by omega)⟩
  clear hp hr ho hb0 hb1 hp1 hr1 ho1 hB1 hS1
  go_wp2_with fail
  refine at_world (F := Dump2o w d l b) F2.out ?_
  clear F2 hge hlt f2 o2 p3 hs0 hsz1
  rintro W ⟨hp, hr, ho, hb0, hs0, hlb, hbl, hS⟩
  refine (toItemS_own l.iA d.m l.ic d.ino d.nd l.L _ (hI.items.below (Nat.le_refl _) hb0) hm HSM.out).mono ?_
  rintro e w2 ⟨rfl, hb1, hrow⟩
  have hp1 := hp.below hb1 (by omega)
  have hr1 := hr.below hb1 (by omega)
  have ho1 := ho.below hb1 (by omega)
  have hB1 := hb0.trans (hb1.mono (by omega))
  have hS1 := row_below hS hb1
  have hsz := hb1.size
  have o0 : w2.cell? ⟨w.heap.size + 1 + 1, 0, none⟩ = some (.int .i64 d.since) := ho1.cell 0
  have o1 : w2.cell? ⟨w.heap.size + 1 + 1, 1, none⟩ = some (.int .i64 d.date) := ho1.cell 1
  have o2 : w2.cell? ⟨w.heap.size + 1 + 1, 2, none⟩ = some (.slice (some ⟨b, 0, none⟩) d.ln d.ln) := ho1.cell 2
  have o3 : w2.cell? ⟨w.heap.size + 1 + 1, 3, none⟩ = some (.slice none 0 0) := ho1.cell 3
  have f3 := ho1.frozen 3
  have r0 : w2.cell? ⟨w.heap.size + 1, 0, none⟩ = some (.int .i64 0) := hr1.cell 0
  have r1 : w2.cell? ⟨w.heap.size + 1, 1, none⟩ = some (.int .i64 0) := hr1.cell 1
  have r2 : w2.cell? ⟨w.heap.size + 1, 2, none⟩ = some (.slice none 0 0) := hr1.cell 2
  have r3 : w2.cell? ⟨w.heap.size + 1, 3, none⟩ = some (.slice none 0 0) := hr1.cell 3
  have g0 := hr1.frozen 0
  have g1 := hr1.frozen 1
  have g2 := hr1.frozen 2
  have g3 := hr1.frozen 3
  have FB : Hid (Blk w2 (w.heap.size + 1) _ _ ∧ Below w.heap.size w w2 ∧ w2.rowIs b 4 d.ln (fun i => .bool (d.live i)) ∧ ∃ L', OD w2 W.heap.size 0 (fun _ => false) d.m d.ino d.nd L' (.slice none 0 0) (.slice (some ⟨W.heap.size, 0, none⟩) d.m d.m)) := ⟨hr1, hB1, hS1, hrow⟩
  have hs1 : w.heap.size + 3 ≤ W.heap.size := by omega
  have hbw : b < W.heap.size := hbl
  generalize W.heap.size = bW at *
  clear hp hr ho hb0 hb1 hp1 hr1 ho1 hB1 hS1 hrow hS hs0
  go_wp2_with fail
  obtain ⟨hr, hB, hS, L', hrow⟩ := FB.out
  refine end_world (F := DumpEndo w d b bW)
    ⟨((((hr.off _ (by omega)).set 0 _).set 1 _).set 2 _).set 3 _,
     bel_put (bel_put (bel_put (bel_put (bel_put hB _ (by omega)) _ (by omega)) _ (by omega)) _ (by omega)) _ (by omega),
     (row_off (row_off (row_off (row_off (row_off hS _ (by omega)) _ (by omega)) _ (by omega)) _ (by omega)) _ (by omega)),
     L', ((((hrow.off _ (by omega)).off _ (by omega)).off _ (by omega)).off _ (by omega)).off _ (by omega)⟩ ?_
  clear hr hB hS hrow FB o0 o1 o2 o3 f3 r0 r1 r2 r3 g0 g1 g2 g3
  rintro W ⟨hr, hB, hS, L2, hrow⟩
  have r0 : W.cell? ⟨w.heap.size + 1, 0, none⟩ = some (.int .i64 d.since) := hr.cell 0
  have r1 : W.cell? ⟨w.heap.size + 1, 1, none⟩ = some (.int .i64 d.date) := hr.cell 1
  have r2 : W.cell? ⟨w.heap.size + 1, 2, none⟩ = some (.slice (some ⟨b, 0, none⟩) d.ln d.ln) := hr.cell 2
  have r3 : W.cell? ⟨w.heap.size + 1, 3, none⟩ = some (.slice (some ⟨bW, 0, none⟩) d.m d.m) := hr.cell 3
  exact bodyPost_ret (v := .agg #[.int .i64 d.since, .int .i64 d.date, .slice (some ⟨b, 0, none⟩) d.ln d.ln, .slice (some ⟨bW, 0, none⟩) d.m d.m]) (by simp [results, Try.results16, go_sem, r0, r1, r2, r3]) rfl ⟨⟨some ⟨b, 0, none⟩, d.ln, some ⟨bW, 0, none⟩, d.m, L2⟩, rfl, hB, OD.withLive hrow (row_ownB hS (by omega) (by unfold maxLen; omega)) (by omega) (fun x e => by simp [Value.ownBlock] at e; omega)⟩

end Go.Proofs.Yteoanlkmkmajjaa

/-
  The bits of a tree, and the list that is told of them.
-/
namespace Go.Proofs.Yteoanlkmkmajjaa
open Go.RowKit
set_option linter.unusedVariables false
set_option linter.unusedSimpArgs false

/-- What is known within bitsOfTree. -/
structure T1In (w : World) (a : Option Addr) (n c : Nat) (now : Int) (W : World) : Prop where
  p : Blk W w.heap.size #[.slice a n c, .int .i64 now] 34
  bel : Below w.heap.size w W

theorem T1In.below {w : World} {a : Option Addr} {n c : Nat} {now : Int} {W W' : World} (h : T1In w a n c now W) (hb : Below W.heap.size W W') : T1In w a n c now W' :=
  ⟨h.p.below hb h.p.lt, h.bel.trans (hb.mono (by have := h.p.lt; omega))⟩

set_option maxHeartbeats 1000000 in
theorem bitsOfTree_any (a : Option Addr) (n c : Nat) (now : Int) (D : Nat → Nd) (L : Nat → Loc) (w : World) (hS : IsNds w a n D L) (hn : n ≤ 10) :
    Calls Try.prog 23 #[trV a n c now] w fun e w' => Below w.heap.size w w' ∧ e = .returned (.int .u16 (bvv (fun i => (D i).kind != 0) n : Nat)) := by
  unfold trV
  go_enter Try.func23, Try.ntmps23
  go_wp2
  go_loopw [3, 9] (fun v i wr => ∃ k : Nat, k ≤ n ∧ i = .int .i64 k ∧ v = .int .u16 (bvv (fun i => (D i).kind != 0) k : Nat) ∧ T1In w a n c now wr) (fun _ i _ => n - (intOf i).toNat)
  case atStart =>
    have h := new1 w #[.slice a n c, .int .i64 now] 34
    exact ⟨0, Nat.zero_le _, rfl, rfl, ⟨h.b0, h.bel⟩⟩
  case round =>
    obtain ⟨k, hk, rfl, rfl, hin⟩ := hrel
    by_cases hlt : k < n
    · obtain ⟨b, off, hA, hlt2, hc⟩ := (hS.below (Nat.le_refl _) hin.bel).at hlt
      obtain ⟨c0, c1, c2, c3, c4, _⟩ := hc k hlt
      have hlti : (k : Int) < (n : Int) := by omega
      have hwne : b ≠ wr.heap.size := by omega
      have HE : Hid (∀ o, T1In w a n c now (wr.alloc o)) := fun o => hin.below ((Below.refl _ _).alloc (Nat.le_refl _) _)
      have HA : Hid (a = some ⟨b, off, none⟩) := hA
      rw [hA]
      clear hc hin hA
      cases hz : ((D k).kind != 0) with
      | false =>
        have HB : Hid (bvv (fun i => (D i).kind != 0) (k + 1) = bvv (fun i => (D i).kind != 0) k) := by show _ = _; rw [bvv]; simp [hz]
        go_wp2_with fail
        go_roundw
        case rel => exact ⟨k + 1, by omega, by go_num, by rw [HB.out], by rw [← HA.out]; exact HE.out _⟩
        case measure => simp [intOf]; omega
      | true =>
        have HB : Hid (bvv (fun i => (D i).kind != 0) (k + 1) = bvv (fun i => (D i).kind != 0) k + 2 ^ k) := by show _ = _; rw [bvv]; simp [hz]
        have HS : Hid (IntKind.u16.wrap ((2 : Int) ^ k) = ((2 ^ k : Nat) : Int) ∧ bits .or .u16 ((bvv (fun i => (D i).kind != 0) k : Nat) : Int) ((2 ^ k : Nat) : Int) = ((bvv (fun i => (D i).kind != 0) k + 2 ^ k : Nat) : Int)) := ⟨shl16 (by omega), or16 (by omega) (bvv_lt _ k)⟩
        go_wp2_with fail
        go_roundw
        case rel => exact ⟨k + 1, by omega, by go_num, by rw [HS.out.1, HS.out.2, HB.out], by rw [← HA.out]; exact HE.out _⟩
        case measure => simp [intOf]; omega
    · obtain rfl : k = n := by omega
      have HB : Hid (Below w.heap.size w wr) := hin.bel
      clear hin
      go_wp2
      go_ret
      exact ⟨HB.out, rfl⟩

set_option maxHeartbeats 1000000 in
theorem list_any (Z : Nat → Bool) (n : Nat) (w : World) (hn : n ≤ 10) :
    Calls Try.prog 24 #[.int .u16 (bvv Z n : Nat), .int .i64 n] w fun e w' => e = .returned (.slice (some ⟨w.heap.size, 0, none⟩) n n) ∧ Below w.heap.size w w' ∧ w'.rowIs w.heap.size 4 n (fun i => .bool (Z i)) := by
  have hmk := fun w => run_make_row' (P := Try.prog) 26 4 (.bool false) 1 Try.underlying26 infoBool rfl .i64 .i64 n (by omega) (by omega) w
  go_enter Try.func24, Try.ntmps24
  go_wp2
  go_loopw [11] (fun i wr => ∃ k : Nat, k ≤ n ∧ i = .int .i64 k ∧ Below w.heap.size w wr ∧ wr.rowIs w.heap.size 4 n (fun j => if j < k then .bool (Z j) else .bool false)) (fun i _ => n - (intOf i).toNat)
  case atStart => exact ⟨0, Nat.zero_le _, rfl, (Below.refl _ _).alloc (Nat.le_refl _) _, (World.rowIs_made w (.bool false) n 4).congr (fun i _ => by simp)⟩
  case round =>
    obtain ⟨k, hk, rfl, hb, hrow⟩ := hrel
    by_cases hlt : k < n
    · have hcr := hrow.cell hlt
      have hfr := hrow.frozen k
      have hlti : (k : Int) < (n : Int) := by omega
      have HB : Hid (Below w.heap.size w wr) := hb
      have HR : Hid (wr.rowIs w.heap.size 4 n (fun j => if j < k then .bool (Z j) else .bool false)) := hrow
      have HL : Hid (liveIn n Z (k : Int) = Z k) := by show _ = _; unfold liveIn; simp [hlt]
      clear hb hrow
      go_wp2_with fail
      refine (has_any Z n (k : Int) wr hn ⟨by omega, by omega⟩).mono ?_
      rintro e w2 ⟨rfl, rfl⟩
      rw [HL.out]
      go_wp2_with fail
      go_roundw
      case rel => exact ⟨k + 1, by omega, by go_num, HB.out.setCell (Nat.le_refl _) _, (HR.out.set k (.bool (Z k))).congr (fun i _ => by
        by_cases h : i = k
        · subst h; simp
        · by_cases h2 : i < k
          · simp [h, h2, show i < k + 1 by omega]
          · simp [h, h2, show ¬ i < k + 1 by omega])⟩
      case measure => simp [intOf]; omega
    · have HB : Hid (Below w.heap.size w wr) := hb
      have HR : Hid (wr.rowIs w.heap.size 4 n (fun j => if j < k then .bool (Z j) else .bool false)) := hrow
      clear hb hrow
      go_wp2
      go_ret
      exact ⟨rfl, HB.out, HR.out.congr (fun i hi => by simp [show i < k by omega])⟩
end Go.Proofs.Yteoanlkmkmajjaa

/-
  What refsOf and namedOnce of the program answer.
-/
namespace Go.Proofs.Yteoanlkmkmajjaa
open Go.RowKit
set_option linter.unusedVariables false

/-- What is known within refsOf. -/
structure RefRow (w : World) (a : Option Addr) (n c : Nat) (now : Int) (f : Nat → Nat) (W : World) : Prop where
  t : Blk W w.heap.size #[.slice a n c, .int .i64 now] 34
  row : W.rowIs (w.heap.size + 1) 3 n (fun j => .int .i64 (f j))
  bel : Below w.heap.size w W

theorem RefRow.put {w : World} {a : Option Addr} {n c : Nat} {now : Int} {f : Nat → Nat} {W : World} (h : RefRow w a n c now f W) (x : Nat) {g : Nat → Nat} (hg : ∀ j, j < n → g j = if j = x then f j + 1 else f j) :
    RefRow w a n c now g (W.setCell ⟨w.heap.size + 1, x, none⟩ (.int .i64 ((f x : Int) + 1))) :=
  ⟨h.t.off _ (by omega), (h.row.set x (.int .i64 ((f x : Int) + 1))).congr (fun i hi => by
    rw [hg i hi]
    by_cases e : i = x
    · subst e; simp
    · simp [e]), bel_put h.bel _ (by omega)⟩

theorem RefRow.alloc {w : World} {a : Option Addr} {n c : Nat} {now : Int} {f : Nat → Nat} {W : World} (h : RefRow w a n c now f W) (o : Obj) : RefRow w a n c now f (W.alloc o) :=
  ⟨h.t.alloc _, rowIs_below h.row ((Below.refl W.heap.size W).alloc (Nat.le_refl _) _) h.row.lt, h.bel.alloc (by have := h.t.lt; omega) _⟩

theorem RefRow.to {w : World} {a : Option Addr} {n c : Nat} {now : Int} {f g : Nat → Nat} {W : World} (h : RefRow w a n c now f W) (hg : ∀ j, j < n → f j = g j) : RefRow w a n c now g W :=
  ⟨h.t, h.row.congr (fun i hi => by rw [hg i hi]), h.bel⟩

theorem refs_start (w : World) (a : Option Addr) (n c : Nat) (now : Int) : RefRow w a n c now (fun _ => 0)
    ((w.alloc (.cells #[.slice a n c, .int .i64 now] 34)).alloc (.cells (madeCells #[.int .i64 0] n) 3)) := by
  have h := new2 w #[.slice a n c, .int .i64 now] 34 (madeCells #[.int .i64 0] n) 3
  refine ⟨h.b0, ⟨_, h.b1, by simp [size_madeCells], fun i hi => ?_⟩, h.bel⟩
  simp [madeCells, hi, Nat.mod_one]

set_option maxHeartbeats 2000000 in
theorem refsOf_any (a : Option Addr) (n c : Nat) (now : Int) (D : Nat → Nd) (L : Nat → Loc) (w : World) (hS : IsNds w a n D L) (hn : n ≤ 1048576) (hsz : sizeTo D n ≤ 1048576) (hsm : ∀ i, i < n → (D i).kn ≤ maxLen) (hk : ∀ i, i < n → ∀ j, j < (D i).kn → 0 ≤ (D i).kids j ∧ (D i).kids j < n) :
    Calls Try.prog 80 #[trV a n c now] w fun e w' => Below w.heap.size w w' ∧ e = .returned (.slice (some ⟨w.heap.size + 1, 0, none⟩) n n) ∧ w'.rowIs (w.heap.size + 1) 3 n (fun j => .int .i64 (refsTo D j n)) := by
  have hmk := fun w => run_make_row' (P := Try.prog) 51 3 (.int .i64 0) 8 Try.underlying51 infoInt rfl .i64 .i64 n (by omega) (by omega) w
  unfold trV
  go_enter Try.func80, Try.ntmps80
  go_wp2
  go_loopw [15] (fun i wr => ∃ k : Nat, k ≤ n ∧ i = .int .i64 k ∧ RefRow w a n c now (fun j => refsTo D j k) wr) (fun i _ => n - (intOf i).toNat)
  case atStart => exact ⟨0, Nat.zero_le _, rfl, (refs_start w a n c now).to (fun _ _ => rfl)⟩
  case round =>
    obtain ⟨k, hk', rfl, hin⟩ := hrel
    by_cases hlt : k < n
    · have hSr := hS.below (Nat.le_refl _) hin.bel
      obtain ⟨b, off, rfl, hlt2, hc⟩ := hSr.at hlt
      obtain ⟨c0, c1, c2, c3, c4, hI⟩ := hc k hlt
      have hki : (k : Int) < (n : Int) := by omega
      have hkn := hsm k hlt
      unfold maxLen at hkn
      have HIN : Hid (RefRow w (some ⟨b, off, none⟩) n c now (fun j => refsTo D j k) wr ∧ NdIn wr (D k) (L k)) := ⟨hin, hI⟩
      clear hc hI hin hSr hmk
      go_wp2
      go_loopw [22] (fun i wr' => ∃ j : Nat, j ≤ (D k).kn ∧ i = .int .i64 j ∧ RefRow w (some ⟨b, off, none⟩) n c now (fun x => refsTo D x k + cnt (D k).kids x j) wr') (fun i _ => (D k).kn - (intOf i).toNat)
      case atStart => exact ⟨0, Nat.zero_le _, rfl, (HIN.out.1.alloc _).to (fun _ _ => rfl)⟩
      case round =>
        obtain ⟨j, hj, rfl, hin⟩ := hrel
        by_cases hltj : j < (D k).kn
        · have hIr := (hS.below (Nat.le_refl _) hin.bel)
          obtain ⟨b2, off2, ha2, _, hc2⟩ := hIr.at hlt
          cases ha2
          obtain ⟨b', off', ha', hlt2', hc'⟩ := (hc2 k hlt).2.2.2.2.2.2.at hltj
          have hz := hc' j hltj
          obtain ⟨hk0, hk1⟩ := hk k hlt j hltj
          obtain ⟨x, hx⟩ : ∃ x : Nat, (D k).kids j = x := ⟨((D k).kids j).toNat, by omega⟩
          have hxn : x < n := by omega
          have hjj : (j : Int) < ((D k).kn : Int) := by omega
          rw [hx] at hz
          obtain ⟨v, hv⟩ : ∃ v : Nat, v = refsTo D x k + cnt (D k).kids x j := ⟨_, rfl⟩
          have hvb : v ≤ 1048576 := by
            have h1 := refsTo_le D x k
            have h2 := cnt_le (D k).kids x j
            have h3 := sizeTo_mono D (show k + 1 ≤ n by omega)
            rw [sizeTo_succ] at h3
            unfold Nd.size at h3
            omega
          have xc : wr.cell? ⟨w.heap.size + 1, x, none⟩ = some (.int .i64 v) := by rw [hv]; exact hin.row.cell hxn
          have xf := hin.row.frozen x
          have HALL : Hid (RefRow w (some ⟨b, off, none⟩) n c now (fun x => refsTo D x k + cnt (D k).kids x j) wr ∧ (D k).kids j = x ∧ v = refsTo D x k + cnt (D k).kids x j) := ⟨hin, hx, hv⟩
          have hxi : (x : Int) < (n : Int) := by omega
          rw [ha']
          clear hin hIr hc2 hc' hx hk0 hk1 hv c0 c1 c2 c3 c4
          go_wp2
          go_roundw
          case rel =>
            obtain ⟨h1, h2, h3⟩ := HALL.out
            refine ⟨j + 1, by omega, by go_num, ?_⟩
            have h4 := h1.put (g := fun y => refsTo D y k + cnt (D k).kids y (j + 1)) x (fun y _ => by
              show _ + cnt (D k).kids y (j + 1) = _
              rw [cnt, h2]
              by_cases e : y = x
              · subst e; simp; omega
              · have : ¬ (x : Int) = (y : Int) := by omega
                simp [e, this])
            rw [h3]
            exact h4
          case measure => simp [intOf]; omega
        · have hje : j = (D k).kn := by omega
          have HALL : Hid (RefRow w (some ⟨b, off, none⟩) n c now (fun x => refsTo D x (k + 1)) wr) := hin.to (fun y _ => by rw [refsTo, hje])
          clear hin hje c0 c1 c2 c3 c4
          go_wp2
          go_roundw
          case rel => exact ⟨k + 1, by omega, by go_num, HALL.out⟩
          case measure => simp [intOf]; omega
    · have hke : k = n := by omega
      have HALL : Hid (RefRow w a n c now (fun x => refsTo D x n) wr) := hin.to (fun y _ => by rw [hke])
      clear hin hke hmk
      go_wp2
      go_ret
      exact ⟨HALL.out.bel, rfl, HALL.out.row⟩
end Go.Proofs.Yteoanlkmkmajjaa

/-
  What namedOnce of the program answers: whether each directory but the root has one name.
-/
namespace Go.Proofs.Yteoanlkmkmajjaa
open Go.RowKit
set_option linter.unusedVariables false

set_option maxHeartbeats 2000000 in
theorem namedOnce_any (a : Option Addr) (n c : Nat) (now : Int) (D : Nat → Nd) (L : Nat → Loc) (w : World) (hS : IsNds w a n D L) (hn : n ≤ 1048576) (hsz : sizeTo D n ≤ 1048576) (hsm : ∀ i, i < n → (D i).kn ≤ maxLen) (hk : ∀ i, i < n → ∀ j, j < (D i).kn → 0 ≤ (D i).kids j ∧ (D i).kids j < n) :
    Calls Try.prog 52 #[trV a n c now] w fun e w' => Below w.heap.size w w' ∧ ∃ r : Bool, e = .returned (.bool r) ∧ (r = true ↔ ∀ i, 1 ≤ i → i < n → (D i).kind = 2 → refsTo D i n = 1) := by
  unfold trV
  go_enter Try.func52, Try.ntmps52
  go_wp2_with fail
  refine at_world (F := New1 w _ _) (new1 w _ _) ?_
  rintro W ⟨hp, hb, hs⟩
  refine (refsOf_any a n c now D L W (hS.below (Nat.le_refl _) hb) hn hsz hsm hk).mono ?_
  rintro e w1 ⟨hb1, rfl, hrow⟩
  have hp1 := hp.below hb1 (by omega)
  have HIN : Hid (RefsIn w a n c now w1 ∧ w1.rowIs (W.heap.size + 1) 3 n (fun j => .int .i64 (refsTo D j n))) := ⟨⟨hp1, hb.trans (hb1.mono (by omega))⟩, hrow⟩
  clear hp hb hs hb1 hrow hp1
  generalize W.heap.size + 1 = bm at *
  go_wp2
  go_loopw [8] (fun i wr => ∃ k : Nat, k ≤ n ∧ i = .int .i64 k ∧ RefsIn w a n c now wr ∧ wr.rowIs bm 3 n (fun j => .int .i64 (refsTo D j n)) ∧ ∀ i, 1 ≤ i → i < k → (D i).kind = 2 → refsTo D i n = 1) (fun i _ => n - (intOf i).toNat)
  case atStart => exact ⟨0, Nat.zero_le _, rfl, HIN.out.1, HIN.out.2, fun i h1 h2 => by omega⟩
  case round =>
    obtain ⟨k, hk', rfl, hin, hrow, hall⟩ := hrel
    by_cases hlt : k < n
    · have hSr := hS.below (Nat.le_refl _) hin.bel
      obtain ⟨b, off, rfl, hlt2, hc⟩ := hSr.at hlt
      have c0 := (hc k hlt).1
      have t0 : wr.cell? ⟨w.heap.size, 0, none⟩ = some (.slice (some ⟨b, off, none⟩) n c) := hin.t.cell 0
      have hki : (k : Int) < (n : Int) := by omega
      have rc : wr.cell? ⟨bm, k, none⟩ = some (.int .i64 (refsTo D k n)) := hrow.cell hlt
      have HR : Hid (RefsIn w (some ⟨b, off, none⟩) n c now wr ∧ wr.rowIs bm 3 n (fun j => .int .i64 (refsTo D j n)) ∧ ∀ i, 1 ≤ i → i < k → (D i).kind = 2 → refsTo D i n = 1) := ⟨hin, hrow, hall⟩
      clear hc hin hrow hall hSr HIN
      by_cases hk0 : k = 0
      · subst hk0
        rw [Nat.zero_mul, Nat.add_zero] at c0
        go_wp2
        go_roundw
        case rel => exact ⟨1, by omega, by go_num, HR.out.1, HR.out.2.1, fun i h1 h2 => by omega⟩
        case measure => simp [intOf]; omega
      · have hkb : ((k : Int) != 0) = true := by simp; omega
        cases hd2 : ((D k).kind == 2) with
        | false =>
          have H2 : Hid (¬ (D k).kind = 2) := show ¬ (D k).kind = 2 by simpa using hd2
          go_wp2
          go_roundw
          case rel => exact ⟨k + 1, by omega, by go_num, HR.out.1, HR.out.2.1, fun i h1 h2 h3 => by
            by_cases e : i = k
            · subst e; exact absurd h3 H2.out
            · exact HR.out.2.2 i h1 (by omega) h3⟩
          case measure => simp [intOf]; omega
        | true =>
          have H2 : Hid ((D k).kind = 2) := show (D k).kind = 2 by simpa using hd2
          by_cases hr1 : refsTo D k n = 1
          · have hrb : (((refsTo D k n : Nat) : Int) != 1) = false := by simp [hr1]
            have HX : Hid (refsTo D k n = 1) := hr1
            clear hr1
            go_wp2
            go_roundw
            case rel => exact ⟨k + 1, by omega, by go_num, HR.out.1, HR.out.2.1, fun i h1 h2 h3 => by
              by_cases e : i = k
              · subst e; exact HX.out
              · exact HR.out.2.2 i h1 (by omega) h3⟩
            case measure => simp [intOf]; omega
          · have hrb : (((refsTo D k n : Nat) : Int) != 1) = true := by simp; omega
            have HX : Hid (¬ refsTo D k n = 1) := hr1
            clear hr1
            go_wp2
            go_ret
            exact ⟨HR.out.1.bel, false, rfl, fun h => (by cases h), fun h => absurd (h k (by omega) hlt H2.out) HX.out⟩
    · have HALL : Hid (Below w.heap.size w wr ∧ ∀ i, 1 ≤ i → i < n → (D i).kind = 2 → refsTo D i n = 1) := ⟨hin.bel, fun i h1 h2 h3 => hall i h1 (by omega) h3⟩
      clear hin hrow hall HIN
      go_wp2
      go_ret
      exact ⟨HALL.out.1, true, rfl, fun _ => HALL.out.2, fun _ => rfl⟩
end Go.Proofs.Yteoanlkmkmajjaa

/-
  Which places are reached from the root, by a stack: plain facts. A place is put on the stack when it is marked; what is marked and no longer on the stack leads to what is marked.
-/
namespace Go.Proofs.Yteoanlkmkmajjaa
set_option linter.unusedVariables false

/-- Between two rounds. -/
structure Stk (n : Nat) (D : Nat → Nd) (m : Nat → Bool) (L : List Nat) : Prop where
  sound : Sound n D m
  root : m 0 = true
  on : ∀ i, i ∈ L → i < n ∧ m i = true
  done : ∀ i, i < n → m i = true → i ∉ L → ∀ j, j < (D i).kn → m ((D i).kids j).toNat = true
  few : L.length ≤ cntB m n

/-- Within a round, whose place is x: the first k of its places are through. -/
structure StkIn (n : Nat) (D : Nat → Nd) (x k : Nat) (m : Nat → Bool) (L : List Nat) : Prop where
  sound : Sound n D m
  root : m 0 = true
  cur : x < n ∧ m x = true
  on : ∀ i, i ∈ L → i < n ∧ m i = true
  done : ∀ i, i < n → m i = true → i ∉ L → i ≠ x → ∀ j, j < (D i).kn → m ((D i).kids j).toNat = true
  kids : ∀ j, j < k → m ((D x).kids j).toNat = true
  few : L.length + 1 ≤ cntB m n

theorem Stk.start {n : Nat} {D : Nat → Nd} (hn : 1 ≤ n) : Stk n D (fun j => decide (j = 0)) [0] :=
  ⟨fun i hi => by simp at hi; subst hi; exact .root, by simp, fun i hi => by simp at hi; subst hi; exact ⟨hn, by simp⟩, fun i _ hm hi => by simp at hm hi; exact absurd hm hi, by
    have := cntB_one (m := fun j => decide (j = 0)) (by simp) n hn
    simpa using this⟩

theorem Stk.pop {n : Nat} {D : Nat → Nd} {m : Nat → Bool} {L : List Nat} {x : Nat} (h : Stk n D m (L ++ [x])) : StkIn n D x 0 m L :=
  ⟨h.sound, h.root, h.on x (by simp), fun i hi => h.on i (by simp [hi]), fun i hi hm hL hx => h.done i hi hm (by simp [hL, hx]), fun j hj => by omega, by have := h.few; simpa using this⟩

theorem StkIn.push {n : Nat} {D : Nat → Nd} {x k : Nat} {m : Nat → Bool} {L : List Nat} (h : StkIn n D x k m L) (hk : k < (D x).kn) {z : Nat} (hz : ((D x).kids k).toNat = z) (hzn : z < n) (hm : m z = false) :
    StkIn n D x (k + 1) (fun j => if j = z then true else m j) (L ++ [z]) := by
  have up : ∀ j, m j = true → (if j = z then true else m j) = true := fun j hj => by by_cases e : j = z <;> simp [e, hj]
  refine ⟨fun i hi => ?_, up 0 h.root, ⟨h.cur.1, up x h.cur.2⟩, fun i hi => ?_, fun i hi hmi hL hx j hj => ?_, fun j hj => ?_, ?_⟩
  · by_cases e : i = z
    · subst e; rw [← hz]; exact .step (h.sound x h.cur.2) h.cur.1 hk
    · simp only [if_neg e] at hi; exact h.sound i hi
  · rcases List.mem_append.1 hi with hi | hi
    · exact ⟨(h.on i hi).1, up i (h.on i hi).2⟩
    · simp at hi; subst hi; exact ⟨hzn, by simp⟩
  · have hne : i ≠ z := fun e => hL (by simp [e])
    simp only [if_neg hne] at hmi
    exact up _ (h.done i hi hmi (fun hi' => hL (by simp [hi'])) hx j hj)
  · by_cases e : j = k
    · subst e; simp [hz]
    · exact up _ (h.kids j (by omega))
  · have := cntB_lt up (i := z) (by simp [hm]) (by simp) n hzn
    have h2 := h.few
    simp only [List.length_append, List.length_singleton]
    omega

theorem StkIn.pass {n : Nat} {D : Nat → Nd} {x k : Nat} {m : Nat → Bool} {L : List Nat} (h : StkIn n D x k m L) (hm : m ((D x).kids k).toNat = true) : StkIn n D x (k + 1) m L :=
  ⟨h.sound, h.root, h.cur, h.on, h.done, fun j hj => by
    by_cases e : j = k
    · subst e; exact hm
    · exact h.kids j (by omega), h.few⟩

theorem StkIn.out {n : Nat} {D : Nat → Nd} {x : Nat} {m : Nat → Bool} {L : List Nat} (h : StkIn n D x (D x).kn m L) : Stk n D m L :=
  ⟨h.sound, h.root, h.on, fun i hi hm hL => by
    by_cases e : i = x
    · subst e; exact h.kids
    · exact h.done i hi hm hL e, by have := h.few; omega⟩

theorem Stk.fin {n : Nat} {D : Nat → Nd} {m : Nat → Bool} (h : Stk n D m []) (i : Nat) : m i = true ↔ Reach n D i := by
  refine ⟨h.sound i, fun hr => ?_⟩
  induction hr with
  | root => exact h.root
  | step hr hi hj ih => exact h.done _ hi ih (by simp) _ hj
end Go.Proofs.Yteoanlkmkmajjaa

/-
  What reached of the program answers: which places are reached from the root, marked with a stack.
-/
namespace Go.Proofs.Yteoanlkmkmajjaa
open Go.RowKit Go.Deep
set_option linter.unusedVariables false

/-- A list of numbers, as cells. -/
def natv (L : List Nat) : List Value := L.map fun (i : Nat) => Value.int .i64 (i : Int)
theorem natv_length (L : List Nat) : (natv L).length = L.length := by simp [natv]
theorem natv_append (L M : List Nat) : natv L ++ natv M = natv (L ++ M) := by simp [natv]
theorem natv_one (L : List Nat) : ∀ u ∈ natv L, u.oneCell' = true := by
  intro u hu
  simp only [natv, List.mem_map] at hu
  obtain ⟨s, _, rfl⟩ := hu
  rfl

/-- The mark at a place. -/
def bitAt (W : World) (b j : Nat) : Bool := match W.cell? ⟨b, j, none⟩ with | some (.bool x) => x | _ => false
/-- How long a slice is. -/
def lenOf : Value → Nat | .slice _ n _ => n | _ => 0

theorem cntB_congr {m m' : Nat → Bool} {k : Nat} (h : ∀ j, j < k → m j = m' j) : cntB m k = cntB m' k := by
  induction k with
  | zero => rfl
  | succ k ih => unfold cntB; rw [ih (fun j hj => h j (by omega)), h k (by omega)]

/-- What is known within reached. -/
structure StkW (w : World) (a : Option Addr) (n c : Nat) (now : Int) (m : Nat → Bool) (L : List Nat) (s : Value) (W : World) : Prop where
  t : Blk W w.heap.size #[.slice a n c, .int .i64 now] 34
  row : W.rowIs (w.heap.size + 1) 4 n (fun j => .bool (m j))
  own : W.ownsRow (w.heap.size + 2) 3 1 s L.length (natv L)
  some : s ≠ .slice none 0 0
  bel : Below w.heap.size w W
  size : w.heap.size + 2 ≤ W.heap.size

theorem StkW.shape {w : World} {a : Option Addr} {n c : Nat} {now : Int} {m : Nat → Bool} {L : List Nat} {s : Value} {W : World} (h : StkW w a n c now m L s W) :
    ∃ g cap, s = .slice (Option.some ⟨g, 0, none⟩) L.length cap ∧ w.heap.size + 2 ≤ g ∧ g < W.heap.size ∧ L.length ≤ cap ∧ cap ≤ maxLen ∧ ∀ i, i < L.length → W.cell? ⟨g, i, none⟩ = Option.some (.int .i64 (L.getD i 0 : Nat)) := by
  obtain ⟨h1, h2⟩ := h.own
  rcases h2 with ⟨rfl, h0⟩ | ⟨g, cap, cur, rfl, hb, hblk, hn, hm, hsz, htake⟩
  · exact absurd rfl h.some
  · have hglt : g < W.heap.size := (Array.getElem?_eq_some_iff.1 hblk).1
    refine ⟨g, cap, rfl, hb, hglt, hn, hm, fun i hi => ?_⟩
    have hi2 : (natv L)[i]? = Option.some (.int .i64 (L.getD i 0 : Nat)) := by simp [natv, hi]
    rw [← htake, Nat.mul_one, List.getElem?_take_of_lt hi] at hi2
    simp only [World.cell?, hblk]
    simpa using hi2

/-- The last one is taken off. -/
theorem StkW.pop {w : World} {a : Option Addr} {n c : Nat} {now : Int} {m : Nat → Bool} {L : List Nat} {x g cap : Nat} {k : Nat} {W : World} (h : StkW w a n c now m (L ++ [x]) (.slice (Option.some ⟨g, 0, none⟩) k cap) W) :
    StkW w a n c now m L (.slice (Option.some ⟨g, 0, none⟩) L.length cap) W := by
  refine ⟨h.t, h.row, ?_, by simp, h.bel, h.size⟩
  obtain ⟨h1, h2⟩ := h.own
  rcases h2 with ⟨h2, h0⟩ | ⟨g', cap', cur, hv, hb, hblk, hn, hm, hsz, htake⟩
  · cases h2
  · cases hv
    refine ⟨by simp [natv], Or.inr ⟨g, cap, cur, rfl, hb, hblk, by simp at hn; omega, hm, hsz, ?_⟩⟩
    have e : natv (L ++ [x]) = natv L ++ natv [x] := (natv_append L [x]).symm
    rw [e] at htake
    have h5 : (natv L ++ natv [x]).take L.length = natv L := by
      have := List.take_left (l₁ := natv L) (l₂ := natv [x])
      rwa [natv_length] at this
    have := congrArg (List.take L.length) htake
    rw [List.take_take, Nat.min_eq_left (by simp), h5] at this
    rw [Nat.mul_one]
    exact this

theorem StkW.mark {w : World} {a : Option Addr} {n c : Nat} {now : Int} {m : Nat → Bool} {L : List Nat} {s : Value} {W : World} (h : StkW w a n c now m L s W) (x : Nat) :
    StkW w a n c now (fun j => if j = x then true else m j) L s (W.setCell ⟨w.heap.size + 1, x, none⟩ (.bool true)) := by
  refine ⟨h.t.off _ (by omega), (h.row.set x (.bool true)).congr (fun i _ => by by_cases e : i = x <;> simp [e]), ⟨h.own.1, ?_⟩, h.some, bel_put h.bel _ (by omega), by simpa [World.setCell] using h.size⟩
  rcases h.own.2 with h2 | ⟨g, cap, cur, hv, hb, hblk, rest⟩
  · exact Or.inl h2
  · exact Or.inr ⟨g, cap, cur, hv, hb, (blk_setCell_other _ _ _ _ (by show g ≠ w.heap.size + 1; omega)).trans hblk, rest⟩

theorem StkW.alloc {w : World} {a : Option Addr} {n c : Nat} {now : Int} {m : Nat → Bool} {L : List Nat} {s : Value} {W : World} (h : StkW w a n c now m L s W) (o : Obj) : StkW w a n c now m L s (W.alloc o) :=
  ⟨h.t.alloc _, rowIs_below h.row ((Below.refl W.heap.size W).alloc (Nat.le_refl _) _) h.row.lt, h.own.alloc o, h.some, h.bel.alloc (by have := h.t.lt; omega) _, by have := h.size; simp; omega⟩

/-- One more is put on it. -/
theorem StkW.push {w : World} {a : Option Addr} {n c : Nat} {now : Int} {m : Nat → Bool} {L : List Nat} {s s' : Value} {W W' : World} (h : StkW w a n c now m L s W) {x : Nat}
    (hown : W'.ownsRow (w.heap.size + 2) 3 1 s' (L.length + 1) (natv L ++ natv [x])) (hg : W.grownBy W' s.ownBlock) (hs : ¬ s' = .slice none 0 0) : StkW w a n c now m (L ++ [x]) s' W' := by
  have hob : ∀ g, s.ownBlock = Option.some g → w.heap.size + 2 ≤ g := by
    intro g hg
    obtain ⟨g', cap, rfl, hb, _⟩ := h.shape
    simp [Value.ownBlock] at hg
    omega
  have blk : ∀ b, b < w.heap.size + 2 → b < W.heap.size → W'.heap[b]? = W.heap[b]? := fun b hb hlt => hg.block b hlt (fun e => by have := hob b e.symm; omega)
  have hrow := h.row
  refine ⟨h.t.of_block (blk _ (by omega) h.t.lt), ?_, ?_, hs, h.bel.grown hg (by have := h.t.lt; omega) (fun g hg' => by have := hob g hg'; omega), Nat.le_trans h.size hg.size⟩
  · obtain ⟨cs, hb, r⟩ := hrow
    exact ⟨cs, (blk _ (by omega) h.row.lt).trans hb, r⟩
  · rw [List.length_append, ← natv_append]; exact hown

theorem StkW.meas {w : World} {a : Option Addr} {n c : Nat} {now : Int} {m : Nat → Bool} {L : List Nat} {s : Value} {W : World} (h : StkW w a n c now m L s W) :
    2 * (n - cntB (fun j => bitAt W (w.heap.size + 1) j) n) + lenOf s = 2 * (n - cntB m n) + L.length := by
  have e : cntB (fun j => bitAt W (w.heap.size + 1) j) n = cntB m n := cntB_congr (fun j hj => by
    unfold bitAt
    rw [h.row.cell hj])
  obtain ⟨g, cap, rfl, _⟩ := h.shape
  rw [e]
  rfl

theorem StkW.drew {w : World} {a : Option Addr} {n c : Nat} {now : Int} {m : Nat → Bool} {L : List Nat} {s : Value} {W : World} (h : StkW w a n c now m L s W) (q : Nat) : StkW w a n c now m L s (W.drewN q) :=
  ⟨h.t, h.row, h.own, h.some, below_drewN h.bel q, h.size⟩

theorem natv_cells (w : World) (x : Nat) : ∀ j u, (natv [x])[j]? = some u → (w.alloc (.cells #[.int .i64 (x : Int)] 3)).cell? ((⟨w.heap.size, 0, none⟩ : Addr).add j) = some u := by
  intro j u h
  have hj : j = 0 := by
    rcases Nat.eq_zero_or_pos j with h0 | h0
    · exact h0
    · rw [List.getElem?_eq_none (by simp [natv]; omega)] at h; cases h
  subst hj
  have := cell_one_new w (.int .i64 (x : Int)) 3
  simp [natv] at h
  subst h
  rw [show (⟨w.heap.size, 0, none⟩ : Addr).add 0 = ⟨w.heap.size, 0, none⟩ by unfold Addr.add; split <;> simp_all]
  exact (Blk.new w #[.int .i64 (x : Int)] 3).cell 0

theorem stk_start (w : World) (a : Option Addr) (n c : Nat) (now : Int) : StkW w a n c now (fun j => decide (j = 0)) [0] (.slice (some ⟨w.heap.size + 1 + 1, 0, none⟩) 1 1)
    (((w.alloc (.cells #[.slice a n c, .int .i64 now] 34)).alloc (.cells ((madeCells #[.bool false] n).setIfInBounds 0 (.bool true)) 4)).alloc (.cells #[.int .i64 0] 3)) := by
  have h := marks_start w a n c now
  have h3 := new3 w #[.slice a n c, .int .i64 now] 34 ((madeCells #[.bool false] n).setIfInBounds 0 (.bool true)) 4 #[.int .i64 0] 3
  refine ⟨h3.b0, rowIs_below h.row ((Below.refl _ _).alloc (Nat.le_refl _) _) h.row.lt, ⟨rfl, Or.inr ⟨w.heap.size + 1 + 1, 1, _, rfl, by omega, h3.b2, Nat.le_refl _, by unfold maxLen; omega, rfl, rfl⟩⟩, by simp, h3.bel, by have := h3.size; omega⟩

set_option maxHeartbeats 2000000 in
theorem reached_any (a : Option Addr) (n c : Nat) (now : Int) (D : Nat → Nd) (L : Nat → Loc) (w : World) (hS : IsNds w a n D L) (h1 : 1 ≤ n) (hn : n ≤ 1048576) (hsm : ∀ i, i < n → (D i).kn ≤ maxLen) (hk : ∀ i, i < n → ∀ j, j < (D i).kn → 0 ≤ (D i).kids j ∧ (D i).kids j < n) :
    Calls Try.prog 79 #[trV a n c now] w fun e w' => Below w.heap.size w w' ∧ e = .returned (.slice (some ⟨w.heap.size + 1, 0, none⟩) n n) ∧ ∃ m : Nat → Bool, w'.rowIs (w.heap.size + 1) 4 n (fun j => .bool (m j)) ∧ ∀ j, m j = true ↔ Reach n D j := by
  have hmk := fun w => run_make_row' (P := Try.prog) 26 4 (.bool false) 1 Try.underlying26 infoBool rfl .i64 .i64 n (by omega) (by omega) w
  have hm0 : (madeCells #[Value.bool false] n)[0]? = some (.bool false) := by simp [madeCells, show 0 < n from h1]
  obtain ⟨i0, hi, hz0, hz1, hz2⟩ := info_parts infoInt
  unfold trV
  go_enter Try.func79, Try.ntmps79
  go_wp2
  go_loopw [4] (fun s wr => ∃ (m : Nat → Bool) (L : List Nat), StkW w a n c now m L s wr ∧ Stk n D m L) (fun s wr => 2 * (n - cntB (fun j => bitAt wr (w.heap.size + 1) j) n) + lenOf s)
  case atStart => exact ⟨_, _, stk_start w a n c now, Stk.start h1⟩
  case round =>
    obtain ⟨m0, K, hin, hst⟩ := hrel
    have hfew := hst.few
    have hfew2 := cntB_le m0 n
    have hmeas := hin.meas
    obtain ⟨g, cap, rfl, hg1, hg2, hcap, hcapm, hcells⟩ := hin.shape
    unfold maxLen at hcapm
    clear hmk hm0
    rcases List.eq_nil_or_concat K with rfl | ⟨K', x, rfl⟩
    · have HALL : Hid (StkW w a n c now m0 [] (.slice (some ⟨g, 0, none⟩) 0 cap) wr ∧ Stk n D m0 []) := ⟨hin, hst⟩
      have h00 : ((([] : List Nat).length : Nat)) = 0 := rfl
      rw [h00]
      clear hin hst hcells
      go_wp2
      go_ret
      exact ⟨HALL.out.1.bel, rfl, m0, HALL.out.1.row, HALL.out.2.fin⟩
    · rw [List.concat_eq_append] at *
      have hxc : wr.cell? ⟨g, K'.length, none⟩ = some (.int .i64 (x : Nat)) := by
        have := hcells K'.length (by simp)
        simpa using this
      have hlen : (K' ++ [x]).length = K'.length + 1 := by simp
      rw [hlen] at hfew hmeas hcap ⊢
      obtain ⟨hxn, hmx⟩ := hst.on x (by simp)
      have hSr := hS.below (Nat.le_refl _) hin.bel
      obtain ⟨b, off, rfl, hlt2, hc⟩ := hSr.at hxn
      have c3 := (hc x hxn).2.2.2.1
      have t0 : wr.cell? ⟨w.heap.size, 0, none⟩ = some (.slice (some ⟨b, off, none⟩) n c) := hin.t.cell 0
      have hknb := hsm x hxn
      unfold maxLen at hknb
      have hxi : (x : Int) < (n : Int) := by omega
      have HST : Hid (StkW w (some ⟨b, off, none⟩) n c now m0 K' (.slice (some ⟨g, 0, none⟩) K'.length cap) wr ∧ StkIn n D x 0 m0 K' ∧ 2 * (n - cntB m0 n) + K'.length + 1 = 2 * (n - cntB (fun j => bitAt wr (w.heap.size + 1) j) n) + lenOf (.slice (some ⟨g, 0, none⟩) (K'.length + 1) cap)) := ⟨hin.pop, hst.pop, hmeas.symm⟩
      clear hin hst hmeas hc hcells hSr hmx
      generalize hkl : K'.length = kl at *
      have hwr : IntKind.i64.wrap ((kl : Int) + 1 - 1) = (kl : Int) := by rw [IntKind.wrap_i64]; omega
      have hwr2 : IntKind.i64.wrap (((kl + 1 : Nat) : Int) - 1) = (kl : Int) := by rw [IntKind.wrap_i64]; omega
      have hki : (kl : Int) < ((kl + 1 : Nat) : Int) := by omega
      go_wp2_with fail
      go_quiet (fail)
      have HS1 := HST.out.1.drew nq
      have HS : Hid (StkW w (some ⟨b, off, none⟩) n c now m0 K' (.slice (some ⟨g, 0, none⟩) kl cap) (wr.drewN nq)) := HS1
      clear HS1
      go_wp2
      go_loopw [4, 36] (fun s i wr' => ∃ (j : Nat) (m : Nat → Bool) (K : List Nat), j ≤ (D x).kn ∧ i = .int .i64 j ∧ StkW w (some ⟨b, off, none⟩) n c now m K s wr' ∧ StkIn n D x j m K ∧ 2 * (n - cntB m n) + K.length ≤ 2 * (n - cntB m0 n) + kl) (fun _ i _ => (D x).kn - (intOf i).toNat)
      case atStart => exact ⟨0, m0, K', Nat.zero_le _, rfl, HS.out, HST.out.2.1, by omega⟩
      case round =>
        obtain ⟨j, m, K, hj, rfl, hin, hst, hms⟩ := hrel
        have hfew3 := hst.few
        have hfew4 := cntB_le m n
        by_cases hltj : j < (D x).kn
        · have hSr := hS.below (Nat.le_refl _) hin.bel
          obtain ⟨b2, off2, ha2, _, hc2⟩ := hSr.at hxn
          cases ha2
          obtain ⟨b', off', ha', hlt2', hc'⟩ := (hc2 x hxn).2.2.2.2.2.2.at hltj
          have hz := hc' j hltj
          obtain ⟨hk0, hk1⟩ := hk x hxn j hltj
          obtain ⟨z, hz'⟩ : ∃ z : Nat, (D x).kids j = z := ⟨((D x).kids j).toNat, by omega⟩
          have hzn : z < n := by omega
          have hzt : ((D x).kids j).toNat = z := by rw [hz']; rfl
          have hjj : (j : Int) < ((D x).kn : Int) := by omega
          have hzi : (z : Int) < (n : Int) := by omega
          rw [hz'] at hz
          have mz : wr.cell? ⟨w.heap.size + 1, z, none⟩ = some (.bool (m z)) := hin.row.cell hzn
          have mf := hin.row.frozen z
          rw [ha']
          clear hSr hc2 hc' hk0 hk1 t0 c3 hxc hwr hwr2 hki hg1 hg2
          cases hmz : m z with
          | true =>
            rw [hmz] at mz
            have HALL : Hid (StkW w (some ⟨b, off, none⟩) n c now m K u4 wr ∧ StkIn n D x (j + 1) m K ∧ 2 * (n - cntB m n) + K.length ≤ 2 * (n - cntB m0 n) + kl) := ⟨hin, hst.pass (by rw [hzt]; exact hmz), hms⟩
            clear hin hst hms hmz
            go_wp2
            go_roundw
            case rel => exact ⟨j + 1, m, K, by omega, by go_num, HALL.out.1, HALL.out.2.1, HALL.out.2.2⟩
            case measure => simp [intOf]; omega
          | false =>
            rw [hmz] at mz
            have hst2 := hst.push hltj hzt hzn hmz
            have hcl := cntB_lt (m := m) (m' := fun j => if j = z then true else m j) (fun y hy => by by_cases e : y = z <;> simp [e, hy]) (i := z) (by simp [hmz]) (by simp) n hzn
            have hfew5 := cntB_le (fun j => if j = z then true else m j) n
            have hin2 := hin.mark z
            have HALL : Hid (StkIn n D x (j + 1) (fun j => if j = z then true else m j) (K ++ [z]) ∧ 2 * (n - cntB (fun j => if j = z then true else m j) n) + (K ++ [z]).length ≤ 2 * (n - cntB m0 n) + kl) := ⟨hst2, by rw [List.length_append]; simp only [List.length_singleton]; omega⟩
            have HIN : Hid (StkW w (some ⟨b, off, none⟩) n c now (fun j => if j = z then true else m j) K u4 (wr.setCell ⟨w.heap.size + 1, z, none⟩ (.bool true))) := hin2
            have hsz := hin.size
            clear hin hst hms hmz hst2 hcl hin2
            go_wp2_with (at_builtin; refine wpList_append_own _ rfl _ _ 51 rfl (w.heap.size + 2) 3 i0 (.int .i64 0) 1 8 Try.underlying51 hi hz0 hz1 hz2 rfl (by decide) _ _ _ rfl (HIN.out.alloc _).own ⟨_, 0, none⟩ 1 1 (natv [z]) rfl rfl ?c1 ?c2 ?c3 ?c4 ?c5 ?_)
            case c1 =>
              have := natv_cells (wr.setCell ⟨w.heap.size + 1, z, none⟩ (.bool true)) z
              rwa [show (wr.setCell ⟨w.heap.size + 1, z, none⟩ (.bool true)).heap.size = wr.heap.size by simp [World.setCell]] at this
            case c2 => exact natv_one _
            case c3 => unfold maxLen; omega
            case c4 => omega
            case c5 => simp [World.setCell]; omega
            intro v' w1 hown hgrow hnil
            have HN : Hid (StkW w (some ⟨b, off, none⟩) n c now (fun j => if j = z then true else m j) (K ++ [z]) v' w1) := (HIN.out.alloc _).push hown hgrow hnil
            clear hown hgrow hnil
            go_wp2
            go_roundw
            case rel => exact ⟨j + 1, _, K ++ [z], by omega, by go_num, HN.out, HALL.out.1, HALL.out.2⟩
            case measure => simp [intOf]; omega
        · have hje : j = (D x).kn := by omega
          have hmeas := hin.meas
          have HALL : Hid (StkW w (some ⟨b, off, none⟩) n c now m K u4 wr ∧ Stk n D m K ∧ 2 * (n - cntB m n) + K.length ≤ 2 * (n - cntB m0 n) + kl ∧ 2 * (n - cntB (fun j => bitAt wr (w.heap.size + 1) j) n) + lenOf u4 = 2 * (n - cntB m n) + K.length) := ⟨hin, (hje ▸ hst).out, hms, hmeas⟩
          clear hin hst hms hje hmeas
          go_wp2
          go_roundw
          case rel => exact ⟨m, K, HALL.out.1, HALL.out.2.1⟩
          case measure =>
            have h1 := HALL.out.2.2
            have h2 := HST.out.2.2
            simp at h2 ⊢
            omega
end Go.Proofs.Yteoanlkmkmajjaa

/-
  What TreeOk of the program has to keep.
-/
namespace Go.Proofs.Yteoanlkmkmajjaa
open Go.RowKit

/-- What TreeOk of the program has to keep. -/
def ImplTreeOk : Prop := ∀ (a : Option Addr) (n c : Nat) (now : Int) (D : Nat → Nd) (L : Nat → Loc) (w : World), IsNds w a n D L → FitAll n D → n ≤ maxLen → sizeTo D n ≤ 1048576 → In64 now →
    Calls Try.prog 22 #[trV a n c now] w fun e w' => Below w.heap.size w w' ∧ ∃ r : Bool, e = .returned (.bool r) ∧ (r = true ↔ TreeGood n D now)
end Go.Proofs.Yteoanlkmkmajjaa

/-
  What reachOk and TreeOk of the program answer.
-/
namespace Go.Proofs.Yteoanlkmkmajjaa
open Go.RowKit
set_option linter.unusedVariables false

set_option maxHeartbeats 2000000 in
theorem reachOk_any (a : Option Addr) (n c : Nat) (now : Int) (D : Nat → Nd) (L : Nat → Loc) (w : World) (hS : IsNds w a n D L) (h1 : 1 ≤ n) (hn : n ≤ 1048576) (hsm : ∀ i, i < n → (D i).kn ≤ maxLen) (hk : ∀ i, i < n → ∀ j, j < (D i).kn → 0 ≤ (D i).kids j ∧ (D i).kids j < n) :
    Calls Try.prog 51 #[trV a n c now] w fun e w' => Below w.heap.size w w' ∧ ∃ r : Bool, e = .returned (.bool r) ∧ (r = true ↔ ∀ i, i < n → (Reach n D i ↔ (D i).kind ≠ 0)) := by
  unfold trV
  go_enter Try.func51, Try.ntmps51
  go_wp2_with fail
  refine at_world (F := New1 w _ _) (new1 w _ _) ?_
  rintro W ⟨hp, hb, hs⟩
  refine (reached_any a n c now D L W (hS.below (Nat.le_refl _) hb) h1 hn hsm hk).mono ?_
  rintro e w1 ⟨hb1, rfl, m, hrow, hm⟩
  have hp1 := hp.below hb1 (by omega)
  have HIN : Hid (RefsIn w a n c now w1 ∧ w1.rowIs (W.heap.size + 1) 4 n (fun j => .bool (m j))) := ⟨⟨hp1, hb.trans (hb1.mono (by omega))⟩, hrow⟩
  have HM : Hid (∀ j, m j = true ↔ Reach n D j) := hm
  clear hp hb hs hb1 hrow hp1 hm
  generalize W.heap.size + 1 = bm at *
  go_wp2
  go_loopw [8] (fun i wr => ∃ k : Nat, k ≤ n ∧ i = .int .i64 k ∧ RefsIn w a n c now wr ∧ wr.rowIs bm 4 n (fun j => .bool (m j)) ∧ ∀ i, i < k → (Reach n D i ↔ (D i).kind ≠ 0)) (fun i _ => n - (intOf i).toNat)
  case atStart => exact ⟨0, Nat.zero_le _, rfl, HIN.out.1, HIN.out.2, fun i h2 => by omega⟩
  case round =>
    obtain ⟨k, hk', rfl, hin, hrow, hall⟩ := hrel
    by_cases hlt : k < n
    · have hSr := hS.below (Nat.le_refl _) hin.bel
      obtain ⟨b, off, rfl, hlt2, hc⟩ := hSr.at hlt
      have c0 := (hc k hlt).1
      have t0 : wr.cell? ⟨w.heap.size, 0, none⟩ = some (.slice (some ⟨b, off, none⟩) n c) := hin.t.cell 0
      have hki : (k : Int) < (n : Int) := by omega
      have rc : wr.cell? ⟨bm, k, none⟩ = some (.bool (m k)) := hrow.cell hlt
      have HR : Hid (RefsIn w (some ⟨b, off, none⟩) n c now wr ∧ wr.rowIs bm 4 n (fun j => .bool (m j)) ∧ ∀ i, i < k → (Reach n D i ↔ (D i).kind ≠ 0)) := ⟨hin, hrow, hall⟩
      clear hc hin hrow hall hSr HIN
      cases hkz : ((D k).kind == 0) with
      | true =>
        have HZ : Hid ((D k).kind = 0) := show (D k).kind = 0 by simpa using hkz
        cases hmk : m k with
        | true =>
          rw [hmk] at rc
          have HX : Hid (Reach n D k) := (HM.out k).1 hmk
          clear hmk
          go_wp2
          go_ret
          exact ⟨HR.out.1.bel, false, rfl, fun h => (by cases h), fun h => absurd HZ.out ((h k hlt).1 HX.out)⟩
        | false =>
          rw [hmk] at rc
          have HX : Hid (Reach n D k ↔ (D k).kind ≠ 0) := ⟨fun h => (by have := (HM.out k).2 h; rw [hmk] at this; cases this), fun h => absurd HZ.out h⟩
          clear hmk
          go_wp2
          go_roundw
          case rel => exact ⟨k + 1, by omega, by go_num, HR.out.1, HR.out.2.1, fun i h2 => by
            by_cases e : i = k
            · subst e; exact HX.out
            · exact HR.out.2.2 i (by omega)⟩
          case measure => simp [intOf]; omega
      | false =>
        have HZ : Hid (¬ (D k).kind = 0) := show ¬ (D k).kind = 0 by simpa using hkz
        cases hmk : m k with
        | false =>
          rw [hmk] at rc
          have HX : Hid (¬ Reach n D k) := fun h => (by have := (HM.out k).2 h; rw [hmk] at this; cases this)
          clear hmk
          go_wp2
          go_ret
          exact ⟨HR.out.1.bel, false, rfl, fun h => (by cases h), fun h => absurd ((h k hlt).2 HZ.out) HX.out⟩
        | true =>
          rw [hmk] at rc
          have HX : Hid (Reach n D k ↔ (D k).kind ≠ 0) := ⟨fun _ => HZ.out, fun _ => (HM.out k).1 hmk⟩
          clear hmk
          go_wp2
          go_roundw
          case rel => exact ⟨k + 1, by omega, by go_num, HR.out.1, HR.out.2.1, fun i h2 => by
            by_cases e : i = k
            · subst e; exact HX.out
            · exact HR.out.2.2 i (by omega)⟩
          case measure => simp [intOf]; omega
    · have HALL : Hid (Below w.heap.size w wr ∧ ∀ i, i < n → (Reach n D i ↔ (D i).kind ≠ 0)) := ⟨hin.bel, fun i h2 => hall i (by omega)⟩
      clear hin hrow hall HIN
      go_wp2
      go_ret
      exact ⟨HALL.out.1, true, rfl, fun _ => HALL.out.2, fun _ => rfl⟩

set_option maxHeartbeats 2000000 in
theorem implTreeOk : ImplTreeOk := by
  intro a n c now D L w hS hf hn hsz hnow
  have hn' := hn
  unfold maxLen at hn'
  have out : ∀ (e : Ending) (w' : World), Below w.heap.size w w' → e = .returned (.bool false) → ¬ TreeGood n D now → Below w.heap.size w w' ∧ ∃ r : Bool, e = .returned (.bool r) ∧ (r = true ↔ TreeGood n D now) :=
    fun e w' hb he hg => ⟨hb, false, he, fun h => (by cases h), fun h => absurd h hg⟩
  by_cases g1 : n < 1
  · have hb1 : decide ((n : Int) < 1) = true := by simp; omega
    have HG : Hid (¬ TreeGood n D now) := fun h => by have := h.some; omega
    unfold trV
    go_enter Try.func22, Try.ntmps22
    go_wp2_with fail
    go_ret
    exact out _ _ ((Below.refl _ _).alloc (Nat.le_refl _) _) rfl HG.out
  · have hb1 : decide ((n : Int) < 1) = false := by simp; omega
    by_cases g2 : 10 < n
    · have hb2 : decide (10 < (n : Int)) = true := by simp; omega
      have HG : Hid (¬ TreeGood n D now) := fun h => by have := h.few; omega
      unfold trV
      go_enter Try.func22, Try.ntmps22
      go_wp2_with fail
      go_ret
      exact out _ _ ((Below.refl _ _).alloc (Nat.le_refl _) _) rfl HG.out
    · have hb2 : decide (10 < (n : Int)) = false := by simp; omega
      cases hto : turnIn now 1000 with
      | false =>
        have HG : Hid (¬ TreeGood n D now) := fun h => by
          have h1 := h.begun
          have h2 := h.soon
          unfold turnIn at hto
          rw [decide_eq_true h1, decide_eq_true h2] at hto
          cases hto
        unfold trV
        go_enter Try.func22, Try.ntmps22
        go_wp2_with (go_at_call 49; refine (turnOk_any _ _ _).mono ?_; rintro e w' ⟨rfl, rfl⟩; rw [hto])
        go_ret
        exact out _ _ ((Below.refl _ _).alloc (Nat.le_refl _) _) rfl HG.out
      | true =>
        have HT : Hid (1 ≤ now ∧ now ≤ 1000) := by
          show 1 ≤ now ∧ now ≤ 1000
          unfold turnIn at hto
          simpa using hto
        obtain ⟨b, off, rfl, hlt2, hc⟩ := hS.at (show 0 < n by omega)
        have c0 := (hc 0 (by omega)).1
        rw [Nat.zero_mul, Nat.add_zero] at c0
        clear hc
        by_cases g5 : (D 0).kind = 2
        · have hb5 : ((D 0).kind != 2) = false := by simp [g5]
          have H5 : Hid ((D 0).kind = 2) := g5
          clear g5
          unfold trV
          go_enter Try.func22, Try.ntmps22
          go_wp2_with (go_at_call 49; refine (turnOk_any _ _ _).mono ?_; rintro e w' ⟨rfl, rfl⟩; rw [hto])
          clear c0
          go_loopw [30] (fun i wr => ∃ k : Nat, k ≤ n ∧ i = .int .i64 k ∧ RefsIn w (some ⟨b, off, none⟩) n c now wr ∧ ∀ i, i < k → ndOk n D now (D i) = true) (fun i _ => n - (intOf i).toNat)
          case atStart => exact ⟨0, Nat.zero_le _, rfl, ⟨(new1 w _ _).b0, (new1 w _ _).bel⟩, fun i hi => by omega⟩
          case round =>
            obtain ⟨k, hk, rfl, hin, hall⟩ := hrel
            have t0 : wr.cell? ⟨w.heap.size, 0, none⟩ = some (.slice (some ⟨b, off, none⟩) n c) := hin.t.cell 0
            have t1 : wr.cell? ⟨w.heap.size, 1, none⟩ = some (.int .i64 now) := hin.t.cell 1
            have hSr := hS.below (Nat.le_refl _) hin.bel
            have hwl : w.heap.size < wr.heap.size := hin.t.lt
            by_cases hlt : k < n
            · obtain ⟨b', off', ha, hlt2', hc⟩ := hSr.at hlt
              cases ha
              obtain ⟨c0, c1, c2, c3, c4, hI⟩ := hc k hlt
              have hki : (k : Int) < (n : Int) := by omega
              have HIN : Hid (RefsIn w (some ⟨b, off, none⟩) n c now wr ∧ ∀ i, i < k → ndOk n D now (D i) = true) := ⟨hin, hall⟩
              clear hc hin hall
              go_wp2_with fail
              refine at_world (F := New1 wr _ _) (new1 wr _ _) ?_
              rintro W ⟨hp, hb, hs⟩
              refine (placeOk_any _ n c now D L (D k) (L k) W (hSr.below (Nat.le_refl _) hb) (hI.below (Nat.le_refl _) hb) (hf k hlt) hn).mono ?_
              rintro e w1 ⟨hb1', rfl⟩
              have hbw : Below wr.heap.size wr w1 := hb.trans (hb1'.mono (by omega))
              have HN : Hid (RefsIn w (some ⟨b, off, none⟩) n c now w1) := ⟨HIN.out.1.t.below hbw hwl, HIN.out.1.bel.trans (hbw.mono HIN.out.1.bel.size)⟩
              clear hp hb hs hb1' hbw c0 c1 c2 c3 c4 hI hSr t0 t1
              cases hq : ndOk n D now (D k) with
              | false =>
                have HQ : Hid (¬ TreeGood n D now) := fun h => by have := h.nodes k hlt; rw [hq] at this; cases this
                clear hq
                go_wp2
                go_ret
                exact out _ _ HN.out.bel rfl HQ.out
              | true =>
                have HQ : Hid (ndOk n D now (D k) = true) := hq
                clear hq
                go_wp2
                go_roundw
                case rel => exact ⟨k + 1, by omega, by go_num, HN.out, fun i hi => by
                  by_cases e : i = k
                  · subst e; exact HQ.out
                  · exact HIN.out.2 i (by omega)⟩
                case measure => simp [intOf]; omega
            · have hke : k = n := by omega
              have HALL : Hid (∀ i, i < n → ndOk n D now (D i) = true) := fun i hi => hall i (by omega)
              have HIN : Hid (RefsIn w (some ⟨b, off, none⟩) n c now wr) := hin
              clear hke hall hin
              go_wp2_with fail
              refine (reachOk_any _ n c now D L wr hSr (by omega) (by omega) (fun i hi => (hf i hi).kn) (kids_in HALL.out)).mono ?_
              rintro e w1 ⟨hb1', r, rfl, hr⟩
              have hN1 : RefsIn w (some ⟨b, off, none⟩) n c now w1 := ⟨HIN.out.t.below hb1' hwl, HIN.out.bel.trans (hb1'.mono HIN.out.bel.size)⟩
              have T0 : w1.cell? ⟨w.heap.size, 0, none⟩ = some (.slice (some ⟨b, off, none⟩) n c) := hN1.t.cell 0
              have T1 : w1.cell? ⟨w.heap.size, 1, none⟩ = some (.int .i64 now) := hN1.t.cell 1
              have HN1 : Hid (RefsIn w (some ⟨b, off, none⟩) n c now w1 ∧ (r = true ↔ ∀ i, i < n → (Reach n D i ↔ (D i).kind ≠ 0))) := ⟨hN1, hr⟩
              clear hb1' hN1 hr t0 t1 hSr
              cases r with
              | false =>
                have HQ : Hid (¬ TreeGood n D now) := fun h => by
                  have := HN1.out.2.2 (fun i hi => by
                    by_cases e : i = 0
                    · subst e; exact ⟨fun _ => by rw [H5.out]; decide, fun _ => .root⟩
                    · exact h.reach i (by omega) hi)
                  cases this
                go_wp2
                go_ret
                exact out _ _ HN1.out.1.bel rfl HQ.out
              | true =>
                go_wp2_with fail
                refine (namedOnce_any _ n c now D L w1 (hS.below (Nat.le_refl _) HN1.out.1.bel) (by omega) hsz (fun i hi => (hf i hi).kn) (kids_in HALL.out)).mono ?_
                rintro e w2 ⟨hb2', r2, rfl, hr2⟩
                have HE : Hid (Below w.heap.size w w2 ∧ (r2 = true ↔ TreeGood n D now)) := ⟨HN1.out.1.bel.trans (hb2'.mono HN1.out.1.bel.size),
                  fun h => ⟨by omega, by omega, HT.out.1, HT.out.2, H5.out, HALL.out, fun i _ hi => HN1.out.2.1 (by trivial) i hi, hr2.1 h⟩, fun h => hr2.2 h.one⟩
                clear hb2' hr2
                go_wp2
                go_ret
                exact ⟨HE.out.1, r2, rfl, HE.out.2⟩
        · have hb5 : ((D 0).kind != 2) = true := by simpa using g5
          have HG : Hid (¬ TreeGood n D now) := fun h => g5 h.root
          clear g5
          unfold trV
          go_enter Try.func22, Try.ntmps22
          go_wp2_with (go_at_call 49; refine (turnOk_any _ _ _).mono ?_; rintro e w' ⟨rfl, rfl⟩; rw [hto])
          go_ret
          exact out _ _ ((Below.refl _ _).alloc (Nat.le_refl _) _) rfl HG.out
end Go.Proofs.Yteoanlkmkmajjaa

/-
  What DumpOf of the program answers.
-/
namespace Go.Proofs.Yteoanlkmkmajjaa
open Go.RowKit Go.Deep Go.Shelf
set_option linter.unusedVariables false
set_option linter.unusedSimpArgs false
attribute [local go_sem] Oper.semAt_some

theorem dump_no {w w1 : World} (h : Blk w1 (w.heap.size + 1) #[.int .i64 0, .int .i64 0, .slice none 0 0, .slice none 0 0] 29 ∧ Below w.heap.size w w1) :
    Blk ((((w1.setCell ⟨w.heap.size + 1, 0, none⟩ (.int .i64 0)).setCell ⟨w.heap.size + 1, 1, none⟩ (.int .i64 0)).setCell ⟨w.heap.size + 1, 2, none⟩ (.slice none 0 0)).setCell ⟨w.heap.size + 1, 3, none⟩ (.slice none 0 0)) (w.heap.size + 1) #[.int .i64 0, .int .i64 0, .slice none 0 0, .slice none 0 0] 29 ∧ Below w.heap.size w ((((w1.setCell ⟨w.heap.size + 1, 0, none⟩ (.int .i64 0)).setCell ⟨w.heap.size + 1, 1, none⟩ (.int .i64 0)).setCell ⟨w.heap.size + 1, 2, none⟩ (.slice none 0 0)).setCell ⟨w.heap.size + 1, 3, none⟩ (.slice none 0 0)) :=
  ⟨(((h.1.set 0 _).set 1 _).set 2 _).set 3 _, bel_put (bel_put (bel_put (bel_put h.2 _ (by omega)) _ (by omega)) _ (by omega)) _ (by omega)⟩

set_option maxRecDepth 100000 in
set_option maxHeartbeats 4000000 in
theorem implDumpOf_any (a : Option Addr) (n c : Nat) (now since : Int) (D : Nat → Nd) (L : Nat → Loc) (w : World) (hS : IsNds w a n D L) (hf : FitAll n D) (hn : n ≤ maxLen) (hsz : sizeTo D n ≤ 1048576) (hnow : In64 now) :
    Calls Try.prog 8 #[trV a n c now, .int .i64 since] w (DumpOfPost w n D now since) := by
  have hn' := hn
  unfold maxLen at hn'
  unfold trV
  obtain ⟨y0, hy, hy0, hy1, hy2⟩ := info_parts infoItem
  refine (callsIn_wide (n := 3)).1 ?_
  refine callsIn_of_wp_marks Try.func8 rfl trivial ?_ rfl
  simp only [Try.ntmps8, List.size_toArray, List.length_cons, List.length_nil, Nat.reduceAdd, Nat.reduceSub, Array.replicate_succ, Array.replicate_zero, List.push_toArray, List.append_toArray, List.nil_append, List.cons_append]
  have h2 := new2 w #[.slice a n c, .int .i64 now] 34 #[.int .i64 0, .int .i64 0, .slice none 0 0, .slice none 0 0] 29
  obtain ⟨hp, hr, hb, hs⟩ := h2
  have HT : Hid (∀ W, Below w.heap.size w W → Calls Try.prog 22 #[.agg #[.slice a n c, .int .i64 now]] W fun e w' => Below W.heap.size W w' ∧ ∃ r : Bool, e = .returned (.bool r) ∧ (r = true ↔ TreeGood n D now)) := fun W hb => implTreeOk a n c now D L W (hS.below (Nat.le_refl _) hb) hf hn hsz hnow
  gi_wp2_with (refine ⟨trivial, ?_⟩; gi_at_call 22; refine (callsIn_wide.2 (HT.out _ hb)).mono ?_)
  rintro e w1 ⟨hb1, ok, rfl, hok⟩
  have hp1 := hp.below hb1 (by omega)
  have hr1 := hr.below hb1 (by omega)
  have hB1 := hb.trans (hb1.mono (by omega))
  have hs1 : w.heap.size + 2 ≤ w1.heap.size := by have := hb1.size; omega
  have p0 : w1.cell? ⟨w.heap.size, 0, none⟩ = some (.slice a n c) := hp1.cell 0
  have p1 : w1.cell? ⟨w.heap.size, 1, none⟩ = some (.int .i64 now) := hp1.cell 1
  have r0 : w1.cell? ⟨w.heap.size + 1, 0, none⟩ = some (.int .i64 0) := hr1.cell 0
  have r1 : w1.cell? ⟨w.heap.size + 1, 1, none⟩ = some (.int .i64 0) := hr1.cell 1
  have r2 : w1.cell? ⟨w.heap.size + 1, 2, none⟩ = some (.slice none 0 0) := hr1.cell 2
  have r3 : w1.cell? ⟨w.heap.size + 1, 3, none⟩ = some (.slice none 0 0) := hr1.cell 3
  have g0 := hr1.frozen 0
  have g1 := hr1.frozen 1
  have g2 := hr1.frozen 2
  have g3 := hr1.frozen 3
  have H1 : Hid (Blk w1 w.heap.size #[.slice a n c, .int .i64 now] 34 ∧ Blk w1 (w.heap.size + 1) #[.int .i64 0, .int .i64 0, .slice none 0 0, .slice none 0 0] 29 ∧ Below w.heap.size w w1) := ⟨hp1, hr1, hB1⟩
  clear hp hr hb hs hb1 hp1 hr1 hB1 HT
  by_cases hgo : ok = true ∧ 0 ≤ since ∧ since ≤ now
  · obtain ⟨rfl, hs0, hs1'⟩ := hgo
    have HG : Hid (TreeGood n D now) := hok.1 rfl
    have hb1 : decide (since < 0) = false := by simp; omega
    have hb2 : decide (now < since) = false := by simp; omega
    clear hok r0 r1 r2 r3 g0 g1 g2 g3
    gi_wp2
    have hn10 : n ≤ 10 := HG.out.few
    rw [wpIn_wide]
    apply wp_cutq2 (X := Nat) (Y := Nat) (fun V b2 W => IOf w (fun _ => False) a n c now since (fun i => (D i).kind != 0) V (some ⟨b2, 0, none⟩) n 0 none 0 (fun _ => 0) D L W)
    · intro key
      have KEY : Hid _ := key
      clear key
      refine wp_region_noPanic ?_
      refine wp_region_peel (fun W' => W'.cell? ⟨w.heap.size, 0, none⟩ = some (.slice a n c) ∧ W'.cell? ⟨w.heap.size, 1, none⟩ = some (.int .i64 now)) _ (by kernel_rfl) rfl (by kernel_rfl) ?_ (fun hHeld => ?_)
      · exact ⟨p0, p1⟩
      simp only [List.pop_toArray, List.dropLast, List.size_toArray, List.length_cons, List.length_nil, Nat.reduceAdd, Nat.reduceSub, List.getElem_toArray, List.getElem_cons_succ, List.getElem_cons_zero]
      refine peel_take (i := 0) (oi := ?oi0a) (v := ?v0a) (fun _ _ _ _ _ h => h) hHeld ?hi0a (by kernel_rfl) (by kernel_rfl) (by kernel_rfl) ?hw0a ?hy0a ?rest0a
      case hi0a =>
        simp only [List.getElem?_toArray, List.getElem?_cons_zero]
        rfl
      case hw0a => rfl
      case hy0a =>
        intro w hSw
        obtain ⟨s0, s1⟩ := hSw
        go_simp
        try with_reducible rfl
      try simp only [Act.put, List.setIfInBounds_toArray, List.set_cons_zero, List.set_cons_succ]
      refine peel_take (i := 1) (oi := ?oi1a) (v := ?v1a) (fun _ _ _ _ _ h => h) hHeld ?hi1a (by kernel_rfl) (by kernel_rfl) (by kernel_rfl) ?hw1a ?hy1a ?rest1a
      case hi1a =>
        simp only [List.getElem?_toArray, List.getElem?_cons_succ, List.getElem?_cons_zero]
        rfl
      case hw1a => rfl
      case hy1a =>
        intro w hSw
        obtain ⟨s0, s1⟩ := hSw
        go_simp
        try with_reducible rfl
      try simp only [Act.put, List.setIfInBounds_toArray, List.set_cons_zero, List.set_cons_succ]
      refine peel_take (i := 2) (oi := ?oi2a) (v := ?v2a) (fun _ _ _ _ _ h => h) hHeld ?hi2a (by kernel_rfl) (by kernel_rfl) (by kernel_rfl) ?hw2a ?hy2a ?rest2a
      case hi2a =>
        simp only [List.getElem?_toArray, List.getElem?_cons_succ, List.getElem?_cons_zero]
        rfl
      case hw2a => rfl
      case hy2a =>
        intro w hSw
        obtain ⟨s0, s1⟩ := hSw
        go_simp
        try with_reducible rfl
      try simp only [Act.put, List.setIfInBounds_toArray, List.set_cons_zero, List.set_cons_succ]
      refine peel_take (i := 3) (oi := ?oi3a) (v := ?v3a) (fun _ _ _ _ _ h => h) hHeld ?hi3a (by kernel_rfl) (by kernel_rfl) (by kernel_rfl) ?hw3a ?hy3a ?rest3a
      case hi3a =>
        simp only [List.getElem?_toArray, List.getElem?_cons_succ, List.getElem?_cons_zero]
        rfl
      case hw3a => rfl
      case hy3a =>
        intro w hSw
        obtain ⟨s0, s1⟩ := hSw
        go_simp
        try with_reducible rfl
      try simp only [Act.put, List.setIfInBounds_toArray, List.set_cons_zero, List.set_cons_succ]
      refine peel_take (i := 5) (oi := ?oi5a) (v := ?v5a) (fun _ _ _ _ _ h => h) hHeld ?hi5a (by kernel_rfl) (by kernel_rfl) (by kernel_rfl) ?hw5a ?hy5a ?rest5a
      case hi5a =>
        simp only [List.getElem?_toArray, List.getElem?_cons_succ, List.getElem?_cons_zero]
        rfl
      case hw5a => rfl
      case hy5a =>
        intro w hSw
        obtain ⟨s0, s1⟩ := hSw
        go_simp
        try with_reducible rfl
      try simp only [Act.put, List.setIfInBounds_toArray, List.set_cons_zero, List.set_cons_succ]
      refine peel_take (i := 6) (oi := ?oi6a) (v := ?v6a) (fun _ _ _ _ _ h => h) hHeld ?hi6a (by kernel_rfl) (by kernel_rfl) (by kernel_rfl) ?hw6a ?hy6a ?rest6a
      case hi6a =>
        simp only [List.getElem?_toArray, List.getElem?_cons_succ, List.getElem?_cons_zero]
        rfl
      case hw6a => rfl
      case hy6a =>
        intro w hSw
        obtain ⟨s0, s1⟩ := hSw
        go_simp
        try with_reducible rfl
      try simp only [Act.put, List.setIfInBounds_toArray, List.set_cons_zero, List.set_cons_succ]
      refine peel_take (i := 7) (oi := ?oi7a) (v := ?v7a) (fun _ _ _ _ _ h => h) hHeld ?hi7a (by kernel_rfl) (by kernel_rfl) (by kernel_rfl) ?hw7a ?hy7a ?rest7a
      case hi7a =>
        simp only [List.getElem?_toArray, List.getElem?_cons_succ, List.getElem?_cons_zero]
        rfl
      case hw7a => rfl
      case hy7a =>
        intro w hSw
        obtain ⟨s0, s1⟩ := hSw
        go_simp
        try with_reducible rfl
      try simp only [Act.put, List.setIfInBounds_toArray, List.set_cons_zero, List.set_cons_succ]
      have hB0 : Below w1.heap.size w1 w1.drew := (Below.refl _ _).drew
      refine wpAnyH_ready (rs := [4, 10]) (by kernel_rfl) (by simp) ?_
      refine AllReadyH.cons (o := ?o4q1a) ?ho4q1a (fun K hK => ?st4q1a) ?more4q1a
      case ho4q1a =>
        simp only [List.getElem?_toArray, List.getElem?_cons_succ, List.getElem?_cons_zero]
        rfl
      case st4q1a =>
        go_simp
        refine (bitsOfTree_any a n c now D L w1.drew (hS.below (Nat.le_refl _) (H1.out.2.2.trans (hB0.mono (by omega)))) hn10).mono ?_
        rintro e wq1a ⟨hbq1a, rfl⟩
        have hBq1a : Below w1.heap.size w1 wq1a := (hB0.trans (hbq1a.mono (hB0.size)))
        refine hK.out _ _ ⟨(hBq1a.cell (p := ⟨w.heap.size, 0, none⟩) (show w.heap.size < w1.heap.size by omega)).trans p0, (hBq1a.cell (p := ⟨w.heap.size, 1, none⟩) (show w.heap.size < w1.heap.size by omega)).trans p1⟩ (fun hHeld => ?_)
        clear hK K
        try simp only [Act.put, List.setIfInBounds_toArray, List.set_cons_zero, List.set_cons_succ]
        refine wpAnyH_ready (rs := [8, 10]) (by kernel_rfl) (by simp) ?_
        refine AllReadyH.cons (o := ?o8q2a) ?ho8q2a (fun K hK => ?st8q2a) ?more8q2a
        case ho8q2a =>
          simp only [List.getElem?_toArray, List.getElem?_cons_succ, List.getElem?_cons_zero]
          rfl
        case st8q2a =>
          go_simp
          refine (list_any (fun i => (D i).kind != 0) n wq1a hn10).mono ?_
          rintro e wq2a ⟨rfl, hbq2a, hrq2a⟩
          try simp only [World.size_alloc] at hrq2a
          have hBq2a : Below w1.heap.size w1 wq2a := (hBq1a.trans (hbq2a.mono (hBq1a.size)))
          refine hK.out _ _ ⟨(hBq2a.cell (p := ⟨w.heap.size, 0, none⟩) (show w.heap.size < w1.heap.size by omega)).trans p0, (hBq2a.cell (p := ⟨w.heap.size, 1, none⟩) (show w.heap.size < w1.heap.size by omega)).trans p1⟩ (fun hHeld => ?_)
          clear hK K
          try simp only [Act.put, List.setIfInBounds_toArray, List.set_cons_zero, List.set_cons_succ]
          refine wpAnyH_ready (rs := [9, 10]) (by kernel_rfl) (by simp) ?_
          refine AllReadyH.cons (o := ?o9q3a) ?ho9q3a (fun K hK => ?st9q3a) ?more9q3a
          case ho9q3a =>
            simp only [List.getElem?_toArray, List.getElem?_cons_succ, List.getElem?_cons_zero]
            rfl
          case st9q3a =>
            go_simp
            refine hK.out _ _ hHeld (fun hHeld => ?_)
            clear hK K
            try simp only [Act.put, List.setIfInBounds_toArray, List.set_cons_zero, List.set_cons_succ]
            refine wpAnyH_ready (rs := [10]) (by kernel_rfl) (by simp) ?_
            refine AllReadyH.cons (o := ?o10q4a) ?ho10q4a (fun K hK => ?st10q4a) AllReadyH.nil
            case ho10q4a =>
              simp only [List.getElem?_toArray, List.getElem?_cons_succ, List.getElem?_cons_zero]
              rfl
            go_simp
            have hbq4a : Below wq2a.heap.size wq2a (wq2a.alloc (.cells #[.int .i64 0, .int .i64 0, .slice none 0 0, .slice none 0 0] 29)) := (Below.refl _ _).alloc (Nat.le_refl _) _
            have hBq4a : Below w1.heap.size w1 (wq2a.alloc (.cells #[.int .i64 0, .int .i64 0, .slice none 0 0, .slice none 0 0] 29)) := (hBq2a.trans (hbq4a.mono (hBq2a.size)))
            have hvq4a : Blk (wq2a.alloc (.cells #[.int .i64 0, .int .i64 0, .slice none 0 0, .slice none 0 0] 29)) (wq2a.heap.size) #[.int .i64 0, .int .i64 0, .slice none 0 0, .slice none 0 0] 29 := Blk.new _ _ _
            refine hK.out _ _ ⟨(hBq4a.cell (p := ⟨w.heap.size, 0, none⟩) (show w.heap.size < w1.heap.size by omega)).trans p0, (hBq4a.cell (p := ⟨w.heap.size, 1, none⟩) (show w.heap.size < w1.heap.size by omega)).trans p1⟩ (fun hHeld => ?_)
            clear hK K
            try simp only [Act.put, List.setIfInBounds_toArray, List.set_cons_zero, List.set_cons_succ]
            refine wpAnyH_done (by kernel_rfl) ?_ _
            have HS : Hid _ := IOf.fresh (now := now) (since := since) (D := D) (L := L) H1.out hBq2a hrq2a (by have := hBq1a.size; first | omega | (simp at this; omega)) (by unfold maxLen; omega)
            show Oper.wp _ _ _ _ _ _
            go_simp
            generalize wq1a.heap.size = b2 at HS ⊢
            generalize wq2a.heap.size = V at HS ⊢
            exact NoPanic.normal (KEY.out _ _ _ HS.out)
          refine AllReadyH.cons (o := ?o10q3b) ?ho10q3b (fun K hK => ?st10q3b) AllReadyH.nil
          case ho10q3b =>
            simp only [List.getElem?_toArray, List.getElem?_cons_succ, List.getElem?_cons_zero]
            rfl
          go_simp
          have hbq3b : Below wq2a.heap.size wq2a (wq2a.alloc (.cells #[.int .i64 0, .int .i64 0, .slice none 0 0, .slice none 0 0] 29)) := (Below.refl _ _).alloc (Nat.le_refl _) _
          have hBq3b : Below w1.heap.size w1 (wq2a.alloc (.cells #[.int .i64 0, .int .i64 0, .slice none 0 0, .slice none 0 0] 29)) := (hBq2a.trans (hbq3b.mono (hBq2a.size)))
          have hvq3b : Blk (wq2a.alloc (.cells #[.int .i64 0, .int .i64 0, .slice none 0 0, .slice none 0 0] 29)) (wq2a.heap.size) #[.int .i64 0, .int .i64 0, .slice none 0 0, .slice none 0 0] 29 := Blk.new _ _ _
          refine hK.out _ _ ⟨(hBq3b.cell (p := ⟨w.heap.size, 0, none⟩) (show w.heap.size < w1.heap.size by omega)).trans p0, (hBq3b.cell (p := ⟨w.heap.size, 1, none⟩) (show w.heap.size < w1.heap.size by omega)).trans p1⟩ (fun hHeld => ?_)
          clear hK K
          try simp only [Act.put, List.setIfInBounds_toArray, List.set_cons_zero, List.set_cons_succ]
          refine wpAnyH_ready (rs := [9]) (by kernel_rfl) (by simp) ?_
          refine AllReadyH.cons (o := ?o9q6a) ?ho9q6a (fun K hK => ?st9q6a) AllReadyH.nil
          case ho9q6a =>
            simp only [List.getElem?_toArray, List.getElem?_cons_succ, List.getElem?_cons_zero]
            rfl
          go_simp
          refine hK.out _ _ hHeld (fun hHeld => ?_)
          clear hK K
          try simp only [Act.put, List.setIfInBounds_toArray, List.set_cons_zero, List.set_cons_succ]
          refine wpAnyH_done (by kernel_rfl) ?_ _
          have HS : Hid _ := IOf.fresh (now := now) (since := since) (D := D) (L := L) H1.out hBq2a hrq2a (by have := hBq1a.size; first | omega | (simp at this; omega)) (by unfold maxLen; omega)
          show Oper.wp _ _ _ _ _ _
          go_simp
          generalize wq1a.heap.size = b2 at HS ⊢
          generalize wq2a.heap.size = V at HS ⊢
          exact NoPanic.normal (KEY.out _ _ _ HS.out)
        refine AllReadyH.cons (o := ?o10q2b) ?ho10q2b (fun K hK => ?st10q2b) AllReadyH.nil
        case ho10q2b =>
          simp only [List.getElem?_toArray, List.getElem?_cons_succ, List.getElem?_cons_zero]
          rfl
        go_simp
        have hbq2b : Below wq1a.heap.size wq1a (wq1a.alloc (.cells #[.int .i64 0, .int .i64 0, .slice none 0 0, .slice none 0 0] 29)) := (Below.refl _ _).alloc (Nat.le_refl _) _
        have hBq2b : Below w1.heap.size w1 (wq1a.alloc (.cells #[.int .i64 0, .int .i64 0, .slice none 0 0, .slice none 0 0] 29)) := (hBq1a.trans (hbq2b.mono (hBq1a.size)))
        have hvq2b : Blk (wq1a.alloc (.cells #[.int .i64 0, .int .i64 0, .slice none 0 0, .slice none 0 0] 29)) (wq1a.heap.size) #[.int .i64 0, .int .i64 0, .slice none 0 0, .slice none 0 0] 29 := Blk.new _ _ _
        refine hK.out _ _ ⟨(hBq2b.cell (p := ⟨w.heap.size, 0, none⟩) (show w.heap.size < w1.heap.size by omega)).trans p0, (hBq2b.cell (p := ⟨w.heap.size, 1, none⟩) (show w.heap.size < w1.heap.size by omega)).trans p1⟩ (fun hHeld => ?_)
        clear hK K
        try simp only [Act.put, List.setIfInBounds_toArray, List.set_cons_zero, List.set_cons_succ]
        refine wpAnyH_ready (rs := [8]) (by kernel_rfl) (by simp) ?_
        refine AllReadyH.cons (o := ?o8q8a) ?ho8q8a (fun K hK => ?st8q8a) AllReadyH.nil
        case ho8q8a =>
          simp only [List.getElem?_toArray, List.getElem?_cons_succ, List.getElem?_cons_zero]
          rfl
        go_simp
        refine (list_any (fun i => (D i).kind != 0) n (wq1a.alloc (.cells #[.int .i64 0, .int .i64 0, .slice none 0 0, .slice none 0 0] 29)) hn10).mono ?_
        rintro e wq8a ⟨rfl, hbq8a, hrq8a⟩
        try simp only [World.size_alloc] at hrq8a
        have hBq8a : Below w1.heap.size w1 wq8a := (hBq2b.trans (hbq8a.mono (hBq2b.size)))
        refine hK.out _ _ ⟨(hBq8a.cell (p := ⟨w.heap.size, 0, none⟩) (show w.heap.size < w1.heap.size by omega)).trans p0, (hBq8a.cell (p := ⟨w.heap.size, 1, none⟩) (show w.heap.size < w1.heap.size by omega)).trans p1⟩ (fun hHeld => ?_)
        clear hK K
        try simp only [Act.put, List.setIfInBounds_toArray, List.set_cons_zero, List.set_cons_succ]
        refine wpAnyH_ready (rs := [9]) (by kernel_rfl) (by simp) ?_
        refine AllReadyH.cons (o := ?o9q9a) ?ho9q9a (fun K hK => ?st9q9a) AllReadyH.nil
        case ho9q9a =>
          simp only [List.getElem?_toArray, List.getElem?_cons_succ, List.getElem?_cons_zero]
          rfl
        go_simp
        refine hK.out _ _ hHeld (fun hHeld => ?_)
        clear hK K
        try simp only [Act.put, List.setIfInBounds_toArray, List.set_cons_zero, List.set_cons_succ]
        refine wpAnyH_done (by kernel_rfl) ?_ _
        have hv := (hvq2b.below hbq8a hvq2b.lt)
        have hr := hrq8a
        have z0 := hv.cell 0
        have z1 := hv.cell 1
        have z2 := hv.cell 2
        have z3 := hv.cell 3
        have f0 := hv.frozen 0
        have f1 := hv.frozen 1
        have f2 := hv.frozen 2
        have f3 := hv.frozen 3
        simp at z0 z1 z2 z3
        have HS : Hid _ := IOf.start (since := since) (D := D) (L := L) H1.out hBq8a hv hr hBq1a.size (by have := hBq2b.size; first | omega | (simp at this; omega)) (by unfold maxLen; omega)
        clear hv hr
        show Oper.wp _ _ _ _ _ _
        go_simp
        generalize wq1a.heap.size + 1 = b2 at HS ⊢
        generalize wq1a.heap.size = V at HS ⊢
        exact NoPanic.normal (KEY.out _ _ _ HS.out)
      refine AllReadyH.cons (o := ?o10q1b) ?ho10q1b (fun K hK => ?st10q1b) AllReadyH.nil
      case ho10q1b =>
        simp only [List.getElem?_toArray, List.getElem?_cons_succ, List.getElem?_cons_zero]
        rfl
      go_simp
      have hbq1b : Below w1.drew.heap.size w1.drew (w1.drew.alloc (.cells #[.int .i64 0, .int .i64 0, .slice none 0 0, .slice none 0 0] 29)) := (Below.refl _ _).alloc (Nat.le_refl _) _
      have hBq1b : Below w1.heap.size w1 (w1.drew.alloc (.cells #[.int .i64 0, .int .i64 0, .slice none 0 0, .slice none 0 0] 29)) := (hB0.trans (hbq1b.mono (hB0.size)))
      have hvq1b : Blk (w1.drew.alloc (.cells #[.int .i64 0, .int .i64 0, .slice none 0 0, .slice none 0 0] 29)) (w1.heap.size) #[.int .i64 0, .int .i64 0, .slice none 0 0, .slice none 0 0] 29 := Blk.new _ _ _
      refine hK.out _ _ ⟨(hBq1b.cell (p := ⟨w.heap.size, 0, none⟩) (show w.heap.size < w1.heap.size by omega)).trans p0, (hBq1b.cell (p := ⟨w.heap.size, 1, none⟩) (show w.heap.size < w1.heap.size by omega)).trans p1⟩ (fun hHeld => ?_)
      clear hK K
      try simp only [Act.put, List.setIfInBounds_toArray, List.set_cons_zero, List.set_cons_succ]
      refine wpAnyH_ready (rs := [4]) (by kernel_rfl) (by simp) ?_
      refine AllReadyH.cons (o := ?o4q11a) ?ho4q11a (fun K hK => ?st4q11a) AllReadyH.nil
      case ho4q11a =>
        simp only [List.getElem?_toArray, List.getElem?_cons_succ, List.getElem?_cons_zero]
        rfl
      go_simp
      refine (bitsOfTree_any a n c now D L (w1.drew.alloc (.cells #[.int .i64 0, .int .i64 0, .slice none 0 0, .slice none 0 0] 29)) (hS.below (Nat.le_refl _) (H1.out.2.2.trans (hBq1b.mono (by omega)))) hn10).mono ?_
      rintro e wq11a ⟨hbq11a, rfl⟩
      have hBq11a : Below w1.heap.size w1 wq11a := (hBq1b.trans (hbq11a.mono (hBq1b.size)))
      refine hK.out _ _ ⟨(hBq11a.cell (p := ⟨w.heap.size, 0, none⟩) (show w.heap.size < w1.heap.size by omega)).trans p0, (hBq11a.cell (p := ⟨w.heap.size, 1, none⟩) (show w.heap.size < w1.heap.size by omega)).trans p1⟩ (fun hHeld => ?_)
      clear hK K
      try simp only [Act.put, List.setIfInBounds_toArray, List.set_cons_zero, List.set_cons_succ]
      refine wpAnyH_ready (rs := [8]) (by kernel_rfl) (by simp) ?_
      refine AllReadyH.cons (o := ?o8q12a) ?ho8q12a (fun K hK => ?st8q12a) AllReadyH.nil
      case ho8q12a =>
        simp only [List.getElem?_toArray, List.getElem?_cons_succ, List.getElem?_cons_zero]
        rfl
      go_simp
      refine (list_any (fun i => (D i).kind != 0) n wq11a hn10).mono ?_
      rintro e wq12a ⟨rfl, hbq12a, hrq12a⟩
      try simp only [World.size_alloc] at hrq12a
      have hBq12a : Below w1.heap.size w1 wq12a := (hBq11a.trans (hbq12a.mono (hBq11a.size)))
      refine hK.out _ _ ⟨(hBq12a.cell (p := ⟨w.heap.size, 0, none⟩) (show w.heap.size < w1.heap.size by omega)).trans p0, (hBq12a.cell (p := ⟨w.heap.size, 1, none⟩) (show w.heap.size < w1.heap.size by omega)).trans p1⟩ (fun hHeld => ?_)
      clear hK K
      try simp only [Act.put, List.setIfInBounds_toArray, List.set_cons_zero, List.set_cons_succ]
      refine wpAnyH_ready (rs := [9]) (by kernel_rfl) (by simp) ?_
      refine AllReadyH.cons (o := ?o9q13a) ?ho9q13a (fun K hK => ?st9q13a) AllReadyH.nil
      case ho9q13a =>
        simp only [List.getElem?_toArray, List.getElem?_cons_succ, List.getElem?_cons_zero]
        rfl
      go_simp
      refine hK.out _ _ hHeld (fun hHeld => ?_)
      clear hK K
      try simp only [Act.put, List.setIfInBounds_toArray, List.set_cons_zero, List.set_cons_succ]
      refine wpAnyH_done (by kernel_rfl) ?_ _
      have hv := ((hvq1b.below hbq11a hvq1b.lt).below hbq12a (hvq1b.below hbq11a hvq1b.lt).lt)
      have hr := hrq12a
      have z0 := hv.cell 0
      have z1 := hv.cell 1
      have z2 := hv.cell 2
      have z3 := hv.cell 3
      have f0 := hv.frozen 0
      have f1 := hv.frozen 1
      have f2 := hv.frozen 2
      have f3 := hv.frozen 3
      simp at z0 z1 z2 z3
      have HS : Hid _ := IOf.start (since := since) (D := D) (L := L) H1.out hBq12a hv hr hB0.size (by have := hBq11a.size; first | omega | (simp at this; omega)) (by unfold maxLen; omega)
      clear hv hr
      show Oper.wp _ _ _ _ _ _
      go_simp
      generalize wq11a.heap.size = b2 at HS ⊢
      generalize w1.heap.size = V at HS ⊢
      exact NoPanic.normal (KEY.out _ _ _ HS.out)
    · intro V b2 W hI
      have hVl := hI.v.lt
      have hfar := hI.far
      have hwl := hI.p.lt
      have t0 : W.cell? ⟨w.heap.size, 0, none⟩ = some (.slice a n c) := hI.p.cell 0
      have t1 : W.cell? ⟨w.heap.size, 1, none⟩ = some (.int .i64 now) := hI.p.cell 1
      have HI : Hid _ := hI
      clear hI p0 p1 H1
      gi_wp2_with (refine ⟨trivial, ?_⟩; gi_at_call 25; refine (turned_in _ a n c now since _).mono ?_; rintro e w' ⟨rfl, rfl⟩)
      have hw2 : w.heap.size + 2 ≤ W.heap.size := by have := HI.out.v.lt; omega
      obtain ⟨b, off, rfl, hbl, hc⟩ := hS.at HG.out.some
      obtain ⟨W0, hW0⟩ : ∃ W0, W0 = (W.alloc (.cells #[.slice (some ⟨b, off, none⟩) n c, .int .i64 now] 34)).alloc (.cells #[.int .i64 since] 3) := ⟨_, rfl⟩
      have hT := (Blk.new W #[.slice (some ⟨b, off, none⟩) n c, .int .i64 now] 34).alloc (.cells #[.int .i64 since] 3)
      have hSb : Blk ((W.alloc (.cells #[.slice (some ⟨b, off, none⟩) n c, .int .i64 now] 34)).alloc (.cells #[.int .i64 since] 3)) (W.heap.size + 1) #[.int .i64 since] 3 := by
        have := Blk.new (W.alloc (.cells #[.slice (some ⟨b, off, none⟩) n c, .int .i64 now] 34)) #[.int .i64 since] 3
        simpa using this
      have hWW : Below W.heap.size W ((W.alloc (.cells #[.slice (some ⟨b, off, none⟩) n c, .int .i64 now] 34)).alloc (.cells #[.int .i64 since] 3)) := ((Below.refl _ _).alloc (Nat.le_refl _) _).alloc (by simp) _
      have hsz0 : ((W.alloc (.cells #[.slice (some ⟨b, off, none⟩) n c, .int .i64 now] 34)).alloc (.cells #[.int .i64 since] 3)).heap.size = W.heap.size + 2 := by simp
      rw [← hW0] at hT hSb hWW hsz0 ⊢
      clear hW0
      have hI0 := HI.out.more (Y := fun j => j = W.heap.size + 1) (W' := W0) (fun j hj => ⟨Or.inr (by omega), by omega⟩) hWW
      have hSl : W.heap.size + 1 < W0.heap.size := by omega
      have hbl0 : b < W0.heap.size := by omega
      have hc0 : ∀ i, i < n → W0.cell? ⟨b, off + i * 5, none⟩ = some (.int .i64 (D i).kind) ∧ W0.cell? ⟨b, off + i * 5 + 1, none⟩ = some (.string (D i).text) ∧ W0.cell? ⟨b, off + i * 5 + 2, none⟩ = some (.slice (L i).nA (D i).nn (L i).nc) ∧ W0.cell? ⟨b, off + i * 5 + 3, none⟩ = some (.slice (L i).kA (D i).kn (L i).kc) ∧ W0.cell? ⟨b, off + i * 5 + 4, none⟩ = some (.int .i64 (D i).turn) := fun i hi => by
        obtain ⟨c0, c1, c2, c3, c4, _⟩ := hc i hi
        have k : ∀ o v, w.cell? ⟨b, o, none⟩ = some v → W0.cell? ⟨b, o, none⟩ = some v := fun o v h => (hI0.bel.cell (p := ⟨b, o, none⟩) hbl).trans h
        exact ⟨k _ _ c0, k _ _ c1, k _ _ c2, k _ _ c3, k _ _ c4⟩
      have hTc : W0.cell? ⟨W.heap.size, 0, none⟩ = some (.slice (some ⟨b, off, none⟩) n c) := hT.cell 0
      have HSeq : Hid _ := turned_stops 2 (by omega) W.heap.size (W.heap.size + 1) b off n c now since D L hn10 W0 hTc (by omega) (hSb.cell 0) hSl hbl0 hc0
      have HI0 : Hid _ := hI0
      have HC : Hid _ := hc
      clear hI0 hT hSb hWW hc0 hTc HI t0 t1 hc hwl
      have hkb : ∀ (U : World) (l : Nat) (o o' : Obj), W0.heap.size ≤ l → U.heap[l]? = some o → o.isCells = false → o.isWalk = false → KeepsTwo (W.heap.size + 1) b U (U.putObj l o') := fun U l o o' hl _ _ _ => ⟨World.putObj_heap_other (by omega), World.putObj_heap_other (by omega)⟩
      refine wpIn_rangeFunc_ownH rfl (by omega) (gf := 54) (lb := #[.pointer (some ⟨W.heap.size, 0, none⟩), .pointer (some ⟨W.heap.size + 1, 0, none⟩)]) rfl trivial (enters_of Try.func54 (by kernel_rfl) rfl)
        HSeq.out (fun h1 h2 => ⟨h2.1.trans h1.1, h2.2.trans h1.2⟩) hkb (Below.refl _ _) (fun _ => rfl)
        (RndI w (some ⟨b, off, none⟩) n c now since D V b2 (W.heap.size + 1)) (fun _ _ _ => False) (rndI_own (by omega)) (fun _ s A B row h _ _ => h.elim) ⟨none, 0, _, _, _, HI0.out, fun i hi => absurd hi (Nat.not_lt_zero _)⟩
        (fun x a' U => ∃ Bx, Blk U Bx #[.int .i64 (D x.1).kind, .string (D x.1).text, .slice (L x.1).nA (D x.1).nn (L x.1).nc, .slice (L x.1).kA (D x.1).kn (L x.1).kc, .int .i64 (D x.1).turn] 53 ∧ a' = { tmps := #[.agg #[.slice (some ⟨b, off, none⟩) n c, .int .i64 now], .int .i64 since, .pointer (some ⟨w.heap.size, 0, none⟩), undef, .pointer (some ⟨w.heap.size + 1, 0, none⟩), .bool false, .pointer (some ⟨V, 0, none⟩), .int .i64 (x.1 : Nat), .pointer (some ⟨Bx, 0, none⟩), .agg #[.slice (some ⟨b, off, none⟩) n c, .int .i64 now], .bool true, .bool false, .bool false, .int .i64 since, .bool false, .bool false, .bool false, .int .i64 since, .pointer (some ⟨w.heap.size, 1, none⟩), .int .i64 now, .bool false, .bool false, undef, .int .i64 since, .pointer (some ⟨w.heap.size, 1, none⟩), .int .i64 now, .agg #[.slice (some ⟨b, off, none⟩) n c, .int .i64 now], .int .u16 (bvv (fun i => (D i).kind != 0) n : Nat), .pointer (some ⟨w.heap.size, 0, none⟩), .slice (some ⟨b, off, none⟩) n c, .int .i64 (n : Nat), .slice (some ⟨b2, 0, none⟩) n n, .agg #[.int .i64 since, .int .i64 now, .slice (some ⟨b2, 0, none⟩) n n, .slice none 0 0], .agg #[.slice (some ⟨b, off, none⟩) n c, .int .i64 now], .int .i64 since, .func (.func 54) #[] #[.pointer (some ⟨W.heap.size, 0, none⟩), .pointer (some ⟨W.heap.size + 1, 0, none⟩)], .int .i64 (x.1 : Nat), .agg #[.int .i64 (D x.1).kind, .string (D x.1).text, .slice (L x.1).nA (D x.1).nn (L x.1).nc, .slice (L x.1).kA (D x.1).kn (L x.1).kc, .int .i64 (D x.1).turn], undef, undef, undef, undef, undef, undef, undef, undef, undef, undef], defers := [] }) ?_ ?assign ?body ?done ?stop
      case assign =>
        rintro l pre x U K hi hK
        dsimp only [ndV]
        gi_wp2
        exact hK _ _ ((KeepsOthers.alloc _ _).from _) ⟨blk_alloc_lt _ _ _ (hi.choose_spec.choose_spec.choose_spec.choose_spec.choose_spec.1.lt _ rfl), blk_alloc_lt _ _ _ (by have := hi.choose_spec.choose_spec.choose_spec.choose_spec.choose_spec.1.bel.size; omega)⟩ (by
          obtain ⟨ia, ic, O, E, M, h1, h2⟩ := hi
          exact ⟨ia, ic, O, E, M, h1.below ((Below.refl _ _).alloc (Nat.le_refl _) _), h2⟩) ⟨U.heap.size, Blk.new _ _ _, rfl⟩
      case body =>
        rintro l pre x a' U hl ⟨rr, hrr⟩ ⟨ia, ic, O, E, M, hI, hsel⟩ ⟨Bx, hX, rfl⟩ hlt
        have v3 : U.cell? ⟨V, 3, none⟩ = some (.slice ia pre.length ic) := hI.v.cell 3
        have x0 : U.cell? ⟨Bx, 0, none⟩ = some (.int .i64 (D x.1).kind) := hX.cell 0
        have x1 : U.cell? ⟨Bx, 1, none⟩ = some (.string (D x.1).text) := hX.cell 1
        have x2 : U.cell? ⟨Bx, 2, none⟩ = some (.slice (L x.1).nA (D x.1).nn (L x.1).nc) := hX.cell 2
        have x3 : U.cell? ⟨Bx, 3, none⟩ = some (.slice (L x.1).kA (D x.1).kn (L x.1).kc) := hX.cell 3
        have x4 : U.cell? ⟨Bx, 4, none⟩ = some (.int .i64 (D x.1).turn) := hX.cell 4
        have hp10 : pre.length < 10 := by
          have h1 : (selT D since n).length ≤ n := by have := List.length_filter_le (fun i => decide (since < (D i).turn)) (List.range n); simpa [selT] using this
          omega
        have HU : Hid (IOf w (fun j => j = W.heap.size + 1) (some ⟨b, off, none⟩) n c now since (fun i => (D i).kind != 0) V (some ⟨b2, 0, none⟩) n pre.length ia ic O E M U) := hI
        have HX : Hid (Blk U Bx #[.int .i64 (D x.1).kind, .string (D x.1).text, .slice (L x.1).nA (D x.1).nn (L x.1).nc, .slice (L x.1).kA (D x.1).kn (L x.1).kc, .int .i64 (D x.1).turn] 53) := hX
        have hVU := hI.v.lt
        have hBU := hX.lt
        clear hI hX hrr hlt
        gi_wp2
        refine wpIn_region_peel (fun W' => W'.cell? ⟨V, 3, none⟩ = some (.slice ia pre.length ic) ∧ W'.cell? ⟨Bx, 0, none⟩ = some (.int .i64 (D x.1).kind) ∧ W'.cell? ⟨Bx, 1, none⟩ = some (.string (D x.1).text) ∧ W'.cell? ⟨Bx, 2, none⟩ = some (.slice (L x.1).nA (D x.1).nn (L x.1).nc) ∧ W'.cell? ⟨Bx, 3, none⟩ = some (.slice (L x.1).kA (D x.1).kn (L x.1).kc) ∧ W'.cell? ⟨Bx, 4, none⟩ = some (.int .i64 (D x.1).turn)) _ (by kernel_rfl) (by kernel_rfl) (fun ⟨_, _, h⟩ => h) rfl (by kernel_rfl) ?_ (fun hHeld => ?_)
        · exact ⟨v3, x0, x1, x2, x3, x4⟩
        simp only [List.pop_toArray, List.dropLast, List.size_toArray, List.length_cons, List.length_nil, Nat.reduceAdd, Nat.reduceSub, List.getElem_toArray, List.getElem_cons_succ, List.getElem_cons_zero]
        refine peel_take (i := 0) (oi := ?oi0c) (v := ?v0c) (fun _ _ _ _ _ h => h) hHeld ?hi0c (by kernel_rfl) (by kernel_rfl) (by kernel_rfl) ?hw0c ?hy0c ?rest0c
        case hi0c =>
          simp only [List.getElem?_toArray, List.getElem?_cons_zero]
          rfl
        case hw0c => rfl
        case hy0c =>
          intro w hSw
          obtain ⟨s0, s1, s2, s3, s4, s5⟩ := hSw
          go_simp
          try with_reducible rfl
        try simp only [Act.put, List.setIfInBounds_toArray, List.set_cons_zero, List.set_cons_succ]
        refine peel_take (i := 1) (oi := ?oi1c) (v := ?v1c) (fun _ _ _ _ _ h => h) hHeld ?hi1c (by kernel_rfl) (by kernel_rfl) (by kernel_rfl) ?hw1c ?hy1c ?rest1c
        case hi1c =>
          simp only [List.getElem?_toArray, List.getElem?_cons_succ, List.getElem?_cons_zero]
          rfl
        case hw1c => rfl
        case hy1c =>
          intro w hSw
          obtain ⟨s0, s1, s2, s3, s4, s5⟩ := hSw
          go_simp
          try with_reducible rfl
        try simp only [Act.put, List.setIfInBounds_toArray, List.set_cons_zero, List.set_cons_succ]
        refine peel_take (i := 2) (oi := ?oi2c) (v := ?v2c) (fun _ _ _ _ _ h => h) hHeld ?hi2c (by kernel_rfl) (by kernel_rfl) (by kernel_rfl) ?hw2c ?hy2c ?rest2c
        case hi2c =>
          simp only [List.getElem?_toArray, List.getElem?_cons_succ, List.getElem?_cons_zero]
          rfl
        case hw2c => rfl
        case hy2c =>
          intro w hSw
          obtain ⟨s0, s1, s2, s3, s4, s5⟩ := hSw
          go_simp
          try with_reducible rfl
        try simp only [Act.put, List.setIfInBounds_toArray, List.set_cons_zero, List.set_cons_succ]
        refine peel_take (i := 3) (oi := ?oi3c) (v := ?v3c) (fun _ _ _ _ _ h => h) hHeld ?hi3c (by kernel_rfl) (by kernel_rfl) (by kernel_rfl) ?hw3c ?hy3c ?rest3c
        case hi3c =>
          simp only [List.getElem?_toArray, List.getElem?_cons_succ, List.getElem?_cons_zero]
          rfl
        case hw3c => rfl
        case hy3c =>
          intro w hSw
          obtain ⟨s0, s1, s2, s3, s4, s5⟩ := hSw
          go_simp
          try with_reducible rfl
        try simp only [Act.put, List.setIfInBounds_toArray, List.set_cons_zero, List.set_cons_succ]
        refine wpAnyH_ready (rs := [4]) (by kernel_rfl) (by simp) ?_
        refine AllReadyH.cons (o := ?o4c) ?ho4c (fun K hK => ?st4c) AllReadyH.nil
        case ho4c =>
          simp only [List.getElem?_toArray, List.getElem?_cons_succ, List.getElem?_cons_zero]
          rfl
        go_simp
        have hNd : NdIn U.drew (D x.1) (L x.1) := by
          obtain ⟨b', o', _, _, hc'⟩ := (hS.below (Nat.le_refl _) (HU.out.bel.trans ((Below.refl U.heap.size U).drew.mono (by have := HU.out.bel.size; omega)))).at x.2.1
          exact (hc' x.1 x.2.1).2.2.2.2.2
        have hsm := size_le_sizeTo D n x.1 x.2.1
        unfold Nd.size at hsm
        refine (copyNode_any (D x.1) (L x.1) U.drew hNd (by omega) (by omega) (by omega) (fun i hi => by have := size_le_sumTo (D x.1).names (D x.1).nn i hi; omega)).mono ?_
        clear hNd hsm
        rintro e w4 ⟨l4, rfl, hN0⟩
        have hN : NewNn U (D x.1) l4 w4 := ⟨(Below.refl _ U).drew.trans hN0.bel, hN0.names, hN0.kids, hN0.apart⟩
        have hI4 := HU.out.below hN.bel
        have hX4 := HX.out.below hN.bel hBU
        refine hK.out _ _ ⟨hI4.v.cell 3, hX4.cell 0, hX4.cell 1, hX4.cell 2, hX4.cell 3, hX4.cell 4⟩ (fun hHeld => ?_)
        dsimp only [ndV]
        clear hK K
        try simp only [Act.put, List.setIfInBounds_toArray, List.set_cons_zero, List.set_cons_succ]
        refine wpAnyH_ready (rs := [5]) (by kernel_rfl) (by simp) ?_
        refine AllReadyH.cons (o := ?o5c) ?ho5c (fun K hK => ?st5c) AllReadyH.nil
        case ho5c =>
          simp only [List.getElem?_toArray, List.getElem?_cons_succ, List.getElem?_cons_zero]
          rfl
        go_simp
        refine hK.out _ _ hHeld (fun hHeld => ?_)
        clear hK K
        try simp only [Act.put, List.setIfInBounds_toArray, List.set_cons_zero, List.set_cons_succ]
        refine wpAnyH_ready (rs := [6]) (by kernel_rfl) (by simp) ?_
        refine AllReadyH.cons (o := ?o6c) ?ho6c (fun K hK => ?st6c) AllReadyH.nil
        case ho6c =>
          simp only [List.getElem?_toArray, List.getElem?_cons_succ, List.getElem?_cons_zero]
          rfl
        go_simp
        have hN6 := hN.alloc (.cells #[.int .i64 (x.1 : Nat), .int .i64 (D x.1).kind, .string (D x.1).text, .slice l4.nA (D x.1).nn l4.nc, .slice l4.kA (D x.1).kn l4.kc, .int .i64 (D x.1).turn] 56)
        have hI6 := HU.out.below hN6.bel
        have hX6 := HX.out.below hN6.bel hBU
        have hs6 := hI6.v.lt
        have hs7 := hI6.bel.size
        refine hK.out _ _ ⟨hI6.v.cell 3, hX6.cell 0, hX6.cell 1, hX6.cell 2, hX6.cell 3, hX6.cell 4⟩ (fun hHeld => ?_)
        clear hK K
        try simp only [Act.put, List.setIfInBounds_toArray, List.set_cons_zero, List.set_cons_succ]
        refine wpAnyH_ready (rs := [7]) (by kernel_rfl) (by simp) ?_
        refine AllReadyH.cons (o := ?o7c) ?ho7c (fun K hK => ?st7c) AllReadyH.nil
        case ho7c =>
          simp only [List.getElem?_toArray, List.getElem?_cons_succ, List.getElem?_cons_zero]
          rfl
        refine step_of (by rfl) (wp_append_src (.tmp 39) (.tmp 44) 27 rfl (w.heap.size + 2) 56 y0 (.agg #[.int .i64 0, .int .i64 0, .string ByteArray.empty, .slice none 0 0, .slice none 0 0, .int .i64 0]) 6 88 Try.underlying27 hy hy0 hy1 hy2 rfl (by decide) (.slice ia pre.length ic) pre.length _ (by rfl) hI6.od.ownI _ 1 _ (by rfl) (src_item w4 (x.1 : Nat) (D x.1) l4) (by unfold maxLen; omega) (by omega) (by omega) ?_)
        intro v' w7 hown hgrow _ hat
        obtain ⟨g', cap', rfl⟩ := ownsRow_succ hown
        have hV7 := blk_grown hI6.v hgrow (fun e => (hI6.off 1 V (by omega) (by simpa [valD] using e)).2 rfl)
        have hX7 := blk_grown hX6 hgrow (own_ne hI6.od.ownI hX6 (by decide))
        have v7 : w7.cell? ⟨V, 3, none⟩ = some (.slice ia pre.length ic) := hV7.cell 3
        have f7 := hV7.frozen 3
        have HFIN : Hid _ := rnd_step (B := W0.heap.size) (b0 := b) HU.out hsel hN6 hgrow hown (by
          rcases hat with e | e
          · left; simpa [Value.ownBlock] using e.symm
          · right
            simp [Value.ownBlock] at e
            simp
            omega) (by omega) hbl
        refine hK.out _ _ ⟨v7, hX7.cell 0, hX7.cell 1, hX7.cell 2, hX7.cell 3, hX7.cell 4⟩ (fun hHeld => ?_)
        clear hK K
        try simp only [Act.put, List.setIfInBounds_toArray, List.set_cons_zero, List.set_cons_succ]
        clear hown hgrow hat hI6 hX6 hI4 hX4 hN6 hN hN0 hV7 hX7 hs6 hs7
        refine wpAnyH_ready (rs := [8]) (by kernel_rfl) (by simp) ?_
        refine AllReadyH.cons (o := ?o8c) ?ho8c (fun K hK => ?st8c) AllReadyH.nil
        case ho8c =>
          simp only [List.getElem?_toArray, List.getElem?_cons_succ, List.getElem?_cons_zero]
          rfl
        go_simp
        refine hK.out _ _ hHeld (fun hHeld => ?_)
        clear hK K
        try simp only [Act.put, List.setIfInBounds_toArray, List.set_cons_zero, List.set_cons_succ]
        refine wpAnyH_done (by kernel_rfl) ?_ _
        show Oper.wp _ _ _ _ _ _
        go_simp
        exact HFIN.out
      case done =>
        rintro DD ys U hDD hys ⟨ia, ic, O, E, M, hI, hsel⟩ hK
        have v0 : U.cell? ⟨V, 0, none⟩ = some (.int .i64 since) := hI.v.cell 0
        have v1 : U.cell? ⟨V, 1, none⟩ = some (.int .i64 now) := hI.v.cell 1
        have v2 : U.cell? ⟨V, 2, none⟩ = some (.slice (some ⟨b2, 0, none⟩) n n) := hI.v.cell 2
        have v3 : U.cell? ⟨V, 3, none⟩ = some (.slice ia ys.length ic) := hI.v.cell 3
        have r0 : U.cell? ⟨w.heap.size + 1, 0, none⟩ = some (.int .i64 0) := hI.r.cell 0
        have r1 : U.cell? ⟨w.heap.size + 1, 1, none⟩ = some (.int .i64 0) := hI.r.cell 1
        have r2 : U.cell? ⟨w.heap.size + 1, 2, none⟩ = some (.slice none 0 0) := hI.r.cell 2
        have r3 : U.cell? ⟨w.heap.size + 1, 3, none⟩ = some (.slice none 0 0) := hI.r.cell 3
        have g0 := hI.r.frozen 0
        have g1 := hI.r.frozen 1
        have g2 := hI.r.frozen 2
        have g3 := hI.r.frozen 3
        have HF : Hid _ := rnd_done hI hK (by omega)
        have HY : Hid (ys.map (·.1) = selTo D since n ∧ ∀ i, i < ys.length → O i = ((ys.map (·.1)).getD i 0 : Nat) ∧ E i = D ((ys.map (·.1)).getD i 0)) := ⟨hys.trans (sel_same HG.out hs0), hsel⟩
        clear hI hK hys hsel hkb
        gi_wp2
        refine ⟨by simp, .inl ⟨_, _, rfl, run_takeDeferred HF.out.1, ?_⟩⟩
        have q0 := HF.out.2.1.cell 0
        have q1 := HF.out.2.1.cell 1
        have q2 := HF.out.2.1.cell 2
        have q3 := HF.out.2.1.cell 3
        simp at q0 q1 q2 q3
        refine ⟨.tuple #[.agg #[.int .i64 since, .int .i64 now, .slice (some ⟨b2, 0, none⟩) n n, .slice ia ys.length ic], .bool true], by simp [results, Try.results8, go_sem, q0, q1, q2, q3], ?_⟩
        refine ⟨HF.out.2.2.1, Or.inr ⟨HG.out, hs0, hs1', _, _, _, _, _, O, E, M, rfl, HF.out.2.2.2, ?_, ?_⟩⟩
        · rw [← HY.out.1, List.length_map]
        · rw [← HY.out.1]
          exact HY.out.2
      case stop =>
        rintro DD c' pre U hDD hpre h
        exact h.elim
      · rintro x a' _ A A' row ⟨Bx, hB, rfl⟩ hg hr
        exact ⟨Bx, blk_grown hB hg (fun e => by
          obtain ⟨_, o, ho, hc'⟩ := hr Bx e
          rw [hB] at ho
          cases ho
          cases hc'), rfl⟩
  · have HN : Hid (¬ (TreeGood n D now ∧ 0 ≤ since ∧ since ≤ now)) := fun h => hgo ⟨hok.2 h.1, h.2⟩
    have hcase : ok = false ∨ (ok = true ∧ since < 0) ∨ (ok = true ∧ 0 ≤ since ∧ now < since) := by
      rcases Bool.eq_false_or_eq_true ok with h | h
      · right
        by_cases h1 : since < 0
        · exact Or.inl ⟨h, h1⟩
        · exact Or.inr ⟨h, by omega, Decidable.byContradiction fun h2 => hgo ⟨h, by omega, by omega⟩⟩
      · exact Or.inl h
    have HE : Hid _ := dump_no H1.out.2
    clear hgo hok H1
    have fin : ∀ W, Blk W (w.heap.size + 1) #[.int .i64 0, .int .i64 0, .slice none 0 0, .slice none 0 0] 29 ∧ Below w.heap.size w W → W.cell? ⟨w.heap.size + 1, 0, none⟩ = some (.int .i64 0) ∧ W.cell? ⟨w.heap.size + 1, 1, none⟩ = some (.int .i64 0) ∧ W.cell? ⟨w.heap.size + 1, 2, none⟩ = some (.slice none 0 0) ∧ W.cell? ⟨w.heap.size + 1, 3, none⟩ = some (.slice none 0 0) := fun W h => ⟨h.1.cell 0, h.1.cell 1, h.1.cell 2, h.1.cell 3⟩
    have HF : Hid _ := fin
    clear fin
    rcases hcase with rfl | ⟨rfl, h1⟩ | ⟨rfl, h1, h2⟩
    · gi_wp2
      obtain ⟨q0, q1, q2, q3⟩ := HF.out _ HE.out
      refine ⟨.tuple #[.agg #[.int .i64 0, .int .i64 0, .slice none 0 0, .slice none 0 0], .bool false], by simp [results, Try.results8, go_sem, q0, q1, q2, q3], ?_⟩
      exact ⟨HE.out.2, Or.inl ⟨HN.out, rfl⟩⟩
    · have hb1 : decide (since < 0) = true := by simp; omega
      gi_wp2
      obtain ⟨q0, q1, q2, q3⟩ := HF.out _ HE.out
      refine ⟨.tuple #[.agg #[.int .i64 0, .int .i64 0, .slice none 0 0, .slice none 0 0], .bool false], by simp [results, Try.results8, go_sem, q0, q1, q2, q3], ?_⟩
      exact ⟨HE.out.2, Or.inl ⟨HN.out, rfl⟩⟩
    · have hb1 : decide (since < 0) = false := by simp; omega
      have hb2 : decide (now < since) = true := by simp; omega
      gi_wp2
      obtain ⟨q0, q1, q2, q3⟩ := HF.out _ HE.out
      refine ⟨.tuple #[.agg #[.int .i64 0, .int .i64 0, .slice none 0 0, .slice none 0 0], .bool false], by simp [results, Try.results8, go_sem, q0, q1, q2, q3], ?_⟩
      exact ⟨HE.out.2, Or.inl ⟨HN.out, rfl⟩⟩
end Go.Proofs.Yteoanlkmkmajjaa

/-
  What markTree does at a tree in memory of one's own, and what heldTree tells of it.
-/
namespace Go.Proofs.Yteoanlkmkmajjaa
open Go.RowKit Go.Deep
set_option linter.unusedVariables false
set_option linter.unusedSimpArgs false

/-- The first mark of place j. -/
def kaT (D : Nat → Nd) (k0 : Nat) : Nat → Nat | 0 => k0 | j + 1 => kaT D k0 j + (3 + (D j).nn + (D j).kn)
/-- A place, marked from q on. -/
def markNt (d : Nd) (q : Nat) : Nd := ⟨((q : Nat) : Int), ⟨(markOf (q + 1)).toArray⟩, d.nn, marks (q + 2), d.kn, fun i => ((q + 2 + d.nn + i : Nat) : Int), ((q + 2 + d.nn + d.kn : Nat) : Int)⟩
def markT (D : Nat → Nd) (k0 j : Nat) : Nat → Nd := fun i => if i < j then markNt (D i) (kaT D k0 i) else D i

theorem kaT_mono (D : Nat → Nd) (k0 : Nat) {i j : Nat} (h : i ≤ j) : kaT D k0 i ≤ kaT D k0 j := by
  induction h with
  | refl => exact Nat.le_refl _
  | step _ ih => rw [kaT]; omega

theorem valT_n {lv iv : Value} {D : Nat → Nd} {L : Nat → Loc} {j : Nat} : valT lv iv D L (2 + 2 * j) = .slice (L j).nA (D j).nn (L j).nc := by unfold valT; rw [if_neg (by omega), if_neg (by omega), if_pos (by omega), show (2 + 2 * j - 2) / 2 = j by omega]
theorem valT_k {lv iv : Value} {D : Nat → Nd} {L : Nat → Loc} {j : Nat} : valT lv iv D L (3 + 2 * j) = .slice (L j).kA (D j).kn (L j).kc := by unfold valT; rw [if_neg (by omega), if_neg (by omega), if_neg (by omega), show (3 + 2 * j - 2) / 2 = j by omega]

theorem kaT_ge (D : Nat → Nd) (k0 i : Nat) : k0 ≤ kaT D k0 i := kaT_mono D k0 (Nat.zero_le i)

set_option maxRecDepth 100000 in
set_option maxHeartbeats 4000000 in
theorem markNodeS_own (H : Nat) (ia : Option Addr) (m ic k0 B k : Nat) (Z : Nat → Bool) (O : Nat → Int) (D : Nat → Nd) (L : Nat → Loc) (lv : Value) (w : World) (h : OT w B k Z m O D L lv (.slice ia m ic)) (hm : m ≤ 1048576) (hk1 : 1 ≤ k0) (hH : ∀ d b, d < 2 + 2 * m → (valT lv (.slice ia m ic) D L d).ownBlock = some b → b < H) (hkaT : kaT D k0 m ≤ 90000000) (hsz : ∀ i, i < m → (D i).nn ≤ 1048576 ∧ (D i).kn ≤ 1048576) :
    Calls Try.prog 30 #[.slice ia m ic, .int .i64 k0] w fun e w' => e = .returned (.int .i64 (kaT D k0 m : Nat)) ∧ Fr B H w w' ∧ OT w' B k Z m O (markT D k0 m) L lv (.slice ia m ic) := by
  go_enter Try.func30, Try.ntmps30
  go_wp2
  go_loopw [1, 5] (fun kk i wr => ∃ j : Nat, j ≤ m ∧ i = .int .i64 j ∧ kk = .int .i64 (kaT D k0 j : Nat) ∧ Fr B H w wr ∧ OT wr B k Z m O (markT D k0 j) L lv (.slice ia m ic)) (fun _ i _ => m - (intOf i).toNat)
  case atStart => exact ⟨0, Nat.zero_le _, rfl, rfl, Fr.refl _ _ _, by rw [show markT D k0 0 = D from by funext i; simp [markT]]; exact h⟩
  case round =>
    obtain ⟨j, hj, rfl, rfl, hb, hod⟩ := hrel
    by_cases hlt : j < m
    · obtain ⟨g, rfl, hgl⟩ := owns_addr hod.ownI (by omega)
      have hBg : B ≤ g := (owns_block hod.ownI rfl).1
      have hgH : g < H := hH 1 g (by omega) rfl
      have hlti : (j : Int) < (m : Int) := by omega
      have hq1 := kaT_ge D k0 j
      have hq2 := kaT_mono D k0 (show j + 1 ≤ m by omega)
      have hq3 : kaT D k0 (j + 1) = kaT D k0 j + (3 + (D j).nn + (D j).kn) := rfl
      obtain ⟨hs1, hs2⟩ := hsz j hlt
      generalize hq : kaT D k0 j = q at *
      have HQ : Hid (kaT D k0 j = q) := hq
      clear hq
      have hqb : q ≤ 90000000 := by omega
      have hDj : markT D k0 j j = D j := by simp [markT]
      obtain ⟨c1, c2, c3, c4, c5⟩ := hod.cells hlt
      have f1 := hod.free (j * 5)
      have f2 := hod.free (j * 5 + 1)
      have f5 := hod.free (j * 5 + 4)
      rw [hDj] at c1 c2 c3 c4 c5
      have H0 : Hid (Fr B H w wr ∧ OT wr B k Z m O (markT D k0 j) L lv (.slice (some ⟨g, 0, none⟩) m ic)) := ⟨hb, hod⟩
      have H2 : Hid (Fr B H w (wr.setCell ⟨g, j * 5, none⟩ (.int .i64 (q : Int))) ∧ OT (wr.setCell ⟨g, j * 5, none⟩ (.int .i64 (q : Int))) B k Z m O (fun i => if i = j then { D j with kind := (q : Int) } else markT D k0 j i) L lv (.slice (some ⟨g, 0, none⟩) m ic)) := ⟨hb.put _ hBg hgH, by have := hod.putKind hlt (q : Int); rw [hDj] at this; exact this⟩
      clear hb hod H0
      go_wp2_with fail
      have e2 : (q : Int) + 1 = ((q + 1 : Nat) : Int) := by omega
      rw [e2]
      clear e2
      refine at_world (F := fun W => Fr B H w W ∧ OT W B k Z m O (fun i => if i = j then { D j with kind := (q : Int) } else markT D k0 j i) L lv (.slice (some ⟨g, 0, none⟩) m ic)) H2.out ?_
      clear H2 c1 c2 c3 c4 c5 f1 f2 f5
      rintro W2 ⟨hb2, hod2⟩
      refine (markText_any (q + 1) W2 (by omega) (by omega)).mono ?_
      rintro e W3 ⟨rfl, hb3⟩
      have hod3 := hod2.below hb3
      have hgl2 : g < W2.heap.size := (owns_block hod2.ownI rfl).2
      have hb3' : Fr B H w W3 := hb2.below (by omega) hb3
      obtain ⟨_, c2, _, _, _⟩ := hod3.cells hlt
      have f2 := hod3.free (j * 5 + 1)
      have c2' : W3.cell? ⟨g, j * 5 + 1, none⟩ = some (.string (D j).text) := by rw [c2]; simp
      have H4 : Hid (Fr B H w (W3.setCell ⟨g, j * 5 + 1, none⟩ (.string ⟨(markOf (q + 1)).toArray⟩)) ∧ OT (W3.setCell ⟨g, j * 5 + 1, none⟩ (.string ⟨(markOf (q + 1)).toArray⟩)) B k Z m O (fun i => if i = j then { D j with kind := (q : Int), text := ⟨(markOf (q + 1)).toArray⟩ } else markT D k0 j i) L lv (.slice (some ⟨g, 0, none⟩) m ic)) := ⟨hb3'.put _ hBg hgH, by
        have := hod3.putText hlt ⟨(markOf (q + 1)).toArray⟩
        rw [show (fun i => if i = j then { D j with kind := (q : Int), text := ⟨(markOf (q + 1)).toArray⟩ } else markT D k0 j i) = (fun i => if i = j then { (fun i => if i = j then { D j with kind := (q : Int) } else markT D k0 j i) j with text := ⟨(markOf (q + 1)).toArray⟩ } else (fun i => if i = j then { D j with kind := (q : Int) } else markT D k0 j i) i) from by
          funext i
          by_cases e : i = j <;> simp [e]]
        exact this⟩
      obtain ⟨_, _, c3, c4, _⟩ := H4.out.2.cells hlt
      have c3' : (W3.setCell ⟨g, j * 5 + 1, none⟩ (.string ⟨(markOf (q + 1)).toArray⟩)).cell? ⟨g, j * 5 + 2, none⟩ = some (.slice (L j).nA (D j).nn (L j).nc) := by rw [c3]; simp
      have d3 : W3.cell? ⟨g, j * 5 + 2, none⟩ = some (.slice (L j).nA (D j).nn (L j).nc) := by
        obtain ⟨_, _, c3, _, _⟩ := hod3.cells hlt
        rw [c3]; simp
      clear c2 c3 c4 c3' hod2 hod3 hb2 hb3 hb3'
      go_wp2_with fail
      have e3 : (q : Int) + 1 + 1 = ((q + 2 : Nat) : Int) := by omega
      rw [e3]
      clear e3
      refine at_world (F := fun W => Fr B H w W ∧ OT W B k Z m O (fun i => if i = j then { D j with kind := (q : Int), text := ⟨(markOf (q + 1)).toArray⟩ } else markT D k0 j i) L lv (.slice (some ⟨g, 0, none⟩) m ic)) H4.out ?_
      clear H4 c2' d3 f2
      rintro W4 ⟨hb4, hod4⟩
      have hN4 : W4.ownsRow B 9 1 (.slice (L j).nA (D j).nn (L j).nc) (D j).nn (strv (lst (D j).nn (D j).names)) := by simpa using hod4.ownN hlt
      have hgl4 : g < W4.heap.size := (owns_block hod4.ownI rfl).2
      refine (markStringS_own (L j).nA (D j).nn (L j).nc (q + 2) B (D j).names W4 hN4 hs1 (by omega) (by omega)).mono ?_
      rintro e W5 ⟨rfl, hown5, hg5⟩
      have hb5 : Fr B H w W5 := hb4.grow hg5 (by omega) (fun b e => ⟨(owns_block hN4 e).1, hH (2 + 2 * j) b (by omega) (by rw [valT_n]; exact e)⟩)
      have hod5 : OT W5 B k Z m O (fun i => if i = j then { D j with kind := (q : Int), text := ⟨(markOf (q + 1)).toArray⟩, names := marks (q + 2) } else markT D k0 j i) L lv (.slice (some ⟨g, 0, none⟩) m ic) := by
        have := hod4.turnNames hlt (marks (q + 2)) (by simpa using hg5) (by simpa using hown5)
        rw [show (fun i => if i = j then { D j with kind := (q : Int), text := ⟨(markOf (q + 1)).toArray⟩, names := marks (q + 2) } else markT D k0 j i) = (fun i => if i = j then { (fun i => if i = j then { D j with kind := (q : Int), text := ⟨(markOf (q + 1)).toArray⟩ } else markT D k0 j i) j with names := marks (q + 2) } else (fun i => if i = j then { D j with kind := (q : Int), text := ⟨(markOf (q + 1)).toArray⟩ } else markT D k0 j i) i) from by
          funext i
          by_cases e : i = j <;> simp [e]]
        exact this
      obtain ⟨_, _, _, c4, _⟩ := hod5.cells hlt
      have c4' : W5.cell? ⟨g, j * 5 + 3, none⟩ = some (.slice (L j).kA (D j).kn (L j).kc) := by rw [c4]; simp
      have hK5 : W5.ownsRow B 3 1 (.slice (L j).kA (D j).kn (L j).kc) (D j).kn (intv0 (D j).kn (D j).kids) := by simpa using hod5.ownK hlt
      have hgl5 : g < W5.heap.size := (owns_block hod5.ownI rfl).2
      have H5 : Hid (Fr B H w W5 ∧ OT W5 B k Z m O (fun i => if i = j then { D j with kind := (q : Int), text := ⟨(markOf (q + 1)).toArray⟩, names := marks (q + 2) } else markT D k0 j i) L lv (.slice (some ⟨g, 0, none⟩) m ic)) := ⟨hb5, hod5⟩
      have HK5 : Hid _ := hK5
      clear hb4 hod4 hN4 hown5 hg5 hb5 hod5 c4 hK5
      go_wp2_with fail
      refine (markIntS_own (L j).kA (D j).kn (L j).kc (q + 2 + (D j).nn) B (D j).kids W5 HK5.out hs2 (by omega)).mono ?_
      rintro e W6 ⟨rfl, hown6, hg6⟩
      have hb6 : Fr B H w W6 := H5.out.1.grow hg6 (by omega) (fun b e => ⟨(owns_block HK5.out e).1, hH (3 + 2 * j) b (by omega) (by rw [valT_k]; exact e)⟩)
      have hod6 : OT W6 B k Z m O (fun i => if i = j then { D j with kind := (q : Int), text := ⟨(markOf (q + 1)).toArray⟩, names := marks (q + 2), kids := fun i => ((q + 2 + (D j).nn + i : Nat) : Int) } else markT D k0 j i) L lv (.slice (some ⟨g, 0, none⟩) m ic) := by
        have := H5.out.2.turnKids hlt (fun i => ((q + 2 + (D j).nn + i : Nat) : Int)) (by simpa using hg6) (by simpa using hown6)
        rw [show (fun i => if i = j then { D j with kind := (q : Int), text := ⟨(markOf (q + 1)).toArray⟩, names := marks (q + 2), kids := fun i => ((q + 2 + (D j).nn + i : Nat) : Int) } else markT D k0 j i) = (fun i => if i = j then { (fun i => if i = j then { D j with kind := (q : Int), text := ⟨(markOf (q + 1)).toArray⟩, names := marks (q + 2) } else markT D k0 j i) j with kids := fun i => ((q + 2 + (D j).nn + i : Nat) : Int) } else (fun i => if i = j then { D j with kind := (q : Int), text := ⟨(markOf (q + 1)).toArray⟩, names := marks (q + 2) } else markT D k0 j i) i) from by
          funext i
          by_cases e : i = j <;> simp [e]]
        exact this
      obtain ⟨_, _, _, _, c5⟩ := hod6.cells hlt
      have c5' : W6.cell? ⟨g, j * 5 + 4, none⟩ = some (.int .i64 (D j).turn) := by rw [c5]; simp
      have f5 := hod6.free (j * 5 + 4)
      have H7 : Hid (Fr B H w (W6.setCell ⟨g, j * 5 + 4, none⟩ (.int .i64 ((q + 2 + (D j).nn + (D j).kn : Nat) : Int))) ∧ OT (W6.setCell ⟨g, j * 5 + 4, none⟩ (.int .i64 ((q + 2 + (D j).nn + (D j).kn : Nat) : Int))) B k Z m O (markT D k0 (j + 1)) L lv (.slice (some ⟨g, 0, none⟩) m ic)) := ⟨hb6.put _ hBg hgH, by
        have := hod6.putTurn hlt ((q + 2 + (D j).nn + (D j).kn : Nat) : Int)
        rw [show markT D k0 (j + 1) = (fun i => if i = j then { (fun i => if i = j then { D j with kind := (q : Int), text := ⟨(markOf (q + 1)).toArray⟩, names := marks (q + 2), kids := fun i => ((q + 2 + (D j).nn + i : Nat) : Int) } else markT D k0 j i) j with turn := ((q + 2 + (D j).nn + (D j).kn : Nat) : Int) } else (fun i => if i = j then { D j with kind := (q : Int), text := ⟨(markOf (q + 1)).toArray⟩, names := marks (q + 2), kids := fun i => ((q + 2 + (D j).nn + i : Nat) : Int) } else markT D k0 j i) i) from by
          funext i
          by_cases e : i = j
          · subst e; simp [markT, markNt, HQ.out]
          · by_cases e2 : i < j
            · simp [markT, e, e2, show i < j + 1 by omega]
            · simp [markT, e, e2, show ¬ i < j + 1 by omega]]
        exact this⟩
      have HQ3 : Hid (kaT D k0 (j + 1) = q + (3 + (D j).nn + (D j).kn)) := by show _ = _; rw [kaT, HQ.out]
      clear hown6 hg6 hb6 hod6 c5 H5 HK5 c4' hq1 hq2 hq3
      go_wp2_with fail
      go_roundw
      case rel =>
        have h7 := H7.out
        rw [show ((q + 2 + (D j).nn + (D j).kn : Nat) : Int) = (q : Int) + 2 + ((D j).nn : Int) + ((D j).kn : Int) from by omega] at h7
        exact ⟨j + 1, by omega, by go_num, by rw [HQ3.out]; go_num, h7.1, h7.2⟩
      case measure => simp [intOf]; omega
    · obtain rfl : j = m := by omega
      have HR : Hid _ := And.intro hb hod
      clear hb hod
      go_wp2
      go_ret
      exact ⟨rfl, HR.out.1, HR.out.2⟩


set_option maxHeartbeats 2000000 in
theorem markTree_own (a : Option Addr) (n c k0 B : Nat) (now : Int) (O : Nat → Int) (D : Nat → Nd) (L : Nat → Loc) (w : World) (h : OT w B 0 (fun _ => false) n O D L (.slice none 0 0) (.slice a n c)) (hn : n ≤ 1048576) (hk1 : 1 ≤ k0) (hkap : kaT D k0 n ≤ 90000000) (hsz : ∀ i, i < n → (D i).nn ≤ 1048576 ∧ (D i).kn ≤ 1048576) (hB : B ≤ w.heap.size) (H : Nat) (hH : ∀ d b, d < 2 + 2 * n → (valT (.slice none 0 0) (.slice a n c) D L d).ownBlock = some b → b < H) :
    Calls Try.prog 11 #[trV a n c now, .int .i64 k0] w fun e w' => e = .returned (.int .i64 (kaT D k0 n : Nat)) ∧ Fr B H w w' ∧ OT w' B 0 (fun _ => false) n O (markT D k0 n) L (.slice none 0 0) (.slice a n c) := by
  unfold trV
  go_enter Try.func11, Try.ntmps11
  go_wp2_with fail
  refine at_world (F := New1 w _ _) (new1 w _ _) ?_
  rintro W ⟨hp, hb, hs⟩
  refine (markNodeS_own H a n c k0 B 0 (fun _ => false) O D L (.slice none 0 0) W (h.below hb) hn hk1 hH hkap hsz).mono ?_
  rintro e W3 ⟨rfl, hb3, hod3⟩
  have H3 : Hid (Fr B H w W3 ∧ OT W3 B 0 (fun _ => false) n O (markT D k0 n) L (.slice none 0 0) (.slice a n c)) := ⟨⟨(hb.mono hB).trans hb3.bel, fun j hj hl => (hb3.far j hj (by omega)).trans (hb.block j hl)⟩, hod3⟩
  clear hb3 hod3 hp hb hs
  go_wp2
  go_ret
  exact ⟨rfl, H3.out.1, H3.out.2⟩

end Go.Proofs.Yteoanlkmkmajjaa

/-
  FnExactDumpOf, walked.
-/
namespace Go.Proofs.Yteoanlkmkmajjaa
open Go.RowKit Go.Deep
set_option linter.unusedVariables false
set_option linter.unusedSimpArgs false

/-- The cells of what is kept, in a variable. -/
def dC (d : Dp) (l : DLoc) : Array Value := #[.int .i64 d.since, .int .i64 d.date, .slice l.lA d.ln l.lc, .slice l.iA d.m l.ic]

theorem dC_cells {W : World} {b : Nat} {d : Dp} {l : DLoc} {t : TypeId} (h : Blk W b (dC d l) t) :
    W.cell? ⟨b, 0, none⟩ = some (.int .i64 d.since) ∧ W.cell? ⟨b, 1, none⟩ = some (.int .i64 d.date) ∧ W.cell? ⟨b, 2, none⟩ = some (.slice l.lA d.ln l.lc) ∧ W.cell? ⟨b, 3, none⟩ = some (.slice l.iA d.m l.ic) := ⟨h.cell 0, h.cell 1, h.cell 2, h.cell 3⟩

/-- What is known behind both calls: B8 and b8 bound the memory of the tree that was handed in, B9 and b9 that of the answer. -/
structure FE (w w3 : World) (a : Option Addr) (n c : Nat) (now : Int) (d : Dp) (l1 l2 : DLoc) (b8 b9 bx : Nat) (W : World) : Prop where
  p : Blk W w.heap.size #[.slice a n c, .int .i64 now] 24
  bel : Below w.heap.size w W
  base : Below w3.heap.size w3 W
  v6 : Blk W w3.heap.size (dC d l1) 29
  v8 : Blk W b8 #[.slice (some ⟨bx, 0, none⟩) n n, .int .i64 now] 34
  v9 : Blk W b9 (dC d l2) 29
  wl : w.heap.size < w3.heap.size
  xl : w3.heap.size < bx

theorem FE.below {w w3 : World} {a : Option Addr} {n c : Nat} {now : Int} {d : Dp} {l1 l2 : DLoc} {b8 b9 bx : Nat} {W W' : World} (h : FE w w3 a n c now d l1 l2 b8 b9 bx W) (hb : Below W.heap.size W W') : FE w w3 a n c now d l1 l2 b8 b9 bx W' :=
  ⟨h.p.below hb h.p.lt, h.bel.trans (hb.mono (by have := h.p.lt; omega)), h.base.trans (hb.mono (by have := h.v6.lt; omega)), h.v6.below hb h.v6.lt, h.v8.below hb h.v8.lt, h.v9.below hb h.v9.lt, h.wl, h.xl⟩

theorem FE.drew {w w3 : World} {a : Option Addr} {n c : Nat} {now : Int} {d : Dp} {l1 l2 : DLoc} {b8 b9 bx : Nat} {W : World} (h : FE w w3 a n c now d l1 l2 b8 b9 bx W) (k : Nat) : FE w w3 a n c now d l1 l2 b8 b9 bx (W.drewN k) := h.below (below_drewN (Below.refl _ _) k)

/-- Rows from bx on and below b8 are written into. -/
theorem FE.fr {w w3 : World} {a : Option Addr} {n c : Nat} {now : Int} {d : Dp} {l1 l2 : DLoc} {b8 b9 bx B H : Nat} {W W' : World} (h : FE w w3 a n c now d l1 l2 b8 b9 bx W) (hb : Fr B H W W') (hB : w3.heap.size < B) (h8 : b8 < B ∨ H ≤ b8) (h9 : H ≤ b9) : FE w w3 a n c now d l1 l2 b8 b9 bx W' := by
  have hwl := h.wl
  refine ⟨h.p.below hb.bel (by omega), h.bel.trans (hb.bel.mono (by omega)), h.base.trans (hb.bel.mono (by omega)), h.v6.below hb.bel hB, h.v8.of_block ?_, h.v9.of_block (hb.far _ h9 h.v9.lt), hwl, h.xl⟩
  rcases h8 with e | e
  · exact hb.bel.block _ e
  · exact hb.far _ e h.v8.lt

theorem FE.cells {w w3 : World} {a : Option Addr} {n c : Nat} {now : Int} {d : Dp} {l1 l2 : DLoc} {b8 b9 bx : Nat} {W : World} (h : FE w w3 a n c now d l1 l2 b8 b9 bx W) :
    (W.cell? ⟨w.heap.size, 0, none⟩ = some (.slice a n c) ∧ W.cell? ⟨w.heap.size, 1, none⟩ = some (.int .i64 now)) ∧ (W.cell? ⟨b8, 0, none⟩ = some (.slice (some ⟨bx, 0, none⟩) n n) ∧ W.cell? ⟨b8, 1, none⟩ = some (.int .i64 now)) ∧
    (W.cell? ⟨w3.heap.size, 0, none⟩ = some (.int .i64 d.since) ∧ W.cell? ⟨w3.heap.size, 1, none⟩ = some (.int .i64 d.date) ∧ W.cell? ⟨w3.heap.size, 2, none⟩ = some (.slice l1.lA d.ln l1.lc) ∧ W.cell? ⟨w3.heap.size, 3, none⟩ = some (.slice l1.iA d.m l1.ic)) ∧
    (W.cell? ⟨b9, 0, none⟩ = some (.int .i64 d.since) ∧ W.cell? ⟨b9, 1, none⟩ = some (.int .i64 d.date) ∧ W.cell? ⟨b9, 2, none⟩ = some (.slice l2.lA d.ln l2.lc) ∧ W.cell? ⟨b9, 3, none⟩ = some (.slice l2.iA d.m l2.ic)) :=
  ⟨⟨h.p.cell 0, h.p.cell 1⟩, ⟨h.v8.cell 0, h.v8.cell 1⟩, dC_cells h.v6, dC_cells h.v9⟩

theorem kaT_le {D : Nat → Nd} {k0 : Nat} : ∀ m, kaT D k0 m ≤ k0 + 3 * m + sizeTo D m
  | 0 => by simp [kaT, sizeTo]
  | m + 1 => by
    have h1 := kaT_le (D := D) (k0 := k0) m
    rw [kaT, sizeTo_succ]
    unfold Nd.size
    omega

set_option maxHeartbeats 8000000 in
theorem lawDumpOf (a : Option Addr) (n c : Nat) (now since : Int) (D : Nat → Nd) (L : Nat → Loc) (w : World) (hS : IsNds w a n D L) (hf : FitAll n D) (hn : n ≤ maxLen) (hnow : In64 now) :
    Calls Try.prog 3 #[trV a n c now, .int .i64 since] w fun e w' => e = .returned (.bool true) ∧ Below w.heap.size w w' := by
  unfold trV
  go_enter Try.func3, Try.ntmps3
  go_wp2_with fail
  refine at_world (F := New1 w _ _) (new1 w _ _) ?_
  rintro W ⟨hp, hb, hs⟩
  have hS0 := hS.below (Nat.le_refl _) hb
  refine (szTree_any a n c now D L _ W hS0 hf hn (by omega) (by omega)).mono ?_
  rintro e w1 ⟨hb1, r, rfl, hr1, hr2⟩
  have hbel1 := hb.trans (hb1.mono (by omega))
  by_cases hr3 : r < 0
  · have hr3' : decide (r < 0) = true := by simp; omega
    have HB : Hid (Below w.heap.size w w1) := hbel1
    clear hbel1 hb1 hb hp hr2 hS0
    go_wp2
    go_ret
    exact ⟨rfl, HB.out⟩
  · have hr3' : decide (r < 0) = false := by simp; omega
    have hsz : sizeTo D n ≤ 1048576 ∧ n ≤ 1048576 := by have := hr2 (by omega); omega
    obtain ⟨d, ok, hsm, hans⟩ := dump_ans n D now since hf hsz.1
    have HA : Hid _ := hans
    have hp1 := hp.below hb1 (by omega)
    have p0 : w1.cell? ⟨w.heap.size, 0, none⟩ = some (.slice a n c) := hp1.cell 0
    have p1 : w1.cell? ⟨w.heap.size, 1, none⟩ = some (.int .i64 now) := hp1.cell 1
    have H1 : Hid (Below w.heap.size w w1 ∧ Blk w1 w.heap.size #[.slice a n c, .int .i64 now] 24) := ⟨hbel1, hp1⟩
    have hwl := hp1.lt
    have HT : Hid (∀ W, Below w.heap.size w W → Calls Try.prog 7 #[trV a n c now] W fun e w' => ∃ b, e = .returned (trV (some ⟨b, 0, none⟩) n n now) ∧ Below W.heap.size W w' ∧ W.heap.size ≤ b ∧ ∃ L', OT w' b 0 (fun _ => false) n (fun _ => 0) D L' (.slice none 0 0) (.slice (some ⟨b, 0, none⟩) n n)) := fun W hW => toTree_own a n c now D L W (hS.below (Nat.le_refl _) hW) hsz.2 (small_of_size hsz.1)
    have HSZ : Hid (sizeTo D n ≤ 1048576 ∧ n ≤ 1048576) := hsz
    have HSM : Hid (DpSmall d) := hsm
    clear hbel1 hb1 hb hp hr2 hS0 hp1 hs hans hS hsz hsm
    go_wp2_with fail
    refine (HT.out w1 H1.out.1).mono ?_
    rintro e w2 ⟨b2, rfl, hb2, hge2, L2, hot2⟩
    unfold trV
    have H2 : Hid (Below w1.heap.size w1 w2 ∧ IsNds w2 (some ⟨b2, 0, none⟩) n D L2) := ⟨hb2, hot2.nds⟩
    have hwl2 : w1.heap.size ≤ w2.heap.size := hb2.size
    clear hb2 hge2 hot2
    go_wp2_with fail
    refine (specDumpOf_any _ n n now since D L2 w2 H2.out.2 hf hn HSZ.out.1).mono ?_
    intro e w3 hpost
    obtain ⟨hb3, l1, rfl, hod3⟩ := HA.out _ _ _ hpost
    have hb13 : Below w1.heap.size w1 w3 := H2.out.1.trans (hb3.mono hwl2)
    have H3 : Hid (Below w.heap.size w w3 ∧ Blk w3 w.heap.size #[.slice a n c, .int .i64 now] 24 ∧ DpIn w3 d l1) := ⟨H1.out.1.trans (hb13.mono (by omega)), H1.out.2.below hb13 hwl, hod3.dpIn⟩
    have hwl3 : w.heap.size < w3.heap.size := by have := hb13.size; omega
    have q0 : w3.cell? ⟨w.heap.size, 0, none⟩ = some (.slice a n c) := H3.out.2.1.cell 0
    have q1 : w3.cell? ⟨w.heap.size, 1, none⟩ = some (.int .i64 now) := H3.out.2.1.cell 1
    unfold dpV
    clear hb3 hod3 hb13 hpost H2 H1 p0 p1
    go_wp2_with fail
    refine at_world (F := New1 w3 (dC d l1) 29) (new1 w3 _ _) ?_
    rintro W4 ⟨hv6, hb4, hs4⟩
    have hbW4 := H3.out.1.trans (hb4.mono (by omega))
    refine (HT.out W4 hbW4).mono ?_
    rintro e w5 ⟨bx, rfl, hb5, hgex, Lx, hotx⟩
    unfold trV
    have hb35 : Below w3.heap.size w3 w5 := hb4.trans (hb5.mono (by omega))
    have H5 : Hid (Below w.heap.size w w5 ∧ Blk w5 w.heap.size #[.slice a n c, .int .i64 now] 24 ∧ Below w3.heap.size w3 w5 ∧ Blk w5 w3.heap.size (dC d l1) 29 ∧ OT w5 bx 0 (fun _ => false) n (fun _ => 0) D Lx (.slice none 0 0) (.slice (some ⟨bx, 0, none⟩) n n)) :=
      ⟨H3.out.1.trans (hb35.mono (by omega)), H3.out.2.1.below hb35 hwl3, hb35, hv6.below hb5 (by omega), hotx⟩
    have HI3 : Hid (DpIn w3 d l1) := H3.out.2.2
    have hwl5 : w3.heap.size < w5.heap.size := H5.out.2.2.2.1.lt
    have hbx : w3.heap.size < bx := by omega
    have hbxl : bx < w5.heap.size := owns_block H5.out.2.2.2.2.ownI rfl |>.2
    clear hb4 hb5 hb35 hv6 hs4 hbW4 hotx hgex H3 q0 q1
    go_wp2_with fail
    refine at_world (F := New1 w5 #[.slice (some ⟨bx, 0, none⟩) n n, .int .i64 now] 34) (new1 w5 _ _) ?_
    rintro W6 ⟨hv8, hb6, hs6⟩
    refine (implDumpOf_any (some ⟨bx, 0, none⟩) n n now since D Lx W6 ((H5.out.2.2.2.2.below hb6).nds) hf hn HSZ.out.1 hnow).mono ?_
    intro e w7 hpost
    obtain ⟨hb7, l2, rfl, hod7⟩ := HA.out _ _ _ hpost
    have hb57 : Below w5.heap.size w5 w7 := hb6.trans (hb7.mono (by omega))
    have H7 : Hid (Below w.heap.size w w7 ∧ Blk w7 w.heap.size #[.slice a n c, .int .i64 now] 24 ∧ Below w3.heap.size w3 w7 ∧ Blk w7 w3.heap.size (dC d l1) 29 ∧ OT w7 bx 0 (fun _ => false) n (fun _ => 0) D Lx (.slice none 0 0) (.slice (some ⟨bx, 0, none⟩) n n) ∧ Blk w7 w5.heap.size #[.slice (some ⟨bx, 0, none⟩) n n, .int .i64 now] 34 ∧ OwnDp w7 W6.heap.size d l2) :=
      ⟨H5.out.1.trans (hb57.mono (by omega)), H5.out.2.1.below hb57 (by omega), H5.out.2.2.1.trans (hb57.mono (by omega)), H5.out.2.2.2.1.below hb57 hwl5, H5.out.2.2.2.2.below hb57, hv8.below hb7 (by omega), hod7⟩
    have HOX : Hid (∀ dd b, dd < 2 + 2 * n → (valT (.slice none 0 0) (.slice (some ⟨bx, 0, none⟩) n n) D Lx dd).ownBlock = some b → b < w5.heap.size) := fun dd b hd e => (owns_block (H5.out.2.2.2.2.rows.own dd hd) e).2
    have HOY : Hid (∀ dd b, dd < 2 + 2 * d.m → (valD (.slice l2.lA d.ln l2.lc) (.slice l2.iA d.m l2.ic) d.nd l2.L dd).ownBlock = some b → b < w7.heap.size) := fun dd b hd e => (owns_block (hod7.rows.own dd hd) e).2
    have hW6 : W6.heap.size = w5.heap.size + 1 := hs6
    have hwl7 : w5.heap.size + 1 ≤ w7.heap.size := by have := hb7.size; omega
    have hne : (!(ok == ok)) = false := by cases ok <;> rfl
    unfold dpV
    clear hb6 hb7 hb57 hv8 hs6 hpost hod7 H5
    generalize W6.heap.size = B9 at *
    obtain ⟨z0, z1, z2, z3⟩ := dC_cells H7.out.2.2.2.1
    have hwl37 : w3.heap.size < w7.heap.size := by omega
    have hne37 : w3.heap.size ≠ w7.heap.size := by omega
    go_wp2_with fail
    clear z0 z1 z2 z3
    have HF8 : Hid (∀ W8, W8 = w7.alloc (.cells (dC d l2) 29) → FE w w3 a n c now d l1 l2 w5.heap.size w7.heap.size bx W8 ∧ OT W8 bx 0 (fun _ => false) n (fun _ => 0) D Lx (.slice none 0 0) (.slice (some ⟨bx, 0, none⟩) n n) ∧ OwnDp W8 B9 d l2) := fun W8 e => by
      obtain ⟨hv9, hb8, hs8⟩ := new1 w7 (dC d l2) 29
      rw [← e] at hv9 hb8
      exact ⟨⟨H7.out.2.1.below hb8 (by omega), H7.out.1.trans (hb8.mono (by omega)), H7.out.2.2.1.trans (hb8.mono (by omega)), H7.out.2.2.2.1.below hb8 (by omega), H7.out.2.2.2.2.2.1.below hb8 (by omega), hv9, by omega, hbx⟩, H7.out.2.2.2.2.1.below hb8, OD.below H7.out.2.2.2.2.2.2 hb8⟩
    refine at_world (F := fun W8 => FE w w3 a n c now d l1 l2 w5.heap.size w7.heap.size bx W8 ∧ OT W8 bx 0 (fun _ => false) n (fun _ => 0) D Lx (.slice none 0 0) (.slice (some ⟨bx, 0, none⟩) n n) ∧ OwnDp W8 B9 d l2) (HF8.out _ rfl) ?_
    clear HF8 H7
    rintro W8 ⟨hF8, hot8, hod8⟩
    refine (eqDump_any d d l2 l1 W8 (OwnDp.dpIn hod8) (HI3.out.below (Nat.le_refl _) hF8.base) HSM.out.fits HSM.out.fits).mono ?_
    rintro e w9 ⟨hb9, rfl⟩
    rw [Dp.same_self]
    obtain ⟨⟨p0, p1⟩, ⟨x0, x1⟩, _, _⟩ := (hF8.below hb9).cells
    have H9 : Hid (FE w w3 a n c now d l1 l2 w5.heap.size w7.heap.size bx w9 ∧ OT w9 bx 0 (fun _ => false) n (fun _ => 0) D Lx (.slice none 0 0) (.slice (some ⟨bx, 0, none⟩) n n) ∧ OwnDp w9 B9 d l2) := ⟨hF8.below hb9, hot8.below hb9, OD.below hod8 hb9⟩
    clear hF8 hot8 hod8 hb9
    go_wp2_with fail
    apply wp_cut1 (X := Nat) (fun b10 W => FE w w3 a n c now d l1 l2 w5.heap.size w7.heap.size bx W ∧ OT W bx 0 (fun _ => false) n (fun _ => 0) D Lx (.slice none 0 0) (.slice (some ⟨bx, 0, none⟩) n n) ∧ OwnDp W B9 d l2)
    · intro key
      have KEY : Hid _ := key
      clear key
      go_region_with (first
        | (go_at_call 7
           refine (HT.out (w9.drewN 1) (H9.out.1.drew 1).bel).mono ?_
           rintro e w10 ⟨b10, rfl, hb10, _, L10, hot10⟩
           unfold trV
           have hF10 := (H9.out.1.drew 1).below hb10
           have hX10 := (H9.out.2.1.below (below_drewN (Below.refl _ _) 1)).below hb10
           obtain ⟨_, ⟨y0, y1⟩, _, _⟩ := hF10.cells)
        | (go_at_call 10
           refine (eqTree_any _ _ n n n n now now D D _ _ w10 hX10.nds hot10.nds hf hf hn hn).mono ?_
           rintro e w11 ⟨hb11, rfl⟩
           rw [sameAll_self]))
      all_goals exact KEY.out b10 w11 ⟨hF10.below hb11, hX10.below hb11, OD.below (OD.below (OD.below H9.out.2.2 (below_drewN (Below.refl _ _) 1)) hb10) hb11⟩
    · intro b10 W11 hF
      obtain ⟨hF11, hot11, hod11⟩ := hF
      obtain ⟨⟨p0, p1⟩, ⟨x0, x1⟩, ⟨u0, u1, u2, u3⟩, ⟨g0, g1, g2, g3⟩⟩ := hF11.cells
      have H11 : Hid (FE w w3 a n c now d l1 l2 w5.heap.size w7.heap.size bx W11 ∧ OT W11 bx 0 (fun _ => false) n (fun _ => 0) D Lx (.slice none 0 0) (.slice (some ⟨bx, 0, none⟩) n n) ∧ OwnDp W11 B9 d l2) := ⟨hF11, hot11, hod11⟩
      clear hF11 hot11 hod11 H9
      go_wp2_with fail
      have hkT := kaT_le (D := D) (k0 := 1) n
      refine (markTree_own (some ⟨bx, 0, none⟩) n n 1 bx now (fun _ => 0) D Lx W11 H11.out.2.1 HSZ.out.2 (by omega) (by have := HSZ.out; omega) (small_of_size HSZ.out.1) (by have h : bx < W11.heap.size := (owns_block H11.out.2.1.ownI rfl).2; omega) w5.heap.size HOX.out).mono ?_
      rintro e w12 ⟨rfl, hfr, hot12⟩
      have hF12 := H11.out.1.fr hfr hbx (Or.inr (Nat.le_refl _)) (by omega)
      have hod12 : OwnDp w12 B9 d l2 := OD.same H11.out.2.2 (fun b hB hl => hfr.far b (by omega) hl)
      have hkn : decide (((kaT D 1 n : Nat) : Int) < 0) = false := by simp
      obtain ⟨⟨p0, p1⟩, _, ⟨u0, u1, u2, u3⟩, ⟨g0, g1, g2, g3⟩⟩ := hF12.cells
      have H12 : Hid (FE w w3 a n c now d l1 l2 w5.heap.size w7.heap.size bx w12 ∧ OwnDp w12 B9 d l2) := ⟨hF12, hod12⟩
      clear hF12 hot12 hod12 hfr H11 hkT x0 x1
      generalize kaT D 1 n = kT at *
      go_wp2_with fail
      refine (eqDump_any d d l2 l1 w12 (OwnDp.dpIn H12.out.2) (HI3.out.below (Nat.le_refl _) H12.out.1.base) HSM.out.fits HSM.out.fits).mono ?_
      rintro e w13 ⟨hb13, rfl⟩
      rw [Dp.same_self]
      have hF13 := H12.out.1.below hb13
      obtain ⟨⟨p0, p1⟩, _, _, ⟨g0, g1, g2, g3⟩⟩ := hF13.cells
      have H13 : Hid (FE w w3 a n c now d l1 l2 w5.heap.size w7.heap.size bx w13 ∧ OwnDp w13 B9 d l2) := ⟨hF13, OD.below H12.out.2 hb13⟩
      clear hF13 hb13 H12 u0 u1 u2 u3
      go_wp2_with fail
      refine (markDump_own l2.lA l2.iA d.ln l2.lc d.m l2.ic B9 d.since d.date d.live d.ino d.nd l2.L w13 H13.out.2 HSM.out.ln HSM.out.m HSM.out.kap (fun i hi => by have := HSM.out.nds i hi; omega) (by have := H13.out.1.v9.lt; omega) w7.heap.size HOY.out).mono ?_
      rintro e w14 ⟨rfl, hfr, hod14⟩
      have hF14 := H13.out.1.fr hfr (by omega) (Or.inl (by omega)) (Nat.le_refl _)
      obtain ⟨⟨p0, p1⟩, _, _, ⟨g0, g1, g2, g3⟩⟩ := hF14.cells
      have H14 : Hid (FE w w3 a n c now d l1 l2 w5.heap.size w7.heap.size bx w14 ∧ OD w14 B9 d.ln (markB 1) d.m (markO d.nd (1 + d.ln) d.ino d.m) (markD d.nd (1 + d.ln) d.m) l2.L (.slice l2.lA d.ln l2.lc) (.slice l2.iA d.m l2.ic)) := ⟨hF14, hod14⟩
      clear hF14 hfr hod14 H13
      go_wp2_with fail
      refine (heldDump_own l2.lA l2.iA d.ln l2.lc d.m l2.ic B9 d.since d.date d.ino d.nd l2.L w14 H14.out.2 HSM.out.ln HSM.out.m HSM.out.kap HSM.out.nds).mono ?_
      rintro e w15 ⟨rfl, hb15⟩
      have hF15 := H14.out.1.below hb15
      obtain ⟨⟨p0, p1⟩, _, _, ⟨g0, g1, g2, g3⟩⟩ := hF15.cells
      have H15 : Hid (FE w w3 a n c now d l1 l2 w5.heap.size w7.heap.size bx w15 ∧ OD w15 B9 d.ln (markB 1) d.m (markO d.nd (1 + d.ln) d.ino d.m) (markD d.nd (1 + d.ln) d.m) l2.L (.slice l2.lA d.ln l2.lc) (.slice l2.iA d.m l2.ic)) := ⟨hF15, OD.below H14.out.2 hb15⟩
      have hkm : decide (((kap d.nd (1 + d.ln) d.m : Nat) : Int) < 0) = false := by simp
      have hkk : (((kap d.nd (1 + d.ln) d.m : Nat) : Int) != ((kap d.nd (1 + d.ln) d.m : Nat) : Int)) = false := by simp
      have HKAP : Hid (kap d.nd (1 + d.ln) d.m = kap d.nd (1 + d.ln) d.m) := rfl
      clear hF15 hb15 H14
      go_wp2_with fail
      refine (HT.out w15 H15.out.1.bel).mono ?_
      rintro e w16 ⟨b16, rfl, hb16, _, L16, hot16⟩
      unfold trV
      have hF16 := H15.out.1.below hb16
      have H16 : Hid (FE w w3 a n c now d l1 l2 w5.heap.size w7.heap.size bx w16 ∧ OD w16 B9 d.ln (markB 1) d.m (markO d.nd (1 + d.ln) d.ino d.m) (markD d.nd (1 + d.ln) d.m) l2.L (.slice l2.lA d.ln l2.lc) (.slice l2.iA d.m l2.ic) ∧ IsNds w16 (some ⟨b16, 0, none⟩) n D L16) := ⟨hF16, OD.below H15.out.2 hb16, hot16.nds⟩
      clear hF16 hb16 hot16 H15 p0 p1 g0 g1 g2 g3
      go_wp2_with fail
      refine (implDumpOf_any (some ⟨b16, 0, none⟩) n n now since D L16 w16 H16.out.2.2 hf hn HSZ.out.1 hnow).mono ?_
      intro e w17 hpost
      obtain ⟨hb17, l3, rfl, hod17⟩ := HA.out _ _ _ hpost
      have hF17 := H16.out.1.below hb17
      obtain ⟨_, _, ⟨u0, u1, u2, u3⟩, ⟨g0, g1, g2, g3⟩⟩ := hF17.cells
      have hl9 := hF17.v9.lt
      have hl6 := hF17.v6.lt
      have H17 : Hid (FE w w3 a n c now d l1 l2 w5.heap.size w7.heap.size bx w17 ∧ OD w17 B9 d.ln (markB 1) d.m (markO d.nd (1 + d.ln) d.ino d.m) (markD d.nd (1 + d.ln) d.m) l2.L (.slice l2.lA d.ln l2.lc) (.slice l2.iA d.m l2.ic) ∧ OwnDp w17 w16.heap.size d l3) := ⟨hF17, OD.below H16.out.2.1 hb17, hod17⟩
      unfold dpV
      have hne3 : w3.heap.size ≠ w17.heap.size := by omega
      have hne9 : w7.heap.size ≠ w17.heap.size := by omega
      clear hF17 hb17 hod17 hpost H16
      go_wp2_with fail
      refine at_world (F := New1 w17 (dC d l3) 29) (new1 w17 _ _) ?_
      rintro W18 ⟨hv14, hb18, hs18⟩
      have hF18 := H17.out.1.below hb18
      have H18 : Hid (FE w w3 a n c now d l1 l2 w5.heap.size w7.heap.size bx W18 ∧ OD W18 B9 d.ln (markB 1) d.m (markO d.nd (1 + d.ln) d.ino d.m) (markD d.nd (1 + d.ln) d.m) l2.L (.slice l2.lA d.ln l2.lc) (.slice l2.iA d.m l2.ic)) := ⟨hF18, OD.below H17.out.2.1 hb18⟩
      refine (eqDump_any d d l3 l1 W18 ((OwnDp.dpIn H17.out.2.2).below (Nat.le_refl _) hb18) (HI3.out.below (Nat.le_refl _) hF18.base) HSM.out.fits HSM.out.fits).mono ?_
      rintro e w19 ⟨hb19, rfl⟩
      rw [Dp.same_self]
      have hF19 := H18.out.1.below hb19
      obtain ⟨_, _, _, ⟨g0, g1, g2, g3⟩⟩ := hF19.cells
      have H19 : Hid (FE w w3 a n c now d l1 l2 w5.heap.size w7.heap.size bx w19 ∧ OD w19 B9 d.ln (markB 1) d.m (markO d.nd (1 + d.ln) d.ino d.m) (markD d.nd (1 + d.ln) d.m) l2.L (.slice l2.lA d.ln l2.lc) (.slice l2.iA d.m l2.ic)) := ⟨hF19, OD.below H18.out.2 hb19⟩
      clear hF18 hF19 hb18 hb19 hv14 hs18 H17 H18 u0 u1 u2 u3
      go_wp2_with fail
      refine (heldDump_own l2.lA l2.iA d.ln l2.lc d.m l2.ic B9 d.since d.date d.ino d.nd l2.L w19 H19.out.2 HSM.out.ln HSM.out.m HSM.out.kap HSM.out.nds).mono ?_
      rintro e w20 ⟨rfl, hb20⟩
      have HB : Hid (Below w.heap.size w w20) := (H19.out.1.below hb20).bel
      clear hb20 H19 g0 g1 g2 g3
      go_wp2
      go_ret
      exact ⟨rfl, HB.out⟩
end Go.Proofs.Yteoanlkmkmajjaa
