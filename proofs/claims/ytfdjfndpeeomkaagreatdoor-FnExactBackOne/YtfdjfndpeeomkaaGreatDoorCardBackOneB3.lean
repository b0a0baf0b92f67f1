/-
  Texts that the proof needs, laid one behind the other.
-/
import Derived.Test.YtfdjfndpeeomkaaGreatDoorCardBackOneB2
import Derived.BigRegion
import Derived.Laws.Shifts

/-
  What toTree answers: a tree in memory of its own.
-/
namespace Go.Proofs.YtfdjfndpeeomkaaGreatDoor
open Go.RowKit Go.Deep
set_option linter.unusedVariables false
set_option linter.unusedSimpArgs false

theorem row_below {W W' : World} {b n : Nat} {t : TypeId} {f : Nat → Value} (h : W.rowIs b t n f) (hb : Below W.heap.size W W') : W'.rowIs b t n f := by
  obtain ⟨c, h1, h2⟩ := h
  exact ⟨c, (hb.block b (Array.getElem?_eq_some_iff.1 h1).1).trans h1, h2⟩

theorem row_off {W : World} {b n : Nat} {t : TypeId} {f : Nat → Value} (h : W.rowIs b t n f) {b' i : Nat} (v : Value) (hb : b ≠ b') : (W.setCell ⟨b', i, none⟩ v).rowIs b t n f := h.setOther (a := ⟨b', i, none⟩) hb v

theorem row_own {W : World} {B b n : Nat} {t : TypeId} {f : Nat → Value} (h : W.rowIs b t n f) (hB : B ≤ b) (hn : n ≤ maxLen) : W.ownsRow B t 1 (.slice (some ⟨b, 0, none⟩) n n) n ((List.range n).map f) := by
  obtain ⟨cur, h1, h2, h3⟩ := h
  refine ⟨by simp, Or.inr ⟨b, n, cur, rfl, hB, h1, Nat.le_refl _, hn, by omega, ?_⟩⟩
  apply List.ext_getElem?
  intro i
  rw [List.getElem?_take]
  by_cases hi : i < n
  · rw [if_pos (by omega), Array.getElem?_toList, h3 i hi]
    simp [hi]
  · rw [if_neg (by omega)]
    simp [hi]

theorem row_ownS {W : World} {B b n : Nat} {S : Nat → ByteArray} (h : W.rowIs b 9 n (fun i => .string (S i))) (hB : B ≤ b) (hn : n ≤ maxLen) : W.ownsRow B 9 1 (.slice (some ⟨b, 0, none⟩) n n) n (strv (lst n S)) := by
  have := row_own h hB hn
  rw [show strv (lst n S) = (List.range n).map (fun i => .string (S i)) from by simp [strv, lst]]
  exact this

theorem row_ownI {W : World} {B b n : Nat} {Z : Nat → Int} (h : W.rowIs b 3 n (fun i => .int .i64 (Z i))) (hB : B ≤ b) (hn : n ≤ maxLen) : W.ownsRow B 3 1 (.slice (some ⟨b, 0, none⟩) n n) n (intv0 n Z) := row_own h hB hn

theorem toStringS_row (a : Option Addr) (n c : Nat) (S : Nat → ByteArray) (w : World) (hS : IsStrs w a n S) (hn : n ≤ 1048576) :
    Calls Tryz.prog 28 #[.slice a n c] w fun e w' => ∃ b, e = .returned (.slice (some ⟨b, 0, none⟩) n n) ∧ w.heap.size ≤ b ∧ b < w'.heap.size ∧ Below w.heap.size w w' ∧ w'.rowIs b 9 n (fun i => .string (S i)) :=
  (toStringS_any a n c S w hS hn).mono fun e w' ⟨he, hb, hr⟩ => ⟨_, he, Nat.le_refl _, hr.lt, hb, hr⟩

theorem toIntS_row (a : Option Addr) (n c : Nat) (Z : Nat → Int) (w : World) (hS : IsInts w a n Z) (hn : n ≤ 1048576) :
    Calls Tryz.prog 126 #[.slice a n c] w fun e w' => ∃ b, e = .returned (.slice (some ⟨b, 0, none⟩) n n) ∧ w.heap.size ≤ b ∧ b < w'.heap.size ∧ Below w.heap.size w w' ∧ w'.rowIs b 3 n (fun i => .int .i64 (Z i)) :=
  (toIntS_any a n c Z w hS hn).mono fun e w' ⟨he, hb, hr⟩ => ⟨_, he, Nat.le_refl _, hr.lt, hb, hr⟩

/-- What is known within toNode, the names being copied. -/
structure Node2o (w : World) (d : Nd) (l : Loc) (b : Nat) (W : World) : Prop where
  p : Blk W w.heap.size #[.int .i64 d.kind, .string d.text, .slice l.nA d.nn l.nc, .slice l.kA d.kn l.kc, .int .i64 d.turn] 127
  r : Blk W (w.heap.size + 1) #[.int .i64 0, .string ByteArray.empty, .slice none 0 0, .slice none 0 0, .int .i64 0] 58
  o : Blk W (w.heap.size + 1 + 1) #[.int .i64 d.kind, .string d.text, .slice (some ⟨b, 0, none⟩) d.nn d.nn, .slice none 0 0, .int .i64 0] 58
  bel : Below w.heap.size w W
  size : w.heap.size + 3 ≤ W.heap.size
  le : w.heap.size + 3 ≤ b
  lt : b < W.heap.size
  names : W.rowIs b 9 d.nn (fun i => .string (d.names i))

/-- What is known at toNode's end. -/
structure NodeEndo (w : World) (d : Nd) (b b' : Nat) (W : World) : Prop where
  r : Blk W (w.heap.size + 1) #[.int .i64 d.kind, .string d.text, .slice (some ⟨b, 0, none⟩) d.nn d.nn, .slice (some ⟨b', 0, none⟩) d.kn d.kn, .int .i64 d.turn] 58
  bel : Below w.heap.size w W
  names : W.rowIs b 9 d.nn (fun i => .string (d.names i))
  kids : W.rowIs b' 3 d.kn (fun i => .int .i64 (d.kids i))

set_option maxHeartbeats 1000000 in
theorem toNode_new (d : Nd) (l : Loc) (w : World) (hI : NdIn w d l) (hn : d.nn ≤ 1048576) (hk : d.kn ≤ 1048576) :
    Calls Tryz.prog 97 #[ndV d l] w fun e w' => ∃ l', e = .returned (ndV d l') ∧ NewNn w d l' w' := by
  unfold ndV
  go_enter Tryz.func97, Tryz.ntmps97
  go_wp2_with fail
  refine at_world (F := New3 w _ _ _ _ _ _) (new3 w _ _ _ _ _ _) ?_
  rintro W ⟨hp, hr, ho, hb0, hs0⟩
  refine (toStringS_row l.nA d.nn l.nc d.names _ (hI.1.below (Nat.le_refl _) hb0) hn).mono ?_
  rintro e w1 ⟨b, rfl, hge, hlt, hb1, hS1⟩
  have hp1 := hp.below hb1 (by omega)
  have hr1 := hr.below hb1 (by omega)
  have ho1 := ho.below hb1 (by omega)
  have hk1 := (hI.2.below (Nat.le_refl _) hb0).below (Nat.le_refl _) hb1
  have hB1 := hb0.trans (hb1.mono (by omega))
  have o2 : w1.cell? ⟨w.heap.size + 1 + 1, 2, none⟩ = some (.slice none 0 0) := ho1.cell 2
  have f2 := ho1.frozen 2
  have p3 : w1.cell? ⟨w.heap.size, 3, none⟩ = some (.slice l.kA d.kn l.kc) := hp1.cell 3
  have hsz1 := hb1.size
  have F2 : Hid (Node2o w d l b _) := ⟨hp1.off (b' := w.heap.size + 1 + 1) (i := 2) (.slice (some ⟨b, 0, none⟩) d.nn d.nn) (by omega), hr1.off _ (by omega), ho1.set 2 _, bel_put hB1 _ (by omega), by simp; omega, by omega, by simp; omega, row_off hS1 _ (by omega)⟩
  clear hp hr ho hb0 hb1 hp1 hr1 ho1 hk1 hB1 hS1
  go_wp2_with fail
  refine at_world (F := Node2o w d l b) F2.out ?_
  clear F2 hge hlt f2 o2 p3 hs0 hsz1
  rintro W ⟨hp, hr, ho, hb0, hs0, hlb, hbl, hS⟩
  refine (toIntS_row l.kA d.kn l.kc d.kids _ (hI.2.below (Nat.le_refl _) hb0) hk).mono ?_
  rintro e w2 ⟨b', rfl, hge, hlt, hb1, hZ⟩
  have hp1 := hp.below hb1 (by omega)
  have hr1 := hr.below hb1 (by omega)
  have ho1 := ho.below hb1 (by omega)
  have hB1 := hb0.trans (hb1.mono (by omega))
  have hS1 := row_below hS hb1
  have hsz := hb1.size
  have o0 : w2.cell? ⟨w.heap.size + 1 + 1, 0, none⟩ = some (.int .i64 d.kind) := ho1.cell 0
  have o1 : w2.cell? ⟨w.heap.size + 1 + 1, 1, none⟩ = some (.string d.text) := ho1.cell 1
  have o2 : w2.cell? ⟨w.heap.size + 1 + 1, 2, none⟩ = some (.slice (some ⟨b, 0, none⟩) d.nn d.nn) := ho1.cell 2
  have o3 : w2.cell? ⟨w.heap.size + 1 + 1, 3, none⟩ = some (.slice none 0 0) := ho1.cell 3
  have o4 : w2.cell? ⟨w.heap.size + 1 + 1, 4, none⟩ = some (.int .i64 0) := ho1.cell 4
  have f3 := ho1.frozen 3
  have f4 := ho1.frozen 4
  have p4 : w2.cell? ⟨w.heap.size, 4, none⟩ = some (.int .i64 d.turn) := hp1.cell 4
  have r0 : w2.cell? ⟨w.heap.size + 1, 0, none⟩ = some (.int .i64 0) := hr1.cell 0
  have r1 : w2.cell? ⟨w.heap.size + 1, 1, none⟩ = some (.string ByteArray.empty) := hr1.cell 1
  have r2 : w2.cell? ⟨w.heap.size + 1, 2, none⟩ = some (.slice none 0 0) := hr1.cell 2
  have r3 : w2.cell? ⟨w.heap.size + 1, 3, none⟩ = some (.slice none 0 0) := hr1.cell 3
  have r4 : w2.cell? ⟨w.heap.size + 1, 4, none⟩ = some (.int .i64 0) := hr1.cell 4
  have g0 := hr1.frozen 0
  have g1 := hr1.frozen 1
  have g2 := hr1.frozen 2
  have g3 := hr1.frozen 3
  have g4 := hr1.frozen 4
  have FB : Hid (Blk w2 (w.heap.size + 1) _ _ ∧ Below w.heap.size w w2 ∧ w2.rowIs b 9 d.nn (fun i => .string (d.names i)) ∧ w2.rowIs b' 3 d.kn (fun i => .int .i64 (d.kids i))) := ⟨hr1, hB1, hS1, hZ⟩
  clear hp hr ho hb0 hb1 hp1 hr1 ho1 hB1 hS1 hZ hS
  go_wp2_with fail
  obtain ⟨hr, hB, hS, hZ⟩ := FB.out
  refine end_world (F := NodeEndo w d b b')
    ⟨((((((hr.off _ (by omega)).off _ (by omega)).set 0 _).set 1 _).set 2 _).set 3 _).set 4 _,
     bel_put (bel_put (bel_put (bel_put (bel_put (bel_put (bel_put hB _ (by omega)) _ (by omega)) _ (by omega)) _ (by omega)) _ (by omega)) _ (by omega)) _ (by omega),
     (row_off (row_off (row_off (row_off (row_off (row_off (row_off hS _ (by omega)) _ (by omega)) _ (by omega)) _ (by omega)) _ (by omega)) _ (by omega)) _ (by omega)),
     (row_off (row_off (row_off (row_off (row_off (row_off (row_off hZ _ (by omega)) _ (by omega)) _ (by omega)) _ (by omega)) _ (by omega)) _ (by omega)) _ (by omega))⟩ ?_
  clear hr hB hS hZ FB o0 o1 o2 o3 o4 f3 f4 p4 r0 r1 r2 r3 r4 g0 g1 g2 g3 g4
  rintro W ⟨hr, hB, hS, hZ⟩
  have r0 : W.cell? ⟨w.heap.size + 1, 0, none⟩ = some (.int .i64 d.kind) := hr.cell 0
  have r1 : W.cell? ⟨w.heap.size + 1, 1, none⟩ = some (.string d.text) := hr.cell 1
  have r2 : W.cell? ⟨w.heap.size + 1, 2, none⟩ = some (.slice (some ⟨b, 0, none⟩) d.nn d.nn) := hr.cell 2
  have r3 : W.cell? ⟨w.heap.size + 1, 3, none⟩ = some (.slice (some ⟨b', 0, none⟩) d.kn d.kn) := hr.cell 3
  have r4 : W.cell? ⟨w.heap.size + 1, 4, none⟩ = some (.int .i64 d.turn) := hr.cell 4
  exact bodyPost_ret (v := .agg #[.int .i64 d.kind, .string d.text, .slice (some ⟨b, 0, none⟩) d.nn d.nn, .slice (some ⟨b', 0, none⟩) d.kn d.kn, .int .i64 d.turn]) (by simp [results, Tryz.results97, go_sem, r0, r1, r2, r3, r4]) rfl ⟨⟨some ⟨b, 0, none⟩, d.nn, some ⟨b', 0, none⟩, d.kn⟩, rfl, hB, row_ownS hS (by omega) (by unfold maxLen; omega), row_ownI hZ (by omega) (by unfold maxLen; omega), fun j e1 e2 => by
      have e3 : b = j := by simpa [Value.ownBlock] using e1
      have e4 : b' = j := by simpa [Value.ownBlock] using e2
      omega⟩

/-- A place more is laid behind the first ones, within the row's room. -/
theorem owns_fill {W : World} {B : Nat} {e : TypeId} {g k cap : Nat} {xs : List Value} {v0 v1 v2 v3 v4 : Value} (h : W.ownsRow B e 5 (.slice (some ⟨g, 0, none⟩) k cap) k xs) (hk : k < cap) :
    (((((W.setCell ⟨g, k * 5, none⟩ v0).setCell ⟨g, k * 5 + 1, none⟩ v1).setCell ⟨g, k * 5 + 2, none⟩ v2).setCell ⟨g, k * 5 + 3, none⟩ v3).setCell ⟨g, k * 5 + 4, none⟩ v4).ownsRow B e 5 (.slice (some ⟨g, 0, none⟩) (k + 1) cap) (k + 1) (xs ++ [v0, v1, v2, v3, v4]) := by
  obtain ⟨hl, h0 | ⟨g', cap', cur, hv, hB, hg, hc, hm, hs, ht⟩⟩ := h
  · simp at h0
  simp at hv
  obtain ⟨rfl, rfl⟩ := hv
  have hb : Blk W g cur e := hg
  have hb' := ((((hb.set (k * 5) v0).set (k * 5 + 1) v1).set (k * 5 + 2) v2).set (k * 5 + 3) v3).set (k * 5 + 4) v4
  refine ⟨by simp [hl]; omega, Or.inr ⟨g, cap, _, rfl, hB, hb', by omega, hm, by simp [hs], ?_⟩⟩
  apply List.ext_getElem?
  intro i
  rw [List.getElem?_take]
  by_cases hi : i < (k + 1) * 5
  · rw [if_pos hi, Array.getElem?_toList]
    simp only [Array.getElem?_setIfInBounds]
    by_cases h1 : i < k * 5
    · rw [List.getElem?_append_left (by omega)]
      have : xs[i]? = cur[i]? := by rw [← ht, List.getElem?_take, if_pos h1, Array.getElem?_toList]
      rw [this]
      simp only [show ¬ k * 5 + 4 = i by omega, show ¬ k * 5 + 3 = i by omega, show ¬ k * 5 + 2 = i by omega, show ¬ k * 5 + 1 = i by omega, show ¬ k * 5 = i by omega, if_false]
    · rw [List.getElem?_append_right (by omega), hl]
      obtain ⟨r, rfl⟩ : ∃ r, i = k * 5 + r := ⟨i - k * 5, by omega⟩
      have hr : r < 5 := by omega
      have hsz : ∀ q, q < 5 → k * 5 + q < cur.size := fun q hq => by omega
      rw [show k * 5 + r - k * 5 = r by omega]
      have hr5 : r = 0 ∨ r = 1 ∨ r = 2 ∨ r = 3 ∨ r = 4 := by omega
      rcases hr5 with rfl | rfl | rfl | rfl | rfl <;> simp [hsz 0 (by omega), hsz 1 (by omega), hsz 2 (by omega), hsz 3 (by omega), hsz 4 (by omega)] <;> (try (have := hsz 0 (by omega); omega))
  · rw [if_neg hi, List.getElem?_eq_none (by simp [hl]; omega)]

theorem OT.fill {W W1 : World} {B k : Nat} {O : Nat → Int} {D : Nat → Nd} {L : Nat → Loc} {g cap : Nat} {x : Nd} {l : Loc} (h : OT W B 0 (fun _ => false) k O D L (.slice none 0 0) (.slice (some ⟨g, 0, none⟩) k cap)) (hN : NewNn W x l W1) (hB : B ≤ W.heap.size) (hk : k < cap) :
    OT (((((W1.setCell ⟨g, k * 5, none⟩ (.int .i64 x.kind)).setCell ⟨g, k * 5 + 1, none⟩ (.string x.text)).setCell ⟨g, k * 5 + 2, none⟩ (.slice l.nA x.nn l.nc)).setCell ⟨g, k * 5 + 3, none⟩ (.slice l.kA x.kn l.kc)).setCell ⟨g, k * 5 + 4, none⟩ (.int .i64 x.turn)) B 0 (fun _ => false) (k + 1) (fun i => if i = k then 0 else O i) (fun i => if i = k then x else D i) (fun i => if i = k then l else L i) (.slice none 0 0) (.slice (some ⟨g, 0, none⟩) (k + 1) cap) := by
  refine h.item (o := 0) hN hB ?_ ?_ (fun b e => Or.inl e)
  · have hst : ∀ (i : Nat) (v : Value) (U : World), U.grownBy (U.setCell ⟨g, i, none⟩ v) (some g) := fun i v U => ⟨rfl, rfl, rfl, by simp, fun b _ hb => blk_setCell_other _ _ _ _ (show b ≠ g from fun e => hb (by rw [e]))⟩
    have tr : ∀ {A C E : World}, A.grownBy C (some g) → C.grownBy E (some g) → A.grownBy E (some g) := fun {A C E} h1 h2 => ⟨h2.os.trans h1.os, h2.tape.trans h1.tape, h2.output.trans h1.output, Nat.le_trans h1.size h2.size, fun b hb hne => (h2.block b (Nat.lt_of_lt_of_le hb h1.size) hne).trans (h1.block b hb hne)⟩
    exact tr (tr (tr (tr (hst _ _ _) (hst _ _ _)) (hst _ _ _)) (hst _ _ _)) (hst _ _ _)
  · exact owns_fill (owns_same h.ownI (fun b hb => hN.bel.block b (owns_block h.ownI hb).2)) hk

theorem OT.ext {W : World} {B k n : Nat} {Z : Nat → Bool} {O O' : Nat → Int} {D D' : Nat → Nd} {L L' : Nat → Loc} {lv iv : Value} (h : OT W B k Z n O D L lv iv) (he : ∀ i, i < n → D' i = D i ∧ L' i = L i) : OT W B k Z n O' D' L' lv iv := by
  have hr : ∀ d, d < 2 + 2 * n → rowT k Z n O' D' L' d = rowT k Z n O D L d := fun d hd => by
    unfold rowT
    by_cases e0 : d = 0
    · rw [if_pos e0, if_pos e0]
    · by_cases e1 : d = 1
      · rw [if_neg e0, if_pos e1, if_neg e0, if_pos e1]
        have key : ∀ m, m ≤ n → rowsT O' D' L' m = rowsT O D L m := fun m => by
          induction m with
          | zero => intro _; rfl
          | succ m ih => intro hm; rw [rowsT, rowsT, ih (by omega), (he m (by omega)).1, (he m (by omega)).2]; rfl
        rw [key n (Nat.le_refl _)]
      · rw [if_neg e0, if_neg e1, if_neg e0, if_neg e1, (he ((d - 2) / 2) (by omega)).1]
  have hv : ∀ d, d < 2 + 2 * n → valT lv iv D' L' d = valT lv iv D L d := fun d hd => by
    unfold valT
    by_cases e0 : d = 0
    · rw [if_pos e0, if_pos e0]
    · by_cases e1 : d = 1
      · rw [if_neg e0, if_pos e1, if_neg e0, if_pos e1]
      · rw [if_neg e0, if_neg e1, if_neg e0, if_neg e1, (he ((d - 2) / 2) (by omega)).1, (he ((d - 2) / 2) (by omega)).2]
  exact ⟨⟨fun d hd => by rw [hr d hd, hv d hd]; exact h.rows.own d hd, fun d1 d2 g1 g2 hne b e1 e2 => by rw [hv d1 g1] at e1; rw [hv d2 g2] at e2; exact h.rows.apart d1 d2 g1 g2 hne b e1 e2⟩⟩

theorem ot_strs {w : World} {B n c : Nat} {a : Option Addr} {S : Nat → ByteArray} (h : w.ownsRow B 9 1 (.slice a n c) n (strv (lst n S))) : IsStrs w a n S := by
  by_cases hn : n = 0
  · exact Or.inl hn
  · obtain ⟨g, rfl, hg⟩ := owns_addr h (by omega)
    exact Or.inr ⟨g, 0, rfl, hg, fun i hi => by rw [Nat.zero_add, h.cellAt i (by omega)]; simp [strv, lst, hi]⟩

theorem ot_ints {w : World} {B n c : Nat} {a : Option Addr} {Z : Nat → Int} (h : w.ownsRow B 3 1 (.slice a n c) n (intv0 n Z)) : IsInts w a n Z := by
  by_cases hn : n = 0
  · exact Or.inl hn
  · obtain ⟨g, rfl, hg⟩ := owns_addr h (by omega)
    exact Or.inr ⟨g, 0, rfl, hg, fun i hi => by rw [Nat.zero_add, h.cellAt i (by omega)]; simp [intv0, hi]⟩

theorem OT.nds {W : World} {B k n c : Nat} {Z : Nat → Bool} {O : Nat → Int} {D : Nat → Nd} {L : Nat → Loc} {lv : Value} {a : Option Addr} (h : OT W B k Z n O D L lv (.slice a n c)) : IsNds W a n D L := by
  by_cases hn : n = 0
  · exact Or.inl hn
  · obtain ⟨g, rfl, hg⟩ := owns_addr h.ownI (by omega)
    refine Or.inr ⟨g, 0, rfl, hg, fun i hi => ?_⟩
    obtain ⟨c0, c1, c2, c3, c4⟩ := h.cells hi
    rw [Nat.zero_add]
    exact ⟨c0, c1, c2, c3, c4, ot_strs (h.ownN hi), ot_ints (h.ownK hi)⟩

set_option maxHeartbeats 1000000 in
theorem toNodeS_own (a : Option Addr) (n c : Nat) (D : Nat → Nd) (L : Nat → Loc) (w : World) (hS : IsNds w a n D L) (hn : n ≤ 1048576) (hsm : ∀ i, i < n → (D i).nn ≤ 1048576 ∧ (D i).kn ≤ 1048576) :
    Calls Tryz.prog 56 #[.slice a n c] w fun e w' => e = .returned (.slice (some ⟨w.heap.size, 0, none⟩) n n) ∧ Below w.heap.size w w' ∧ ∃ L', OT w' w.heap.size 0 (fun _ => false) n (fun _ => 0) D L' (.slice none 0 0) (.slice (some ⟨w.heap.size, 0, none⟩) n n) := by
  have hmk := fun w => run_make_wide (P := Tryz.prog) 31 58 _ 80 5 Tryz.underlying31 infoNode .i64 .i64 n (by omega) (by omega) w
  go_enter Tryz.func56, Tryz.ntmps56
  go_wp2
  go_loopw [4] (fun i wr => ∃ (k : Nat) (L' : Nat → Loc), k ≤ n ∧ i = .int .i64 k ∧ Below w.heap.size w wr ∧ OT wr w.heap.size 0 (fun _ => false) k (fun _ => 0) D L' (.slice none 0 0) (.slice (some ⟨w.heap.size, 0, none⟩) k n) ∧ ∃ g, wr.rowIs w.heap.size 58 (n * 5) g) (fun i _ => n - (intOf i).toNat)
  case atStart =>
    obtain ⟨g, hg⟩ := rowIs_wide w #[.int .i64 0, .string ByteArray.empty, .slice none 0 0, .slice none 0 0, .int .i64 0] (n * 5) 58
    refine ⟨0, L, Nat.zero_le _, rfl, (Below.refl _ _).alloc (Nat.le_refl _) _, ?_, g, hg⟩
    obtain ⟨cur, h1, h2, _⟩ := hg
    refine ⟨⟨fun d hd => ?_, fun d1 d2 g1 g2 hne b e1 e2 => ?_⟩⟩
    · have hd' : d = 0 ∨ d = 1 := by omega
      rcases hd' with rfl | rfl
      · exact World.ownsRow_nil _ _ _ _
      · exact ⟨by simp [rowT, rowsT], Or.inr ⟨w.heap.size, n, cur, rfl, Nat.le_refl _, h1, by simp [rowT], by unfold maxLen; omega, by simpa [rowT] using h2, by simp [rowT, rowsT]⟩⟩
    · have hd1 : d1 = 0 ∨ d1 = 1 := by omega
      have hd2 : d2 = 0 ∨ d2 = 1 := by omega
      rcases hd1 with rfl | rfl
      · simp [valT, Value.ownBlock] at e1
      · rcases hd2 with rfl | rfl
        · simp [valT, Value.ownBlock] at e2
        · exact hne rfl
  case round =>
    obtain ⟨k, L', hk, rfl, hb, hot, g, hrow⟩ := hrel
    by_cases hlt : k < n
    · obtain ⟨b, off, rfl, hlt2, hc⟩ := (hS.below (Nat.le_refl _) hb).at hlt
      obtain ⟨c0, c1, c2, c3, c4, hI⟩ := hc k hlt
      clear hc
      go_wp2_with fail
      refine (toNode_new (D k) (L k) wr hI (hsm k hlt).1 (hsm k hlt).2).mono ?_
      rintro e w1 ⟨l', rfl, hN⟩
      unfold ndV
      have hB := hb.trans (hN.bel.mono hb.size)
      have hrow1 := row_below hrow hN.bel
      have HR : Hid (OT wr w.heap.size 0 (fun _ => false) k (fun _ => 0) D L' (.slice none 0 0) (.slice (some ⟨w.heap.size, 0, none⟩) k n) ∧ NewNn wr (D k) l' w1 ∧ Below w.heap.size w w1 ∧ w.heap.size ≤ wr.heap.size ∧ w1.rowIs w.heap.size 58 (n * 5) g) := ⟨hot, hN, hB, hb.size, hrow1⟩
      have d0 := hrow1.cell (show k * 5 < n * 5 by omega)
      have d1 := hrow1.cell (show k * 5 + 1 < n * 5 by omega)
      have d2 := hrow1.cell (show k * 5 + 2 < n * 5 by omega)
      have d3 := hrow1.cell (show k * 5 + 3 < n * 5 by omega)
      have d4 := hrow1.cell (show k * 5 + 4 < n * 5 by omega)
      have e0 := hrow1.frozen (k * 5)
      have e1 := hrow1.frozen (k * 5 + 1)
      have e2 := hrow1.frozen (k * 5 + 2)
      have e3 := hrow1.frozen (k * 5 + 3)
      have e4 := hrow1.frozen (k * 5 + 4)
      clear hb hot hrow hB hrow1 hN hI c0 c1 c2 c3 c4
      go_wp2
      go_roundw
      case rel => exact ⟨k + 1, fun i => if i = k then l' else L' i, by omega, by go_num, bel_put (bel_put (bel_put (bel_put (bel_put HR.out.2.2.1 _ (Nat.le_refl _)) _ (Nat.le_refl _)) _ (Nat.le_refl _)) _ (Nat.le_refl _)) _ (Nat.le_refl _), (HR.out.1.fill HR.out.2.1 HR.out.2.2.2.1 hlt).ext (fun i hi => by by_cases e : i = k <;> simp [e]), _, ((((HR.out.2.2.2.2.set _ _).set _ _).set _ _).set _ _).set _ _⟩
      case measure => simp [intOf]; omega
    · have hkn : k = n := by omega
      subst hkn
      have HR : Hid (Below w.heap.size w wr ∧ ∃ L', OT wr w.heap.size 0 (fun _ => false) k (fun _ => 0) D L' (.slice none 0 0) (.slice (some ⟨w.heap.size, 0, none⟩) k k)) := ⟨hb, L', hot⟩
      clear hb hrow hot
      go_wp2
      go_ret
      exact ⟨rfl, HR.out.1, HR.out.2⟩

/-- What is known at toTree's end. -/
structure TreeEndo (w : World) (n : Nat) (now : Int) (D : Nat → Nd) (b : Nat) (W : World) : Prop where
  r : Blk W (w.heap.size + 1) #[.slice (some ⟨b, 0, none⟩) n n, .int .i64 now] 33
  bel : Below w.heap.size w W
  row : ∃ L', OT W b 0 (fun _ => false) n (fun _ => 0) D L' (.slice none 0 0) (.slice (some ⟨b, 0, none⟩) n n)

set_option maxHeartbeats 1000000 in
theorem toTree_own (a : Option Addr) (n c : Nat) (now : Int) (D : Nat → Nd) (L : Nat → Loc) (w : World) (hS : IsNds w a n D L) (hn : n ≤ 1048576) (hsm : ∀ i, i < n → (D i).nn ≤ 1048576 ∧ (D i).kn ≤ 1048576) :
    Calls Tryz.prog 12 #[trV a n c now] w fun e w' => ∃ b, e = .returned (trV (some ⟨b, 0, none⟩) n n now) ∧ Below w.heap.size w w' ∧ w.heap.size ≤ b ∧ ∃ L', OT w' b 0 (fun _ => false) n (fun _ => 0) D L' (.slice none 0 0) (.slice (some ⟨b, 0, none⟩) n n) := by
  unfold trV
  go_enter Tryz.func12, Tryz.ntmps12
  go_wp2_with fail
  refine at_world (F := New3 w _ _ _ _ _ _) (new3 w _ _ _ _ _ _) ?_
  rintro W ⟨hp, hr, ho, hb0, hs0⟩
  refine (toNodeS_own a n c D L _ (hS.below (Nat.le_refl _) hb0) hn hsm).mono ?_
  rintro e w1 ⟨rfl, hb1, hrow⟩
  have hp1 := hp.below hb1 (by omega)
  have hr1 := hr.below hb1 (by omega)
  have ho1 := ho.below hb1 (by omega)
  have hB1 := hb0.trans (hb1.mono (by omega))
  have hsz := hb1.size
  have p1 : w1.cell? ⟨w.heap.size, 1, none⟩ = some (.int .i64 now) := hp1.cell 1
  have o0 : w1.cell? ⟨w.heap.size + 1 + 1, 0, none⟩ = some (.slice none 0 0) := ho1.cell 0
  have o1 : w1.cell? ⟨w.heap.size + 1 + 1, 1, none⟩ = some (.int .i64 0) := ho1.cell 1
  have f0 := ho1.frozen 0
  have f1 := ho1.frozen 1
  have r0 : w1.cell? ⟨w.heap.size + 1, 0, none⟩ = some (.slice none 0 0) := hr1.cell 0
  have r1 : w1.cell? ⟨w.heap.size + 1, 1, none⟩ = some (.int .i64 0) := hr1.cell 1
  have g0 := hr1.frozen 0
  have g1 := hr1.frozen 1
  have FB : Hid (Blk w1 (w.heap.size + 1) _ _ ∧ Below w.heap.size w w1 ∧ ∃ L', OT w1 W.heap.size 0 (fun _ => false) n (fun _ => 0) D L' (.slice none 0 0) (.slice (some ⟨W.heap.size, 0, none⟩) n n)) := ⟨hr1, hB1, hrow⟩
  have hs1 : w.heap.size + 3 ≤ W.heap.size := by omega
  generalize W.heap.size = bW at *
  clear hp hr ho hb0 hb1 hp1 hr1 ho1 hB1 hrow hs0
  go_wp2_with fail
  obtain ⟨hr, hB, L', hrow⟩ := FB.out
  refine end_world (F := TreeEndo w n now D bW)
    ⟨(((hr.off _ (by omega)).off _ (by omega)).set 0 _).set 1 _,
     bel_put (bel_put (bel_put (bel_put hB _ (by omega)) _ (by omega)) _ (by omega)) _ (by omega),
     L', (((hrow.off _ (by omega)).off _ (by omega)).off _ (by omega)).off _ (by omega)⟩ ?_
  clear hr hB hrow FB o0 o1 f0 f1 p1 r0 r1 g0 g1
  rintro W ⟨hr, hB, hrow⟩
  have r0 : W.cell? ⟨w.heap.size + 1, 0, none⟩ = some (.slice (some ⟨bW, 0, none⟩) n n) := hr.cell 0
  have r1 : W.cell? ⟨w.heap.size + 1, 1, none⟩ = some (.int .i64 now) := hr.cell 1
  exact bodyPost_ret (v := .agg #[.slice (some ⟨bW, 0, none⟩) n n, .int .i64 now]) (by simp [results, Tryz.results12, go_sem, r0, r1]) rfl ⟨bW, rfl, hB, by omega, hrow⟩

end Go.Proofs.YtfdjfndpeeomkaaGreatDoor

/-
  Trees, as the laws hand them about: counted, copied, held against each other, marked and looked at.
-/
namespace Go.Proofs.YtfdjfndpeeomkaaGreatDoor
open Go.RowKit Go.Deep
set_option linter.unusedVariables false
set_option linter.unusedSimpArgs false

/-- A tree. -/
structure Tr where
  n : Nat
  D : Nat → Nd
  now : Int

/-- Where it lies. -/
structure TLoc where
  a : Option Addr
  c : Nat
  L : Nat → Loc

def tV (t : Tr) (l : TLoc) : Value := .agg #[.slice l.a t.n l.c, .int .i64 t.now]
def tC (t : Tr) (l : TLoc) : Array Value := #[.slice l.a t.n l.c, .int .i64 t.now]
def TIn (w : World) (t : Tr) (l : TLoc) : Prop := IsNds w l.a t.n t.D l.L
def Tr.size (t : Tr) : Nat := t.n + sizeTo t.D t.n
def Tr.same (t u : Tr) : Bool := (decide (t.n = u.n) && sameAll t.n t.D u.D) && (t.now == u.now)
structure Tr.Fits (t : Tr) : Prop where
  n : t.n ≤ maxLen
  nds : FitAll t.n t.D
  now : In64 t.now

theorem Tr.same_self (t : Tr) : t.same t = true := by unfold Tr.same; rw [sameAll_self]; simp

theorem TIn.below {w w' : World} {t : Tr} {l : TLoc} (h : TIn w t l) {B : Nat} (hB : w.heap.size ≤ B) (hb : Below B w w') : TIn w' t l := IsNds.below h hB hb

theorem tC_cells {W : World} {b : Nat} {t : Tr} {l : TLoc} {ty : TypeId} (h : Blk W b (tC t l) ty) : W.cell? ⟨b, 0, none⟩ = some (.slice l.a t.n l.c) ∧ W.cell? ⟨b, 1, none⟩ = some (.int .i64 t.now) := ⟨h.cell 0, h.cell 1⟩

/-- A tree in memory of its own. -/
def OwnTr (W : World) (B : Nat) (t : Tr) (l : TLoc) : Prop := OT W B 0 (fun _ => false) t.n (fun _ => 0) t.D l.L (.slice none 0 0) (.slice l.a t.n l.c)
def TopTr (t : Tr) (l : TLoc) (H : Nat) : Prop := ∀ d b, d < 2 + 2 * t.n → (valT (.slice none 0 0) (.slice l.a t.n l.c) t.D l.L d).ownBlock = some b → b < H
def MarkedTr (W : World) (B : Nat) (t : Tr) (l : TLoc) (k0 : Nat) : Prop := OT W B 0 (fun _ => false) t.n (fun _ => 0) (markT t.D k0 t.n) l.L (.slice none 0 0) (.slice l.a t.n l.c)
def kTr (t : Tr) (k0 : Nat) : Nat := kaT t.D k0 t.n

theorem OwnTr.tIn {W : World} {B : Nat} {t : Tr} {l : TLoc} (h : OwnTr W B t l) : TIn W t l := OT.nds h
theorem OwnTr.top {W : World} {B : Nat} {t : Tr} {l : TLoc} (h : OwnTr W B t l) : TopTr t l W.heap.size := fun d b hd e => (owns_block (h.rows.own d hd) e).2
theorem OwnTr.below {W W' : World} {B : Nat} {t : Tr} {l : TLoc} (h : OwnTr W B t l) (hb : Below W.heap.size W W') : OwnTr W' B t l := OT.below h hb
theorem OwnTr.far {W W' : World} {B B0 H0 : Nat} {t : Tr} {l : TLoc} (h : OwnTr W B t l) (hf : Fr B0 H0 W W') (hH : H0 ≤ B) : OwnTr W' B t l := OT.same h fun b hb hl => hf.far b (by omega) hl
theorem OwnTr.lower {W : World} {B B' : Nat} {t : Tr} {l : TLoc} (h : OwnTr W B t l) (hB : B' ≤ B) : OwnTr W B' t l := OT.lower h hB
theorem OwnTr.put {W : World} {B V i : Nat} {t : Tr} {l : TLoc} (h : OwnTr W B t l) (v : Value) (hV : V < B) : OwnTr (W.setCell ⟨V, i, none⟩ v) B t l := OT.off h v hV
theorem MarkedTr.below {W W' : World} {B : Nat} {t : Tr} {l : TLoc} {k0 : Nat} (h : MarkedTr W B t l k0) (hb : Below W.heap.size W W') : MarkedTr W' B t l k0 := OT.below h hb

theorem kaT_le (D : Nat → Nd) (k0 : Nat) : ∀ m, kaT D k0 m ≤ k0 + 3 * m + sizeTo D m
  | 0 => by simp [kaT, sizeTo]
  | m + 1 => by
    have h1 := kaT_le D k0 m
    rw [kaT, sizeTo_succ]
    unfold Nd.size
    omega

theorem kTr_le {t : Tr} (h : t.size ≤ 1048576) (k0 : Nat) : kTr t k0 ≤ k0 + 4194304 := by
  have h1 := kaT_le t.D k0 t.n
  unfold Tr.size at h
  unfold kTr
  omega

theorem kTr_ge (t : Tr) (k0 : Nat) : k0 ≤ kTr t k0 := kaT_ge _ _ _

theorem szTr (t : Tr) (l : TLoc) (left : Int) (w : World) (hI : TIn w t l) (hf : t.Fits) (h0 : 0 ≤ left) (h1 : left ≤ 1048576) :
    Calls Tryz.prog 9 #[tV t l, .int .i64 left] w fun e w' => Below w.heap.size w w' ∧ ∃ r : Int, e = .returned (.int .i64 r) ∧ r ≤ left ∧ (0 ≤ r → r + t.size ≤ left) :=
  (szTree_any l.a t.n l.c t.now t.D l.L left w hI hf.nds hf.n h0 h1).mono fun e w' ⟨hb, r, he, hr, hs⟩ => ⟨hb, r, he, hr, fun h => by have := hs h; unfold Tr.size; omega⟩

theorem toTr (t : Tr) (l : TLoc) (w : World) (hI : TIn w t l) (hs : t.size ≤ 1048576) :
    Calls Tryz.prog 12 #[tV t l] w fun e w' => ∃ l', e = .returned (tV t l') ∧ Below w.heap.size w w' ∧ OwnTr w' w.heap.size t l' := by
  unfold Tr.size at hs
  refine (toTree_own l.a t.n l.c t.now t.D l.L w hI (by omega) (fun i hi => by have := tr_small (show sizeTo t.D t.n ≤ 1048576 by omega) i hi; omega)).mono ?_
  rintro e w' ⟨b, rfl, hb, hB, L', ho⟩
  exact ⟨⟨some ⟨b, 0, none⟩, t.n, L'⟩, rfl, hb, OT.lower ho hB⟩

theorem eqTr (t u : Tr) (l k : TLoc) (w : World) (hI : TIn w t l) (hI' : TIn w u k) (hf : t.Fits) (hf' : u.Fits) :
    Calls Tryz.prog 15 #[tV t l, tV u k] w fun e w' => Below w.heap.size w w' ∧ e = .returned (.bool (t.same u)) :=
  eqTree_any l.a k.a t.n l.c u.n k.c t.now u.now t.D u.D l.L k.L w hI hI' hf.nds hf'.nds hf.n hf'.n

theorem markTr (t : Tr) (l : TLoc) (k0 B H : Nat) (w : World) (h : OwnTr w B t l) (hH : TopTr t l H) (hB : B ≤ w.heap.size) (hs : t.size ≤ 1048576) (hk1 : 1 ≤ k0) (hk2 : k0 ≤ 50000000) :
    Calls Tryz.prog 17 #[tV t l, .int .i64 (k0 : Int)] w fun e w' => e = .returned (.int .i64 (kTr t k0 : Nat)) ∧ Fr B H w w' ∧ MarkedTr w' B t l k0 := by
  have hk := kTr_le hs k0
  unfold Tr.size at hs
  exact markTree_own l.a t.n l.c k0 B t.now (fun _ => 0) t.D l.L w h (by omega) hk1 (by unfold kTr at hk; omega) (fun i hi => by have := tr_small (show sizeTo t.D t.n ≤ 1048576 by omega) i hi; omega) hB H hH

theorem heldTr (t : Tr) (l : TLoc) (k0 B : Nat) (w : World) (h : MarkedTr w B t l k0) (hs : t.size ≤ 1048576) (hsm : ∀ i, i < t.n → (t.D i).nn ≤ 1000000 ∧ (t.D i).kn ≤ 1000000) (hk1 : 1 ≤ k0) (hk2 : k0 ≤ 50000000) :
    Calls Tryz.prog 19 #[tV t l, .int .i64 (k0 : Int)] w fun e w' => e = .returned (.int .i64 (kTr t k0 : Nat)) ∧ Below w.heap.size w w' := by
  have hk := kTr_le hs k0
  unfold Tr.size at hs
  exact heldTree_own l.a t.n l.c k0 B t.now (fun _ => 0) t.D l.L w h (by omega) hk1 (by unfold kTr at hk; omega) hsm

/-- The bounds that an answer keeps. -/
structure SmTr (t : Tr) : Prop where
  fits : t.Fits
  size : t.size ≤ 1048576
  nds : ∀ i, i < t.n → (t.D i).nn ≤ 1000000 ∧ (t.D i).kn ≤ 1000000

def trNone : Tr := ⟨0, fun _ => ndZero, 0⟩
theorem trNone_small : SmTr trNone := ⟨⟨by unfold trNone maxLen; simp, fun i hi => absurd hi (Nat.not_lt_zero _), by unfold trNone In64; simp⟩, by unfold trNone Tr.size; simp [sizeTo], fun i hi => absurd hi (Nat.not_lt_zero _)⟩

theorem good_small {t : Tr} (hg : TreeGood t.n t.D t.now) (hf : FitAll t.n t.D) (hs : t.n + sizeTo t.D t.n ≤ 1048576) : SmTr t := by
  have h1 := hg.few
  have h2 := hg.begun
  have h3 := hg.soon
  refine ⟨⟨by unfold maxLen; omega, hf, by unfold In64; omega⟩, hs, fun i hi => ?_⟩
  have e := ndOk_same (hg.nodes i hi)
  have hz := size_le_sizeTo t.D t.n i hi
  unfold Nd.size at hz
  omega
end Go.Proofs.YtfdjfndpeeomkaaGreatDoor

/-
  How what is kept of a tree, handed in, is opened: what lies in memory from its addresses on.
-/
namespace Go.Proofs.YtfdjfndpeeomkaaGreatDoor
open Go.ChangeShapes Go.WideShapes Go.ChangeAt Go.RowKit Go.Deep
set_option linter.unusedVariables false

theorem cellsBool : Tryz.prog.cellsOf 4 = 1 := by kernel_rfl
theorem cellsItem : Tryz.prog.cellsOf 130 = 6 := by kernel_rfl
theorem cellsDump : Tryz.prog.cellsOf 28 = 4 := by kernel_rfl

section
variable {H : Type} {enc : TypeId × Value → H} {W : World}

theorem openBoolsC {v : Value} {fuel : Nat} {x : DataW H × List MemPlace} (h : DataW.trod enc Tryz.prog W 0 (fun _ => true) true fuel 25 [v] = some x) :
    ∃ (a : Option Addr) (n c : Nat) (Z : Nat → Bool), v = .slice a n c ∧ IsBools W a n Z ∧ n ≤ maxLen := by
  rcases open_slice1 Tryz.underlying25 cellsBool h with ⟨h0, _⟩ | ⟨a, n, c, m, fl, V, DD, Pl, h0, _, hl, hm, hmm, _, hx⟩
  · cases h0
    exact ⟨none, 0, 0, fun _ => false, rfl, Or.inl rfl, by unfold maxLen; omega⟩
  · cases h0
    simp at hmm
    have each : ∀ i, i < n → ∃ q : Bool, W.cell? (a.add i) = some (.bool q) := fun i hi => by
      obtain ⟨h1, h2⟩ := hx i (by omega)
      obtain ⟨q, e, _⟩ := DataW.trod_bool Tryz.underlying4 h2
      have e' : V i = .bool q := by simpa using e
      exact ⟨q, by rw [h1, e']⟩
    obtain ⟨f, hf⟩ := choose_lt each
    obtain ⟨b, off, spot⟩ := a
    refine ⟨some ⟨b, off, spot⟩, n, c, f, rfl, ?_, by omega⟩
    by_cases hn : n = 0
    · exact Or.inl hn
    · have h00 := hf 0 (by omega)
      have hspot : spot = none := by simpa [Addr.add] using World.cell?_spot h00
      subst hspot
      refine Or.inr ⟨b, off, rfl, lt_of_cell (by simpa [Addr.add] using h00), fun i hi => ?_⟩
      have := hf i hi
      rw [add_plain] at this
      exact this

theorem trod15 {P : Program} {base : Nat} {spare : Nat → Bool} {held : Bool} {t : TypeId} {f0 f1 : Field} {fuel : Nat} {cs : List Value} {x : DataW H × List MemPlace} (hs : P.underlying t = some (.struct #[f0, f1])) (h0 : f0.offset = 0) (h1 : f1.offset = 1) (c0 : P.cellsOf f0.type = 1) (c1 : P.cellsOf f1.type = 5)
    (hC : P.cellsOf t = 6) (h : DataW.trod enc P W base spare held fuel t cs = some x) :
    ∃ (v0 v1 v2 v3 v4 v5 : Value) (y0 y1 : DataW H × List MemPlace) (n : Nat), cs = [v0, v1, v2, v3, v4, v5] ∧ DataW.trod enc P W base spare held n f0.type [v0] = some y0 ∧ DataW.trod enc P W base spare held n f1.type [v1, v2, v3, v4, v5] = some y1 := by
  obtain ⟨y0, y1, n, _, hl, g0, g1⟩ := trod_struct2 hs h
  rw [hC] at hl
  match cs, hl with
  | [v0, v1, v2, v3, v4, v5], _ => exact ⟨v0, v1, v2, v3, v4, v5, y0, y1, n, rfl, by simpa [h0, c0] using g0, by simpa [h1, c1] using g1⟩

theorem trod4 {P : Program} {base : Nat} {spare : Nat → Bool} {held : Bool} {t : TypeId} {f0 f1 f2 f3 : Field} {fuel : Nat} {cs : List Value} {x : DataW H × List MemPlace} (hs : P.underlying t = some (.struct #[f0, f1, f2, f3])) (hone : oneCellFields P #[f0, f1, f2, f3] = true)
    (hC : P.cellsOf t = 4) (h : DataW.trod enc P W base spare held fuel t cs = some x) :
    ∃ (v0 v1 v2 v3 : Value) (y0 y1 y2 y3 : DataW H × List MemPlace) (n : Nat), cs = [v0, v1, v2, v3] ∧ DataW.trod enc P W base spare held n f0.type [v0] = some y0 ∧ DataW.trod enc P W base spare held n f1.type [v1] = some y1 ∧
      DataW.trod enc P W base spare held n f2.type [v2] = some y2 ∧ DataW.trod enc P W base spare held n f3.type [v3] = some y3 := by
  obtain ⟨xs, n, _, rfl, hl, hlen, hf⟩ := DataW.trod_struct hs h
  rw [hC] at hl
  obtain ⟨o0, k0⟩ := hone_of hone 0 f0 rfl
  obtain ⟨o1, k1⟩ := hone_of hone 1 f1 rfl
  obtain ⟨o2, k2⟩ := hone_of hone 2 f2 rfl
  obtain ⟨o3, k3⟩ := hone_of hone 3 f3 rfl
  match xs, hlen, cs, hl with
  | [y0, y1, y2, y3], _, [v0, v1, v2, v3], _ =>
    refine ⟨v0, v1, v2, v3, y0, y1, y2, y3, n, rfl, ?_, ?_, ?_, ?_⟩
    · simpa [o0, k0] using hf 0 f0 rfl
    · simpa [o1, k1] using hf 1 f1 rfl
    · simpa [o2, k2] using hf 2 f2 rfl
    · simpa [o3, k3] using hf 3 f3 rfl

theorem openItemC {cs : List Value} {fuel : Nat} {x : DataW H × List MemPlace} (h : DataW.trod enc Tryz.prog W 0 (fun _ => true) true fuel 130 cs = some x) :
    ∃ (o : Int) (d : Nd) (l : Loc), cs = [.int .i64 o, .int .i64 d.kind, .string d.text, .slice l.nA d.nn l.nc, .slice l.kA d.kn l.kc, .int .i64 d.turn] ∧ NdIn W d l ∧ d.Fits ∧ In64 o := by
  obtain ⟨v0, v1, v2, v3, v4, v5, y0, y1, n, rfl, h0, h1⟩ := trod15 Tryz.underlying130 rfl rfl cellsInt cellsNode cellsItem h
  obtain ⟨o, e0, _, w0⟩ := DataW.trod_int Tryz.underlying3 h0
  obtain ⟨d, l, e1, hI, hf⟩ := openNodeC h1
  cases e0; cases e1
  exact ⟨o, d, l, rfl, hI, hf, wf64 w0⟩

theorem openItemsC {v : Value} {fuel : Nat} {x : DataW H × List MemPlace} (h : DataW.trod enc Tryz.prog W 0 (fun _ => true) true fuel 26 [v] = some x) :
    ∃ (a : Option Addr) (n c : Nat) (O : Nat → Int) (D : Nat → Nd) (L : Nat → Loc), v = .slice a n c ∧ IsIts W a n O D L ∧ FitAll n D ∧ (∀ i, i < n → In64 (O i)) ∧ n ≤ maxLen := by
  rcases open_slice Tryz.underlying26 h with ⟨h0, _⟩ | ⟨a, n, c, m, fl, DD, Pl, h0, _, hl, hm, hmm, _, hx⟩
  · cases h0
    exact ⟨none, 0, 0, fun _ => 0, fun _ => default, fun _ => default, rfl, Or.inl rfl, fun i hi => by omega, fun i hi => by omega, by unfold maxLen; omega⟩
  · cases h0
    simp at hmm
    have each : ∀ i, i < n → ∃ p : Int × Nd × Loc, W.cells? 0 (a.add (i * 6)) 6 = some [.int .i64 p.1, .int .i64 p.2.1.kind, .string p.2.1.text, .slice p.2.2.nA p.2.1.nn p.2.2.nc, .slice p.2.2.kA p.2.1.kn p.2.2.kc, .int .i64 p.2.1.turn] ∧ NdIn W p.2.1 p.2.2 ∧ p.2.1.Fits ∧ In64 p.1 := by
      intro i hi
      obtain ⟨cs', h1, h2⟩ := hx i (by omega)
      rw [cellsItem] at h1
      obtain ⟨o, d, l, rfl, h3, h4, h5⟩ := openItemC h2
      exact ⟨(o, d, l), h1, h3, h4, h5⟩
    obtain ⟨f, hf⟩ := choose_lt each
    refine ⟨some a, n, c, fun i => (f i).1, fun i => (f i).2.1, fun i => (f i).2.2, rfl, ?_, fun i hi => (hf i hi).2.2.1, fun i hi => (hf i hi).2.2.2, by omega⟩
    by_cases hn : n = 0
    · exact Or.inl hn
    · obtain ⟨b, off, spot⟩ := a
      have h00 := (World.cells?_some (hf 0 (by omega)).1).2.2 0 (by omega)
      have hspot : spot = none := by
        have : W.cell? ⟨b, off, spot⟩ = some (.int .i64 (f 0).1) := by simpa [Addr.add] using h00
        simpa using World.cell?_spot this
      subst hspot
      have h00' : W.cell? ⟨b, off, none⟩ = some (.int .i64 (f 0).1) := by simpa [Addr.add] using h00
      refine Or.inr ⟨b, off, rfl, lt_of_cell h00', fun i hi => ?_⟩
      obtain ⟨h1, h2, _⟩ := hf i hi
      have g := (World.cells?_some h1).2.2
      have e : ∀ j, j < 6 → W.cell? ⟨b, off + i * 6 + j, none⟩ = [Value.int .i64 (f i).1, .int .i64 (f i).2.1.kind, .string (f i).2.1.text, .slice (f i).2.2.nA (f i).2.1.nn (f i).2.2.nc, .slice (f i).2.2.kA (f i).2.1.kn (f i).2.2.kc, .int .i64 (f i).2.1.turn][j]? := by
        intro j hj
        have := g j hj
        rw [add_add, add_plain] at this
        rw [← this, Nat.add_assoc]
      exact ⟨by simpa using e 0 (by omega), by simpa using e 1 (by omega), by simpa using e 2 (by omega), by simpa using e 3 (by omega), by simpa using e 4 (by omega), by simpa using e 5 (by omega), h2⟩

set_option maxRecDepth 100000 in
theorem openDumpC {cs : List Value} {fuel : Nat} {x : DataW H × List MemPlace} (h : DataW.trod enc Tryz.prog W 0 (fun _ => true) true fuel 28 cs = some x) :
    ∃ (d : Dp) (l : DLoc), cs = [.int .i64 d.since, .int .i64 d.date, .slice l.lA d.ln l.lc, .slice l.iA d.m l.ic] ∧ DpIn W d l ∧ d.Fits := by
  obtain ⟨v0, v1, v2, v3, y0, y1, y2, y3, n, rfl, h0, h1, h2, h3⟩ := trod4 Tryz.underlying28 (by kernel_rfl) cellsDump h
  obtain ⟨z0, e0, _, w0⟩ := DataW.trod_int Tryz.underlying3 h0
  obtain ⟨z1, e1, _, w1⟩ := DataW.trod_int Tryz.underlying3 h1
  obtain ⟨a2, n2, c2, Z, e2, i2, l2⟩ := openBoolsC h2
  obtain ⟨a3, n3, c3, O, D, L, e3, i3, f3, m3, l3⟩ := openItemsC h3
  cases e0; cases e1; cases e2; cases e3
  exact ⟨⟨z0, z1, n2, Z, n3, O, D⟩, ⟨a2, c2, a3, c3, L⟩, rfl, ⟨i2, i3⟩, ⟨wf64 w0, wf64 w1, l2, l3, m3, f3⟩⟩

set_option maxRecDepth 100000 in
theorem openDump {r : Go.Reach} {b0 : Nat} {v : Value} {d : DataW H} {p : List MemPlace} (hv : Value.okWide Tryz.prog W r b0 28 v) (h : DataW.Trod enc Tryz.prog W 0 (fun _ => true) true 28 v d p) :
    ∃ (e : Dp) (l : DLoc), v = dpV e l ∧ DpIn W e l ∧ e.Fits := by
  obtain ⟨cs, rfl, hsz⟩ := okWide_struct Tryz.underlying28 hv
  obtain ⟨fuel, hf⟩ := h
  obtain ⟨e, l, hcs, hI, hF⟩ := openDumpC hf
  refine ⟨e, l, ?_, hI, hF⟩
  unfold dpV
  congr 1
  apply Array.toList_inj.1
  simpa [Value.cells] using hcs
end
end Go.Proofs.YtfdjfndpeeomkaaGreatDoor

/-
  What the small helpers of the exact laws do at a list of truth values that lies in memory: szBoolS counts it, toBoolS makes a copy of it, eqBoolS holds two of them against each other.
-/
namespace Go.Proofs.YtfdjfndpeeomkaaGreatDoor
open Go.RowKit
set_option linter.unusedVariables false

set_option maxHeartbeats 400000 in
theorem szBoolS_any (a : Option Addr) (n c : Nat) (left : Int) (w : World) (hn : n ≤ maxLen) (h0 : 0 ≤ left) (h1 : left ≤ 1048576) :
    Calls Tryz.prog 51 #[.slice a n c, .int .i64 left] w fun e w' => w = w' ∧ ∃ r : Int, e = .returned (.int .i64 r) ∧ r ≤ left ∧ (0 ≤ r → r + n ≤ left) := by
  unfold maxLen at hn
  go_enter Tryz.func51, Tryz.ntmps51
  go_wp2
  · go_ret
    exact ⟨rfl, -1, rfl, by omega, fun h => by omega⟩
  · go_ret
    exact ⟨rfl, left - n, rfl, by omega, fun h => by omega⟩

theorem copyB_step (Z : Nat → Bool) (i k : Nat) : (if i = k then Value.bool (Z k) else if i < k then .bool (Z i) else .bool false) = if i < k + 1 then .bool (Z i) else .bool false := by
  by_cases h : i = k
  · subst h; simp
  · by_cases h2 : i < k
    · simp [h, h2, show i < k + 1 by omega]
    · simp [h, h2, show ¬ i < k + 1 by omega]

set_option maxHeartbeats 400000 in
theorem toBoolS_any (a : Option Addr) (n c : Nat) (Z : Nat → Bool) (w : World) (hS : IsBools w a n Z) (hn : n ≤ 1048576) :
    Calls Tryz.prog 57 #[.slice a n c] w fun e w' => e = .returned (.slice (some ⟨w.heap.size, 0, none⟩) n n) ∧ Below w.heap.size w w' ∧ w'.rowIs w.heap.size 4 n (fun i => .bool (Z i)) := by
  have hmk := fun w => run_make_row' (P := Tryz.prog) 25 4 (.bool false) 1 Tryz.underlying25 infoBool rfl .i64 .i64 n (by omega) (by omega) w
  go_enter Tryz.func57, Tryz.ntmps57
  go_wp2
  go_loopw [4] (fun i wr => ∃ k : Nat, k ≤ n ∧ i = .int .i64 k ∧ Below w.heap.size w wr ∧ wr.rowIs w.heap.size 4 n (fun j => if j < k then .bool (Z j) else .bool false)) (fun i _ => n - (intOf i).toNat)
  case atStart => exact ⟨0, Nat.zero_le _, rfl, (Below.refl _ _).alloc (Nat.le_refl _) _, (World.rowIs_made w (.bool false) n 4).congr (fun i _ => by simp)⟩
  case round =>
    obtain ⟨k, hk, rfl, hb, hrow⟩ := hrel
    by_cases hlt : k < n
    · obtain ⟨b, off, rfl, hlt2, hc⟩ := hS.at hlt
      have hck : wr.cell? ⟨b, off + k, none⟩ = some (.bool (Z k)) := by rw [hb.cell (p := ⟨b, off + k, none⟩) hlt2]; exact hc k hlt
      have hcr := hrow.cell hlt
      have hfr := hrow.frozen k
      have HB : Hid (Below w.heap.size w wr) := hb
      have HR : Hid (wr.rowIs w.heap.size 4 n (fun j => if j < k then .bool (Z j) else .bool false)) := hrow
      clear hc hb hrow
      go_wp2
      go_roundw
      case rel => exact ⟨k + 1, by omega, by go_num, HB.out.setCell (Nat.le_refl _) _, (HR.out.set k (.bool (Z k))).congr (fun i _ => copyB_step Z i k)⟩
      case measure => simp [intOf]; omega
    · have HB : Hid (Below w.heap.size w wr) := hb
      have HR : Hid (wr.rowIs w.heap.size 4 n (fun j => if j < k then .bool (Z j) else .bool false)) := hrow
      clear hb hrow
      go_wp2
      go_ret
      exact ⟨rfl, HB.out, HR.out.congr (fun i hi => by simp [show i < k by omega])⟩

set_option maxHeartbeats 400000 in
theorem eqBoolS_any (a a' : Option Addr) (n c m c' : Nat) (Z Y : Nat → Bool) (w : World) (hS : IsBools w a n Z) (hT : IsBools w a' m Y) (hn : n ≤ maxLen) (hm : m ≤ maxLen) :
    Calls Tryz.prog 62 #[.slice a n c, .slice a' m c'] w fun e w' => (∃ q, w' = w.drewN q) ∧ e = .returned (.bool (decide (n = m) && eqB n Z Y)) := by
  unfold maxLen at hn hm
  by_cases hne : n = m
  · subst hne
    have hb : ((n : Int) != (n : Int)) = false := by simp
    go_enter Tryz.func62, Tryz.ntmps62
    go_wp2
    go_loopw [5] (fun i wr => ∃ k q : Nat, k ≤ n ∧ i = .int .i64 k ∧ wr = w.drewN q ∧ eqB k Z Y = true) (fun i _ => n - (intOf i).toNat)
    case atStart => exact ⟨0, 0, Nat.zero_le _, rfl, rfl, rfl⟩
    case round =>
      obtain ⟨k, q, hk, rfl, rfl, heq⟩ := hrel
      have HE : Hid (eqB k Z Y = true) := heq
      clear heq
      by_cases hlt : k < n
      · obtain ⟨b, off, rfl, hlt2, hc⟩ := hS.at hlt
        obtain ⟨b', off', rfl, hlt2', hc'⟩ := hT.at hlt
        have h1 := hc k hlt
        have h2 := hc' k hlt
        have hlti : (k : Int) < (n : Int) := by omega
        clear hc hc'
        by_cases hzy : Z k = Y k
        · have hzb : (!(Z k == Y k)) = false := by simp [hzy]
          have HZ : Hid (Z k = Y k) := hzy
          clear hzy
          go_wp2
          go_quiet (fail)
          go_wp2
          go_roundw
          case rel => exact ⟨k + 1, q + nq, by omega, by go_num, rfl, eqB_succ k Z Y HE.out HZ.out⟩
          case measure => simp [intOf]; omega
        · have hzb : (!(Z k == Y k)) = true := by simp [hzy]
          have HZ : Hid (¬ Z k = Y k) := hzy
          clear hzy
          go_wp2
          go_quiet (fail)
          go_wp2
          go_ret
          exact ⟨⟨q + nq, by simp⟩, ret_bool (by rw [← eqB_not n k Z Y hlt HZ.out]; simp)⟩
      · have hkn : k = n := by omega
        have HK : Hid (k = n) := hkn
        clear hkn
        go_wp2
        go_ret
        exact ⟨⟨q, rfl⟩, ret_bool (by rw [← HK.out, HE.out]; simp)⟩
  · have hb : ((n : Int) != (m : Int)) = true := by simp; omega
    go_enter Tryz.func62, Tryz.ntmps62
    go_wp2
    go_ret
    exact ⟨⟨0, rfl⟩, ret_bool (by simp [hne])⟩

end Go.Proofs.YtfdjfndpeeomkaaGreatDoor

/-
  What the small helpers of the exact laws do at places that were turned, and at lists of them.
-/
namespace Go.Proofs.YtfdjfndpeeomkaaGreatDoor
open Go.RowKit
set_option linter.unusedVariables false
set_option linter.unusedSimpArgs false

set_option maxHeartbeats 400000 in
theorem szItem_any (o : Int) (d : Nd) (l : Loc) (left : Int) (w : World) (hI : NdIn w d l) (hf : d.Fits) (h0 : 0 ≤ left) (h1 : left ≤ 1048576) :
    Calls Tryz.prog 91 #[itV o d l, .int .i64 left] w fun e w' => Below w.heap.size w w' ∧ ∃ r : Int, e = .returned (.int .i64 r) ∧ r ≤ left ∧ (0 ≤ r → r + d.size ≤ left) := by
  unfold itV
  go_enter Tryz.func91, Tryz.ntmps91
  go_wp2_with fail
  refine at_world (F := New1 w _ _) (new1 w _ _) ?_
  rintro W ⟨hp, hb, hs⟩
  refine (szNode_any d l left W (hI.below (Nat.le_refl _) hb) hf h0 h1).mono ?_
  rintro e w1 ⟨hb1, r, rfl, hr1, hr2⟩
  have hB := hb.trans (hb1.mono (by omega))
  by_cases hr3 : r < 0
  · have hr3' : decide (r < 0) = true := by simp; omega
    have HB : Hid (Below w.heap.size w w1) := hB
    clear hB hb1 hb hp hr2
    go_wp2
    go_ret
    exact ⟨HB.out, -1, rfl, by omega, fun h => by omega⟩
  · have hr3' : decide (r < 0) = false := by simp; omega
    have HB : Hid (Below w.heap.size w w1 ∧ (0 ≤ r → r + d.size ≤ left)) := ⟨hB, hr2⟩
    clear hB hb1 hb hp hr2
    go_wp2
    go_ret
    exact ⟨HB.out.1, r, rfl, by omega, HB.out.2⟩

set_option maxHeartbeats 400000 in
theorem szItemS_any (a : Option Addr) (n c : Nat) (O : Nat → Int) (D : Nat → Nd) (L : Nat → Loc) (left : Int) (w : World) (hS : IsIts w a n O D L) (hf : FitAll n D) (hn : n ≤ maxLen) (h0 : 0 ≤ left) (h1 : left ≤ 1048576) :
    Calls Tryz.prog 52 #[.slice a n c, .int .i64 left] w fun e w' => Below w.heap.size w w' ∧ ∃ r : Int, e = .returned (.int .i64 r) ∧ r ≤ left ∧ (0 ≤ r → r + n + sizeTo D n ≤ left) := by
  unfold maxLen at hn
  by_cases hbig : left < n
  · go_enter Tryz.func52, Tryz.ntmps52
    go_wp2
    go_ret
    exact ⟨Below.refl _ _, -1, rfl, by omega, fun h => by omega⟩
  · go_enter Tryz.func52, Tryz.ntmps52
    go_wp2
    go_loopw [1, 5] (fun l i wr => ∃ (k : Nat) (r : Int), k ≤ n ∧ 0 ≤ r ∧ i = .int .i64 k ∧ l = .int .i64 r ∧ r + n + sizeTo D k ≤ left ∧ Below w.heap.size w wr) (fun _ i _ => n - (intOf i).toNat)
    case atStart => exact ⟨0, left - n, Nat.zero_le _, by omega, rfl, rfl, by simp [sizeTo], Below.refl _ _⟩
    case round =>
      obtain ⟨k, r, hk, hr, rfl, rfl, hsum, hbel⟩ := hrel
      by_cases hlt : k < n
      · obtain ⟨b, off, rfl, hlt2, hc⟩ := (hS.below (Nat.le_refl _) hbel).at hlt
        obtain ⟨c0, c1, c2, c3, c4, c5, hI⟩ := hc k hlt
        clear hc
        go_wp2_with fail
        refine (szItem_any (O k) (D k) (L k) r wr hI (hf k hlt) hr (by omega)).mono ?_
        rintro e w1 ⟨hb1, r', rfl, hr1, hr2⟩
        have hB := hbel.trans (hb1.mono hbel.size)
        by_cases hr3 : r' < 0
        · have hr3' : decide (r' < 0) = true := by simp; omega
          have HB : Hid (Below w.heap.size w w1) := hB
          clear hB hb1 hbel c0 c1 c2 c3 c4 c5 hI hr2
          go_wp2
          go_ret
          exact ⟨HB.out, -1, rfl, by omega, fun h => by omega⟩
        · have hr3' : decide (r' < 0) = false := by simp; omega
          have HS : Hid (r' + n + sizeTo D (k + 1) ≤ left ∧ Below w.heap.size w w1) := ⟨by have := hr2 (by omega); rw [sizeTo_succ]; omega, hB⟩
          clear hB hb1 hbel c0 c1 c2 c3 c4 c5 hI hr2 hsum
          go_wp2
          go_roundw
          case rel => exact ⟨k + 1, r', by omega, by omega, by go_num, by go_num, HS.out.1, HS.out.2⟩
          case measure => simp [intOf]; omega
      · go_wp2
        go_ret
        exact ⟨hbel, r, rfl, by omega, fun _ => by have : k = n := by omega
                                                   subst this; omega⟩

/-- What is known at toItem's end. -/
structure ItemEnd (w : World) (o : Int) (d : Nd) (l : Loc) (W : World) : Prop where
  r : Blk W (w.heap.size + 1) #[.int .i64 o, .int .i64 d.kind, .string d.text, .slice l.nA d.nn l.nc, .slice l.kA d.kn l.kc, .int .i64 d.turn] 133
  bel : Below w.heap.size w W
  nd : NdIn W d l

set_option maxHeartbeats 1000000 in
theorem toItem_any (o : Int) (d : Nd) (l : Loc) (w : World) (hI : NdIn w d l) (hn : d.nn ≤ 1048576) (hk : d.kn ≤ 1048576) :
    Calls Tryz.prog 98 #[itV o d l] w fun e w' => ∃ l', e = .returned (itV o d l') ∧ Below w.heap.size w w' ∧ NdIn w' d l' ∧ l'.Past w.heap.size := by
  unfold itV
  go_enter Tryz.func98, Tryz.ntmps98
  go_wp2_with fail
  refine at_world (F := New3 w _ _ _ _ _ _) (new3 w _ _ _ _ _ _) ?_
  rintro W ⟨hp, hr, ho, hb0, hs0⟩
  refine (toNode_any d l W (hI.below (Nat.le_refl _) hb0) hn hk).mono ?_
  rintro e w1 ⟨l', rfl, hb1, hI1, hp1⟩
  unfold ndV
  have hr1 := hr.below hb1 (by omega)
  have ho1 := ho.below hb1 (by omega)
  have hB1 := hb0.trans (hb1.mono (by omega))
  have hsz := hb1.size
  have o0 : w1.cell? ⟨w.heap.size + 1 + 1, 0, none⟩ = some (.int .i64 o) := ho1.cell 0
  have o1 : w1.cell? ⟨w.heap.size + 1 + 1, 1, none⟩ = some (.int .i64 0) := ho1.cell 1
  have o2 : w1.cell? ⟨w.heap.size + 1 + 1, 2, none⟩ = some (.string ByteArray.empty) := ho1.cell 2
  have o3 : w1.cell? ⟨w.heap.size + 1 + 1, 3, none⟩ = some (.slice none 0 0) := ho1.cell 3
  have o4 : w1.cell? ⟨w.heap.size + 1 + 1, 4, none⟩ = some (.slice none 0 0) := ho1.cell 4
  have o5 : w1.cell? ⟨w.heap.size + 1 + 1, 5, none⟩ = some (.int .i64 0) := ho1.cell 5
  have f0 := ho1.frozen 0
  have f1 := ho1.frozen 1
  have f2 := ho1.frozen 2
  have f3 := ho1.frozen 3
  have f4 := ho1.frozen 4
  have f5 := ho1.frozen 5
  have r0 : w1.cell? ⟨w.heap.size + 1, 0, none⟩ = some (.int .i64 0) := hr1.cell 0
  have r1 : w1.cell? ⟨w.heap.size + 1, 1, none⟩ = some (.int .i64 0) := hr1.cell 1
  have r2 : w1.cell? ⟨w.heap.size + 1, 2, none⟩ = some (.string ByteArray.empty) := hr1.cell 2
  have r3 : w1.cell? ⟨w.heap.size + 1, 3, none⟩ = some (.slice none 0 0) := hr1.cell 3
  have r4 : w1.cell? ⟨w.heap.size + 1, 4, none⟩ = some (.slice none 0 0) := hr1.cell 4
  have r5 : w1.cell? ⟨w.heap.size + 1, 5, none⟩ = some (.int .i64 0) := hr1.cell 5
  have g0 := hr1.frozen 0
  have g1 := hr1.frozen 1
  have g2 := hr1.frozen 2
  have g3 := hr1.frozen 3
  have g4 := hr1.frozen 4
  have g5 := hr1.frozen 5
  have hpp := hp1.mono (show w.heap.size + 3 ≤ W.heap.size by omega)
  have FB : Hid (Blk w1 (w.heap.size + 1) _ _ ∧ Below w.heap.size w w1 ∧ NdIn w1 d l' ∧ l'.Past (w.heap.size + 3)) := ⟨hr1, hB1, hI1, hpp⟩
  clear hp hr ho hb0 hb1 hr1 ho1 hB1 hI1 hp1 hpp hs0 hsz
  go_wp2_with fail
  obtain ⟨hr, hB, hN, hP⟩ := FB.out
  have hP1 : l'.Past (w.heap.size + 1 + 1) := hP.mono (by omega)
  have hP2 : l'.Past (w.heap.size + 1 + 1 + 1) := hP
  refine end_world (F := ItemEnd w o d l')
    ⟨(((((((((((hr.off _ (by omega)).off _ (by omega)).off _ (by omega)).off _ (by omega)).off _ (by omega)).set 0 _).set 1 _).set 2 _).set 3 _).set 4 _).set 5 _),
     bel_put (bel_put (bel_put (bel_put (bel_put (bel_put (bel_put (bel_put (bel_put (bel_put (bel_put hB _ (by omega)) _ (by omega)) _ (by omega)) _ (by omega)) _ (by omega)) _ (by omega)) _ (by omega)) _ (by omega)) _ (by omega)) _ (by omega)) _ (by omega),
     ((((((((((hN.off _ hP2).off _ hP2).off _ hP2).off _ hP2).off _ hP2).off _ hP1).off _ hP1).off _ hP1).off _ hP1).off _ hP1).off _ hP1⟩ ?_
  clear hr hB hN FB o0 o1 o2 o3 o4 o5 f0 f1 f2 f3 f4 f5 r0 r1 r2 r3 r4 r5 g0 g1 g2 g3 g4 g5
  rintro W ⟨hr, hB, hN⟩
  have r0 : W.cell? ⟨w.heap.size + 1, 0, none⟩ = some (.int .i64 o) := hr.cell 0
  have r1 : W.cell? ⟨w.heap.size + 1, 1, none⟩ = some (.int .i64 d.kind) := hr.cell 1
  have r2 : W.cell? ⟨w.heap.size + 1, 2, none⟩ = some (.string d.text) := hr.cell 2
  have r3 : W.cell? ⟨w.heap.size + 1, 3, none⟩ = some (.slice l'.nA d.nn l'.nc) := hr.cell 3
  have r4 : W.cell? ⟨w.heap.size + 1, 4, none⟩ = some (.slice l'.kA d.kn l'.kc) := hr.cell 4
  have r5 : W.cell? ⟨w.heap.size + 1, 5, none⟩ = some (.int .i64 d.turn) := hr.cell 5
  exact bodyPost_ret (v := .agg #[.int .i64 o, .int .i64 d.kind, .string d.text, .slice l'.nA d.nn l'.nc, .slice l'.kA d.kn l'.kc, .int .i64 d.turn]) (by simp [results, Tryz.results98, go_sem, r0, r1, r2, r3, r4, r5]) rfl ⟨l', rfl, hB, hN, hP.mono (by omega)⟩

set_option maxHeartbeats 1000000 in
theorem toItemS_any (a : Option Addr) (n c : Nat) (O : Nat → Int) (D : Nat → Nd) (L : Nat → Loc) (w : World) (hS : IsIts w a n O D L) (hn : n ≤ 1048576) (hsm : ∀ i, i < n → (D i).nn ≤ 1048576 ∧ (D i).kn ≤ 1048576) :
    Calls Tryz.prog 58 #[.slice a n c] w fun e w' => e = .returned (.slice (some ⟨w.heap.size, 0, none⟩) n n) ∧ Below w.heap.size w w' ∧ ∃ L', ItRow w' w.heap.size n n O D L' := by
  have hmk := fun w => run_make_wide (P := Tryz.prog) 37 133 _ 88 6 Tryz.underlying37 infoItem .i64 .i64 n (by omega) (by omega) w
  go_enter Tryz.func58, Tryz.ntmps58
  go_wp2
  go_loopw [4] (fun i wr => ∃ (k : Nat) (L' : Nat → Loc), k ≤ n ∧ i = .int .i64 k ∧ Below w.heap.size w wr ∧ ItRow wr w.heap.size n k O D L') (fun i _ => n - (intOf i).toNat)
  case atStart =>
    obtain ⟨g, hg⟩ := rowIs_wide w #[.int .i64 0, .int .i64 0, .string ByteArray.empty, .slice none 0 0, .slice none 0 0, .int .i64 0] (n * 6) 133
    exact ⟨0, L, Nat.zero_le _, rfl, (Below.refl _ _).alloc (Nat.le_refl _) _, ⟨g, hg, fun i hi => by omega⟩, fun i hi => by omega⟩
  case round =>
    obtain ⟨k, L', hk, rfl, hb, hrow⟩ := hrel
    by_cases hlt : k < n
    · obtain ⟨b, off, rfl, hlt2, hc⟩ := (hS.below (Nat.le_refl _) hb).at hlt
      obtain ⟨c0, c1, c2, c3, c4, c5, hI⟩ := hc k hlt
      clear hc
      go_wp2_with fail
      refine (toItem_any (O k) (D k) (L k) wr hI (hsm k hlt).1 (hsm k hlt).2).mono ?_
      rintro e w1 ⟨l', rfl, hb1, hI1, hp1⟩
      unfold itV
      have hrow1 := hrow.below (Nat.le_refl _) hb1
      have hB := hb.trans (hb1.mono hb.size)
      have hwl : w.heap.size < wr.heap.size := by obtain ⟨⟨g, hr, _⟩, _⟩ := hrow; exact hr.lt
      have hpp := hp1.mono (show w.heap.size + 1 ≤ wr.heap.size by omega)
      have HR : Hid (ItRow w1 w.heap.size n k O D L' ∧ NdIn w1 (D k) l' ∧ l'.Past (w.heap.size + 1) ∧ Below w.heap.size w w1) := ⟨hrow1, hI1, hpp, hB⟩
      obtain ⟨⟨g, hr, _⟩, _⟩ := hrow1
      have d0 := hr.cell (show k * 6 < n * 6 by omega)
      have d1 := hr.cell (show k * 6 + 1 < n * 6 by omega)
      have d2 := hr.cell (show k * 6 + 2 < n * 6 by omega)
      have d3 := hr.cell (show k * 6 + 3 < n * 6 by omega)
      have d4 := hr.cell (show k * 6 + 4 < n * 6 by omega)
      have d5 := hr.cell (show k * 6 + 5 < n * 6 by omega)
      have e0 := hr.frozen (k * 6)
      have e1 := hr.frozen (k * 6 + 1)
      have e2 := hr.frozen (k * 6 + 2)
      have e3 := hr.frozen (k * 6 + 3)
      have e4 := hr.frozen (k * 6 + 4)
      have e5 := hr.frozen (k * 6 + 5)
      clear hb hrow hr hB hb1 hI1 hp1 hpp hI c0 c1 c2 c3 c4 c5
      go_wp2
      go_roundw
      case rel => exact ⟨k + 1, _, by omega, by go_num, bel_put (bel_put (bel_put (bel_put (bel_put (bel_put HR.out.2.2.2 _ (Nat.le_refl _)) _ (Nat.le_refl _)) _ (Nat.le_refl _)) _ (Nat.le_refl _)) _ (Nat.le_refl _)) _ (Nat.le_refl _), HR.out.1.step HR.out.2.1 HR.out.2.2.1⟩
      case measure => simp [intOf]; omega
    · have hkn : k = n := by omega
      have HR : Hid (Below w.heap.size w wr ∧ ∃ L', ItRow wr w.heap.size n n O D L') := ⟨hb, L', hkn ▸ hrow⟩
      clear hb hrow hkn
      go_wp2
      go_ret
      exact ⟨rfl, HR.out.1, HR.out.2⟩

set_option maxHeartbeats 1000000 in
theorem eqItem_any (o o' : Int) (d d' : Nd) (l l' : Loc) (w : World) (hI : NdIn w d l) (hI' : NdIn w d' l') (hf : d.Fits) (hf' : d'.Fits) :
    Calls Tryz.prog 105 #[itV o d l, itV o' d' l'] w fun e w' => Below w.heap.size w w' ∧ e = .returned (.bool (sameIt o o' d d')) := by
  unfold itV
  cases hoo : (o == o') with
  | false =>
    have hnb : (o != o') = true := by simp only [bne, hoo]; rfl
    have HX : Hid (false = sameIt o o' d d') := by show _ = _; unfold sameIt; rw [hoo]; rfl
    clear hoo
    go_enter Tryz.func105, Tryz.ntmps105
    go_wp2_with fail
    go_ret
    exact ⟨((Below.refl _ _).alloc (Nat.le_refl _) _).alloc (by simp) _, ret_bool HX.out⟩
  | true =>
    have hnb : (o != o') = false := by simpa [bne] using hoo
    have HX : Hid (d.same d' = sameIt o o' d d') := by show _ = _; unfold sameIt; rw [hoo]; rfl
    clear hoo
    go_enter Tryz.func105, Tryz.ntmps105
    go_wp2_with fail
    refine at_world (F := New2 w _ _ _ _) (new2 w _ _ _ _) ?_
    rintro W ⟨hp, hp', hb, hs⟩
    refine (eqNode_any d d' l l' W (hI.below (Nat.le_refl _) hb) (hI'.below (Nat.le_refl _) hb) hf hf').mono ?_
    rintro e w1 ⟨hb1, rfl⟩
    have HB : Hid (Below w.heap.size w w1) := hb.trans (hb1.mono (by omega))
    clear hp hp' hb hs hb1
    cases hq : d.same d' with
    | false =>
      have HQ : Hid (d.same d' = false) := hq
      clear hq
      go_wp2
      go_ret
      exact ⟨HB.out, ret_bool (by rw [← HX.out, HQ.out])⟩
    | true =>
      have HQ : Hid (d.same d' = true) := hq
      clear hq
      go_wp2
      go_ret
      exact ⟨HB.out, ret_bool (by rw [← HX.out, HQ.out])⟩

set_option maxHeartbeats 1000000 in
theorem eqItemS_any (a a' : Option Addr) (n c m c' : Nat) (O P : Nat → Int) (D E : Nat → Nd) (L M : Nat → Loc) (w : World) (hS : IsIts w a n O D L) (hT : IsIts w a' m P E M) (hf : FitAll n D) (hf' : FitAll m E) (hn : n ≤ maxLen) (hm : m ≤ maxLen) :
    Calls Tryz.prog 63 #[.slice a n c, .slice a' m c'] w fun e w' => Below w.heap.size w w' ∧ e = .returned (.bool (decide (n = m) && sameIts n O P D E)) := by
  unfold maxLen at hn hm
  by_cases hne : n = m
  · subst hne
    have hb : ((n : Int) != (n : Int)) = false := by simp
    go_enter Tryz.func63, Tryz.ntmps63
    go_wp2
    go_loopw [5] (fun i wr => ∃ k : Nat, k ≤ n ∧ i = .int .i64 k ∧ Below w.heap.size w wr ∧ sameIts k O P D E = true) (fun i _ => n - (intOf i).toNat)
    case atStart => exact ⟨0, Nat.zero_le _, rfl, Below.refl _ _, rfl⟩
    case round =>
      obtain ⟨k, hk, rfl, hbel, heq⟩ := hrel
      have HE : Hid (sameIts k O P D E = true) := heq
      clear heq
      by_cases hlt : k < n
      · have hSr := hS.below (Nat.le_refl _) hbel
        have hTr := hT.below (Nat.le_refl _) hbel
        obtain ⟨b, off, rfl, hlt2, hc⟩ := hSr.at hlt
        obtain ⟨b', off', rfl, hlt2', hc'⟩ := hTr.at hlt
        obtain ⟨c0, c1, c2, c3, c4, c5, hI⟩ := hc k hlt
        obtain ⟨d0, d1, d2, d3, d4, d5, hI'⟩ := hc' k hlt
        have hlti : (k : Int) < (n : Int) := by omega
        have C0 := Lat.cell (B := wr.heap.size) c0 hlt2
        have C1 := Lat.cell (B := wr.heap.size) c1 hlt2
        have C2 := Lat.cell (B := wr.heap.size) c2 hlt2
        have C3 := Lat.cell (B := wr.heap.size) c3 hlt2
        have C4 := Lat.cell (B := wr.heap.size) c4 hlt2
        have C5 := Lat.cell (B := wr.heap.size) c5 hlt2
        have D0 := Lat.cell (B := wr.heap.size) d0 hlt2'
        have D1 := Lat.cell (B := wr.heap.size) d1 hlt2'
        have D2 := Lat.cell (B := wr.heap.size) d2 hlt2'
        have D3 := Lat.cell (B := wr.heap.size) d3 hlt2'
        have D4 := Lat.cell (B := wr.heap.size) d4 hlt2'
        have D5 := Lat.cell (B := wr.heap.size) d5 hlt2'
        have hcall : Hid (∀ n : Lat wr.heap.size wr, Calls Tryz.prog 105 #[itV (O k) (D k) (L k), itV (P k) (E k) (M k)] n.val fun e w'' => e = .returned (.bool (sameIt (O k) (P k) (D k) (E k))) ∧ ∃ m : Lat wr.heap.size wr, w'' = m.val) := fun n =>
          Calls.lat_of (eqItem_any (O k) (P k) (D k) (E k) (L k) (M k) n.val (hI.below (Nat.le_refl _) n.bel) (hI'.below (Nat.le_refl _) n.bel) (hf k hlt) (hf' k hlt)) (fun e w' h => ⟨h.2, h.1.mono n.bel.size⟩)
        clear hc hc' hSr hTr c0 c1 c2 c3 c4 c5 d0 d1 d2 d3 d4 d5 hI hI'
        have HBL : Hid (Below w.heap.size w wr) := hbel
        clear hbel
        go_wp2_with fail
        refine wp_region_lat (B := wr.heap.size) (w0 := wr) (by kernel_rfl) (by kernel_rfl) (Below.refl _ _) ?_
        repeat (go_big_quiet_step (exact hcall.out _))
        refine wpQuiet_nil ?_
        rintro _ ⟨nq, rfl⟩
        have hB : Hid (Below w.heap.size w nq.val) := HBL.out.trans (nq.bel.mono HBL.out.size)
        clear hcall C0 C1 C2 C3 C4 C5 D0 D1 D2 D3 D4 D5
        cases hq : sameIt (O k) (P k) (D k) (E k) with
        | false =>
          have HQ : Hid (sameIt (O k) (P k) (D k) (E k) = false) := hq
          clear hq
          go_wp2
          go_ret
          exact ⟨hB.out, ret_bool (by rw [← sameIts_not n k O P D E hlt HQ.out]; simp)⟩
        | true =>
          have HQ : Hid (sameIt (O k) (P k) (D k) (E k) = true) := hq
          clear hq
          go_wp2
          go_roundw
          case rel => exact ⟨k + 1, by omega, by go_num, hB.out, sameIts_succ k O P D E HE.out HQ.out⟩
          case measure => simp [intOf]; omega
      · have hkn : k = n := by omega
        have HK : Hid (k = n ∧ Below w.heap.size w wr) := ⟨hkn, hbel⟩
        clear hkn hbel
        go_wp2
        go_ret
        exact ⟨HK.out.2, ret_bool (by rw [← HK.out.1, HE.out]; simp)⟩
  · have hb : ((n : Int) != (m : Int)) = true := by simp; omega
    go_enter Tryz.func63, Tryz.ntmps63
    go_wp2
    go_ret
    exact ⟨Below.refl _ _, ret_bool (by simp [hne])⟩
end Go.Proofs.YtfdjfndpeeomkaaGreatDoor

/-
  What the helpers of the exact laws do at what is kept of a tree.
-/
namespace Go.Proofs.YtfdjfndpeeomkaaGreatDoor
open Go.RowKit
set_option linter.unusedVariables false
set_option linter.unusedSimpArgs false

set_option maxHeartbeats 1000000 in
theorem szDump_any (d : Dp) (l : DLoc) (left : Int) (w : World) (hI : DpIn w d l) (hf : d.Fits) (h0 : 0 ≤ left) (h1 : left ≤ 1048576) :
    Calls Tryz.prog 10 #[dpV d l, .int .i64 left] w fun e w' => Below w.heap.size w w' ∧ ∃ r : Int, e = .returned (.int .i64 r) ∧ r ≤ left ∧ (0 ≤ r → r + d.size ≤ left) := by
  unfold dpV Dp.size
  have hn := hf.ln
  go_enter Tryz.func10, Tryz.ntmps10
  go_wp2_with fail
  refine at_world (F := New1 w _ _) (new1 w _ _) ?_
  rintro W ⟨hp, hb, hs⟩
  refine (szBoolS_any l.lA d.ln l.lc left W hn h0 h1).mono ?_
  rintro e w1 ⟨rfl, r, rfl, hr1, hr2⟩
  by_cases hr3 : r < 0
  · have hr3' : decide (r < 0) = true := by simp; omega
    have HB : Hid (Below w.heap.size w W) := hb
    clear hb hp hr2
    go_wp2
    go_ret
    exact ⟨HB.out, -1, rfl, by omega, fun h => by omega⟩
  · have hr3' : decide (r < 0) = false := by simp; omega
    have p3 : W.cell? ⟨w.heap.size, 3, none⟩ = some (.slice l.iA d.m l.ic) := hp.cell 3
    have hr4 := hr2 (by omega)
    clear hr2 hp
    go_wp2_with fail
    refine (szItemS_any l.iA d.m l.ic d.ino d.nd l.L r W (hI.items.below (Nat.le_refl _) hb) hf.nds hf.m (by omega) (by omega)).mono ?_
    rintro e w2 ⟨hb2, r', rfl, hr1', hr2'⟩
    have HB : Hid (Below w.heap.size w w2 ∧ (0 ≤ r' → r' + d.m + sizeTo d.nd d.m ≤ r)) := ⟨hb.trans (hb2.mono (by omega)), hr2'⟩
    clear hb hb2 hr2' p3
    by_cases hr5 : r' < 0
    · have hr5' : decide (r' < 0) = true := by simp; omega
      go_wp2
      go_ret
      exact ⟨HB.out.1, -1, rfl, by omega, fun h => by omega⟩
    · have hr5' : decide (r' < 0) = false := by simp; omega
      go_wp2
      go_ret
      exact ⟨HB.out.1, r', rfl, by omega, fun h => by have := HB.out.2 h; omega⟩

theorem toBoolS_at (a : Option Addr) (n c : Nat) (Z : Nat → Bool) (w : World) (hS : IsBools w a n Z) (hn : n ≤ 1048576) :
    Calls Tryz.prog 57 #[.slice a n c] w fun e w' => ∃ b, e = .returned (.slice (some ⟨b, 0, none⟩) n n) ∧ w.heap.size ≤ b ∧ b < w'.heap.size ∧ Below w.heap.size w w' ∧ IsBools w' (some ⟨b, 0, none⟩) n Z :=
  (toBoolS_any a n c Z w hS hn).mono fun e w' ⟨he, hb, hr⟩ => ⟨_, he, Nat.le_refl _, hr.lt, hb, IsBools.row hr⟩

/-- What is known within toDump, the truth values being copied. -/
structure Dump2 (w : World) (d : Dp) (l : DLoc) (b : Nat) (W : World) : Prop where
  p : Blk W w.heap.size #[.int .i64 d.since, .int .i64 d.date, .slice l.lA d.ln l.lc, .slice l.iA d.m l.ic] 28
  r : Blk W (w.heap.size + 1) #[.int .i64 0, .int .i64 0, .slice none 0 0, .slice none 0 0] 39
  o : Blk W (w.heap.size + 1 + 1) #[.int .i64 d.since, .int .i64 d.date, .slice (some ⟨b, 0, none⟩) d.ln d.ln, .slice none 0 0] 39
  bel : Below w.heap.size w W
  size : w.heap.size + 3 ≤ W.heap.size
  le : w.heap.size + 3 ≤ b
  lt : b < W.heap.size
  live : IsBools W (some ⟨b, 0, none⟩) d.ln d.live

/-- What is known at toDump's end. -/
structure DumpEnd (w : World) (d : Dp) (b b' : Nat) (W : World) : Prop where
  r : Blk W (w.heap.size + 1) #[.int .i64 d.since, .int .i64 d.date, .slice (some ⟨b, 0, none⟩) d.ln d.ln, .slice (some ⟨b', 0, none⟩) d.m d.m] 39
  bel : Below w.heap.size w W
  live : IsBools W (some ⟨b, 0, none⟩) d.ln d.live
  items : ∃ L', ItRow W b' d.m d.m d.ino d.nd L'

set_option maxHeartbeats 1000000 in
theorem toDump_any (d : Dp) (l : DLoc) (w : World) (hI : DpIn w d l) (hsz : d.size ≤ 1048576) :
    Calls Tryz.prog 13 #[dpV d l] w fun e w' => ∃ l', e = .returned (dpV d l') ∧ Below w.heap.size w w' ∧ DpIn w' d l' := by
  unfold dpV
  have hln : d.ln ≤ 1048576 := by unfold Dp.size at hsz; omega
  have hm : d.m ≤ 1048576 := by unfold Dp.size at hsz; omega
  have HSM : Hid (∀ i, i < d.m → (d.nd i).nn ≤ 1048576 ∧ (d.nd i).kn ≤ 1048576) := small_of_size (by unfold Dp.size at hsz; omega)
  go_enter Tryz.func13, Tryz.ntmps13
  go_wp2_with fail
  refine at_world (F := New3 w _ _ _ _ _ _) (new3 w _ _ _ _ _ _) ?_
  rintro W ⟨hp, hr, ho, hb0, hs0⟩
  refine (toBoolS_at l.lA d.ln l.lc d.live _ (hI.live.below (Nat.le_refl _) hb0) hln).mono ?_
  rintro e w1 ⟨b, rfl, hge, hlt, hb1, hS1⟩
  have hp1 := hp.below hb1 (by omega)
  have hr1 := hr.below hb1 (by omega)
  have ho1 := ho.below hb1 (by omega)
  have hB1 := hb0.trans (hb1.mono (by omega))
  have o2 : w1.cell? ⟨w.heap.size + 1 + 1, 2, none⟩ = some (.slice none 0 0) := ho1.cell 2
  have f2 := ho1.frozen 2
  have p3 : w1.cell? ⟨w.heap.size, 3, none⟩ = some (.slice l.iA d.m l.ic) := hp1.cell 3
  have hsz1 := hb1.size
  have F2 : Hid (Dump2 w d l b _) := ⟨hp1.off (b' := w.heap.size + 1 + 1) (i := 2) (.slice (some ⟨b, 0, none⟩) d.ln d.ln) (by omega), hr1.off _ (by omega), ho1.set 2 _, bel_put hB1 _ (by omega), by simp; omega, by omega, by simp; omega, hS1.off _ (by omega)⟩
  clear hp hr ho hb0 hb1 hp1 hr1 ho1 hB1 hS1
  go_wp2_with fail
  refine at_world (F := Dump2 w d l b) F2.out ?_
  clear F2 hge hlt f2 o2 p3 hs0 hsz1
  rintro W ⟨hp, hr, ho, hb0, hs0, hlb, hbl, hS⟩
  refine (toItemS_any l.iA d.m l.ic d.ino d.nd l.L _ (hI.items.below (Nat.le_refl _) hb0) hm HSM.out).mono ?_
  rintro e w2 ⟨rfl, hb1, hrow⟩
  have hp1 := hp.below hb1 (by omega)
  have hr1 := hr.below hb1 (by omega)
  have ho1 := ho.below hb1 (by omega)
  have hB1 := hb0.trans (hb1.mono (by omega))
  have hS1 := hS.below (Nat.le_refl _) hb1
  have hsz := hb1.size
  have o0 : w2.cell? ⟨w.heap.size + 1 + 1, 0, none⟩ = some (.int .i64 d.since) := ho1.cell 0
  have o1 : w2.cell? ⟨w.heap.size + 1 + 1, 1, none⟩ = some (.int .i64 d.date) := ho1.cell 1
  have o2 : w2.cell? ⟨w.heap.size + 1 + 1, 2, none⟩ = some (.slice (some ⟨b, 0, none⟩) d.ln d.ln) := ho1.cell 2
  have o3 : w2.cell? ⟨w.heap.size + 1 + 1, 3, none⟩ = some (.slice none 0 0) := ho1.cell 3
  have f3 := ho1.frozen 3
  have r0 : w2.cell? ⟨w.heap.size + 1, 0, none⟩ = some (.int .i64 0) := hr1.cell 0
  have r1 : w2.cell? ⟨w.heap.size + 1, 1, none⟩ = some (.int .i64 0) := hr1.cell 1
  have r2 : w2.cell? ⟨w.heap.size + 1, 2, none⟩ = some (.slice none 0 0) := hr1.cell 2
  have r3 : w2.cell? ⟨w.heap.size + 1, 3, none⟩ = some (.slice none 0 0) := hr1.cell 3
  have g0 := hr1.frozen 0
  have g1 := hr1.frozen 1
  have g2 := hr1.frozen 2
  have g3 := hr1.frozen 3
  have FB : Hid (Blk w2 (w.heap.size + 1) _ _ ∧ Below w.heap.size w w2 ∧ IsBools w2 (some ⟨b, 0, none⟩) d.ln d.live ∧ ∃ L', ItRow w2 W.heap.size d.m d.m d.ino d.nd L') := ⟨hr1, hB1, hS1, hrow⟩
  have hs1 : w.heap.size + 3 ≤ W.heap.size := by omega
  have hbw : b < W.heap.size := hbl
  generalize W.heap.size = bW at *
  clear hp hr ho hb0 hb1 hp1 hr1 ho1 hB1 hS1 hrow hS hs0
  go_wp2_with fail
  obtain ⟨hr, hB, hS, L', hrow⟩ := FB.out
  refine end_world (F := DumpEnd w d b bW)
    ⟨((((hr.off _ (by omega)).set 0 _).set 1 _).set 2 _).set 3 _,
     bel_put (bel_put (bel_put (bel_put (bel_put hB _ (by omega)) _ (by omega)) _ (by omega)) _ (by omega)) _ (by omega),
     ((((hS.off _ (by omega)).off _ (by omega)).off _ (by omega)).off _ (by omega)).off _ (by omega),
     L', ((((hrow.off _ (by omega)).off _ (by omega)).off _ (by omega)).off _ (by omega)).off _ (by omega)⟩ ?_
  clear hr hB hS hrow FB o0 o1 o2 o3 f3 r0 r1 r2 r3 g0 g1 g2 g3
  rintro W ⟨hr, hB, hS, L2, hrow⟩
  have r0 : W.cell? ⟨w.heap.size + 1, 0, none⟩ = some (.int .i64 d.since) := hr.cell 0
  have r1 : W.cell? ⟨w.heap.size + 1, 1, none⟩ = some (.int .i64 d.date) := hr.cell 1
  have r2 : W.cell? ⟨w.heap.size + 1, 2, none⟩ = some (.slice (some ⟨b, 0, none⟩) d.ln d.ln) := hr.cell 2
  have r3 : W.cell? ⟨w.heap.size + 1, 3, none⟩ = some (.slice (some ⟨bW, 0, none⟩) d.m d.m) := hr.cell 3
  exact bodyPost_ret (v := .agg #[.int .i64 d.since, .int .i64 d.date, .slice (some ⟨b, 0, none⟩) d.ln d.ln, .slice (some ⟨bW, 0, none⟩) d.m d.m]) (by simp [results, Tryz.results13, go_sem, r0, r1, r2, r3]) rfl ⟨⟨some ⟨b, 0, none⟩, d.ln, some ⟨bW, 0, none⟩, d.m, L2⟩, rfl, hB, hS, hrow.its⟩

set_option maxHeartbeats 1000000 in
theorem eqDump_any (d e : Dp) (l k : DLoc) (w : World) (hI : DpIn w d l) (hI' : DpIn w e k) (hf : d.Fits) (hf' : e.Fits) :
    Calls Tryz.prog 16 #[dpV d l, dpV e k] w fun r w' => Below w.heap.size w w' ∧ r = .returned (.bool (d.same e)) := by
  unfold dpV
  have hl := hf.ln
  have hl' := hf'.ln
  cases h1 : (d.since == e.since) with
  | false =>
    have hnb : (d.since != e.since) = true := by simp only [bne, h1]; rfl
    have HX : Hid (false = d.same e) := by show _ = _; unfold Dp.same; rw [h1]; rfl
    clear h1
    go_enter Tryz.func16, Tryz.ntmps16
    go_wp2_with fail
    go_ret
    exact ⟨((Below.refl _ _).alloc (Nat.le_refl _) _).alloc (by simp) _, ret_bool HX.out⟩
  | true =>
  have hnb : (d.since != e.since) = false := by simpa [bne] using h1
  cases h2 : (d.date == e.date) with
  | false =>
    have hnc : (d.date != e.date) = true := by simp only [bne, h2]; rfl
    have HX : Hid (false = d.same e) := by show _ = _; unfold Dp.same; rw [h1, h2]; rfl
    clear h1 h2
    go_enter Tryz.func16, Tryz.ntmps16
    go_wp2_with fail
    go_ret
    exact ⟨((Below.refl _ _).alloc (Nat.le_refl _) _).alloc (by simp) _, ret_bool HX.out⟩
  | true =>
  have hnc : (d.date != e.date) = false := by simpa [bne] using h2
  have HX : Hid (((decide (d.ln = e.ln) && eqB d.ln d.live e.live) && (decide (d.m = e.m) && sameIts d.m d.ino e.ino d.nd e.nd)) = d.same e) := by show _ = _; unfold Dp.same; rw [h1, h2]; rfl
  clear h1 h2
  go_enter Tryz.func16, Tryz.ntmps16
  go_wp2_with fail
  refine at_world (F := New2 w _ _ _ _) (new2 w _ _ _ _) ?_
  rintro W ⟨hp, hp', hb, hs⟩
  refine (eqBoolS_any l.lA k.lA d.ln l.lc e.ln k.lc d.live e.live W (hI.live.below (Nat.le_refl _) hb) (hI'.live.below (Nat.le_refl _) hb) hl hl').mono ?_
  rintro r w1 ⟨⟨q, rfl⟩, rfl⟩
  have p3 : W.cell? ⟨w.heap.size, 3, none⟩ = some (.slice l.iA d.m l.ic) := hp.cell 3
  have q3 : W.cell? ⟨w.heap.size + 1, 3, none⟩ = some (.slice k.iA e.m k.ic) := hp'.cell 3
  have HB : Hid (Below w.heap.size w W) := hb
  clear hp hp' hb
  cases hq1 : (decide (d.ln = e.ln) && eqB d.ln d.live e.live) with
  | false =>
    have HQ : Hid ((decide (d.ln = e.ln) && eqB d.ln d.live e.live) = false) := hq1
    clear hq1
    go_wp2
    go_ret
    exact ⟨below_drewN HB.out _, ret_bool (by rw [← HX.out, HQ.out]; rfl)⟩
  | true =>
    have HQ : Hid ((decide (d.ln = e.ln) && eqB d.ln d.live e.live) = true) := hq1
    clear hq1
    go_wp2_with fail
    have hB2 := below_drewN HB.out q
    refine (eqItemS_any l.iA k.iA d.m l.ic e.m k.ic d.ino e.ino d.nd e.nd l.L k.L (W.drewN q) (hI.items.below (Nat.le_refl _) hB2) (hI'.items.below (Nat.le_refl _) hB2) hf.nds hf'.nds hf.m hf'.m).mono ?_
    rintro r w2 ⟨hb2, rfl⟩
    have HB2 : Hid (Below w.heap.size w w2) := hB2.trans (hb2.mono hB2.size)
    clear hb2 hB2 HB p3 q3
    cases hq1 : (decide (d.m = e.m) && sameIts d.m d.ino e.ino d.nd e.nd) with
    | false =>
      have HZ : Hid ((decide (d.m = e.m) && sameIts d.m d.ino e.ino d.nd e.nd) = false) := hq1
      clear hq1
      go_wp2
      go_ret
      exact ⟨HB2.out, ret_bool (by rw [← HX.out, HQ.out, HZ.out]; rfl)⟩
    | true =>
      have HZ : Hid ((decide (d.m = e.m) && sameIts d.m d.ino e.ino d.nd e.nd) = true) := hq1
      clear hq1
      go_wp2
      go_ret
      exact ⟨HB2.out, ret_bool (by rw [← HX.out, HQ.out, HZ.out]; rfl)⟩
end Go.Proofs.YtfdjfndpeeomkaaGreatDoor

/-
  What toDump answers: something kept in memory of its own.
-/
namespace Go.Proofs.YtfdjfndpeeomkaaGreatDoor
open Go.RowKit Go.Deep
set_option linter.unusedVariables false
set_option linter.unusedSimpArgs false

theorem own_off {W : World} {B : Nat} {e : TypeId} {size n : Nat} {xs : List Value} {v : Value} (h : W.ownsRow B e size v n xs) {V i : Nat} {u : Value} (hV : V < B) : (W.setCell ⟨V, i, none⟩ u).ownsRow B e size v n xs :=
  owns_same h fun b hb => blk_setCell_other _ _ _ _ (show b ≠ V by have := (owns_block h hb).1; omega)

theorem OD.ext2 {W : World} {B k n : Nat} {Z : Nat → Bool} {O O' : Nat → Int} {D D' : Nat → Nd} {L L' : Nat → Loc} {lv iv : Value} (h : OD W B k Z n O D L lv iv) (he : ∀ i, i < n → O' i = O i ∧ D' i = D i ∧ L' i = L i) : OD W B k Z n O' D' L' lv iv := by
  have hr : ∀ d, d < 2 + 2 * n → rowD k Z n O' D' L' d = rowD k Z n O D L d := fun d hd => by
    unfold rowD
    by_cases e0 : d = 0
    · rw [if_pos e0, if_pos e0]
    · by_cases e1 : d = 1
      · rw [if_neg e0, if_pos e1, if_neg e0, if_pos e1, rowsI_ext n he]
      · rw [if_neg e0, if_neg e1, if_neg e0, if_neg e1, (he ((d - 2) / 2) (by omega)).2.1]
  have hv : ∀ d, d < 2 + 2 * n → valD lv iv D' L' d = valD lv iv D L d := fun d hd => by
    unfold valD
    by_cases e0 : d = 0
    · rw [if_pos e0, if_pos e0]
    · by_cases e1 : d = 1
      · rw [if_neg e0, if_pos e1, if_neg e0, if_pos e1]
      · rw [if_neg e0, if_neg e1, if_neg e0, if_neg e1, (he ((d - 2) / 2) (by omega)).2.1, (he ((d - 2) / 2) (by omega)).2.2]
  exact ⟨⟨fun d hd => by rw [hr d hd, hv d hd]; exact h.rows.own d hd, fun d1 d2 g1 g2 hne b e1 e2 => by rw [hv d1 g1] at e1; rw [hv d2 g2] at e2; exact h.rows.apart d1 d2 g1 g2 hne b e1 e2⟩⟩

/-- The truth values come to it: their list lies below. -/
theorem OD.withLive {W : World} {B B' k : Nat} {Z : Nat → Bool} {n : Nat} {O : Nat → Int} {D : Nat → Nd} {L : Nat → Loc} {lv iv : Value} (h : OD W B 0 (fun _ => false) n O D L (.slice none 0 0) iv) (hown : W.ownsRow B' 4 1 lv k (boolv k Z)) (hB : B' ≤ B) (hl : ∀ b, lv.ownBlock = some b → b < B) : OD W B' k Z n O D L lv iv := by
  have key : ∀ d, d < 2 + 2 * n → d ≠ 0 → ∀ b, (valD (.slice none 0 0) iv D L d).ownBlock = some b → B ≤ b := fun d hd _ b hb => (owns_block (h.rows.own d hd) hb).1
  refine ⟨⟨fun d hd => ?_, fun d1 d2 g1 g2 hne b e1 e2 => ?_⟩⟩
  · by_cases e : d = 0
    · subst e; simpa [rowD, valD] using hown
    · rw [rowD_rest (k := 0) (Z := fun _ => false) e, valD_rest (lv := .slice none 0 0) e]
      exact owns_lower (h.rows.own d hd) hB
  · by_cases h1 : d1 = 0
    · have h2 : d2 ≠ 0 := fun e => hne (h1.trans e.symm)
      subst h1
      rw [valD_rest (lv := .slice none 0 0) h2] at e2
      have e1' : lv.ownBlock = some b := by simpa [valD] using e1
      have := key d2 g2 h2 b e2
      have := hl b e1'
      omega
    · by_cases h2 : d2 = 0
      · subst h2
        rw [valD_rest (lv := .slice none 0 0) h1] at e1
        have e2' : lv.ownBlock = some b := by simpa [valD] using e2
        have := key d1 g1 h1 b e1
        have := hl b e2'
        omega
      · rw [valD_rest (lv := .slice none 0 0) h1] at e1
        rw [valD_rest (lv := .slice none 0 0) h2] at e2
        exact h.rows.apart d1 d2 g1 g2 hne b e1 e2

theorem row_ownB {W : World} {B b n : Nat} {Z : Nat → Bool} (h : W.rowIs b 4 n (fun i => .bool (Z i))) (hB : B ≤ b) (hn : n ≤ maxLen) : W.ownsRow B 4 1 (.slice (some ⟨b, 0, none⟩) n n) n (boolv n Z) := row_own h hB hn

/-- What is known at toItem's end. -/
structure ItemEndo (w : World) (o : Int) (d : Nd) (l : Loc) (W : World) : Prop where
  r : Blk W (w.heap.size + 1) #[.int .i64 o, .int .i64 d.kind, .string d.text, .slice l.nA d.nn l.nc, .slice l.kA d.kn l.kc, .int .i64 d.turn] 133
  bel : Below w.heap.size w W
  names : W.ownsRow (w.heap.size + 3) 9 1 (.slice l.nA d.nn l.nc) d.nn (strv (lst d.nn d.names))
  kids : W.ownsRow (w.heap.size + 3) 3 1 (.slice l.kA d.kn l.kc) d.kn (intv0 d.kn d.kids)

set_option maxHeartbeats 1000000 in
theorem toItem_new (o : Int) (d : Nd) (l : Loc) (w : World) (hI : NdIn w d l) (hn : d.nn ≤ 1048576) (hk : d.kn ≤ 1048576) :
    Calls Tryz.prog 98 #[itV o d l] w fun e w' => ∃ l', e = .returned (itV o d l') ∧ NewNn w d l' w' := by
  unfold itV
  go_enter Tryz.func98, Tryz.ntmps98
  go_wp2_with fail
  refine at_world (F := New3 w _ _ _ _ _ _) (new3 w _ _ _ _ _ _) ?_
  rintro W ⟨hp, hr, ho, hb0, hs0⟩
  refine (toNode_new d l W (hI.below (Nat.le_refl _) hb0) hn hk).mono ?_
  rintro e w1 ⟨l', rfl, hN1⟩
  have hb1 := hN1.bel
  have HAP : Hid (∀ b, (Value.slice l'.nA d.nn l'.nc).ownBlock = some b → (Value.slice l'.kA d.kn l'.kc).ownBlock ≠ some b) := hN1.apart
  unfold ndV
  have hr1 := hr.below hb1 (by omega)
  have ho1 := ho.below hb1 (by omega)
  have hB1 := hb0.trans (hb1.mono (by omega))
  have hsz := hb1.size
  have o0 : w1.cell? ⟨w.heap.size + 1 + 1, 0, none⟩ = some (.int .i64 o) := ho1.cell 0
  have o1 : w1.cell? ⟨w.heap.size + 1 + 1, 1, none⟩ = some (.int .i64 0) := ho1.cell 1
  have o2 : w1.cell? ⟨w.heap.size + 1 + 1, 2, none⟩ = some (.string ByteArray.empty) := ho1.cell 2
  have o3 : w1.cell? ⟨w.heap.size + 1 + 1, 3, none⟩ = some (.slice none 0 0) := ho1.cell 3
  have o4 : w1.cell? ⟨w.heap.size + 1 + 1, 4, none⟩ = some (.slice none 0 0) := ho1.cell 4
  have o5 : w1.cell? ⟨w.heap.size + 1 + 1, 5, none⟩ = some (.int .i64 0) := ho1.cell 5
  have f0 := ho1.frozen 0
  have f1 := ho1.frozen 1
  have f2 := ho1.frozen 2
  have f3 := ho1.frozen 3
  have f4 := ho1.frozen 4
  have f5 := ho1.frozen 5
  have r0 : w1.cell? ⟨w.heap.size + 1, 0, none⟩ = some (.int .i64 0) := hr1.cell 0
  have r1 : w1.cell? ⟨w.heap.size + 1, 1, none⟩ = some (.int .i64 0) := hr1.cell 1
  have r2 : w1.cell? ⟨w.heap.size + 1, 2, none⟩ = some (.string ByteArray.empty) := hr1.cell 2
  have r3 : w1.cell? ⟨w.heap.size + 1, 3, none⟩ = some (.slice none 0 0) := hr1.cell 3
  have r4 : w1.cell? ⟨w.heap.size + 1, 4, none⟩ = some (.slice none 0 0) := hr1.cell 4
  have r5 : w1.cell? ⟨w.heap.size + 1, 5, none⟩ = some (.int .i64 0) := hr1.cell 5
  have g0 := hr1.frozen 0
  have g1 := hr1.frozen 1
  have g2 := hr1.frozen 2
  have g3 := hr1.frozen 3
  have g4 := hr1.frozen 4
  have g5 := hr1.frozen 5
  have FB : Hid (Blk w1 (w.heap.size + 1) _ _ ∧ Below w.heap.size w w1 ∧ w1.ownsRow (w.heap.size + 3) 9 1 (.slice l'.nA d.nn l'.nc) d.nn (strv (lst d.nn d.names)) ∧ w1.ownsRow (w.heap.size + 3) 3 1 (.slice l'.kA d.kn l'.kc) d.kn (intv0 d.kn d.kids)) := ⟨hr1, hB1, owns_lower hN1.names (by omega), owns_lower hN1.kids (by omega)⟩
  clear hp hr ho hb0 hb1 hr1 ho1 hB1 hN1 hs0 hsz
  go_wp2_with fail
  obtain ⟨hr, hB, hN, hP⟩ := FB.out
  refine end_world (F := ItemEndo w o d l')
    ⟨(((((((((((hr.off _ (by omega)).off _ (by omega)).off _ (by omega)).off _ (by omega)).off _ (by omega)).set 0 _).set 1 _).set 2 _).set 3 _).set 4 _).set 5 _),
     bel_put (bel_put (bel_put (bel_put (bel_put (bel_put (bel_put (bel_put (bel_put (bel_put (bel_put hB _ (by omega)) _ (by omega)) _ (by omega)) _ (by omega)) _ (by omega)) _ (by omega)) _ (by omega)) _ (by omega)) _ (by omega)) _ (by omega)) _ (by omega),
     (own_off (own_off (own_off (own_off (own_off (own_off (own_off (own_off (own_off (own_off (own_off hN (by omega)) (by omega)) (by omega)) (by omega)) (by omega)) (by omega)) (by omega)) (by omega)) (by omega)) (by omega)) (by omega)), (own_off (own_off (own_off (own_off (own_off (own_off (own_off (own_off (own_off (own_off (own_off hP (by omega)) (by omega)) (by omega)) (by omega)) (by omega)) (by omega)) (by omega)) (by omega)) (by omega)) (by omega)) (by omega))⟩ ?_
  clear hr hB hN FB o0 o1 o2 o3 o4 o5 f0 f1 f2 f3 f4 f5 r0 r1 r2 r3 r4 r5 g0 g1 g2 g3 g4 g5
  rintro W ⟨hr, hB, hN, hP⟩
  have r0 : W.cell? ⟨w.heap.size + 1, 0, none⟩ = some (.int .i64 o) := hr.cell 0
  have r1 : W.cell? ⟨w.heap.size + 1, 1, none⟩ = some (.int .i64 d.kind) := hr.cell 1
  have r2 : W.cell? ⟨w.heap.size + 1, 2, none⟩ = some (.string d.text) := hr.cell 2
  have r3 : W.cell? ⟨w.heap.size + 1, 3, none⟩ = some (.slice l'.nA d.nn l'.nc) := hr.cell 3
  have r4 : W.cell? ⟨w.heap.size + 1, 4, none⟩ = some (.slice l'.kA d.kn l'.kc) := hr.cell 4
  have r5 : W.cell? ⟨w.heap.size + 1, 5, none⟩ = some (.int .i64 d.turn) := hr.cell 5
  exact bodyPost_ret (v := .agg #[.int .i64 o, .int .i64 d.kind, .string d.text, .slice l'.nA d.nn l'.nc, .slice l'.kA d.kn l'.kc, .int .i64 d.turn]) (by simp [results, Tryz.results98, go_sem, r0, r1, r2, r3, r4, r5]) rfl ⟨l', rfl, hB, owns_lower hN (by omega), owns_lower hP (by omega), HAP.out⟩

/-- A place more is laid behind the first ones, within the row's room. -/
theorem owns_fill6 {W : World} {B : Nat} {e : TypeId} {g k cap : Nat} {xs : List Value} {v0 v1 v2 v3 v4 v5 : Value} (h : W.ownsRow B e 6 (.slice (some ⟨g, 0, none⟩) k cap) k xs) (hk : k < cap) :
    ((((((W.setCell ⟨g, k * 6, none⟩ v0).setCell ⟨g, k * 6 + 1, none⟩ v1).setCell ⟨g, k * 6 + 2, none⟩ v2).setCell ⟨g, k * 6 + 3, none⟩ v3).setCell ⟨g, k * 6 + 4, none⟩ v4).setCell ⟨g, k * 6 + 5, none⟩ v5).ownsRow B e 6 (.slice (some ⟨g, 0, none⟩) (k + 1) cap) (k + 1) (xs ++ [v0, v1, v2, v3, v4, v5]) := by
  obtain ⟨hl, h0 | ⟨g', cap', cur, hv, hB, hg, hc, hm, hs, ht⟩⟩ := h
  · simp at h0
  simp at hv
  obtain ⟨rfl, rfl⟩ := hv
  have hb : Blk W g cur e := hg
  have hb' := (((((hb.set (k * 6) v0).set (k * 6 + 1) v1).set (k * 6 + 2) v2).set (k * 6 + 3) v3).set (k * 6 + 4) v4).set (k * 6 + 5) v5
  refine ⟨by simp [hl]; omega, Or.inr ⟨g, cap, _, rfl, hB, hb', by omega, hm, by simp [hs], ?_⟩⟩
  apply List.ext_getElem?
  intro i
  rw [List.getElem?_take]
  by_cases hi : i < (k + 1) * 6
  · rw [if_pos hi, Array.getElem?_toList]
    simp only [Array.getElem?_setIfInBounds]
    by_cases h1 : i < k * 6
    · rw [List.getElem?_append_left (by omega)]
      have : xs[i]? = cur[i]? := by rw [← ht, List.getElem?_take, if_pos h1, Array.getElem?_toList]
      rw [this]
      simp only [show ¬ k * 6 + 5 = i by omega, show ¬ k * 6 + 4 = i by omega, show ¬ k * 6 + 3 = i by omega, show ¬ k * 6 + 2 = i by omega, show ¬ k * 6 + 1 = i by omega, show ¬ k * 6 = i by omega, if_false]
    · rw [List.getElem?_append_right (by omega), hl]
      obtain ⟨r, rfl⟩ : ∃ r, i = k * 6 + r := ⟨i - k * 6, by omega⟩
      have hr : r < 6 := by omega
      have hsz : ∀ q, q < 6 → k * 6 + q < cur.size := fun q hq => by omega
      rw [show k * 6 + r - k * 6 = r by omega]
      have hr5 : r = 0 ∨ r = 1 ∨ r = 2 ∨ r = 3 ∨ r = 4 ∨ r = 5 := by omega
      rcases hr5 with rfl | rfl | rfl | rfl | rfl | rfl <;> simp [hsz 0 (by omega), hsz 1 (by omega), hsz 2 (by omega), hsz 3 (by omega), hsz 4 (by omega), hsz 5 (by omega)] <;> (try (have := hsz 0 (by omega); omega))
  · rw [if_neg hi, List.getElem?_eq_none (by simp [hl]; omega)]

theorem OD.fill6 {W W1 : World} {B k : Nat} {O : Nat → Int} {D : Nat → Nd} {L : Nat → Loc} {g cap : Nat} {o : Int} {x : Nd} {l : Loc} (h : OD W B 0 (fun _ => false) k O D L (.slice none 0 0) (.slice (some ⟨g, 0, none⟩) k cap)) (hN : NewNn W x l W1) (hB : B ≤ W.heap.size) (hk : k < cap) :
    OD ((((((W1.setCell ⟨g, k * 6, none⟩ (.int .i64 o)).setCell ⟨g, k * 6 + 1, none⟩ (.int .i64 x.kind)).setCell ⟨g, k * 6 + 2, none⟩ (.string x.text)).setCell ⟨g, k * 6 + 3, none⟩ (.slice l.nA x.nn l.nc)).setCell ⟨g, k * 6 + 4, none⟩ (.slice l.kA x.kn l.kc)).setCell ⟨g, k * 6 + 5, none⟩ (.int .i64 x.turn)) B 0 (fun _ => false) (k + 1) (fun i => if i = k then o else O i) (fun i => if i = k then x else D i) (fun i => if i = k then l else L i) (.slice none 0 0) (.slice (some ⟨g, 0, none⟩) (k + 1) cap) := by
  refine h.item (o := o) hN hB ?_ ?_ (fun b e => Or.inl e)
  · have hst : ∀ (i : Nat) (v : Value) (U : World), U.grownBy (U.setCell ⟨g, i, none⟩ v) (some g) := fun i v U => ⟨rfl, rfl, rfl, by simp, fun b _ hb => blk_setCell_other _ _ _ _ (show b ≠ g from fun e => hb (by rw [e]))⟩
    have tr : ∀ {A C E : World}, A.grownBy C (some g) → C.grownBy E (some g) → A.grownBy E (some g) := fun {A C E} h1 h2 => ⟨h2.os.trans h1.os, h2.tape.trans h1.tape, h2.output.trans h1.output, Nat.le_trans h1.size h2.size, fun b hb hne => (h2.block b (Nat.lt_of_lt_of_le hb h1.size) hne).trans (h1.block b hb hne)⟩
    exact tr (tr (tr (tr (tr (hst _ _ _) (hst _ _ _)) (hst _ _ _)) (hst _ _ _)) (hst _ _ _)) (hst _ _ _)
  · exact owns_fill6 (owns_same h.ownI (fun b hb => hN.bel.block b (owns_block h.ownI hb).2)) hk

set_option maxHeartbeats 1000000 in
theorem toItemS_own (a : Option Addr) (n c : Nat) (O : Nat → Int) (D : Nat → Nd) (L : Nat → Loc) (w : World) (hS : IsIts w a n O D L) (hn : n ≤ 1048576) (hsm : ∀ i, i < n → (D i).nn ≤ 1048576 ∧ (D i).kn ≤ 1048576) :
    Calls Tryz.prog 58 #[.slice a n c] w fun e w' => e = .returned (.slice (some ⟨w.heap.size, 0, none⟩) n n) ∧ Below w.heap.size w w' ∧ ∃ L', OD w' w.heap.size 0 (fun _ => false) n O D L' (.slice none 0 0) (.slice (some ⟨w.heap.size, 0, none⟩) n n) := by
  have hmk := fun w => run_make_wide (P := Tryz.prog) 37 133 _ 88 6 Tryz.underlying37 infoItem .i64 .i64 n (by omega) (by omega) w
  go_enter Tryz.func58, Tryz.ntmps58
  go_wp2
  go_loopw [4] (fun i wr => ∃ (k : Nat) (L' : Nat → Loc), k ≤ n ∧ i = .int .i64 k ∧ Below w.heap.size w wr ∧ OD wr w.heap.size 0 (fun _ => false) k O D L' (.slice none 0 0) (.slice (some ⟨w.heap.size, 0, none⟩) k n) ∧ ∃ g, wr.rowIs w.heap.size 133 (n * 6) g) (fun i _ => n - (intOf i).toNat)
  case atStart =>
    obtain ⟨g, hg⟩ := rowIs_wide w #[.int .i64 0, .int .i64 0, .string ByteArray.empty, .slice none 0 0, .slice none 0 0, .int .i64 0] (n * 6) 133
    refine ⟨0, L, Nat.zero_le _, rfl, (Below.refl _ _).alloc (Nat.le_refl _) _, ?_, g, hg⟩
    obtain ⟨cur, h1, h2, _⟩ := hg
    refine ⟨⟨fun d hd => ?_, fun d1 d2 g1 g2 hne b e1 e2 => ?_⟩⟩
    · have hd' : d = 0 ∨ d = 1 := by omega
      rcases hd' with rfl | rfl
      · exact World.ownsRow_nil _ _ _ _
      · exact ⟨by simp [rowD, rowsI], Or.inr ⟨w.heap.size, n, cur, rfl, Nat.le_refl _, h1, by simp [rowD], by unfold maxLen; omega, by simpa [rowD] using h2, by simp [rowD, rowsI]⟩⟩
    · have hd1 : d1 = 0 ∨ d1 = 1 := by omega
      have hd2 : d2 = 0 ∨ d2 = 1 := by omega
      rcases hd1 with rfl | rfl
      · simp [valD, Value.ownBlock] at e1
      · rcases hd2 with rfl | rfl
        · simp [valD, Value.ownBlock] at e2
        · exact hne rfl
  case round =>
    obtain ⟨k, L', hk, rfl, hb, hot, g, hrow⟩ := hrel
    by_cases hlt : k < n
    · obtain ⟨b, off, rfl, hlt2, hc⟩ := (hS.below (Nat.le_refl _) hb).at hlt
      obtain ⟨c0, c1, c2, c3, c4, c5, hI⟩ := hc k hlt
      clear hc
      go_wp2_with fail
      refine (toItem_new (O k) (D k) (L k) wr hI (hsm k hlt).1 (hsm k hlt).2).mono ?_
      rintro e w1 ⟨l', rfl, hN⟩
      unfold itV
      have hB := hb.trans (hN.bel.mono hb.size)
      have hrow1 := row_below hrow hN.bel
      have HR : Hid (OD wr w.heap.size 0 (fun _ => false) k O D L' (.slice none 0 0) (.slice (some ⟨w.heap.size, 0, none⟩) k n) ∧ NewNn wr (D k) l' w1 ∧ Below w.heap.size w w1 ∧ w.heap.size ≤ wr.heap.size ∧ w1.rowIs w.heap.size 133 (n * 6) g) := ⟨hot, hN, hB, hb.size, hrow1⟩
      have d0 := hrow1.cell (show k * 6 < n * 6 by omega)
      have d1 := hrow1.cell (show k * 6 + 1 < n * 6 by omega)
      have d2 := hrow1.cell (show k * 6 + 2 < n * 6 by omega)
      have d3 := hrow1.cell (show k * 6 + 3 < n * 6 by omega)
      have d4 := hrow1.cell (show k * 6 + 4 < n * 6 by omega)
      have d5 := hrow1.cell (show k * 6 + 5 < n * 6 by omega)
      have e5 := hrow1.frozen (k * 6 + 5)
      have e0 := hrow1.frozen (k * 6)
      have e1 := hrow1.frozen (k * 6 + 1)
      have e2 := hrow1.frozen (k * 6 + 2)
      have e3 := hrow1.frozen (k * 6 + 3)
      have e4 := hrow1.frozen (k * 6 + 4)
      clear hb hot hrow hB hrow1 hN hI c0 c1 c2 c3 c4 c5
      go_wp2
      go_roundw
      case rel => exact ⟨k + 1, fun i => if i = k then l' else L' i, by omega, by go_num, bel_put (bel_put (bel_put (bel_put (bel_put (bel_put HR.out.2.2.1 _ (Nat.le_refl _)) _ (Nat.le_refl _)) _ (Nat.le_refl _)) _ (Nat.le_refl _)) _ (Nat.le_refl _)) _ (Nat.le_refl _), (HR.out.1.fill6 (o := O k) HR.out.2.1 HR.out.2.2.2.1 hlt).ext2 (fun i hi => by by_cases e : i = k <;> simp [e]), _, (((((HR.out.2.2.2.2.set _ _).set _ _).set _ _).set _ _).set _ _).set _ _⟩
      case measure => simp [intOf]; omega
    · have hkn : k = n := by omega
      subst hkn
      have HR : Hid (Below w.heap.size w wr ∧ ∃ L', OD wr w.heap.size 0 (fun _ => false) k O D L' (.slice none 0 0) (.slice (some ⟨w.heap.size, 0, none⟩) k k)) := ⟨hb, L', hot⟩
      clear hb hrow hot
      go_wp2
      go_ret
      exact ⟨rfl, HR.out.1, HR.out.2⟩

theorem toBoolS_row (a : Option Addr) (n c : Nat) (Z : Nat → Bool) (w : World) (hS : IsBools w a n Z) (hn : n ≤ 1048576) :
    Calls Tryz.prog 57 #[.slice a n c] w fun e w' => ∃ b, e = .returned (.slice (some ⟨b, 0, none⟩) n n) ∧ w.heap.size ≤ b ∧ b < w'.heap.size ∧ Below w.heap.size w w' ∧ w'.rowIs b 4 n (fun i => .bool (Z i)) :=
  (toBoolS_any a n c Z w hS hn).mono fun e w' ⟨he, hb, hr⟩ => ⟨_, he, Nat.le_refl _, hr.lt, hb, hr⟩

/-- What is known within toDump, the truth values being copied. -/
structure Dump2o (w : World) (d : Dp) (l : DLoc) (b : Nat) (W : World) : Prop where
  p : Blk W w.heap.size #[.int .i64 d.since, .int .i64 d.date, .slice l.lA d.ln l.lc, .slice l.iA d.m l.ic] 28
  r : Blk W (w.heap.size + 1) #[.int .i64 0, .int .i64 0, .slice none 0 0, .slice none 0 0] 39
  o : Blk W (w.heap.size + 1 + 1) #[.int .i64 d.since, .int .i64 d.date, .slice (some ⟨b, 0, none⟩) d.ln d.ln, .slice none 0 0] 39
  bel : Below w.heap.size w W
  size : w.heap.size + 3 ≤ W.heap.size
  le : w.heap.size + 3 ≤ b
  lt : b < W.heap.size
  live : W.rowIs b 4 d.ln (fun i => .bool (d.live i))

/-- What is known at toDump's end. -/
structure DumpEndo (w : World) (d : Dp) (b b' : Nat) (W : World) : Prop where
  r : Blk W (w.heap.size + 1) #[.int .i64 d.since, .int .i64 d.date, .slice (some ⟨b, 0, none⟩) d.ln d.ln, .slice (some ⟨b', 0, none⟩) d.m d.m] 39
  bel : Below w.heap.size w W
  live : W.rowIs b 4 d.ln (fun i => .bool (d.live i))
  items : ∃ L', OD W b' 0 (fun _ => false) d.m d.ino d.nd L' (.slice none 0 0) (.slice (some ⟨b', 0, none⟩) d.m d.m)

set_option maxHeartbeats 1000000 in
theorem toDump_own (d : Dp) (l : DLoc) (w : World) (hI : DpIn w d l) (hsz : d.size ≤ 1048576) :
    Calls Tryz.prog 13 #[dpV d l] w fun e w' => ∃ l', e = .returned (dpV d l') ∧ Below w.heap.size w w' ∧ OwnDp w' w.heap.size d l' := by
  unfold dpV
  have hln : d.ln ≤ 1048576 := by unfold Dp.size at hsz; omega
  have hm : d.m ≤ 1048576 := by unfold Dp.size at hsz; omega
  have HSM : Hid (∀ i, i < d.m → (d.nd i).nn ≤ 1048576 ∧ (d.nd i).kn ≤ 1048576) := small_of_size (by unfold Dp.size at hsz; omega)
  go_enter Tryz.func13, Tryz.ntmps13
  go_wp2_with fail
  refine at_world (F := New3 w _ _ _ _ _ _) (new3 w _ _ _ _ _ _) ?_
  rintro W ⟨hp, hr, ho, hb0, hs0⟩
  refine (toBoolS_row l.lA d.ln l.lc d.live _ (hI.live.below (Nat.le_refl _) hb0) hln).mono ?_
  rintro e w1 ⟨b, rfl, hge, hlt, hb1, hS1⟩
  have hp1 := hp.below hb1 (by omega)
  have hr1 := hr.below hb1 (by omega)
  have ho1 := ho.below hb1 (by omega)
  have hB1 := hb0.trans (hb1.mono (by omega))
  have o2 : w1.cell? ⟨w.heap.size + 1 + 1, 2, none⟩ = some (.slice none 0 0) := ho1.cell 2
  have f2 := ho1.frozen 2
  have p3 : w1.cell? ⟨w.heap.size, 3, none⟩ = some (.slice l.iA d.m l.ic) := hp1.cell 3
  have hsz1 := hb1.size
  have F2 : Hid (Dump2o w d l b _) := ⟨hp1.off (b' := w.heap.size + 1 + 1) (i := 2) (.slice (some ⟨b, 0, none⟩) d.ln d.ln) (by omega), hr1.off _ (by omega), ho1.set 2 _, bel_put hB1 _ (by omega), by simp; omega, by omega, by simp; omega, row_off hS1 _ (by omega)⟩
  clear hp hr ho hb0 hb1 hp1 hr1 ho1 hB1 hS1
  go_wp2_with fail
  refine at_world (F := Dump2o w d l b) F2.out ?_
  clear F2 hge hlt f2 o2 p3 hs0 hsz1
  rintro W ⟨hp, hr, ho, hb0, hs0, hlb, hbl, hS⟩
  refine (toItemS_own l.iA d.m l.ic d.ino d.nd l.L _ (hI.items.below (Nat.le_refl _) hb0) hm HSM.out).mono ?_
  rintro e w2 ⟨rfl, hb1, hrow⟩
  have hp1 := hp.below hb1 (by omega)
  have hr1 := hr.below hb1 (by omega)
  have ho1 := ho.below hb1 (by omega)
  have hB1 := hb0.trans (hb1.mono (by omega))
  have hS1 := row_below hS hb1
  have hsz := hb1.size
  have o0 : w2.cell? ⟨w.heap.size + 1 + 1, 0, none⟩ = some (.int .i64 d.since) := ho1.cell 0
  have o1 : w2.cell? ⟨w.heap.size + 1 + 1, 1, none⟩ = some (.int .i64 d.date) := ho1.cell 1
  have o2 : w2.cell? ⟨w.heap.size + 1 + 1, 2, none⟩ = some (.slice (some ⟨b, 0, none⟩) d.ln d.ln) := ho1.cell 2
  have o3 : w2.cell? ⟨w.heap.size + 1 + 1, 3, none⟩ = some (.slice none 0 0) := ho1.cell 3
  have f3 := ho1.frozen 3
  have r0 : w2.cell? ⟨w.heap.size + 1, 0, none⟩ = some (.int .i64 0) := hr1.cell 0
  have r1 : w2.cell? ⟨w.heap.size + 1, 1, none⟩ = some (.int .i64 0) := hr1.cell 1
  have r2 : w2.cell? ⟨w.heap.size + 1, 2, none⟩ = some (.slice none 0 0) := hr1.cell 2
  have r3 : w2.cell? ⟨w.heap.size + 1, 3, none⟩ = some (.slice none 0 0) := hr1.cell 3
  have g0 := hr1.frozen 0
  have g1 := hr1.frozen 1
  have g2 := hr1.frozen 2
  have g3 := hr1.frozen 3
  have FB : Hid (Blk w2 (w.heap.size + 1) _ _ ∧ Below w.heap.size w w2 ∧ w2.rowIs b 4 d.ln (fun i => .bool (d.live i)) ∧ ∃ L', OD w2 W.heap.size 0 (fun _ => false) d.m d.ino d.nd L' (.slice none 0 0) (.slice (some ⟨W.heap.size, 0, none⟩) d.m d.m)) := ⟨hr1, hB1, hS1, hrow⟩
  have hs1 : w.heap.size + 3 ≤ W.heap.size := by omega
  have hbw : b < W.heap.size := hbl
  generalize W.heap.size = bW at *
  clear hp hr ho hb0 hb1 hp1 hr1 ho1 hB1 hS1 hrow hS hs0
  go_wp2_with fail
  obtain ⟨hr, hB, hS, L', hrow⟩ := FB.out
  refine end_world (F := DumpEndo w d b bW)
    ⟨((((hr.off _ (by omega)).set 0 _).set 1 _).set 2 _).set 3 _,
     bel_put (bel_put (bel_put (bel_put (bel_put hB _ (by omega)) _ (by omega)) _ (by omega)) _ (by omega)) _ (by omega),
     (row_off (row_off (row_off (row_off (row_off hS _ (by omega)) _ (by omega)) _ (by omega)) _ (by omega)) _ (by omega)),
     L', ((((hrow.off _ (by omega)).off _ (by omega)).off _ (by omega)).off _ (by omega)).off _ (by omega)⟩ ?_
  clear hr hB hS hrow FB o0 o1 o2 o3 f3 r0 r1 r2 r3 g0 g1 g2 g3
  rintro W ⟨hr, hB, hS, L2, hrow⟩
  have r0 : W.cell? ⟨w.heap.size + 1, 0, none⟩ = some (.int .i64 d.since) := hr.cell 0
  have r1 : W.cell? ⟨w.heap.size + 1, 1, none⟩ = some (.int .i64 d.date) := hr.cell 1
  have r2 : W.cell? ⟨w.heap.size + 1, 2, none⟩ = some (.slice (some ⟨b, 0, none⟩) d.ln d.ln) := hr.cell 2
  have r3 : W.cell? ⟨w.heap.size + 1, 3, none⟩ = some (.slice (some ⟨bW, 0, none⟩) d.m d.m) := hr.cell 3
  exact bodyPost_ret (v := .agg #[.int .i64 d.since, .int .i64 d.date, .slice (some ⟨b, 0, none⟩) d.ln d.ln, .slice (some ⟨bW, 0, none⟩) d.m d.m]) (by simp [results, Tryz.results13, go_sem, r0, r1, r2, r3]) rfl ⟨⟨some ⟨b, 0, none⟩, d.ln, some ⟨bW, 0, none⟩, d.m, L2⟩, rfl, hB, OD.withLive hrow (row_ownB hS (by omega) (by unfold maxLen; omega)) (by omega) (fun x e => by simp [Value.ownBlock] at e; omega)⟩

end Go.Proofs.YtfdjfndpeeomkaaGreatDoor

/-
  What NodeSame of the specification answers at two places.
-/
namespace Go.Proofs.YtfdjfndpeeomkaaGreatDoor
open Go.RowKit
set_option linter.unusedVariables false

set_option maxHeartbeats 400000 in
theorem l2Ints_any (a a' : Option Addr) (n c m c' : Nat) (Z Y : Nat → Int) (w : World) (hS : IsInts w a n Z) (hT : IsInts w a' m Y) (hn : n ≤ maxLen) (hm : m ≤ maxLen) :
    Calls Tryz.prog 118 #[.slice a n c, .slice a' m c'] w fun e w' => (∃ q, w' = w.drewN q) ∧ e = .returned (.bool (decide (n = m) && eqZ n Z Y)) := by
  unfold maxLen at hn hm
  by_cases hne : n = m
  · subst hne
    have hb : ((n : Int) != (n : Int)) = false := by simp
    go_enter Tryz.func118, Tryz.ntmps118
    go_wp2
    go_loopw [5] (fun i wr => ∃ k q : Nat, k ≤ n ∧ i = .int .i64 k ∧ wr = w.drewN q ∧ eqZ k Z Y = true) (fun i _ => n - (intOf i).toNat)
    case atStart => exact ⟨0, 0, Nat.zero_le _, rfl, rfl, rfl⟩
    case round =>
      obtain ⟨k, q, hk, rfl, rfl, heq⟩ := hrel
      have HE : Hid (eqZ k Z Y = true) := heq
      clear heq
      by_cases hlt : k < n
      · obtain ⟨b, off, rfl, hlt2, hc⟩ := hS.at hlt
        obtain ⟨b', off', rfl, hlt2', hc'⟩ := hT.at hlt
        have h1 := hc k hlt
        have h2 := hc' k hlt
        have hlti : (k : Int) < (n : Int) := by omega
        clear hc hc'
        by_cases hzy : Z k = Y k
        · have hzb : (Z k != Y k) = false := by simp [hzy]
          have HZ : Hid (Z k = Y k) := hzy
          clear hzy
          go_wp2
          go_quiet (fail)
          go_wp2
          go_roundw
          case rel => exact ⟨k + 1, q + nq, by omega, by go_num, rfl, eqZ_succ k Z Y HE.out HZ.out⟩
          case measure => simp [intOf]; omega
        · have hzb : (Z k != Y k) = true := by simp [hzy]
          have HZ : Hid (¬ Z k = Y k) := hzy
          clear hzy
          go_wp2
          go_quiet (fail)
          go_wp2
          go_ret
          exact ⟨⟨q + nq, by simp⟩, ret_bool (by rw [← eqZ_not n k Z Y hlt HZ.out]; simp)⟩
      · have hkn : k = n := by omega
        have HK : Hid (k = n) := hkn
        clear hkn
        go_wp2
        go_ret
        exact ⟨⟨q, rfl⟩, ret_bool (by rw [← HK.out, HE.out]; simp)⟩
  · have hb : ((n : Int) != (m : Int)) = true := by simp; omega
    go_enter Tryz.func118, Tryz.ntmps118
    go_wp2
    go_ret
    exact ⟨⟨0, rfl⟩, ret_bool (by simp [hne])⟩

set_option maxHeartbeats 400000 in
theorem l2Texts_any (a a' : Option Addr) (n c m c' : Nat) (S T : Nat → ByteArray) (w : World) (hS : IsStrs w a n S) (hT : IsStrs w a' m T) (hn : n ≤ maxLen) (hm : m ≤ maxLen) :
    Calls Tryz.prog 117 #[.slice a n c, .slice a' m c'] w fun e w' => (∃ q, w' = w.drewN q) ∧ e = .returned (.bool (decide (n = m) && eqS n S T)) := by
  unfold maxLen at hn hm
  by_cases hne : n = m
  · subst hne
    have hb : ((n : Int) != (n : Int)) = false := by simp
    go_enter Tryz.func117, Tryz.ntmps117
    go_wp2
    go_loopw [5] (fun i wr => ∃ k q : Nat, k ≤ n ∧ i = .int .i64 k ∧ wr = w.drewN q ∧ eqS k S T = true) (fun i _ => n - (intOf i).toNat)
    case atStart => exact ⟨0, 0, Nat.zero_le _, rfl, rfl, rfl⟩
    case round =>
      obtain ⟨k, q, hk, rfl, rfl, heq⟩ := hrel
      have HE : Hid (eqS k S T = true) := heq
      clear heq
      by_cases hlt : k < n
      · obtain ⟨b, off, rfl, hlt2, hc⟩ := hS.at hlt
        obtain ⟨b', off', rfl, hlt2', hc'⟩ := hT.at hlt
        have h1 := hc k hlt
        have h2 := hc' k hlt
        have hlti : (k : Int) < (n : Int) := by omega
        clear hc hc'
        go_wp2
        go_quiet (fail)
        go_wp2
        · go_ret
          exact ⟨⟨q + nq, by simp⟩, ret_bool (by rw [← eqS_not n k S T hlt ‹_›]; simp)⟩
        · go_roundw
          case rel => exact ⟨k + 1, q + nq, by omega, by go_num, rfl, eqS_succ k S T HE.out ‹_›⟩
          case measure => simp [intOf]; omega
      · have hkn : k = n := by omega
        have HK : Hid (k = n) := hkn
        clear hkn
        go_wp2
        go_ret
        exact ⟨⟨q, rfl⟩, ret_bool (by rw [← HK.out, HE.out]; simp)⟩
  · have hb : ((n : Int) != (m : Int)) = true := by simp; omega
    go_enter Tryz.func117, Tryz.ntmps117
    go_wp2
    go_ret
    exact ⟨⟨0, rfl⟩, ret_bool (by simp [hne])⟩

set_option maxHeartbeats 1000000 in
theorem specNodeSame_any (d d' : Nd) (l l' : Loc) (w : World) (hI : NdIn w d l) (hI' : NdIn w d' l') (hf : d.Fits) (hf' : d'.Fits) :
    Calls Tryz.prog 88 #[ndV d l, ndV d' l'] w fun e w' => Below w.heap.size w w' ∧ e = .returned (.bool (d.same d')) := by
  have hn := hf.nn
  have hn' := hf'.nn
  have hk := hf.kn
  have hk' := hf'.kn
  unfold ndV
  cases h1 : (d.kind == d'.kind) with
  | false =>
    have H1 : Hid (d.same d' = false) := show d.same d' = false by unfold Nd.same; rw [h1]; rfl
    go_enter Tryz.func88, Tryz.ntmps88
    go_wp2_with fail
    go_ret
    exact ⟨((Below.refl _ _).alloc (Nat.le_refl _) _).alloc (by simp) _, ret_bool H1.out.symm⟩
  | true =>
    have H1 : Hid ((d.kind == d'.kind) = true) := h1
    cases h2 : (d.text.toList == d'.text.toList) with
    | false =>
      have H2 : Hid (d.same d' = false) := show d.same d' = false by unfold Nd.same; rw [h2]; simp
      go_enter Tryz.func88, Tryz.ntmps88
      go_wp2_with fail
      go_ret
      exact ⟨((Below.refl _ _).alloc (Nat.le_refl _) _).alloc (by simp) _, ret_bool H2.out.symm⟩
    | true =>
      have H2 : Hid ((d.text.toList == d'.text.toList) = true) := h2
      cases h3 : (d.turn == d'.turn) with
      | false =>
        have H3 : Hid (d.same d' = false) := show d.same d' = false by unfold Nd.same; rw [h3]; simp
        go_enter Tryz.func88, Tryz.ntmps88
        go_wp2_with fail
        go_ret
        exact ⟨((Below.refl _ _).alloc (Nat.le_refl _) _).alloc (by simp) _, ret_bool H3.out.symm⟩
      | true =>
        have H3 : Hid ((d.turn == d'.turn) = true) := h3
        go_enter Tryz.func88, Tryz.ntmps88
        go_wp2_with fail
        refine at_world (F := New2 w _ _ _ _) (new2 w _ _ _ _) ?_
        rintro W ⟨hp, hp', hb, hs⟩
        have hI1 := hI.below (Nat.le_refl _) hb
        have hI1' := hI'.below (Nat.le_refl _) hb
        refine (l2Texts_any l.nA l'.nA d.nn l.nc d'.nn l'.nc d.names d'.names W hI1.1 hI1'.1 hn hn').mono ?_
        rintro e w1 ⟨⟨q, rfl⟩, rfl⟩
        have p3 : W.cell? ⟨w.heap.size, 3, none⟩ = some (.slice l.kA d.kn l.kc) := hp.cell 3
        have q3 : W.cell? ⟨w.heap.size + 1, 3, none⟩ = some (.slice l'.kA d'.kn l'.kc) := hp'.cell 3
        have HI : Hid (IsInts W l.kA d.kn d.kids ∧ IsInts W l'.kA d'.kn d'.kids) := ⟨hI1.2, hI1'.2⟩
        have HB : Hid (Below w.heap.size w W) := hb
        clear hI1 hI1' hI hI' hp hp' hb hs hf hf'
        cases h4 : (decide (d.nn = d'.nn) && eqS d.nn d.names d'.names) with
        | false =>
          have H4 : Hid (d.same d' = false) := show d.same d' = false by unfold Nd.same; rw [h4]; simp
          clear h4
          go_wp2
          go_ret
          exact ⟨below_drewN HB.out _, ret_bool H4.out.symm⟩
        | true =>
          have H4 : Hid ((decide (d.nn = d'.nn) && eqS d.nn d.names d'.names) = true) := h4
          clear h4
          go_wp2_with fail
          refine (l2Ints_any l.kA l'.kA d.kn l.kc d'.kn l'.kc d.kids d'.kids (W.drewN q) (HI.out.1.below (Nat.le_refl _) (below_drewN (Below.refl _ _) _)) (HI.out.2.below (Nat.le_refl _) (below_drewN (Below.refl _ _) _)) hk hk').mono ?_
          rintro e w1 ⟨⟨q', rfl⟩, rfl⟩
          have H5 : Hid (d.same d' = (decide (d.kn = d'.kn) && eqZ d.kn d.kids d'.kids)) := show d.same d' = _ by unfold Nd.same; rw [H1.out, H2.out, H3.out, H4.out]; simp
          go_wp2
          go_ret
          exact ⟨below_drewN HB.out _, ret_bool H5.out.symm⟩
end Go.Proofs.YtfdjfndpeeomkaaGreatDoor

/-
  What DumpSame of the specification answers.
-/
namespace Go.Proofs.YtfdjfndpeeomkaaGreatDoor
open Go.RowKit
set_option linter.unusedVariables false

/-- What is known within DumpSame. -/
structure DSIn (w : World) (d e : Dp) (l k : DLoc) (t : TypeId) (W : World) : Prop where
  p : Blk W w.heap.size #[.int .i64 d.since, .int .i64 d.date, .slice l.lA d.ln l.lc, .slice l.iA d.m l.ic] t
  p' : Blk W (w.heap.size + 1) #[.int .i64 e.since, .int .i64 e.date, .slice k.lA e.ln k.lc, .slice k.iA e.m k.ic] t
  bel : Below w.heap.size w W

theorem DSIn.below {w : World} {d e : Dp} {l k : DLoc} {t : TypeId} {W W' : World} (h : DSIn w d e l k t W) (hb : Below W.heap.size W W') : DSIn w d e l k t W' :=
  ⟨h.p.below hb h.p.lt, h.p'.below hb h.p'.lt, h.bel.trans (hb.mono (by have := h.p.lt; omega))⟩

theorem DSIn.drew {w : World} {d e : Dp} {l k : DLoc} {t : TypeId} {W : World} (h : DSIn w d e l k t W) (q : Nat) : DSIn w d e l k t (W.drewN q) := h.below (below_drewN (Below.refl _ _) q)

theorem same_since {d e : Dp} (h : (d.since == e.since) = false) : false = d.same e := by unfold Dp.same; rw [h]; rfl
theorem same_date {d e : Dp} (h : (d.date == e.date) = false) : false = d.same e := by unfold Dp.same; rw [h]; simp
theorem same_ln {d e : Dp} (h : ¬ d.ln = e.ln) : false = d.same e := by unfold Dp.same; simp [h]
theorem same_m {d e : Dp} (h : ¬ d.m = e.m) : false = d.same e := by unfold Dp.same; simp [h]
theorem same_live {d e : Dp} (h : false = eqB d.ln d.live e.live) : false = d.same e := by unfold Dp.same; rw [← h]; simp
theorem same_items {d e : Dp} (h : false = sameIts d.m d.ino e.ino d.nd e.nd) : false = d.same e := by unfold Dp.same; rw [← h]; simp
theorem same_all {d e : Dp} (h1 : (d.since == e.since) = true) (h2 : (d.date == e.date) = true) (h3 : d.ln = e.ln) (h4 : eqB d.ln d.live e.live = true) (h5 : d.m = e.m) (h6 : sameIts d.m d.ino e.ino d.nd e.nd = true) : true = d.same e := by
  unfold Dp.same; rw [h1, h2, h4, h6]; simp [h3, h5]

end Go.Proofs.YtfdjfndpeeomkaaGreatDoor

/-
  What DumpOk of the specification answers.
-/
namespace Go.Proofs.YtfdjfndpeeomkaaGreatDoor
open Go.RowKit
set_option linter.unusedVariables false

/-- What is known within l5Kids and l5Item: what is kept in one block, more cells in the next. -/
structure DKIn (w : World) (d : Dp) (l : DLoc) (cs : Array Value) (t : TypeId) (W : World) : Prop where
  p : Blk W w.heap.size #[.int .i64 d.since, .int .i64 d.date, .slice l.lA d.ln l.lc, .slice l.iA d.m l.ic] 39
  x : Blk W (w.heap.size + 1) cs t
  bel : Below w.heap.size w W

theorem DKIn.below {w : World} {d : Dp} {l : DLoc} {cs : Array Value} {t : TypeId} {W W' : World} (h : DKIn w d l cs t W) (hb : Below W.heap.size W W') : DKIn w d l cs t W' :=
  ⟨h.p.below hb h.p.lt, h.x.below hb h.x.lt, h.bel.trans (hb.mono (by have := h.p.lt; omega))⟩
theorem DKIn.drew {w : World} {d : Dp} {l : DLoc} {cs : Array Value} {t : TypeId} {W : World} (h : DKIn w d l cs t W) (q : Nat) : DKIn w d l cs t (W.drewN q) := h.below (below_drewN (Below.refl _ _) q)

set_option maxHeartbeats 2000000 in
theorem l5Kids_any (d : Dp) (l : DLoc) (x : Nd) (lo : Loc) (w : World) (hD : DpIn w d l) (hI : NdIn w x lo) (hfd : d.Fits) (hf : x.Fits) :
    Calls Tryz.prog 124 #[dpV d l, ndV x lo] w fun e w' => Below w.heap.size w w' ∧ e = .returned (.bool (kidsIn d.ln d.live x.kids x.kn && decide (x.kn = x.nn))) := by
  have hkn := hf.kn
  have hnn := hf.nn
  have hln := hfd.ln
  unfold maxLen at hkn hnn hln
  unfold dpV ndV
  go_enter Tryz.func124, Tryz.ntmps124
  go_wp2
  go_loopw [5] (fun i wr => ∃ k : Nat, k ≤ x.kn ∧ i = .int .i64 k ∧ DKIn w d l #[.int .i64 x.kind, .string x.text, .slice lo.nA x.nn lo.nc, .slice lo.kA x.kn lo.kc, .int .i64 x.turn] 58 wr ∧ kidsIn d.ln d.live x.kids k = true) (fun i _ => x.kn - (intOf i).toNat)
  case atStart =>
    have h := new2 w #[.int .i64 d.since, .int .i64 d.date, .slice l.lA d.ln l.lc, .slice l.iA d.m l.ic] 39 #[.int .i64 x.kind, .string x.text, .slice lo.nA x.nn lo.nc, .slice lo.kA x.kn lo.kc, .int .i64 x.turn] 58
    exact ⟨0, Nat.zero_le _, rfl, ⟨h.b0, h.b1, h.bel⟩, rfl⟩
  case round =>
    obtain ⟨k, hk, rfl, hin, heq⟩ := hrel
    have t2 : wr.cell? ⟨w.heap.size, 2, none⟩ = some (.slice l.lA d.ln l.lc) := hin.p.cell 2
    have d2 : wr.cell? ⟨w.heap.size + 1, 2, none⟩ = some (.slice lo.nA x.nn lo.nc) := hin.x.cell 2
    have d3 : wr.cell? ⟨w.heap.size + 1, 3, none⟩ = some (.slice lo.kA x.kn lo.kc) := hin.x.cell 3
    have hLr := hD.live.below (Nat.le_refl _) hin.bel
    have hIr := hI.2.below (Nat.le_refl _) hin.bel
    have HE : Hid (kidsIn d.ln d.live x.kids k = true ∧ DKIn w d l _ 58 wr) := ⟨heq, hin⟩
    clear heq hin
    by_cases hlt : k < x.kn
    · obtain ⟨b, off, hka, hlt2, hc⟩ := hIr.at hlt
      rw [hka] at d3
      have h1 := hc k hlt
      have hlti : (k : Int) < (x.kn : Int) := by omega
      have HKA : Hid _ := hka
      clear hc hka
      have hz := hf.kids k hlt
      unfold In64 at hz
      have bad : kidIn d.ln d.live (x.kids k) = false → Hid (kidsIn d.ln d.live x.kids x.kn = false) := fun h => kidsIn_bad hlt h
      by_cases hz1 : x.kids k < 1
      · have H : Hid (kidsIn d.ln d.live x.kids x.kn = false) := bad (by unfold kidIn; rw [decide_eq_false (show ¬ 1 ≤ x.kids k by omega)]; rfl)
        have hb1 : decide (x.kids k < 1) = true := by simp; omega
        clear bad
        go_wp2_with fail
        go_quiet (fail)
        go_wp2
        go_ret
        exact ⟨(HE.out.2.drew _).bel, ret_bool (by rw [H.out]; rfl)⟩
      · have hb1 : decide (x.kids k < 1) = false := by simp; omega
        by_cases hz2 : (d.ln : Int) ≤ x.kids k
        · have H : Hid (kidsIn d.ln d.live x.kids x.kn = false) := bad (by unfold kidIn; rw [decide_eq_false (show ¬ x.kids k < d.ln by omega)]; simp)
          have hb2 : decide ((d.ln : Int) ≤ x.kids k) = true := by simp; omega
          clear bad
          go_wp2_with fail
          go_quiet (fail)
          go_wp2
          go_ret
          exact ⟨(HE.out.2.drew _).bel, ret_bool (by rw [H.out]; rfl)⟩
        · obtain ⟨j, hj⟩ : ∃ j : Nat, x.kids k = j := ⟨(x.kids k).toNat, by omega⟩
          have hjn : j < d.ln := by omega
          obtain ⟨b', off', ha, hlt2', hc'⟩ := hLr.at hjn
          have g0 := hc' j hjn
          have hko : kidIn d.ln d.live (x.kids k) = d.live j := by
            unfold kidIn; rw [decide_eq_true (show 1 ≤ x.kids k by omega), decide_eq_true (show x.kids k < d.ln by omega), hj]; simp
          clear hc'
          rw [ha] at t2
          have HLA : Hid _ := ha
          clear ha hb1
          rw [hj] at h1 hz1 hz2 hz
          have hb1 : decide ((j : Int) < 1) = false := by simp; omega
          have hb2 : decide ((d.ln : Int) ≤ (j : Int)) = false := by simp; omega
          have hjl : (j : Int) < (d.ln : Int) := by omega
          cases hkd : d.live j with
          | false =>
            have H : Hid (kidsIn d.ln d.live x.kids x.kn = false) := bad (by rw [hko, hkd])
            rw [hkd] at g0
            clear bad hko hkd hj
            go_wp2_with fail
            go_quiet (fail)
            go_wp2
            go_ret
            exact ⟨(HE.out.2.drew _).bel, ret_bool (by rw [H.out]; rfl)⟩
          | true =>
            have H : Hid (kidIn d.ln d.live (x.kids k) = true) := by show _ = _; rw [hko, hkd]
            rw [hkd] at g0
            clear bad hko hkd hj
            go_wp2_with fail
            go_quiet (fail)
            go_wp2
            go_roundw
            case rel => exact ⟨k + 1, by omega, by go_num, HE.out.2.drew _, kidsIn_succ HE.out.1 H.out⟩
            case measure => simp [intOf]; omega
    · have hke : k = x.kn := by omega
      have HK : Hid (kidsIn d.ln d.live x.kids x.kn = true) := by have := HE.out.1; rw [hke] at this; exact this
      clear hke hLr hIr
      go_wp2
      go_ret
      refine ⟨HE.out.2.bel, ret_bool ?_⟩
      rw [HK.out, Bool.true_and]
      by_cases h : x.kn = x.nn
      · simp [h]
      · rw [decide_eq_false h]
        simp
        omega
end Go.Proofs.YtfdjfndpeeomkaaGreatDoor

/-
  What l5Item and DumpOk of the specification answer.
-/
namespace Go.Proofs.YtfdjfndpeeomkaaGreatDoor
open Go.RowKit
set_option linter.unusedVariables false

theorem it_dead {d : Dp} {o : Int} {x : Nd} (h : liveIn d.ln d.live o = false) : false = itIn d o x := by unfold itIn; rw [h]; rfl
theorem it_turn {d : Dp} {o : Int} {x : Nd} (h : turnedIn d x = false) : false = itIn d o x := by unfold itIn; rw [h]; simp
theorem it_node {d : Dp} {o : Int} {x : Nd} (h1 : liveIn d.ln d.live o = true) (h2 : turnedIn d x = true) : nodeIn d o x = itIn d o x := by unfold itIn; rw [h1, h2]; rfl

/-- The cells of a place that was turned. -/
def itC (o : Int) (x : Nd) (lo : Loc) : Array Value := #[.int .i64 o, .int .i64 x.kind, .string x.text, .slice lo.nA x.nn lo.nc, .slice lo.kA x.kn lo.kc, .int .i64 x.turn]

set_option maxHeartbeats 4000000 in
theorem l5Item_any (d : Dp) (l : DLoc) (o : Int) (x : Nd) (lo : Loc) (w : World) (hD : DpIn w d l) (hI : NdIn w x lo) (hfd : d.Fits) (hf : x.Fits) :
    Calls Tryz.prog 92 #[dpV d l, itV o x lo] w fun e w' => Below w.heap.size w w' ∧ e = .returned (.bool (itIn d o x)) := by
  have hkn := hf.kn
  have hnn := hf.nn
  have hln := hfd.ln
  unfold maxLen at hkn hnn hln
  unfold dpV itV
  have hend : ∀ (c0 c1 : Array Value) (t0 t1 : TypeId), Below w.heap.size w ((w.alloc (.cells c0 t0)).alloc (.cells c1 t1)) := fun c0 c1 t0 t1 => ((Below.refl _ _).alloc (Nat.le_refl _) _).alloc (by simp) _
  have HEND : Hid _ := hend
  clear hend
  by_cases h1 : o < 0
  · have hb1 : decide (o < 0) = true := by simp; omega
    have HX : Hid (false = itIn d o x) := it_dead (by unfold liveIn; rw [decide_eq_false (show ¬ 0 ≤ o by omega)]; rfl)
    go_enter Tryz.func92, Tryz.ntmps92
    go_wp2_with fail
    go_ret
    exact ⟨HEND.out _ _ _ _, ret_bool HX.out⟩
  have hb1 : decide (o < 0) = false := by simp; omega
  by_cases h2 : (d.ln : Int) ≤ o
  · have hb2 : decide ((d.ln : Int) ≤ o) = true := by simp; omega
    have HX : Hid (false = itIn d o x) := it_dead (by unfold liveIn; rw [decide_eq_false (show ¬ o < d.ln by omega)]; simp)
    go_enter Tryz.func92, Tryz.ntmps92
    go_wp2_with fail
    go_ret
    exact ⟨HEND.out _ _ _ _, ret_bool HX.out⟩
  have hb2 : decide ((d.ln : Int) ≤ o) = false := by simp; omega
  obtain ⟨j, rfl⟩ : ∃ j : Nat, o = j := ⟨o.toNat, by omega⟩
  have hjn : j < d.ln := by omega
  have hjl : (j : Int) < (d.ln : Int) := by omega
  obtain ⟨b, off, hA, hlt2, hc⟩ := hD.live.at hjn
  have g0 := hc j hjn
  have hbne : b ≠ w.heap.size := by omega
  have hbne' : b ≠ w.heap.size + 1 := by omega
  have hblt' : b < w.heap.size + 1 := by omega
  have HLA : Hid (l.lA = some ⟨b, off, none⟩) := hA
  rw [hA]
  clear hc hA
  cases hlv : d.live j with
  | false =>
    have HX : Hid (false = itIn d j x) := it_dead (by unfold liveIn; simp [hlv])
    rw [hlv] at g0
    clear hlv
    go_enter Tryz.func92, Tryz.ntmps92
    go_wp2_with fail
    go_ret
    exact ⟨HEND.out _ _ _ _, ret_bool HX.out⟩
  | true =>
  have HL : Hid (liveIn d.ln d.live (j : Int) = true) := by show _ = _; unfold liveIn; simp [hlv]; omega
  rw [hlv] at g0
  clear hlv
  by_cases h3 : x.turn ≤ d.since
  · have hb3 : decide (x.turn ≤ d.since) = true := by simp; omega
    have HX : Hid (false = itIn d j x) := it_turn (by unfold turnedIn; rw [decide_eq_false (show ¬ d.since < x.turn by omega)]; rfl)
    go_enter Tryz.func92, Tryz.ntmps92
    go_wp2_with fail
    go_ret
    exact ⟨HEND.out _ _ _ _, ret_bool HX.out⟩
  have hb3 : decide (x.turn ≤ d.since) = false := by simp; omega
  by_cases h4 : d.date < x.turn
  · have hb4 : decide (d.date < x.turn) = true := by simp; omega
    have HX : Hid (false = itIn d j x) := it_turn (by unfold turnedIn; rw [decide_eq_false (show ¬ x.turn ≤ d.date by omega)]; simp)
    go_enter Tryz.func92, Tryz.ntmps92
    go_wp2_with fail
    go_ret
    exact ⟨HEND.out _ _ _ _, ret_bool HX.out⟩
  have hb4 : decide (d.date < x.turn) = false := by simp; omega
  have HN : Hid (nodeIn d j x = itIn d j x) := it_node HL.out (by unfold turnedIn; rw [decide_eq_true (show d.since < x.turn by omega), decide_eq_true (show x.turn ≤ d.date by omega)]; rfl)
  clear HL
  by_cases k1 : x.kind = 1
  · have c1 : (x.kind == 1) = true := by simp [k1]
    have H : Hid ((fileIs x && decide ((0 : Int) < j)) = itIn d j x) := by show _ = _; rw [← HN.out]; unfold nodeIn; rw [if_pos k1]
    clear k1 HN
    go_enter Tryz.func92, Tryz.ntmps92
    go_wp2_with fail
    refine (l2Text_any x.text _ hf.text).mono ?_
    rintro e w1 ⟨rfl, rfl⟩
    cases htx : textOk x.text with
    | false =>
      have HT : Hid (textOk x.text = false) := htx
      clear htx
      go_wp2_with fail
      go_ret
      exact ⟨HEND.out _ _ _ _, ret_bool (by rw [← H.out]; unfold fileIs; rw [HT.out]; rfl)⟩
    | true =>
      have HT : Hid (textOk x.text = true) := htx
      clear htx
      have HF : Hid ((decide (x.nn = 0) && decide (x.kn = 0) && decide ((0 : Int) < j)) = itIn d j x) := by show _ = _; rw [← H.out]; unfold fileIs; rw [HT.out]; rfl
      clear H HT
      by_cases e1 : x.nn = 0
      · by_cases e2 : x.kn = 0
        · have a1 : ((x.nn : Int) == 0) = true := by simp [e1]
          have a2 : ((x.kn : Int) == 0) = true := by simp [e2]
          have HG : Hid (decide ((0 : Int) < j) = itIn d j x) := by show _ = _; rw [← HF.out, decide_eq_true e1, decide_eq_true e2]; rfl
          clear e1 e2 HF
          go_wp2_with fail
          all_goals
            go_ret
            exact ⟨HEND.out _ _ _ _, ret_bool (by rw [← HG.out]; (first | rfl | (simp [*]; done) | (simp; omega)))⟩
        · have a1 : ((x.nn : Int) == 0) = true := by simp [e1]
          have a2 : ((x.kn : Int) == 0) = false := by simp; omega
          have HG : Hid (false = itIn d j x) := by show _ = _; rw [← HF.out, decide_eq_false e2]; simp
          clear e1 e2 HF
          go_wp2_with fail
          go_ret
          exact ⟨HEND.out _ _ _ _, ret_bool HG.out⟩
      · have a1 : ((x.nn : Int) == 0) = false := by simp; omega
        have HG : Hid (false = itIn d j x) := by show _ = _; rw [← HF.out, decide_eq_false e1]; simp
        clear e1 HF
        go_wp2_with fail
        go_ret
        exact ⟨HEND.out _ _ _ _, ret_bool HG.out⟩
  · have c1 : (x.kind == 1) = false := by simp [k1]
    by_cases k2 : x.kind = 2
    · have c2 : (x.kind == 2) = true := by simp [k2]
      have H : Hid ((dirIs x && kidsIn d.ln d.live x.kids x.kn) = itIn d j x) := by show _ = _; rw [← HN.out]; unfold nodeIn; rw [if_neg k1, if_pos k2]
      clear k1 k2 HN
      cases ht : (x.text.toList == []) with
      | false =>
        have HX : Hid (false = itIn d j x) := by show _ = _; rw [← H.out]; unfold dirIs; rw [ht]; rfl
        go_enter Tryz.func92, Tryz.ntmps92
        go_wp2_with fail
        go_ret
        exact ⟨HEND.out _ _ _ _, ret_bool HX.out⟩
      | true =>
        have H2 : Hid ((dirNames x.names x.nn && decide (x.kn = x.nn) && kidsIn d.ln d.live x.kids x.kn) = itIn d j x) := by show _ = _; rw [← H.out]; unfold dirIs; rw [ht]; rfl
        clear H
        go_enter Tryz.func92, Tryz.ntmps92
        go_wp2_with fail
        refine at_world (F := New2 w _ _ _ _) (new2 w _ _ _ _) ?_
        rintro W ⟨hp, hx, hb, hs⟩
        refine (l2Names_any lo.nA x.nn lo.nc x.names W (hI.1.below (Nat.le_refl _) hb) hf.names hf.nn).mono ?_
        rintro e w1 ⟨⟨q, rfl⟩, rfl⟩
        have HB : Hid (Below w.heap.size w W) := hb
        have p0 : W.cell? ⟨w.heap.size, 0, none⟩ = some (.int .i64 d.since) := hp.cell 0
        have p1 : W.cell? ⟨w.heap.size, 1, none⟩ = some (.int .i64 d.date) := hp.cell 1
        have p2 : W.cell? ⟨w.heap.size, 2, none⟩ = some (.slice (some ⟨b, off, none⟩) d.ln l.lc) := hp.cell 2
        have p3 : W.cell? ⟨w.heap.size, 3, none⟩ = some (.slice l.iA d.m l.ic) := hp.cell 3
        have x1 : W.cell? ⟨w.heap.size + 1, 1, none⟩ = some (.int .i64 x.kind) := hx.cell 1
        have x2 : W.cell? ⟨w.heap.size + 1, 2, none⟩ = some (.string x.text) := hx.cell 2
        have x3 : W.cell? ⟨w.heap.size + 1, 3, none⟩ = some (.slice lo.nA x.nn lo.nc) := hx.cell 3
        have x4 : W.cell? ⟨w.heap.size + 1, 4, none⟩ = some (.slice lo.kA x.kn lo.kc) := hx.cell 4
        have x5 : W.cell? ⟨w.heap.size + 1, 5, none⟩ = some (.int .i64 x.turn) := hx.cell 5
        clear hp hx hb
        cases hnm : dirNames x.names x.nn with
        | false =>
          have HX : Hid (false = itIn d j x) := by show _ = _; rw [← H2.out, hnm]; rfl
          clear hnm
          go_wp2_with fail
          go_ret
          exact ⟨below_drewN HB.out _, ret_bool HX.out⟩
        | true =>
          have HX : Hid ((kidsIn d.ln d.live x.kids x.kn && decide (x.kn = x.nn)) = itIn d j x) := by show _ = _; rw [← H2.out, hnm]; simp [Bool.and_comm]
          clear hnm H2
          go_wp2_with fail
          have hbq := below_drewN HB.out q
          have hk5 := l5Kids_any d l x lo (W.drewN q) (hD.below (Nat.le_refl _) hbq) (hI.below (Nat.le_refl _) hbq) hfd hf
          unfold dpV at hk5
          rw [HLA.out] at hk5
          refine hk5.mono ?_
          rintro e w2 ⟨hb2, rfl⟩
          have HB2 : Hid (Below w.heap.size w w2) := hbq.trans (hb2.mono hbq.size)
          clear hb2 hbq hk5 p0 p1 p2 p3 x1 x2 x3 x4 x5
          rw [HX.out]
          go_wp2
          go_ret
          exact ⟨HB2.out, rfl⟩
    · have c2 : (x.kind == 2) = false := by simp [k2]
      have HX : Hid (false = itIn d j x) := by show _ = _; rw [← HN.out]; unfold nodeIn; rw [if_neg k1, if_neg k2]
      clear k1 k2 HN
      go_enter Tryz.func92, Tryz.ntmps92
      go_wp2_with fail
      go_ret
      exact ⟨HEND.out _ _ _ _, ret_bool HX.out⟩
end Go.Proofs.YtfdjfndpeeomkaaGreatDoor

/-
  What DumpOk of the specification answers.
-/
namespace Go.Proofs.YtfdjfndpeeomkaaGreatDoor
open Go.RowKit
set_option linter.unusedVariables false

/-- What is known within DumpOk. -/
structure D1In (w : World) (d : Dp) (l : DLoc) (t : TypeId) (W : World) : Prop where
  p : Blk W w.heap.size #[.int .i64 d.since, .int .i64 d.date, .slice l.lA d.ln l.lc, .slice l.iA d.m l.ic] t
  bel : Below w.heap.size w W

theorem D1In.below {w : World} {d : Dp} {l : DLoc} {t : TypeId} {W W' : World} (h : D1In w d l t W) (hb : Below W.heap.size W W') : D1In w d l t W' :=
  ⟨h.p.below hb h.p.lt, h.bel.trans (hb.mono (by have := h.p.lt; omega))⟩
theorem D1In.drew {w : World} {d : Dp} {l : DLoc} {t : TypeId} {W : World} (h : D1In w d l t W) (q : Nat) : D1In w d l t (W.drewN q) := h.below (below_drewN (Below.refl _ _) q)

theorem head_1 {d : Dp} (h : d.since < 0) : false = d.ok := ok_head (by unfold headIn; rw [decide_eq_false (show ¬ 0 ≤ d.since by omega)]; rfl)
theorem head_2 {d : Dp} (h : d.date < d.since) : false = d.ok := ok_head (by unfold headIn; rw [decide_eq_false (show ¬ d.since ≤ d.date by omega)]; simp)
theorem head_3 {d : Dp} (h : d.date < 1) : false = d.ok := ok_head (by unfold headIn; rw [decide_eq_false (show ¬ 1 ≤ d.date by omega)]; simp)
theorem head_4 {d : Dp} (h : 1000 < d.date) : false = d.ok := ok_head (by unfold headIn; rw [decide_eq_false (show ¬ d.date ≤ 1000 by omega)]; simp)
theorem head_5 {d : Dp} (h : d.ln < 1) : false = d.ok := ok_head (by unfold headIn; rw [decide_eq_false (show ¬ 1 ≤ d.ln by omega)]; simp)
theorem head_6 {d : Dp} (h : 10 < d.ln) : false = d.ok := ok_head (by unfold headIn; rw [decide_eq_false (show ¬ d.ln ≤ 10 by omega)]; simp)
theorem head_7 {d : Dp} (h : d.live 0 = false) : false = d.ok := ok_head (by unfold headIn; rw [h]; simp)
theorem head_yes {d : Dp} (h1 : ¬ d.since < 0) (h2 : ¬ d.date < d.since) (h3 : ¬ d.date < 1) (h4 : ¬ 1000 < d.date) (h5 : ¬ d.ln < 1) (h6 : ¬ 10 < d.ln) (h7 : d.live 0 = true) : headIn d = true := by
  unfold headIn
  rw [decide_eq_true (show 0 ≤ d.since by omega), decide_eq_true (show d.since ≤ d.date by omega), decide_eq_true (show 1 ≤ d.date by omega), decide_eq_true (show d.date ≤ 1000 by omega), decide_eq_true (show 1 ≤ d.ln by omega), decide_eq_true (show d.ln ≤ 10 by omega), h7]
  rfl

set_option maxHeartbeats 4000000 in
theorem specDumpOk_any (d : Dp) (l : DLoc) (w : World) (hD : DpIn w d l) (hfd : d.Fits) :
    Calls Tryz.prog 53 #[dpV d l] w fun e w' => Below w.heap.size w w' ∧ e = .returned (.bool d.ok) := by
  have hln := hfd.ln
  have hm := hfd.m
  unfold maxLen at hln hm
  unfold dpV
  have HEND : Hid (∀ (c0 : Array Value) (t0 : TypeId), Below w.heap.size w (w.alloc (.cells c0 t0))) := fun c0 t0 => (Below.refl _ _).alloc (Nat.le_refl _) _
  by_cases h1 : d.since < 0
  · have hb1 : decide (d.since < 0) = true := by simp; omega
    have HX : Hid (false = d.ok) := head_1 h1
    go_enter Tryz.func53, Tryz.ntmps53
    go_wp2_with fail
    go_ret
    exact ⟨HEND.out _ _, ret_bool HX.out⟩
  have hb1 : decide (d.since < 0) = false := by simp; omega
  by_cases h2 : d.date < d.since
  · have hb2 : decide (d.date < d.since) = true := by simp; omega
    have HX : Hid (false = d.ok) := head_2 h2
    go_enter Tryz.func53, Tryz.ntmps53
    go_wp2_with fail
    go_ret
    exact ⟨HEND.out _ _, ret_bool HX.out⟩
  have hb2 : decide (d.date < d.since) = false := by simp; omega
  by_cases h3 : d.date < 1
  · have hb3 : decide (d.date < 1) = true := by simp; omega
    have HX : Hid (false = d.ok) := head_3 h3
    go_enter Tryz.func53, Tryz.ntmps53
    go_wp2_with fail
    go_ret
    exact ⟨HEND.out _ _, ret_bool HX.out⟩
  have hb3 : decide (d.date < 1) = false := by simp; omega
  by_cases h4 : 1000 < d.date
  · have hb4 : decide (1000 < d.date) = true := by simp; omega
    have HX : Hid (false = d.ok) := head_4 h4
    go_enter Tryz.func53, Tryz.ntmps53
    go_wp2_with fail
    go_ret
    exact ⟨HEND.out _ _, ret_bool HX.out⟩
  have hb4 : decide (1000 < d.date) = false := by simp; omega
  by_cases h5 : d.ln < 1
  · have hb5 : decide ((d.ln : Int) < 1) = true := by simp; omega
    have HX : Hid (false = d.ok) := head_5 h5
    clear h5
    go_enter Tryz.func53, Tryz.ntmps53
    go_wp2_with fail
    go_ret
    exact ⟨HEND.out _ _, ret_bool HX.out⟩
  have hb5 : decide ((d.ln : Int) < 1) = false := by simp; omega
  by_cases h6 : 10 < d.ln
  · have hb6 : decide ((10 : Int) < (d.ln : Int)) = true := by simp; omega
    have HX : Hid (false = d.ok) := head_6 h6
    go_enter Tryz.func53, Tryz.ntmps53
    go_wp2_with fail
    go_ret
    exact ⟨HEND.out _ _, ret_bool HX.out⟩
  have hb6 : decide ((10 : Int) < (d.ln : Int)) = false := by simp; omega
  have h0n : 0 < d.ln := by omega
  have h0i : (0 : Int) < (d.ln : Int) := by omega
  obtain ⟨b, off, hA, hlt2, hc⟩ := hD.live.at h0n
  have g0 := hc 0 h0n
  rw [Nat.add_zero] at g0
  have hbne : b ≠ w.heap.size := by omega
  have HLA : Hid (l.lA = some ⟨b, off, none⟩) := hA
  rw [hA]
  clear hc hA
  cases h7 : d.live 0 with
  | false =>
    have HX : Hid (false = d.ok) := head_7 h7
    rw [h7] at g0
    clear h7
    go_enter Tryz.func53, Tryz.ntmps53
    go_wp2_with fail
    go_ret
    exact ⟨HEND.out _ _, ret_bool HX.out⟩
  | true =>
  have HH : Hid (headIn d = true) := head_yes h1 h2 h3 h4 h5 h6 h7
  rw [h7] at g0
  clear h7
  go_enter Tryz.func53, Tryz.ntmps53
  go_wp2_with fail
  go_loopw [3] (fun i wr => ∃ k : Nat, k ≤ d.m ∧ i = .int .i64 k ∧ D1In w d l 39 wr ∧ itsIn d k = true) (fun i _ => d.m - (intOf i).toNat)
  case atStart =>
    have h := new1 w #[.int .i64 d.since, .int .i64 d.date, .slice l.lA d.ln l.lc, .slice l.iA d.m l.ic] 39
    rw [HLA.out] at h
    exact ⟨0, Nat.zero_le _, rfl, ⟨by rw [HLA.out]; exact h.b0, h.bel⟩, rfl⟩
  case round =>
    obtain ⟨k, hk, rfl, hin, heq⟩ := hrel
    have t0 : wr.cell? ⟨w.heap.size, 0, none⟩ = some (.int .i64 d.since) := hin.p.cell 0
    have t1 : wr.cell? ⟨w.heap.size, 1, none⟩ = some (.int .i64 d.date) := hin.p.cell 1
    have t2 : wr.cell? ⟨w.heap.size, 2, none⟩ = some (.slice l.lA d.ln l.lc) := hin.p.cell 2
    have t3 : wr.cell? ⟨w.heap.size, 3, none⟩ = some (.slice l.iA d.m l.ic) := hin.p.cell 3
    have hwl := hin.p.lt
    by_cases hlt : k < d.m
    · obtain ⟨b', off', hA', hlt2', hc'⟩ := (hD.items.below (Nat.le_refl _) hin.bel).at hlt
      obtain ⟨c0, c1, c2, c3, c4, c5, hN⟩ := hc' k hlt
      have hDr := hD.below (Nat.le_refl _) hin.bel
      have hIA : Hid (l.iA = some ⟨b', off', none⟩) := hA'
      have T0 := Lat.cell (B := wr.heap.size) t0 hwl
      have T1 := Lat.cell (B := wr.heap.size) t1 hwl
      have T2 := Lat.cell (B := wr.heap.size) t2 hwl
      have T3 := Lat.cell (B := wr.heap.size) t3 hwl
      rw [hA'] at t3 T3
      have hlti : (k : Int) < (d.m : Int) := by omega
      have C0 := Lat.cell (B := wr.heap.size) c0 hlt2'
      have C1 := Lat.cell (B := wr.heap.size) c1 hlt2'
      have C2 := Lat.cell (B := wr.heap.size) c2 hlt2'
      have C3 := Lat.cell (B := wr.heap.size) c3 hlt2'
      have C4 := Lat.cell (B := wr.heap.size) c4 hlt2'
      have C5 := Lat.cell (B := wr.heap.size) c5 hlt2'
      have hcall0 : ∀ q : Lat wr.heap.size wr, Calls Tryz.prog 92 #[dpV d l, itV (d.ino k) (d.nd k) (l.L k)] q.val fun r w'' => r = .returned (.bool (itIn d (d.ino k) (d.nd k))) ∧ ∃ m : Lat wr.heap.size wr, w'' = m.val := fun q =>
        Calls.lat_of (l5Item_any d l (d.ino k) (d.nd k) (l.L k) q.val (hDr.below (Nat.le_refl _) q.bel) (hN.below (Nat.le_refl _) q.bel) hfd (hfd.nds k hlt)) (fun e w' h => ⟨h.2, h.1.mono q.bel.size⟩)
      unfold dpV at hcall0
      rw [hA'] at hcall0
      have HIN : Hid (D1In w d l 39 wr ∧ itsIn d k = true) := ⟨hin, heq⟩
      cases hq : itIn d (d.ino k) (d.nd k) with
      | false =>
        rw [hq] at hcall0
        have hcall : Hid _ := hcall0
        have HQ : Hid (false = d.ok) := ok_bad hlt (step_item hq)
        clear hq hcall0 hc' c0 c1 c2 c3 c4 c5 hN hDr hin heq hA'
        go_wp2_with fail
        refine wp_region_lat (B := wr.heap.size) (w0 := wr) (by kernel_rfl) (by kernel_rfl) (Below.refl _ _) ?_
        repeat (go_big_quiet_step (exact hcall.out _))
        refine wpQuiet_nil ?_
        rintro _ ⟨nq, rfl⟩
        have HB : Hid (Below w.heap.size w nq.val) := (HIN.out.1.below nq.bel).bel
        clear hcall C0 C1 C2 C3 C4 C5 T0 T1 T2 T3 t0 t1 t2 t3
        go_wp2
        go_ret
        exact ⟨HB.out, ret_bool HQ.out⟩
      | true =>
        rw [hq] at hcall0
        have hcall : Hid _ := hcall0
        have HI : Hid (itIn d (d.ino k) (d.nd k) = true) := hq
        clear hq hcall0 hDr hin heq hN
        by_cases hk0 : k = 0
        · subst hk0
          have hz : decide ((0 : Int) < ((0 : Nat) : Int)) = false := by decide
          have HS : Hid (stepIn d 0 = true) := step_zero HI.out
          clear hc' c0 c1 c2 c3 c4 c5 hA' HI
          simp only [Nat.zero_mul, Nat.add_zero] at C0 C1 C2 C3 C4 C5
          go_wp2_with fail
          refine wp_region_lat (B := wr.heap.size) (w0 := wr) (by kernel_rfl) (by kernel_rfl) (Below.refl _ _) ?_
          repeat (go_big_quiet_step (exact hcall.out _))
          refine wpQuiet_nil ?_
          rintro _ ⟨nq, rfl⟩
          have HB : Hid (D1In w d l 39 nq.val) := HIN.out.1.below nq.bel
          clear hcall C0 C1 C2 C3 C4 C5 T0 T1 T2 T3 t0 t1 t2 t3
          go_wp2
          go_roundw
          case rel => exact ⟨1, by omega, by go_num, HB.out, itsIn_succ HIN.out.2 HS.out⟩
          case measure => simp [intOf]; omega
        · have hz : decide ((0 : Int) < (k : Int)) = true := by simp; omega
          have hz' : decide (0 < k) = true := by simp; omega
          have e0 := (hc' (k - 1) (by omega)).1
          have E0 := Lat.cell (B := wr.heap.size) e0 hlt2'
          have hk1 : ((k - 1 : Nat) : Int) < (d.m : Int) := by omega
          have hwr : IntKind.i64.wrap ((k : Int) - 1) = ((k - 1 : Nat) : Int) := by rw [IntKind.wrap_i64]; omega
          by_cases hle : d.ino k ≤ d.ino (k - 1)
          · have hb8 : decide (d.ino k ≤ d.ino (k - 1)) = true := by simp; omega
            have HQ : Hid (false = d.ok) := ok_bad hlt (step_low hk0 hle)
            clear hc' c0 c1 c2 c3 c4 c5 hA' HI e0 hk0
            go_wp2_with fail
            refine wp_region_lat (B := wr.heap.size) (w0 := wr) (by kernel_rfl) (by kernel_rfl) (Below.refl _ _) ?_
            repeat (go_big_quiet_step (exact hcall.out _))
            refine wpQuiet_nil ?_
            rintro _ ⟨nq, rfl⟩
            have HB : Hid (Below w.heap.size w nq.val) := (HIN.out.1.below nq.bel).bel
            clear hcall C0 C1 C2 C3 C4 C5 E0 T0 T1 T2 T3 t0 t1 t2 t3
            go_wp2
            go_ret
            exact ⟨HB.out, ret_bool HQ.out⟩
          · have hb8 : decide (d.ino k ≤ d.ino (k - 1)) = false := by simp; omega
            have HS : Hid (stepIn d k = true) := step_more HI.out (by omega)
            clear hc' c0 c1 c2 c3 c4 c5 hA' HI e0 hk0
            go_wp2_with fail
            refine wp_region_lat (B := wr.heap.size) (w0 := wr) (by kernel_rfl) (by kernel_rfl) (Below.refl _ _) ?_
            repeat (go_big_quiet_step (exact hcall.out _))
            refine wpQuiet_nil ?_
            rintro _ ⟨nq, rfl⟩
            have HB : Hid (D1In w d l 39 nq.val) := HIN.out.1.below nq.bel
            clear hcall C0 C1 C2 C3 C4 C5 E0 T0 T1 T2 T3 t0 t1 t2 t3
            go_wp2
            go_roundw
            case rel => exact ⟨k + 1, by omega, by go_num, HB.out, itsIn_succ HIN.out.2 HS.out⟩
            case measure => simp [intOf]; omega
    · obtain rfl : k = d.m := by omega
      have HK : Hid (true = d.ok ∧ Below w.heap.size w wr) := ⟨by unfold Dp.ok; rw [HH.out, heq]; rfl, hin.bel⟩
      clear hin heq
      go_wp2
      go_ret
      exact ⟨HK.out.2, ret_bool HK.out.1⟩
end Go.Proofs.YtfdjfndpeeomkaaGreatDoor

/-
  What BackThen of the specification answers.
-/
namespace Go.Proofs.YtfdjfndpeeomkaaGreatDoor
open Go.RowKit Go.Deep
set_option linter.unusedVariables false
set_option linter.unusedSimpArgs false
set_option linter.unnecessarySimpa false

theorem wp_cutqT {X Y Z U : Type} (F : X → Y → Z → U → World → Prop) {P : Program} {c : Code} {Q : Exit → Act → World → Prop} {a : Act} {w : World} (A : X → Y → Z → U → Act)
    (leaf : (∀ x y z u W, F x y z u W → Q .normal (A x y z u) W) → c.wp P Q a w) (k : ∀ x y z u W, F x y z u W → Q .normal (A x y z u) W) : c.wp P Q a w := leaf k

/-- What is known ahead of the making: the two in their boxes, the answer's cell. -/
structure Th (w : World) (a b : Dp) (la lb : DLoc) (W : World) : Prop where
  p : Blk W w.heap.size #[.int .i64 a.since, .int .i64 a.date, .slice la.lA a.ln la.lc, .slice la.iA a.m la.ic] 39
  q : Blk W (w.heap.size + 1) #[.int .i64 b.since, .int .i64 b.date, .slice lb.lA b.ln lb.lc, .slice lb.iA b.m lb.ic] 39
  r : Blk W (w.heap.size + 1 + 1) #[.int .i64 0, .int .i64 0, .slice none 0 0, .slice none 0 0] 39
  bel : Below w.heap.size w W

theorem Th.below {w : World} {a b : Dp} {la lb : DLoc} {W W' : World} (h : Th w a b la lb W) (hb : Below W.heap.size W W') : Th w a b la lb W' := ⟨h.p.below hb h.p.lt, h.q.below hb h.q.lt, h.r.below hb h.r.lt, h.bel.trans (hb.mono h.bel.size)⟩

theorem Th.cells {w : World} {a b : Dp} {la lb : DLoc} {W : World} (h : Th w a b la lb W) : (W.cell? ⟨w.heap.size, 0, none⟩ = some (.int .i64 a.since) ∧ W.cell? ⟨w.heap.size, 1, none⟩ = some (.int .i64 a.date) ∧ W.cell? ⟨w.heap.size, 2, none⟩ = some (.slice la.lA a.ln la.lc) ∧ W.cell? ⟨w.heap.size, 3, none⟩ = some (.slice la.iA a.m la.ic)) ∧
    (W.cell? ⟨w.heap.size + 1, 0, none⟩ = some (.int .i64 b.since) ∧ W.cell? ⟨w.heap.size + 1, 1, none⟩ = some (.int .i64 b.date) ∧ W.cell? ⟨w.heap.size + 1, 2, none⟩ = some (.slice lb.lA b.ln lb.lc) ∧ W.cell? ⟨w.heap.size + 1, 3, none⟩ = some (.slice lb.iA b.m lb.ic)) ∧
    (W.cell? ⟨w.heap.size + 1 + 1, 0, none⟩ = some (.int .i64 0) ∧ W.cell? ⟨w.heap.size + 1 + 1, 1, none⟩ = some (.int .i64 0) ∧ W.cell? ⟨w.heap.size + 1 + 1, 2, none⟩ = some (.slice none 0 0) ∧ W.cell? ⟨w.heap.size + 1 + 1, 3, none⟩ = some (.slice none 0 0)) :=
  ⟨⟨h.p.cell 0, h.p.cell 1, h.p.cell 2, h.p.cell 3⟩, ⟨h.q.cell 0, h.q.cell 1, h.q.cell 2, h.q.cell 3⟩, h.r.cell 0, h.r.cell 1, h.r.cell 2, h.r.cell 3⟩

/-- Nothing is answered. -/
theorem Th.no {w : World} {a b : Dp} {la lb : DLoc} {W : World} (h : Th w a b la lb W) : Blk ((((W.setCell ⟨w.heap.size + 1 + 1, 0, none⟩ (.int .i64 0)).setCell ⟨w.heap.size + 1 + 1, 1, none⟩ (.int .i64 0)).setCell ⟨w.heap.size + 1 + 1, 2, none⟩ (.slice none 0 0)).setCell ⟨w.heap.size + 1 + 1, 3, none⟩ (.slice none 0 0)) (w.heap.size + 1 + 1) #[.int .i64 0, .int .i64 0, .slice none 0 0, .slice none 0 0] 39 ∧ Below w.heap.size w ((((W.setCell ⟨w.heap.size + 1 + 1, 0, none⟩ (.int .i64 0)).setCell ⟨w.heap.size + 1 + 1, 1, none⟩ (.int .i64 0)).setCell ⟨w.heap.size + 1 + 1, 2, none⟩ (.slice none 0 0)).setCell ⟨w.heap.size + 1 + 1, 3, none⟩ (.slice none 0 0)) :=
  ⟨(((h.r.set 0 _).set 1 _).set 2 _).set 3 _, bel_put (bel_put (bel_put (bel_put h.bel _ (by omega)) _ (by omega)) _ (by omega)) _ (by omega)⟩

/-- The blocks that are kept. -/
def ThX (w : World) (j : Nat) : Prop := j = w.heap.size ∨ j = w.heap.size + 1 ∨ j = w.heap.size + 1 + 1

theorem Th.of {w W0 : World} {a b : Dp} {la lb : DLoc} (h : Th w a b la lb W0) {B : Nat} {since date : Int} {n : Nat} {Z : Nat → Bool} {V : Nat} {lA : Option Addr} {lc m : Nat} {ia : Option Addr} {ic : Nat} {O : Nat → Int} {E : Nat → Nd} {M : Nat → Loc} {W : World} (g : GOf w W0 B (ThX w) since date n Z V lA lc m ia ic O E M W) : Th w a b la lb W :=
  ⟨h.p.of_block (g.kept _ (Or.inl rfl)), h.q.of_block (g.kept _ (Or.inr (Or.inl rfl))), h.r.of_block (g.kept _ (Or.inr (Or.inr rfl))), g.bel⟩

/-- The places that have come are the ones. -/
def ThSel (a b : Dp) (k m : Nat) (O : Nat → Int) (E : Nat → Nd) : Prop := m = (thenSel a b k).length ∧ ∀ i, i < m → O i = ((thenSel a b k).getD i 0 : Nat) ∧ thenNd a b ((thenSel a b k).getD i 0 : Nat) = some (E i)

theorem ThSel.no {a b : Dp} {k m : Nat} {O : Nat → Int} {E : Nat → Nd} (h : ThSel a b k m O E) (hk : thenNd a b (k : Int) = none) : ThSel a b (k + 1) m O E := by
  have e := thenSel_no (a := a) (b := b) (k := k) (by rw [hk]; rfl)
  exact ⟨by rw [e]; exact h.1, by rw [e]; exact h.2⟩

theorem ThSel.yes {a b : Dp} {k m : Nat} {O : Nat → Int} {E : Nat → Nd} (h : ThSel a b k m O E) {x : Nd} (hk : thenNd a b (k : Int) = some x) : ThSel a b (k + 1) (m + 1) (fun i => if i = m then (k : Int) else O i) (fun i => if i = m then x else E i) := by
  have e := thenSel_yes (a := a) (b := b) (k := k) (by rw [hk]; rfl)
  have hl := h.1
  refine ⟨by rw [e]; simp [hl], fun i hi => ?_⟩
  rw [e]
  by_cases ei : i = m
  · subst ei
    have e2 : (thenSel a b k ++ [k]).getD i 0 = k := by rw [List.getD_eq_getElem?_getD, List.getElem?_append_right (by omega), show i - (thenSel a b k).length = 0 by omega]; rfl
    rw [e2]
    exact ⟨if_pos rfl, by rw [hk]; simp⟩
  · have hi' : i < m := by omega
    have e2 : (thenSel a b k ++ [k]).getD i 0 = (thenSel a b k).getD i 0 := by rw [List.getD_eq_getElem?_getD, List.getD_eq_getElem?_getD, List.getElem?_append_left (by omega)]
    rw [e2]
    obtain ⟨h1, h2⟩ := h.2 i hi'
    exact ⟨(if_neg ei).trans h1, by rw [h2]; simp [ei]⟩

/-- At the end it is the one. -/
theorem ThSel.own {a b : Dp} {W : World} {B m : Nat} {lA : Option Addr} {lc : Nat} {ia : Option Addr} {ic : Nat} {O : Nat → Int} {E : Nat → Nd} {M : Nat → Loc} (h : ThSel a b b.ln m O E) (hod : OD W B b.ln b.live m O E M (.slice lA b.ln lc) (.slice ia m ic)) : m = (thenDp a b).m ∧ OwnDp W B (thenDp a b) ⟨lA, lc, ia, ic, M⟩ := by
  have hm : m = (thenDp a b).m := h.1
  refine ⟨hm, ?_⟩
  subst hm
  exact hod.ext fun i hi => ⟨((h.2 i hi).1).symm, by
    have h2 := (h.2 i hi).2
    show (thenNd a b ((thenSel a b b.ln).getD i 0 : Nat)).getD _ = E i
    rw [h2]; rfl⟩

theorem dp_of_small {d : Dp} (h : d.size ≤ 1048576) : ∀ i, i < d.m → (d.nd i).nn ≤ 1048576 ∧ (d.nd i).kn ≤ 1048576 ∧ (d.nd i).text.size ≤ 1048576 ∧ ∀ j, j < (d.nd i).nn → ((d.nd i).names j).size ≤ 1048576 := fun i hi => by
  have h1 := size_le_sizeTo d.nd d.m i hi
  unfold Dp.size at h
  unfold Nd.size at h1
  exact ⟨by omega, by omega, by omega, fun j hj => by have := size_le_sumTo (d.nd i).names (d.nd i).nn j hj; omega⟩

/-- The bounds of the one. -/
theorem then_fits {a b : Dp} (ha : a.Fits) (hb : b.Fits) (hl : b.ln ≤ 10) : (thenDp a b).Fits := by
  have hlen := thenSel_len a b b.ln
  have hnd : ∀ i, i < (thenSel a b b.ln).length → ∃ x, thenNd a b ((thenSel a b b.ln).getD i 0 : Nat) = some x ∧ x.Fits := fun i hi => by
    have hm : (thenSel a b b.ln).getD i 0 ∈ thenSel a b b.ln := by
      rw [List.getD_eq_getElem?_getD, List.getElem?_eq_getElem hi]
      exact List.getElem_mem hi
    have hs := (List.mem_filter.1 hm).2
    cases e : thenNd a b ((thenSel a b b.ln).getD i 0 : Nat) with
    | none => rw [e] at hs; cases hs
    | some x =>
      refine ⟨x, rfl, ?_⟩
      unfold thenNd at e
      split at e
      · rename_i k hk; cases e; exact hb.nds k (ixOf_some hk).1
      · split at e
        · cases e2 : ixOf a.ino a.m ((thenSel a b b.ln).getD i 0 : Nat) with
          | none => rw [e2] at e; cases e
          | some k => rw [e2] at e; cases e; exact ha.nds k (ixOf_some e2).1
        · cases e
  refine ⟨ha.since, hb.date, hb.ln, by show (thenSel a b b.ln).length ≤ maxLen; unfold maxLen; omega, fun i hi => ?_, fun i hi => ?_⟩
  · have hm : (thenSel a b b.ln).getD i 0 ∈ thenSel a b b.ln := by
      have hi' : i < (thenSel a b b.ln).length := hi
      rw [List.getD_eq_getElem?_getD, List.getElem?_eq_getElem hi']
      exact List.getElem_mem hi'
    have h1 : (thenSel a b b.ln).getD i 0 < b.ln := List.mem_range.1 (List.mem_filter.1 hm).1
    show In64 (((thenSel a b b.ln).getD i 0 : Nat) : Int)
    unfold In64
    omega
  · obtain ⟨x, h1, h2⟩ := hnd i hi
    show ((thenNd a b ((thenSel a b b.ln).getD i 0 : Nat)).getD _).Fits
    rw [h1]
    exact h2

end Go.Proofs.YtfdjfndpeeomkaaGreatDoor

/-
  What BackThen answers, in one word for both.
-/
namespace Go.Proofs.YtfdjfndpeeomkaaGreatDoor
open Go.RowKit Go.Deep
set_option linter.unusedVariables false
set_option linter.unusedSimpArgs false

theorem ok_kn {d : Dp} (h : d.ok = true) {i : Nat} (hi : i < d.m) : (d.nd i).kn = (d.nd i).nn := by
  unfold Dp.ok at h
  rw [Bool.and_eq_true] at h
  have hs := List.all_eq_true.1 h.2 i (by simpa using hi)
  unfold stepIn itIn at hs
  simp only [Bool.and_eq_true] at hs
  have hn := hs.1.2
  unfold nodeIn at hn
  split at hn
  · unfold fileIs at hn
    simp only [Bool.and_eq_true, decide_eq_true_eq] at hn
    omega
  · split at hn
    · unfold dirIs at hn
      simp only [Bool.and_eq_true, decide_eq_true_eq] at hn
      omega
    · cases hn

theorem thenNd_from {a b : Dp} {z : Int} {x : Nd} (e : thenNd a b z = some x) : (∃ j, j < b.m ∧ x = b.nd j) ∨ ∃ j, j < a.m ∧ x = a.nd j := by
  unfold thenNd at e
  split at e
  · rename_i k hk; cases e; exact Or.inl ⟨k, (ixOf_some hk).1, rfl⟩
  · split at e
    · cases e2 : ixOf a.ino a.m z with
      | none => rw [e2] at e; cases e
      | some k => rw [e2] at e; cases e; exact Or.inr ⟨k, (ixOf_some e2).1, rfl⟩
    · cases e

theorem nd_sum {d : Dp} (h : d.size ≤ 1048576) {i : Nat} (hi : i < d.m) : (d.nd i).nn + (d.nd i).kn ≤ 1048576 := by
  have h1 := size_le_sizeTo d.nd d.m i hi
  unfold Dp.size at h
  unfold Nd.size at h1
  omega

theorem then_sum {a b : Dp} (hsa : a.size ≤ 1048576) (hsb : b.size ≤ 1048576) {i : Nat} (hi : i < (thenDp a b).m) : ((thenDp a b).nd i).nn + ((thenDp a b).nd i).kn ≤ 1048576 := by
  have hi' : i < (thenSel a b b.ln).length := hi
  have hm : (thenSel a b b.ln).getD i 0 ∈ thenSel a b b.ln := by
    rw [List.getD_eq_getElem?_getD, List.getElem?_eq_getElem hi']
    exact List.getElem_mem hi'
  have hs := (List.mem_filter.1 hm).2
  cases e : thenNd a b ((thenSel a b b.ln).getD i 0 : Nat) with
  | none => rw [e] at hs; cases hs
  | some x =>
    have e1 : (thenDp a b).nd i = x := by
      show (thenNd a b ((thenSel a b b.ln).getD i 0 : Nat)).getD _ = x
      rw [e]; rfl
    rw [e1]
    rcases thenNd_from e with ⟨j, hj, rfl⟩ | ⟨j, hj, rfl⟩
    · exact nd_sum hsb hj
    · exact nd_sum hsa hj

theorem kap_le3 (D : Nat → Nd) (k0 : Nat) : ∀ m, (∀ i, i < m → (D i).nn + (D i).kn ≤ 1048576) → kap D k0 m ≤ k0 + m * 1048580
  | 0, _ => by simp [kap]
  | m + 1, h => by
    have h1 := kap_le3 D k0 m (fun i hi => h i (by omega))
    have h2 := h m (by omega)
    rw [kap]
    omega

theorem then_small {a b : Dp} (hfa : a.Fits) (hfb : b.Fits) (hsa : a.size ≤ 1048576) (hsb : b.size ≤ 1048576) (h : (thenDp a b).ok = true) : DpSmall (thenDp a b) := by
  have hl : (thenDp a b).ln ≤ 10 := (ok_head1 h).2
  have hm := m_small h
  have hk := kap_le3 (thenDp a b).nd (1 + (thenDp a b).ln) (thenDp a b).m (fun i hi => then_sum hsa hsb hi)
  refine ⟨then_fits hfa hfb hl, hl, hm, by omega, fun i hi => ?_⟩
  have h1 := then_sum hsa hsb hi
  have h2 := ok_kn h hi
  omega

theorem then_ans (a b : Dp) (hfa : a.Fits) (hfb : b.Fits) (hsa : a.size ≤ 1048576) (hsb : b.size ≤ 1048576) : ∃ (d : Dp) (ok : Bool), DpSmall d ∧ ∀ w e w', ThenPost w a b e w' → Below w.heap.size w w' ∧ ∃ l, e = .returned (.tuple #[dpV d l, .bool ok]) ∧ OwnDp w' w.heap.size d l := by
  cases hok : thenOk a b with
  | true =>
    have h2 : (thenDp a b).ok = true := by unfold thenOk at hok; simp only [Bool.and_eq_true] at hok; exact hok.2
    refine ⟨thenDp a b, true, then_small hfa hfb hsa hsb h2, fun w e w' h => ⟨h.1, ?_⟩⟩
    rcases h.2 with ⟨hno, _⟩ | ⟨_, l, he, hod⟩
    · rw [hok] at hno; cases hno
    · exact ⟨l, he, hod⟩
  | false =>
    refine ⟨dpNone, false, dpNone_small, fun w e w' h => ⟨h.1, ?_⟩⟩
    rcases h.2 with ⟨_, he⟩ | ⟨hyes, _⟩
    · exact ⟨⟨none, 0, none, 0, fun _ => ⟨none, 0, none, 0⟩⟩, he, OD.start _ _ _ _ _ _⟩
    · rw [hok] at hyes; cases hyes
end Go.Proofs.YtfdjfndpeeomkaaGreatDoor

/-
  What is kept, as the laws hand it about, in the words of the trees.
-/
namespace Go.Proofs.YtfdjfndpeeomkaaGreatDoor
open Go.RowKit Go.Deep
set_option linter.unusedVariables false
set_option linter.unusedSimpArgs false

def pC (d : Dp) (l : DLoc) : Array Value := #[.int .i64 d.since, .int .i64 d.date, .slice l.lA d.ln l.lc, .slice l.iA d.m l.ic]
theorem pC_cells {W : World} {b : Nat} {d : Dp} {l : DLoc} {t : TypeId} (h : Blk W b (pC d l) t) :
    W.cell? ⟨b, 0, none⟩ = some (.int .i64 d.since) ∧ W.cell? ⟨b, 1, none⟩ = some (.int .i64 d.date) ∧ W.cell? ⟨b, 2, none⟩ = some (.slice l.lA d.ln l.lc) ∧ W.cell? ⟨b, 3, none⟩ = some (.slice l.iA d.m l.ic) := ⟨h.cell 0, h.cell 1, h.cell 2, h.cell 3⟩

def TopDp (d : Dp) (l : DLoc) (H : Nat) : Prop := ∀ dd q, dd < 2 + 2 * d.m → (valD (.slice l.lA d.ln l.lc) (.slice l.iA d.m l.ic) d.nd l.L dd).ownBlock = some q → q < H
def MarkedDp (W : World) (B : Nat) (d : Dp) (l : DLoc) (k0 : Nat) : Prop := OD W B d.ln (markB k0) d.m (markO d.nd (k0 + d.ln) d.ino d.m) (markD d.nd (k0 + d.ln) d.m) l.L (.slice l.lA d.ln l.lc) (.slice l.iA d.m l.ic)
def kDp (d : Dp) (k0 : Nat) : Nat := kap d.nd (k0 + d.ln) d.m

theorem OwnDp.top {W : World} {B : Nat} {d : Dp} {l : DLoc} (h : OwnDp W B d l) : TopDp d l W.heap.size := fun dd q hd e => (owns_block (h.rows.own dd hd) e).2
theorem OwnDp.below {W W' : World} {B : Nat} {d : Dp} {l : DLoc} (h : OwnDp W B d l) (hb : Below W.heap.size W W') : OwnDp W' B d l := OD.below h hb
theorem OwnDp.far {W W' : World} {B B0 H0 : Nat} {d : Dp} {l : DLoc} (h : OwnDp W B d l) (hf : Fr B0 H0 W W') (hH : H0 ≤ B) : OwnDp W' B d l := OD.same h fun b hb hl => hf.far b (by omega) hl
theorem OwnDp.lower {W : World} {B B' : Nat} {d : Dp} {l : DLoc} (h : OwnDp W B d l) (hB : B' ≤ B) : OwnDp W B' d l := OD.lower h hB
theorem OwnDp.put {W : World} {B V i : Nat} {d : Dp} {l : DLoc} (h : OwnDp W B d l) (v : Value) (hV : V < B) : OwnDp (W.setCell ⟨V, i, none⟩ v) B d l := OD.off h v hV
theorem OwnDp.tIn {W : World} {B : Nat} {d : Dp} {l : DLoc} (h : OwnDp W B d l) : DpIn W d l := OwnDp.dpIn h
theorem MarkedDp.below {W W' : World} {B : Nat} {d : Dp} {l : DLoc} {k0 : Nat} (h : MarkedDp W B d l k0) (hb : Below W.heap.size W W') : MarkedDp W' B d l k0 := OD.below h hb

theorem kap_le5 (D : Nat → Nd) (k0 : Nat) : ∀ m, kap D k0 m ≤ k0 + 4 * m + sizeTo D m
  | 0 => by simp [kap, sizeTo]
  | m + 1 => by
    have h1 := kap_le5 D k0 m
    rw [kap, sizeTo_succ]
    unfold Nd.size
    omega

theorem kDp_le {d : Dp} (h : d.size ≤ 1048576) (k0 : Nat) : kDp d k0 ≤ k0 + 4194304 := by
  have h1 := kap_le5 d.nd (k0 + d.ln) d.m
  unfold Dp.size at h
  unfold kDp
  omega

theorem kDp_ge (d : Dp) (k0 : Nat) : k0 ≤ kDp d k0 := by
  have := kap_ge d.nd (k0 + d.ln) d.m
  unfold kDp
  omega

theorem szDp (d : Dp) (l : DLoc) (left : Int) (w : World) (hI : DpIn w d l) (hf : d.Fits) (h0 : 0 ≤ left) (h1 : left ≤ 1048576) :
    Calls Tryz.prog 10 #[dpV d l, .int .i64 left] w fun e w' => Below w.heap.size w w' ∧ ∃ r : Int, e = .returned (.int .i64 r) ∧ r ≤ left ∧ (0 ≤ r → r + d.size ≤ left) := szDump_any d l left w hI hf h0 h1

theorem toDp (d : Dp) (l : DLoc) (w : World) (hI : DpIn w d l) (hs : d.size ≤ 1048576) :
    Calls Tryz.prog 13 #[dpV d l] w fun e w' => ∃ l', e = .returned (dpV d l') ∧ Below w.heap.size w w' ∧ OwnDp w' w.heap.size d l' := toDump_own d l w hI hs

theorem eqDp (d e : Dp) (l k : DLoc) (w : World) (hI : DpIn w d l) (hI' : DpIn w e k) (hf : d.Fits) (hf' : e.Fits) :
    Calls Tryz.prog 16 #[dpV d l, dpV e k] w fun r w' => Below w.heap.size w w' ∧ r = .returned (.bool (d.same e)) := eqDump_any d e l k w hI hI' hf hf'

theorem markDp (d : Dp) (l : DLoc) (k0 B H : Nat) (w : World) (h : OwnDp w B d l) (hH : TopDp d l H) (hB : B ≤ w.heap.size) (hs : d.size ≤ 1048576) (hk1 : 1 ≤ k0) (hk2 : k0 ≤ 50000000) :
    Calls Tryz.prog 18 #[dpV d l, .int .i64 (k0 : Int)] w fun e w' => e = .returned (.int .i64 (kDp d k0 : Nat)) ∧ Fr B H w w' ∧ MarkedDp w' B d l k0 := by
  have hk := kDp_le hs k0
  have hz := hs
  unfold Dp.size at hz
  unfold kDp at hk
  exact markDump_ownK k0 hk1 hk2 l.lA l.iA d.ln l.lc d.m l.ic B d.since d.date d.live d.ino d.nd l.L w h (by omega) (by omega) (by omega) (fun i hi => by have := nd_sum hs hi; omega) hB H hH

/-- The bounds that an answer keeps. -/
def SmDp (d : Dp) : Prop := DpSmall d ∧ d.size ≤ 1048576
end Go.Proofs.YtfdjfndpeeomkaaGreatDoor

/-
  What is held while a tree is made place by place, in memory of its own.
-/
namespace Go.Proofs.YtfdjfndpeeomkaaGreatDoor
open Go.RowKit Go.Deep
set_option linter.unusedVariables false
set_option linter.unusedSimpArgs false

/-- The tree in block V, which was there in W0; all of its lists are new since W0, and all else is as it was. -/
structure GT (W0 : World) (V : Nat) (now : Int) (k : Nat) (a : Option Addr) (c : Nat) (E : Nat → Nd) (M : Nat → Loc) (W : World) : Prop where
  v : Blk W V #[.slice a k c, .int .i64 now] 33
  gr : W0.grownBy W (some V)
  vl : V < W0.heap.size
  ot : OT W W0.heap.size 0 (fun _ => false) k (fun _ => 0) E M (.slice none 0 0) (.slice a k c)

theorem OT.grown {W W' : World} {B k m : Nat} {Z : Nat → Bool} {O : Nat → Int} {D : Nat → Nd} {L : Nat → Loc} {lv iv : Value} (h : OT W B k Z m O D L lv iv) {V : Nat} (hg : W.grownBy W' (some V)) (hV : V < B) : OT W' B k Z m O D L lv iv :=
  h.same fun b hB hb => hg.block b hb (fun e => by have := Option.some.inj e; omega)

theorem GT.start {W0 : World} {V : Nat} {now : Int} (h : Blk W0 V #[.slice none 0 0, .int .i64 now] 33) (E : Nat → Nd) (M : Nat → Loc) : GT W0 V now 0 none 0 E M W0 :=
  ⟨h, grown_refl _ _, h.lt, OT.start _ _ _ _ _ _⟩

theorem GT.below {W0 : World} {V : Nat} {now : Int} {k : Nat} {a : Option Addr} {c : Nat} {E : Nat → Nd} {M : Nat → Loc} {W W' : World} (h : GT W0 V now k a c E M W) (hb : Below W.heap.size W W') : GT W0 V now k a c E M W' :=
  ⟨h.v.below hb h.v.lt, grown_tr h.gr (grown_below hb), h.vl, h.ot.below hb⟩

theorem GT.size {W0 : World} {V : Nat} {now : Int} {k : Nat} {a : Option Addr} {c : Nat} {E : Nat → Nd} {M : Nat → Loc} {W : World} (h : GT W0 V now k a c E M W) : W0.heap.size ≤ W.heap.size := h.gr.size

theorem GT.keep {W0 : World} {V : Nat} {now : Int} {k : Nat} {a : Option Addr} {c : Nat} {E : Nat → Nd} {M : Nat → Loc} {W : World} (h : GT W0 V now k a c E M W) {b : Nat} (hb : b < W0.heap.size) (hV : b ≠ V) : W.heap[b]? = W0.heap[b]? := h.gr.block b hb (fun e => hV (Option.some.inj e))

theorem GT.own {W0 : World} {V : Nat} {now : Int} {k : Nat} {a : Option Addr} {c : Nat} {E : Nat → Nd} {M : Nat → Loc} {W : World} (h : GT W0 V now k a c E M W) : ∀ q, (Value.slice a k c).ownBlock = some q → W0.heap.size ≤ q ∧ q < W.heap.size := fun q e => owns_block h.ot.ownI e

/-- A place more: of it all is new, and the list of places has grown. -/
theorem OT.more {W W1 W' : World} {B k : Nat} {a : Option Addr} {c : Nat} {E : Nat → Nd} {M : Nat → Loc} (h : OT W B 0 (fun _ => false) k (fun _ => 0) E M (.slice none 0 0) (.slice a k c)) {x : Nd} {l : Loc} (hN : NewNn W x l W1) (hB : B ≤ W.heap.size) {b c' : Nat} (hg : W1.grownBy W' (Value.slice a k c).ownBlock)
    (hown : W'.ownsRow B 58 5 (.slice (some ⟨b, 0, none⟩) (k + 1) c') (k + 1) (rowsT (fun _ => 0) E M k ++ nt5 0 x l)) (hb : (Value.slice a k c).ownBlock = some b ∨ W1.heap.size ≤ b) :
    OT W' B 0 (fun _ => false) (k + 1) (fun _ => 0) (fun i => if i = k then x else E i) (fun i => if i = k then l else M i) (.slice none 0 0) (.slice (some ⟨b, 0, none⟩) (k + 1) c') :=
  (h.item (o := 0) (iv' := .slice (some ⟨b, 0, none⟩) (k + 1) c') hN hB hg hown fun q hq => by
    have e : b = q := by simpa [Value.ownBlock] using hq
    subst e; exact hb).ext fun i hi => ⟨rfl, rfl⟩

theorem GT.item {W0 : World} {V : Nat} {now : Int} {k : Nat} {a : Option Addr} {c : Nat} {E : Nat → Nd} {M : Nat → Loc} {W W1 W' : World} (h : GT W0 V now k a c E M W) {x : Nd} {l : Loc} (hN : NewNn W x l W1) {b c' : Nat} (hg : W1.grownBy W' (Value.slice a k c).ownBlock)
    (hown : W'.ownsRow W0.heap.size 58 5 (.slice (some ⟨b, 0, none⟩) (k + 1) c') (k + 1) (rowsT (fun _ => 0) E M k ++ nt5 0 x l)) (hb : (Value.slice a k c).ownBlock = some b ∨ W1.heap.size ≤ b) :
    GT W0 V now (k + 1) (some ⟨b, 0, none⟩) c' (fun i => if i = k then x else E i) (fun i => if i = k then l else M i) (W'.setCell ⟨V, 0, none⟩ (.slice (some ⟨b, 0, none⟩) (k + 1) c')) := by
  have h1 := h.below hN.bel
  have hvl := h.vl
  have hne : (Value.slice a k c).ownBlock ≠ some V := fun e => by have := h.own _ e; omega
  have hg' : W0.grownBy W' (some V) := ⟨hg.os.trans h1.gr.os, hg.tape.trans h1.gr.tape, hg.output.trans h1.gr.output, Nat.le_trans h1.gr.size hg.size, fun q hq hqV => (hg.block q (Nat.lt_of_lt_of_le hq h1.gr.size) (fun e => by have := h.own _ e.symm; omega)).trans (h1.gr.block q hq hqV)⟩
  refine ⟨(blk_grown h1.v hg hne).set 0 _, ⟨hg'.os, hg'.tape, hg'.output, by have := hg'.size; simpa [World.setCell] using this, fun q hq hqV => (blk_setCell_other _ _ _ _ (show q ≠ V from fun e => hqV (by rw [e]))).trans (hg'.block q hq hqV)⟩, hvl, ?_⟩
  exact (h.ot.more hN h.size hg hown hb).off _ hvl

/-- A free place is new memory at once. -/
theorem new_zero (W : World) : NewNn W ndZero ⟨none, 0, none, 0⟩ W :=
  ⟨Below.refl _ _, World.ownsRow_nil _ _ _ _, World.ownsRow_nil _ _ _ _, fun b e => by simp [Value.ownBlock] at e⟩

theorem src_node (W : World) (d : Nd) (l : Loc) : Src (W.alloc (.cells #[.int .i64 d.kind, .string d.text, .slice l.nA d.nn l.nc, .slice l.kA d.kn l.kc, .int .i64 d.turn] 58)) 5 (.slice (some ⟨W.heap.size, 0, none⟩) 1 1) 1 (nt5 0 d l) :=
  ⟨rfl, nt5_one 0 d l, Or.inr ⟨⟨W.heap.size, 0, none⟩, 1, rfl, fun j u hu => by
    rw [addr_add, Nat.zero_add]
    have := (Blk.new W #[.int .i64 d.kind, .string d.text, .slice l.nA d.nn l.nc, .slice l.kA d.kn l.kc, .int .i64 d.turn] 58).cell j
    rw [this]
    simpa [nt5] using hu⟩⟩

theorem src_free (W : World) : Src (W.alloc (.cells #[.int .i64 0, .string ByteArray.empty, .slice none 0 0, .slice none 0 0, .int .i64 0] 58)) 5 (.slice (some ⟨W.heap.size, 0, none⟩) 1 1) 1 (nt5 0 ndZero ⟨none, 0, none, 0⟩) := src_node W ndZero ⟨none, 0, none, 0⟩

/-- The boxes of a tree and of what was kept, and the answer's. -/
structure On (w : World) (a : Option Addr) (n c : Nat) (now : Int) (d : Dp) (l : DLoc) (W : World) : Prop where
  p : Blk W w.heap.size #[.slice a n c, .int .i64 now] 33
  q : Blk W (w.heap.size + 1) #[.int .i64 d.since, .int .i64 d.date, .slice l.lA d.ln l.lc, .slice l.iA d.m l.ic] 39
  r : Blk W (w.heap.size + 1 + 1) #[.slice none 0 0, .int .i64 0] 33
  bel : Below w.heap.size w W

theorem On.below {w : World} {a : Option Addr} {n c : Nat} {now : Int} {d : Dp} {l : DLoc} {W W' : World} (h : On w a n c now d l W) (hb : Below W.heap.size W W') : On w a n c now d l W' := ⟨h.p.below hb h.p.lt, h.q.below hb h.q.lt, h.r.below hb h.r.lt, h.bel.trans (hb.mono h.bel.size)⟩

theorem On.cells {w : World} {a : Option Addr} {n c : Nat} {now : Int} {d : Dp} {l : DLoc} {W : World} (h : On w a n c now d l W) : (W.cell? ⟨w.heap.size, 0, none⟩ = some (.slice a n c) ∧ W.cell? ⟨w.heap.size, 1, none⟩ = some (.int .i64 now)) ∧
    (W.cell? ⟨w.heap.size + 1, 0, none⟩ = some (.int .i64 d.since) ∧ W.cell? ⟨w.heap.size + 1, 1, none⟩ = some (.int .i64 d.date) ∧ W.cell? ⟨w.heap.size + 1, 2, none⟩ = some (.slice l.lA d.ln l.lc) ∧ W.cell? ⟨w.heap.size + 1, 3, none⟩ = some (.slice l.iA d.m l.ic)) ∧
    W.cell? ⟨w.heap.size + 1 + 1, 0, none⟩ = some (.slice none 0 0) ∧ W.cell? ⟨w.heap.size + 1 + 1, 1, none⟩ = some (.int .i64 0) :=
  ⟨⟨h.p.cell 0, h.p.cell 1⟩, ⟨h.q.cell 0, h.q.cell 1, h.q.cell 2, h.q.cell 3⟩, h.r.cell 0, h.r.cell 1⟩

theorem On.of {w W0 : World} {a : Option Addr} {n c : Nat} {now : Int} {d : Dp} {l : DLoc} (h : On w a n c now d l W0) {V : Nat} {t : Int} {k : Nat} {b : Option Addr} {bc : Nat} {E : Nat → Nd} {M : Nat → Loc} {W : World} (g : GT W0 V t k b bc E M W) (hV : w.heap.size + 1 + 1 < V) : On w a n c now d l W :=
  ⟨h.p.of_block (g.keep h.p.lt (by omega)), h.q.of_block (g.keep h.q.lt (by omega)), h.r.of_block (g.keep h.r.lt (by omega)), h.bel.grown g.gr (by have := h.bel.size; omega) (fun j e => by have := Option.some.inj e; omega)⟩

theorem on3 (w : World) (a : Option Addr) (n c : Nat) (now : Int) (d : Dp) (l : DLoc) :
    On w a n c now d l (((w.alloc (.cells #[.slice a n c, .int .i64 now] 33)).alloc (.cells #[.int .i64 d.since, .int .i64 d.date, .slice l.lA d.ln l.lc, .slice l.iA d.m l.ic] 39)).alloc (.cells #[.slice none 0 0, .int .i64 0] 33)) := by
  obtain ⟨h0, h1, h2, hb, _⟩ := new3 w #[.slice a n c, .int .i64 now] 33 #[.int .i64 d.since, .int .i64 d.date, .slice l.lA d.ln l.lc, .slice l.iA d.m l.ic] 39 #[.slice none 0 0, .int .i64 0] 33
  exact ⟨h0, h1, h2, hb⟩

/-- What is known in l6One ahead of its loop. -/
structure On4 (w : World) (a : Option Addr) (n c : Nat) (now : Int) (d : Dp) (l : DLoc) (W : World) : Prop where
  on : On w a n c now d l W
  v : Blk W (w.heap.size + 1 + 1 + 1) #[.slice none 0 0, .int .i64 d.date] 33
  size : W.heap.size = w.heap.size + 4

theorem on4 (w : World) (a : Option Addr) (n c : Nat) (now : Int) (d : Dp) (l : DLoc) :
    On4 w a n c now d l ((((w.alloc (.cells #[.slice a n c, .int .i64 now] 33)).alloc (.cells #[.int .i64 d.since, .int .i64 d.date, .slice l.lA d.ln l.lc, .slice l.iA d.m l.ic] 39)).alloc (.cells #[.slice none 0 0, .int .i64 0] 33)).alloc (.cells #[.slice none 0 0, .int .i64 d.date] 33)) := by
  have h := on3 w a n c now d l
  refine ⟨h.below ((Below.refl _ _).alloc (Nat.le_refl _) _), ?_, by simp⟩
  have := Blk.new (((w.alloc (.cells #[.slice a n c, .int .i64 now] 33)).alloc (.cells #[.int .i64 d.since, .int .i64 d.date, .slice l.lA d.ln l.lc, .slice l.iA d.m l.ic] 39)).alloc (.cells #[.slice none 0 0, .int .i64 0] 33)) #[.slice none 0 0, .int .i64 d.date] 33
  simpa using this
end Go.Proofs.YtfdjfndpeeomkaaGreatDoor

/-
  What BackOne answers, in one word for both.
-/
namespace Go.Proofs.YtfdjfndpeeomkaaGreatDoor
open Go.RowKit Go.Deep
set_option linter.unusedVariables false
set_option linter.unusedSimpArgs false

/-- What it answers. -/
def BackPost (w : World) (n : Nat) (D : Nat → Nd) (now : Int) (d : Dp) (e : Ending) (w' : World) : Prop :=
  Below w.heap.size w w' ∧ ((backCode n D now d ≠ 0 ∧ e = .returned (.tuple #[.agg #[.slice none 0 0, .int .i64 0], .int .i64 (backCode n D now d)])) ∨
    (backCode n D now d = 0 ∧ ∃ b c M, e = .returned (.tuple #[.agg #[.slice b d.ln c, .int .i64 d.date], .int .i64 0]) ∧ OT w' w.heap.size 0 (fun _ => false) d.ln (fun _ => 0) (oneD (fromN n d) D d) M (.slice none 0 0) (.slice b d.ln c)))

/-- It ends with a code, of nothing. -/
theorem On.fail {w : World} {a : Option Addr} {n c : Nat} {now : Int} {d : Dp} {l : DLoc} {W : World} (h : On w a n c now d l W) {D : Nat → Nd} {z : Int} (hz : backCode n D now d = z) (h0 : z ≠ 0) :
    Blk ((W.setCell ⟨w.heap.size + 1 + 1, 0, none⟩ (.slice none 0 0)).setCell ⟨w.heap.size + 1 + 1, 1, none⟩ (.int .i64 0)) (w.heap.size + 1 + 1) #[.slice none 0 0, .int .i64 0] 33 ∧
      BackPost w n D now d (.returned (.tuple #[.agg #[.slice none 0 0, .int .i64 0], .int .i64 z])) ((W.setCell ⟨w.heap.size + 1 + 1, 0, none⟩ (.slice none 0 0)).setCell ⟨w.heap.size + 1 + 1, 1, none⟩ (.int .i64 0)) :=
  ⟨(h.r.set 0 _).set 1 _, bel_put (bel_put h.bel _ (by omega)) _ (by omega), Or.inl ⟨by rw [hz]; exact h0, by rw [hz]⟩⟩

theorem On.fine {w : World} {a : Option Addr} {n c : Nat} {now : Int} {d : Dp} {l : DLoc} {W : World} (h : On w a n c now d l W) {D : Nat → Nd} (hz : backCode n D now d = 0) {B : Nat} (hB : w.heap.size + 3 ≤ B) {b : Option Addr} {bc : Nat} {M : Nat → Loc} (hot : OT W B 0 (fun _ => false) d.ln (fun _ => 0) (oneD (fromN n d) D d) M (.slice none 0 0) (.slice b d.ln bc)) :
    Blk ((W.setCell ⟨w.heap.size + 1 + 1, 0, none⟩ (.slice b d.ln bc)).setCell ⟨w.heap.size + 1 + 1, 1, none⟩ (.int .i64 d.date)) (w.heap.size + 1 + 1) #[.slice b d.ln bc, .int .i64 d.date] 33 ∧
      BackPost w n D now d (.returned (.tuple #[.agg #[.slice b d.ln bc, .int .i64 d.date], .int .i64 0])) ((W.setCell ⟨w.heap.size + 1 + 1, 0, none⟩ (.slice b d.ln bc)).setCell ⟨w.heap.size + 1 + 1, 1, none⟩ (.int .i64 d.date)) :=
  ⟨(h.r.set 0 _).set 1 _, bel_put (bel_put h.bel _ (by omega)) _ (by omega), Or.inr ⟨hz, b, bc, M, rfl, OT.lower ((hot.off _ (by omega)).off _ (by omega)) (by omega)⟩⟩

/-- .. with a block more behind. -/
theorem On.failA {w : World} {a : Option Addr} {n c : Nat} {now : Int} {d : Dp} {l : DLoc} {W : World} (h : On w a n c now d l W) {D : Nat → Nd} {z : Int} (hz : backCode n D now d = z) (h0 : z ≠ 0) (o : Obj) :
    Blk (((W.setCell ⟨w.heap.size + 1 + 1, 0, none⟩ (.slice none 0 0)).setCell ⟨w.heap.size + 1 + 1, 1, none⟩ (.int .i64 0)).alloc o) (w.heap.size + 1 + 1) #[.slice none 0 0, .int .i64 0] 33 ∧
      BackPost w n D now d (.returned (.tuple #[.agg #[.slice none 0 0, .int .i64 0], .int .i64 z])) (((W.setCell ⟨w.heap.size + 1 + 1, 0, none⟩ (.slice none 0 0)).setCell ⟨w.heap.size + 1 + 1, 1, none⟩ (.int .i64 0)).alloc o) := by
  obtain ⟨h1, h2, h3⟩ := h.fail (D := D) hz h0
  exact ⟨h1.alloc o, h2.alloc h2.size o, h3.imp id fun ⟨e, _⟩ => absurd (hz.symm.trans e) h0⟩

theorem On.fineA {w : World} {a : Option Addr} {n c : Nat} {now : Int} {d : Dp} {l : DLoc} {W : World} (h : On w a n c now d l W) {D : Nat → Nd} (hz : backCode n D now d = 0) {B : Nat} (hB : w.heap.size + 3 ≤ B) {b : Option Addr} {bc : Nat} {M : Nat → Loc} (hot : OT W B 0 (fun _ => false) d.ln (fun _ => 0) (oneD (fromN n d) D d) M (.slice none 0 0) (.slice b d.ln bc)) (o : Obj) :
    Blk (((W.setCell ⟨w.heap.size + 1 + 1, 0, none⟩ (.slice b d.ln bc)).setCell ⟨w.heap.size + 1 + 1, 1, none⟩ (.int .i64 d.date)).alloc o) (w.heap.size + 1 + 1) #[.slice b d.ln bc, .int .i64 d.date] 33 ∧
      BackPost w n D now d (.returned (.tuple #[.agg #[.slice b d.ln bc, .int .i64 d.date], .int .i64 0])) (((W.setCell ⟨w.heap.size + 1 + 1, 0, none⟩ (.slice b d.ln bc)).setCell ⟨w.heap.size + 1 + 1, 1, none⟩ (.int .i64 d.date)).alloc o) := by
  obtain ⟨h1, h2, _⟩ := h.fine (D := D) hz hB hot
  exact ⟨h1.alloc o, h2.alloc h2.size o, Or.inr ⟨hz, b, bc, M, rfl, OT.below (OT.lower ((hot.off _ (by omega)).off _ (by omega)) (by omega)) ((Below.refl _ _).alloc (Nat.le_refl _) _)⟩⟩

theorem ok_since {d : Dp} (h : d.ok = true) : 0 ≤ d.since := by
  unfold Dp.ok headIn at h
  simp at h
  omega

theorem fromN_some {n : Nat} {d : Dp} (h : 0 < d.since) : fromN n d = n := by unfold fromN; rw [if_neg (by omega)]
theorem fromN_none {n : Nat} {d : Dp} (h : d.since = 0) : fromN n d = 0 := by unfold fromN; rw [if_pos h]
end Go.Proofs.YtfdjfndpeeomkaaGreatDoor

/-
  What l6One of the specification answers: a tree that is brought back, place by place.
-/
namespace Go.Proofs.YtfdjfndpeeomkaaGreatDoor
open Go.RowKit Go.Deep
set_option linter.unusedVariables false
set_option linter.unusedSimpArgs false
set_option linter.unnecessarySimpa false

/-- What it answers. -/
def OnePost (w : World) (n : Nat) (D : Nat → Nd) (d : Dp) (e : Ending) (w' : World) : Prop :=
  Below w.heap.size w w' ∧ (((∃ i, i < d.ln ∧ oneNd n D d i = none) ∧ e = .returned (.tuple #[.agg #[.slice none 0 0, .int .i64 0], .bool false])) ∨
    ((∀ i, i < d.ln → oneNd n D d i ≠ none) ∧ ∃ r : Bool, (r = true ↔ TreeGood d.ln (oneD n D d) d.date) ∧ ∃ b c M, e = .returned (.tuple #[.agg #[.slice b d.ln c, .int .i64 d.date], .bool r]) ∧ OT w' w.heap.size 0 (fun _ => false) d.ln (fun _ => 0) (oneD n D d) M (.slice none 0 0) (.slice b d.ln c)))

/-- What has come is what is to come. -/
theorem one_ext {n : Nat} {D : Nat → Nd} {d : Dp} {k : Nat} {E : Nat → Nd} {x : Nd} (h : ∀ i, i < k → oneNd n D d i = some (E i)) (hx : oneNd n D d k = some x) : ∀ i, i < k + 1 → oneNd n D d i = some ((fun i => if i = k then x else E i) i) := fun i hi => by
  by_cases e : i = k
  · subst e; simp [hx]
  · simp only [e, if_false]; exact h i (by omega)

theorem one_done {n : Nat} {D : Nat → Nd} {d : Dp} {k : Nat} {E : Nat → Nd} (h : ∀ i, i < k → oneNd n D d i = some (E i)) : ∀ i, i < k → oneD n D d i = E i := fun i hi => by unfold oneD; rw [h i hi]; rfl

set_option maxRecDepth 100000 in
set_option maxHeartbeats 8000000 in
theorem l6One_any (a : Option Addr) (n c : Nat) (now : Int) (D : Nat → Nd) (L : Nat → Loc) (d : Dp) (l : DLoc) (w : World) (hS : IsNds w a n D L) (hD : DpIn w d l) (hok : d.ok = true) (hn : n ≤ 10) (hf : FitAll n D) (hfd : d.Fits) (hsz : sizeTo D n + sizeTo d.nd d.m ≤ 1048576) :
    Calls Tryz.prog 55 #[trV a n c now, dpV d l] w (OnePost w n D d) := by
  unfold trV dpV
  obtain ⟨y0, hy, hy0, hy1, hy2⟩ := info_parts infoNode
  obtain ⟨hln1, hln10⟩ := ok_head1 hok
  have hm10 := m_small hok
  have hmx : d.m ≤ maxLen := hfd.m
  have htS := tr_small (show sizeTo D n ≤ 1048576 by omega)
  have htd := tr_small (show sizeTo d.nd d.m ≤ 1048576 by omega)
  have HSZ : Hid (sizeTo (oneD n D d) d.ln ≤ 1048576 ∧ FitAll d.ln (oneD n D d)) := ⟨by have := one_small (n := n) (D := D) hok; omega, oneD_fits hf hfd _⟩
  go_enter Tryz.func55, Tryz.ntmps55
  go_wp2_with fail
  refine wp_world (F := On4 w a n c now d l) (on4 w a n c now d l) ?_
  rintro W0 hO
  have HO : Hid (On4 w a n c now d l W0) := hO
  have hs0 : w.heap.size + 4 ≤ W0.heap.size := by have := hO.size; omega
  have HG : Hid (GT W0 (w.heap.size + 1 + 1 + 1) d.date 0 none 0 (fun _ => ndZero) (fun _ => ⟨none, 0, none, 0⟩) W0) := GT.start hO.v _ _
  clear hO
  go_loopw [7] (fun i wr => ∃ (k : Nat) (b : Option Addr) (bc : Nat) (E : Nat → Nd) (M : Nat → Loc), k ≤ d.ln ∧ i = .int .i64 k ∧ GT W0 (w.heap.size + 1 + 1 + 1) d.date k b bc E M wr ∧ ∀ i, i < k → oneNd n D d i = some (E i)) (fun i _ => d.ln - (intOf i).toNat)
  case atStart => exact ⟨0, none, 0, _, _, Nat.zero_le _, rfl, HG.out, fun i hi => absurd hi (Nat.not_lt_zero _)⟩
  case round =>
    obtain ⟨k, b, bc, E, M, hk, rfl, hin, hsel⟩ := hrel
    have HIN : Hid (GT W0 (w.heap.size + 1 + 1 + 1) d.date k b bc E M wr ∧ ∀ i, i < k → oneNd n D d i = some (E i)) := ⟨hin, hsel⟩
    have HT : Hid (On w a n c now d l wr) := HO.out.on.of hin (by omega)
    have hsw : w.heap.size + 4 ≤ wr.heap.size := by have := hin.size; omega
    clear hin hsel
    obtain ⟨⟨p0, p1⟩, ⟨q0, q1, q2, q3⟩, r0, r1⟩ := HT.out.cells
    have v0 : wr.cell? ⟨w.heap.size + 1 + 1 + 1, 0, none⟩ = some (.slice b k bc) := HIN.out.1.v.cell 0
    have v1 : wr.cell? ⟨w.heap.size + 1 + 1 + 1, 1, none⟩ = some (.int .i64 d.date) := HIN.out.1.v.cell 1
    by_cases hlt : k < d.ln
    · have hlti : (k : Int) < (d.ln : Int) := by omega
      go_wp2_with fail
      refine (l6Item_any d l k wr (hD.below (Nat.le_refl _) HT.out.bel) hmx (ok_inj hok)).mono ?_
      rintro e W4 ⟨hb4, rfl⟩
      have H4 : Hid (On w a n c now d l W4 ∧ GT W0 (w.heap.size + 1 + 1 + 1) d.date k b bc E M W4) := ⟨HT.out.below hb4, HIN.out.1.below hb4⟩
      have hs4 : w.heap.size + 4 ≤ W4.heap.size := by have := hb4.size; omega
      clear hb4 p0 p1 q0 q1 q2 q3 r0 r1 v0 v1
      obtain ⟨⟨p0, p1⟩, ⟨q0, q1, q2, q3⟩, r0, r1⟩ := H4.out.1.cells
      have v0 : W4.cell? ⟨w.heap.size + 1 + 1 + 1, 0, none⟩ = some (.slice b k bc) := H4.out.2.v.cell 0
      have v1 : W4.cell? ⟨w.heap.size + 1 + 1 + 1, 1, none⟩ = some (.int .i64 d.date) := H4.out.2.v.cell 1
      have f0 := H4.out.2.v.frozen 0
      obtain ⟨bL, oL, hL, hLl, hLc⟩ := (hD.live.below (Nat.le_refl _) H4.out.1.bel).at hlt
      have hL0 := hLc k hlt
      rw [hL] at q2
      clear hL hLc
      generalize hzb : ixI (ixOf d.ino d.m (k : Int)) = zb
      have HZB : Hid _ := hzb
      clear hzb
      cases hlv : d.live k with
      | false =>
        rw [hlv] at hL0
        have HX : Hid (oneNd n D d k = some ndZero) := by show _ = _; unfold oneNd; rw [hlv]; rfl
        clear hlv
        go_wp2_with (at_builtin; go_must (refine wpList_append_src (by rfl) _ _ 31 rfl W0.heap.size 58 y0 (.agg #[.int .i64 0, .string ByteArray.empty, .slice none 0 0, .slice none 0 0, .int .i64 0]) 5 80 Tryz.underlying31 hy hy0 hy1 hy2 rfl (by decide) (.slice b k bc) k (rowsT (fun _ => 0) E M k) (by rfl) (H4.out.2.ot.ownI.alloc _) _ 1 _ (by rfl) (src_free W4) (by unfold maxLen; omega) (by omega) (by have := H4.out.2.size; simp; omega) ?_))
        intro vI W7 hown hgrow hnil hat
        rcases hown.2 with ⟨_, h0⟩ | ⟨gI, cI, cur, hvI, _, _, _⟩
        · omega
        subst hvI
        have hbI : (Value.slice b k bc).ownBlock = some gI ∨ (W4.alloc (.cells #[.int .i64 0, .string ByteArray.empty, .slice none 0 0, .slice none 0 0, .int .i64 0] 58)).heap.size ≤ gI := by
          rcases hat with e | e
          · exact Or.inl e.symm
          · right
            have e' : gI = (W4.alloc (.cells #[.int .i64 0, .string ByteArray.empty, .slice none 0 0, .slice none 0 0, .int .i64 0] 58)).heap.size := by simpa [Value.ownBlock] using e
            omega
        have hN6 := (new_zero W4).alloc (.cells #[.int .i64 0, .string ByteArray.empty, .slice none 0 0, .slice none 0 0, .int .i64 0] 58)
        have H8 : Hid _ := H4.out.2.item hN6 hgrow hown hbI
        have hneV : (Value.slice b k bc).ownBlock ≠ some (w.heap.size + 1 + 1 + 1) := fun e => by have := H4.out.2.own _ e; omega
        have hV7 := blk_grown (H4.out.2.v.alloc _) hgrow hneV
        have v07 : W7.cell? ⟨w.heap.size + 1 + 1 + 1, 0, none⟩ = some (.slice b k bc) := hV7.cell 0
        have f07 := hV7.frozen 0
        clear hown hgrow hnil hat hbI hV7 hN6 hneV p0 p1 q0 q1 q2 q3 r0 r1 v0 v1 f0
        go_wp2_with fail
        go_roundw
        case rel => exact ⟨k + 1, some ⟨gI, 0, none⟩, cI, _, _, by omega, by go_num, H8.out, one_ext HIN.out.2 HX.out⟩
        case measure => simp [intOf]; omega
      | true =>
        rw [hlv] at hL0
        have HLV : Hid (d.live k = true) := hlv
        clear hlv
        cases hob : ixOf d.ino d.m (k : Int) with
        | some j =>
          have hz := HZB.out
          rw [hob] at hz
          subst hz
          have hj : j < d.m := (ixOf_some hob).1
          have HX : Hid (oneNd n D d k = some (d.nd j)) := by show _ = _; unfold oneNd; rw [HLV.out, hob]; rfl
          have hj0 : (0 : Int) ≤ ixI (some j) := by show (0 : Int) ≤ (j : Int); omega
          clear hob HZB
          simp only [ixI] at hj0 ⊢
          go_wp2_with fail
          have HW : Hid (∃ bI oI, bI < w.heap.size ∧ ∀ W', Below W4.heap.size W4 W' → (W'.cell? ⟨w.heap.size + 1 + 1 + 1, 0, none⟩ = some (.slice b k bc) ∧ W'.cell? ⟨w.heap.size + 1, 3, none⟩ = some (.slice (some ⟨bI, oI, none⟩) d.m l.ic) ∧ W'.cell? ⟨bI, oI + j * 6 + 1, none⟩ = some (.int .i64 (d.nd j).kind) ∧ W'.cell? ⟨bI, oI + j * 6 + 1 + 1, none⟩ = some (.string (d.nd j).text) ∧ W'.cell? ⟨bI, oI + j * 6 + 1 + 2, none⟩ = some (.slice (l.L j).nA (d.nd j).nn (l.L j).nc) ∧ W'.cell? ⟨bI, oI + j * 6 + 1 + 3, none⟩ = some (.slice (l.L j).kA (d.nd j).kn (l.L j).kc) ∧ W'.cell? ⟨bI, oI + j * 6 + 1 + 4, none⟩ = some (.int .i64 (d.nd j).turn)) ∧ NdIn W' (d.nd j) (l.L j)) := by
            show ∃ _, _
            obtain ⟨bI, oI, hQ, hbl, _⟩ := hD.items.at hj
            refine ⟨bI, oI, by omega, fun W' hW => ?_⟩
            have hcc := (H4.out.1.below hW).cells
            have hv3 : W'.cell? ⟨w.heap.size + 1 + 1 + 1, 0, none⟩ = some (.slice b k bc) := (H4.out.2.below hW).v.cell 0
            obtain ⟨bI', oI', hQ', _, hc'⟩ := ((hD.items.below (Nat.le_refl _) H4.out.1.bel).below (Nat.le_refl _) hW).at hj
            obtain ⟨d0, d1, d2, d3, d4, d5, d6⟩ := hc' j hj
            rw [hQ] at hQ'
            cases hQ'
            refine ⟨⟨hv3, ?_, d1, d2, d3, d4, d5⟩, d6⟩
            rw [← hQ]
            exact hcc.2.1.2.2.2
          obtain ⟨bI, oI, hbIl, hSt⟩ := HW.out
          have HSt : Hid _ := hSt
          have hsm := htd j hj
          have hji : (j : Int) < (d.m : Int) := by omega
          clear p0 p1 q0 q1 q2 q3 r0 r1 v0 v1 f0 hSt HW hL0
          have hd5 : Below W4.heap.size W4 W4.drew := below_drewN (Below.refl _ _) 1
          refine wp_region_noPanic ?_
          refine wp_region_peel2 (fun W' => W'.cell? ⟨w.heap.size + 1 + 1 + 1, 0, none⟩ = some (.slice b k bc) ∧ W'.cell? ⟨w.heap.size + 1, 3, none⟩ = some (.slice (some ⟨bI, oI, none⟩) d.m l.ic) ∧ W'.cell? ⟨bI, oI + j * 6 + 1, none⟩ = some (.int .i64 (d.nd j).kind) ∧ W'.cell? ⟨bI, oI + j * 6 + 1 + 1, none⟩ = some (.string (d.nd j).text) ∧ W'.cell? ⟨bI, oI + j * 6 + 1 + 2, none⟩ = some (.slice (l.L j).nA (d.nd j).nn (l.L j).nc) ∧ W'.cell? ⟨bI, oI + j * 6 + 1 + 3, none⟩ = some (.slice (l.L j).kA (d.nd j).kn (l.L j).kc) ∧ W'.cell? ⟨bI, oI + j * 6 + 1 + 4, none⟩ = some (.int .i64 (d.nd j).turn)) _ _ (by kernel_rfl) rfl rfl (by kernel_rfl) (by kernel_rfl) ?_ (fun hHeld => ?_)
          · exact (HSt.out _ hd5).1
          simp only [List.pop_toArray, List.dropLast, List.size_toArray, List.length_cons, List.length_nil, Nat.reduceAdd, Nat.reduceSub, List.getElem_toArray, List.getElem_cons_succ, List.getElem_cons_zero]
          refine peel_take (i := 0) (oi := ?oi0x) (v := ?v0x) (fun _ _ _ _ _ h => h) hHeld ?hi0x (by kernel_rfl) (by kernel_rfl) (by kernel_rfl) ?hw0x ?hy0x ?rest0x
          case hi0x =>
            simp only [List.getElem?_toArray, List.getElem?_cons_zero]
            rfl
          case hw0x => rfl
          case hy0x =>
            intro w hSw
            obtain ⟨s0, s1, s2, s3, s4, s5, s6⟩ := hSw
            go_simp
            try with_reducible rfl
          try simp only [Act.put, List.setIfInBounds_toArray, List.set_cons_zero, List.set_cons_succ]
          refine peel_take (i := 1) (oi := ?oi1x) (v := ?v1x) (fun _ _ _ _ _ h => h) hHeld ?hi1x (by kernel_rfl) (by kernel_rfl) (by kernel_rfl) ?hw1x ?hy1x ?rest1x
          case hi1x =>
            simp only [List.getElem?_toArray, List.getElem?_cons_succ, List.getElem?_cons_zero]
            rfl
          case hw1x => rfl
          case hy1x =>
            intro w hSw
            obtain ⟨s0, s1, s2, s3, s4, s5, s6⟩ := hSw
            go_simp
            try with_reducible rfl
          try simp only [Act.put, List.setIfInBounds_toArray, List.set_cons_zero, List.set_cons_succ]
          refine peel_take (i := 2) (oi := ?oi2x) (v := ?v2x) (fun _ _ _ _ _ h => h) hHeld ?hi2x (by kernel_rfl) (by kernel_rfl) (by kernel_rfl) ?hw2x ?hy2x ?rest2x
          case hi2x =>
            simp only [List.getElem?_toArray, List.getElem?_cons_succ, List.getElem?_cons_zero]
            rfl
          case hw2x => rfl
          case hy2x =>
            intro w hSw
            obtain ⟨s0, s1, s2, s3, s4, s5, s6⟩ := hSw
            go_simp
            try with_reducible rfl
          try simp only [Act.put, List.setIfInBounds_toArray, List.set_cons_zero, List.set_cons_succ]
          refine peel_take (i := 3) (oi := ?oi3x) (v := ?v3x) (fun _ _ _ _ _ h => h) hHeld ?hi3x (by kernel_rfl) (by kernel_rfl) (by kernel_rfl) ?hw3x ?hy3x ?rest3x
          case hi3x =>
            simp only [List.getElem?_toArray, List.getElem?_cons_succ, List.getElem?_cons_zero]
            rfl
          case hw3x => rfl
          case hy3x =>
            intro w hSw
            obtain ⟨s0, s1, s2, s3, s4, s5, s6⟩ := hSw
            go_simp
            try with_reducible rfl
          try simp only [Act.put, List.setIfInBounds_toArray, List.set_cons_zero, List.set_cons_succ]
          refine peel_take (i := 4) (oi := ?oi4x) (v := ?v4x) (fun _ _ _ _ _ h => h) hHeld ?hi4x (by kernel_rfl) (by kernel_rfl) (by kernel_rfl) ?hw4x ?hy4x ?rest4x
          case hi4x =>
            simp only [List.getElem?_toArray, List.getElem?_cons_succ, List.getElem?_cons_zero]
            rfl
          case hw4x => rfl
          case hy4x =>
            intro w hSw
            obtain ⟨s0, s1, s2, s3, s4, s5, s6⟩ := hSw
            go_simp
            try with_reducible rfl
          try simp only [Act.put, List.setIfInBounds_toArray, List.set_cons_zero, List.set_cons_succ]
          refine peel_take (i := 5) (oi := ?oi5x) (v := ?v5x) (fun _ _ _ _ _ h => h) hHeld ?hi5x (by kernel_rfl) (by kernel_rfl) (by kernel_rfl) ?hw5x ?hy5x ?rest5x
          case hi5x =>
            simp only [List.getElem?_toArray, List.getElem?_cons_succ, List.getElem?_cons_zero]
            rfl
          case hw5x => rfl
          case hy5x =>
            intro w hSw
            obtain ⟨s0, s1, s2, s3, s4, s5, s6⟩ := hSw
            go_simp
            try with_reducible rfl
          try simp only [Act.put, List.setIfInBounds_toArray, List.set_cons_zero, List.set_cons_succ]
          refine peel_take (i := 6) (oi := ?oi6x) (v := ?v6x) (fun _ _ _ _ _ h => h) hHeld ?hi6x (by kernel_rfl) (by kernel_rfl) (by kernel_rfl) ?hw6x ?hy6x ?rest6x
          case hi6x =>
            simp only [List.getElem?_toArray, List.getElem?_cons_succ, List.getElem?_cons_zero]
            rfl
          case hw6x => rfl
          case hy6x =>
            intro w hSw
            obtain ⟨s0, s1, s2, s3, s4, s5, s6⟩ := hSw
            go_simp
            try with_reducible rfl
          try simp only [Act.put, List.setIfInBounds_toArray, List.set_cons_zero, List.set_cons_succ]
          refine peel_take (i := 7) (oi := ?oi7x) (v := ?v7x) (fun _ _ _ _ _ h => h) hHeld ?hi7x (by kernel_rfl) (by kernel_rfl) (by kernel_rfl) ?hw7x ?hy7x ?rest7x
          case hi7x =>
            simp only [List.getElem?_toArray, List.getElem?_cons_succ, List.getElem?_cons_zero]
            rfl
          case hw7x => rfl
          case hy7x =>
            intro w hSw
            obtain ⟨s0, s1, s2, s3, s4, s5, s6⟩ := hSw
            go_simp
            try with_reducible rfl
          try simp only [Act.put, List.setIfInBounds_toArray, List.set_cons_zero, List.set_cons_succ]
          refine wpAnyH_ready (rs := [8]) (by kernel_rfl) (by simp) ?_
          refine AllReadyH.cons (o := ?o8x) ?ho8x (fun K hK => ?st8x) AllReadyH.nil
          case ho8x =>
            simp only [List.getElem?_toArray, List.getElem?_cons_succ, List.getElem?_cons_zero]
            rfl
          go_simp
          refine (l2Copy_any (d.nd j) (l.L j) W4.drew (HSt.out _ hd5).2 hsm.1 hsm.2.1).mono ?_
          rintro e W6 ⟨l5, rfl, hN5⟩
          unfold ndV
          have hb6 : Below W4.heap.size W4 W6 := hd5.trans hN5.bel
          refine hK.out _ _ (HSt.out W6 hb6).1 (fun hHeld => ?re8x)
          clear hK K
          try simp only [Act.put, List.setIfInBounds_toArray, List.set_cons_zero, List.set_cons_succ]
          refine wpAnyH_ready (rs := [9]) (by kernel_rfl) (by simp) ?_
          refine AllReadyH.cons (o := ?o9x) ?ho9x (fun K hK => ?st9x) AllReadyH.nil
          case ho9x =>
            simp only [List.getElem?_toArray, List.getElem?_cons_succ, List.getElem?_cons_zero]
            rfl
          go_simp
          have hb7 : Below W4.heap.size W4 (W6.alloc (.cells #[.int .i64 (d.nd j).kind, .string (d.nd j).text, .slice l5.nA (d.nd j).nn l5.nc, .slice l5.kA (d.nd j).kn l5.kc, .int .i64 (d.nd j).turn] 58)) := hb6.alloc hb6.size _
          refine hK.out _ _ (HSt.out _ hb7).1 (fun hHeld => ?re9x)
          clear hK K
          try simp only [Act.put, List.setIfInBounds_toArray, List.set_cons_zero, List.set_cons_succ]
          refine wpAnyH_ready (rs := [10]) (by kernel_rfl) (by simp) ?_
          refine AllReadyH.cons (o := ?o10x) ?ho10x (fun K hK => ?st10x) AllReadyH.nil
          case ho10x =>
            simp only [List.getElem?_toArray, List.getElem?_cons_succ, List.getElem?_cons_zero]
            rfl
          have hD6 := H4.out.2.below hb7
          have hN6 := hN5.new.alloc (.cells #[.int .i64 (d.nd j).kind, .string (d.nd j).text, .slice l5.nA (d.nd j).nn l5.nc, .slice l5.kA (d.nd j).kn l5.kc, .int .i64 (d.nd j).turn] 58)
          have hneV : (Value.slice b k bc).ownBlock ≠ some (w.heap.size + 1 + 1 + 1) := fun e => by have := H4.out.2.own _ e; omega
          have hbo5 : ∀ q, (Value.slice b k bc).ownBlock = some q → W0.heap.size ≤ q := fun q e => (H4.out.2.own q e).1
          refine step_of (by rfl) (wp_append_src (.tmp 40) (.tmp 48) 31 rfl W0.heap.size 58 y0 (.agg #[.int .i64 0, .string ByteArray.empty, .slice none 0 0, .slice none 0 0, .int .i64 0]) 5 80 Tryz.underlying31 hy hy0 hy1 hy2 rfl (by decide) (.slice b k bc) k _ (by rfl) hD6.ot.ownI _ 1 _ (by rfl) (src_node W6 (d.nd j) l5) (by unfold maxLen; omega) (by omega) (by have := hb7.size; have := H4.out.2.size; omega) ?_)
          intro vI W7 hown hgrow hnil hat
          rcases hown.2 with ⟨_, h0⟩ | ⟨gI, cI, cur, hvI, _, _, _⟩
          · omega
          subst hvI
          have hbI : (Value.slice b k bc).ownBlock = some gI ∨ (W6.alloc (.cells #[.int .i64 (d.nd j).kind, .string (d.nd j).text, .slice l5.nA (d.nd j).nn l5.nc, .slice l5.kA (d.nd j).kn l5.kc, .int .i64 (d.nd j).turn] 58)).heap.size ≤ gI := by
            rcases hat with e | e
            · exact Or.inl e.symm
            · right
              have e' : gI = (W6.alloc (.cells #[.int .i64 (d.nd j).kind, .string (d.nd j).text, .slice l5.nA (d.nd j).nn l5.nc, .slice l5.kA (d.nd j).kn l5.kc, .int .i64 (d.nd j).turn] 58)).heap.size := by simpa [Value.ownBlock] using e
              omega
          have hV7 := blk_grown hD6.v hgrow hneV
          have hHeld7 : W7.cell? ⟨w.heap.size + 1 + 1 + 1, 0, none⟩ = some (.slice b k bc) ∧ W7.cell? ⟨w.heap.size + 1, 3, none⟩ = some (.slice (some ⟨bI, oI, none⟩) d.m l.ic) ∧ W7.cell? ⟨bI, oI + j * 6 + 1, none⟩ = some (.int .i64 (d.nd j).kind) ∧ W7.cell? ⟨bI, oI + j * 6 + 1 + 1, none⟩ = some (.string (d.nd j).text) ∧ W7.cell? ⟨bI, oI + j * 6 + 1 + 2, none⟩ = some (.slice (l.L j).nA (d.nd j).nn (l.L j).nc) ∧ W7.cell? ⟨bI, oI + j * 6 + 1 + 3, none⟩ = some (.slice (l.L j).kA (d.nd j).kn (l.L j).kc) ∧ W7.cell? ⟨bI, oI + j * 6 + 1 + 4, none⟩ = some (.int .i64 (d.nd j).turn) := by
            obtain ⟨e0, e1, e2, e3, e4, e5, e6⟩ := (HSt.out _ hb7).1
            have hlow : ∀ q o v, q < W0.heap.size → (W6.alloc (.cells #[.int .i64 (d.nd j).kind, .string (d.nd j).text, .slice l5.nA (d.nd j).nn l5.nc, .slice l5.kA (d.nd j).kn l5.kc, .int .i64 (d.nd j).turn] 58)).cell? ⟨q, o, none⟩ = some v → W7.cell? ⟨q, o, none⟩ = some v := fun q o v hq h => hgrow.cell h (fun e => by have := hbo5 q e.symm; omega)
            exact ⟨hV7.cell 0, hlow _ _ _ (by omega) e1, hlow _ _ _ (by omega) e2, hlow _ _ _ (by omega) e3, hlow _ _ _ (by omega) e4, hlow _ _ _ (by omega) e5, hlow _ _ _ (by omega) e6⟩
          have H8 : Hid _ := (H4.out.2.below hd5).item hN6 hgrow hown hbI
          have v07 : W7.cell? ⟨w.heap.size + 1 + 1 + 1, 0, none⟩ = some (.slice b k bc) := hV7.cell 0
          have f07 := hV7.frozen 0
          refine hK.out _ _ hHeld7 (fun hHeld => ?re10x)
          clear hK K
          try simp only [Act.put, List.setIfInBounds_toArray, List.set_cons_zero, List.set_cons_succ]
          refine wpAnyH_done (by kernel_rfl) ?_ _
          show Oper.wp _ _ _ _ _ _
          clear hown hgrow hnil hat hbI hV7 hHeld7 hN6 hD6 hN5 HSt hneV hHeld hd5 hb6 hb7 hsm hbo5
          go_simp
          show Oper.wp _ _ _ _ _ _
          go_simp
          refine NoPanic.normal ?_
          go_wp2_with fail
          go_roundw
          case rel => exact ⟨k + 1, some ⟨gI, 0, none⟩, cI, _, _, by omega, by go_num, H8.out, one_ext HIN.out.2 HX.out⟩
          case measure => simp [intOf]; omega
        | none =>
          have hz := HZB.out
          rw [hob] at hz
          subst hz
          simp only [ixI]
          by_cases hfr : k < n ∧ (D k).kind ≠ 0
          · obtain ⟨hkn, hkk⟩ := hfr
            have HX : Hid (oneNd n D d k = some (D k)) := by show _ = _; unfold oneNd; rw [HLV.out, hob]; simp [hkn, hkk]
            have hkni : (k : Int) < (n : Int) := by omega
            have hkb : ((D k).kind != 0) = true := by simp [hkk]
            obtain ⟨bT, oT, hT, hTl, hTc⟩ := (hS.below (Nat.le_refl _) H4.out.1.bel).at hkn
            have hT0 := (hTc k hkn).1
            have HTA : Hid (a = some ⟨bT, oT, none⟩) := hT
            rw [hT] at p0
            clear hob HZB hkk hT hTc
            go_wp2_with fail
            have HW : Hid (bT < w.heap.size ∧ ∀ W', Below W4.heap.size W4 W' → (W'.cell? ⟨w.heap.size + 1 + 1 + 1, 0, none⟩ = some (.slice b k bc) ∧ W'.cell? ⟨w.heap.size, 0, none⟩ = some (.slice (some ⟨bT, oT, none⟩) n c) ∧ W'.cell? ⟨bT, oT + k * 5, none⟩ = some (.int .i64 (D k).kind) ∧ W'.cell? ⟨bT, oT + k * 5 + 1, none⟩ = some (.string (D k).text) ∧ W'.cell? ⟨bT, oT + k * 5 + 2, none⟩ = some (.slice (L k).nA (D k).nn (L k).nc) ∧ W'.cell? ⟨bT, oT + k * 5 + 3, none⟩ = some (.slice (L k).kA (D k).kn (L k).kc) ∧ W'.cell? ⟨bT, oT + k * 5 + 4, none⟩ = some (.int .i64 (D k).turn)) ∧ NdIn W' (D k) (L k)) := by
              show _ ∧ _
              obtain ⟨bI, oI, hQ, hbl, _⟩ := hS.at hkn
              have hQT := HTA.out
              rw [hQ] at hQT
              obtain ⟨rfl, rfl⟩ : bI = bT ∧ oI = oT := by cases hQT; exact ⟨rfl, rfl⟩
              refine ⟨by omega, fun W' hW => ?_⟩
              have hcc := (H4.out.1.below hW).cells
              have hv3 : W'.cell? ⟨w.heap.size + 1 + 1 + 1, 0, none⟩ = some (.slice b k bc) := (H4.out.2.below hW).v.cell 0
              obtain ⟨bI', oI', hQ', _, hc'⟩ := ((hS.below (Nat.le_refl _) H4.out.1.bel).below (Nat.le_refl _) hW).at hkn
              obtain ⟨d1, d2, d3, d4, d5, d6⟩ := hc' k hkn
              rw [hQ] at hQ'
              cases hQ'
              refine ⟨⟨hv3, ?_, d1, d2, d3, d4, d5⟩, d6⟩
              rw [← hQ]
              exact hcc.1.1
            obtain ⟨hbIl, hSt⟩ := HW.out
            have HSt : Hid _ := hSt
            have hsm := htS k hkn

            clear p0 p1 q0 q1 q2 q3 r0 r1 v0 v1 f0 hSt HW hL0 hT0
            have hd5 : Below W4.heap.size W4 W4.drew := below_drewN (Below.refl _ _) 1
            refine wp_region_noPanic ?_
            refine wp_region_peel2 (fun W' => W'.cell? ⟨w.heap.size + 1 + 1 + 1, 0, none⟩ = some (.slice b k bc) ∧ W'.cell? ⟨w.heap.size, 0, none⟩ = some (.slice (some ⟨bT, oT, none⟩) n c) ∧ W'.cell? ⟨bT, oT + k * 5, none⟩ = some (.int .i64 (D k).kind) ∧ W'.cell? ⟨bT, oT + k * 5 + 1, none⟩ = some (.string (D k).text) ∧ W'.cell? ⟨bT, oT + k * 5 + 2, none⟩ = some (.slice (L k).nA (D k).nn (L k).nc) ∧ W'.cell? ⟨bT, oT + k * 5 + 3, none⟩ = some (.slice (L k).kA (D k).kn (L k).kc) ∧ W'.cell? ⟨bT, oT + k * 5 + 4, none⟩ = some (.int .i64 (D k).turn)) _ _ (by kernel_rfl) rfl rfl (by kernel_rfl) (by kernel_rfl) ?_ (fun hHeld => ?_)
            · exact (HSt.out _ hd5).1
            simp only [List.pop_toArray, List.dropLast, List.size_toArray, List.length_cons, List.length_nil, Nat.reduceAdd, Nat.reduceSub, List.getElem_toArray, List.getElem_cons_succ, List.getElem_cons_zero]
            refine peel_take (i := 0) (oi := ?oi0y) (v := ?v0y) (fun _ _ _ _ _ h => h) hHeld ?hi0y (by kernel_rfl) (by kernel_rfl) (by kernel_rfl) ?hw0y ?hy0y ?rest0y
            case hi0y =>
              simp only [List.getElem?_toArray, List.getElem?_cons_zero]
              rfl
            case hw0y => rfl
            case hy0y =>
              intro w hSw
              obtain ⟨s0, s1, s2, s3, s4, s5, s6⟩ := hSw
              go_simp
              try with_reducible rfl
            try simp only [Act.put, List.setIfInBounds_toArray, List.set_cons_zero, List.set_cons_succ]
            refine peel_take (i := 1) (oi := ?oi1y) (v := ?v1y) (fun _ _ _ _ _ h => h) hHeld ?hi1y (by kernel_rfl) (by kernel_rfl) (by kernel_rfl) ?hw1y ?hy1y ?rest1y
            case hi1y =>
              simp only [List.getElem?_toArray, List.getElem?_cons_succ, List.getElem?_cons_zero]
              rfl
            case hw1y => rfl
            case hy1y =>
              intro w hSw
              obtain ⟨s0, s1, s2, s3, s4, s5, s6⟩ := hSw
              go_simp
              try with_reducible rfl
            try simp only [Act.put, List.setIfInBounds_toArray, List.set_cons_zero, List.set_cons_succ]
            refine peel_take (i := 2) (oi := ?oi2y) (v := ?v2y) (fun _ _ _ _ _ h => h) hHeld ?hi2y (by kernel_rfl) (by kernel_rfl) (by kernel_rfl) ?hw2y ?hy2y ?rest2y
            case hi2y =>
              simp only [List.getElem?_toArray, List.getElem?_cons_succ, List.getElem?_cons_zero]
              rfl
            case hw2y => rfl
            case hy2y =>
              intro w hSw
              obtain ⟨s0, s1, s2, s3, s4, s5, s6⟩ := hSw
              go_simp
              try with_reducible rfl
            try simp only [Act.put, List.setIfInBounds_toArray, List.set_cons_zero, List.set_cons_succ]
            refine peel_take (i := 3) (oi := ?oi3y) (v := ?v3y) (fun _ _ _ _ _ h => h) hHeld ?hi3y (by kernel_rfl) (by kernel_rfl) (by kernel_rfl) ?hw3y ?hy3y ?rest3y
            case hi3y =>
              simp only [List.getElem?_toArray, List.getElem?_cons_succ, List.getElem?_cons_zero]
              rfl
            case hw3y => rfl
            case hy3y =>
              intro w hSw
              obtain ⟨s0, s1, s2, s3, s4, s5, s6⟩ := hSw
              go_simp
              try with_reducible rfl
            try simp only [Act.put, List.setIfInBounds_toArray, List.set_cons_zero, List.set_cons_succ]
            refine peel_take (i := 4) (oi := ?oi4y) (v := ?v4y) (fun _ _ _ _ _ h => h) hHeld ?hi4y (by kernel_rfl) (by kernel_rfl) (by kernel_rfl) ?hw4y ?hy4y ?rest4y
            case hi4y =>
              simp only [List.getElem?_toArray, List.getElem?_cons_succ, List.getElem?_cons_zero]
              rfl
            case hw4y => rfl
            case hy4y =>
              intro w hSw
              obtain ⟨s0, s1, s2, s3, s4, s5, s6⟩ := hSw
              go_simp
              try with_reducible rfl
            try simp only [Act.put, List.setIfInBounds_toArray, List.set_cons_zero, List.set_cons_succ]
            refine peel_take (i := 5) (oi := ?oi5y) (v := ?v5y) (fun _ _ _ _ _ h => h) hHeld ?hi5y (by kernel_rfl) (by kernel_rfl) (by kernel_rfl) ?hw5y ?hy5y ?rest5y
            case hi5y =>
              simp only [List.getElem?_toArray, List.getElem?_cons_succ, List.getElem?_cons_zero]
              rfl
            case hw5y => rfl
            case hy5y =>
              intro w hSw
              obtain ⟨s0, s1, s2, s3, s4, s5, s6⟩ := hSw
              go_simp
              try with_reducible rfl
            try simp only [Act.put, List.setIfInBounds_toArray, List.set_cons_zero, List.set_cons_succ]
            refine peel_take (i := 6) (oi := ?oi6y) (v := ?v6y) (fun _ _ _ _ _ h => h) hHeld ?hi6y (by kernel_rfl) (by kernel_rfl) (by kernel_rfl) ?hw6y ?hy6y ?rest6y
            case hi6y =>
              simp only [List.getElem?_toArray, List.getElem?_cons_succ, List.getElem?_cons_zero]
              rfl
            case hw6y => rfl
            case hy6y =>
              intro w hSw
              obtain ⟨s0, s1, s2, s3, s4, s5, s6⟩ := hSw
              go_simp
              try with_reducible rfl
            try simp only [Act.put, List.setIfInBounds_toArray, List.set_cons_zero, List.set_cons_succ]
            refine wpAnyH_ready (rs := [7]) (by kernel_rfl) (by simp) ?_
            refine AllReadyH.cons (o := ?o7y) ?ho7y (fun K hK => ?st7y) AllReadyH.nil
            case ho7y =>
              simp only [List.getElem?_toArray, List.getElem?_cons_succ, List.getElem?_cons_zero]
              rfl
            go_simp
            refine (l2Copy_any (D k) (L k) W4.drew (HSt.out _ hd5).2 hsm.1 hsm.2.1).mono ?_
            rintro e W6 ⟨l5, rfl, hN5⟩
            unfold ndV
            have hb6 : Below W4.heap.size W4 W6 := hd5.trans hN5.bel
            refine hK.out _ _ (HSt.out W6 hb6).1 (fun hHeld => ?re7y)
            clear hK K
            try simp only [Act.put, List.setIfInBounds_toArray, List.set_cons_zero, List.set_cons_succ]
            refine wpAnyH_ready (rs := [8]) (by kernel_rfl) (by simp) ?_
            refine AllReadyH.cons (o := ?o8y) ?ho8y (fun K hK => ?st8y) AllReadyH.nil
            case ho8y =>
              simp only [List.getElem?_toArray, List.getElem?_cons_succ, List.getElem?_cons_zero]
              rfl
            go_simp
            have hb7 : Below W4.heap.size W4 (W6.alloc (.cells #[.int .i64 (D k).kind, .string (D k).text, .slice l5.nA (D k).nn l5.nc, .slice l5.kA (D k).kn l5.kc, .int .i64 (D k).turn] 58)) := hb6.alloc hb6.size _
            refine hK.out _ _ (HSt.out _ hb7).1 (fun hHeld => ?re8y)
            clear hK K
            try simp only [Act.put, List.setIfInBounds_toArray, List.set_cons_zero, List.set_cons_succ]
            refine wpAnyH_ready (rs := [9]) (by kernel_rfl) (by simp) ?_
            refine AllReadyH.cons (o := ?o9y) ?ho9y (fun K hK => ?st9y) AllReadyH.nil
            case ho9y =>
              simp only [List.getElem?_toArray, List.getElem?_cons_succ, List.getElem?_cons_zero]
              rfl
            have hD6 := H4.out.2.below hb7
            have hN6 := hN5.new.alloc (.cells #[.int .i64 (D k).kind, .string (D k).text, .slice l5.nA (D k).nn l5.nc, .slice l5.kA (D k).kn l5.kc, .int .i64 (D k).turn] 58)
            have hneV : (Value.slice b k bc).ownBlock ≠ some (w.heap.size + 1 + 1 + 1) := fun e => by have := H4.out.2.own _ e; omega
            have hbo5 : ∀ q, (Value.slice b k bc).ownBlock = some q → W0.heap.size ≤ q := fun q e => (H4.out.2.own q e).1
            refine step_of (by rfl) (wp_append_src (.tmp 67) (.tmp 74) 31 rfl W0.heap.size 58 y0 (.agg #[.int .i64 0, .string ByteArray.empty, .slice none 0 0, .slice none 0 0, .int .i64 0]) 5 80 Tryz.underlying31 hy hy0 hy1 hy2 rfl (by decide) (.slice b k bc) k _ (by rfl) hD6.ot.ownI _ 1 _ (by rfl) (src_node W6 (D k) l5) (by unfold maxLen; omega) (by omega) (by have := hb7.size; have := H4.out.2.size; omega) ?_)
            intro vI W7 hown hgrow hnil hat
            rcases hown.2 with ⟨_, h0⟩ | ⟨gI, cI, cur, hvI, _, _, _⟩
            · omega
            subst hvI
            have hbI : (Value.slice b k bc).ownBlock = some gI ∨ (W6.alloc (.cells #[.int .i64 (D k).kind, .string (D k).text, .slice l5.nA (D k).nn l5.nc, .slice l5.kA (D k).kn l5.kc, .int .i64 (D k).turn] 58)).heap.size ≤ gI := by
              rcases hat with e | e
              · exact Or.inl e.symm
              · right
                have e' : gI = (W6.alloc (.cells #[.int .i64 (D k).kind, .string (D k).text, .slice l5.nA (D k).nn l5.nc, .slice l5.kA (D k).kn l5.kc, .int .i64 (D k).turn] 58)).heap.size := by simpa [Value.ownBlock] using e
                omega
            have hV7 := blk_grown hD6.v hgrow hneV
            have hHeld7 : W7.cell? ⟨w.heap.size + 1 + 1 + 1, 0, none⟩ = some (.slice b k bc) ∧ W7.cell? ⟨w.heap.size, 0, none⟩ = some (.slice (some ⟨bT, oT, none⟩) n c) ∧ W7.cell? ⟨bT, oT + k * 5, none⟩ = some (.int .i64 (D k).kind) ∧ W7.cell? ⟨bT, oT + k * 5 + 1, none⟩ = some (.string (D k).text) ∧ W7.cell? ⟨bT, oT + k * 5 + 2, none⟩ = some (.slice (L k).nA (D k).nn (L k).nc) ∧ W7.cell? ⟨bT, oT + k * 5 + 3, none⟩ = some (.slice (L k).kA (D k).kn (L k).kc) ∧ W7.cell? ⟨bT, oT + k * 5 + 4, none⟩ = some (.int .i64 (D k).turn) := by
              obtain ⟨e0, e1, e2, e3, e4, e5, e6⟩ := (HSt.out _ hb7).1
              have hlow : ∀ q o v, q < W0.heap.size → (W6.alloc (.cells #[.int .i64 (D k).kind, .string (D k).text, .slice l5.nA (D k).nn l5.nc, .slice l5.kA (D k).kn l5.kc, .int .i64 (D k).turn] 58)).cell? ⟨q, o, none⟩ = some v → W7.cell? ⟨q, o, none⟩ = some v := fun q o v hq h => hgrow.cell h (fun e => by have := hbo5 q e.symm; omega)
              exact ⟨hV7.cell 0, hlow _ _ _ (by omega) e1, hlow _ _ _ (by omega) e2, hlow _ _ _ (by omega) e3, hlow _ _ _ (by omega) e4, hlow _ _ _ (by omega) e5, hlow _ _ _ (by omega) e6⟩
            have H8 : Hid _ := (H4.out.2.below hd5).item hN6 hgrow hown hbI
            have v07 : W7.cell? ⟨w.heap.size + 1 + 1 + 1, 0, none⟩ = some (.slice b k bc) := hV7.cell 0
            have f07 := hV7.frozen 0
            refine hK.out _ _ hHeld7 (fun hHeld => ?re9y)
            clear hK K
            try simp only [Act.put, List.setIfInBounds_toArray, List.set_cons_zero, List.set_cons_succ]
            refine wpAnyH_done (by kernel_rfl) ?_ _
            show Oper.wp _ _ _ _ _ _
            clear hown hgrow hnil hat hbI hV7 hHeld7 hN6 hD6 hN5 HSt hneV hHeld hd5 hb6 hb7 hsm hbo5
            go_simp
            show Oper.wp _ _ _ _ _ _
            go_simp
            refine NoPanic.normal ?_
            go_wp2_with fail
            go_roundw
            case rel => exact ⟨k + 1, some ⟨gI, 0, none⟩, cI, _, _, by omega, by go_num, H8.out, one_ext HIN.out.2 HX.out⟩
            case measure => simp [intOf]; omega
          · have HX : Hid (oneNd n D d k = none) := by show _ = _; unfold oneNd; rw [HLV.out, hob]; simp only [if_true]; exact if_neg hfr
            have HE : Hid (OnePost w n D d (.returned (.tuple #[.agg #[.slice none 0 0, .int .i64 0], .bool false])) ((W4.setCell ⟨w.heap.size + 1 + 1, 0, none⟩ (.slice none 0 0)).setCell ⟨w.heap.size + 1 + 1, 1, none⟩ (.int .i64 0))) := ⟨bel_put (bel_put H4.out.1.bel _ (by omega)) _ (by omega), Or.inl ⟨⟨k, hlt, HX.out⟩, rfl⟩⟩
            have e0 := H4.out.1.r.frozen 0
            have e1 := H4.out.1.r.frozen 1
            have HR : Hid (Blk ((W4.setCell ⟨w.heap.size + 1 + 1, 0, none⟩ (.slice none 0 0)).setCell ⟨w.heap.size + 1 + 1, 1, none⟩ (.int .i64 0)) (w.heap.size + 1 + 1) #[.slice none 0 0, .int .i64 0] 33) := (H4.out.1.r.set 0 _).set 1 _
            by_cases hkn : k < n
            · have hk0 : (D k).kind = 0 := by
                rcases Classical.em ((D k).kind = 0) with g | g
                · exact g
                · exact absurd ⟨hkn, g⟩ hfr
              have hkb : ((D k).kind != 0) = false := by simp [hk0]
              have HK0 : Hid ((D k).kind = 0) := hk0
              clear hk0
              have hkni : (k : Int) < (n : Int) := by omega
              obtain ⟨bT, oT, hT, hTl, hTc⟩ := (hS.below (Nat.le_refl _) H4.out.1.bel).at hkn
              have hT0 := (hTc k hkn).1
              rw [hT] at p0
              clear hob HZB hfr hT hTc
              go_wp2_with fail
              refine end_world (F := fun U => Blk U (w.heap.size + 1 + 1) #[.slice none 0 0, .int .i64 0] 33 ∧ OnePost w n D d (.returned (.tuple #[.agg #[.slice none 0 0, .int .i64 0], .bool false])) U) ⟨HR.out, HE.out⟩ ?_
              rintro U ⟨hr, hE⟩
              have e0 : U.cell? ⟨w.heap.size + 1 + 1, 0, none⟩ = some (.slice none 0 0) := hr.cell 0
              have e1 : U.cell? ⟨w.heap.size + 1 + 1, 1, none⟩ = some (.int .i64 0) := hr.cell 1
              exact bodyPost_ret (v := .tuple #[.agg #[.slice none 0 0, .int .i64 0], .bool false]) (by simp [results, Tryz.results55, go_sem, e0, e1]) rfl hE
            · have hkni : ¬ (k : Int) < (n : Int) := by omega
              clear hob HZB hfr
              go_wp2_with fail
              refine end_world (F := fun U => Blk U (w.heap.size + 1 + 1) #[.slice none 0 0, .int .i64 0] 33 ∧ OnePost w n D d (.returned (.tuple #[.agg #[.slice none 0 0, .int .i64 0], .bool false])) U) ⟨HR.out, HE.out⟩ ?_
              rintro U ⟨hr, hE⟩
              have e0 : U.cell? ⟨w.heap.size + 1 + 1, 0, none⟩ = some (.slice none 0 0) := hr.cell 0
              have e1 : U.cell? ⟨w.heap.size + 1 + 1, 1, none⟩ = some (.int .i64 0) := hr.cell 1
              exact bodyPost_ret (v := .tuple #[.agg #[.slice none 0 0, .int .i64 0], .bool false]) (by simp [results, Tryz.results55, go_sem, e0, e1]) rfl hE
    · obtain rfl : k = d.ln := by omega
      have hE := one_done HIN.out.2
      have HOT : Hid (OT wr W0.heap.size 0 (fun _ => false) d.ln (fun _ => 0) (oneD n D d) M (.slice none 0 0) (.slice b d.ln bc)) := HIN.out.1.ot.ext fun i hi => ⟨(hE i hi), rfl⟩
      have HKN : Hid (∀ i, i < d.ln → oneNd n D d i ≠ none) := fun i hi e => by have := HIN.out.2 i hi; rw [e] at this; cases this
      have HSt : Hid (∀ W', Below wr.heap.size wr W' → W'.cell? ⟨w.heap.size + 1 + 1 + 1, 0, none⟩ = some (.slice b d.ln bc) ∧ W'.cell? ⟨w.heap.size + 1 + 1 + 1, 1, none⟩ = some (.int .i64 d.date)) := fun W' hW => ⟨(HIN.out.1.below hW).v.cell 0, (HIN.out.1.below hW).v.cell 1⟩
      clear hE
      go_wp2_with fail
      clear p0 p1 q0 q1 q2 q3 r0 r1 v0 v1
      refine wp_region_noPanic ?_
      have hd5 : Below wr.heap.size wr wr.drew := below_drewN (Below.refl _ _) 1
      refine wp_region_peel (fun W' => W'.cell? ⟨w.heap.size + 1 + 1 + 1, 0, none⟩ = some (.slice b d.ln bc) ∧ W'.cell? ⟨w.heap.size + 1 + 1 + 1, 1, none⟩ = some (.int .i64 d.date)) _ (by kernel_rfl) rfl (by kernel_rfl) ?_ (fun hHeld => ?_)
      · exact HSt.out _ hd5
      simp only [List.pop_toArray, List.dropLast, List.size_toArray, List.length_cons, List.length_nil, Nat.reduceAdd, Nat.reduceSub, List.getElem_toArray, List.getElem_cons_succ, List.getElem_cons_zero]
      refine peel_take (i := 0) (oi := ?oi0z) (v := ?v0z) (fun _ _ _ _ _ h => h) hHeld ?hi0z (by kernel_rfl) (by kernel_rfl) (by kernel_rfl) ?hw0z ?hy0z ?rest0z
      case hi0z =>
        simp only [List.getElem?_toArray, List.getElem?_cons_zero]
        rfl
      case hw0z => rfl
      case hy0z =>
        intro w hSw
        obtain ⟨s0, s1⟩ := hSw
        go_simp
        try with_reducible rfl
      try simp only [Act.put, List.setIfInBounds_toArray, List.set_cons_zero, List.set_cons_succ]
      refine peel_take (i := 1) (oi := ?oi1z) (v := ?v1z) (fun _ _ _ _ _ h => h) hHeld ?hi1z (by kernel_rfl) (by kernel_rfl) (by kernel_rfl) ?hw1z ?hy1z ?rest1z
      case hi1z =>
        simp only [List.getElem?_toArray, List.getElem?_cons_succ, List.getElem?_cons_zero]
        rfl
      case hw1z => rfl
      case hy1z =>
        intro w hSw
        obtain ⟨s0, s1⟩ := hSw
        go_simp
        try with_reducible rfl
      try simp only [Act.put, List.setIfInBounds_toArray, List.set_cons_zero, List.set_cons_succ]
      refine wpAnyH_ready (rs := [2]) (by kernel_rfl) (by simp) ?_
      refine AllReadyH.cons (o := ?o2z) ?ho2z (fun K hK => ?st2z) AllReadyH.nil
      case ho2z =>
        simp only [List.getElem?_toArray, List.getElem?_cons_succ, List.getElem?_cons_zero]
        rfl
      go_simp
      refine (specTreeOk_any b d.ln bc d.date (oneD n D d) M wr.drew (OT.nds (HOT.out.below hd5)) HSZ.out.2 (by unfold maxLen; omega) HSZ.out.1).mono ?_
      rintro e W6 ⟨hb6', r, rfl, hr⟩
      have hb6 : Below wr.heap.size wr W6 := hd5.trans hb6'
      have HR : Hid (r = true ↔ TreeGood d.ln (oneD n D d) d.date) := hr
      refine hK.out _ _ (HSt.out W6 hb6) (fun hHeld => ?re2z)
      clear hK K hr hb6'
      try simp only [Act.put, List.setIfInBounds_toArray, List.set_cons_zero, List.set_cons_succ]
      refine wpAnyH_ready (rs := [3]) (by kernel_rfl) (by simp) ?_
      refine AllReadyH.cons (o := ?o3z) ?ho3z (fun K hK => ?st3z) AllReadyH.nil
      case ho3z =>
        simp only [List.getElem?_toArray, List.getElem?_cons_succ, List.getElem?_cons_zero]
        rfl
      have H6 : Hid (On w a n c now d l W6 ∧ OT W6 W0.heap.size 0 (fun _ => false) d.ln (fun _ => 0) (oneD n D d) M (.slice none 0 0) (.slice b d.ln bc)) := ⟨HT.out.below hb6, HOT.out.below hb6⟩
      have r0 : W6.cell? ⟨w.heap.size + 1 + 1, 0, none⟩ = some (.slice none 0 0) := H6.out.1.r.cell 0
      have r1 : W6.cell? ⟨w.heap.size + 1 + 1, 1, none⟩ = some (.int .i64 0) := H6.out.1.r.cell 1
      have e0 := H6.out.1.r.frozen 0
      have e1 := H6.out.1.r.frozen 1
      have HB6 : Hid (Below wr.heap.size wr W6) := hb6
      have hU : ∀ U, U = (W6.setCell ⟨w.heap.size + 1 + 1, 0, none⟩ (.slice b d.ln bc)).setCell ⟨w.heap.size + 1 + 1, 1, none⟩ (.int .i64 d.date) → (U.cell? ⟨w.heap.size + 1 + 1 + 1, 0, none⟩ = some (.slice b d.ln bc) ∧ U.cell? ⟨w.heap.size + 1 + 1 + 1, 1, none⟩ = some (.int .i64 d.date)) ∧ Blk U (w.heap.size + 1 + 1) #[.slice b d.ln bc, .int .i64 d.date] 33 ∧ OnePost w n D d (.returned (.tuple #[.agg #[.slice b d.ln bc, .int .i64 d.date], .bool r])) U := fun U e => by
        subst e
        refine ⟨⟨?_, ?_⟩, (H6.out.1.r.set 0 _).set 1 _, bel_put (bel_put H6.out.1.bel _ (by omega)) _ (by omega), Or.inr ⟨HKN.out, r, HR.out, b, bc, M, rfl, ?_⟩⟩
        · exact (((HIN.out.1.below HB6.out).v.off _ (by omega)).off _ (by omega)).cell 0
        · exact (((HIN.out.1.below HB6.out).v.off _ (by omega)).off _ (by omega)).cell 1
        · exact OT.lower ((H6.out.2.off _ (by omega)).off _ (by omega)) (by omega)
      have HU : Hid _ := hU
      clear hU hb6
      go_simp
      refine hK.out _ _ (HU.out _ rfl).1 (fun hHeld => ?re3z)
      clear hK K
      try simp only [Act.put, List.setIfInBounds_toArray, List.set_cons_zero, List.set_cons_succ]
      refine wpAnyH_done (by kernel_rfl) ?_ _
      show Oper.wp _ _ _ _ _ _
      clear hHeld hd5 r0 r1 e0 e1
      go_simp
      refine NoPanic.normal ?_
      go_wp2_with fail
      refine end_world (F := fun U => Blk U (w.heap.size + 1 + 1) #[.slice b d.ln bc, .int .i64 d.date] 33 ∧ OnePost w n D d (.returned (.tuple #[.agg #[.slice b d.ln bc, .int .i64 d.date], .bool r])) U) (HU.out _ rfl).2 ?_
      rintro U ⟨hr, hE⟩
      have e0 : U.cell? ⟨w.heap.size + 1 + 1, 0, none⟩ = some (.slice b d.ln bc) := hr.cell 0
      have e1 : U.cell? ⟨w.heap.size + 1 + 1, 1, none⟩ = some (.int .i64 d.date) := hr.cell 1
      exact bodyPost_ret (v := .tuple #[.agg #[.slice b d.ln bc, .int .i64 d.date], .bool r]) (by simp [results, Tryz.results55, go_sem, e0, e1]) rfl hE

end Go.Proofs.YtfdjfndpeeomkaaGreatDoor

/-
  What BackOne of the specification answers.
-/
namespace Go.Proofs.YtfdjfndpeeomkaaGreatDoor
open Go.RowKit Go.Deep
set_option linter.unusedVariables false
set_option linter.unusedSimpArgs false
set_option linter.unnecessarySimpa false

set_option maxRecDepth 100000 in
set_option maxHeartbeats 8000000 in
theorem specBackOne_any (a : Option Addr) (n c : Nat) (now : Int) (D : Nat → Nd) (L : Nat → Loc) (d : Dp) (l : DLoc) (w : World) (hS : IsNds w a n D L) (hD : DpIn w d l) (hn : n ≤ maxLen) (hf : FitAll n D) (hfd : d.Fits) (hsz : sizeTo D n + sizeTo d.nd d.m ≤ 1048576) :
    Calls Tryz.prog 11 #[trV a n c now, dpV d l] w (BackPost w n D now d) := by
  unfold trV dpV
  go_enter Tryz.func11, Tryz.ntmps11
  go_wp2_with fail
  refine at_world (F := fun W => On w a n c now d l W ∧ w.heap.size + 3 ≤ W.heap.size) ⟨on3 w a n c now d l, by simp⟩ ?_
  rintro W ⟨hO, hsW⟩
  refine (specDumpOk_any d l W (hD.below (Nat.le_refl _) hO.bel) hfd).mono ?_
  rintro e w1 ⟨hb1, rfl⟩
  have H1 : Hid (On w a n c now d l w1) := hO.below hb1
  have hs1 : w.heap.size + 3 ≤ w1.heap.size := by have := hb1.size; omega
  clear hb1 hO hsW
  obtain ⟨⟨p0, p1⟩, ⟨q0, q1, q2, q3⟩, r0, r1⟩ := H1.out.cells
  have g0 := H1.out.r.frozen 0
  have g1 := H1.out.r.frozen 1
  cases hok : d.ok with
  | false =>
    have HE : Hid _ := H1.out.fail (D := D) (code_form (Or.inl hok)) (by decide)
    clear hok
    go_wp2_with fail
    refine end_world (F := fun U => Blk U (w.heap.size + 1 + 1) #[.slice none 0 0, .int .i64 0] 33 ∧ BackPost w n D now d (.returned (.tuple #[.agg #[.slice none 0 0, .int .i64 0], .int .i64 3])) U) HE.out ?_
    clear HE
    rintro U ⟨hr, hE⟩
    have e0 : U.cell? ⟨w.heap.size + 1 + 1, 0, none⟩ = some (.slice none 0 0) := hr.cell 0
    have e1 : U.cell? ⟨w.heap.size + 1 + 1, 1, none⟩ = some (.int .i64 0) := hr.cell 1
    exact bodyPost_ret (v := .tuple #[.agg #[.slice none 0 0, .int .i64 0], .int .i64 3]) (by simp [results, Tryz.results11, go_sem, e0, e1]) rfl hE
  | true =>
    have HOK : Hid (0 ≤ d.since) := ok_since hok
    by_cases hsi : 0 < d.since
    · go_wp2_with fail
      refine (specTreeOk_any a n c now D L w1 (hS.below (Nat.le_refl _) H1.out.bel) hf hn (by omega)).mono ?_
      rintro e w2 ⟨hb2, r, rfl, hr⟩
      have H2 : Hid (On w a n c now d l w2) := H1.out.below hb2
      have hs2 : w.heap.size + 3 ≤ w2.heap.size := by have := hb2.size; omega
      clear hb2
      clear p0 p1 q0 q1 q2 q3 r0 r1 g0 g1
      obtain ⟨⟨p0, p1⟩, ⟨q0, q1, q2, q3⟩, r0, r1⟩ := H2.out.cells
      have g0 := H2.out.r.frozen 0
      have g1 := H2.out.r.frozen 1
      have n0 : w.heap.size < w2.heap.size := by omega
      have n1 : w.heap.size + 1 < w2.heap.size := by omega
      have n2 : w.heap.size + 1 + 1 < w2.heap.size := by omega
      have m0 : w.heap.size ≠ w2.heap.size := by omega
      have m1 : w.heap.size + 1 ≠ w2.heap.size := by omega
      have m2 : w.heap.size + 1 + 1 ≠ w2.heap.size := by omega
      cases r with
      | false =>
        have HE : Hid _ := H2.out.fail (D := D) (code_form (Or.inr ⟨hsi, fun h => by have := hr.2 h; cases this⟩)) (by decide)
        clear hr
        go_wp2_with fail
        refine end_world (F := fun U => Blk U (w.heap.size + 1 + 1) #[.slice none 0 0, .int .i64 0] 33 ∧ BackPost w n D now d (.returned (.tuple #[.agg #[.slice none 0 0, .int .i64 0], .int .i64 3])) U) HE.out ?_
        clear HE
        rintro U ⟨hr, hE⟩
        have e0 : U.cell? ⟨w.heap.size + 1 + 1, 0, none⟩ = some (.slice none 0 0) := hr.cell 0
        have e1 : U.cell? ⟨w.heap.size + 1 + 1, 1, none⟩ = some (.int .i64 0) := hr.cell 1
        exact bodyPost_ret (v := .tuple #[.agg #[.slice none 0 0, .int .i64 0], .int .i64 3]) (by simp [results, Tryz.results11, go_sem, e0, e1]) rfl hE
      | true =>
        have HG : Hid (TreeGood n D now) := hr.1 rfl
        clear hr
        have hsb : (d.since == 0) = false := by simp; omega
        by_cases hnow : now = d.since
        · have hnb : (now != d.since) = false := by simp [hnow]
          have HFR : Hid (0 < d.since → TreeGood n D now ∧ now = d.since) := fun _ => ⟨HG.out, hnow⟩
          have HFN : Hid (fromN n d = n) := fromN_some hsi
          clear hnow
          go_wp2_with fail
          refine at_world (F := fun U => On w a n c now d l U ∧ w.heap.size + 3 ≤ U.heap.size) ⟨H2.out.below ((Below.refl _ _).alloc (Nat.le_refl _) _), by simp; omega⟩ ?_
          rintro U1 ⟨hU1, hsU1⟩
          have HU1 : Hid (On w a n c now d l U1) := hU1
          have HSZ3 : Hid (w.heap.size + 3 ≤ U1.heap.size) := hsU1
          clear hU1 p0 p1 q0 q1 q2 q3 r0 r1 g0 g1 n0 n1 n2 m0 m1 m2
          refine (l6One_any a n c now D L d l U1 (hS.below (Nat.le_refl _) HU1.out.bel) (hD.below (Nat.le_refl _) HU1.out.bel) hok (by have := HG.out.few; omega) hf hfd (by omega)).mono ?_
          rintro e w3 ⟨hb3, hcase⟩
          have H3 : Hid (On w a n c now d l w3) := HU1.out.below hb3
          have hs3 : w.heap.size + 3 ≤ w3.heap.size := by have := hb3.size; have := HSZ3.out; omega
          have HB3 : Hid (w.heap.size + 3 ≤ U1.heap.size) := HSZ3.out
          clear hb3
          obtain ⟨⟨p0, p1⟩, ⟨q0, q1, q2, q3⟩, r0, r1⟩ := H3.out.cells
          have g0 := H3.out.r.frozen 0
          have g1 := H3.out.r.frozen 1
          have n0 : w.heap.size < w3.heap.size := by omega
          have n1 : w.heap.size + 1 < w3.heap.size := by omega
          have n2 : w.heap.size + 1 + 1 < w3.heap.size := by omega
          have m0 : w.heap.size ≠ w3.heap.size := by omega
          have m1 : w.heap.size + 1 ≠ w3.heap.size := by omega
          have m2 : w.heap.size + 1 + 1 ≠ w3.heap.size := by omega
          rcases hcase with ⟨hbad, rfl⟩ | ⟨hkn, r, hr, b, bc, M, rfl, hot⟩
          · have HBD : Hid (∃ i, i < d.ln ∧ oneNd (fromN n d) D d i = none) := by show _; rw [HFN.out]; exact hbad
            have HE : Hid _ := H3.out.failA (D := D) (code_bad hok HFR.out (Or.inl HBD.out)) (by decide) (.cells #[.slice none 0 0, .int .i64 0] 33)
            clear hbad
            go_wp2_with fail
            refine end_world (F := fun U => Blk U (w.heap.size + 1 + 1) #[.slice none 0 0, .int .i64 0] 33 ∧ BackPost w n D now d (.returned (.tuple #[.agg #[.slice none 0 0, .int .i64 0], .int .i64 2])) U) HE.out ?_
            clear HE
            rintro U ⟨hr, hE⟩
            have e0 : U.cell? ⟨w.heap.size + 1 + 1, 0, none⟩ = some (.slice none 0 0) := hr.cell 0
            have e1 : U.cell? ⟨w.heap.size + 1 + 1, 1, none⟩ = some (.int .i64 0) := hr.cell 1
            exact bodyPost_ret (v := .tuple #[.agg #[.slice none 0 0, .int .i64 0], .int .i64 2]) (by simp [results, Tryz.results11, go_sem, e0, e1]) rfl hE
          · cases r with
            | false =>
              have HBD : Hid (¬ TreeGood d.ln (oneD (fromN n d) D d) d.date) := by show _; rw [HFN.out]; exact fun h => by have := hr.2 h; cases this
              have HE : Hid _ := H3.out.failA (D := D) (code_bad hok HFR.out (Or.inr HBD.out)) (by decide) (.cells #[.slice b d.ln bc, .int .i64 d.date] 33)
              clear hr hkn hot
              go_wp2_with fail
              refine end_world (F := fun U => Blk U (w.heap.size + 1 + 1) #[.slice none 0 0, .int .i64 0] 33 ∧ BackPost w n D now d (.returned (.tuple #[.agg #[.slice none 0 0, .int .i64 0], .int .i64 2])) U) HE.out ?_
              clear HE
              rintro U ⟨hr, hE⟩
              have e0 : U.cell? ⟨w.heap.size + 1 + 1, 0, none⟩ = some (.slice none 0 0) := hr.cell 0
              have e1 : U.cell? ⟨w.heap.size + 1 + 1, 1, none⟩ = some (.int .i64 0) := hr.cell 1
              exact bodyPost_ret (v := .tuple #[.agg #[.slice none 0 0, .int .i64 0], .int .i64 2]) (by simp [results, Tryz.results11, go_sem, e0, e1]) rfl hE
            | true =>
              have HKN : Hid ((∀ i, i < d.ln → oneNd (fromN n d) D d i ≠ none) ∧ TreeGood d.ln (oneD (fromN n d) D d) d.date) := by show _ ∧ _; rw [HFN.out]; exact ⟨hkn, hr.1 rfl⟩
              have HOT : Hid (OT w3 U1.heap.size 0 (fun _ => false) d.ln (fun _ => 0) (oneD (fromN n d) D d) M (.slice none 0 0) (.slice b d.ln bc)) := by show OT _ _ _ _ _ _ _ _ _ _; rw [HFN.out]; exact hot
              have HE : Hid _ := H3.out.fineA (D := D) (code_fine hok HFR.out HKN.out.1 HKN.out.2) HB3.out HOT.out (.cells #[.slice b d.ln bc, .int .i64 d.date] 33)
              clear hr hkn hot
              go_wp2_with fail
              refine end_world (F := fun U => Blk U (w.heap.size + 1 + 1) #[.slice b d.ln bc, .int .i64 d.date] 33 ∧ BackPost w n D now d (.returned (.tuple #[.agg #[.slice b d.ln bc, .int .i64 d.date], .int .i64 0])) U) HE.out ?_
              clear HE
              rintro U ⟨hr, hE⟩
              have e0 : U.cell? ⟨w.heap.size + 1 + 1, 0, none⟩ = some (.slice b d.ln bc) := hr.cell 0
              have e1 : U.cell? ⟨w.heap.size + 1 + 1, 1, none⟩ = some (.int .i64 d.date) := hr.cell 1
              exact bodyPost_ret (v := .tuple #[.agg #[.slice b d.ln bc, .int .i64 d.date], .int .i64 0]) (by simp [results, Tryz.results11, go_sem, e0, e1]) rfl hE
        · have hnb : (now != d.since) = true := by simp [hnow]
          have HE : Hid _ := H2.out.failA (D := D) (code_other hok hsi HG.out hnow) (by decide) (.cells #[.slice a n c, .int .i64 now] 33)
          clear hnow
          go_wp2_with fail
          refine end_world (F := fun U => Blk U (w.heap.size + 1 + 1) #[.slice none 0 0, .int .i64 0] 33 ∧ BackPost w n D now d (.returned (.tuple #[.agg #[.slice none 0 0, .int .i64 0], .int .i64 1])) U) HE.out ?_
          clear HE
          rintro U ⟨hr, hE⟩
          have e0 : U.cell? ⟨w.heap.size + 1 + 1, 0, none⟩ = some (.slice none 0 0) := hr.cell 0
          have e1 : U.cell? ⟨w.heap.size + 1 + 1, 1, none⟩ = some (.int .i64 0) := hr.cell 1
          exact bodyPost_ret (v := .tuple #[.agg #[.slice none 0 0, .int .i64 0], .int .i64 1]) (by simp [results, Tryz.results11, go_sem, e0, e1]) rfl hE
    · have hs0 : d.since = 0 := by have := HOK.out; omega
      have HFN : Hid (fromN n d = 0) := fromN_none hs0
      have HFR : Hid (0 < d.since → TreeGood n D now ∧ now = d.since) := fun h => absurd h hsi
      have hsb : (d.since == 0) = true := by simp [hs0]
      have n0 : w.heap.size < w1.heap.size := by omega
      have n1 : w.heap.size + 1 < w1.heap.size := by omega
      have n2 : w.heap.size + 1 + 1 < w1.heap.size := by omega
      have m0 : w.heap.size ≠ w1.heap.size := by omega
      have m1 : w.heap.size + 1 ≠ w1.heap.size := by omega
      have m2 : w.heap.size + 1 + 1 ≠ w1.heap.size := by omega
      clear hs0
      go_wp2_with fail
      refine at_world (F := fun U => On w a n c now d l U ∧ w.heap.size + 3 ≤ U.heap.size) ⟨H1.out.below ((Below.refl _ _).alloc (Nat.le_refl _) _), by simp; omega⟩ ?_
      rintro U1 ⟨hU1, hsU1⟩
      have HU1 : Hid (On w a n c now d l U1) := hU1
      have HSZ3 : Hid (w.heap.size + 3 ≤ U1.heap.size) := hsU1
      clear hU1 p0 p1 q0 q1 q2 q3 r0 r1 g0 g1 n0 n1 n2 m0 m1 m2
      refine (l6One_any none 0 0 0 D L d l U1 (Or.inl rfl) (hD.below (Nat.le_refl _) HU1.out.bel) hok (by omega) (fun i hi => absurd hi (Nat.not_lt_zero _)) hfd (by have : sizeTo D 0 = 0 := rfl; omega)).mono ?_
      rintro e w3 ⟨hb3, hcase⟩
      have H3 : Hid (On w a n c now d l w3) := HU1.out.below hb3
      have hs3 : w.heap.size + 3 ≤ w3.heap.size := by have := hb3.size; have := HSZ3.out; omega
      have HB3 : Hid (w.heap.size + 3 ≤ U1.heap.size) := HSZ3.out
      clear hb3
      obtain ⟨⟨p0, p1⟩, ⟨q0, q1, q2, q3⟩, r0, r1⟩ := H3.out.cells
      have g0 := H3.out.r.frozen 0
      have g1 := H3.out.r.frozen 1
      have n0 : w.heap.size < w3.heap.size := by omega
      have n1 : w.heap.size + 1 < w3.heap.size := by omega
      have n2 : w.heap.size + 1 + 1 < w3.heap.size := by omega
      have m0 : w.heap.size ≠ w3.heap.size := by omega
      have m1 : w.heap.size + 1 ≠ w3.heap.size := by omega
      have m2 : w.heap.size + 1 + 1 ≠ w3.heap.size := by omega
      rcases hcase with ⟨hbad, rfl⟩ | ⟨hkn, r, hr, b, bc, M, rfl, hot⟩
      · have HBD : Hid (∃ i, i < d.ln ∧ oneNd (fromN n d) D d i = none) := by show _; rw [HFN.out]; exact hbad
        have HE : Hid _ := H3.out.failA (D := D) (code_bad hok HFR.out (Or.inl HBD.out)) (by decide) (.cells #[.slice none 0 0, .int .i64 0] 33)
        clear hbad
        go_wp2_with fail
        refine end_world (F := fun U => Blk U (w.heap.size + 1 + 1) #[.slice none 0 0, .int .i64 0] 33 ∧ BackPost w n D now d (.returned (.tuple #[.agg #[.slice none 0 0, .int .i64 0], .int .i64 2])) U) HE.out ?_
        clear HE
        rintro U ⟨hr, hE⟩
        have e0 : U.cell? ⟨w.heap.size + 1 + 1, 0, none⟩ = some (.slice none 0 0) := hr.cell 0
        have e1 : U.cell? ⟨w.heap.size + 1 + 1, 1, none⟩ = some (.int .i64 0) := hr.cell 1
        exact bodyPost_ret (v := .tuple #[.agg #[.slice none 0 0, .int .i64 0], .int .i64 2]) (by simp [results, Tryz.results11, go_sem, e0, e1]) rfl hE
      · cases r with
        | false =>
          have HBD : Hid (¬ TreeGood d.ln (oneD (fromN n d) D d) d.date) := by show _; rw [HFN.out]; exact fun h => by have := hr.2 h; cases this
          have HE : Hid _ := H3.out.failA (D := D) (code_bad hok HFR.out (Or.inr HBD.out)) (by decide) (.cells #[.slice b d.ln bc, .int .i64 d.date] 33)
          clear hr hkn hot
          go_wp2_with fail
          refine end_world (F := fun U => Blk U (w.heap.size + 1 + 1) #[.slice none 0 0, .int .i64 0] 33 ∧ BackPost w n D now d (.returned (.tuple #[.agg #[.slice none 0 0, .int .i64 0], .int .i64 2])) U) HE.out ?_
          clear HE
          rintro U ⟨hr, hE⟩
          have e0 : U.cell? ⟨w.heap.size + 1 + 1, 0, none⟩ = some (.slice none 0 0) := hr.cell 0
          have e1 : U.cell? ⟨w.heap.size + 1 + 1, 1, none⟩ = some (.int .i64 0) := hr.cell 1
          exact bodyPost_ret (v := .tuple #[.agg #[.slice none 0 0, .int .i64 0], .int .i64 2]) (by simp [results, Tryz.results11, go_sem, e0, e1]) rfl hE
        | true =>
          have HKN : Hid ((∀ i, i < d.ln → oneNd (fromN n d) D d i ≠ none) ∧ TreeGood d.ln (oneD (fromN n d) D d) d.date) := by show _ ∧ _; rw [HFN.out]; exact ⟨hkn, hr.1 rfl⟩
          have HOT : Hid (OT w3 U1.heap.size 0 (fun _ => false) d.ln (fun _ => 0) (oneD (fromN n d) D d) M (.slice none 0 0) (.slice b d.ln bc)) := by show OT _ _ _ _ _ _ _ _ _ _; rw [HFN.out]; exact hot
          have HE : Hid _ := H3.out.fineA (D := D) (code_fine hok HFR.out HKN.out.1 HKN.out.2) HB3.out HOT.out (.cells #[.slice b d.ln bc, .int .i64 d.date] 33)
          clear hr hkn hot
          go_wp2_with fail
          refine end_world (F := fun U => Blk U (w.heap.size + 1 + 1) #[.slice b d.ln bc, .int .i64 d.date] 33 ∧ BackPost w n D now d (.returned (.tuple #[.agg #[.slice b d.ln bc, .int .i64 d.date], .int .i64 0])) U) HE.out ?_
          clear HE
          rintro U ⟨hr, hE⟩
          have e0 : U.cell? ⟨w.heap.size + 1 + 1, 0, none⟩ = some (.slice b d.ln bc) := hr.cell 0
          have e1 : U.cell? ⟨w.heap.size + 1 + 1, 1, none⟩ = some (.int .i64 d.date) := hr.cell 1
          exact bodyPost_ret (v := .tuple #[.agg #[.slice b d.ln bc, .int .i64 d.date], .int .i64 0]) (by simp [results, Tryz.results11, go_sem, e0, e1]) rfl hE
end Go.Proofs.YtfdjfndpeeomkaaGreatDoor

/-
  The bits of a number in which the program keeps which places are not free.
-/
namespace Go.Proofs.YtfdjfndpeeomkaaGreatDoor
open Go.RowKit
set_option linter.unusedVariables false

theorem wrap16 {z : Int} (h0 : 0 ≤ z) (h1 : z < 65536) : IntKind.u16.wrap z = z := by
  simp [IntKind.wrap, IntKind.bits, IntKind.signed]
  omega

theorem shl16 {k : Nat} (hk : k ≤ 10) : IntKind.u16.wrap ((2 : Int) ^ k) = ((2 ^ k : Nat) : Int) := by
  have hp : 2 ^ k ≤ 2 ^ 10 := Nat.pow_le_pow_right (by omega) hk
  have h1 : 2 ^ k < 65536 := by omega
  have e : (2 : Int) ^ k = ((2 ^ k : Nat) : Int) := by simp
  rw [e]
  clear e hp
  generalize 2 ^ k = y at h1 ⊢
  exact wrap16 (by omega) (by omega)

theorem or16 {x k : Nat} (hk : k ≤ 10) (hx : x < 2 ^ k) : bits .or .u16 (x : Int) ((2 ^ k : Nat) : Int) = ((x + 2 ^ k : Nat) : Int) := by
  have hp : 2 ^ k ≤ 2 ^ 10 := Nat.pow_le_pow_right (by omega) hk
  have hor : x ||| 2 ^ k = x + 2 ^ k := by
    have := Nat.two_pow_add_eq_or_of_lt hx 1
    rw [Nat.mul_one] at this
    rw [Nat.or_comm, ← this, Nat.add_comm]
  unfold bits
  simp only [show IntKind.u16.bits = 16 from rfl, BitVec.ofInt_natCast, BitVec.toNat_or, BitVec.toNat_ofNat]
  rw [Nat.mod_eq_of_lt (show x < 2 ^ 16 by omega), Nat.mod_eq_of_lt (show 2 ^ k < 2 ^ 16 by omega), hor]
  exact wrap16 (by omega) (by omega)

theorem and16 {y : Nat} (hy : y < 65536) : bits .and .u16 (y : Int) 1 = ((y % 2 : Nat) : Int) := by
  unfold bits
  have h1 : (BitVec.ofInt IntKind.u16.bits 1).toNat = 1 := by decide
  simp only [BitVec.ofInt_natCast, BitVec.toNat_and, BitVec.toNat_ofNat]
  rw [h1, show IntKind.u16.bits = 16 from rfl, Nat.mod_eq_of_lt (show y < 2 ^ 16 by omega), Nat.and_one_is_mod]
  exact wrap16 (by omega) (by omega)

theorem has16 {Z : Nat → Bool} {n j : Nat} (hn : n ≤ 10) : (bits .and .u16 (((bvv Z n : Nat) : Int) / 2 ^ j) 1 == 1) = (decide (j < n) && Z j) := by
  have hlt := bvv_lt Z n
  have hp : 2 ^ n ≤ 2 ^ 10 := Nat.pow_le_pow_right (by omega) hn
  have e1 : (((bvv Z n : Nat) : Int) / 2 ^ j) = ((bvv Z n / 2 ^ j : Nat) : Int) := by simp
  have h2 : bvv Z n / 2 ^ j ≤ bvv Z n := Nat.div_le_self _ _
  rw [e1, and16 (by omega), ← bvv_test Z j n, Nat.testBit_eq_decide_div_mod_eq]
  rcases Nat.mod_two_eq_zero_or_one (bvv Z n / 2 ^ j) with h | h <;> rw [h] <;> rfl

set_option maxHeartbeats 1000000 in
theorem bitsOfList_any (a : Option Addr) (n c : Nat) (Z : Nat → Bool) (w : World) (hS : IsBools w a n Z) (hn : n ≤ 10) :
    Calls Tryz.prog 132 #[.slice a n c] w fun e w' => w' = w ∧ e = .returned (.int .u16 (bvv Z n : Nat)) := by
  go_enter Tryz.func132, Tryz.ntmps132
  go_wp2
  go_loopw [3, 8] (fun v i wr => ∃ k : Nat, k ≤ n ∧ i = .int .i64 k ∧ v = .int .u16 (bvv Z k : Nat) ∧ wr = w) (fun _ i _ => n - (intOf i).toNat)
  case atStart => exact ⟨0, Nat.zero_le _, rfl, rfl, rfl⟩
  case round =>
    obtain ⟨k, hk, rfl, rfl, rfl⟩ := hrel
    by_cases hlt : k < n
    · obtain ⟨b, off, rfl, hlt2, hc⟩ := hS.at hlt
      have g0 := hc k hlt
      have hlti : (k : Int) < (n : Int) := by omega
      clear hc
      cases hz : Z k with
      | false =>
        rw [hz] at g0
        have HE : Hid (bvv Z (k + 1) = bvv Z k) := by show _ = _; rw [bvv, hz]; rfl
        clear hz
        go_wp2
        go_roundw
        case rel => exact ⟨k + 1, by omega, by go_num, by rw [HE.out], trivial⟩
        case measure => simp [intOf]; omega
      | true =>
        rw [hz] at g0
        have HE : Hid (bvv Z (k + 1) = bvv Z k + 2 ^ k) := by show _ = _; rw [bvv, hz]; rfl
        have HS : Hid (IntKind.u16.wrap ((2 : Int) ^ k) = ((2 ^ k : Nat) : Int) ∧ bits .or .u16 ((bvv Z k : Nat) : Int) ((2 ^ k : Nat) : Int) = ((bvv Z k + 2 ^ k : Nat) : Int)) := ⟨shl16 (by omega), or16 (by omega) (bvv_lt Z k)⟩
        clear hz
        go_wp2
        go_roundw
        case rel => exact ⟨k + 1, by omega, by go_num, by rw [HS.out.1, HS.out.2, HE.out], trivial⟩
        case measure => simp [intOf]; omega
    · obtain rfl : k = n := by omega
      go_wp2
      go_ret
      exact ⟨rfl, rfl⟩

set_option maxHeartbeats 1000000 in
theorem has_any (Z : Nat → Bool) (n : Nat) (z : Int) (w : World) (hn : n ≤ 10) (hz : In64 z) :
    Calls Tryz.prog 133 #[.int .u16 (bvv Z n : Nat), .int .i64 z] w fun e w' => w' = w ∧ e = .returned (.bool (liveIn n Z z)) := by
  unfold In64 at hz
  by_cases h0 : 0 ≤ z
  · by_cases h10 : z < 10
    · obtain ⟨j, rfl⟩ : ∃ j : Nat, z = j := ⟨z.toNat, by omega⟩
      have hb0 : decide ((0 : Int) ≤ (j : Int)) = true := by simp
      have hb1 : decide ((j : Int) < 10) = true := by simp; omega
      have H16 : Hid _ := has16 (Z := Z) (n := n) (j := j) hn
      have HX : Hid ((decide (j < n) && Z j) = liveIn n Z j) := by show _ = _; unfold liveIn; simp
      have hj0 : (0 : Int) ≤ (j : Int) := by omega
      go_enter Tryz.func133, Tryz.ntmps133
      go_wp2
      go_ret
      exact ⟨rfl, ret_bool (by rw [← HX.out, ← H16.out])⟩
    · have hb0 : decide ((0 : Int) ≤ z) = true := by simp; omega
      have hb1 : decide (z < 10) = false := by simp; omega
      have HX : Hid (false = liveIn n Z z) := by show _ = _; unfold liveIn; rw [decide_eq_false (show ¬ z < n by omega)]; simp
      go_enter Tryz.func133, Tryz.ntmps133
      go_wp2
      go_ret
      exact ⟨rfl, ret_bool HX.out⟩
  · have hb0 : decide ((0 : Int) ≤ z) = false := by simp; omega
    have HX : Hid (false = liveIn n Z z) := by show _ = _; unfold liveIn; rw [decide_eq_false h0]; rfl
    go_enter Tryz.func133, Tryz.ntmps133
    go_wp2
    go_ret
    exact ⟨rfl, ret_bool HX.out⟩
end Go.Proofs.YtfdjfndpeeomkaaGreatDoor

/-
  What DumpOk of the program answers.
-/
namespace Go.Proofs.YtfdjfndpeeomkaaGreatDoor
open Go.RowKit
set_option linter.unusedVariables false

theorem kidIn_eq (n : Nat) (Z : Nat → Bool) (z : Int) : kidIn n Z z = (!(z == 0) && liveIn n Z z) := by
  unfold kidIn liveIn
  by_cases h : z = 0
  · subst h; simp
  · by_cases h1 : 1 ≤ z
    · simp [h, h1, show 0 ≤ z by omega]
    · simp [h1, show ¬ 0 ≤ z by omega]

set_option maxHeartbeats 1000000 in
theorem liveKids_any (a : Option Addr) (m c : Nat) (K : Nat → Int) (Z : Nat → Bool) (n : Nat) (w : World) (hS : IsInts w a m K) (hK : ∀ i, i < m → In64 (K i)) (hm : m ≤ maxLen) (hn : n ≤ 10) :
    Calls Tryz.prog 152 #[.slice a m c, .int .u16 (bvv Z n : Nat)] w fun e w' => w' = w ∧ e = .returned (.bool (kidsIn n Z K m)) := by
  unfold maxLen at hm
  go_enter Tryz.func152, Tryz.ntmps152
  go_wp2
  go_loopw [9] (fun i wr => ∃ k : Nat, k ≤ m ∧ i = .int .i64 k ∧ wr = w ∧ kidsIn n Z K k = true) (fun i _ => m - (intOf i).toNat)
  case atStart => exact ⟨0, Nat.zero_le _, rfl, rfl, rfl⟩
  case round =>
    obtain ⟨k, hk, rfl, rfl, heq⟩ := hrel
    have HE : Hid (kidsIn n Z K k = true) := heq
    clear heq
    by_cases hlt : k < m
    · obtain ⟨b, off, rfl, hlt2, hc⟩ := hS.at hlt
      have g0 := hc k hlt
      have hlti : (k : Int) < (m : Int) := by omega
      clear hc
      cases hz : (K k == 0) with
      | true =>
        have HX : Hid (kidsIn n Z K m = false) := kidsIn_bad hlt (by rw [kidIn_eq, hz]; rfl)
        go_wp2_with fail
        go_ret
        exact ⟨rfl, ret_bool HX.out.symm⟩
      | false =>
        have HC : Hid (Calls Tryz.prog 133 #[.int .u16 (bvv Z n : Nat), .int .i64 (K k)] wr fun e w' => w' = wr ∧ e = .returned (.bool (liveIn n Z (K k)))) := has_any Z n (K k) wr hn (hK k hlt)
        have HZ : Hid ((K k == 0) = false) := hz
        go_wp2_with fail
        refine HC.out.mono ?_
        rintro e w' ⟨rfl, rfl⟩
        cases hl : liveIn n Z (K k) with
        | false =>
          have HX : Hid (kidsIn n Z K m = false) := kidsIn_bad hlt (by rw [kidIn_eq, hl]; simp)
          clear hl HC
          go_wp2
          go_ret
          exact ⟨rfl, ret_bool HX.out.symm⟩
        | true =>
          have HX : Hid (kidIn n Z (K k) = true) := by show _ = _; rw [kidIn_eq, hl, HZ.out]; rfl
          clear hl HC
          go_wp2
          go_roundw
          case rel => exact ⟨k + 1, by omega, by go_num, by trivial, kidsIn_succ HE.out HX.out⟩
          case measure => simp [intOf]; omega
    · obtain rfl : k = m := by omega
      go_wp2
      go_ret
      exact ⟨rfl, ret_bool HE.out.symm⟩

set_option maxHeartbeats 2000000 in
theorem itemOk_any (d : Dp) (o : Int) (x : Nd) (lo : Loc) (w : World) (hI : NdIn w x lo) (hf : x.Fits) (hn : d.ln ≤ 10) (ho : 0 ≤ o) :
    Calls Tryz.prog 134 #[itV o x lo, .int .u16 (bvv d.live d.ln : Nat)] w fun e w' => Below w.heap.size w w' ∧ e = .returned (.bool (nodeIn d o x)) := by
  unfold itV
  have HEND : Hid (∀ (c0 : Array Value) (t0 : TypeId), Below w.heap.size w (w.alloc (.cells c0 t0))) := fun c0 t0 => (Below.refl _ _).alloc (Nat.le_refl _) _
  by_cases k1 : x.kind = 1
  · have c1 : (x.kind == 1) = true := by simp [k1]
    have H : Hid ((fileIs x && decide (0 < o)) = nodeIn d o x) := by show _ = _; unfold nodeIn; rw [if_pos k1]
    clear k1
    by_cases h0 : o = 0
    · have hb0 : (o != 0) = false := by simp [h0]
      have HX : Hid (false = nodeIn d o x) := by show _ = _; rw [← H.out, decide_eq_false (show ¬ 0 < o by omega)]; simp
      clear h0
      go_enter Tryz.func134, Tryz.ntmps134
      go_wp2_with fail
      go_ret
      exact ⟨HEND.out _ _, ret_bool HX.out⟩
    · have hb0 : (o != 0) = true := by simp [h0]
      have HX : Hid (fileIs x = nodeIn d o x) := by show _ = _; rw [← H.out, decide_eq_true (show 0 < o by omega)]; simp
      clear h0
      go_enter Tryz.func134, Tryz.ntmps134
      go_wp2_with fail
      refine at_world (F := New1 w _ _) (new1 w _ _) ?_
      rintro W ⟨hp, hb, hs⟩
      refine (implFileOk_any x lo W hf).mono ?_
      rintro e w1 ⟨hb1, rfl⟩
      have HB : Hid (Below w.heap.size w w1) := hb.trans (hb1.mono (by omega))
      clear hp hb hb1
      rw [HX.out]
      go_wp2
      go_ret
      exact ⟨HB.out, rfl⟩
  · have c1 : (x.kind == 1) = false := by simp [k1]
    by_cases k2 : x.kind = 2
    · have c2 : (x.kind == 2) = true := by simp [k2]
      have H : Hid ((dirIs x && kidsIn d.ln d.live x.kids x.kn) = nodeIn d o x) := by show _ = _; unfold nodeIn; rw [if_neg k1, if_pos k2]
      clear k1 k2
      go_enter Tryz.func134, Tryz.ntmps134
      go_wp2_with fail
      refine at_world (F := New1 w _ _) (new1 w _ _) ?_
      rintro W ⟨hp, hb, hs⟩
      refine (implDirOk_any x lo W (hI.below (Nat.le_refl _) hb) hf).mono ?_
      rintro e w1 ⟨hb1, rfl⟩
      have p4 : w1.cell? ⟨w.heap.size, 4, none⟩ = some (.slice lo.kA x.kn lo.kc) := (hp.below hb1 (by omega)).cell 4
      have HB : Hid (Below w.heap.size w w1) := hb.trans (hb1.mono (by omega))
      clear hp hb hb1
      cases hd : dirIs x with
      | false =>
        have HX : Hid (false = nodeIn d o x) := by show _ = _; rw [← H.out, hd]; rfl
        clear hd
        go_wp2_with fail
        go_ret
        exact ⟨HB.out, ret_bool HX.out⟩
      | true =>
        have HX : Hid (kidsIn d.ln d.live x.kids x.kn = nodeIn d o x) := by show _ = _; rw [← H.out, hd]; rfl
        clear hd
        go_wp2_with fail
        refine (liveKids_any lo.kA x.kn lo.kc x.kids d.live d.ln w1 (hI.2.below (Nat.le_refl _) HB.out) hf.kids hf.kn hn).mono ?_
        rintro e w2 ⟨rfl, rfl⟩
        rw [HX.out]
        clear p4
        go_wp2
        go_ret
        exact ⟨HB.out, rfl⟩
    · have c2 : (x.kind == 2) = false := by simp [k2]
      have HX : Hid (false = nodeIn d o x) := by show _ = _; unfold nodeIn; rw [if_neg k1, if_neg k2]
      clear k1 k2
      go_enter Tryz.func134, Tryz.ntmps134
      go_wp2_with fail
      go_ret
      exact ⟨HEND.out _ _, ret_bool HX.out⟩
end Go.Proofs.YtfdjfndpeeomkaaGreatDoor
