/-
  What the small helpers of the exact laws do at a place of a tree and at a list of them.
-/
import Derived.Test.YtnnhdcohfabenaaNodesBase
import Derived.Test.YtnnhdcohfabenaaBlk
import Derived.Test.YtnnhdcohfabenaaStrs
import Derived.Test.YtnnhdcohfabenaaInts
namespace Go.Proofs.Ytnnhdcohfabenaa
open Go.RowKit
set_option linter.unusedVariables false

set_option maxHeartbeats 400000 in
theorem szNode_any (d : Nd) (l : Loc) (left : Int) (w : World) (hI : NdIn w d l) (hf : d.Fits) (h0 : 0 ≤ left) (h1 : left ≤ 1048576) :
    Calls Try.prog 63 #[ndV d l, .int .i64 left] w fun e w' => Below w.heap.size w w' ∧ ∃ r : Int, e = .returned (.int .i64 r) ∧ r ≤ left ∧ (0 ≤ r → r + d.size ≤ left) := by
  unfold ndV Nd.size
  have ht := hf.text
  unfold maxLen at ht
  by_cases hbig : left < d.text.size
  · go_enter Try.func63, Try.ntmps63
    go_wp2
    go_ret
    exact ⟨(Below.refl _ _).alloc (Nat.le_refl _) _, -1, rfl, by omega, fun h => by omega⟩
  · go_enter Try.func63, Try.ntmps63
    go_wp2_with fail
    refine (szStringS_any l.nA d.nn l.nc d.names _ _ (hI.1.below (Nat.le_refl _) ((Below.refl _ _).alloc (Nat.le_refl _) _)) hf.names hf.nn (by omega) (by omega)).mono ?_
    rintro e w0 ⟨rfl, r, rfl, hr1, hr2⟩
    by_cases hr : r < 0
    · go_wp2
      go_ret
      exact ⟨(Below.refl _ _).alloc (Nat.le_refl _) _, -1, rfl, by omega, fun h => by omega⟩
    · have hr' : decide (r < 0) = false := by simp; omega
      have HR := hr2 (by omega)
      clear hr2
      go_wp2_with fail
      refine (szIntS_any l.kA d.kn l.kc _ _ hf.kn (by omega) (by omega)).mono ?_
      rintro e w0 ⟨rfl, r', rfl, hr1', hr2'⟩
      by_cases hr3 : r' < 0
      · go_wp2
        go_ret
        exact ⟨(Below.refl _ _).alloc (Nat.le_refl _) _, -1, rfl, by omega, fun h => by omega⟩
      · have hr3' : decide (r' < 0) = false := by simp; omega
        have HR' := hr2' (by omega)
        clear hr2'
        go_wp2
        go_ret
        exact ⟨(Below.refl _ _).alloc (Nat.le_refl _) _, r', rfl, by omega, fun h => by omega⟩

theorem toStringS_at (a : Option Addr) (n c : Nat) (S : Nat → ByteArray) (w : World) (hS : IsStrs w a n S) (hn : n ≤ 1048576) :
    Calls Try.prog 88 #[.slice a n c] w fun e w' => ∃ b, e = .returned (.slice (some ⟨b, 0, none⟩) n n) ∧ w.heap.size ≤ b ∧ b < w'.heap.size ∧ Below w.heap.size w w' ∧ IsStrs w' (some ⟨b, 0, none⟩) n S :=
  (toStringS_any a n c S w hS hn).mono fun e w' ⟨he, hb, hr⟩ => ⟨_, he, Nat.le_refl _, hr.lt, hb, IsStrs.row hr⟩

theorem toIntS_at (a : Option Addr) (n c : Nat) (Z : Nat → Int) (w : World) (hS : IsInts w a n Z) (hn : n ≤ 1048576) :
    Calls Try.prog 89 #[.slice a n c] w fun e w' => ∃ b, e = .returned (.slice (some ⟨b, 0, none⟩) n n) ∧ w.heap.size ≤ b ∧ b < w'.heap.size ∧ Below w.heap.size w w' ∧ IsInts w' (some ⟨b, 0, none⟩) n Z :=
  (toIntS_any a n c Z w hS hn).mono fun e w' ⟨he, hb, hr⟩ => ⟨_, he, Nat.le_refl _, hr.lt, hb, IsInts.row hr⟩

/-- What is known within toNode, the names being copied. -/
structure Node2 (w : World) (d : Nd) (l : Loc) (b : Nat) (W : World) : Prop where
  p : Blk W w.heap.size #[.int .i64 d.kind, .string d.text, .slice l.nA d.nn l.nc, .slice l.kA d.kn l.kc, .int .i64 d.turn] 85
  r : Blk W (w.heap.size + 1) #[.int .i64 0, .string ByteArray.empty, .slice none 0 0, .slice none 0 0, .int .i64 0] 56
  o : Blk W (w.heap.size + 1 + 1) #[.int .i64 d.kind, .string d.text, .slice (some ⟨b, 0, none⟩) d.nn d.nn, .slice none 0 0, .int .i64 0] 56
  bel : Below w.heap.size w W
  size : w.heap.size + 3 ≤ W.heap.size
  le : w.heap.size + 3 ≤ b
  lt : b < W.heap.size
  names : IsStrs W (some ⟨b, 0, none⟩) d.nn d.names

/-- What is known at toNode's end. -/
structure NodeEnd (w : World) (d : Nd) (b b' : Nat) (W : World) : Prop where
  r : Blk W (w.heap.size + 1) #[.int .i64 d.kind, .string d.text, .slice (some ⟨b, 0, none⟩) d.nn d.nn, .slice (some ⟨b', 0, none⟩) d.kn d.kn, .int .i64 d.turn] 56
  bel : Below w.heap.size w W
  names : IsStrs W (some ⟨b, 0, none⟩) d.nn d.names
  kids : IsInts W (some ⟨b', 0, none⟩) d.kn d.kids

set_option maxHeartbeats 1000000 in
theorem toNode_any (d : Nd) (l : Loc) (w : World) (hI : NdIn w d l) (hn : d.nn ≤ 1048576) (hk : d.kn ≤ 1048576) :
    Calls Try.prog 67 #[ndV d l] w fun e w' => ∃ l', e = .returned (ndV d l') ∧ Below w.heap.size w w' ∧ NdIn w' d l' ∧ l'.Past w.heap.size := by
  unfold ndV
  go_enter Try.func67, Try.ntmps67
  go_wp2_with fail
  refine at_world (F := New3 w _ _ _ _ _ _) (new3 w _ _ _ _ _ _) ?_
  rintro W ⟨hp, hr, ho, hb0, hs0⟩
  refine (toStringS_at l.nA d.nn l.nc d.names _ (hI.1.below (Nat.le_refl _) hb0) hn).mono ?_
  rintro e w1 ⟨b, rfl, hge, hlt, hb1, hS1⟩
  have hp1 := hp.below hb1 (by omega)
  have hr1 := hr.below hb1 (by omega)
  have ho1 := ho.below hb1 (by omega)
  have hk1 := (hI.2.below (Nat.le_refl _) hb0).below (Nat.le_refl _) hb1
  have hB1 := hb0.trans (hb1.mono (by omega))
  have o2 : w1.cell? ⟨w.heap.size + 1 + 1, 2, none⟩ = some (.slice none 0 0) := ho1.cell 2
  have f2 := ho1.frozen 2
  have p3 : w1.cell? ⟨w.heap.size, 3, none⟩ = some (.slice l.kA d.kn l.kc) := hp1.cell 3
  have hsz1 := hb1.size
  have F2 : Hid (Node2 w d l b _) := ⟨hp1.off (b' := w.heap.size + 1 + 1) (i := 2) (.slice (some ⟨b, 0, none⟩) d.nn d.nn) (by omega), hr1.off _ (by omega), ho1.set 2 _, bel_put hB1 _ (by omega), by simp; omega, by omega, by simp; omega, hS1.off _ (by omega)⟩
  clear hp hr ho hb0 hb1 hp1 hr1 ho1 hk1 hB1 hS1
  go_wp2_with fail
  refine at_world (F := Node2 w d l b) F2.out ?_
  clear F2 hge hlt f2 o2 p3 hs0 hsz1
  rintro W ⟨hp, hr, ho, hb0, hs0, hlb, hbl, hS⟩
  refine (toIntS_at l.kA d.kn l.kc d.kids _ (hI.2.below (Nat.le_refl _) hb0) hk).mono ?_
  rintro e w2 ⟨b', rfl, hge, hlt, hb1, hZ⟩
  have hp1 := hp.below hb1 (by omega)
  have hr1 := hr.below hb1 (by omega)
  have ho1 := ho.below hb1 (by omega)
  have hB1 := hb0.trans (hb1.mono (by omega))
  have hS1 := hS.below (Nat.le_refl _) hb1
  have hsz := hb1.size
  have o0 : w2.cell? ⟨w.heap.size + 1 + 1, 0, none⟩ = some (.int .i64 d.kind) := ho1.cell 0
  have o1 : w2.cell? ⟨w.heap.size + 1 + 1, 1, none⟩ = some (.string d.text) := ho1.cell 1
  have o2 : w2.cell? ⟨w.heap.size + 1 + 1, 2, none⟩ = some (.slice (some ⟨b, 0, none⟩) d.nn d.nn) := ho1.cell 2
  have o3 : w2.cell? ⟨w.heap.size + 1 + 1, 3, none⟩ = some (.slice none 0 0) := ho1.cell 3
  have o4 : w2.cell? ⟨w.heap.size + 1 + 1, 4, none⟩ = some (.int .i64 0) := ho1.cell 4
  have f3 := ho1.frozen 3
  have f4 := ho1.frozen 4
  have p4 : w2.cell? ⟨w.heap.size, 4, none⟩ = some (.int .i64 d.turn) := hp1.cell 4
  have r0 : w2.cell? ⟨w.heap.size + 1, 0, none⟩ = some (.int .i64 0) := hr1.cell 0
  have r1 : w2.cell? ⟨w.heap.size + 1, 1, none⟩ = some (.string ByteArray.empty) := hr1.cell 1
  have r2 : w2.cell? ⟨w.heap.size + 1, 2, none⟩ = some (.slice none 0 0) := hr1.cell 2
  have r3 : w2.cell? ⟨w.heap.size + 1, 3, none⟩ = some (.slice none 0 0) := hr1.cell 3
  have r4 : w2.cell? ⟨w.heap.size + 1, 4, none⟩ = some (.int .i64 0) := hr1.cell 4
  have g0 := hr1.frozen 0
  have g1 := hr1.frozen 1
  have g2 := hr1.frozen 2
  have g3 := hr1.frozen 3
  have g4 := hr1.frozen 4
  have FB : Hid (Blk w2 (w.heap.size + 1) _ _ ∧ Below w.heap.size w w2 ∧ IsStrs w2 (some ⟨b, 0, none⟩) d.nn d.names ∧ IsInts w2 (some ⟨b', 0, none⟩) d.kn d.kids) := ⟨hr1, hB1, hS1, hZ⟩
  clear hp hr ho hb0 hb1 hp1 hr1 ho1 hB1 hS1 hZ hS
  go_wp2_with fail
  obtain ⟨hr, hB, hS, hZ⟩ := FB.out
  refine end_world (F := NodeEnd w d b b')
    ⟨((((((hr.off _ (by omega)).off _ (by omega)).set 0 _).set 1 _).set 2 _).set 3 _).set 4 _,
     bel_put (bel_put (bel_put (bel_put (bel_put (bel_put (bel_put hB _ (by omega)) _ (by omega)) _ (by omega)) _ (by omega)) _ (by omega)) _ (by omega)) _ (by omega),
     ((((((hS.off _ (by omega)).off _ (by omega)).off _ (by omega)).off _ (by omega)).off _ (by omega)).off _ (by omega)).off _ (by omega),
     ((((((hZ.off _ (by omega)).off _ (by omega)).off _ (by omega)).off _ (by omega)).off _ (by omega)).off _ (by omega)).off _ (by omega)⟩ ?_
  clear hr hB hS hZ FB o0 o1 o2 o3 o4 f3 f4 p4 r0 r1 r2 r3 r4 g0 g1 g2 g3 g4
  rintro W ⟨hr, hB, hS, hZ⟩
  have r0 : W.cell? ⟨w.heap.size + 1, 0, none⟩ = some (.int .i64 d.kind) := hr.cell 0
  have r1 : W.cell? ⟨w.heap.size + 1, 1, none⟩ = some (.string d.text) := hr.cell 1
  have r2 : W.cell? ⟨w.heap.size + 1, 2, none⟩ = some (.slice (some ⟨b, 0, none⟩) d.nn d.nn) := hr.cell 2
  have r3 : W.cell? ⟨w.heap.size + 1, 3, none⟩ = some (.slice (some ⟨b', 0, none⟩) d.kn d.kn) := hr.cell 3
  have r4 : W.cell? ⟨w.heap.size + 1, 4, none⟩ = some (.int .i64 d.turn) := hr.cell 4
  exact bodyPost_ret (v := .agg #[.int .i64 d.kind, .string d.text, .slice (some ⟨b, 0, none⟩) d.nn d.nn, .slice (some ⟨b', 0, none⟩) d.kn d.kn, .int .i64 d.turn]) (by simp [results, Try.results67, go_sem, r0, r1, r2, r3, r4]) rfl ⟨⟨some ⟨b, 0, none⟩, d.nn, some ⟨b', 0, none⟩, d.kn⟩, rfl, hB, ⟨hS, hZ⟩, ⟨b, 0, rfl, by omega⟩, b', 0, rfl, by omega⟩
end Go.Proofs.Ytnnhdcohfabenaa
