/-
  What the helpers of the exact laws do at what is kept of a tree.
-/
import Derived.Test.YtnnhdcohfabenaaItems
import Derived.Test.YtnnhdcohfabenaaTreeSmall
namespace Go.Proofs.Ytnnhdcohfabenaa
open Go.RowKit
set_option linter.unusedVariables false
set_option linter.unusedSimpArgs false

set_option maxHeartbeats 1000000 in
theorem szDump_any (d : Dp) (l : DLoc) (left : Int) (w : World) (hI : DpIn w d l) (hf : d.Fits) (h0 : 0 ≤ left) (h1 : left ≤ 1048576) :
    Calls Try.prog 7 #[dpV d l, .int .i64 left] w fun e w' => Below w.heap.size w w' ∧ ∃ r : Int, e = .returned (.int .i64 r) ∧ r ≤ left ∧ (0 ≤ r → r + d.size ≤ left) := by
  unfold dpV Dp.size
  have hn := hf.ln
  go_enter Try.func7, Try.ntmps7
  go_wp2_with fail
  refine at_world (F := New1 w _ _) (new1 w _ _) ?_
  rintro W ⟨hp, hb, hs⟩
  refine (szBoolS_any l.lA d.ln l.lc left W hn h0 h1).mono ?_
  rintro e w1 ⟨rfl, r, rfl, hr1, hr2⟩
  by_cases hr3 : r < 0
  · have hr3' : decide (r < 0) = true := by simp; omega
    have HB : Hid (Below w.heap.size w W) := hb
    clear hb hp hr2
    go_wp2
    go_ret
    exact ⟨HB.out, -1, rfl, by omega, fun h => by omega⟩
  · have hr3' : decide (r < 0) = false := by simp; omega
    have p3 : W.cell? ⟨w.heap.size, 3, none⟩ = some (.slice l.iA d.m l.ic) := hp.cell 3
    have hr4 := hr2 (by omega)
    clear hr2 hp
    go_wp2_with fail
    refine (szItemS_any l.iA d.m l.ic d.ino d.nd l.L r W (hI.items.below (Nat.le_refl _) hb) hf.nds hf.m (by omega) (by omega)).mono ?_
    rintro e w2 ⟨hb2, r', rfl, hr1', hr2'⟩
    have HB : Hid (Below w.heap.size w w2 ∧ (0 ≤ r' → r' + d.m + sizeTo d.nd d.m ≤ r)) := ⟨hb.trans (hb2.mono (by omega)), hr2'⟩
    clear hb hb2 hr2' p3
    by_cases hr5 : r' < 0
    · have hr5' : decide (r' < 0) = true := by simp; omega
      go_wp2
      go_ret
      exact ⟨HB.out.1, -1, rfl, by omega, fun h => by omega⟩
    · have hr5' : decide (r' < 0) = false := by simp; omega
      go_wp2
      go_ret
      exact ⟨HB.out.1, r', rfl, by omega, fun h => by have := HB.out.2 h; omega⟩

theorem toBoolS_at (a : Option Addr) (n c : Nat) (Z : Nat → Bool) (w : World) (hS : IsBools w a n Z) (hn : n ≤ 1048576) :
    Calls Try.prog 27 #[.slice a n c] w fun e w' => ∃ b, e = .returned (.slice (some ⟨b, 0, none⟩) n n) ∧ w.heap.size ≤ b ∧ b < w'.heap.size ∧ Below w.heap.size w w' ∧ IsBools w' (some ⟨b, 0, none⟩) n Z :=
  (toBoolS_any a n c Z w hS hn).mono fun e w' ⟨he, hb, hr⟩ => ⟨_, he, Nat.le_refl _, hr.lt, hb, IsBools.row hr⟩

/-- What is known within toDump, the truth values being copied. -/
structure Dump2 (w : World) (d : Dp) (l : DLoc) (b : Nat) (W : World) : Prop where
  p : Blk W w.heap.size #[.int .i64 d.since, .int .i64 d.date, .slice l.lA d.ln l.lc, .slice l.iA d.m l.ic] 25
  r : Blk W (w.heap.size + 1) #[.int .i64 0, .int .i64 0, .slice none 0 0, .slice none 0 0] 30
  o : Blk W (w.heap.size + 1 + 1) #[.int .i64 d.since, .int .i64 d.date, .slice (some ⟨b, 0, none⟩) d.ln d.ln, .slice none 0 0] 30
  bel : Below w.heap.size w W
  size : w.heap.size + 3 ≤ W.heap.size
  le : w.heap.size + 3 ≤ b
  lt : b < W.heap.size
  live : IsBools W (some ⟨b, 0, none⟩) d.ln d.live

/-- What is known at toDump's end. -/
structure DumpEnd (w : World) (d : Dp) (b b' : Nat) (W : World) : Prop where
  r : Blk W (w.heap.size + 1) #[.int .i64 d.since, .int .i64 d.date, .slice (some ⟨b, 0, none⟩) d.ln d.ln, .slice (some ⟨b', 0, none⟩) d.m d.m] 30
  bel : Below w.heap.size w W
  live : IsBools W (some ⟨b, 0, none⟩) d.ln d.live
  items : ∃ L', ItRow W b' d.m d.m d.ino d.nd L'

set_option maxHeartbeats 1000000 in
theorem toDump_any (d : Dp) (l : DLoc) (w : World) (hI : DpIn w d l) (hsz : d.size ≤ 1048576) :
    Calls Try.prog 9 #[dpV d l] w fun e w' => ∃ l', e = .returned (dpV d l') ∧ Below w.heap.size w w' ∧ DpIn w' d l' := by
  unfold dpV
  have hln : d.ln ≤ 1048576 := by unfold Dp.size at hsz; omega
  have hm : d.m ≤ 1048576 := by unfold Dp.size at hsz; omega
  have HSM : Hid (∀ i, i < d.m → (d.nd i).nn ≤ 1048576 ∧ (d.nd i).kn ≤ 1048576) := small_of_size (by unfold Dp.size at hsz; omega)
  go_enter Try.func9, Try.ntmps9
  go_wp2_with fail
  refine at_world (F := New3 w _ _ _ _ _ _) (new3 w _ _ _ _ _ _) ?_
  rintro W ⟨hp, hr, ho, hb0, hs0⟩
  refine (toBoolS_at l.lA d.ln l.lc d.live _ (hI.live.below (Nat.le_refl _) hb0) hln).mono ?_
  rintro e w1 ⟨b, rfl, hge, hlt, hb1, hS1⟩
  have hp1 := hp.below hb1 (by omega)
  have hr1 := hr.below hb1 (by omega)
  have ho1 := ho.below hb1 (by omega)
  have hB1 := hb0.trans (hb1.mono (by omega))
  have o2 : w1.cell? ⟨w.heap.size + 1 + 1, 2, none⟩ = some (.slice none 0 0) := ho1.cell 2
  have f2 := ho1.frozen 2
  have p3 : w1.cell? ⟨w.heap.size, 3, none⟩ = some (.slice l.iA d.m l.ic) := hp1.cell 3
  have hsz1 := hb1.size
  have F2 : Hid (Dump2 w d l b _) := ⟨hp1.off (b' := w.heap.size + 1 + 1) (i := 2) (.slice (some ⟨b, 0, none⟩) d.ln d.ln) (by omega), hr1.off _ (by omega), ho1.set 2 _, bel_put hB1 _ (by omega), by simp; omega, by omega, by simp; omega, hS1.off _ (by omega)⟩
  clear hp hr ho hb0 hb1 hp1 hr1 ho1 hB1 hS1
  go_wp2_with fail
  refine at_world (F := Dump2 w d l b) F2.out ?_
  clear F2 hge hlt f2 o2 p3 hs0 hsz1
  rintro W ⟨hp, hr, ho, hb0, hs0, hlb, hbl, hS⟩
  refine (toItemS_any l.iA d.m l.ic d.ino d.nd l.L _ (hI.items.below (Nat.le_refl _) hb0) hm HSM.out).mono ?_
  rintro e w2 ⟨rfl, hb1, hrow⟩
  have hp1 := hp.below hb1 (by omega)
  have hr1 := hr.below hb1 (by omega)
  have ho1 := ho.below hb1 (by omega)
  have hB1 := hb0.trans (hb1.mono (by omega))
  have hS1 := hS.below (Nat.le_refl _) hb1
  have hsz := hb1.size
  have o0 : w2.cell? ⟨w.heap.size + 1 + 1, 0, none⟩ = some (.int .i64 d.since) := ho1.cell 0
  have o1 : w2.cell? ⟨w.heap.size + 1 + 1, 1, none⟩ = some (.int .i64 d.date) := ho1.cell 1
  have o2 : w2.cell? ⟨w.heap.size + 1 + 1, 2, none⟩ = some (.slice (some ⟨b, 0, none⟩) d.ln d.ln) := ho1.cell 2
  have o3 : w2.cell? ⟨w.heap.size + 1 + 1, 3, none⟩ = some (.slice none 0 0) := ho1.cell 3
  have f3 := ho1.frozen 3
  have r0 : w2.cell? ⟨w.heap.size + 1, 0, none⟩ = some (.int .i64 0) := hr1.cell 0
  have r1 : w2.cell? ⟨w.heap.size + 1, 1, none⟩ = some (.int .i64 0) := hr1.cell 1
  have r2 : w2.cell? ⟨w.heap.size + 1, 2, none⟩ = some (.slice none 0 0) := hr1.cell 2
  have r3 : w2.cell? ⟨w.heap.size + 1, 3, none⟩ = some (.slice none 0 0) := hr1.cell 3
  have g0 := hr1.frozen 0
  have g1 := hr1.frozen 1
  have g2 := hr1.frozen 2
  have g3 := hr1.frozen 3
  have FB : Hid (Blk w2 (w.heap.size + 1) _ _ ∧ Below w.heap.size w w2 ∧ IsBools w2 (some ⟨b, 0, none⟩) d.ln d.live ∧ ∃ L', ItRow w2 W.heap.size d.m d.m d.ino d.nd L') := ⟨hr1, hB1, hS1, hrow⟩
  have hs1 : w.heap.size + 3 ≤ W.heap.size := by omega
  have hbw : b < W.heap.size := hbl
  generalize W.heap.size = bW at *
  clear hp hr ho hb0 hb1 hp1 hr1 ho1 hB1 hS1 hrow hS hs0
  go_wp2_with fail
  obtain ⟨hr, hB, hS, L', hrow⟩ := FB.out
  refine end_world (F := DumpEnd w d b bW)
    ⟨((((hr.off _ (by omega)).set 0 _).set 1 _).set 2 _).set 3 _,
     bel_put (bel_put (bel_put (bel_put (bel_put hB _ (by omega)) _ (by omega)) _ (by omega)) _ (by omega)) _ (by omega),
     ((((hS.off _ (by omega)).off _ (by omega)).off _ (by omega)).off _ (by omega)).off _ (by omega),
     L', ((((hrow.off _ (by omega)).off _ (by omega)).off _ (by omega)).off _ (by omega)).off _ (by omega)⟩ ?_
  clear hr hB hS hrow FB o0 o1 o2 o3 f3 r0 r1 r2 r3 g0 g1 g2 g3
  rintro W ⟨hr, hB, hS, L2, hrow⟩
  have r0 : W.cell? ⟨w.heap.size + 1, 0, none⟩ = some (.int .i64 d.since) := hr.cell 0
  have r1 : W.cell? ⟨w.heap.size + 1, 1, none⟩ = some (.int .i64 d.date) := hr.cell 1
  have r2 : W.cell? ⟨w.heap.size + 1, 2, none⟩ = some (.slice (some ⟨b, 0, none⟩) d.ln d.ln) := hr.cell 2
  have r3 : W.cell? ⟨w.heap.size + 1, 3, none⟩ = some (.slice (some ⟨bW, 0, none⟩) d.m d.m) := hr.cell 3
  exact bodyPost_ret (v := .agg #[.int .i64 d.since, .int .i64 d.date, .slice (some ⟨b, 0, none⟩) d.ln d.ln, .slice (some ⟨bW, 0, none⟩) d.m d.m]) (by simp [results, Try.results9, go_sem, r0, r1, r2, r3]) rfl ⟨⟨some ⟨b, 0, none⟩, d.ln, some ⟨bW, 0, none⟩, d.m, L2⟩, rfl, hB, hS, hrow.its⟩

set_option maxHeartbeats 1000000 in
theorem eqDump_any (d e : Dp) (l k : DLoc) (w : World) (hI : DpIn w d l) (hI' : DpIn w e k) (hf : d.Fits) (hf' : e.Fits) :
    Calls Try.prog 11 #[dpV d l, dpV e k] w fun r w' => Below w.heap.size w w' ∧ r = .returned (.bool (d.same e)) := by
  unfold dpV
  have hl := hf.ln
  have hl' := hf'.ln
  cases h1 : (d.since == e.since) with
  | false =>
    have hnb : (d.since != e.since) = true := by simp only [bne, h1]; rfl
    have HX : Hid (false = d.same e) := by show _ = _; unfold Dp.same; rw [h1]; rfl
    clear h1
    go_enter Try.func11, Try.ntmps11
    go_wp2_with fail
    go_ret
    exact ⟨((Below.refl _ _).alloc (Nat.le_refl _) _).alloc (by simp) _, ret_bool HX.out⟩
  | true =>
  have hnb : (d.since != e.since) = false := by simpa [bne] using h1
  cases h2 : (d.date == e.date) with
  | false =>
    have hnc : (d.date != e.date) = true := by simp only [bne, h2]; rfl
    have HX : Hid (false = d.same e) := by show _ = _; unfold Dp.same; rw [h1, h2]; rfl
    clear h1 h2
    go_enter Try.func11, Try.ntmps11
    go_wp2_with fail
    go_ret
    exact ⟨((Below.refl _ _).alloc (Nat.le_refl _) _).alloc (by simp) _, ret_bool HX.out⟩
  | true =>
  have hnc : (d.date != e.date) = false := by simpa [bne] using h2
  have HX : Hid (((decide (d.ln = e.ln) && eqB d.ln d.live e.live) && (decide (d.m = e.m) && sameIts d.m d.ino e.ino d.nd e.nd)) = d.same e) := by show _ = _; unfold Dp.same; rw [h1, h2]; rfl
  clear h1 h2
  go_enter Try.func11, Try.ntmps11
  go_wp2_with fail
  refine at_world (F := New2 w _ _ _ _) (new2 w _ _ _ _) ?_
  rintro W ⟨hp, hp', hb, hs⟩
  refine (eqBoolS_any l.lA k.lA d.ln l.lc e.ln k.lc d.live e.live W (hI.live.below (Nat.le_refl _) hb) (hI'.live.below (Nat.le_refl _) hb) hl hl').mono ?_
  rintro r w1 ⟨⟨q, rfl⟩, rfl⟩
  have p3 : W.cell? ⟨w.heap.size, 3, none⟩ = some (.slice l.iA d.m l.ic) := hp.cell 3
  have q3 : W.cell? ⟨w.heap.size + 1, 3, none⟩ = some (.slice k.iA e.m k.ic) := hp'.cell 3
  have HB : Hid (Below w.heap.size w W) := hb
  clear hp hp' hb
  cases hq1 : (decide (d.ln = e.ln) && eqB d.ln d.live e.live) with
  | false =>
    have HQ : Hid ((decide (d.ln = e.ln) && eqB d.ln d.live e.live) = false) := hq1
    clear hq1
    go_wp2
    go_ret
    exact ⟨below_drewN HB.out _, ret_bool (by rw [← HX.out, HQ.out]; rfl)⟩
  | true =>
    have HQ : Hid ((decide (d.ln = e.ln) && eqB d.ln d.live e.live) = true) := hq1
    clear hq1
    go_wp2_with fail
    have hB2 := below_drewN HB.out q
    refine (eqItemS_any l.iA k.iA d.m l.ic e.m k.ic d.ino e.ino d.nd e.nd l.L k.L (W.drewN q) (hI.items.below (Nat.le_refl _) hB2) (hI'.items.below (Nat.le_refl _) hB2) hf.nds hf'.nds hf.m hf'.m).mono ?_
    rintro r w2 ⟨hb2, rfl⟩
    have HB2 : Hid (Below w.heap.size w w2) := hB2.trans (hb2.mono hB2.size)
    clear hb2 hB2 HB p3 q3
    cases hq1 : (decide (d.m = e.m) && sameIts d.m d.ino e.ino d.nd e.nd) with
    | false =>
      have HZ : Hid ((decide (d.m = e.m) && sameIts d.m d.ino e.ino d.nd e.nd) = false) := hq1
      clear hq1
      go_wp2
      go_ret
      exact ⟨HB2.out, ret_bool (by rw [← HX.out, HQ.out, HZ.out]; rfl)⟩
    | true =>
      have HZ : Hid ((decide (d.m = e.m) && sameIts d.m d.ino e.ino d.nd e.nd) = true) := hq1
      clear hq1
      go_wp2
      go_ret
      exact ⟨HB2.out, ret_bool (by rw [← HX.out, HQ.out, HZ.out]; rfl)⟩
end Go.Proofs.Ytnnhdcohfabenaa
