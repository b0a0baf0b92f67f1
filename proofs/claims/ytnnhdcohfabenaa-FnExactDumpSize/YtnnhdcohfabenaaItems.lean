/-
  What the small helpers of the exact laws do at places that were turned, and at lists of them.
-/
import Derived.Test.YtnnhdcohfabenaaItemsBase
import Derived.Test.YtnnhdcohfabenaaNodesEq
import Derived.Test.YtnnhdcohfabenaaBools
namespace Go.Proofs.Ytnnhdcohfabenaa
open Go.RowKit
set_option linter.unusedVariables false
set_option linter.unusedSimpArgs false

set_option maxHeartbeats 400000 in
theorem szItem_any (o : Int) (d : Nd) (l : Loc) (left : Int) (w : World) (hI : NdIn w d l) (hf : d.Fits) (h0 : 0 ≤ left) (h1 : left ≤ 1048576) :
    Calls Try.prog 54 #[itV o d l, .int .i64 left] w fun e w' => Below w.heap.size w w' ∧ ∃ r : Int, e = .returned (.int .i64 r) ∧ r ≤ left ∧ (0 ≤ r → r + d.size ≤ left) := by
  unfold itV
  go_enter Try.func54, Try.ntmps54
  go_wp2_with fail
  refine at_world (F := New1 w _ _) (new1 w _ _) ?_
  rintro W ⟨hp, hb, hs⟩
  refine (szNode_any d l left W (hI.below (Nat.le_refl _) hb) hf h0 h1).mono ?_
  rintro e w1 ⟨hb1, r, rfl, hr1, hr2⟩
  have hB := hb.trans (hb1.mono (by omega))
  by_cases hr3 : r < 0
  · have hr3' : decide (r < 0) = true := by simp; omega
    have HB : Hid (Below w.heap.size w w1) := hB
    clear hB hb1 hb hp hr2
    go_wp2
    go_ret
    exact ⟨HB.out, -1, rfl, by omega, fun h => by omega⟩
  · have hr3' : decide (r < 0) = false := by simp; omega
    have HB : Hid (Below w.heap.size w w1 ∧ (0 ≤ r → r + d.size ≤ left)) := ⟨hB, hr2⟩
    clear hB hb1 hb hp hr2
    go_wp2
    go_ret
    exact ⟨HB.out.1, r, rfl, by omega, HB.out.2⟩

set_option maxHeartbeats 400000 in
theorem szItemS_any (a : Option Addr) (n c : Nat) (O : Nat → Int) (D : Nat → Nd) (L : Nat → Loc) (left : Int) (w : World) (hS : IsIts w a n O D L) (hf : FitAll n D) (hn : n ≤ maxLen) (h0 : 0 ≤ left) (h1 : left ≤ 1048576) :
    Calls Try.prog 25 #[.slice a n c, .int .i64 left] w fun e w' => Below w.heap.size w w' ∧ ∃ r : Int, e = .returned (.int .i64 r) ∧ r ≤ left ∧ (0 ≤ r → r + n + sizeTo D n ≤ left) := by
  unfold maxLen at hn
  by_cases hbig : left < n
  · go_enter Try.func25, Try.ntmps25
    go_wp2
    go_ret
    exact ⟨Below.refl _ _, -1, rfl, by omega, fun h => by omega⟩
  · go_enter Try.func25, Try.ntmps25
    go_wp2
    go_loopw [1, 5] (fun l i wr => ∃ (k : Nat) (r : Int), k ≤ n ∧ 0 ≤ r ∧ i = .int .i64 k ∧ l = .int .i64 r ∧ r + n + sizeTo D k ≤ left ∧ Below w.heap.size w wr) (fun _ i _ => n - (intOf i).toNat)
    case atStart => exact ⟨0, left - n, Nat.zero_le _, by omega, rfl, rfl, by simp [sizeTo], Below.refl _ _⟩
    case round =>
      obtain ⟨k, r, hk, hr, rfl, rfl, hsum, hbel⟩ := hrel
      by_cases hlt : k < n
      · obtain ⟨b, off, rfl, hlt2, hc⟩ := (hS.below (Nat.le_refl _) hbel).at hlt
        obtain ⟨c0, c1, c2, c3, c4, c5, hI⟩ := hc k hlt
        clear hc
        go_wp2_with fail
        refine (szItem_any (O k) (D k) (L k) r wr hI (hf k hlt) hr (by omega)).mono ?_
        rintro e w1 ⟨hb1, r', rfl, hr1, hr2⟩
        have hB := hbel.trans (hb1.mono hbel.size)
        by_cases hr3 : r' < 0
        · have hr3' : decide (r' < 0) = true := by simp; omega
          have HB : Hid (Below w.heap.size w w1) := hB
          clear hB hb1 hbel c0 c1 c2 c3 c4 c5 hI hr2
          go_wp2
          go_ret
          exact ⟨HB.out, -1, rfl, by omega, fun h => by omega⟩
        · have hr3' : decide (r' < 0) = false := by simp; omega
          have HS : Hid (r' + n + sizeTo D (k + 1) ≤ left ∧ Below w.heap.size w w1) := ⟨by have := hr2 (by omega); rw [sizeTo_succ]; omega, hB⟩
          clear hB hb1 hbel c0 c1 c2 c3 c4 c5 hI hr2 hsum
          go_wp2
          go_roundw
          case rel => exact ⟨k + 1, r', by omega, by omega, by go_num, by go_num, HS.out.1, HS.out.2⟩
          case measure => simp [intOf]; omega
      · go_wp2
        go_ret
        exact ⟨hbel, r, rfl, by omega, fun _ => by have : k = n := by omega
                                                   subst this; omega⟩

/-- What is known at toItem's end. -/
structure ItemEnd (w : World) (o : Int) (d : Nd) (l : Loc) (W : World) : Prop where
  r : Blk W (w.heap.size + 1) #[.int .i64 o, .int .i64 d.kind, .string d.text, .slice l.nA d.nn l.nc, .slice l.kA d.kn l.kc, .int .i64 d.turn] 58
  bel : Below w.heap.size w W
  nd : NdIn W d l

set_option maxHeartbeats 1000000 in
theorem toItem_any (o : Int) (d : Nd) (l : Loc) (w : World) (hI : NdIn w d l) (hn : d.nn ≤ 1048576) (hk : d.kn ≤ 1048576) :
    Calls Try.prog 58 #[itV o d l] w fun e w' => ∃ l', e = .returned (itV o d l') ∧ Below w.heap.size w w' ∧ NdIn w' d l' ∧ l'.Past w.heap.size := by
  unfold itV
  go_enter Try.func58, Try.ntmps58
  go_wp2_with fail
  refine at_world (F := New3 w _ _ _ _ _ _) (new3 w _ _ _ _ _ _) ?_
  rintro W ⟨hp, hr, ho, hb0, hs0⟩
  refine (toNode_any d l W (hI.below (Nat.le_refl _) hb0) hn hk).mono ?_
  rintro e w1 ⟨l', rfl, hb1, hI1, hp1⟩
  unfold ndV
  have hr1 := hr.below hb1 (by omega)
  have ho1 := ho.below hb1 (by omega)
  have hB1 := hb0.trans (hb1.mono (by omega))
  have hsz := hb1.size
  have o0 : w1.cell? ⟨w.heap.size + 1 + 1, 0, none⟩ = some (.int .i64 o) := ho1.cell 0
  have o1 : w1.cell? ⟨w.heap.size + 1 + 1, 1, none⟩ = some (.int .i64 0) := ho1.cell 1
  have o2 : w1.cell? ⟨w.heap.size + 1 + 1, 2, none⟩ = some (.string ByteArray.empty) := ho1.cell 2
  have o3 : w1.cell? ⟨w.heap.size + 1 + 1, 3, none⟩ = some (.slice none 0 0) := ho1.cell 3
  have o4 : w1.cell? ⟨w.heap.size + 1 + 1, 4, none⟩ = some (.slice none 0 0) := ho1.cell 4
  have o5 : w1.cell? ⟨w.heap.size + 1 + 1, 5, none⟩ = some (.int .i64 0) := ho1.cell 5
  have f0 := ho1.frozen 0
  have f1 := ho1.frozen 1
  have f2 := ho1.frozen 2
  have f3 := ho1.frozen 3
  have f4 := ho1.frozen 4
  have f5 := ho1.frozen 5
  have r0 : w1.cell? ⟨w.heap.size + 1, 0, none⟩ = some (.int .i64 0) := hr1.cell 0
  have r1 : w1.cell? ⟨w.heap.size + 1, 1, none⟩ = some (.int .i64 0) := hr1.cell 1
  have r2 : w1.cell? ⟨w.heap.size + 1, 2, none⟩ = some (.string ByteArray.empty) := hr1.cell 2
  have r3 : w1.cell? ⟨w.heap.size + 1, 3, none⟩ = some (.slice none 0 0) := hr1.cell 3
  have r4 : w1.cell? ⟨w.heap.size + 1, 4, none⟩ = some (.slice none 0 0) := hr1.cell 4
  have r5 : w1.cell? ⟨w.heap.size + 1, 5, none⟩ = some (.int .i64 0) := hr1.cell 5
  have g0 := hr1.frozen 0
  have g1 := hr1.frozen 1
  have g2 := hr1.frozen 2
  have g3 := hr1.frozen 3
  have g4 := hr1.frozen 4
  have g5 := hr1.frozen 5
  have hpp := hp1.mono (show w.heap.size + 3 ≤ W.heap.size by omega)
  have FB : Hid (Blk w1 (w.heap.size + 1) _ _ ∧ Below w.heap.size w w1 ∧ NdIn w1 d l' ∧ l'.Past (w.heap.size + 3)) := ⟨hr1, hB1, hI1, hpp⟩
  clear hp hr ho hb0 hb1 hr1 ho1 hB1 hI1 hp1 hpp hs0 hsz
  go_wp2_with fail
  obtain ⟨hr, hB, hN, hP⟩ := FB.out
  have hP1 : l'.Past (w.heap.size + 1 + 1) := hP.mono (by omega)
  have hP2 : l'.Past (w.heap.size + 1 + 1 + 1) := hP
  refine end_world (F := ItemEnd w o d l')
    ⟨(((((((((((hr.off _ (by omega)).off _ (by omega)).off _ (by omega)).off _ (by omega)).off _ (by omega)).set 0 _).set 1 _).set 2 _).set 3 _).set 4 _).set 5 _),
     bel_put (bel_put (bel_put (bel_put (bel_put (bel_put (bel_put (bel_put (bel_put (bel_put (bel_put hB _ (by omega)) _ (by omega)) _ (by omega)) _ (by omega)) _ (by omega)) _ (by omega)) _ (by omega)) _ (by omega)) _ (by omega)) _ (by omega)) _ (by omega),
     ((((((((((hN.off _ hP2).off _ hP2).off _ hP2).off _ hP2).off _ hP2).off _ hP1).off _ hP1).off _ hP1).off _ hP1).off _ hP1).off _ hP1⟩ ?_
  clear hr hB hN FB o0 o1 o2 o3 o4 o5 f0 f1 f2 f3 f4 f5 r0 r1 r2 r3 r4 r5 g0 g1 g2 g3 g4 g5
  rintro W ⟨hr, hB, hN⟩
  have r0 : W.cell? ⟨w.heap.size + 1, 0, none⟩ = some (.int .i64 o) := hr.cell 0
  have r1 : W.cell? ⟨w.heap.size + 1, 1, none⟩ = some (.int .i64 d.kind) := hr.cell 1
  have r2 : W.cell? ⟨w.heap.size + 1, 2, none⟩ = some (.string d.text) := hr.cell 2
  have r3 : W.cell? ⟨w.heap.size + 1, 3, none⟩ = some (.slice l'.nA d.nn l'.nc) := hr.cell 3
  have r4 : W.cell? ⟨w.heap.size + 1, 4, none⟩ = some (.slice l'.kA d.kn l'.kc) := hr.cell 4
  have r5 : W.cell? ⟨w.heap.size + 1, 5, none⟩ = some (.int .i64 d.turn) := hr.cell 5
  exact bodyPost_ret (v := .agg #[.int .i64 o, .int .i64 d.kind, .string d.text, .slice l'.nA d.nn l'.nc, .slice l'.kA d.kn l'.kc, .int .i64 d.turn]) (by simp [results, Try.results58, go_sem, r0, r1, r2, r3, r4, r5]) rfl ⟨l', rfl, hB, hN, hP.mono (by omega)⟩

set_option maxHeartbeats 1000000 in
theorem toItemS_any (a : Option Addr) (n c : Nat) (O : Nat → Int) (D : Nat → Nd) (L : Nat → Loc) (w : World) (hS : IsIts w a n O D L) (hn : n ≤ 1048576) (hsm : ∀ i, i < n → (D i).nn ≤ 1048576 ∧ (D i).kn ≤ 1048576) :
    Calls Try.prog 28 #[.slice a n c] w fun e w' => e = .returned (.slice (some ⟨w.heap.size, 0, none⟩) n n) ∧ Below w.heap.size w w' ∧ ∃ L', ItRow w' w.heap.size n n O D L' := by
  have hmk := fun w => run_make_wide (P := Try.prog) 28 58 _ 88 6 Try.underlying28 infoItem .i64 .i64 n (by omega) (by omega) w
  go_enter Try.func28, Try.ntmps28
  go_wp2
  go_loopw [4] (fun i wr => ∃ (k : Nat) (L' : Nat → Loc), k ≤ n ∧ i = .int .i64 k ∧ Below w.heap.size w wr ∧ ItRow wr w.heap.size n k O D L') (fun i _ => n - (intOf i).toNat)
  case atStart =>
    obtain ⟨g, hg⟩ := rowIs_wide w #[.int .i64 0, .int .i64 0, .string ByteArray.empty, .slice none 0 0, .slice none 0 0, .int .i64 0] (n * 6) 58
    exact ⟨0, L, Nat.zero_le _, rfl, (Below.refl _ _).alloc (Nat.le_refl _) _, ⟨g, hg, fun i hi => by omega⟩, fun i hi => by omega⟩
  case round =>
    obtain ⟨k, L', hk, rfl, hb, hrow⟩ := hrel
    by_cases hlt : k < n
    · obtain ⟨b, off, rfl, hlt2, hc⟩ := (hS.below (Nat.le_refl _) hb).at hlt
      obtain ⟨c0, c1, c2, c3, c4, c5, hI⟩ := hc k hlt
      clear hc
      go_wp2_with fail
      refine (toItem_any (O k) (D k) (L k) wr hI (hsm k hlt).1 (hsm k hlt).2).mono ?_
      rintro e w1 ⟨l', rfl, hb1, hI1, hp1⟩
      unfold itV
      have hrow1 := hrow.below (Nat.le_refl _) hb1
      have hB := hb.trans (hb1.mono hb.size)
      have hwl : w.heap.size < wr.heap.size := by obtain ⟨⟨g, hr, _⟩, _⟩ := hrow; exact hr.lt
      have hpp := hp1.mono (show w.heap.size + 1 ≤ wr.heap.size by omega)
      have HR : Hid (ItRow w1 w.heap.size n k O D L' ∧ NdIn w1 (D k) l' ∧ l'.Past (w.heap.size + 1) ∧ Below w.heap.size w w1) := ⟨hrow1, hI1, hpp, hB⟩
      obtain ⟨⟨g, hr, _⟩, _⟩ := hrow1
      have d0 := hr.cell (show k * 6 < n * 6 by omega)
      have d1 := hr.cell (show k * 6 + 1 < n * 6 by omega)
      have d2 := hr.cell (show k * 6 + 2 < n * 6 by omega)
      have d3 := hr.cell (show k * 6 + 3 < n * 6 by omega)
      have d4 := hr.cell (show k * 6 + 4 < n * 6 by omega)
      have d5 := hr.cell (show k * 6 + 5 < n * 6 by omega)
      have e0 := hr.frozen (k * 6)
      have e1 := hr.frozen (k * 6 + 1)
      have e2 := hr.frozen (k * 6 + 2)
      have e3 := hr.frozen (k * 6 + 3)
      have e4 := hr.frozen (k * 6 + 4)
      have e5 := hr.frozen (k * 6 + 5)
      clear hb hrow hr hB hb1 hI1 hp1 hpp hI c0 c1 c2 c3 c4 c5
      go_wp2
      go_roundw
      case rel => exact ⟨k + 1, _, by omega, by go_num, bel_put (bel_put (bel_put (bel_put (bel_put (bel_put HR.out.2.2.2 _ (Nat.le_refl _)) _ (Nat.le_refl _)) _ (Nat.le_refl _)) _ (Nat.le_refl _)) _ (Nat.le_refl _)) _ (Nat.le_refl _), HR.out.1.step HR.out.2.1 HR.out.2.2.1⟩
      case measure => simp [intOf]; omega
    · have hkn : k = n := by omega
      have HR : Hid (Below w.heap.size w wr ∧ ∃ L', ItRow wr w.heap.size n n O D L') := ⟨hb, L', hkn ▸ hrow⟩
      clear hb hrow hkn
      go_wp2
      go_ret
      exact ⟨rfl, HR.out.1, HR.out.2⟩

set_option maxHeartbeats 1000000 in
theorem eqItem_any (o o' : Int) (d d' : Nd) (l l' : Loc) (w : World) (hI : NdIn w d l) (hI' : NdIn w d' l') (hf : d.Fits) (hf' : d'.Fits) :
    Calls Try.prog 62 #[itV o d l, itV o' d' l'] w fun e w' => Below w.heap.size w w' ∧ e = .returned (.bool (sameIt o o' d d')) := by
  unfold itV
  cases hoo : (o == o') with
  | false =>
    have hnb : (o != o') = true := by simp only [bne, hoo]; rfl
    have HX : Hid (false = sameIt o o' d d') := by show _ = _; unfold sameIt; rw [hoo]; rfl
    clear hoo
    go_enter Try.func62, Try.ntmps62
    go_wp2_with fail
    go_ret
    exact ⟨((Below.refl _ _).alloc (Nat.le_refl _) _).alloc (by simp) _, ret_bool HX.out⟩
  | true =>
    have hnb : (o != o') = false := by simpa [bne] using hoo
    have HX : Hid (d.same d' = sameIt o o' d d') := by show _ = _; unfold sameIt; rw [hoo]; rfl
    clear hoo
    go_enter Try.func62, Try.ntmps62
    go_wp2_with fail
    refine at_world (F := New2 w _ _ _ _) (new2 w _ _ _ _) ?_
    rintro W ⟨hp, hp', hb, hs⟩
    refine (eqNode_any d d' l l' W (hI.below (Nat.le_refl _) hb) (hI'.below (Nat.le_refl _) hb) hf hf').mono ?_
    rintro e w1 ⟨hb1, rfl⟩
    have HB : Hid (Below w.heap.size w w1) := hb.trans (hb1.mono (by omega))
    clear hp hp' hb hs hb1
    cases hq : d.same d' with
    | false =>
      have HQ : Hid (d.same d' = false) := hq
      clear hq
      go_wp2
      go_ret
      exact ⟨HB.out, ret_bool (by rw [← HX.out, HQ.out])⟩
    | true =>
      have HQ : Hid (d.same d' = true) := hq
      clear hq
      go_wp2
      go_ret
      exact ⟨HB.out, ret_bool (by rw [← HX.out, HQ.out])⟩

set_option maxHeartbeats 1000000 in
theorem eqItemS_any (a a' : Option Addr) (n c m c' : Nat) (O P : Nat → Int) (D E : Nat → Nd) (L M : Nat → Loc) (w : World) (hS : IsIts w a n O D L) (hT : IsIts w a' m P E M) (hf : FitAll n D) (hf' : FitAll m E) (hn : n ≤ maxLen) (hm : m ≤ maxLen) :
    Calls Try.prog 34 #[.slice a n c, .slice a' m c'] w fun e w' => Below w.heap.size w w' ∧ e = .returned (.bool (decide (n = m) && sameIts n O P D E)) := by
  unfold maxLen at hn hm
  by_cases hne : n = m
  · subst hne
    have hb : ((n : Int) != (n : Int)) = false := by simp
    go_enter Try.func34, Try.ntmps34
    go_wp2
    go_loopw [5] (fun i wr => ∃ k : Nat, k ≤ n ∧ i = .int .i64 k ∧ Below w.heap.size w wr ∧ sameIts k O P D E = true) (fun i _ => n - (intOf i).toNat)
    case atStart => exact ⟨0, Nat.zero_le _, rfl, Below.refl _ _, rfl⟩
    case round =>
      obtain ⟨k, hk, rfl, hbel, heq⟩ := hrel
      have HE : Hid (sameIts k O P D E = true) := heq
      clear heq
      by_cases hlt : k < n
      · have hSr := hS.below (Nat.le_refl _) hbel
        have hTr := hT.below (Nat.le_refl _) hbel
        obtain ⟨b, off, rfl, hlt2, hc⟩ := hSr.at hlt
        obtain ⟨b', off', rfl, hlt2', hc'⟩ := hTr.at hlt
        obtain ⟨c0, c1, c2, c3, c4, c5, hI⟩ := hc k hlt
        obtain ⟨d0, d1, d2, d3, d4, d5, hI'⟩ := hc' k hlt
        have hlti : (k : Int) < (n : Int) := by omega
        have C0 := Lat.cell (B := wr.heap.size) c0 hlt2
        have C1 := Lat.cell (B := wr.heap.size) c1 hlt2
        have C2 := Lat.cell (B := wr.heap.size) c2 hlt2
        have C3 := Lat.cell (B := wr.heap.size) c3 hlt2
        have C4 := Lat.cell (B := wr.heap.size) c4 hlt2
        have C5 := Lat.cell (B := wr.heap.size) c5 hlt2
        have D0 := Lat.cell (B := wr.heap.size) d0 hlt2'
        have D1 := Lat.cell (B := wr.heap.size) d1 hlt2'
        have D2 := Lat.cell (B := wr.heap.size) d2 hlt2'
        have D3 := Lat.cell (B := wr.heap.size) d3 hlt2'
        have D4 := Lat.cell (B := wr.heap.size) d4 hlt2'
        have D5 := Lat.cell (B := wr.heap.size) d5 hlt2'
        have hcall : Hid (∀ n : Lat wr.heap.size wr, Calls Try.prog 62 #[itV (O k) (D k) (L k), itV (P k) (E k) (M k)] n.val fun e w'' => e = .returned (.bool (sameIt (O k) (P k) (D k) (E k))) ∧ ∃ m : Lat wr.heap.size wr, w'' = m.val) := fun n =>
          Calls.lat_of (eqItem_any (O k) (P k) (D k) (E k) (L k) (M k) n.val (hI.below (Nat.le_refl _) n.bel) (hI'.below (Nat.le_refl _) n.bel) (hf k hlt) (hf' k hlt)) (fun e w' h => ⟨h.2, h.1.mono n.bel.size⟩)
        clear hc hc' hSr hTr c0 c1 c2 c3 c4 c5 d0 d1 d2 d3 d4 d5 hI hI'
        have HBL : Hid (Below w.heap.size w wr) := hbel
        clear hbel
        go_wp2_with fail
        refine wp_region_lat (B := wr.heap.size) (w0 := wr) (by kernel_rfl) (by kernel_rfl) (Below.refl _ _) ?_
        repeat (go_big_quiet_step (exact hcall.out _))
        refine wpQuiet_nil ?_
        rintro _ ⟨nq, rfl⟩
        have hB : Hid (Below w.heap.size w nq.val) := HBL.out.trans (nq.bel.mono HBL.out.size)
        clear hcall C0 C1 C2 C3 C4 C5 D0 D1 D2 D3 D4 D5
        cases hq : sameIt (O k) (P k) (D k) (E k) with
        | false =>
          have HQ : Hid (sameIt (O k) (P k) (D k) (E k) = false) := hq
          clear hq
          go_wp2
          go_ret
          exact ⟨hB.out, ret_bool (by rw [← sameIts_not n k O P D E hlt HQ.out]; simp)⟩
        | true =>
          have HQ : Hid (sameIt (O k) (P k) (D k) (E k) = true) := hq
          clear hq
          go_wp2
          go_roundw
          case rel => exact ⟨k + 1, by omega, by go_num, hB.out, sameIts_succ k O P D E HE.out HQ.out⟩
          case measure => simp [intOf]; omega
      · have hkn : k = n := by omega
        have HK : Hid (k = n ∧ Below w.heap.size w wr) := ⟨hkn, hbel⟩
        clear hkn hbel
        go_wp2
        go_ret
        exact ⟨HK.out.2, ret_bool (by rw [← HK.out.1, HE.out]; simp)⟩
  · have hb : ((n : Int) != (m : Int)) = true := by simp; omega
    go_enter Try.func34, Try.ntmps34
    go_wp2
    go_ret
    exact ⟨Below.refl _ _, ret_bool (by simp [hne])⟩
end Go.Proofs.Ytnnhdcohfabenaa
