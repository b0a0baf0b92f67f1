/-
  What the exact laws' helpers answer that hold two places, two lists of places and two trees against each other.
-/
import Derived.Test.YtnnhdcohfabenaaNodesS
import Derived.WalkSmall
import Derived.Test.YtnnhdcohfabenaaLat
namespace Go.Proofs.Ytnnhdcohfabenaa
open Go.RowKit
set_option linter.unusedVariables false

set_option maxHeartbeats 1000000 in
theorem eqNode_any (d d' : Nd) (l l' : Loc) (w : World) (hI : NdIn w d l) (hI' : NdIn w d' l') (hf : d.Fits) (hf' : d'.Fits) :
    Calls Try.prog 73 #[ndV d l, ndV d' l'] w fun e w' => Below w.heap.size w w' ∧ e = .returned (.bool (d.same d')) := by
  have hn := hf.nn
  have hn' := hf'.nn
  have hk := hf.kn
  have hk' := hf'.kn
  unfold ndV
  go_enter Try.func73, Try.ntmps73
  go_wp2_with fail
  · go_ret
    exact ⟨((Below.refl _ _).alloc (Nat.le_refl _) _).alloc (by simp) _, ret_bool (same_kind ‹_›)⟩
  · go_ret
    exact ⟨((Below.refl _ _).alloc (Nat.le_refl _) _).alloc (by simp) _, ret_bool (same_text ‹_›)⟩
  have HK : Hid ((d.kind != d'.kind) = false ∧ (!d.text.toList == d'.text.toList) = false) := ⟨‹_›, ‹_›⟩
  refine at_world (F := New2 w _ _ _ _) (new2 w _ _ _ _) ?_
  rintro W ⟨hp, hp', hb, hs⟩
  have hI1 := hI.below (Nat.le_refl _) hb
  have hI1' := hI'.below (Nat.le_refl _) hb
  refine (eqStringS_any l.nA l'.nA d.nn l.nc d'.nn l'.nc d.names d'.names W hI1.1 hI1'.1 hn hn').mono ?_
  rintro e w1 ⟨⟨q, rfl⟩, rfl⟩
  have p3 : W.cell? ⟨w.heap.size, 3, none⟩ = some (.slice l.kA d.kn l.kc) := hp.cell 3
  have p4 : W.cell? ⟨w.heap.size, 4, none⟩ = some (.int .i64 d.turn) := hp.cell 4
  have q3 : W.cell? ⟨w.heap.size + 1, 3, none⟩ = some (.slice l'.kA d'.kn l'.kc) := hp'.cell 3
  have q4 : W.cell? ⟨w.heap.size + 1, 4, none⟩ = some (.int .i64 d'.turn) := hp'.cell 4
  have HI : Hid (IsInts W l.kA d.kn d.kids ∧ IsInts W l'.kA d'.kn d'.kids) := ⟨hI1.2, hI1'.2⟩
  have HB : Hid (Below w.heap.size w W) := hb
  clear hI1 hI1' hI hI' hp hp' hb hs hf hf'
  cases hq1 : (decide (d.nn = d'.nn) && eqS d.nn d.names d'.names) with
  | false =>
    have HQ : Hid ((decide (d.nn = d'.nn) && eqS d.nn d.names d'.names) = false) := hq1
    clear hq1
    go_wp2
    go_ret
    exact ⟨below_drewN HB.out _, ret_bool (same_names HQ.out)⟩
  | true =>
    have HQ : Hid ((decide (d.nn = d'.nn) && eqS d.nn d.names d'.names) = true) := hq1
    clear hq1
    go_wp2_with fail
    refine (eqIntS_any l.kA l'.kA d.kn l.kc d'.kn l'.kc d.kids d'.kids (W.drewN q) (HI.out.1.below (Nat.le_refl _) (below_drewN (Below.refl _ _) _)) (HI.out.2.below (Nat.le_refl _) (below_drewN (Below.refl _ _) _)) hk hk').mono ?_
    rintro e w1 ⟨⟨q', rfl⟩, rfl⟩
    cases hq1 : (decide (d.kn = d'.kn) && eqZ d.kn d.kids d'.kids) with
    | false =>
      have HZ : Hid ((decide (d.kn = d'.kn) && eqZ d.kn d.kids d'.kids) = false) := hq1
      clear hq1
      go_wp2
      go_ret
      exact ⟨below_drewN HB.out _, ret_bool (same_kids HZ.out)⟩
    | true =>
      have HZ : Hid ((decide (d.kn = d'.kn) && eqZ d.kn d.kids d'.kids) = true) := hq1
      clear hq1
      go_wp2
      · go_ret
        exact ⟨below_drewN HB.out _, ret_bool (same_turn ‹_›)⟩
      · go_ret
        exact ⟨below_drewN HB.out _, ret_bool (same_yes HK.out.1 HK.out.2 HQ.out HZ.out ‹_›)⟩

set_option maxHeartbeats 1000000 in
theorem eqNodeS_any (a a' : Option Addr) (n c m c' : Nat) (D E : Nat → Nd) (L M : Nat → Loc) (w : World) (hS : IsNds w a n D L) (hT : IsNds w a' m E M) (hf : FitAll n D) (hf' : FitAll m E) (hn : n ≤ maxLen) (hm : m ≤ maxLen) :
    Calls Try.prog 44 #[.slice a n c, .slice a' m c'] w fun e w' => Below w.heap.size w w' ∧ e = .returned (.bool (decide (n = m) && sameAll n D E)) := by
  unfold maxLen at hn hm
  by_cases hne : n = m
  · subst hne
    have hb : ((n : Int) != (n : Int)) = false := by simp
    go_enter Try.func44, Try.ntmps44
    go_wp2
    go_loopw [5] (fun i wr => ∃ k : Nat, k ≤ n ∧ i = .int .i64 k ∧ Below w.heap.size w wr ∧ sameAll k D E = true) (fun i _ => n - (intOf i).toNat)
    case atStart => exact ⟨0, Nat.zero_le _, rfl, Below.refl _ _, rfl⟩
    case round =>
      obtain ⟨k, hk, rfl, hbel, heq⟩ := hrel
      have HE : Hid (sameAll k D E = true) := heq
      clear heq
      by_cases hlt : k < n
      · have hSr := hS.below (Nat.le_refl _) hbel
        have hTr := hT.below (Nat.le_refl _) hbel
        obtain ⟨b, off, rfl, hlt2, hc⟩ := hSr.at hlt
        obtain ⟨b', off', rfl, hlt2', hc'⟩ := hTr.at hlt
        obtain ⟨c0, c1, c2, c3, c4, hI⟩ := hc k hlt
        obtain ⟨d0, d1, d2, d3, d4, hI'⟩ := hc' k hlt
        have hlti : (k : Int) < (n : Int) := by omega
        have C0 := Lat.cell (B := wr.heap.size) c0 hlt2
        have C1 := Lat.cell (B := wr.heap.size) c1 hlt2
        have C2 := Lat.cell (B := wr.heap.size) c2 hlt2
        have C3 := Lat.cell (B := wr.heap.size) c3 hlt2
        have C4 := Lat.cell (B := wr.heap.size) c4 hlt2
        have D0 := Lat.cell (B := wr.heap.size) d0 hlt2'
        have D1 := Lat.cell (B := wr.heap.size) d1 hlt2'
        have D2 := Lat.cell (B := wr.heap.size) d2 hlt2'
        have D3 := Lat.cell (B := wr.heap.size) d3 hlt2'
        have D4 := Lat.cell (B := wr.heap.size) d4 hlt2'
        have hcall : Hid (∀ n : Lat wr.heap.size wr, Calls Try.prog 73 #[ndV (D k) (L k), ndV (E k) (M k)] n.val fun e w'' => e = .returned (.bool ((D k).same (E k))) ∧ ∃ m : Lat wr.heap.size wr, w'' = m.val) := fun n =>
          Calls.lat_of (eqNode_any (D k) (E k) (L k) (M k) n.val (hI.below (Nat.le_refl _) n.bel) (hI'.below (Nat.le_refl _) n.bel) (hf k hlt) (hf' k hlt)) (fun e w' h => ⟨h.2, h.1.mono n.bel.size⟩)
        clear hc hc' hSr hTr c0 c1 c2 c3 c4 d0 d1 d2 d3 d4 hI hI'
        have HBL : Hid (Below w.heap.size w wr) := hbel
        clear hbel
        go_wp2_with fail
        refine wp_region_lat (B := wr.heap.size) (w0 := wr) (by kernel_rfl) (by kernel_rfl) (Below.refl _ _) ?_
        repeat (go_big_quiet_step (exact hcall.out _))
        refine wpQuiet_nil ?_
        rintro _ ⟨nq, rfl⟩
        have hB : Hid (Below w.heap.size w nq.val) := HBL.out.trans (nq.bel.mono HBL.out.size)
        clear hcall C0 C1 C2 C3 C4 D0 D1 D2 D3 D4
        cases hq : (D k).same (E k) with
        | false =>
          have HQ : Hid ((D k).same (E k) = false) := hq
          clear hq
          go_wp2
          go_ret
          exact ⟨hB.out, ret_bool (by rw [← sameAll_not n k D E hlt HQ.out]; simp)⟩
        | true =>
          have HQ : Hid ((D k).same (E k) = true) := hq
          clear hq
          go_wp2
          go_roundw
          case rel => exact ⟨k + 1, by omega, by go_num, hB.out, sameAll_succ k D E HE.out HQ.out⟩
          case measure => simp [intOf]; omega
      · have hkn : k = n := by omega
        have HK : Hid (k = n ∧ Below w.heap.size w wr) := ⟨hkn, hbel⟩
        clear hkn hbel
        go_wp2
        go_ret
        exact ⟨HK.out.2, ret_bool (by rw [← HK.out.1, HE.out]; simp)⟩
  · have hb : ((n : Int) != (m : Int)) = true := by simp; omega
    go_enter Try.func44, Try.ntmps44
    go_wp2
    go_ret
    exact ⟨Below.refl _ _, ret_bool (by simp [hne])⟩

set_option maxHeartbeats 400000 in
theorem szTree_any (a : Option Addr) (n c : Nat) (now : Int) (D : Nat → Nd) (L : Nat → Loc) (left : Int) (w : World) (hS : IsNds w a n D L) (hf : FitAll n D) (hn : n ≤ maxLen) (h0 : 0 ≤ left) (h1 : left ≤ 1048576) :
    Calls Try.prog 12 #[trV a n c now, .int .i64 left] w fun e w' => Below w.heap.size w w' ∧ ∃ r : Int, e = .returned (.int .i64 r) ∧ r ≤ left ∧ (0 ≤ r → r + n + sizeTo D n ≤ left) := by
  unfold trV
  go_enter Try.func12, Try.ntmps12
  go_wp2_with fail
  refine at_world (F := New1 w _ _) (new1 w _ _) ?_
  rintro W ⟨hp, hb, hs⟩
  refine (szNodeS_any a n c D L left W (hS.below (Nat.le_refl _) hb) hf hn h0 h1).mono ?_
  rintro e w1 ⟨hb1, r, rfl, hr1, hr2⟩
  have hB := hb.trans (hb1.mono (by omega))
  by_cases hr3 : r < 0
  · have hr3' : decide (r < 0) = true := by simp; omega
    have HB : Hid (Below w.heap.size w w1) := hB
    clear hB hb1 hb hp hr2
    go_wp2
    go_ret
    exact ⟨HB.out, -1, rfl, by omega, fun h => by omega⟩
  · have hr3' : decide (r < 0) = false := by simp; omega
    have HB : Hid (Below w.heap.size w w1 ∧ (0 ≤ r → r + n + sizeTo D n ≤ left)) := ⟨hB, hr2⟩
    clear hB hb1 hb hp hr2
    go_wp2
    go_ret
    exact ⟨HB.out.1, r, rfl, by omega, HB.out.2⟩

/-- What is known at toTree's end. -/
structure TreeEnd (w : World) (n : Nat) (now : Int) (D : Nat → Nd) (b : Nat) (W : World) : Prop where
  r : Blk W (w.heap.size + 1) #[.slice (some ⟨b, 0, none⟩) n n, .int .i64 now] 42
  bel : Below w.heap.size w W
  row : ∃ L', NdRow W b n n D L'

theorem NdRow.off {w : World} {b n k : Nat} {D : Nat → Nd} {L : Nat → Loc} (h : NdRow w b n k D L) {b' i : Nat} (v : Value) (hb : b' < b) : NdRow (w.setCell ⟨b', i, none⟩ v) b n k D L := by
  obtain ⟨⟨g, hr, hg⟩, hl⟩ := h
  exact ⟨⟨g, hr.setOther (a := ⟨b', i, none⟩) (show b ≠ b' by omega) v, hg⟩, fun i hi => ⟨(hl i hi).1.off v ((hl i hi).2.mono (by omega)), (hl i hi).2⟩⟩

set_option maxHeartbeats 1000000 in
theorem toTree_any (a : Option Addr) (n c : Nat) (now : Int) (D : Nat → Nd) (L : Nat → Loc) (w : World) (hS : IsNds w a n D L) (hn : n ≤ 1048576) (hsm : ∀ i, i < n → (D i).nn ≤ 1048576 ∧ (D i).kn ≤ 1048576) :
    Calls Try.prog 14 #[trV a n c now] w fun e w' => ∃ b, e = .returned (trV (some ⟨b, 0, none⟩) n n now) ∧ Below w.heap.size w w' ∧ w.heap.size ≤ b ∧ ∃ L', NdRow w' b n n D L' := by
  unfold trV
  go_enter Try.func14, Try.ntmps14
  go_wp2_with fail
  refine at_world (F := New3 w _ _ _ _ _ _) (new3 w _ _ _ _ _ _) ?_
  rintro W ⟨hp, hr, ho, hb0, hs0⟩
  refine (toNodeS_any a n c D L _ (hS.below (Nat.le_refl _) hb0) hn hsm).mono ?_
  rintro e w1 ⟨rfl, hb1, hrow⟩
  have hp1 := hp.below hb1 (by omega)
  have hr1 := hr.below hb1 (by omega)
  have ho1 := ho.below hb1 (by omega)
  have hB1 := hb0.trans (hb1.mono (by omega))
  have hsz := hb1.size
  have p1 : w1.cell? ⟨w.heap.size, 1, none⟩ = some (.int .i64 now) := hp1.cell 1
  have o0 : w1.cell? ⟨w.heap.size + 1 + 1, 0, none⟩ = some (.slice none 0 0) := ho1.cell 0
  have o1 : w1.cell? ⟨w.heap.size + 1 + 1, 1, none⟩ = some (.int .i64 0) := ho1.cell 1
  have f0 := ho1.frozen 0
  have f1 := ho1.frozen 1
  have r0 : w1.cell? ⟨w.heap.size + 1, 0, none⟩ = some (.slice none 0 0) := hr1.cell 0
  have r1 : w1.cell? ⟨w.heap.size + 1, 1, none⟩ = some (.int .i64 0) := hr1.cell 1
  have g0 := hr1.frozen 0
  have g1 := hr1.frozen 1
  have FB : Hid (Blk w1 (w.heap.size + 1) _ _ ∧ Below w.heap.size w w1 ∧ ∃ L', NdRow w1 W.heap.size n n D L') := ⟨hr1, hB1, hrow⟩
  have hs1 : w.heap.size + 3 ≤ W.heap.size := by omega
  generalize W.heap.size = bW at *
  clear hp hr ho hb0 hb1 hp1 hr1 ho1 hB1 hrow hs0
  go_wp2_with fail
  obtain ⟨hr, hB, L', hrow⟩ := FB.out
  refine end_world (F := TreeEnd w n now D bW)
    ⟨(((hr.off _ (by omega)).off _ (by omega)).set 0 _).set 1 _,
     bel_put (bel_put (bel_put (bel_put hB _ (by omega)) _ (by omega)) _ (by omega)) _ (by omega),
     L', (((hrow.off _ (by omega)).off _ (by omega)).off _ (by omega)).off _ (by omega)⟩ ?_
  clear hr hB hrow FB o0 o1 f0 f1 p1 r0 r1 g0 g1
  rintro W ⟨hr, hB, hrow⟩
  have r0 : W.cell? ⟨w.heap.size + 1, 0, none⟩ = some (.slice (some ⟨bW, 0, none⟩) n n) := hr.cell 0
  have r1 : W.cell? ⟨w.heap.size + 1, 1, none⟩ = some (.int .i64 now) := hr.cell 1
  exact bodyPost_ret (v := .agg #[.slice (some ⟨bW, 0, none⟩) n n, .int .i64 now]) (by simp [results, Try.results14, go_sem, r0, r1]) rfl ⟨bW, rfl, hB, by omega, hrow⟩

set_option maxHeartbeats 1000000 in
theorem eqTree_any (a a' : Option Addr) (n c m c' : Nat) (now now' : Int) (D E : Nat → Nd) (L M : Nat → Loc) (w : World) (hS : IsNds w a n D L) (hT : IsNds w a' m E M) (hf : FitAll n D) (hf' : FitAll m E) (hn : n ≤ maxLen) (hm : m ≤ maxLen) :
    Calls Try.prog 16 #[trV a n c now, trV a' m c' now'] w fun e w' => Below w.heap.size w w' ∧ e = .returned (.bool ((decide (n = m) && sameAll n D E) && (now == now'))) := by
  unfold trV
  go_enter Try.func16, Try.ntmps16
  go_wp2_with fail
  refine at_world (F := New2 w _ _ _ _) (new2 w _ _ _ _) ?_
  rintro W ⟨hp, hp', hb, hs⟩
  refine (eqNodeS_any a a' n c m c' D E L M W (hS.below (Nat.le_refl _) hb) (hT.below (Nat.le_refl _) hb) hf hf' hn hm).mono ?_
  rintro e w1 ⟨hb1, rfl⟩
  have hB := hb.trans (hb1.mono (by omega))
  have p1 : w1.cell? ⟨w.heap.size, 1, none⟩ = some (.int .i64 now) := (hp.below hb1 (by omega)).cell 1
  have q1 : w1.cell? ⟨w.heap.size + 1, 1, none⟩ = some (.int .i64 now') := (hp'.below hb1 (by omega)).cell 1
  have HB : Hid (Below w.heap.size w w1) := hB
  clear hS hT hf hf' hp hp' hb hs hb1 hB
  cases hq : (decide (n = m) && sameAll n D E) with
  | false =>
    have HQ : Hid ((decide (n = m) && sameAll n D E) = false) := hq
    clear hq
    go_wp2
    go_ret
    exact ⟨HB.out, ret_bool (by rw [HQ.out]; rfl)⟩
  | true =>
    have HQ : Hid ((decide (n = m) && sameAll n D E) = true) := hq
    clear hq
    cases hnc : (now == now') with
    | true =>
      have hnb : (now != now') = false := by simpa [bne] using hnc
      have HN : Hid ((now == now') = true) := hnc
      clear hnc
      go_wp2
      go_ret
      exact ⟨HB.out, ret_bool (by rw [HQ.out, HN.out]; rfl)⟩
    | false =>
      have hnb : (now != now') = true := by simp only [bne, hnc]; rfl
      have HN : Hid ((now == now') = false) := hnc
      clear hnc
      go_wp2
      go_ret
      exact ⟨HB.out, ret_bool (by rw [HQ.out, HN.out]; rfl)⟩
end Go.Proofs.Ytnnhdcohfabenaa
