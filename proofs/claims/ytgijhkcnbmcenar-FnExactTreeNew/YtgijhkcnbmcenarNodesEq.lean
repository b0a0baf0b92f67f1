/-
  What the exact laws' helpers answer that hold two places, two lists of places and two trees against each other.
-/
import Derived.Test.YtgijhkcnbmcenarNodesS
import Derived.WalkSmall
import Derived.Test.YtgijhkcnbmcenarLat
namespace Go.Proofs.Ytgijhkcnbmcenar
open Go.RowKit
set_option linter.unusedVariables false

set_option maxHeartbeats 1000000 in
theorem eqNode_any (d d' : Nd) (l l' : Loc) (w : World) (hI : NdIn w d l) (hI' : NdIn w d' l') (hf : d.Fits) (hf' : d'.Fits) :
    Calls Try.prog 47 #[ndV d l, ndV d' l'] w fun e w' => Below w.heap.size w w' ∧ e = .returned (.bool (d.same d')) := by
  have hn := hf.nn
  have hn' := hf'.nn
  have hk := hf.kn
  have hk' := hf'.kn
  unfold ndV
  go_enter Try.func47, Try.ntmps47
  go_wp2_with fail
  · go_ret
    exact ⟨((Below.refl _ _).alloc (Nat.le_refl _) _).alloc (by simp) _, ret_bool (same_kind ‹_›)⟩
  · go_ret
    exact ⟨((Below.refl _ _).alloc (Nat.le_refl _) _).alloc (by simp) _, ret_bool (same_text ‹_›)⟩
  have HK : Hid ((d.kind != d'.kind) = false ∧ (!d.text.toList == d'.text.toList) = false) := ⟨‹_›, ‹_›⟩
  refine at_world (F := New2 w _ _ _ _) (new2 w _ _ _ _) ?_
  rintro W ⟨hp, hp', hb, hs⟩
  have hI1 := hI.below (Nat.le_refl _) hb
  have hI1' := hI'.below (Nat.le_refl _) hb
  refine (eqStringS_any l.nA l'.nA d.nn l.nc d'.nn l'.nc d.names d'.names W hI1.1 hI1'.1 hn hn').mono ?_
  rintro e w1 ⟨⟨q, rfl⟩, rfl⟩
  have p3 : W.cell? ⟨w.heap.size, 3, none⟩ = some (.slice l.kA d.kn l.kc) := hp.cell 3
  have p4 : W.cell? ⟨w.heap.size, 4, none⟩ = some (.int .i64 d.turn) := hp.cell 4
  have q3 : W.cell? ⟨w.heap.size + 1, 3, none⟩ = some (.slice l'.kA d'.kn l'.kc) := hp'.cell 3
  have q4 : W.cell? ⟨w.heap.size + 1, 4, none⟩ = some (.int .i64 d'.turn) := hp'.cell 4
  have HI : Hid (IsInts W l.kA d.kn d.kids ∧ IsInts W l'.kA d'.kn d'.kids) := ⟨hI1.2, hI1'.2⟩
  have HB : Hid (Below w.heap.size w W) := hb
  clear hI1 hI1' hI hI' hp hp' hb hs hf hf'
  cases hq1 : (decide (d.nn = d'.nn) && eqS d.nn d.names d'.names) with
  | false =>
    have HQ : Hid ((decide (d.nn = d'.nn) && eqS d.nn d.names d'.names) = false) := hq1
    clear hq1
    go_wp2
    go_ret
    exact ⟨below_drewN HB.out _, ret_bool (same_names HQ.out)⟩
  | true =>
    have HQ : Hid ((decide (d.nn = d'.nn) && eqS d.nn d.names d'.names) = true) := hq1
    clear hq1
    go_wp2_with fail
    refine (eqIntS_any l.kA l'.kA d.kn l.kc d'.kn l'.kc d.kids d'.kids (W.drewN q) (HI.out.1.below (Nat.le_refl _) (below_drewN (Below.refl _ _) _)) (HI.out.2.below (Nat.le_refl _) (below_drewN (Below.refl _ _) _)) hk hk').mono ?_
    rintro e w1 ⟨⟨q', rfl⟩, rfl⟩
    cases hq1 : (decide (d.kn = d'.kn) && eqZ d.kn d.kids d'.kids) with
    | false =>
      have HZ : Hid ((decide (d.kn = d'.kn) && eqZ d.kn d.kids d'.kids) = false) := hq1
      clear hq1
      go_wp2
      go_ret
      exact ⟨below_drewN HB.out _, ret_bool (same_kids HZ.out)⟩
    | true =>
      have HZ : Hid ((decide (d.kn = d'.kn) && eqZ d.kn d.kids d'.kids) = true) := hq1
      clear hq1
      go_wp2
      · go_ret
        exact ⟨below_drewN HB.out _, ret_bool (same_turn ‹_›)⟩
      · go_ret
        exact ⟨below_drewN HB.out _, ret_bool (same_yes HK.out.1 HK.out.2 HQ.out HZ.out ‹_›)⟩

set_option maxHeartbeats 1000000 in
theorem eqNodeS_any (a a' : Option Addr) (n c m c' : Nat) (D E : Nat → Nd) (L M : Nat → Loc) (w : World) (hS : IsNds w a n D L) (hT : IsNds w a' m E M) (hf : FitAll n D) (hf' : FitAll m E) (hn : n ≤ maxLen) (hm : m ≤ maxLen) :
    Calls Try.prog 38 #[.slice a n c, .slice a' m c'] w fun e w' => Below w.heap.size w w' ∧ e = .returned (.bool (decide (n = m) && sameAll n D E)) := by
  unfold maxLen at hn hm
  by_cases hne : n = m
  · subst hne
    have hb : ((n : Int) != (n : Int)) = false := by simp
    go_enter Try.func38, Try.ntmps38
    go_wp2
    go_loopw [5] (fun i wr => ∃ k : Nat, k ≤ n ∧ i = .int .i64 k ∧ Below w.heap.size w wr ∧ sameAll k D E = true) (fun i _ => n - (intOf i).toNat)
    case atStart => exact ⟨0, Nat.zero_le _, rfl, Below.refl _ _, rfl⟩
    case round =>
      obtain ⟨k, hk, rfl, hbel, heq⟩ := hrel
      have HE : Hid (sameAll k D E = true) := heq
      clear heq
      by_cases hlt : k < n
      · have hSr := hS.below (Nat.le_refl _) hbel
        have hTr := hT.below (Nat.le_refl _) hbel
        obtain ⟨b, off, rfl, hlt2, hc⟩ := hSr.at hlt
        obtain ⟨b', off', rfl, hlt2', hc'⟩ := hTr.at hlt
        obtain ⟨c0, c1, c2, c3, c4, hI⟩ := hc k hlt
        obtain ⟨d0, d1, d2, d3, d4, hI'⟩ := hc' k hlt
        have hlti : (k : Int) < (n : Int) := by omega
        have C0 := Lat.cell (B := wr.heap.size) c0 hlt2
        have C1 := Lat.cell (B := wr.heap.size) c1 hlt2
        have C2 := Lat.cell (B := wr.heap.size) c2 hlt2
        have C3 := Lat.cell (B := wr.heap.size) c3 hlt2
        have C4 := Lat.cell (B := wr.heap.size) c4 hlt2
        have D0 := Lat.cell (B := wr.heap.size) d0 hlt2'
        have D1 := Lat.cell (B := wr.heap.size) d1 hlt2'
        have D2 := Lat.cell (B := wr.heap.size) d2 hlt2'
        have D3 := Lat.cell (B := wr.heap.size) d3 hlt2'
        have D4 := Lat.cell (B := wr.heap.size) d4 hlt2'
        have hcall : Hid (∀ n : Lat wr.heap.size wr, Calls Try.prog 47 #[ndV (D k) (L k), ndV (E k) (M k)] n.val fun e w'' => e = .returned (.bool ((D k).same (E k))) ∧ ∃ m : Lat wr.heap.size wr, w'' = m.val) := fun n =>
          Calls.lat_of (eqNode_any (D k) (E k) (L k) (M k) n.val (hI.below (Nat.le_refl _) n.bel) (hI'.below (Nat.le_refl _) n.bel) (hf k hlt) (hf' k hlt)) (fun e w' h => ⟨h.2, h.1.mono n.bel.size⟩)
        clear hc hc' hSr hTr c0 c1 c2 c3 c4 d0 d1 d2 d3 d4 hI hI'
        have HBL : Hid (Below w.heap.size w wr) := hbel
        clear hbel
        go_wp2_with fail
        refine wp_region_lat (B := wr.heap.size) (w0 := wr) (by kernel_rfl) (by kernel_rfl) (Below.refl _ _) ?_
        repeat (go_big_quiet_step (exact hcall.out _))
        refine wpQuiet_nil ?_
        rintro _ ⟨nq, rfl⟩
        have hB : Hid (Below w.heap.size w nq.val) := HBL.out.trans (nq.bel.mono HBL.out.size)
        clear hcall C0 C1 C2 C3 C4 D0 D1 D2 D3 D4
        cases hq : (D k).same (E k) with
        | false =>
          have HQ : Hid ((D k).same (E k) = false) := hq
          clear hq
          go_wp2
          go_ret
          exact ⟨hB.out, ret_bool (by rw [← sameAll_not n k D E hlt HQ.out]; simp)⟩
        | true =>
          have HQ : Hid ((D k).same (E k) = true) := hq
          clear hq
          go_wp2
          go_roundw
          case rel => exact ⟨k + 1, by omega, by go_num, hB.out, sameAll_succ k D E HE.out HQ.out⟩
          case measure => simp [intOf]; omega
      · have hkn : k = n := by omega
        have HK : Hid (k = n ∧ Below w.heap.size w wr) := ⟨hkn, hbel⟩
        clear hkn hbel
        go_wp2
        go_ret
        exact ⟨HK.out.2, ret_bool (by rw [← HK.out.1, HE.out]; simp)⟩
  · have hb : ((n : Int) != (m : Int)) = true := by simp; omega
    go_enter Try.func38, Try.ntmps38
    go_wp2
    go_ret
    exact ⟨Below.refl _ _, ret_bool (by simp [hne])⟩

/-- What is known at toTree's end. -/
structure TreeEnd (w : World) (n : Nat) (now : Int) (D : Nat → Nd) (b : Nat) (W : World) : Prop where
  r : Blk W (w.heap.size + 1) #[.slice (some ⟨b, 0, none⟩) n n, .int .i64 now] 33
  bel : Below w.heap.size w W
  row : ∃ L', NdRow W b n n D L'

theorem NdRow.off {w : World} {b n k : Nat} {D : Nat → Nd} {L : Nat → Loc} (h : NdRow w b n k D L) {b' i : Nat} (v : Value) (hb : b' < b) : NdRow (w.setCell ⟨b', i, none⟩ v) b n k D L := by
  obtain ⟨⟨g, hr, hg⟩, hl⟩ := h
  exact ⟨⟨g, hr.setOther (a := ⟨b', i, none⟩) (show b ≠ b' by omega) v, hg⟩, fun i hi => ⟨(hl i hi).1.off v ((hl i hi).2.mono (by omega)), (hl i hi).2⟩⟩

set_option maxHeartbeats 1000000 in
theorem eqTree_any (a a' : Option Addr) (n c m c' : Nat) (now now' : Int) (D E : Nat → Nd) (L M : Nat → Loc) (w : World) (hS : IsNds w a n D L) (hT : IsNds w a' m E M) (hf : FitAll n D) (hf' : FitAll m E) (hn : n ≤ maxLen) (hm : m ≤ maxLen) :
    Calls Try.prog 26 #[trV a n c now, trV a' m c' now'] w fun e w' => Below w.heap.size w w' ∧ e = .returned (.bool ((decide (n = m) && sameAll n D E) && (now == now'))) := by
  unfold trV
  go_enter Try.func26, Try.ntmps26
  go_wp2_with fail
  refine at_world (F := New2 w _ _ _ _) (new2 w _ _ _ _) ?_
  rintro W ⟨hp, hp', hb, hs⟩
  refine (eqNodeS_any a a' n c m c' D E L M W (hS.below (Nat.le_refl _) hb) (hT.below (Nat.le_refl _) hb) hf hf' hn hm).mono ?_
  rintro e w1 ⟨hb1, rfl⟩
  have hB := hb.trans (hb1.mono (by omega))
  have p1 : w1.cell? ⟨w.heap.size, 1, none⟩ = some (.int .i64 now) := (hp.below hb1 (by omega)).cell 1
  have q1 : w1.cell? ⟨w.heap.size + 1, 1, none⟩ = some (.int .i64 now') := (hp'.below hb1 (by omega)).cell 1
  have HB : Hid (Below w.heap.size w w1) := hB
  clear hS hT hf hf' hp hp' hb hs hb1 hB
  cases hq : (decide (n = m) && sameAll n D E) with
  | false =>
    have HQ : Hid ((decide (n = m) && sameAll n D E) = false) := hq
    clear hq
    go_wp2
    go_ret
    exact ⟨HB.out, ret_bool (by rw [HQ.out]; rfl)⟩
  | true =>
    have HQ : Hid ((decide (n = m) && sameAll n D E) = true) := hq
    clear hq
    cases hnc : (now == now') with
    | true =>
      have hnb : (now != now') = false := by simpa [bne] using hnc
      have HN : Hid ((now == now') = true) := hnc
      clear hnc
      go_wp2
      go_ret
      exact ⟨HB.out, ret_bool (by rw [HQ.out, HN.out]; rfl)⟩
    | false =>
      have hnb : (now != now') = true := by simp only [bne, hnc]; rfl
      have HN : Hid ((now == now') = false) := hnc
      clear hnc
      go_wp2
      go_ret
      exact ⟨HB.out, ret_bool (by rw [HQ.out, HN.out]; rfl)⟩
end Go.Proofs.Ytgijhkcnbmcenar
