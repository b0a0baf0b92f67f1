/-
  What DumpOk of the specification answers.
-/
import Derived.Test.YtnnhdcohfabenaaSpecItemOk
namespace Go.Proofs.Ytnnhdcohfabenaa
open Go.RowKit
set_option linter.unusedVariables false

/-- What is known within DumpOk. -/
structure D1In (w : World) (d : Dp) (l : DLoc) (t : TypeId) (W : World) : Prop where
  p : Blk W w.heap.size #[.int .i64 d.since, .int .i64 d.date, .slice l.lA d.ln l.lc, .slice l.iA d.m l.ic] t
  bel : Below w.heap.size w W

theorem D1In.below {w : World} {d : Dp} {l : DLoc} {t : TypeId} {W W' : World} (h : D1In w d l t W) (hb : Below W.heap.size W W') : D1In w d l t W' :=
  ⟨h.p.below hb h.p.lt, h.bel.trans (hb.mono (by have := h.p.lt; omega))⟩
theorem D1In.drew {w : World} {d : Dp} {l : DLoc} {t : TypeId} {W : World} (h : D1In w d l t W) (q : Nat) : D1In w d l t (W.drewN q) := h.below (below_drewN (Below.refl _ _) q)

theorem head_1 {d : Dp} (h : d.since < 0) : false = d.ok := ok_head (by unfold headIn; rw [decide_eq_false (show ¬ 0 ≤ d.since by omega)]; rfl)
theorem head_2 {d : Dp} (h : d.date < d.since) : false = d.ok := ok_head (by unfold headIn; rw [decide_eq_false (show ¬ d.since ≤ d.date by omega)]; simp)
theorem head_3 {d : Dp} (h : d.date < 1) : false = d.ok := ok_head (by unfold headIn; rw [decide_eq_false (show ¬ 1 ≤ d.date by omega)]; simp)
theorem head_4 {d : Dp} (h : 1000 < d.date) : false = d.ok := ok_head (by unfold headIn; rw [decide_eq_false (show ¬ d.date ≤ 1000 by omega)]; simp)
theorem head_5 {d : Dp} (h : d.ln < 1) : false = d.ok := ok_head (by unfold headIn; rw [decide_eq_false (show ¬ 1 ≤ d.ln by omega)]; simp)
theorem head_6 {d : Dp} (h : 10 < d.ln) : false = d.ok := ok_head (by unfold headIn; rw [decide_eq_false (show ¬ d.ln ≤ 10 by omega)]; simp)
theorem head_7 {d : Dp} (h : d.live 0 = false) : false = d.ok := ok_head (by unfold headIn; rw [h]; simp)
theorem head_yes {d : Dp} (h1 : ¬ d.since < 0) (h2 : ¬ d.date < d.since) (h3 : ¬ d.date < 1) (h4 : ¬ 1000 < d.date) (h5 : ¬ d.ln < 1) (h6 : ¬ 10 < d.ln) (h7 : d.live 0 = true) : headIn d = true := by
  unfold headIn
  rw [decide_eq_true (show 0 ≤ d.since by omega), decide_eq_true (show d.since ≤ d.date by omega), decide_eq_true (show 1 ≤ d.date by omega), decide_eq_true (show d.date ≤ 1000 by omega), decide_eq_true (show 1 ≤ d.ln by omega), decide_eq_true (show d.ln ≤ 10 by omega), h7]
  rfl

set_option maxHeartbeats 4000000 in
theorem specDumpOk_any (d : Dp) (l : DLoc) (w : World) (hD : DpIn w d l) (hfd : d.Fits) :
    Calls Try.prog 8 #[dpV d l] w fun e w' => Below w.heap.size w w' ∧ e = .returned (.bool d.ok) := by
  have hln := hfd.ln
  have hm := hfd.m
  unfold maxLen at hln hm
  unfold dpV
  have HEND : Hid (∀ (c0 : Array Value) (t0 : TypeId), Below w.heap.size w (w.alloc (.cells c0 t0))) := fun c0 t0 => (Below.refl _ _).alloc (Nat.le_refl _) _
  by_cases h1 : d.since < 0
  · have hb1 : decide (d.since < 0) = true := by simp; omega
    have HX : Hid (false = d.ok) := head_1 h1
    go_enter Try.func8, Try.ntmps8
    go_wp2_with fail
    go_ret
    exact ⟨HEND.out _ _, ret_bool HX.out⟩
  have hb1 : decide (d.since < 0) = false := by simp; omega
  by_cases h2 : d.date < d.since
  · have hb2 : decide (d.date < d.since) = true := by simp; omega
    have HX : Hid (false = d.ok) := head_2 h2
    go_enter Try.func8, Try.ntmps8
    go_wp2_with fail
    go_ret
    exact ⟨HEND.out _ _, ret_bool HX.out⟩
  have hb2 : decide (d.date < d.since) = false := by simp; omega
  by_cases h3 : d.date < 1
  · have hb3 : decide (d.date < 1) = true := by simp; omega
    have HX : Hid (false = d.ok) := head_3 h3
    go_enter Try.func8, Try.ntmps8
    go_wp2_with fail
    go_ret
    exact ⟨HEND.out _ _, ret_bool HX.out⟩
  have hb3 : decide (d.date < 1) = false := by simp; omega
  by_cases h4 : 1000 < d.date
  · have hb4 : decide (1000 < d.date) = true := by simp; omega
    have HX : Hid (false = d.ok) := head_4 h4
    go_enter Try.func8, Try.ntmps8
    go_wp2_with fail
    go_ret
    exact ⟨HEND.out _ _, ret_bool HX.out⟩
  have hb4 : decide (1000 < d.date) = false := by simp; omega
  by_cases h5 : d.ln < 1
  · have hb5 : decide ((d.ln : Int) < 1) = true := by simp; omega
    have HX : Hid (false = d.ok) := head_5 h5
    clear h5
    go_enter Try.func8, Try.ntmps8
    go_wp2_with fail
    go_ret
    exact ⟨HEND.out _ _, ret_bool HX.out⟩
  have hb5 : decide ((d.ln : Int) < 1) = false := by simp; omega
  by_cases h6 : 10 < d.ln
  · have hb6 : decide ((10 : Int) < (d.ln : Int)) = true := by simp; omega
    have HX : Hid (false = d.ok) := head_6 h6
    go_enter Try.func8, Try.ntmps8
    go_wp2_with fail
    go_ret
    exact ⟨HEND.out _ _, ret_bool HX.out⟩
  have hb6 : decide ((10 : Int) < (d.ln : Int)) = false := by simp; omega
  have h0n : 0 < d.ln := by omega
  have h0i : (0 : Int) < (d.ln : Int) := by omega
  obtain ⟨b, off, hA, hlt2, hc⟩ := hD.live.at h0n
  have g0 := hc 0 h0n
  rw [Nat.add_zero] at g0
  have hbne : b ≠ w.heap.size := by omega
  have HLA : Hid (l.lA = some ⟨b, off, none⟩) := hA
  rw [hA]
  clear hc hA
  cases h7 : d.live 0 with
  | false =>
    have HX : Hid (false = d.ok) := head_7 h7
    rw [h7] at g0
    clear h7
    go_enter Try.func8, Try.ntmps8
    go_wp2_with fail
    go_ret
    exact ⟨HEND.out _ _, ret_bool HX.out⟩
  | true =>
  have HH : Hid (headIn d = true) := head_yes h1 h2 h3 h4 h5 h6 h7
  rw [h7] at g0
  clear h7
  go_enter Try.func8, Try.ntmps8
  go_wp2_with fail
  go_loopw [3] (fun i wr => ∃ k : Nat, k ≤ d.m ∧ i = .int .i64 k ∧ D1In w d l 30 wr ∧ itsIn d k = true) (fun i _ => d.m - (intOf i).toNat)
  case atStart =>
    have h := new1 w #[.int .i64 d.since, .int .i64 d.date, .slice l.lA d.ln l.lc, .slice l.iA d.m l.ic] 30
    rw [HLA.out] at h
    exact ⟨0, Nat.zero_le _, rfl, ⟨by rw [HLA.out]; exact h.b0, h.bel⟩, rfl⟩
  case round =>
    obtain ⟨k, hk, rfl, hin, heq⟩ := hrel
    have t0 : wr.cell? ⟨w.heap.size, 0, none⟩ = some (.int .i64 d.since) := hin.p.cell 0
    have t1 : wr.cell? ⟨w.heap.size, 1, none⟩ = some (.int .i64 d.date) := hin.p.cell 1
    have t2 : wr.cell? ⟨w.heap.size, 2, none⟩ = some (.slice l.lA d.ln l.lc) := hin.p.cell 2
    have t3 : wr.cell? ⟨w.heap.size, 3, none⟩ = some (.slice l.iA d.m l.ic) := hin.p.cell 3
    have hwl := hin.p.lt
    by_cases hlt : k < d.m
    · obtain ⟨b', off', hA', hlt2', hc'⟩ := (hD.items.below (Nat.le_refl _) hin.bel).at hlt
      obtain ⟨c0, c1, c2, c3, c4, c5, hN⟩ := hc' k hlt
      have hDr := hD.below (Nat.le_refl _) hin.bel
      have hIA : Hid (l.iA = some ⟨b', off', none⟩) := hA'
      have T0 := Lat.cell (B := wr.heap.size) t0 hwl
      have T1 := Lat.cell (B := wr.heap.size) t1 hwl
      have T2 := Lat.cell (B := wr.heap.size) t2 hwl
      have T3 := Lat.cell (B := wr.heap.size) t3 hwl
      rw [hA'] at t3 T3
      have hlti : (k : Int) < (d.m : Int) := by omega
      have C0 := Lat.cell (B := wr.heap.size) c0 hlt2'
      have C1 := Lat.cell (B := wr.heap.size) c1 hlt2'
      have C2 := Lat.cell (B := wr.heap.size) c2 hlt2'
      have C3 := Lat.cell (B := wr.heap.size) c3 hlt2'
      have C4 := Lat.cell (B := wr.heap.size) c4 hlt2'
      have C5 := Lat.cell (B := wr.heap.size) c5 hlt2'
      have hcall0 : ∀ q : Lat wr.heap.size wr, Calls Try.prog 26 #[dpV d l, itV (d.ino k) (d.nd k) (l.L k)] q.val fun r w'' => r = .returned (.bool (itIn d (d.ino k) (d.nd k))) ∧ ∃ m : Lat wr.heap.size wr, w'' = m.val := fun q =>
        Calls.lat_of (l5Item_any d l (d.ino k) (d.nd k) (l.L k) q.val (hDr.below (Nat.le_refl _) q.bel) (hN.below (Nat.le_refl _) q.bel) hfd (hfd.nds k hlt)) (fun e w' h => ⟨h.2, h.1.mono q.bel.size⟩)
      unfold dpV at hcall0
      rw [hA'] at hcall0
      have HIN : Hid (D1In w d l 30 wr ∧ itsIn d k = true) := ⟨hin, heq⟩
      cases hq : itIn d (d.ino k) (d.nd k) with
      | false =>
        rw [hq] at hcall0
        have hcall : Hid _ := hcall0
        have HQ : Hid (false = d.ok) := ok_bad hlt (step_item hq)
        clear hq hcall0 hc' c0 c1 c2 c3 c4 c5 hN hDr hin heq hA'
        go_wp2_with fail
        refine wp_region_lat (B := wr.heap.size) (w0 := wr) (by kernel_rfl) (by kernel_rfl) (Below.refl _ _) ?_
        repeat (go_big_quiet_step (exact hcall.out _))
        refine wpQuiet_nil ?_
        rintro _ ⟨nq, rfl⟩
        have HB : Hid (Below w.heap.size w nq.val) := (HIN.out.1.below nq.bel).bel
        clear hcall C0 C1 C2 C3 C4 C5 T0 T1 T2 T3 t0 t1 t2 t3
        go_wp2
        go_ret
        exact ⟨HB.out, ret_bool HQ.out⟩
      | true =>
        rw [hq] at hcall0
        have hcall : Hid _ := hcall0
        have HI : Hid (itIn d (d.ino k) (d.nd k) = true) := hq
        clear hq hcall0 hDr hin heq hN
        by_cases hk0 : k = 0
        · subst hk0
          have hz : decide ((0 : Int) < ((0 : Nat) : Int)) = false := by decide
          have HS : Hid (stepIn d 0 = true) := step_zero HI.out
          clear hc' c0 c1 c2 c3 c4 c5 hA' HI
          simp only [Nat.zero_mul, Nat.add_zero] at C0 C1 C2 C3 C4 C5
          go_wp2_with fail
          refine wp_region_lat (B := wr.heap.size) (w0 := wr) (by kernel_rfl) (by kernel_rfl) (Below.refl _ _) ?_
          repeat (go_big_quiet_step (exact hcall.out _))
          refine wpQuiet_nil ?_
          rintro _ ⟨nq, rfl⟩
          have HB : Hid (D1In w d l 30 nq.val) := HIN.out.1.below nq.bel
          clear hcall C0 C1 C2 C3 C4 C5 T0 T1 T2 T3 t0 t1 t2 t3
          go_wp2
          go_roundw
          case rel => exact ⟨1, by omega, by go_num, HB.out, itsIn_succ HIN.out.2 HS.out⟩
          case measure => simp [intOf]; omega
        · have hz : decide ((0 : Int) < (k : Int)) = true := by simp; omega
          have hz' : decide (0 < k) = true := by simp; omega
          have e0 := (hc' (k - 1) (by omega)).1
          have E0 := Lat.cell (B := wr.heap.size) e0 hlt2'
          have hk1 : ((k - 1 : Nat) : Int) < (d.m : Int) := by omega
          have hwr : IntKind.i64.wrap ((k : Int) - 1) = ((k - 1 : Nat) : Int) := by rw [IntKind.wrap_i64]; omega
          by_cases hle : d.ino k ≤ d.ino (k - 1)
          · have hb8 : decide (d.ino k ≤ d.ino (k - 1)) = true := by simp; omega
            have HQ : Hid (false = d.ok) := ok_bad hlt (step_low hk0 hle)
            clear hc' c0 c1 c2 c3 c4 c5 hA' HI e0 hk0
            go_wp2_with fail
            refine wp_region_lat (B := wr.heap.size) (w0 := wr) (by kernel_rfl) (by kernel_rfl) (Below.refl _ _) ?_
            repeat (go_big_quiet_step (exact hcall.out _))
            refine wpQuiet_nil ?_
            rintro _ ⟨nq, rfl⟩
            have HB : Hid (Below w.heap.size w nq.val) := (HIN.out.1.below nq.bel).bel
            clear hcall C0 C1 C2 C3 C4 C5 E0 T0 T1 T2 T3 t0 t1 t2 t3
            go_wp2
            go_ret
            exact ⟨HB.out, ret_bool HQ.out⟩
          · have hb8 : decide (d.ino k ≤ d.ino (k - 1)) = false := by simp; omega
            have HS : Hid (stepIn d k = true) := step_more HI.out (by omega)
            clear hc' c0 c1 c2 c3 c4 c5 hA' HI e0 hk0
            go_wp2_with fail
            refine wp_region_lat (B := wr.heap.size) (w0 := wr) (by kernel_rfl) (by kernel_rfl) (Below.refl _ _) ?_
            repeat (go_big_quiet_step (exact hcall.out _))
            refine wpQuiet_nil ?_
            rintro _ ⟨nq, rfl⟩
            have HB : Hid (D1In w d l 30 nq.val) := HIN.out.1.below nq.bel
            clear hcall C0 C1 C2 C3 C4 C5 E0 T0 T1 T2 T3 t0 t1 t2 t3
            go_wp2
            go_roundw
            case rel => exact ⟨k + 1, by omega, by go_num, HB.out, itsIn_succ HIN.out.2 HS.out⟩
            case measure => simp [intOf]; omega
    · obtain rfl : k = d.m := by omega
      have HK : Hid (true = d.ok ∧ Below w.heap.size w wr) := ⟨by unfold Dp.ok; rw [HH.out, heq]; rfl, hin.bel⟩
      clear hin heq
      go_wp2
      go_ret
      exact ⟨HK.out.2, ret_bool HK.out.1⟩
end Go.Proofs.Ytnnhdcohfabenaa
