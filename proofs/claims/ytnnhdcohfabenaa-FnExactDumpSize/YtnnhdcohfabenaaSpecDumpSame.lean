/-
  What DumpSame of the specification answers.
-/
import Derived.Test.YtnnhdcohfabenaaSpecSame
import Derived.Test.YtnnhdcohfabenaaItemsBase
import Derived.BigRegion
namespace Go.Proofs.Ytnnhdcohfabenaa
open Go.RowKit
set_option linter.unusedVariables false

/-- What is known within DumpSame. -/
structure DSIn (w : World) (d e : Dp) (l k : DLoc) (t : TypeId) (W : World) : Prop where
  p : Blk W w.heap.size #[.int .i64 d.since, .int .i64 d.date, .slice l.lA d.ln l.lc, .slice l.iA d.m l.ic] t
  p' : Blk W (w.heap.size + 1) #[.int .i64 e.since, .int .i64 e.date, .slice k.lA e.ln k.lc, .slice k.iA e.m k.ic] t
  bel : Below w.heap.size w W

theorem DSIn.below {w : World} {d e : Dp} {l k : DLoc} {t : TypeId} {W W' : World} (h : DSIn w d e l k t W) (hb : Below W.heap.size W W') : DSIn w d e l k t W' :=
  ⟨h.p.below hb h.p.lt, h.p'.below hb h.p'.lt, h.bel.trans (hb.mono (by have := h.p.lt; omega))⟩

theorem DSIn.drew {w : World} {d e : Dp} {l k : DLoc} {t : TypeId} {W : World} (h : DSIn w d e l k t W) (q : Nat) : DSIn w d e l k t (W.drewN q) := h.below (below_drewN (Below.refl _ _) q)

theorem same_since {d e : Dp} (h : (d.since == e.since) = false) : false = d.same e := by unfold Dp.same; rw [h]; rfl
theorem same_date {d e : Dp} (h : (d.date == e.date) = false) : false = d.same e := by unfold Dp.same; rw [h]; simp
theorem same_ln {d e : Dp} (h : ¬ d.ln = e.ln) : false = d.same e := by unfold Dp.same; simp [h]
theorem same_m {d e : Dp} (h : ¬ d.m = e.m) : false = d.same e := by unfold Dp.same; simp [h]
theorem same_live {d e : Dp} (h : false = eqB d.ln d.live e.live) : false = d.same e := by unfold Dp.same; rw [← h]; simp
theorem same_items {d e : Dp} (h : false = sameIts d.m d.ino e.ino d.nd e.nd) : false = d.same e := by unfold Dp.same; rw [← h]; simp
theorem same_all {d e : Dp} (h1 : (d.since == e.since) = true) (h2 : (d.date == e.date) = true) (h3 : d.ln = e.ln) (h4 : eqB d.ln d.live e.live = true) (h5 : d.m = e.m) (h6 : sameIts d.m d.ino e.ino d.nd e.nd = true) : true = d.same e := by
  unfold Dp.same; rw [h1, h2, h4, h6]; simp [h3, h5]

set_option maxHeartbeats 4000000 in
theorem specDumpSame_any (d e : Dp) (l k : DLoc) (w : World) (hI : DpIn w d l) (hI' : DpIn w e k) (hf : d.Fits) (hf' : e.Fits) :
    Calls Try.prog 20 #[dpV d l, dpV e k] w fun r w' => Below w.heap.size w w' ∧ r = .returned (.bool (d.same e)) := by
  have hln := hf.ln
  have hln' := hf'.ln
  have hm := hf.m
  have hm' := hf'.m
  unfold maxLen at hln hln' hm hm'
  unfold dpV
  cases h1 : (d.since == e.since) with
  | false =>
    have hnb : (d.since != e.since) = true := by simp only [bne, h1]; rfl
    have HX : Hid (false = d.same e) := same_since h1
    clear h1
    go_enter Try.func20, Try.ntmps20
    go_wp2_with fail
    go_ret
    exact ⟨((Below.refl _ _).alloc (Nat.le_refl _) _).alloc (by simp) _, ret_bool HX.out⟩
  | true =>
  have hnb : (d.since != e.since) = false := by simpa [bne] using h1
  cases h2 : (d.date == e.date) with
  | false =>
    have hnc : (d.date != e.date) = true := by simp only [bne, h2]; rfl
    have HX : Hid (false = d.same e) := same_date h2
    clear h1 h2
    go_enter Try.func20, Try.ntmps20
    go_wp2_with fail
    go_ret
    exact ⟨((Below.refl _ _).alloc (Nat.le_refl _) _).alloc (by simp) _, ret_bool HX.out⟩
  | true =>
  have hnc : (d.date != e.date) = false := by simpa [bne] using h2
  by_cases h3 : d.ln = e.ln
  · by_cases h4 : d.m = e.m
    · have HD : Hid ((d.since == e.since) = true ∧ (d.date == e.date) = true ∧ d.ln = e.ln ∧ d.m = e.m) := ⟨h1, h2, h3, h4⟩
      have hb3 : ((d.ln : Int) != (e.ln : Int)) = false := by simp [h3]
      have hb4 : ((d.m : Int) != (e.m : Int)) = false := by simp [h4]
      clear h1 h2 h3 h4
      go_enter Try.func20, Try.ntmps20
      go_wp2_with fail
      go_loopw [5] (fun i wr => ∃ j : Nat, j ≤ d.ln ∧ i = .int .i64 j ∧ DSIn w d e l k 30 wr ∧ eqB j d.live e.live = true) (fun i _ => d.ln - (intOf i).toNat)
      case atStart =>
        have h := new2 w #[.int .i64 d.since, .int .i64 d.date, .slice l.lA d.ln l.lc, .slice l.iA d.m l.ic] 30 #[.int .i64 e.since, .int .i64 e.date, .slice k.lA e.ln k.lc, .slice k.iA e.m k.ic] 30
        exact ⟨0, Nat.zero_le _, rfl, ⟨h.b0, h.b1, h.bel⟩, rfl⟩
      case round =>
        obtain ⟨j, hj, rfl, hin, heq⟩ := hrel
        have t2 : wr.cell? ⟨w.heap.size, 2, none⟩ = some (.slice l.lA d.ln l.lc) := hin.p.cell 2
        have s2 : wr.cell? ⟨w.heap.size + 1, 2, none⟩ = some (.slice k.lA e.ln k.lc) := hin.p'.cell 2
        by_cases hlt : j < d.ln
        · have hlt' : j < e.ln := by have := HD.out.2.2.1; omega
          obtain ⟨b, off, hA, hlt2, hc⟩ := (hI.live.below (Nat.le_refl _) hin.bel).at hlt
          obtain ⟨b', off', hA', hlt2', hc'⟩ := (hI'.live.below (Nat.le_refl _) hin.bel).at hlt'
          have c0 := hc j hlt
          have d0 := hc' j hlt'
          rw [hA] at t2
          rw [hA'] at s2
          have HA : Hid _ := And.intro hA hA'
          have hlti : (j : Int) < (d.ln : Int) := by omega
          have hlti' : (j : Int) < (e.ln : Int) := by omega
          have HIN : Hid (DSIn w d e l k 30 wr ∧ eqB j d.live e.live = true) := ⟨hin, heq⟩
          clear hc hc' hin heq hA hA'
          by_cases hzy : d.live j = e.live j
          · have hzb : (!(d.live j == e.live j)) = false := by simp [hzy]
            have HZ : Hid (d.live j = e.live j) := hzy
            clear hzy
            go_wp2_with fail
            go_quiet (fail)
            go_wp2
            go_roundw
            case rel => exact ⟨j + 1, by omega, by go_num, HIN.out.1.drew _, eqB_succ j _ _ HIN.out.2 HZ.out⟩
            case measure => simp [intOf]; omega
          · have hzb : (!(d.live j == e.live j)) = true := by simp [hzy]
            have HZ : Hid (false = d.same e) := same_live (eqB_not d.ln j _ _ hlt hzy)
            clear hzy
            go_wp2_with fail
            go_quiet (fail)
            go_wp2
            go_ret
            exact ⟨(HIN.out.1.drew _).bel, ret_bool HZ.out⟩
        · obtain rfl : j = d.ln := by omega
          have HEQ : Hid (eqB d.ln d.live e.live = true) := heq
          have HW : Hid (DSIn w d e l k 30 wr) := hin
          clear heq hin s2
          go_wp2_with fail
          go_loopw [6] (fun i wr => ∃ j : Nat, j ≤ d.m ∧ i = .int .i64 j ∧ DSIn w d e l k 30 wr ∧ sameIts j d.ino e.ino d.nd e.nd = true) (fun i _ => d.m - (intOf i).toNat)
          case atStart => exact ⟨0, Nat.zero_le _, rfl, HW.out, rfl⟩
          case round =>
            rename_i wr0
            obtain ⟨j, hj, rfl, hin, heq⟩ := hrel
            have t3 : wr.cell? ⟨w.heap.size, 3, none⟩ = some (.slice l.iA d.m l.ic) := hin.p.cell 3
            have s3 : wr.cell? ⟨w.heap.size + 1, 3, none⟩ = some (.slice k.iA e.m k.ic) := hin.p'.cell 3
            have hwl := hin.p.lt
            have hwl' := hin.p'.lt
            by_cases hlt : j < d.m
            · have hlt' : j < e.m := by have := HD.out.2.2.2; omega
              obtain ⟨b, off, hA, hlt2, hc⟩ := (hI.items.below (Nat.le_refl _) hin.bel).at hlt
              obtain ⟨b', off', hA', hlt2', hc'⟩ := (hI'.items.below (Nat.le_refl _) hin.bel).at hlt'
              obtain ⟨c0, c1, c2, c3, c4, c5, hN⟩ := hc j hlt
              obtain ⟨d0, d1, d2, d3, d4, d5, hN'⟩ := hc' j hlt'
              rw [hA] at t3
              rw [hA'] at s3
              have HA : Hid _ := And.intro hA hA'
              have hlti : (j : Int) < (d.m : Int) := by omega
              have hlti' : (j : Int) < (e.m : Int) := by omega
              have C0 := Lat.cell (B := wr.heap.size) c0 hlt2
              have C1 := Lat.cell (B := wr.heap.size) c1 hlt2
              have C2 := Lat.cell (B := wr.heap.size) c2 hlt2
              have C3 := Lat.cell (B := wr.heap.size) c3 hlt2
              have C4 := Lat.cell (B := wr.heap.size) c4 hlt2
              have C5 := Lat.cell (B := wr.heap.size) c5 hlt2
              have D0 := Lat.cell (B := wr.heap.size) d0 hlt2'
              have D1 := Lat.cell (B := wr.heap.size) d1 hlt2'
              have D2 := Lat.cell (B := wr.heap.size) d2 hlt2'
              have D3 := Lat.cell (B := wr.heap.size) d3 hlt2'
              have D4 := Lat.cell (B := wr.heap.size) d4 hlt2'
              have D5 := Lat.cell (B := wr.heap.size) d5 hlt2'
              have T3 := Lat.cell (B := wr.heap.size) t3 hwl
              have S3 := Lat.cell (B := wr.heap.size) s3 hwl'
              have hcall : Hid (∀ q : Lat wr.heap.size wr, Calls Try.prog 50 #[ndV (d.nd j) (l.L j), ndV (e.nd j) (k.L j)] q.val fun r w'' => r = .returned (.bool ((d.nd j).same (e.nd j))) ∧ ∃ m : Lat wr.heap.size wr, w'' = m.val) := fun q =>
                Calls.lat_of (specNodeSame_any (d.nd j) (e.nd j) (l.L j) (k.L j) q.val (hN.below (Nat.le_refl _) q.bel) (hN'.below (Nat.le_refl _) q.bel) (hf.nds j hlt) (hf'.nds j hlt')) (fun e w' h => ⟨h.2, h.1.mono q.bel.size⟩)
              have HIN : Hid (DSIn w d e l k 30 wr ∧ sameIts j d.ino e.ino d.nd e.nd = true) := ⟨hin, heq⟩
              clear hc hc' c0 c1 c2 c3 c4 c5 d0 d1 d2 d3 d4 d5 hN hN' hin heq hA hA'
              cases ho : (d.ino j == e.ino j) with
              | false =>
                have hob : (d.ino j != e.ino j) = true := by simp only [bne, ho]; rfl
                have HQ : Hid (false = d.same e) := same_items (sameIts_not d.m j _ _ _ _ hlt (by unfold sameIt; rw [ho]; rfl))
                clear ho
                go_wp2_with fail
                refine wp_region_lat (B := wr.heap.size) (w0 := wr) (by kernel_rfl) (by kernel_rfl) (Below.refl _ _) ?_
                repeat (go_big_quiet_step (exact hcall.out _))
                refine wpQuiet_nil ?_
                rintro _ ⟨nq, rfl⟩
                have HB : Hid (Below w.heap.size w nq.val) := (HIN.out.1.below nq.bel).bel
                clear hcall C0 C1 C2 C3 C4 C5 D0 D1 D2 D3 D4 D5 T3 S3 t3 s3
                go_wp2
                go_ret
                exact ⟨HB.out, ret_bool HQ.out⟩
              | true =>
                have hob : (d.ino j != e.ino j) = false := by simpa [bne] using ho
                have HO : Hid ((d.ino j == e.ino j) = true) := ho
                clear ho
                go_wp2_with fail
                refine wp_region_lat (B := wr.heap.size) (w0 := wr) (by kernel_rfl) (by kernel_rfl) (Below.refl _ _) ?_
                repeat (go_big_quiet_step (exact hcall.out _))
                refine wpQuiet_nil ?_
                rintro _ ⟨nq, rfl⟩
                have HB : Hid (DSIn w d e l k 30 nq.val) := HIN.out.1.below nq.bel
                clear hcall C0 C1 C2 C3 C4 C5 D0 D1 D2 D3 D4 D5 T3 S3 t3 s3
                cases hq : (d.nd j).same (e.nd j) with
                | false =>
                  have HQ : Hid (false = d.same e) := same_items (sameIts_not d.m j _ _ _ _ hlt (by unfold sameIt; rw [hq]; simp))
                  clear hq
                  go_wp2
                  go_ret
                  exact ⟨HB.out.bel, ret_bool HQ.out⟩
                | true =>
                  have HQ : Hid (sameIt (d.ino j) (e.ino j) (d.nd j) (e.nd j) = true) := by show _ = _; unfold sameIt; rw [hq, HO.out]; rfl
                  clear hq
                  go_wp2
                  go_roundw
                  case rel => exact ⟨j + 1, by omega, by go_num, HB.out, sameIts_succ j _ _ _ _ HIN.out.2 HQ.out⟩
                  case measure => simp [intOf]; omega
            · obtain rfl : j = d.m := by omega
              have HK : Hid (true = d.same e ∧ Below w.heap.size w wr) := ⟨same_all HD.out.1 HD.out.2.1 HD.out.2.2.1 HEQ.out HD.out.2.2.2 heq, hin.bel⟩
              clear hin heq
              go_wp2
              go_ret
              exact ⟨HK.out.2, ret_bool HK.out.1⟩
    · have hb3 : ((d.ln : Int) != (e.ln : Int)) = false := by simp [h3]
      have hb4 : ((d.m : Int) != (e.m : Int)) = true := by simp; omega
      have HX : Hid (false = d.same e) := same_m h4
      clear h1 h2 h3 h4
      go_enter Try.func20, Try.ntmps20
      go_wp2_with fail
      go_ret
      exact ⟨((Below.refl _ _).alloc (Nat.le_refl _) _).alloc (by simp) _, ret_bool HX.out⟩
  · have hb3 : ((d.ln : Int) != (e.ln : Int)) = true := by simp; omega
    have HX : Hid (false = d.same e) := same_ln h3
    clear h1 h2 h3
    go_enter Try.func20, Try.ntmps20
    go_wp2_with fail
    go_ret
    exact ⟨((Below.refl _ _).alloc (Nat.le_refl _) _).alloc (by simp) _, ret_bool HX.out⟩
end Go.Proofs.Ytnnhdcohfabenaa
