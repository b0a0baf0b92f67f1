/-
  What DumpOk of the specification answers.
-/
import Derived.Test.YtnnhdcohfabenaaDumpOkDef
import Derived.Test.YtnnhdcohfabenaaSpecDumpSame
namespace Go.Proofs.Ytnnhdcohfabenaa
open Go.RowKit
set_option linter.unusedVariables false

/-- What is known within l5Kids and l5Item: what is kept in one block, more cells in the next. -/
structure DKIn (w : World) (d : Dp) (l : DLoc) (cs : Array Value) (t : TypeId) (W : World) : Prop where
  p : Blk W w.heap.size #[.int .i64 d.since, .int .i64 d.date, .slice l.lA d.ln l.lc, .slice l.iA d.m l.ic] 30
  x : Blk W (w.heap.size + 1) cs t
  bel : Below w.heap.size w W

theorem DKIn.below {w : World} {d : Dp} {l : DLoc} {cs : Array Value} {t : TypeId} {W W' : World} (h : DKIn w d l cs t W) (hb : Below W.heap.size W W') : DKIn w d l cs t W' :=
  ⟨h.p.below hb h.p.lt, h.x.below hb h.x.lt, h.bel.trans (hb.mono (by have := h.p.lt; omega))⟩
theorem DKIn.drew {w : World} {d : Dp} {l : DLoc} {cs : Array Value} {t : TypeId} {W : World} (h : DKIn w d l cs t W) (q : Nat) : DKIn w d l cs t (W.drewN q) := h.below (below_drewN (Below.refl _ _) q)

set_option maxHeartbeats 2000000 in
theorem l5Kids_any (d : Dp) (l : DLoc) (x : Nd) (lo : Loc) (w : World) (hD : DpIn w d l) (hI : NdIn w x lo) (hfd : d.Fits) (hf : x.Fits) :
    Calls Try.prog 57 #[dpV d l, ndV x lo] w fun e w' => Below w.heap.size w w' ∧ e = .returned (.bool (kidsIn d.ln d.live x.kids x.kn && decide (x.kn = x.nn))) := by
  have hkn := hf.kn
  have hnn := hf.nn
  have hln := hfd.ln
  unfold maxLen at hkn hnn hln
  unfold dpV ndV
  go_enter Try.func57, Try.ntmps57
  go_wp2
  go_loopw [5] (fun i wr => ∃ k : Nat, k ≤ x.kn ∧ i = .int .i64 k ∧ DKIn w d l #[.int .i64 x.kind, .string x.text, .slice lo.nA x.nn lo.nc, .slice lo.kA x.kn lo.kc, .int .i64 x.turn] 56 wr ∧ kidsIn d.ln d.live x.kids k = true) (fun i _ => x.kn - (intOf i).toNat)
  case atStart =>
    have h := new2 w #[.int .i64 d.since, .int .i64 d.date, .slice l.lA d.ln l.lc, .slice l.iA d.m l.ic] 30 #[.int .i64 x.kind, .string x.text, .slice lo.nA x.nn lo.nc, .slice lo.kA x.kn lo.kc, .int .i64 x.turn] 56
    exact ⟨0, Nat.zero_le _, rfl, ⟨h.b0, h.b1, h.bel⟩, rfl⟩
  case round =>
    obtain ⟨k, hk, rfl, hin, heq⟩ := hrel
    have t2 : wr.cell? ⟨w.heap.size, 2, none⟩ = some (.slice l.lA d.ln l.lc) := hin.p.cell 2
    have d2 : wr.cell? ⟨w.heap.size + 1, 2, none⟩ = some (.slice lo.nA x.nn lo.nc) := hin.x.cell 2
    have d3 : wr.cell? ⟨w.heap.size + 1, 3, none⟩ = some (.slice lo.kA x.kn lo.kc) := hin.x.cell 3
    have hLr := hD.live.below (Nat.le_refl _) hin.bel
    have hIr := hI.2.below (Nat.le_refl _) hin.bel
    have HE : Hid (kidsIn d.ln d.live x.kids k = true ∧ DKIn w d l _ 56 wr) := ⟨heq, hin⟩
    clear heq hin
    by_cases hlt : k < x.kn
    · obtain ⟨b, off, hka, hlt2, hc⟩ := hIr.at hlt
      rw [hka] at d3
      have h1 := hc k hlt
      have hlti : (k : Int) < (x.kn : Int) := by omega
      have HKA : Hid _ := hka
      clear hc hka
      have hz := hf.kids k hlt
      unfold In64 at hz
      have bad : kidIn d.ln d.live (x.kids k) = false → Hid (kidsIn d.ln d.live x.kids x.kn = false) := fun h => kidsIn_bad hlt h
      by_cases hz1 : x.kids k < 1
      · have H : Hid (kidsIn d.ln d.live x.kids x.kn = false) := bad (by unfold kidIn; rw [decide_eq_false (show ¬ 1 ≤ x.kids k by omega)]; rfl)
        have hb1 : decide (x.kids k < 1) = true := by simp; omega
        clear bad
        go_wp2_with fail
        go_quiet (fail)
        go_wp2
        go_ret
        exact ⟨(HE.out.2.drew _).bel, ret_bool (by rw [H.out]; rfl)⟩
      · have hb1 : decide (x.kids k < 1) = false := by simp; omega
        by_cases hz2 : (d.ln : Int) ≤ x.kids k
        · have H : Hid (kidsIn d.ln d.live x.kids x.kn = false) := bad (by unfold kidIn; rw [decide_eq_false (show ¬ x.kids k < d.ln by omega)]; simp)
          have hb2 : decide ((d.ln : Int) ≤ x.kids k) = true := by simp; omega
          clear bad
          go_wp2_with fail
          go_quiet (fail)
          go_wp2
          go_ret
          exact ⟨(HE.out.2.drew _).bel, ret_bool (by rw [H.out]; rfl)⟩
        · obtain ⟨j, hj⟩ : ∃ j : Nat, x.kids k = j := ⟨(x.kids k).toNat, by omega⟩
          have hjn : j < d.ln := by omega
          obtain ⟨b', off', ha, hlt2', hc'⟩ := hLr.at hjn
          have g0 := hc' j hjn
          have hko : kidIn d.ln d.live (x.kids k) = d.live j := by
            unfold kidIn; rw [decide_eq_true (show 1 ≤ x.kids k by omega), decide_eq_true (show x.kids k < d.ln by omega), hj]; simp
          clear hc'
          rw [ha] at t2
          have HLA : Hid _ := ha
          clear ha hb1
          rw [hj] at h1 hz1 hz2 hz
          have hb1 : decide ((j : Int) < 1) = false := by simp; omega
          have hb2 : decide ((d.ln : Int) ≤ (j : Int)) = false := by simp; omega
          have hjl : (j : Int) < (d.ln : Int) := by omega
          cases hkd : d.live j with
          | false =>
            have H : Hid (kidsIn d.ln d.live x.kids x.kn = false) := bad (by rw [hko, hkd])
            rw [hkd] at g0
            clear bad hko hkd hj
            go_wp2_with fail
            go_quiet (fail)
            go_wp2
            go_ret
            exact ⟨(HE.out.2.drew _).bel, ret_bool (by rw [H.out]; rfl)⟩
          | true =>
            have H : Hid (kidIn d.ln d.live (x.kids k) = true) := by show _ = _; rw [hko, hkd]
            rw [hkd] at g0
            clear bad hko hkd hj
            go_wp2_with fail
            go_quiet (fail)
            go_wp2
            go_roundw
            case rel => exact ⟨k + 1, by omega, by go_num, HE.out.2.drew _, kidsIn_succ HE.out.1 H.out⟩
            case measure => simp [intOf]; omega
    · have hke : k = x.kn := by omega
      have HK : Hid (kidsIn d.ln d.live x.kids x.kn = true) := by have := HE.out.1; rw [hke] at this; exact this
      clear hke hLr hIr
      go_wp2
      go_ret
      refine ⟨HE.out.2.bel, ret_bool ?_⟩
      rw [HK.out, Bool.true_and]
      by_cases h : x.kn = x.nn
      · simp [h]
      · rw [decide_eq_false h]
        simp
        omega
end Go.Proofs.Ytnnhdcohfabenaa
