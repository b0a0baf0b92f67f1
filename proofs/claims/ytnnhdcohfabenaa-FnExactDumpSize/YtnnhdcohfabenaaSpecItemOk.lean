/-
  What l5Item and DumpOk of the specification answer.
-/
import Derived.Test.YtnnhdcohfabenaaSpecDumpOk
namespace Go.Proofs.Ytnnhdcohfabenaa
open Go.RowKit
set_option linter.unusedVariables false

theorem it_dead {d : Dp} {o : Int} {x : Nd} (h : liveIn d.ln d.live o = false) : false = itIn d o x := by unfold itIn; rw [h]; rfl
theorem it_turn {d : Dp} {o : Int} {x : Nd} (h : turnedIn d x = false) : false = itIn d o x := by unfold itIn; rw [h]; simp
theorem it_node {d : Dp} {o : Int} {x : Nd} (h1 : liveIn d.ln d.live o = true) (h2 : turnedIn d x = true) : nodeIn d o x = itIn d o x := by unfold itIn; rw [h1, h2]; rfl

/-- The cells of a place that was turned. -/
def itC (o : Int) (x : Nd) (lo : Loc) : Array Value := #[.int .i64 o, .int .i64 x.kind, .string x.text, .slice lo.nA x.nn lo.nc, .slice lo.kA x.kn lo.kc, .int .i64 x.turn]

set_option maxHeartbeats 4000000 in
theorem l5Item_any (d : Dp) (l : DLoc) (o : Int) (x : Nd) (lo : Loc) (w : World) (hD : DpIn w d l) (hI : NdIn w x lo) (hfd : d.Fits) (hf : x.Fits) :
    Calls Try.prog 26 #[dpV d l, itV o x lo] w fun e w' => Below w.heap.size w w' ∧ e = .returned (.bool (itIn d o x)) := by
  have hkn := hf.kn
  have hnn := hf.nn
  have hln := hfd.ln
  unfold maxLen at hkn hnn hln
  unfold dpV itV
  have hend : ∀ (c0 c1 : Array Value) (t0 t1 : TypeId), Below w.heap.size w ((w.alloc (.cells c0 t0)).alloc (.cells c1 t1)) := fun c0 c1 t0 t1 => ((Below.refl _ _).alloc (Nat.le_refl _) _).alloc (by simp) _
  have HEND : Hid _ := hend
  clear hend
  by_cases h1 : o < 0
  · have hb1 : decide (o < 0) = true := by simp; omega
    have HX : Hid (false = itIn d o x) := it_dead (by unfold liveIn; rw [decide_eq_false (show ¬ 0 ≤ o by omega)]; rfl)
    go_enter Try.func26, Try.ntmps26
    go_wp2_with fail
    go_ret
    exact ⟨HEND.out _ _ _ _, ret_bool HX.out⟩
  have hb1 : decide (o < 0) = false := by simp; omega
  by_cases h2 : (d.ln : Int) ≤ o
  · have hb2 : decide ((d.ln : Int) ≤ o) = true := by simp; omega
    have HX : Hid (false = itIn d o x) := it_dead (by unfold liveIn; rw [decide_eq_false (show ¬ o < d.ln by omega)]; simp)
    go_enter Try.func26, Try.ntmps26
    go_wp2_with fail
    go_ret
    exact ⟨HEND.out _ _ _ _, ret_bool HX.out⟩
  have hb2 : decide ((d.ln : Int) ≤ o) = false := by simp; omega
  obtain ⟨j, rfl⟩ : ∃ j : Nat, o = j := ⟨o.toNat, by omega⟩
  have hjn : j < d.ln := by omega
  have hjl : (j : Int) < (d.ln : Int) := by omega
  obtain ⟨b, off, hA, hlt2, hc⟩ := hD.live.at hjn
  have g0 := hc j hjn
  have hbne : b ≠ w.heap.size := by omega
  have hbne' : b ≠ w.heap.size + 1 := by omega
  have hblt' : b < w.heap.size + 1 := by omega
  have HLA : Hid (l.lA = some ⟨b, off, none⟩) := hA
  rw [hA]
  clear hc hA
  cases hlv : d.live j with
  | false =>
    have HX : Hid (false = itIn d j x) := it_dead (by unfold liveIn; simp [hlv])
    rw [hlv] at g0
    clear hlv
    go_enter Try.func26, Try.ntmps26
    go_wp2_with fail
    go_ret
    exact ⟨HEND.out _ _ _ _, ret_bool HX.out⟩
  | true =>
  have HL : Hid (liveIn d.ln d.live (j : Int) = true) := by show _ = _; unfold liveIn; simp [hlv]; omega
  rw [hlv] at g0
  clear hlv
  by_cases h3 : x.turn ≤ d.since
  · have hb3 : decide (x.turn ≤ d.since) = true := by simp; omega
    have HX : Hid (false = itIn d j x) := it_turn (by unfold turnedIn; rw [decide_eq_false (show ¬ d.since < x.turn by omega)]; rfl)
    go_enter Try.func26, Try.ntmps26
    go_wp2_with fail
    go_ret
    exact ⟨HEND.out _ _ _ _, ret_bool HX.out⟩
  have hb3 : decide (x.turn ≤ d.since) = false := by simp; omega
  by_cases h4 : d.date < x.turn
  · have hb4 : decide (d.date < x.turn) = true := by simp; omega
    have HX : Hid (false = itIn d j x) := it_turn (by unfold turnedIn; rw [decide_eq_false (show ¬ x.turn ≤ d.date by omega)]; simp)
    go_enter Try.func26, Try.ntmps26
    go_wp2_with fail
    go_ret
    exact ⟨HEND.out _ _ _ _, ret_bool HX.out⟩
  have hb4 : decide (d.date < x.turn) = false := by simp; omega
  have HN : Hid (nodeIn d j x = itIn d j x) := it_node HL.out (by unfold turnedIn; rw [decide_eq_true (show d.since < x.turn by omega), decide_eq_true (show x.turn ≤ d.date by omega)]; rfl)
  clear HL
  by_cases k1 : x.kind = 1
  · have c1 : (x.kind == 1) = true := by simp [k1]
    have H : Hid ((fileIs x && decide ((0 : Int) < j)) = itIn d j x) := by show _ = _; rw [← HN.out]; unfold nodeIn; rw [if_pos k1]
    clear k1 HN
    go_enter Try.func26, Try.ntmps26
    go_wp2_with fail
    refine (l2Text_any x.text _ hf.text).mono ?_
    rintro e w1 ⟨rfl, rfl⟩
    cases htx : textOk x.text with
    | false =>
      have HT : Hid (textOk x.text = false) := htx
      clear htx
      go_wp2_with fail
      go_ret
      exact ⟨HEND.out _ _ _ _, ret_bool (by rw [← H.out]; unfold fileIs; rw [HT.out]; rfl)⟩
    | true =>
      have HT : Hid (textOk x.text = true) := htx
      clear htx
      have HF : Hid ((decide (x.nn = 0) && decide (x.kn = 0) && decide ((0 : Int) < j)) = itIn d j x) := by show _ = _; rw [← H.out]; unfold fileIs; rw [HT.out]; rfl
      clear H HT
      by_cases e1 : x.nn = 0
      · by_cases e2 : x.kn = 0
        · have a1 : ((x.nn : Int) == 0) = true := by simp [e1]
          have a2 : ((x.kn : Int) == 0) = true := by simp [e2]
          have HG : Hid (decide ((0 : Int) < j) = itIn d j x) := by show _ = _; rw [← HF.out, decide_eq_true e1, decide_eq_true e2]; rfl
          clear e1 e2 HF
          go_wp2_with fail
          all_goals
            go_ret
            exact ⟨HEND.out _ _ _ _, ret_bool (by rw [← HG.out]; (first | rfl | (simp [*]; done) | (simp; omega)))⟩
        · have a1 : ((x.nn : Int) == 0) = true := by simp [e1]
          have a2 : ((x.kn : Int) == 0) = false := by simp; omega
          have HG : Hid (false = itIn d j x) := by show _ = _; rw [← HF.out, decide_eq_false e2]; simp
          clear e1 e2 HF
          go_wp2_with fail
          go_ret
          exact ⟨HEND.out _ _ _ _, ret_bool HG.out⟩
      · have a1 : ((x.nn : Int) == 0) = false := by simp; omega
        have HG : Hid (false = itIn d j x) := by show _ = _; rw [← HF.out, decide_eq_false e1]; simp
        clear e1 HF
        go_wp2_with fail
        go_ret
        exact ⟨HEND.out _ _ _ _, ret_bool HG.out⟩
  · have c1 : (x.kind == 1) = false := by simp [k1]
    by_cases k2 : x.kind = 2
    · have c2 : (x.kind == 2) = true := by simp [k2]
      have H : Hid ((dirIs x && kidsIn d.ln d.live x.kids x.kn) = itIn d j x) := by show _ = _; rw [← HN.out]; unfold nodeIn; rw [if_neg k1, if_pos k2]
      clear k1 k2 HN
      cases ht : (x.text.toList == []) with
      | false =>
        have HX : Hid (false = itIn d j x) := by show _ = _; rw [← H.out]; unfold dirIs; rw [ht]; rfl
        go_enter Try.func26, Try.ntmps26
        go_wp2_with fail
        go_ret
        exact ⟨HEND.out _ _ _ _, ret_bool HX.out⟩
      | true =>
        have H2 : Hid ((dirNames x.names x.nn && decide (x.kn = x.nn) && kidsIn d.ln d.live x.kids x.kn) = itIn d j x) := by show _ = _; rw [← H.out]; unfold dirIs; rw [ht]; rfl
        clear H
        go_enter Try.func26, Try.ntmps26
        go_wp2_with fail
        refine at_world (F := New2 w _ _ _ _) (new2 w _ _ _ _) ?_
        rintro W ⟨hp, hx, hb, hs⟩
        refine (l2Names_any lo.nA x.nn lo.nc x.names W (hI.1.below (Nat.le_refl _) hb) hf.names hf.nn).mono ?_
        rintro e w1 ⟨⟨q, rfl⟩, rfl⟩
        have HB : Hid (Below w.heap.size w W) := hb
        have p0 : W.cell? ⟨w.heap.size, 0, none⟩ = some (.int .i64 d.since) := hp.cell 0
        have p1 : W.cell? ⟨w.heap.size, 1, none⟩ = some (.int .i64 d.date) := hp.cell 1
        have p2 : W.cell? ⟨w.heap.size, 2, none⟩ = some (.slice (some ⟨b, off, none⟩) d.ln l.lc) := hp.cell 2
        have p3 : W.cell? ⟨w.heap.size, 3, none⟩ = some (.slice l.iA d.m l.ic) := hp.cell 3
        have x1 : W.cell? ⟨w.heap.size + 1, 1, none⟩ = some (.int .i64 x.kind) := hx.cell 1
        have x2 : W.cell? ⟨w.heap.size + 1, 2, none⟩ = some (.string x.text) := hx.cell 2
        have x3 : W.cell? ⟨w.heap.size + 1, 3, none⟩ = some (.slice lo.nA x.nn lo.nc) := hx.cell 3
        have x4 : W.cell? ⟨w.heap.size + 1, 4, none⟩ = some (.slice lo.kA x.kn lo.kc) := hx.cell 4
        have x5 : W.cell? ⟨w.heap.size + 1, 5, none⟩ = some (.int .i64 x.turn) := hx.cell 5
        clear hp hx hb
        cases hnm : dirNames x.names x.nn with
        | false =>
          have HX : Hid (false = itIn d j x) := by show _ = _; rw [← H2.out, hnm]; rfl
          clear hnm
          go_wp2_with fail
          go_ret
          exact ⟨below_drewN HB.out _, ret_bool HX.out⟩
        | true =>
          have HX : Hid ((kidsIn d.ln d.live x.kids x.kn && decide (x.kn = x.nn)) = itIn d j x) := by show _ = _; rw [← H2.out, hnm]; simp [Bool.and_comm]
          clear hnm H2
          go_wp2_with fail
          have hbq := below_drewN HB.out q
          have hk5 := l5Kids_any d l x lo (W.drewN q) (hD.below (Nat.le_refl _) hbq) (hI.below (Nat.le_refl _) hbq) hfd hf
          unfold dpV at hk5
          rw [HLA.out] at hk5
          refine hk5.mono ?_
          rintro e w2 ⟨hb2, rfl⟩
          have HB2 : Hid (Below w.heap.size w w2) := hbq.trans (hb2.mono hbq.size)
          clear hb2 hbq hk5 p0 p1 p2 p3 x1 x2 x3 x4 x5
          rw [HX.out]
          go_wp2
          go_ret
          exact ⟨HB2.out, rfl⟩
    · have c2 : (x.kind == 2) = false := by simp [k2]
      have HX : Hid (false = itIn d j x) := by show _ = _; rw [← HN.out]; unfold nodeIn; rw [if_neg k1, if_neg k2]
      clear k1 k2 HN
      go_enter Try.func26, Try.ntmps26
      go_wp2_with fail
      go_ret
      exact ⟨HEND.out _ _ _ _, ret_bool HX.out⟩
end Go.Proofs.Ytnnhdcohfabenaa
