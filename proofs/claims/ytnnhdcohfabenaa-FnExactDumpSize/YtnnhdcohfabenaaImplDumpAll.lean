/-
  What DumpOk of the program answers.
-/
import Derived.Test.YtnnhdcohfabenaaImplDumpOk
namespace Go.Proofs.Ytnnhdcohfabenaa
open Go.RowKit
set_option linter.unusedVariables false

/-- The Ino of the place ahead. -/
def lastOf (d : Dp) (k : Nat) : Int := if k = 0 then -1 else d.ino (k - 1)

theorem last_low {d : Dp} {k : Nat} (h : d.ino k ≤ lastOf d k) : stepIn d k = false := by
  unfold lastOf at h
  by_cases hk : k = 0
  · subst hk
    rw [if_pos rfl] at h
    refine step_item (it_dead (x := d.nd 0) ?_).symm
    unfold liveIn
    rw [decide_eq_false (show ¬ 0 ≤ d.ino 0 by omega)]
    rfl
  · rw [if_neg hk] at h
    exact step_low hk h

theorem last_more {d : Dp} {k : Nat} (h : ¬ d.ino k ≤ lastOf d k) (hi : itIn d (d.ino k) (d.nd k) = true) : stepIn d k = true := by
  unfold lastOf at h
  by_cases hk : k = 0
  · subst hk; exact step_zero hi
  · rw [if_neg hk] at h
    exact step_more hi (by omega)

theorem last_succ (d : Dp) (k : Nat) : lastOf d (k + 1) = d.ino k := by unfold lastOf; simp

theorem turnIn_no {z y : Int} (h : z < 1 ∨ y < z) : turnIn z y = false := by
  unfold turnIn
  rcases h with h | h
  · rw [decide_eq_false (show ¬ 1 ≤ z by omega)]; rfl
  · rw [decide_eq_false (show ¬ z ≤ y by omega)]; simp
theorem turnIn_yes {z y : Int} (h : 1 ≤ z) (h' : z ≤ y) : turnIn z y = true := by unfold turnIn; rw [decide_eq_true h, decide_eq_true h']; rfl

/-- What is known within a round: what is kept, and a place that was turned in a variable. -/
structure D2In (w wr : World) (d : Dp) (l : DLoc) (o : Int) (x : Nd) (lo : Loc) (W : World) : Prop where
  d1 : D1In w d l 30 W
  x : Blk W wr.heap.size #[.int .i64 o, .int .i64 x.kind, .string x.text, .slice lo.nA x.nn lo.nc, .slice lo.kA x.kn lo.kc, .int .i64 x.turn] 58

theorem D2In.below {w wr : World} {d : Dp} {l : DLoc} {o : Int} {x : Nd} {lo : Loc} {W W' : World} (h : D2In w wr d l o x lo W) (hb : Below W.heap.size W W') : D2In w wr d l o x lo W' := ⟨h.d1.below hb, h.x.below hb h.x.lt⟩

set_option maxHeartbeats 4000000 in
theorem implDumpOk_any (d : Dp) (l : DLoc) (w : World) (hD : DpIn w d l) (hfd : d.Fits) :
    Calls Try.prog 10 #[dpV d l] w fun e w' => Below w.heap.size w w' ∧ e = .returned (.bool d.ok) := by
  have hln := hfd.ln
  have hm := hfd.m
  unfold maxLen at hln hm
  unfold dpV
  have HEND : Hid (∀ (c0 : Array Value) (t0 : TypeId), Below w.heap.size w (w.alloc (.cells c0 t0))) := fun c0 t0 => (Below.refl _ _).alloc (Nat.le_refl _) _
  by_cases h1 : d.since < 0
  · have hb1 : decide (d.since < 0) = true := by simp; omega
    have HX : Hid (false = d.ok) := head_1 h1
    go_enter Try.func10, Try.ntmps10
    go_wp2_with fail
    go_ret
    exact ⟨HEND.out _ _, ret_bool HX.out⟩
  have hb1 : decide (d.since < 0) = false := by simp; omega
  by_cases h2 : d.date < d.since
  · have hb2 : decide (d.date < d.since) = true := by simp; omega
    have HX : Hid (false = d.ok) := head_2 h2
    go_enter Try.func10, Try.ntmps10
    go_wp2_with fail
    go_ret
    exact ⟨HEND.out _ _, ret_bool HX.out⟩
  have hb2 : decide (d.date < d.since) = false := by simp; omega
  by_cases h3 : d.date < 1 ∨ 1000 < d.date
  · have HX : Hid (false = d.ok) := h3.elim head_3 head_4
    have HT : Hid (turnIn d.date 1000 = false) := turnIn_no h3
    clear h3
    go_enter Try.func10, Try.ntmps10
    go_wp2_with fail
    refine (turnOk_any d.date 1000 _).mono ?_
    rintro e w' ⟨rfl, rfl⟩
    rw [HT.out]
    go_wp2_with fail
    go_ret
    exact ⟨HEND.out _ _, ret_bool HX.out⟩
  have h3a : ¬ d.date < 1 := fun h => h3 (Or.inl h)
  have h3b : ¬ 1000 < d.date := fun h => h3 (Or.inr h)
  have HT : Hid (turnIn d.date 1000 = true) := turnIn_yes (by omega) (by omega)
  clear h3
  by_cases h5 : d.ln < 1
  · have hb5 : decide ((d.ln : Int) < 1) = true := by simp; omega
    have HX : Hid (false = d.ok) := head_5 h5
    clear h5
    go_enter Try.func10, Try.ntmps10
    go_wp2_with fail
    refine (turnOk_any d.date 1000 _).mono ?_
    rintro e w' ⟨rfl, rfl⟩
    rw [HT.out]
    go_wp2_with fail
    go_ret
    exact ⟨HEND.out _ _, ret_bool HX.out⟩
  have hb5 : decide ((d.ln : Int) < 1) = false := by simp; omega
  by_cases h6 : 10 < d.ln
  · have hb6 : decide ((10 : Int) < (d.ln : Int)) = true := by simp; omega
    have HX : Hid (false = d.ok) := head_6 h6
    go_enter Try.func10, Try.ntmps10
    go_wp2_with fail
    refine (turnOk_any d.date 1000 _).mono ?_
    rintro e w' ⟨rfl, rfl⟩
    rw [HT.out]
    go_wp2_with fail
    go_ret
    exact ⟨HEND.out _ _, ret_bool HX.out⟩
  have hb6 : decide ((10 : Int) < (d.ln : Int)) = false := by simp; omega
  have h0n : 0 < d.ln := by omega
  have h0i : (0 : Int) < (d.ln : Int) := by omega
  have h10 : d.ln ≤ 10 := by omega
  obtain ⟨b, off, hA, hlt2, hc⟩ := hD.live.at h0n
  have g0 := hc 0 h0n
  rw [Nat.add_zero] at g0
  have hbne : b ≠ w.heap.size := by omega
  have HLA : Hid (l.lA = some ⟨b, off, none⟩) := hA
  rw [hA]
  clear hc hA
  cases h7 : d.live 0 with
  | false =>
    have HX : Hid (false = d.ok) := head_7 h7
    rw [h7] at g0
    clear h7
    go_enter Try.func10, Try.ntmps10
    go_wp2_with fail
    refine (turnOk_any d.date 1000 _).mono ?_
    rintro e w' ⟨rfl, rfl⟩
    rw [HT.out]
    go_wp2_with fail
    go_ret
    exact ⟨HEND.out _ _, ret_bool HX.out⟩
  | true =>
  have HH : Hid (headIn d = true) := head_yes h1 h2 h3a h3b h5 h6 h7
  rw [h7] at g0
  clear h7
  go_enter Try.func10, Try.ntmps10
  go_wp2_with fail
  refine (turnOk_any d.date 1000 _).mono ?_
  rintro e w' ⟨rfl, rfl⟩
  rw [HT.out]
  go_wp2_with fail
  refine at_world (F := New1 w _ _) (new1 w _ _) ?_
  rintro W ⟨hp, hb, hs⟩
  have hbl := bitsOfList_any l.lA d.ln l.lc d.live W (hD.live.below (Nat.le_refl _) hb) h10
  rw [HLA.out] at hbl
  refine hbl.mono ?_
  rintro e w' ⟨rfl, rfl⟩
  have HW : Hid (D1In w d l 30 w') := ⟨by rw [HLA.out]; exact hp, hb⟩
  have t3 : w'.cell? ⟨w.heap.size, 3, none⟩ = some (.slice l.iA d.m l.ic) := hp.cell 3
  clear hp hb hs hbl
  generalize hbv : (bvv d.live d.ln : Nat) = bv
  have HBV : Hid (bvv d.live d.ln = bv) := hbv
  clear hbv
  go_wp2_with fail
  go_loopw [4, 46] (fun v i wr => ∃ k : Nat, k ≤ d.m ∧ i = .int .i64 k ∧ v = .int .i64 (lastOf d k) ∧ D1In w d l 30 wr ∧ itsIn d k = true) (fun _ i _ => d.m - (intOf i).toNat)
  case atStart => exact ⟨0, Nat.zero_le _, rfl, rfl, HW.out, rfl⟩
  case round =>
    obtain ⟨k, hk, rfl, rfl, hin, heq⟩ := hrel
    have hwl := hin.p.lt
    by_cases hlt : k < d.m
    · obtain ⟨b', off', hA', hlt2', hc'⟩ := (hD.items.below (Nat.le_refl _) hin.bel).at hlt
      obtain ⟨c0, c1, c2, c3, c4, c5, hN⟩ := hc' k hlt
      have hIA : Hid (l.iA = some ⟨b', off', none⟩) := hA'
      have hlti : (k : Int) < (d.m : Int) := by omega
      have hb'ne : b' ≠ wr.heap.size := by omega
      have hwne : w.heap.size ≠ wr.heap.size := by omega
      have HNI : Hid (NdIn wr (d.nd k) (l.L k)) := hN
      have HIN : Hid (D1In w d l 30 wr ∧ itsIn d k = true) := ⟨hin, heq⟩
      have ho := hfd.ino k hlt
      have hW2 : D2In w wr d l (d.ino k) (d.nd k) (l.L k) (wr.alloc (.cells #[.int .i64 (d.ino k), .int .i64 (d.nd k).kind, .string (d.nd k).text, .slice (l.L k).nA (d.nd k).nn (l.L k).nc, .slice (l.L k).kA (d.nd k).kn (l.L k).kc, .int .i64 (d.nd k).turn] 58)) := ⟨hin.below ((Below.refl _ _).alloc (Nat.le_refl _) _), Blk.new wr _ _⟩
      have HW2 : Hid _ := hW2
      have HNI2 : Hid (NdIn (wr.alloc (.cells #[.int .i64 (d.ino k), .int .i64 (d.nd k).kind, .string (d.nd k).text, .slice (l.L k).nA (d.nd k).nn (l.L k).nc, .slice (l.L k).kA (d.nd k).kn (l.L k).kc, .int .i64 (d.nd k).turn] 58)) (d.nd k) (l.L k)) := hN.below (Nat.le_refl _) ((Below.refl _ _).alloc (Nat.le_refl _) _)
      clear hc' hN hin heq hW2
      rw [hA']
      clear hA'
      by_cases hlo : d.ino k ≤ lastOf d k
      · have hb8 : decide (d.ino k ≤ lastOf d k) = true := by simp; omega
        have HX : Hid (false = d.ok) := ok_bad hlt (last_low hlo)
        clear hlo
        go_wp2_with fail
        go_ret
        exact ⟨HW2.out.d1.bel, ret_bool HX.out⟩
      · have hb8 : decide (d.ino k ≤ lastOf d k) = false := by simp; omega
        have HLO : Hid (¬ d.ino k ≤ lastOf d k) := hlo
        clear hlo
        go_wp2_with fail
        refine at_world (F := fun W => D2In w wr d l (d.ino k) (d.nd k) (l.L k) W ∧ NdIn W (d.nd k) (l.L k)) ⟨HW2.out, HNI2.out⟩ ?_
        rintro W ⟨hd2, hni⟩
        have hha := has_any d.live d.ln (d.ino k) W h10 ho
        rw [HBV.out] at hha
        refine hha.mono ?_
        rintro e w2 ⟨rfl, rfl⟩
        have x0 : w2.cell? ⟨wr.heap.size, 0, none⟩ = some (.int .i64 (d.ino k)) := hd2.x.cell 0
        have x1 : w2.cell? ⟨wr.heap.size, 1, none⟩ = some (.int .i64 (d.nd k).kind) := hd2.x.cell 1
        have x2 : w2.cell? ⟨wr.heap.size, 2, none⟩ = some (.string (d.nd k).text) := hd2.x.cell 2
        have x3 : w2.cell? ⟨wr.heap.size, 3, none⟩ = some (.slice (l.L k).nA (d.nd k).nn (l.L k).nc) := hd2.x.cell 3
        have x4 : w2.cell? ⟨wr.heap.size, 4, none⟩ = some (.slice (l.L k).kA (d.nd k).kn (l.L k).kc) := hd2.x.cell 4
        have x5 : w2.cell? ⟨wr.heap.size, 5, none⟩ = some (.int .i64 (d.nd k).turn) := hd2.x.cell 5
        have HD2 : Hid (D2In w wr d l (d.ino k) (d.nd k) (l.L k) w2 ∧ NdIn w2 (d.nd k) (l.L k)) := ⟨hd2, hni⟩
        clear hd2 hni hha HW2 HNI2 c0 c1 c2 c3 c4 c5 HNI
        cases hlv : liveIn d.ln d.live (d.ino k) with
        | false =>
          have HX : Hid (false = d.ok) := ok_bad hlt (step_item (it_dead (x := d.nd k) hlv).symm)
          clear hlv
          go_wp2_with fail
          go_ret
          exact ⟨HD2.out.1.d1.bel, ret_bool HX.out⟩
        | true =>
          have HL : Hid (liveIn d.ln d.live (d.ino k) = true) := hlv
          have ho0 : 0 ≤ d.ino k := by
            unfold liveIn at hlv
            simp at hlv
            exact hlv.1.1
          clear hlv
          go_wp2_with fail
          have hio := itemOk_any d (d.ino k) (d.nd k) (l.L k) w2 HD2.out.2 (hfd.nds k hlt) h10 ho0
          rw [HBV.out] at hio
          refine hio.mono ?_
          rintro e w3 ⟨hb3, rfl⟩
          have hd3 := HD2.out.1.below hb3
          have X0 : w3.cell? ⟨wr.heap.size, 0, none⟩ = some (.int .i64 (d.ino k)) := hd3.x.cell 0
          have X5 : w3.cell? ⟨wr.heap.size, 5, none⟩ = some (.int .i64 (d.nd k).turn) := hd3.x.cell 5
          have T0 : w3.cell? ⟨w.heap.size, 0, none⟩ = some (.int .i64 d.since) := hd3.d1.p.cell 0
          have T1 : w3.cell? ⟨w.heap.size, 1, none⟩ = some (.int .i64 d.date) := hd3.d1.p.cell 1
          have HD3 : Hid (D1In w d l 30 w3) := hd3.d1
          clear hb3 hd3 hio HD2 x0 x1 x2 x3 x4 x5
          cases hnd : nodeIn d (d.ino k) (d.nd k) with
          | false =>
            have HX : Hid (false = d.ok) := ok_bad hlt (step_item (by unfold itIn; rw [hnd]; simp))
            clear hnd
            go_wp2_with fail
            go_ret
            exact ⟨HD3.out.bel, ret_bool HX.out⟩
          | true =>
            have HND : Hid (nodeIn d (d.ino k) (d.nd k) = true) := hnd
            clear hnd
            by_cases h8 : (d.nd k).turn ≤ d.since
            · have hb9 : decide ((d.nd k).turn ≤ d.since) = true := by simp; omega
              have HX : Hid (false = d.ok) := ok_bad hlt (step_item (it_turn (o := d.ino k) (by unfold turnedIn; rw [decide_eq_false (show ¬ d.since < (d.nd k).turn by omega)]; rfl)).symm)
              clear h8
              go_wp2_with fail
              go_ret
              exact ⟨HD3.out.bel, ret_bool HX.out⟩
            · have hb9 : decide ((d.nd k).turn ≤ d.since) = false := by simp; omega
              by_cases h9 : d.date < (d.nd k).turn
              · have hb10 : decide (d.date < (d.nd k).turn) = true := by simp; omega
                have HX : Hid (false = d.ok) := ok_bad hlt (step_item (it_turn (o := d.ino k) (by unfold turnedIn; rw [decide_eq_false (show ¬ (d.nd k).turn ≤ d.date by omega)]; simp)).symm)
                clear h8 h9
                go_wp2_with fail
                go_ret
                exact ⟨HD3.out.bel, ret_bool HX.out⟩
              · have hb10 : decide (d.date < (d.nd k).turn) = false := by simp; omega
                have HI : Hid (itIn d (d.ino k) (d.nd k) = true) := by
                  show _ = _
                  rw [← it_node HL.out (by unfold turnedIn; rw [decide_eq_true (show d.since < (d.nd k).turn by omega), decide_eq_true (show (d.nd k).turn ≤ d.date by omega)]; rfl)]
                  exact HND.out
                have HS : Hid (stepIn d k = true) := last_more (by have := HLO.out; omega) HI.out
                clear h8 h9
                go_wp2_with fail
                go_roundw
                case rel => exact ⟨k + 1, by omega, by go_num, by rw [last_succ], HD3.out, itsIn_succ HIN.out.2 HS.out⟩
                case measure => simp [intOf]; omega
    · obtain rfl : k = d.m := by omega
      have HK : Hid (true = d.ok ∧ Below w.heap.size w wr) := ⟨by unfold Dp.ok; rw [HH.out, heq]; rfl, hin.bel⟩
      clear hin heq
      go_wp2
      go_ret
      exact ⟨HK.out.2, ret_bool HK.out.1⟩
end Go.Proofs.Ytnnhdcohfabenaa
