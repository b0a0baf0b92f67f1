/-
  What DumpSize of both sides answers.
-/
import Derived.Test.YtnnhdcohfabenaaImplDumpAll
namespace Go.Proofs.Ytnnhdcohfabenaa
open Go.RowKit
set_option linter.unusedVariables false

/-- How much the first k count. -/
def totTo (d : Dp) : Nat → Nat | 0 => 0 | k + 1 => totTo d k + (1 + (d.nd k).text.size + (d.nd k).nn)
def Dp.total (d : Dp) : Nat := if d.ok then totTo d d.m else 0

theorem totTo_le (d : Dp) : ∀ k, totTo d k ≤ k + sizeTo d.nd k
  | 0 => by simp [totTo]
  | k + 1 => by
    have := totTo_le d k
    rw [totTo, sizeTo_succ]
    unfold Nd.size
    omega

theorem sizeTo_monoK (D : Nat → Nd) {k n : Nat} (h : k ≤ n) : sizeTo D k ≤ sizeTo D n := by
  induction h with
  | refl => exact Nat.le_refl _
  | step _ ih => rw [sizeTo_succ]; omega

theorem totTo_small {d : Dp} (hsz : d.size ≤ 1048576) {k : Nat} (hk : k ≤ d.m) : totTo d k ≤ 1048576 := by
  have h1 := totTo_le d k
  have h2 := sizeTo_monoK d.nd hk
  unfold Dp.size at hsz
  omega

theorem ret_i64 {a b : Int} (h : a = b) : Ending.returned (.int .i64 a) = .returned (.int .i64 b) := by rw [h]

theorem total_no {d : Dp} (h : d.ok = false) : (0 : Int) = d.total := by unfold Dp.total; rw [h]; rfl
theorem total_yes {d : Dp} (h : d.ok = true) : totTo d d.m = d.total := by unfold Dp.total; rw [h]; rfl

set_option maxHeartbeats 2000000 in
theorem specDumpSize_any (d : Dp) (l : DLoc) (w : World) (hD : DpIn w d l) (hfd : d.Fits) (hsz : d.size ≤ 1048576) :
    Calls Try.prog 22 #[dpV d l] w fun e w' => Below w.heap.size w w' ∧ e = .returned (.int .i64 (d.total : Nat)) := by
  have hm := hfd.m
  unfold maxLen at hm
  unfold dpV
  go_enter Try.func22, Try.ntmps22
  go_wp2_with fail
  go_loopw [3, 4] (fun v i wr => ∃ k : Nat, k ≤ d.m ∧ i = .int .i64 k ∧ v = .int .i64 (totTo d k : Nat) ∧ D1In w d l 30 wr ∧ (k = 0 ∨ d.ok = true)) (fun _ i _ => d.m - (intOf i).toNat)
  case atStart =>
    have h := new1 w #[.int .i64 d.since, .int .i64 d.date, .slice l.lA d.ln l.lc, .slice l.iA d.m l.ic] 30
    exact ⟨0, Nat.zero_le _, rfl, rfl, ⟨h.b0, h.bel⟩, Or.inl rfl⟩
  case round =>
    obtain ⟨k, hk, rfl, rfl, hin, hok⟩ := hrel
    have t0 : wr.cell? ⟨w.heap.size, 0, none⟩ = some (.int .i64 d.since) := hin.p.cell 0
    have t1 : wr.cell? ⟨w.heap.size, 1, none⟩ = some (.int .i64 d.date) := hin.p.cell 1
    have t2 : wr.cell? ⟨w.heap.size, 2, none⟩ = some (.slice l.lA d.ln l.lc) := hin.p.cell 2
    have t3 : wr.cell? ⟨w.heap.size, 3, none⟩ = some (.slice l.iA d.m l.ic) := hin.p.cell 3
    have HIN : Hid (D1In w d l 30 wr ∧ (k = 0 ∨ d.ok = true)) := ⟨hin, hok⟩
    clear hin hok
    by_cases hlt : k < d.m
    · have hlti : (k : Int) < (d.m : Int) := by omega
      have hbl : decide ((k : Int) < (d.m : Int)) = true := by simp; omega
      go_wp2_with fail
      refine (specDumpOk_any d l wr (hD.below (Nat.le_refl _) HIN.out.1.bel) hfd).mono ?_
      rintro e w2 ⟨hb2, rfl⟩
      have hN2 := HIN.out.1.below hb2
      have T3 : w2.cell? ⟨w.heap.size, 3, none⟩ = some (.slice l.iA d.m l.ic) := hN2.p.cell 3
      have HN2 : Hid (D1In w d l 30 w2) := hN2
      cases hok : d.ok with
      | false =>
        have HX : Hid ((totTo d k : Int) = d.total) := by
          show _ = _
          rcases HIN.out.2 with h | h
          · subst h; exact total_no hok
          · rw [hok] at h; cases h
        clear hok hb2 hN2 t0 t1 t2 t3
        go_wp2_with fail
        go_ret
        exact ⟨HN2.out.bel, ret_i64 HX.out⟩
      | true =>
        have HOK : Hid (d.ok = true) := hok
        obtain ⟨b', off', hA', hlt2', hc'⟩ := (hD.items.below (Nat.le_refl _) hN2.bel).at hlt
        obtain ⟨c0, c1, c2, c3, c4, c5, hN⟩ := hc' k hlt
        rw [hA'] at T3
        have htx := (hfd.nds k hlt).text
        have hnn := (hfd.nds k hlt).nn
        have hs1 := totTo_small hsz (show k + 1 ≤ d.m by omega)
        have hs2 : totTo d (k + 1) = totTo d k + (1 + (d.nd k).text.size + (d.nd k).nn) := rfl
        have HS2 : Hid (totTo d (k + 1) = totTo d k + (1 + (d.nd k).text.size + (d.nd k).nn)) := hs2
        have q1 : totTo d k ≤ 1048576 := by omega
        have q2 : (d.nd k).text.size ≤ 1048576 := by omega
        have q3 : (d.nd k).nn ≤ 1048576 := by omega
        clear hok hb2 hN2 t0 t1 t2 t3 hA' hc' hN c0 c1 c4 c5 hs1 hs2 htx hnn
        go_wp2_with fail
        go_quiet (fail)
        go_wp2
        go_roundw
        case rel => exact ⟨k + 1, by omega, by go_num, by rw [HS2.out]; simp; omega, HN2.out.drew _, Or.inr HOK.out⟩
        case measure => simp [intOf]; omega
    · obtain rfl : k = d.m := by omega
      have HX : Hid ((totTo d d.m : Int) = d.total) := by
        show _ = _
        cases hok : d.ok with
        | true => rw [total_yes hok]
        | false =>
          rcases HIN.out.2 with h | h
          · rw [h]; exact total_no hok
          · rw [hok] at h; cases h
      go_wp2
      go_ret
      exact ⟨HIN.out.1.bel, ret_i64 HX.out⟩

set_option maxHeartbeats 2000000 in
theorem implDumpSize_any (d : Dp) (l : DLoc) (w : World) (hD : DpIn w d l) (hfd : d.Fits) (hsz : d.size ≤ 1048576) :
    Calls Try.prog 23 #[dpV d l] w fun e w' => Below w.heap.size w w' ∧ e = .returned (.int .i64 (d.total : Nat)) := by
  have hm := hfd.m
  unfold maxLen at hm
  unfold dpV
  go_enter Try.func23, Try.ntmps23
  go_wp2_with fail
  refine at_world (F := New1 w _ _) (new1 w _ _) ?_
  rintro W ⟨hp, hb, hs⟩
  refine (implDumpOk_any d l W (hD.below (Nat.le_refl _) hb) hfd).mono ?_
  rintro e w2 ⟨hb2, rfl⟩
  have hN2 : D1In w d l 30 w2 := D1In.below ⟨hp, hb⟩ hb2
  have T3 : w2.cell? ⟨w.heap.size, 3, none⟩ = some (.slice l.iA d.m l.ic) := hN2.p.cell 3
  have HN2 : Hid (D1In w d l 30 w2) := hN2
  clear hp hb hs hb2 hN2
  cases hok : d.ok with
  | false =>
    have HX : Hid ((0 : Int) = d.total) := total_no hok
    clear hok
    go_wp2_with fail
    go_ret
    exact ⟨HN2.out.bel, ret_i64 HX.out⟩
  | true =>
    have HX : Hid ((totTo d d.m : Nat) = d.total) := total_yes hok
    clear hok
    go_wp2_with fail
    go_loopw [3, 12] (fun v i wr => ∃ k : Nat, k ≤ d.m ∧ i = .int .i64 k ∧ v = .int .i64 (totTo d k : Nat) ∧ D1In w d l 30 wr) (fun _ i _ => d.m - (intOf i).toNat)
    case atStart => exact ⟨0, Nat.zero_le _, rfl, rfl, HN2.out⟩
    case round =>
      obtain ⟨k, hk, rfl, rfl, hin⟩ := hrel
      by_cases hlt : k < d.m
      · obtain ⟨b', off', hA', hlt2', hc'⟩ := (hD.items.below (Nat.le_refl _) hin.bel).at hlt
        obtain ⟨c0, c1, c2, c3, c4, c5, hN⟩ := hc' k hlt
        have hlti : (k : Int) < (d.m : Int) := by omega
        have htx := (hfd.nds k hlt).text
        have hnn := (hfd.nds k hlt).nn
        have hs1 := totTo_small hsz (show k + 1 ≤ d.m by omega)
        have hs2 : totTo d (k + 1) = totTo d k + (1 + (d.nd k).text.size + (d.nd k).nn) := rfl
        have HS2 : Hid (totTo d (k + 1) = totTo d k + (1 + (d.nd k).text.size + (d.nd k).nn)) := hs2
        have q1 : totTo d k ≤ 1048576 := by omega
        have q2 : (d.nd k).text.size ≤ 1048576 := by omega
        have q3 : (d.nd k).nn ≤ 1048576 := by omega
        have hb'ne : b' ≠ wr.heap.size := by omega
        have HE : Hid (∀ o, D1In w d l 30 (wr.alloc o)) := fun o => hin.below ((Below.refl _ _).alloc (Nat.le_refl _) _)
        have hIA : Hid (l.iA = some ⟨b', off', none⟩) := hA'
        rw [hA']
        clear hA' hc' hN hin hs1 hs2 htx hnn
        go_wp2_with fail
        go_roundw
        case rel => exact ⟨k + 1, by omega, by go_num, by rw [HS2.out]; simp, HE.out _⟩
        case measure => simp [intOf]; omega
      · obtain rfl : k = d.m := by omega
        have HB : Hid (Below w.heap.size w wr) := hin.bel
        clear hin
        go_wp2
        go_ret
        exact ⟨HB.out, ret_i64 (by rw [HX.out])⟩
end Go.Proofs.Ytnnhdcohfabenaa
