/-
  What reachOk and TreeOk of the program answer.
-/
import Derived.Test.YtkbccbooiaebfaaImplReach
import Derived.Test.YtkbccbooiaebfaaImplDefs
namespace Go.Proofs.Ytkbccbooiaebfaa
open Go.RowKit
set_option linter.unusedVariables false

set_option maxHeartbeats 2000000 in
theorem reachOk_any (a : Option Addr) (n c : Nat) (now : Int) (D : Nat → Nd) (L : Nat → Loc) (w : World) (hS : IsNds w a n D L) (h1 : 1 ≤ n) (hn : n ≤ 1048576) (hsm : ∀ i, i < n → (D i).kn ≤ maxLen) (hk : ∀ i, i < n → ∀ j, j < (D i).kn → 0 ≤ (D i).kids j ∧ (D i).kids j < n) :
    Calls Try.prog 59 #[trV a n c now] w fun e w' => Below w.heap.size w w' ∧ ∃ r : Bool, e = .returned (.bool r) ∧ (r = true ↔ ∀ i, i < n → (Reach n D i ↔ (D i).kind ≠ 0)) := by
  unfold trV
  go_enter Try.func59, Try.ntmps59
  go_wp2_with fail
  refine at_world (F := New1 w _ _) (new1 w _ _) ?_
  rintro W ⟨hp, hb, hs⟩
  refine (reached_any a n c now D L W (hS.below (Nat.le_refl _) hb) h1 hn hsm hk).mono ?_
  rintro e w1 ⟨hb1, rfl, m, hrow, hm⟩
  have hp1 := hp.below hb1 (by omega)
  have HIN : Hid (RefsIn w a n c now w1 ∧ w1.rowIs (W.heap.size + 1) 4 n (fun j => .bool (m j))) := ⟨⟨hp1, hb.trans (hb1.mono (by omega))⟩, hrow⟩
  have HM : Hid (∀ j, m j = true ↔ Reach n D j) := hm
  clear hp hb hs hb1 hrow hp1 hm
  generalize W.heap.size + 1 = bm at *
  go_wp2
  go_loopw [8] (fun i wr => ∃ k : Nat, k ≤ n ∧ i = .int .i64 k ∧ RefsIn w a n c now wr ∧ wr.rowIs bm 4 n (fun j => .bool (m j)) ∧ ∀ i, i < k → (Reach n D i ↔ (D i).kind ≠ 0)) (fun i _ => n - (intOf i).toNat)
  case atStart => exact ⟨0, Nat.zero_le _, rfl, HIN.out.1, HIN.out.2, fun i h2 => by omega⟩
  case round =>
    obtain ⟨k, hk', rfl, hin, hrow, hall⟩ := hrel
    by_cases hlt : k < n
    · have hSr := hS.below (Nat.le_refl _) hin.bel
      obtain ⟨b, off, rfl, hlt2, hc⟩ := hSr.at hlt
      have c0 := (hc k hlt).1
      have t0 : wr.cell? ⟨w.heap.size, 0, none⟩ = some (.slice (some ⟨b, off, none⟩) n c) := hin.t.cell 0
      have hki : (k : Int) < (n : Int) := by omega
      have rc : wr.cell? ⟨bm, k, none⟩ = some (.bool (m k)) := hrow.cell hlt
      have HR : Hid (RefsIn w (some ⟨b, off, none⟩) n c now wr ∧ wr.rowIs bm 4 n (fun j => .bool (m j)) ∧ ∀ i, i < k → (Reach n D i ↔ (D i).kind ≠ 0)) := ⟨hin, hrow, hall⟩
      clear hc hin hrow hall hSr HIN
      cases hkz : ((D k).kind == 0) with
      | true =>
        have HZ : Hid ((D k).kind = 0) := show (D k).kind = 0 by simpa using hkz
        cases hmk : m k with
        | true =>
          rw [hmk] at rc
          have HX : Hid (Reach n D k) := (HM.out k).1 hmk
          clear hmk
          go_wp2
          go_ret
          exact ⟨HR.out.1.bel, false, rfl, fun h => (by cases h), fun h => absurd HZ.out ((h k hlt).1 HX.out)⟩
        | false =>
          rw [hmk] at rc
          have HX : Hid (Reach n D k ↔ (D k).kind ≠ 0) := ⟨fun h => (by have := (HM.out k).2 h; rw [hmk] at this; cases this), fun h => absurd HZ.out h⟩
          clear hmk
          go_wp2
          go_roundw
          case rel => exact ⟨k + 1, by omega, by go_num, HR.out.1, HR.out.2.1, fun i h2 => by
            by_cases e : i = k
            · subst e; exact HX.out
            · exact HR.out.2.2 i (by omega)⟩
          case measure => simp [intOf]; omega
      | false =>
        have HZ : Hid (¬ (D k).kind = 0) := show ¬ (D k).kind = 0 by simpa using hkz
        cases hmk : m k with
        | false =>
          rw [hmk] at rc
          have HX : Hid (¬ Reach n D k) := fun h => (by have := (HM.out k).2 h; rw [hmk] at this; cases this)
          clear hmk
          go_wp2
          go_ret
          exact ⟨HR.out.1.bel, false, rfl, fun h => (by cases h), fun h => absurd ((h k hlt).2 HZ.out) HX.out⟩
        | true =>
          rw [hmk] at rc
          have HX : Hid (Reach n D k ↔ (D k).kind ≠ 0) := ⟨fun _ => HZ.out, fun _ => (HM.out k).1 hmk⟩
          clear hmk
          go_wp2
          go_roundw
          case rel => exact ⟨k + 1, by omega, by go_num, HR.out.1, HR.out.2.1, fun i h2 => by
            by_cases e : i = k
            · subst e; exact HX.out
            · exact HR.out.2.2 i (by omega)⟩
          case measure => simp [intOf]; omega
    · have HALL : Hid (Below w.heap.size w wr ∧ ∀ i, i < n → (Reach n D i ↔ (D i).kind ≠ 0)) := ⟨hin.bel, fun i h2 => hall i (by omega)⟩
      clear hin hrow hall HIN
      go_wp2
      go_ret
      exact ⟨HALL.out.1, true, rfl, fun _ => HALL.out.2, fun _ => rfl⟩

set_option maxHeartbeats 2000000 in
theorem implTreeOk : ImplTreeOk := by
  intro a n c now D L w hS hf hn hsz hnow
  have hn' := hn
  unfold maxLen at hn'
  have out : ∀ (e : Ending) (w' : World), Below w.heap.size w w' → e = .returned (.bool false) → ¬ TreeGood n D now → Below w.heap.size w w' ∧ ∃ r : Bool, e = .returned (.bool r) ∧ (r = true ↔ TreeGood n D now) :=
    fun e w' hb he hg => ⟨hb, false, he, fun h => (by cases h), fun h => absurd h hg⟩
  by_cases g1 : n < 1
  · have hb1 : decide ((n : Int) < 1) = true := by simp; omega
    have HG : Hid (¬ TreeGood n D now) := fun h => by have := h.some; omega
    unfold trV
    go_enter Try.func39, Try.ntmps39
    go_wp2_with fail
    go_ret
    exact out _ _ ((Below.refl _ _).alloc (Nat.le_refl _) _) rfl HG.out
  · have hb1 : decide ((n : Int) < 1) = false := by simp; omega
    by_cases g2 : 10 < n
    · have hb2 : decide (10 < (n : Int)) = true := by simp; omega
      have HG : Hid (¬ TreeGood n D now) := fun h => by have := h.few; omega
      unfold trV
      go_enter Try.func39, Try.ntmps39
      go_wp2_with fail
      go_ret
      exact out _ _ ((Below.refl _ _).alloc (Nat.le_refl _) _) rfl HG.out
    · have hb2 : decide (10 < (n : Int)) = false := by simp; omega
      cases hto : turnIn now 1000 with
      | false =>
        have HG : Hid (¬ TreeGood n D now) := fun h => by
          have h1 := h.begun
          have h2 := h.soon
          unfold turnIn at hto
          rw [decide_eq_true h1, decide_eq_true h2] at hto
          cases hto
        unfold trV
        go_enter Try.func39, Try.ntmps39
        go_wp2_with (go_at_call 57; refine (turnOk_any _ _ _).mono ?_; rintro e w' ⟨rfl, rfl⟩; rw [hto])
        go_ret
        exact out _ _ ((Below.refl _ _).alloc (Nat.le_refl _) _) rfl HG.out
      | true =>
        have HT : Hid (1 ≤ now ∧ now ≤ 1000) := by
          show 1 ≤ now ∧ now ≤ 1000
          unfold turnIn at hto
          simpa using hto
        obtain ⟨b, off, rfl, hlt2, hc⟩ := hS.at (show 0 < n by omega)
        have c0 := (hc 0 (by omega)).1
        rw [Nat.zero_mul, Nat.add_zero] at c0
        clear hc
        by_cases g5 : (D 0).kind = 2
        · have hb5 : ((D 0).kind != 2) = false := by simp [g5]
          have H5 : Hid ((D 0).kind = 2) := g5
          clear g5
          unfold trV
          go_enter Try.func39, Try.ntmps39
          go_wp2_with (go_at_call 57; refine (turnOk_any _ _ _).mono ?_; rintro e w' ⟨rfl, rfl⟩; rw [hto])
          clear c0
          go_loopw [30] (fun i wr => ∃ k : Nat, k ≤ n ∧ i = .int .i64 k ∧ RefsIn w (some ⟨b, off, none⟩) n c now wr ∧ ∀ i, i < k → ndOk n D now (D i) = true) (fun i _ => n - (intOf i).toNat)
          case atStart => exact ⟨0, Nat.zero_le _, rfl, ⟨(new1 w _ _).b0, (new1 w _ _).bel⟩, fun i hi => by omega⟩
          case round =>
            obtain ⟨k, hk, rfl, hin, hall⟩ := hrel
            have t0 : wr.cell? ⟨w.heap.size, 0, none⟩ = some (.slice (some ⟨b, off, none⟩) n c) := hin.t.cell 0
            have t1 : wr.cell? ⟨w.heap.size, 1, none⟩ = some (.int .i64 now) := hin.t.cell 1
            have hSr := hS.below (Nat.le_refl _) hin.bel
            have hwl : w.heap.size < wr.heap.size := hin.t.lt
            by_cases hlt : k < n
            · obtain ⟨b', off', ha, hlt2', hc⟩ := hSr.at hlt
              cases ha
              obtain ⟨c0, c1, c2, c3, c4, hI⟩ := hc k hlt
              have hki : (k : Int) < (n : Int) := by omega
              have HIN : Hid (RefsIn w (some ⟨b, off, none⟩) n c now wr ∧ ∀ i, i < k → ndOk n D now (D i) = true) := ⟨hin, hall⟩
              clear hc hin hall
              go_wp2_with fail
              refine at_world (F := New1 wr _ _) (new1 wr _ _) ?_
              rintro W ⟨hp, hb, hs⟩
              refine (placeOk_any _ n c now D L (D k) (L k) W (hSr.below (Nat.le_refl _) hb) (hI.below (Nat.le_refl _) hb) (hf k hlt) hn).mono ?_
              rintro e w1 ⟨hb1', rfl⟩
              have hbw : Below wr.heap.size wr w1 := hb.trans (hb1'.mono (by omega))
              have HN : Hid (RefsIn w (some ⟨b, off, none⟩) n c now w1) := ⟨HIN.out.1.t.below hbw hwl, HIN.out.1.bel.trans (hbw.mono HIN.out.1.bel.size)⟩
              clear hp hb hs hb1' hbw c0 c1 c2 c3 c4 hI hSr t0 t1
              cases hq : ndOk n D now (D k) with
              | false =>
                have HQ : Hid (¬ TreeGood n D now) := fun h => by have := h.nodes k hlt; rw [hq] at this; cases this
                clear hq
                go_wp2
                go_ret
                exact out _ _ HN.out.bel rfl HQ.out
              | true =>
                have HQ : Hid (ndOk n D now (D k) = true) := hq
                clear hq
                go_wp2
                go_roundw
                case rel => exact ⟨k + 1, by omega, by go_num, HN.out, fun i hi => by
                  by_cases e : i = k
                  · subst e; exact HQ.out
                  · exact HIN.out.2 i (by omega)⟩
                case measure => simp [intOf]; omega
            · have hke : k = n := by omega
              have HALL : Hid (∀ i, i < n → ndOk n D now (D i) = true) := fun i hi => hall i (by omega)
              have HIN : Hid (RefsIn w (some ⟨b, off, none⟩) n c now wr) := hin
              clear hke hall hin
              go_wp2_with fail
              refine (reachOk_any _ n c now D L wr hSr (by omega) (by omega) (fun i hi => (hf i hi).kn) (kids_in HALL.out)).mono ?_
              rintro e w1 ⟨hb1', r, rfl, hr⟩
              have hN1 : RefsIn w (some ⟨b, off, none⟩) n c now w1 := ⟨HIN.out.t.below hb1' hwl, HIN.out.bel.trans (hb1'.mono HIN.out.bel.size)⟩
              have T0 : w1.cell? ⟨w.heap.size, 0, none⟩ = some (.slice (some ⟨b, off, none⟩) n c) := hN1.t.cell 0
              have T1 : w1.cell? ⟨w.heap.size, 1, none⟩ = some (.int .i64 now) := hN1.t.cell 1
              have HN1 : Hid (RefsIn w (some ⟨b, off, none⟩) n c now w1 ∧ (r = true ↔ ∀ i, i < n → (Reach n D i ↔ (D i).kind ≠ 0))) := ⟨hN1, hr⟩
              clear hb1' hN1 hr t0 t1 hSr
              cases r with
              | false =>
                have HQ : Hid (¬ TreeGood n D now) := fun h => by
                  have := HN1.out.2.2 (fun i hi => by
                    by_cases e : i = 0
                    · subst e; exact ⟨fun _ => by rw [H5.out]; decide, fun _ => .root⟩
                    · exact h.reach i (by omega) hi)
                  cases this
                go_wp2
                go_ret
                exact out _ _ HN1.out.1.bel rfl HQ.out
              | true =>
                go_wp2_with fail
                refine (namedOnce_any _ n c now D L w1 (hS.below (Nat.le_refl _) HN1.out.1.bel) (by omega) hsz (fun i hi => (hf i hi).kn) (kids_in HALL.out)).mono ?_
                rintro e w2 ⟨hb2', r2, rfl, hr2⟩
                have HE : Hid (Below w.heap.size w w2 ∧ (r2 = true ↔ TreeGood n D now)) := ⟨HN1.out.1.bel.trans (hb2'.mono HN1.out.1.bel.size),
                  fun h => ⟨by omega, by omega, HT.out.1, HT.out.2, H5.out, HALL.out, fun i _ hi => HN1.out.2.1 (by trivial) i hi, hr2.1 h⟩, fun h => hr2.2 h.one⟩
                clear hb2' hr2
                go_wp2
                go_ret
                exact ⟨HE.out.1, r2, rfl, HE.out.2⟩
        · have hb5 : ((D 0).kind != 2) = true := by simpa using g5
          have HG : Hid (¬ TreeGood n D now) := fun h => g5 h.root
          clear g5
          unfold trV
          go_enter Try.func39, Try.ntmps39
          go_wp2_with (go_at_call 57; refine (turnOk_any _ _ _).mono ?_; rintro e w' ⟨rfl, rfl⟩; rw [hto])
          go_ret
          exact out _ _ ((Below.refl _ _).alloc (Nat.le_refl _) _) rfl HG.out
end Go.Proofs.Ytkbccbooiaebfaa
