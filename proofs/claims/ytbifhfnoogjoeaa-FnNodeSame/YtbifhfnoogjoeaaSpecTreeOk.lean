/-
  What TreeOk of the specification answers.
-/
import Derived.Test.YtbifhfnoogjoeaaSpecMarks
namespace Go.Proofs.Ytbifhfnoogjoeaa
open Go.RowKit
set_option linter.unusedVariables false

/-- A tree that is one. -/
structure TreeGood (n : Nat) (D : Nat → Nd) (now : Int) : Prop where
  some : 1 ≤ n
  few : n ≤ 10
  begun : 1 ≤ now
  soon : now ≤ 1000
  root : (D 0).kind = 2
  nodes : ∀ i, i < n → ndOk n D now (D i) = true
  reach : ∀ i, 1 ≤ i → i < n → (Reach n D i ↔ (D i).kind ≠ 0)
  one : ∀ i, 1 ≤ i → i < n → (D i).kind = 2 → refsTo D i n = 1

/-- Places in the directories of such a tree lead to places. -/
theorem kids_in {n : Nat} {D : Nat → Nd} {now : Int} (h : ∀ i, i < n → ndOk n D now (D i) = true) : ∀ i, i < n → ∀ j, j < (D i).kn → 0 ≤ (D i).kids j ∧ (D i).kids j < n := by
  intro i hi j hj
  have := h i hi
  unfold ndOk at this
  split at this
  · unfold freeOk at this; simp at this; omega
  · split at this
    · unfold fileOk at this; simp at this; omega
    · split at this
      · unfold dirOk at this
        simp only [Bool.and_eq_true] at this
        have hk := List.all_eq_true.1 this.1.1.2.1 j (by simpa using hj)
        unfold kidOk at hk
        simp at hk
        omega
      · cases this

theorem tree_mark {n : Nat} {D : Nat → Nd} {now : Int} (h : TreeGood n D now) {m : Bool} {i : Nat} (hm : m = true ↔ Reach n D i) (h1 : 1 ≤ i) (h2 : i < n) : m = ((D i).kind != 0) := by
  have := h.reach i h1 h2
  cases hk : ((D i).kind != 0) with
  | true => exact hm.2 (this.2 (by simpa using hk))
  | false =>
    rw [Bool.eq_false_iff]
    intro hm'
    exact this.1 (hm.1 hm') (by simpa using hk)

set_option maxHeartbeats 2000000 in
theorem specTreeOk_any (a : Option Addr) (n c : Nat) (now : Int) (D : Nat → Nd) (L : Nat → Loc) (w : World) (hS : IsNds w a n D L) (hf : FitAll n D) (hn : n ≤ maxLen) (hsz : sizeTo D n ≤ 1048576) :
    Calls Try.prog 11 #[trV a n c now] w fun e w' => Below w.heap.size w w' ∧ ∃ r : Bool, e = .returned (.bool r) ∧ (r = true ↔ TreeGood n D now) := by
  by_cases hhead : 1 ≤ n ∧ n ≤ 10 ∧ 1 ≤ now ∧ now ≤ 1000 ∧ (D 0).kind = 2
  · obtain ⟨h1, h2, h3, h4, h5⟩ := hhead
    obtain ⟨b, off, rfl, hlt2, hc⟩ := hS.at (show 0 < n from h1)
    have c0 := (hc 0 h1).1
    rw [Nat.zero_mul, Nat.add_zero] at c0
    have hk0 : ((D 0).kind != 2) = false := by simp [h5]
    have H5 : Hid ((D 0).kind = 2) := h5
    have hb1 : decide ((n : Int) < 1) = false := by simp; omega
    have hb2 : decide (10 < (n : Int)) = false := by simp; omega
    have hb3 : decide (now < 1) = false := by simp; omega
    have hb4 : decide (1000 < now) = false := by simp; omega
    clear hc h5
    unfold trV
    go_enter Try.func11, Try.ntmps11
    go_wp2_with fail
    go_loopw [3] (fun i wr => ∃ k : Nat, k ≤ n ∧ i = .int .i64 k ∧ RefsIn w (some ⟨b, off, none⟩) n c now wr ∧ ∀ i, i < k → ndOk n D now (D i) = true) (fun i _ => n - (intOf i).toNat)
    case atStart => exact ⟨0, Nat.zero_le _, rfl, ⟨(new1 w _ _).b0, (new1 w _ _).bel⟩, fun i hi => by omega⟩
    case round =>
      obtain ⟨k, hk, rfl, hin, hall⟩ := hrel
      have t0 : wr.cell? ⟨w.heap.size, 0, none⟩ = some (.slice (some ⟨b, off, none⟩) n c) := hin.t.cell 0
      have t1 : wr.cell? ⟨w.heap.size, 1, none⟩ = some (.int .i64 now) := hin.t.cell 1
      have hSr := hS.below (Nat.le_refl _) hin.bel
      have hwl : w.heap.size < wr.heap.size := hin.t.lt
      clear c0
      by_cases hlt : k < n
      · obtain ⟨b', off', ha, hlt2', hc⟩ := hSr.at hlt
        cases ha
        obtain ⟨c0, c1, c2, c3, c4, hI⟩ := hc k hlt
        have hki : (k : Int) < (n : Int) := by omega
        have C0 := Lat.cell (B := wr.heap.size) c0 hlt2'
        have C1 := Lat.cell (B := wr.heap.size) c1 hlt2'
        have C2 := Lat.cell (B := wr.heap.size) c2 hlt2'
        have C3 := Lat.cell (B := wr.heap.size) c3 hlt2'
        have C4 := Lat.cell (B := wr.heap.size) c4 hlt2'
        have T0 := Lat.cell (B := wr.heap.size) t0 hwl
        have T1 := Lat.cell (B := wr.heap.size) t1 hwl
        have hcall : Hid (∀ q : Lat wr.heap.size wr, Calls Try.prog 31 #[trV (some ⟨b, off, none⟩) n c now, ndV (D k) (L k)] q.val fun e w'' => e = .returned (.bool (ndOk n D now (D k))) ∧ ∃ m : Lat wr.heap.size wr, w'' = m.val) := fun q =>
          Calls.lat_of (l2Node_any _ n c now D L (D k) (L k) q.val (hSr.below (Nat.le_refl _) q.bel) (hI.below (Nat.le_refl _) q.bel) (hf k hlt) hn) (fun e w' h => ⟨h.2, h.1.mono q.bel.size⟩)
        have HIN : Hid (RefsIn w (some ⟨b, off, none⟩) n c now wr ∧ ∀ i, i < k → ndOk n D now (D i) = true) := ⟨hin, hall⟩
        clear hc c0 c1 c2 c3 c4 hI hSr hin hall
        go_wp2_with fail
        refine wp_region_lat (B := wr.heap.size) (w0 := wr) (by kernel_rfl) (by kernel_rfl) (Below.refl _ _) ?_
        repeat (go_big_quiet_step (exact hcall.out _))
        refine wpQuiet_nil ?_
        rintro _ ⟨nq, rfl⟩
        have HN : Hid (RefsIn w (some ⟨b, off, none⟩) n c now nq.val) := ⟨HIN.out.1.t.below nq.bel hwl, HIN.out.1.bel.trans (nq.bel.mono HIN.out.1.bel.size)⟩
        clear hcall C0 C1 C2 C3 C4 T0 T1 t0 t1 hwl hlt2'
        cases hq : ndOk n D now (D k) with
        | false =>
          have HQ : Hid (ndOk n D now (D k) = false) := hq
          clear hq
          go_wp2
          go_ret
          exact ⟨HN.out.bel, false, rfl, fun h => (by cases h), fun h => by have := h.nodes k hlt; rw [HQ.out] at this; cases this⟩
        | true =>
          have HQ : Hid (ndOk n D now (D k) = true) := hq
          clear hq
          go_wp2
          go_roundw
          case rel => exact ⟨k + 1, by omega, by go_num, HN.out, fun i hi => by
            by_cases e : i = k
            · subst e; exact HQ.out
            · exact HIN.out.2 i (by omega)⟩
          case measure => simp [intOf]; omega
      · have hke : k = n := by omega
        have hall' : Hid (∀ i, i < n → ndOk n D now (D i) = true) := fun i hi => hall i (by omega)
        have HIN : Hid (RefsIn w (some ⟨b, off, none⟩) n c now wr) := hin
        clear hke hall hin
        go_wp2_with fail
        refine (l2Marks_any _ n c now D L wr hSr h1 (by omega) (fun i hi => (hf i hi).kn) (kids_in hall'.out)).mono ?_
        rintro e w1 ⟨hb1, rfl, m, hrow, hm⟩
        have HM : Hid (RefsIn w (some ⟨b, off, none⟩) n c now w1 ∧ w1.rowIs (wr.heap.size + 1) 4 n (fun j => .bool (m j)) ∧ ∀ j, m j = true ↔ Reach n D j) := ⟨⟨HIN.out.t.below hb1 hwl, HIN.out.bel.trans (hb1.mono HIN.out.bel.size)⟩, hrow, hm⟩
        clear hb1 hrow hm hSr t0 t1
        have hw2 : w.heap.size < wr.heap.size + 1 := by omega
        generalize wr.heap.size + 1 = bm at *
        go_wp2_with fail
        go_loopw [5] (fun i wr => ∃ k : Nat, 1 ≤ k ∧ k ≤ n ∧ i = .int .i64 k ∧ RefsIn w (some ⟨b, off, none⟩) n c now wr ∧ wr.rowIs bm 4 n (fun j => .bool (m j)) ∧ ∀ i, 1 ≤ i → i < k → m i = ((D i).kind != 0) ∧ ((D i).kind = 2 → refsTo D i n = 1)) (fun i _ => n - (intOf i).toNat)
        case atStart => exact ⟨1, Nat.le_refl _, h1, rfl, HM.out.1, HM.out.2.1, fun i h h' => by omega⟩
        case round =>
          obtain ⟨k, hk1, hk, rfl, hin, hrow, hall⟩ := hrel
          have t0 : wr.cell? ⟨w.heap.size, 0, none⟩ = some (.slice (some ⟨b, off, none⟩) n c) := hin.t.cell 0
          have t1 : wr.cell? ⟨w.heap.size, 1, none⟩ = some (.int .i64 now) := hin.t.cell 1
          have hSr := hS.below (Nat.le_refl _) hin.bel
          have hwl : w.heap.size < wr.heap.size := hin.t.lt
          have hbl : bm < wr.heap.size := hrow.lt
          by_cases hlt : k < n
          · obtain ⟨b', off', ha, hlt2', hc⟩ := hSr.at hlt
            cases ha
            obtain ⟨c0, c1, c2, c3, c4, hI⟩ := hc k hlt
            have hki : (k : Int) < (n : Int) := by omega
            have HIN : Hid (RefsIn w (some ⟨b, off, none⟩) n c now wr ∧ wr.rowIs bm 4 n (fun j => .bool (m j)) ∧ (∀ i, 1 ≤ i → i < k → m i = ((D i).kind != 0) ∧ ((D i).kind = 2 → refsTo D i n = 1)) ∧ IsNds wr (some ⟨b, off, none⟩) n D L) := ⟨hin, hrow, hall, hSr⟩
            have HMM : Hid (∀ j, m j = true ↔ Reach n D j) := HM.out.2.2
            clear hc hI hin hrow hall hSr HM
            go_wp2_with fail
            refine at_world (F := New1 wr _ _) (new1 wr _ _) ?_
            rintro W ⟨hp, hb, hs⟩
            refine (l2Refs_any _ n c now k D L W (HIN.out.2.2.2.below (Nat.le_refl _) hb) hsz hn).mono ?_
            rintro e w2 ⟨hb2, rfl⟩
            have hbw : Below wr.heap.size wr w2 := hb.trans (hb2.mono (by omega))
            have n0 : w2.cell? ⟨wr.heap.size, 0, none⟩ = some (.int .i64 (D k).kind) := (hp.below hb2 (by omega)).cell 0
            have hrow2 : w2.rowIs bm 4 n (fun j => .bool (m j)) := rowIs_below HIN.out.2.1 hbw hbl
            have mk : w2.cell? ⟨bm, k, none⟩ = some (.bool (m k)) := hrow2.cell hlt
            have HN : Hid (RefsIn w (some ⟨b, off, none⟩) n c now w2 ∧ w2.rowIs bm 4 n (fun j => .bool (m j))) := ⟨⟨HIN.out.1.t.below hbw hwl, HIN.out.1.bel.trans (hbw.mono HIN.out.1.bel.size)⟩, hrow2⟩
            clear hp hb hs hb2 hbw hrow2 c0 c1 c2 c3 c4 t0 t1
            cases hmk : m k with
            | true =>
              rw [hmk] at mk
              cases hkz : ((D k).kind != 0) with
              | false =>
                have HX : Hid (¬ m k = ((D k).kind != 0)) := by show ¬ _; rw [hmk, hkz]; simp
                clear hmk
                go_wp2_with fail
                go_quiet (fail)
                go_wp2
                go_ret
                exact ⟨below_drewN HN.out.1.bel _, false, rfl, fun h => (by cases h), fun h => absurd (tree_mark h (HMM.out k) hk1 hlt) HX.out⟩
              | true =>
                have HX : Hid (m k = ((D k).kind != 0)) := by show _ = _; rw [hmk, hkz]
                clear hmk
                cases hd2 : ((D k).kind == 2) with
                | false =>
                  have H2 : Hid (¬ (D k).kind = 2) := show ¬ (D k).kind = 2 by simpa using hd2
                  go_wp2_with fail
                  go_quiet (fail)
                  go_wp2
                  go_roundw
                  case rel => exact ⟨k + 1, by omega, by omega, by go_num, HN.out.1.drew _, HN.out.2, fun i hi1 hi2 => by
                    by_cases e : i = k
                    · subst e; exact ⟨HX.out, fun h => absurd h H2.out⟩
                    · exact HIN.out.2.2.1 i hi1 (by omega)⟩
                  case measure => simp [intOf]; omega
                | true =>
                  have H2 : Hid ((D k).kind = 2) := show (D k).kind = 2 by simpa using hd2
                  by_cases hr1 : refsTo D k n = 1
                  · have hrb : (((refsTo D k n : Nat) : Int) != 1) = false := by simp [hr1]
                    have HR : Hid (refsTo D k n = 1) := hr1
                    clear hr1
                    go_wp2_with fail
                    go_quiet (fail)
                    go_wp2
                    go_roundw
                    case rel => exact ⟨k + 1, by omega, by omega, by go_num, HN.out.1.drew _, HN.out.2, fun i hi1 hi2 => by
                      by_cases e : i = k
                      · subst e; exact ⟨HX.out, fun _ => HR.out⟩
                      · exact HIN.out.2.2.1 i hi1 (by omega)⟩
                    case measure => simp [intOf]; omega
                  · have hrb : (((refsTo D k n : Nat) : Int) != 1) = true := by simp; omega
                    have HR : Hid (¬ refsTo D k n = 1) := hr1
                    clear hr1
                    go_wp2_with fail
                    go_quiet (fail)
                    go_wp2
                    go_ret
                    exact ⟨below_drewN HN.out.1.bel _, false, rfl, fun h => (by cases h), fun h => absurd (h.one k hk1 hlt H2.out) HR.out⟩
            | false =>
              rw [hmk] at mk
              cases hkz : ((D k).kind != 0) with
              | true =>
                have HX : Hid (¬ m k = ((D k).kind != 0)) := by show ¬ _; rw [hmk, hkz]; simp
                clear hmk
                go_wp2_with fail
                go_quiet (fail)
                go_wp2
                go_ret
                exact ⟨below_drewN HN.out.1.bel _, false, rfl, fun h => (by cases h), fun h => absurd (tree_mark h (HMM.out k) hk1 hlt) HX.out⟩
              | false =>
                have HX : Hid (m k = ((D k).kind != 0)) := by show _ = _; rw [hmk, hkz]
                clear hmk
                have hd2 : ((D k).kind == 2) = false := by
                  have : (D k).kind = 0 := by simpa using hkz
                  rw [this]; rfl
                have H2 : Hid (¬ (D k).kind = 2) := show ¬ (D k).kind = 2 by simpa using hd2
                go_wp2_with fail
                go_quiet (fail)
                go_wp2
                go_roundw
                case rel => exact ⟨k + 1, by omega, by omega, by go_num, HN.out.1.drew _, HN.out.2, fun i hi1 hi2 => by
                  by_cases e : i = k
                  · subst e; exact ⟨HX.out, fun h => absurd h H2.out⟩
                  · exact HIN.out.2.2.1 i hi1 (by omega)⟩
                case measure => simp [intOf]; omega
          · have HALL : Hid (Below w.heap.size w wr ∧ TreeGood n D now) := ⟨hin.bel, ⟨h1, h2, h3, h4, H5.out, hall'.out, fun i hi1 hi2 => by
              have := (hall i hi1 (by omega)).1
              rw [← HM.out.2.2 i, this]; simp, fun i hi1 hi2 hk2 => (hall i hi1 (by omega)).2 hk2⟩⟩
            clear hin hrow hall hSr
            go_wp2
            go_ret
            exact ⟨HALL.out.1, true, rfl, fun _ => HALL.out.2, fun _ => rfl⟩
  · have no : Hid (¬ TreeGood n D now) := fun h => hhead ⟨h.some, h.few, h.begun, h.soon, h.root⟩
    unfold maxLen at hn
    unfold trV
    by_cases g1 : n < 1
    · have hb1 : decide ((n : Int) < 1) = true := by simp; omega
      clear hhead
      go_enter Try.func11, Try.ntmps11
      go_wp2_with fail
      go_ret
      exact ⟨(Below.refl _ _).alloc (Nat.le_refl _) _, false, rfl, fun h => (by cases h), fun h => absurd h no.out⟩
    · have hb1 : decide ((n : Int) < 1) = false := by simp; omega
      by_cases g2 : 10 < n
      · have hb2 : decide (10 < (n : Int)) = true := by simp; omega
        clear hhead
        go_enter Try.func11, Try.ntmps11
        go_wp2_with fail
        go_ret
        exact ⟨(Below.refl _ _).alloc (Nat.le_refl _) _, false, rfl, fun h => (by cases h), fun h => absurd h no.out⟩
      · have hb2 : decide (10 < (n : Int)) = false := by simp; omega
        by_cases g3 : now < 1
        · have hb3 : decide (now < 1) = true := by simp; omega
          clear hhead
          go_enter Try.func11, Try.ntmps11
          go_wp2_with fail
          go_ret
          exact ⟨(Below.refl _ _).alloc (Nat.le_refl _) _, false, rfl, fun h => (by cases h), fun h => absurd h no.out⟩
        · have hb3 : decide (now < 1) = false := by simp; omega
          by_cases g4 : 1000 < now
          · have hb4 : decide (1000 < now) = true := by simp; omega
            clear hhead
            go_enter Try.func11, Try.ntmps11
            go_wp2_with fail
            go_ret
            exact ⟨(Below.refl _ _).alloc (Nat.le_refl _) _, Or.inl ⟨rfl, no.out⟩⟩
          · have hb4 : decide (1000 < now) = false := by simp; omega
            have g5 : ¬ (D 0).kind = 2 := fun h => hhead ⟨by omega, by omega, by omega, by omega, h⟩
            have hb5 : ((D 0).kind != 2) = true := by simpa using g5
            obtain ⟨b, off, rfl, hlt2, hc⟩ := hS.at (show 0 < n by omega)
            have c0 := (hc 0 (by omega)).1
            rw [Nat.zero_mul, Nat.add_zero] at c0
            clear hc g5 hhead
            go_enter Try.func11, Try.ntmps11
            go_wp2_with fail
            go_ret
            exact ⟨(Below.refl _ _).alloc (Nat.le_refl _) _, Or.inl ⟨rfl, no.out⟩⟩
end Go.Proofs.Ytbifhfnoogjoeaa
