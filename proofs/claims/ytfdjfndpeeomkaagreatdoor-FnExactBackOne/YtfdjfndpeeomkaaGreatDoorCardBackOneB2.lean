/-
  Texts that the proof needs, laid one behind the other.
-/
import Derived.Test.YtfdjfndpeeomkaaGreatDoorCardBackOneB1
import Derived.WalkSmall
import Derived.Laws.IdiomStrings
import Derived.Deep.RegionWith
import Derived.Maps.AppendAt
import Derived.RangeFuncNested
import Derived.RangeFuncBound
import Derived.RangeFuncCalls
import Derived.RangeFuncLeaves
import Derived.Shelf.Abstract
import Derived.Shelf.RegionOpen
import Derived.WalkKit
import Derived.OwnWalkIn
import Derived.TacticsInMore
import Derived.LoopNIn
import Derived.LoopIn
import Derived.OrdersIn
import Derived.Lib.BufferMore

/-
  What TreeOk of the specification answers.
-/
namespace Go.Proofs.YtfdjfndpeeomkaaGreatDoor
open Go.RowKit
set_option linter.unusedVariables false

/-- A tree that is one. -/
structure TreeGood (n : Nat) (D : Nat → Nd) (now : Int) : Prop where
  some : 1 ≤ n
  few : n ≤ 10
  begun : 1 ≤ now
  soon : now ≤ 1000
  root : (D 0).kind = 2
  nodes : ∀ i, i < n → ndOk n D now (D i) = true
  reach : ∀ i, 1 ≤ i → i < n → (Reach n D i ↔ (D i).kind ≠ 0)
  one : ∀ i, 1 ≤ i → i < n → (D i).kind = 2 → refsTo D i n = 1

/-- Places in the directories of such a tree lead to places. -/
theorem kids_in {n : Nat} {D : Nat → Nd} {now : Int} (h : ∀ i, i < n → ndOk n D now (D i) = true) : ∀ i, i < n → ∀ j, j < (D i).kn → 0 ≤ (D i).kids j ∧ (D i).kids j < n := by
  intro i hi j hj
  have := h i hi
  unfold ndOk at this
  split at this
  · unfold freeOk at this; simp at this; omega
  · split at this
    · unfold fileOk at this; simp at this; omega
    · split at this
      · unfold dirOk at this
        simp only [Bool.and_eq_true] at this
        have hk := List.all_eq_true.1 this.1.1.2.1 j (by simpa using hj)
        unfold kidOk at hk
        simp at hk
        omega
      · cases this

theorem tree_mark {n : Nat} {D : Nat → Nd} {now : Int} (h : TreeGood n D now) {m : Bool} {i : Nat} (hm : m = true ↔ Reach n D i) (h1 : 1 ≤ i) (h2 : i < n) : m = ((D i).kind != 0) := by
  have := h.reach i h1 h2
  cases hk : ((D i).kind != 0) with
  | true => exact hm.2 (this.2 (by simpa using hk))
  | false =>
    rw [Bool.eq_false_iff]
    intro hm'
    exact this.1 (hm.1 hm') (by simpa using hk)

set_option maxHeartbeats 2000000 in
theorem specTreeOk_any (a : Option Addr) (n c : Nat) (now : Int) (D : Nat → Nd) (L : Nat → Loc) (w : World) (hS : IsNds w a n D L) (hf : FitAll n D) (hn : n ≤ maxLen) (hsz : sizeTo D n ≤ 1048576) :
    Calls Tryz.prog 54 #[trV a n c now] w fun e w' => Below w.heap.size w w' ∧ ∃ r : Bool, e = .returned (.bool r) ∧ (r = true ↔ TreeGood n D now) := by
  by_cases hhead : 1 ≤ n ∧ n ≤ 10 ∧ 1 ≤ now ∧ now ≤ 1000 ∧ (D 0).kind = 2
  · obtain ⟨h1, h2, h3, h4, h5⟩ := hhead
    obtain ⟨b, off, rfl, hlt2, hc⟩ := hS.at (show 0 < n from h1)
    have c0 := (hc 0 h1).1
    rw [Nat.zero_mul, Nat.add_zero] at c0
    have hk0 : ((D 0).kind != 2) = false := by simp [h5]
    have H5 : Hid ((D 0).kind = 2) := h5
    have hb1 : decide ((n : Int) < 1) = false := by simp; omega
    have hb2 : decide (10 < (n : Int)) = false := by simp; omega
    have hb3 : decide (now < 1) = false := by simp; omega
    have hb4 : decide (1000 < now) = false := by simp; omega
    clear hc h5
    unfold trV
    go_enter Tryz.func54, Tryz.ntmps54
    go_wp2_with fail
    go_loopw [3] (fun i wr => ∃ k : Nat, k ≤ n ∧ i = .int .i64 k ∧ RefsIn w (some ⟨b, off, none⟩) n c now wr ∧ ∀ i, i < k → ndOk n D now (D i) = true) (fun i _ => n - (intOf i).toNat)
    case atStart => exact ⟨0, Nat.zero_le _, rfl, ⟨(new1 w _ _).b0, (new1 w _ _).bel⟩, fun i hi => by omega⟩
    case round =>
      obtain ⟨k, hk, rfl, hin, hall⟩ := hrel
      have t0 : wr.cell? ⟨w.heap.size, 0, none⟩ = some (.slice (some ⟨b, off, none⟩) n c) := hin.t.cell 0
      have t1 : wr.cell? ⟨w.heap.size, 1, none⟩ = some (.int .i64 now) := hin.t.cell 1
      have hSr := hS.below (Nat.le_refl _) hin.bel
      have hwl : w.heap.size < wr.heap.size := hin.t.lt
      clear c0
      by_cases hlt : k < n
      · obtain ⟨b', off', ha, hlt2', hc⟩ := hSr.at hlt
        cases ha
        obtain ⟨c0, c1, c2, c3, c4, hI⟩ := hc k hlt
        have hki : (k : Int) < (n : Int) := by omega
        have C0 := Lat.cell (B := wr.heap.size) c0 hlt2'
        have C1 := Lat.cell (B := wr.heap.size) c1 hlt2'
        have C2 := Lat.cell (B := wr.heap.size) c2 hlt2'
        have C3 := Lat.cell (B := wr.heap.size) c3 hlt2'
        have C4 := Lat.cell (B := wr.heap.size) c4 hlt2'
        have T0 := Lat.cell (B := wr.heap.size) t0 hwl
        have T1 := Lat.cell (B := wr.heap.size) t1 hwl
        have hcall : Hid (∀ q : Lat wr.heap.size wr, Calls Tryz.prog 93 #[trV (some ⟨b, off, none⟩) n c now, ndV (D k) (L k)] q.val fun e w'' => e = .returned (.bool (ndOk n D now (D k))) ∧ ∃ m : Lat wr.heap.size wr, w'' = m.val) := fun q =>
          Calls.lat_of (l2Node_any _ n c now D L (D k) (L k) q.val (hSr.below (Nat.le_refl _) q.bel) (hI.below (Nat.le_refl _) q.bel) (hf k hlt) hn) (fun e w' h => ⟨h.2, h.1.mono q.bel.size⟩)
        have HIN : Hid (RefsIn w (some ⟨b, off, none⟩) n c now wr ∧ ∀ i, i < k → ndOk n D now (D i) = true) := ⟨hin, hall⟩
        clear hc c0 c1 c2 c3 c4 hI hSr hin hall
        go_wp2_with fail
        refine wp_region_lat (B := wr.heap.size) (w0 := wr) (by kernel_rfl) (by kernel_rfl) (Below.refl _ _) ?_
        repeat (go_big_quiet_step (exact hcall.out _))
        refine wpQuiet_nil ?_
        rintro _ ⟨nq, rfl⟩
        have HN : Hid (RefsIn w (some ⟨b, off, none⟩) n c now nq.val) := ⟨HIN.out.1.t.below nq.bel hwl, HIN.out.1.bel.trans (nq.bel.mono HIN.out.1.bel.size)⟩
        clear hcall C0 C1 C2 C3 C4 T0 T1 t0 t1 hwl hlt2'
        cases hq : ndOk n D now (D k) with
        | false =>
          have HQ : Hid (ndOk n D now (D k) = false) := hq
          clear hq
          go_wp2
          go_ret
          exact ⟨HN.out.bel, false, rfl, fun h => (by cases h), fun h => by have := h.nodes k hlt; rw [HQ.out] at this; cases this⟩
        | true =>
          have HQ : Hid (ndOk n D now (D k) = true) := hq
          clear hq
          go_wp2
          go_roundw
          case rel => exact ⟨k + 1, by omega, by go_num, HN.out, fun i hi => by
            by_cases e : i = k
            · subst e; exact HQ.out
            · exact HIN.out.2 i (by omega)⟩
          case measure => simp [intOf]; omega
      · have hke : k = n := by omega
        have hall' : Hid (∀ i, i < n → ndOk n D now (D i) = true) := fun i hi => hall i (by omega)
        have HIN : Hid (RefsIn w (some ⟨b, off, none⟩) n c now wr) := hin
        clear hke hall hin
        go_wp2_with fail
        refine (l2Marks_any _ n c now D L wr hSr h1 (by omega) (fun i hi => (hf i hi).kn) (kids_in hall'.out)).mono ?_
        rintro e w1 ⟨hb1, rfl, m, hrow, hm⟩
        have HM : Hid (RefsIn w (some ⟨b, off, none⟩) n c now w1 ∧ w1.rowIs (wr.heap.size + 1) 4 n (fun j => .bool (m j)) ∧ ∀ j, m j = true ↔ Reach n D j) := ⟨⟨HIN.out.t.below hb1 hwl, HIN.out.bel.trans (hb1.mono HIN.out.bel.size)⟩, hrow, hm⟩
        clear hb1 hrow hm hSr t0 t1
        have hw2 : w.heap.size < wr.heap.size + 1 := by omega
        generalize wr.heap.size + 1 = bm at *
        go_wp2_with fail
        go_loopw [5] (fun i wr => ∃ k : Nat, 1 ≤ k ∧ k ≤ n ∧ i = .int .i64 k ∧ RefsIn w (some ⟨b, off, none⟩) n c now wr ∧ wr.rowIs bm 4 n (fun j => .bool (m j)) ∧ ∀ i, 1 ≤ i → i < k → m i = ((D i).kind != 0) ∧ ((D i).kind = 2 → refsTo D i n = 1)) (fun i _ => n - (intOf i).toNat)
        case atStart => exact ⟨1, Nat.le_refl _, h1, rfl, HM.out.1, HM.out.2.1, fun i h h' => by omega⟩
        case round =>
          obtain ⟨k, hk1, hk, rfl, hin, hrow, hall⟩ := hrel
          have t0 : wr.cell? ⟨w.heap.size, 0, none⟩ = some (.slice (some ⟨b, off, none⟩) n c) := hin.t.cell 0
          have t1 : wr.cell? ⟨w.heap.size, 1, none⟩ = some (.int .i64 now) := hin.t.cell 1
          have hSr := hS.below (Nat.le_refl _) hin.bel
          have hwl : w.heap.size < wr.heap.size := hin.t.lt
          have hbl : bm < wr.heap.size := hrow.lt
          by_cases hlt : k < n
          · obtain ⟨b', off', ha, hlt2', hc⟩ := hSr.at hlt
            cases ha
            obtain ⟨c0, c1, c2, c3, c4, hI⟩ := hc k hlt
            have hki : (k : Int) < (n : Int) := by omega
            have HIN : Hid (RefsIn w (some ⟨b, off, none⟩) n c now wr ∧ wr.rowIs bm 4 n (fun j => .bool (m j)) ∧ (∀ i, 1 ≤ i → i < k → m i = ((D i).kind != 0) ∧ ((D i).kind = 2 → refsTo D i n = 1)) ∧ IsNds wr (some ⟨b, off, none⟩) n D L) := ⟨hin, hrow, hall, hSr⟩
            have HMM : Hid (∀ j, m j = true ↔ Reach n D j) := HM.out.2.2
            clear hc hI hin hrow hall hSr HM
            go_wp2_with fail
            refine at_world (F := New1 wr _ _) (new1 wr _ _) ?_
            rintro W ⟨hp, hb, hs⟩
            refine (l2Refs_any _ n c now k D L W (HIN.out.2.2.2.below (Nat.le_refl _) hb) hsz hn).mono ?_
            rintro e w2 ⟨hb2, rfl⟩
            have hbw : Below wr.heap.size wr w2 := hb.trans (hb2.mono (by omega))
            have n0 : w2.cell? ⟨wr.heap.size, 0, none⟩ = some (.int .i64 (D k).kind) := (hp.below hb2 (by omega)).cell 0
            have hrow2 : w2.rowIs bm 4 n (fun j => .bool (m j)) := rowIs_below HIN.out.2.1 hbw hbl
            have mk : w2.cell? ⟨bm, k, none⟩ = some (.bool (m k)) := hrow2.cell hlt
            have HN : Hid (RefsIn w (some ⟨b, off, none⟩) n c now w2 ∧ w2.rowIs bm 4 n (fun j => .bool (m j))) := ⟨⟨HIN.out.1.t.below hbw hwl, HIN.out.1.bel.trans (hbw.mono HIN.out.1.bel.size)⟩, hrow2⟩
            clear hp hb hs hb2 hbw hrow2 c0 c1 c2 c3 c4 t0 t1
            cases hmk : m k with
            | true =>
              rw [hmk] at mk
              cases hkz : ((D k).kind != 0) with
              | false =>
                have HX : Hid (¬ m k = ((D k).kind != 0)) := by show ¬ _; rw [hmk, hkz]; simp
                clear hmk
                go_wp2_with fail
                go_quiet (fail)
                go_wp2
                go_ret
                exact ⟨below_drewN HN.out.1.bel _, false, rfl, fun h => (by cases h), fun h => absurd (tree_mark h (HMM.out k) hk1 hlt) HX.out⟩
              | true =>
                have HX : Hid (m k = ((D k).kind != 0)) := by show _ = _; rw [hmk, hkz]
                clear hmk
                cases hd2 : ((D k).kind == 2) with
                | false =>
                  have H2 : Hid (¬ (D k).kind = 2) := show ¬ (D k).kind = 2 by simpa using hd2
                  go_wp2_with fail
                  go_quiet (fail)
                  go_wp2
                  go_roundw
                  case rel => exact ⟨k + 1, by omega, by omega, by go_num, HN.out.1.drew _, HN.out.2, fun i hi1 hi2 => by
                    by_cases e : i = k
                    · subst e; exact ⟨HX.out, fun h => absurd h H2.out⟩
                    · exact HIN.out.2.2.1 i hi1 (by omega)⟩
                  case measure => simp [intOf]; omega
                | true =>
                  have H2 : Hid ((D k).kind = 2) := show (D k).kind = 2 by simpa using hd2
                  by_cases hr1 : refsTo D k n = 1
                  · have hrb : (((refsTo D k n : Nat) : Int) != 1) = false := by simp [hr1]
                    have HR : Hid (refsTo D k n = 1) := hr1
                    clear hr1
                    go_wp2_with fail
                    go_quiet (fail)
                    go_wp2
                    go_roundw
                    case rel => exact ⟨k + 1, by omega, by omega, by go_num, HN.out.1.drew _, HN.out.2, fun i hi1 hi2 => by
                      by_cases e : i = k
                      · subst e; exact ⟨HX.out, fun _ => HR.out⟩
                      · exact HIN.out.2.2.1 i hi1 (by omega)⟩
                    case measure => simp [intOf]; omega
                  · have hrb : (((refsTo D k n : Nat) : Int) != 1) = true := by simp; omega
                    have HR : Hid (¬ refsTo D k n = 1) := hr1
                    clear hr1
                    go_wp2_with fail
                    go_quiet (fail)
                    go_wp2
                    go_ret
                    exact ⟨below_drewN HN.out.1.bel _, false, rfl, fun h => (by cases h), fun h => absurd (h.one k hk1 hlt H2.out) HR.out⟩
            | false =>
              rw [hmk] at mk
              cases hkz : ((D k).kind != 0) with
              | true =>
                have HX : Hid (¬ m k = ((D k).kind != 0)) := by show ¬ _; rw [hmk, hkz]; simp
                clear hmk
                go_wp2_with fail
                go_quiet (fail)
                go_wp2
                go_ret
                exact ⟨below_drewN HN.out.1.bel _, false, rfl, fun h => (by cases h), fun h => absurd (tree_mark h (HMM.out k) hk1 hlt) HX.out⟩
              | false =>
                have HX : Hid (m k = ((D k).kind != 0)) := by show _ = _; rw [hmk, hkz]
                clear hmk
                have hd2 : ((D k).kind == 2) = false := by
                  have : (D k).kind = 0 := by simpa using hkz
                  rw [this]; rfl
                have H2 : Hid (¬ (D k).kind = 2) := show ¬ (D k).kind = 2 by simpa using hd2
                go_wp2_with fail
                go_quiet (fail)
                go_wp2
                go_roundw
                case rel => exact ⟨k + 1, by omega, by omega, by go_num, HN.out.1.drew _, HN.out.2, fun i hi1 hi2 => by
                  by_cases e : i = k
                  · subst e; exact ⟨HX.out, fun h => absurd h H2.out⟩
                  · exact HIN.out.2.2.1 i hi1 (by omega)⟩
                case measure => simp [intOf]; omega
          · have HALL : Hid (Below w.heap.size w wr ∧ TreeGood n D now) := ⟨hin.bel, ⟨h1, h2, h3, h4, H5.out, hall'.out, fun i hi1 hi2 => by
              have := (hall i hi1 (by omega)).1
              rw [← HM.out.2.2 i, this]; simp, fun i hi1 hi2 hk2 => (hall i hi1 (by omega)).2 hk2⟩⟩
            clear hin hrow hall hSr
            go_wp2
            go_ret
            exact ⟨HALL.out.1, true, rfl, fun _ => HALL.out.2, fun _ => rfl⟩
  · have no : Hid (¬ TreeGood n D now) := fun h => hhead ⟨h.some, h.few, h.begun, h.soon, h.root⟩
    unfold maxLen at hn
    unfold trV
    by_cases g1 : n < 1
    · have hb1 : decide ((n : Int) < 1) = true := by simp; omega
      clear hhead
      go_enter Tryz.func54, Tryz.ntmps54
      go_wp2_with fail
      go_ret
      exact ⟨(Below.refl _ _).alloc (Nat.le_refl _) _, false, rfl, fun h => (by cases h), fun h => absurd h no.out⟩
    · have hb1 : decide ((n : Int) < 1) = false := by simp; omega
      by_cases g2 : 10 < n
      · have hb2 : decide (10 < (n : Int)) = true := by simp; omega
        clear hhead
        go_enter Tryz.func54, Tryz.ntmps54
        go_wp2_with fail
        go_ret
        exact ⟨(Below.refl _ _).alloc (Nat.le_refl _) _, false, rfl, fun h => (by cases h), fun h => absurd h no.out⟩
      · have hb2 : decide (10 < (n : Int)) = false := by simp; omega
        by_cases g3 : now < 1
        · have hb3 : decide (now < 1) = true := by simp; omega
          clear hhead
          go_enter Tryz.func54, Tryz.ntmps54
          go_wp2_with fail
          go_ret
          exact ⟨(Below.refl _ _).alloc (Nat.le_refl _) _, false, rfl, fun h => (by cases h), fun h => absurd h no.out⟩
        · have hb3 : decide (now < 1) = false := by simp; omega
          by_cases g4 : 1000 < now
          · have hb4 : decide (1000 < now) = true := by simp; omega
            clear hhead
            go_enter Tryz.func54, Tryz.ntmps54
            go_wp2_with fail
            go_ret
            exact ⟨(Below.refl _ _).alloc (Nat.le_refl _) _, Or.inl ⟨rfl, no.out⟩⟩
          · have hb4 : decide (1000 < now) = false := by simp; omega
            have g5 : ¬ (D 0).kind = 2 := fun h => hhead ⟨by omega, by omega, by omega, by omega, h⟩
            have hb5 : ((D 0).kind != 2) = true := by simpa using g5
            obtain ⟨b, off, rfl, hlt2, hc⟩ := hS.at (show 0 < n by omega)
            have c0 := (hc 0 (by omega)).1
            rw [Nat.zero_mul, Nat.add_zero] at c0
            clear hc g5 hhead
            go_enter Tryz.func54, Tryz.ntmps54
            go_wp2_with fail
            go_ret
            exact ⟨(Below.refl _ _).alloc (Nat.le_refl _) _, Or.inl ⟨rfl, no.out⟩⟩
end Go.Proofs.YtfdjfndpeeomkaaGreatDoor

/-
  Bounds of a tree that is not too great.
-/
namespace Go.Proofs.YtfdjfndpeeomkaaGreatDoor
set_option linter.unusedVariables false

theorem small_of_size {D : Nat → Nd} {n : Nat} (h : sizeTo D n ≤ 1048576) : ∀ i, i < n → (D i).nn ≤ 1048576 ∧ (D i).kn ≤ 1048576 := fun i hi => by
  have := size_le_sizeTo D n i hi
  unfold Nd.size at this
  omega
end Go.Proofs.YtfdjfndpeeomkaaGreatDoor

/-
  What DumpOf of the specification answers.
-/
namespace Go.Proofs.YtfdjfndpeeomkaaGreatDoor
open Go.RowKit Go.Deep
set_option linter.unusedVariables false
set_option linter.unusedSimpArgs false

/-- A place that was turned since. -/
def turnedB (D : Nat → Nd) (since : Int) (i : Nat) : Bool := (D i).kind != 0 && decide (since < (D i).turn)
/-- Those of the first k. -/
def selTo (D : Nat → Nd) (since : Int) (k : Nat) : List Nat := (List.range k).filter (turnedB D since)

theorem selTo_yes {D : Nat → Nd} {since : Int} {k : Nat} (h : turnedB D since k = true) : selTo D since (k + 1) = selTo D since k ++ [k] := by simp [selTo, List.range_succ, List.filter_append, h]
theorem selTo_no {D : Nat → Nd} {since : Int} {k : Nat} (h : turnedB D since k = false) : selTo D since (k + 1) = selTo D since k := by simp [selTo, List.range_succ, List.filter_append, h]
theorem selTo_len (D : Nat → Nd) (since : Int) (k : Nat) : (selTo D since k).length ≤ k := by
  have := List.length_filter_le (turnedB D since) (List.range k)
  simpa [selTo] using this

/-- m places are the ones. -/
structure Sel (D : Nat → Nd) (since : Int) (k m : Nat) (O : Nat → Int) (E : Nat → Nd) : Prop where
  len : m = (selTo D since k).length
  each : ∀ i, i < m → O i = ((selTo D since k).getD i 0 : Nat) ∧ E i = D ((selTo D since k).getD i 0)

theorem Sel.no {D : Nat → Nd} {since : Int} {k m : Nat} {O : Nat → Int} {E : Nat → Nd} (h : Sel D since k m O E) (hk : turnedB D since k = false) : Sel D since (k + 1) m O E := by
  refine ⟨by rw [selTo_no hk]; exact h.len, by rw [selTo_no hk]; exact h.each⟩

theorem Sel.yes {D : Nat → Nd} {since : Int} {k m : Nat} {O : Nat → Int} {E : Nat → Nd} (h : Sel D since k m O E) (hk : turnedB D since k = true) : Sel D since (k + 1) (m + 1) (fun i => if i = m then (k : Int) else O i) (fun i => if i = m then D k else E i) := by
  have hl := h.len
  refine ⟨by rw [selTo_yes hk]; simp [hl], fun i hi => ?_⟩
  rw [selTo_yes hk]
  by_cases e : i = m
  · subst e
    simp [hl]
  · have hi' : i < m := by omega
    have := h.each i hi'
    simp only [if_neg e]
    rw [this.1, this.2]
    simp [List.getElem?_append_left (show i < (selTo D since k).length by omega)]

/-- What is known within DumpOf. -/
structure DOf (w : World) (a : Option Addr) (n c : Nat) (now since : Int) (D : Nat → Nd) (V k ks : Nat) (la : Option Addr) (lc : Nat) (m : Nat) (ia : Option Addr) (ic : Nat) (O : Nat → Int) (E : Nat → Nd) (M : Nat → Loc) (W : World) : Prop where
  p : Blk W w.heap.size #[.slice a n c, .int .i64 now] 33
  r : Blk W (w.heap.size + 1) #[.int .i64 0, .int .i64 0, .slice none 0 0, .slice none 0 0] 39
  v : Blk W V #[.int .i64 since, .int .i64 now, .slice la k lc, .slice ia m ic] 39
  bel : Below w.heap.size w W
  far : w.heap.size + 2 ≤ V
  od : OD W (V + 1) k (fun i => (D i).kind != 0) m O E M (.slice la k lc) (.slice ia m ic)
  sel : Sel D since ks m O E

theorem DOf.below {w : World} {a : Option Addr} {n c : Nat} {now since : Int} {D : Nat → Nd} {V k ks : Nat} {la : Option Addr} {lc m : Nat} {ia : Option Addr} {ic : Nat} {O : Nat → Int} {E : Nat → Nd} {M : Nat → Loc} {W W' : World} (h : DOf w a n c now since D V k ks la lc m ia ic O E M W) (hb : Below W.heap.size W W') : DOf w a n c now since D V k ks la lc m ia ic O E M W' :=
  ⟨h.p.below hb h.p.lt, h.r.below hb h.r.lt, h.v.below hb h.v.lt, h.bel.trans (hb.mono (by have := h.p.lt; omega)), h.far, h.od.below hb, h.sel⟩

theorem src_item (W : World) (o : Int) (d : Nd) (l : Loc) : Src (W.alloc (.cells #[.int .i64 o, .int .i64 d.kind, .string d.text, .slice l.nA d.nn l.nc, .slice l.kA d.kn l.kc, .int .i64 d.turn] 133)) 6 (.slice (some ⟨W.heap.size, 0, none⟩) 1 1) 1 (it6 o d l) :=
  ⟨rfl, it6_one o d l, Or.inr ⟨⟨W.heap.size, 0, none⟩, 1, rfl, fun j u hu => by
    rw [addr_add, Nat.zero_add]
    have := (Blk.new W #[.int .i64 o, .int .i64 d.kind, .string d.text, .slice l.nA d.nn l.nc, .slice l.kA d.kn l.kc, .int .i64 d.turn] 133).cell j
    rw [this]
    simpa [it6] using hu⟩⟩

theorem blk_grown {w w' : World} {b : Nat} {cs : Array Value} {t : TypeId} {r : Option Nat} (h : Blk w b cs t) (hg : w.grownBy w' r) (hr : r ≠ some b) : Blk w' b cs t := h.of_block (hg.block b h.lt (fun e => hr e.symm))

/-- One truth value more, stored. -/
theorem DOf.live {w : World} {a : Option Addr} {n c : Nat} {now since : Int} {D : Nat → Nd} {V k ks : Nat} {la : Option Addr} {lc m : Nat} {ia : Option Addr} {ic : Nat} {O : Nat → Int} {E : Nat → Nd} {M : Nat → Loc} {W W' : World} (h : DOf w a n c now since D V k ks la lc m ia ic O E M W) {b c' : Nat} (hg : W.grownBy W' (Value.slice la k lc).ownBlock)
    (hown : W'.ownsRow (V + 1) 4 1 (.slice (some ⟨b, 0, none⟩) (k + 1) c') (k + 1) (boolv k (fun i => (D i).kind != 0) ++ [.bool ((D k).kind != 0)])) (hb : (Value.slice la k lc).ownBlock = some b ∨ W.heap.size ≤ b) :
    DOf w a n c now since D V (k + 1) ks (some ⟨b, 0, none⟩) c' m ia ic O E M (W'.setCell ⟨V, 2, none⟩ (.slice (some ⟨b, 0, none⟩) (k + 1) c')) := by
  have hfar := h.far
  have hne : ∀ j, j ≤ V → (Value.slice la k lc).ownBlock ≠ some j := fun j hj e => by
    have := (owns_block h.od.ownL e).1
    omega
  have hVl := h.v.lt
  have hbel : Below w.heap.size w W' := h.bel.grown hg (by have := h.bel.size; omega) (fun j e => by have := (owns_block h.od.ownL e).1; omega)
  refine ⟨(blk_grown h.p hg (hne _ (by omega))).off _ (by omega), (blk_grown h.r hg (hne _ (by omega))).off _ (by omega), (blk_grown h.v hg (hne _ (Nat.le_refl _))).set 2 _, bel_put hbel _ (by omega), hfar, ?_, h.sel⟩
  exact (h.od.live hg (by rw [boolv_snoc]; exact hown) (fun b' e => by simp [Value.ownBlock] at e; rw [← e]; exact hb)).off _ (by omega)

/-- One place that was turned more, stored. -/
theorem DOf.item {w : World} {a : Option Addr} {n c : Nat} {now since : Int} {D : Nat → Nd} {V k ks : Nat} {la : Option Addr} {lc m : Nat} {ia : Option Addr} {ic : Nat} {O : Nat → Int} {E : Nat → Nd} {M : Nat → Loc} {W W1 W' : World} (h : DOf w a n c now since D V k ks la lc m ia ic O E M W) {l : Loc} (hN : NewNn W (D ks) l W1) {b c' : Nat} (hg : W1.grownBy W' (Value.slice ia m ic).ownBlock)
    (hown : W'.ownsRow (V + 1) 133 6 (.slice (some ⟨b, 0, none⟩) (m + 1) c') (m + 1) (rowsI O E M m ++ it6 (ks : Int) (D ks) l)) (hb : (Value.slice ia m ic).ownBlock = some b ∨ W1.heap.size ≤ b) (ht : turnedB D since ks = true) :
    DOf w a n c now since D V k (ks + 1) la lc (m + 1) (some ⟨b, 0, none⟩) c' (fun i => if i = m then (ks : Int) else O i) (fun i => if i = m then D ks else E i) (fun i => if i = m then l else M i) (W'.setCell ⟨V, 3, none⟩ (.slice (some ⟨b, 0, none⟩) (m + 1) c')) := by
  have h1 := h.below hN.bel
  have hfar := h.far
  have hne : ∀ j, j ≤ V → (Value.slice ia m ic).ownBlock ≠ some j := fun j hj e => by
    have := (owns_block h.od.ownI e).1
    omega
  have hVl := h.v.lt
  have hbel : Below w.heap.size w W' := h1.bel.grown hg (by have := h1.bel.size; omega) (fun j e => by have := (owns_block h.od.ownI e).1; omega)
  refine ⟨(blk_grown h1.p hg (hne _ (by omega))).off _ (by omega), (blk_grown h1.r hg (hne _ (by omega))).off _ (by omega), (blk_grown h1.v hg (hne _ (Nat.le_refl _))).set 3 _, bel_put hbel _ (by omega), hfar, ?_, h.sel.yes ht⟩
  exact (h.od.item hN (by omega) hg hown (fun b' e => by simp [Value.ownBlock] at e; rw [← e]; exact hb)).off _ (by omega)

/-- What it answers. -/
def DumpOfPost (w : World) (n : Nat) (D : Nat → Nd) (now since : Int) (e : Ending) (w' : World) : Prop :=
  Below w.heap.size w w' ∧ ((¬ (TreeGood n D now ∧ 0 ≤ since ∧ since ≤ now) ∧ e = .returned (.tuple #[.agg #[.int .i64 0, .int .i64 0, .slice none 0 0, .slice none 0 0], .bool false])) ∨
    (TreeGood n D now ∧ 0 ≤ since ∧ since ≤ now ∧ ∃ la lc m ia ic O E M, e = .returned (.tuple #[.agg #[.int .i64 since, .int .i64 now, .slice la n lc, .slice ia m ic], .bool true]) ∧ OD w' w.heap.size n (fun i => (D i).kind != 0) m O E M (.slice la n lc) (.slice ia m ic) ∧ Sel D since n m O E))

/-- A list of operations is walked at a world of which no more is said than this. -/
theorem wpList_at {P : Program} {ops : Array Oper} {l : List Oper} {a : Act} {Q : Exit → Act → World → Prop} {F : World → Prop} {w : World} (h : F w) (g : ∀ W, F W → wpList P ops Q l a W) : wpList P ops Q l a w := g w h

end Go.Proofs.YtfdjfndpeeomkaaGreatDoor

/-
  What markText, markStringS and heldStringS do: each place of a list gets a text of its own, told by its number; and that it still holds it is asked.
-/
namespace Go.Proofs.YtfdjfndpeeomkaaGreatDoor
open Go.RowKit
set_option linter.unusedVariables false

/-- The last digit of a number, as a letter. -/
def dig (m : Nat) : UInt8 := UInt8.ofNat (48 + m % 10)
theorem dig_nat (m : Nat) : ((dig m).toNat : Int) = 48 + (m : Int) % 10 := by
  unfold dig
  rw [UInt8.toNat_ofNat']
  omega
/-- The digits of a number, at most f of them. -/
def digF : Nat → Nat → List UInt8 | 0, _ => [] | f + 1, k => if k = 0 then [] else digF f (k / 10) ++ [dig k]
/-- The text by which a place is marked. -/
def markOf (k : Nat) : List UInt8 := if k = 0 then [109, 48] else 109 :: digF 20 k

theorem digF_zero (f : Nat) : digF f 0 = [] := by cases f <;> simp [digF]
theorem digF_step (f k : Nat) (h : k ≠ 0) : digF (f + 1) k = digF f (k / 10) ++ [dig k] := by simp [digF, h]

theorem conv_digit (wr : World) (m : Nat) : (convert 152 9 (.slice (some ⟨wr.heap.size, 0, none⟩) 1 1)).run Tryz.prog (wr.alloc (.cells #[.int .u8 (48 + (m : Int) % 10)] 5)) = .ok (.string ⟨#[dig m]⟩) (wr.alloc (.cells #[.int .u8 (48 + (m : Int) % 10)] 5)) := by
  have e := dig_nat m
  refine run_convert_bytes_back _ 152 9 5 ⟨wr.heap.size, 0, none⟩ 1 [dig m] Tryz.underlying152 Tryz.underlying5 Tryz.underlying9 ?_
  intro j hj
  have : j = 0 := by simpa using hj
  subst this
  show World.cell? _ ((⟨wr.heap.size, 0, none⟩ : Addr).add 0) = some (.int .u8 ((dig m).toNat : Int))
  rw [e]
  simp [Addr.add]

theorem ret_nat {a b : Nat} (h : a = b) : Ending.returned (.int .i64 (a : Int)) = .returned (.int .i64 (b : Int)) := by rw [h]
theorem mret_str {a b : ByteArray} (h : a = b) : Ending.returned (.string a) = .returned (.string b) := by rw [h]

set_option maxRecDepth 100000 in
set_option maxHeartbeats 400000 in
theorem markText_any (k : Nat) (w : World) (h1 : 1 ≤ k) (h2 : k ≤ 1000000000) :
    Calls Tryz.prog 73 #[.int .i64 k] w fun e w' => e = .returned (.string ⟨(markOf k).toArray⟩) ∧ Below w.heap.size w w' := by
  have hle : decide ((k : Int) ≤ 0) = false := by simp; omega
  go_enter Tryz.func73, Tryz.ntmps73
  go_wp2
  go_loopw [0, 3] (fun kk o wr => ∃ (f m : Nat) (out : List UInt8), kk = .int .i64 m ∧ o = .string ⟨out.toArray⟩ ∧ m < 10 ^ f ∧ f ≤ 20 ∧ m ≤ 1000000000 ∧ digF f m ++ out = digF 20 k ∧ out.length + f = 20 ∧ Below w.heap.size w wr) (fun kk _ _ => (intOf kk).toNat)
  case atStart => exact ⟨20, k, [], rfl, rfl, by omega, Nat.le_refl _, h2, by simp, rfl, Below.refl _ _⟩
  case round =>
    obtain ⟨f, m, out, rfl, rfl, hm, hf, hm9, hd, hlen, hB⟩ := hrel
    have HD : Hid (digF f m ++ out = digF 20 k) := hd
    have HB : Hid (Below w.heap.size w wr) := hB
    clear hd hB
    by_cases h0 : m = 0
    · subst h0
      go_wp2
      go_ret
      refine ⟨mret_str ?_, HB.out⟩
      have hd := HD.out
      rw [digF_zero, List.nil_append] at hd
      unfold markOf
      rw [if_neg (by omega), ← hd]
      exact ByteArray.mk_append_mk [109] out
    · have hp : (0 : Int) < (m : Int) := by omega
      have hcv := conv_digit wr m
      have hol : out.length ≤ 20 := by omega
      obtain ⟨f', rfl⟩ : ∃ f', f = f' + 1 := ⟨f - 1, by cases f <;> simp at hm ⊢; omega⟩
      have HD2 : Hid (digF f' (m / 10) ++ (dig m :: out) = digF 20 k) := by
        show _ = _
        rw [← HD.out, digF_step f' m h0]; simp
      go_wp2
      go_roundw
      case rel => exact ⟨f', m / 10, dig m :: out, by go_num, congrArg Value.string (ByteArray.mk_append_mk [dig m] out), by rw [Nat.pow_succ] at hm; omega, by omega, by omega, HD2.out, by simp; omega, HB.out.alloc HB.out.size _⟩
      case measure => simp [intOf]; omega

/-- A list of texts in a row of one's own, not frozen. -/
structure Row (w : World) (g n : Nat) (S : Nat → ByteArray) : Prop where
  lt : g < w.heap.size
  cell : ∀ i, i < n → w.cell? ⟨g, 0 + i, none⟩ = some (.string (S i))
  free : ∀ i, i < n → w.frozen? ⟨g, 0 + i, none⟩ = false

theorem Row.below {w w' : World} {g n : Nat} {S : Nat → ByteArray} (h : Row w g n S) (hb : Below w.heap.size w w') : Row w' g n S :=
  ⟨Nat.lt_of_lt_of_le h.lt hb.size, fun i hi => (hb.cell (p := ⟨g, 0 + i, none⟩) h.lt).trans (h.cell i hi), fun i hi => (hb.frozen (p := ⟨g, 0 + i, none⟩) h.lt).trans (h.free i hi)⟩

/-- A store into the row. -/
theorem Row.set {w : World} {g n : Nat} {S : Nat → ByteArray} (h : Row w g n S) (k : Nat) (s : ByteArray) : Row (w.setCell ⟨g, 0 + k, none⟩ (.string s)) g n (fun i => if i = k then s else S i) := by
  refine ⟨by simp [World.setCell]; exact h.lt, fun i hi => ?_, fun i hi => ?_⟩
  · by_cases e : i = k
    · subst e
      rw [if_pos rfl]
      exact World.cell?_setCell_same' _ _ _ (by rw [h.cell i hi]; rfl)
    · rw [if_neg e, World.cell?_setCell_other (w := w) (a := ⟨g, 0 + k, none⟩) (b := ⟨g, 0 + i, none⟩) (v := .string s) (by intro h'; injection h' with h1 h2; omega)]; exact h.cell i hi
  · rw [World.frozen?_setCell]
    exact h.free i hi

/-- The texts by which n places are marked, from k on. -/
def marks (k : Nat) : Nat → ByteArray := fun i => ⟨(markOf (k + i)).toArray⟩

theorem mark_step (S : Nat → ByteArray) (k i m : Nat) : Value.string (if i = m then (⟨(markOf (k + m)).toArray⟩ : ByteArray) else if i < m then marks k i else S i) = Value.string (if i < m + 1 then marks k i else S i) := by
  by_cases h : i = m
  · subst h; simp [marks]
  · by_cases h2 : i < m
    · simp [h, h2, show i < m + 1 by omega]
    · simp [h, h2, show ¬ i < m + 1 by omega]

set_option maxHeartbeats 400000 in
theorem markStringS_any (g n c k B : Nat) (S : Nat → ByteArray) (w : World) (hR : Row w g n S) (hB : B ≤ g) (hn : n ≤ 1000000) (hk : 1 ≤ k) (hk2 : k ≤ 100000000) :
    Calls Tryz.prog 32 #[.slice (some ⟨g, 0, none⟩) n c, .int .i64 k] w fun e w' => e = .returned (.int .i64 ((k + n : Nat) : Int)) ∧ Below B w w' ∧ Row w' g n (marks k) := by
  go_enter Tryz.func32, Tryz.ntmps32
  go_wp2
  go_loopw [1, 5] (fun kk i wr => ∃ m : Nat, m ≤ n ∧ i = .int .i64 m ∧ kk = .int .i64 ((k + m : Nat) : Int) ∧ Below B w wr ∧ Row wr g n (fun j => if j < m then marks k j else S j)) (fun _ i _ => n - (intOf i).toNat)
  case atStart => exact ⟨0, Nat.zero_le _, rfl, rfl, Below.refl _ _, by simpa using hR⟩
  case round =>
    obtain ⟨m, hm, rfl, rfl, hb, hrow⟩ := hrel
    have HB : Hid (Below B w wr) := hb
    by_cases hlt : m < n
    · have hlti : (m : Int) < (n : Int) := by omega
      have HR : Hid _ := hrow
      clear hb hrow
      go_wp2_with fail
      refine (markText_any (k + m) _ (by omega) (by omega)).mono ?_
      rintro e w1 ⟨rfl, hb1⟩
      have hrow1 := HR.out.below hb1
      have hcm := hrow1.cell m hlt
      have hfm := hrow1.free m hlt
      rw [Nat.zero_add] at hcm hfm
      have HR1 : Hid _ := hrow1
      have HB1 : Hid (Below B w w1) := HB.out.trans (hb1.mono (by have := HR.out.lt; omega))
      clear hb1 hrow1 HR HB
      go_wp2
      go_roundw
      case rel => exact ⟨m + 1, by omega, by go_num, by go_num, HB1.out.setCell (p := ⟨g, m, none⟩) hB _, by
        have h := HR1.out.set m ⟨(markOf (k + m)).toArray⟩
        rw [Nat.zero_add] at h
        exact ⟨h.lt, fun i hi => by rw [h.cell i hi, mark_step S k i m], h.free⟩⟩
      case measure => simp [intOf]; omega
    · have hnm : m = n := by omega
      have HN : Hid (m = n) := hnm
      have HR : Hid _ := hrow
      clear hb hrow hnm
      go_wp2
      go_ret
      exact ⟨ret_nat (by rw [HN.out]), HB.out, HR.out.lt, fun i hi => by rw [HR.out.cell i hi, if_pos (by have := HN.out; omega)], HR.out.free⟩

theorem mark_same (k m : Nat) : ((marks k m).toList == markOf (k + m)) = true := by unfold marks; rw [ByteArray.toList_eq]; simp

set_option maxHeartbeats 1000000 in
/-- A list that holds its marks is told to. -/
theorem heldStringS_any (a : Option Addr) (n c k : Nat) (w : World) (hS : IsStrs w a n (marks k)) (hn : n ≤ 1000000) (hk : 1 ≤ k) (hk2 : k ≤ 100000000) :
    Calls Tryz.prog 75 #[.slice a n c, .int .i64 k] w fun e w' => e = .returned (.int .i64 ((k + n : Nat) : Int)) ∧ Below w.heap.size w w' := by
  go_enter Tryz.func75, Tryz.ntmps75
  go_wp2
  go_loopw [1, 5] (fun kk i wr => ∃ m : Nat, m ≤ n ∧ i = .int .i64 m ∧ kk = .int .i64 ((k + m : Nat) : Int) ∧ Below w.heap.size w wr) (fun _ i _ => n - (intOf i).toNat)
  case atStart => exact ⟨0, Nat.zero_le _, rfl, rfl, Below.refl _ _⟩
  case round =>
    obtain ⟨m, hm, rfl, rfl, hb⟩ := hrel
    have HB : Hid (Below w.heap.size w wr) := hb
    by_cases hlt : m < n
    · obtain ⟨b, off, rfl, hlt2, hc⟩ := hS.at hlt
      have hlti : (m : Int) < (n : Int) := by omega
      have hcm : wr.cell? ⟨b, off + m, none⟩ = some (.string (marks k m)) := (hb.cell (p := ⟨b, off + m, none⟩) hlt2).trans (hc m hlt)
      have hall : ∀ wq, Below wr.heap.size wr wq → wq.cell? ⟨b, off + m, none⟩ = some (.string (marks k m)) := fun wq hq => (hq.cell (p := ⟨b, off + m, none⟩) (Nat.lt_of_lt_of_le hlt2 hb.size)).trans hcm
      have HALL : Hid _ := hall
      clear hc hb hall
      go_wp2
      go_region_with (go_at_call 73; refine (markText_any (k + m) _ (by omega) (by omega)).mono ?_; rintro e w1 ⟨rfl, hb1⟩; have hcw := HALL.out w1 ((Below.refl wr.heap.size wr).drew.trans hb1))
      all_goals
        have hb2 : Below wr.heap.size wr w1 := (Below.refl wr.heap.size wr).drew.trans (by assumption)
        have HB2 : Hid (Below w.heap.size w w1) := HB.out.trans (hb2.mono HB.out.size)
        clear hb2
        go_wp2
        · have hx : (!(marks k m).toList == markOf (k + m)) = true := by assumption
          rw [mark_same] at hx
          cases hx
        · go_roundw
          case rel => exact ⟨m + 1, by omega, by go_num, by go_num, HB2.out⟩
          case measure => simp [intOf]; omega
    · have HN : Hid (m = n) := show m = n by omega
      clear hb
      go_wp2
      go_ret
      exact ⟨ret_nat (by rw [HN.out]), HB.out⟩
end Go.Proofs.YtfdjfndpeeomkaaGreatDoor

/-
  What the helpers that mark a list do at a row of one's own, and that it is told to hold its marks.
-/
namespace Go.Proofs.YtfdjfndpeeomkaaGreatDoor
open Go.RowKit Go.Deep
set_option linter.unusedVariables false
set_option linter.unusedSimpArgs false

theorem intv0_set (n m : Nat) (Z : Nat → Int) (z : Int) : (intv0 n Z).set m (.int .i64 z) = intv0 n (fun i => if i = m then z else Z i) := by
  apply List.ext_getElem?
  intro j
  rw [List.getElem?_set]
  by_cases e : m = j
  · subst e
    by_cases h : m < n <;> simp [intv0, h]
  · by_cases h : j < n <;> simp [intv0, h, e, Ne.symm e]

theorem boolv_set (n m : Nat) (Z : Nat → Bool) (z : Bool) : (boolv n Z).set m (.bool z) = boolv n (fun i => if i = m then z else Z i) := by
  apply List.ext_getElem?
  intro j
  rw [List.getElem?_set]
  by_cases e : m = j
  · subst e
    by_cases h : m < n <;> simp [boolv, h]
  · by_cases h : j < n <;> simp [boolv, h, e, Ne.symm e]

theorem intv0_ext {n : Nat} {Z Y : Nat → Int} (h : ∀ i, i < n → Z i = Y i) : intv0 n Z = intv0 n Y := by
  unfold intv0
  exact List.map_congr_left fun i hi => by rw [h i (by simpa using hi)]
theorem boolv_ext {n : Nat} {Z Y : Nat → Bool} (h : ∀ i, i < n → Z i = Y i) : boolv n Z = boolv n Y := by
  unfold boolv
  exact List.map_congr_left fun i hi => by rw [h i (by simpa using hi)]

theorem owns_addr {w : World} {B : Nat} {e : TypeId} {size n c : Nat} {a : Option Addr} {xs : List Value} (h : w.ownsRow B e size (.slice a n c) n xs) (hn : 0 < n) : ∃ g, a = some ⟨g, 0, none⟩ ∧ g < w.heap.size := by
  rcases h.2 with ⟨h0, hz⟩ | ⟨g, cap, cur, hv, _, hg, _⟩
  · omega
  · cases hv
    exact ⟨g, rfl, (Array.getElem?_eq_some_iff.1 hg).1⟩

set_option maxHeartbeats 1000000 in
theorem markIntS_own (a : Option Addr) (n c k B : Nat) (Z : Nat → Int) (w : World) (h : w.ownsRow B 3 1 (.slice a n c) n (intv0 n Z)) (hn : n ≤ 1048576) (hk : k ≤ 100000000) :
    Calls Tryz.prog 74 #[.slice a n c, .int .i64 k] w fun e w' => e = .returned (.int .i64 ((k + n : Nat) : Int)) ∧ w'.ownsRow B 3 1 (.slice a n c) n (intv0 n (fun i => ((k + i : Nat) : Int))) ∧ w.grownBy w' (Value.slice a n c).ownBlock := by
  go_enter Tryz.func74, Tryz.ntmps74
  go_wp2
  go_loopw [1, 5] (fun kk i wr => ∃ m : Nat, m ≤ n ∧ i = .int .i64 m ∧ kk = .int .i64 ((k + m : Nat) : Int) ∧ wr.ownsRow B 3 1 (.slice a n c) n (intv0 n (fun i => if i < m then ((k + i : Nat) : Int) else Z i)) ∧ w.grownBy wr (Value.slice a n c).ownBlock) (fun _ i _ => n - (intOf i).toNat)
  case atStart => exact ⟨0, Nat.zero_le _, rfl, rfl, by simpa using h, World.grownBy.refl _ _⟩
  case round =>
    obtain ⟨m, hm, rfl, rfl, hrow, hg⟩ := hrel
    by_cases hlt : m < n
    · obtain ⟨g, rfl, hgl⟩ := owns_addr hrow (by omega)
      have hlti : (m : Int) < (n : Int) := by omega
      have hcm := hrow.cellAt m (by omega)
      have hfm := hrow.frozenAt m
      rw [show (intv0 n (fun i => if i < m then ((k + i : Nat) : Int) else Z i))[m]? = some (.int .i64 (Z m)) from by simp [intv0, hlt]] at hcm
      have HR : Hid _ := hrow.stored m (.int .i64 ((k + m : Nat) : Int))
      have HG : Hid (w.grownBy wr (Value.slice (some ⟨g, 0, none⟩) n c).ownBlock) := hg
      clear hrow hg
      go_wp2
      go_roundw
      case rel => exact ⟨m + 1, by omega, by go_num, by go_num, by
        have := HR.out.1
        rw [intv0_set] at this
        rw [intv0_ext (Y := fun i => if i = m then ((k + m : Nat) : Int) else if i < m then ((k + i : Nat) : Int) else Z i) (fun i hi => by
          by_cases e : i = m
          · subst e; simp
          · by_cases e2 : i < m
            · simp [e, e2, show i < m + 1 by omega]
            · simp [e, e2, show ¬ i < m + 1 by omega])]
        exact this, HG.out.trans HR.out.2⟩
      case measure => simp [intOf]; omega
    · obtain rfl : m = n := by omega
      have HR : Hid _ := And.intro hrow hg
      clear hrow hg
      go_wp2
      go_ret
      refine ⟨rfl, ?_, HR.out.2⟩
      rw [intv0_ext (Y := fun i => if i < m then ((k + i : Nat) : Int) else Z i) (fun i hi => by simp [hi])]
      exact HR.out.1

set_option maxHeartbeats 1000000 in
theorem heldIntS_own (a : Option Addr) (n c k : Nat) (w : World) (h : IsInts w a n (fun i => ((k + i : Nat) : Int))) (hn : n ≤ 1048576) (hk : k ≤ 100000000) :
    Calls Tryz.prog 76 #[.slice a n c, .int .i64 k] w fun e w' => e = .returned (.int .i64 ((k + n : Nat) : Int)) ∧ w' = w := by
  go_enter Tryz.func76, Tryz.ntmps76
  go_wp2
  go_loopw [1, 5] (fun kk i wr => ∃ m : Nat, m ≤ n ∧ i = .int .i64 m ∧ kk = .int .i64 ((k + m : Nat) : Int) ∧ wr = w) (fun _ i _ => n - (intOf i).toNat)
  case atStart => exact ⟨0, Nat.zero_le _, rfl, rfl, rfl⟩
  case round =>
    obtain ⟨m, hm, rfl, rfl, rfl⟩ := hrel
    by_cases hlt : m < n
    · obtain ⟨b, off, rfl, hlt2, hc⟩ := h.at hlt
      have g0 := hc m hlt
      have hlti : (m : Int) < (n : Int) := by omega
      clear hc
      go_wp2
      go_roundw
      case rel => exact ⟨m + 1, by omega, by go_num, by go_num, trivial⟩
      case measure => simp [intOf]; omega
    · obtain rfl : m = n := by omega
      go_wp2
      go_ret
      exact ⟨rfl, rfl⟩

/-- The marks of truth values. -/
def markB (k : Nat) : Nat → Bool := fun i => decide ((k + i) % 3 = 0)

theorem mod3 (k m : Nat) : (((k : Int) + (m : Int)) % 3 == 0) = markB k m := by
  unfold markB
  by_cases e : (k + m) % 3 = 0
  · rw [decide_eq_true e]
    have : ((k : Int) + (m : Int)) % 3 = 0 := by omega
    simp [this]
  · rw [decide_eq_false e]
    have : ¬ ((k : Int) + (m : Int)) % 3 = 0 := by omega
    simp [this]

set_option maxHeartbeats 1000000 in
theorem markBoolS_own (a : Option Addr) (n c k B : Nat) (Z : Nat → Bool) (w : World) (h : w.ownsRow B 4 1 (.slice a n c) n (boolv n Z)) (hn : n ≤ 1048576) (hk : k ≤ 100000000) :
    Calls Tryz.prog 65 #[.slice a n c, .int .i64 k] w fun e w' => e = .returned (.int .i64 ((k + n : Nat) : Int)) ∧ w'.ownsRow B 4 1 (.slice a n c) n (boolv n (markB k)) ∧ w.grownBy w' (Value.slice a n c).ownBlock := by
  go_enter Tryz.func65, Tryz.ntmps65
  go_wp2
  go_loopw [1, 5] (fun kk i wr => ∃ m : Nat, m ≤ n ∧ i = .int .i64 m ∧ kk = .int .i64 ((k + m : Nat) : Int) ∧ wr.ownsRow B 4 1 (.slice a n c) n (boolv n (fun i => if i < m then markB k i else Z i)) ∧ w.grownBy wr (Value.slice a n c).ownBlock) (fun _ i _ => n - (intOf i).toNat)
  case atStart => exact ⟨0, Nat.zero_le _, rfl, rfl, by simpa using h, World.grownBy.refl _ _⟩
  case round =>
    obtain ⟨m, hm, rfl, rfl, hrow, hg⟩ := hrel
    by_cases hlt : m < n
    · obtain ⟨g, rfl, hgl⟩ := owns_addr hrow (by omega)
      have hlti : (m : Int) < (n : Int) := by omega
      have hcm := hrow.cellAt m (by omega)
      have hfm := hrow.frozenAt m
      rw [show (boolv n (fun i => if i < m then markB k i else Z i))[m]? = some (.bool (Z m)) from by simp [boolv, hlt]] at hcm
      have hmod : (((k : Int) + (m : Int)) % 3 == 0) = markB k m := mod3 k m
      have HR : Hid _ := hrow.stored m (.bool (markB k m))
      have HG : Hid (w.grownBy wr (Value.slice (some ⟨g, 0, none⟩) n c).ownBlock) := hg
      have HM : Hid _ := hmod
      clear hrow hg hmod
      go_wp2
      go_roundw
      case rel => exact ⟨m + 1, by omega, by go_num, by go_num, by
        have := HR.out.1
        rw [boolv_set] at this
        rw [HM.out, boolv_ext (Y := fun i => if i = m then markB k m else if i < m then markB k i else Z i) (fun i hi => by
          by_cases e : i = m
          · subst e; simp
          · by_cases e2 : i < m
            · simp [e, e2, show i < m + 1 by omega]
            · simp [e, e2, show ¬ i < m + 1 by omega])]
        exact this, by rw [HM.out]; exact HG.out.trans HR.out.2⟩
      case measure => simp [intOf]; omega
    · obtain rfl : m = n := by omega
      have HR : Hid _ := And.intro hrow hg
      clear hrow hg
      go_wp2
      go_ret
      refine ⟨rfl, ?_, HR.out.2⟩
      rw [boolv_ext (Y := fun i => if i < m then markB k i else Z i) (fun i hi => by simp [hi])]
      exact HR.out.1

set_option maxHeartbeats 1000000 in
theorem heldBoolS_own (a : Option Addr) (n c k : Nat) (w : World) (h : IsBools w a n (markB k)) (hn : n ≤ 1048576) (hk : k ≤ 100000000) :
    Calls Tryz.prog 115 #[.slice a n c, .int .i64 k] w fun e w' => e = .returned (.int .i64 ((k + n : Nat) : Int)) ∧ w' = w := by
  go_enter Tryz.func115, Tryz.ntmps115
  go_wp2
  go_loopw [1, 5] (fun kk i wr => ∃ m : Nat, m ≤ n ∧ i = .int .i64 m ∧ kk = .int .i64 ((k + m : Nat) : Int) ∧ wr = w) (fun _ i _ => n - (intOf i).toNat)
  case atStart => exact ⟨0, Nat.zero_le _, rfl, rfl, rfl⟩
  case round =>
    obtain ⟨m, hm, rfl, rfl, rfl⟩ := hrel
    by_cases hlt : m < n
    · obtain ⟨b, off, rfl, hlt2, hc⟩ := h.at hlt
      have g0 := hc m hlt
      have hlti : (m : Int) < (n : Int) := by omega
      have hmod := mod3 k m
      have hz : (!(markB k m == (((k : Int) + (m : Int)) % 3 == 0))) = false := by rw [hmod]; simp
      clear hc hmod
      go_wp2
      go_roundw
      case rel => exact ⟨m + 1, by omega, by go_num, by go_num, trivial⟩
      case measure => simp [intOf]; omega
    · obtain rfl : m = n := by omega
      go_wp2
      go_ret
      exact ⟨rfl, rfl⟩

theorem strv_set (n m : Nat) (S : Nat → ByteArray) (s : ByteArray) : (strv (lst n S)).set m (.string s) = strv (lst n (fun i => if i = m then s else S i)) := by
  apply List.ext_getElem?
  intro j
  rw [List.getElem?_set]
  by_cases e : m = j
  · subst e
    by_cases h : m < n <;> simp [strv, lst, h]
  · by_cases h : j < n <;> simp [strv, lst, h, e, Ne.symm e]

theorem strv_ext {n : Nat} {S T : Nat → ByteArray} (h : ∀ i, i < n → S i = T i) : strv (lst n S) = strv (lst n T) := by
  unfold lst
  congr 1
  exact List.map_congr_left fun i hi => h i (by simpa using hi)

theorem grown_of_below {w w' : World} (h : Below w.heap.size w w') (r : Option Nat) : w.grownBy w' r := ⟨h.os, h.tape, h.output, h.size, fun k hk _ => h.block k hk⟩

set_option maxHeartbeats 1000000 in
theorem markStringS_own (a : Option Addr) (n c k B : Nat) (S : Nat → ByteArray) (w : World) (h : w.ownsRow B 9 1 (.slice a n c) n (strv (lst n S))) (hn : n ≤ 1048576) (hk1 : 1 ≤ k) (hk : k ≤ 100000000) :
    Calls Tryz.prog 32 #[.slice a n c, .int .i64 k] w fun e w' => e = .returned (.int .i64 ((k + n : Nat) : Int)) ∧ w'.ownsRow B 9 1 (.slice a n c) n (strv (lst n (marks k))) ∧ w.grownBy w' (Value.slice a n c).ownBlock := by
  go_enter Tryz.func32, Tryz.ntmps32
  go_wp2
  go_loopw [1, 5] (fun kk i wr => ∃ m : Nat, m ≤ n ∧ i = .int .i64 m ∧ kk = .int .i64 ((k + m : Nat) : Int) ∧ wr.ownsRow B 9 1 (.slice a n c) n (strv (lst n (fun i => if i < m then marks k i else S i))) ∧ w.grownBy wr (Value.slice a n c).ownBlock) (fun _ i _ => n - (intOf i).toNat)
  case atStart => exact ⟨0, Nat.zero_le _, rfl, rfl, by simpa using h, World.grownBy.refl _ _⟩
  case round =>
    obtain ⟨m, hm, rfl, rfl, hrow, hg⟩ := hrel
    by_cases hlt : m < n
    · obtain ⟨g, rfl, hgl⟩ := owns_addr hrow (by omega)
      have hlti : (m : Int) < (n : Int) := by omega
      have HRow : Hid _ := hrow
      have HG : Hid (w.grownBy wr (Value.slice (some ⟨g, 0, none⟩) n c).ownBlock) := hg
      clear hrow hg
      go_wp2_with fail
      refine (markText_any (k + m) _ (by omega) (by omega)).mono ?_
      rintro e w1 ⟨rfl, hb1⟩
      have hrow1 := owns_same HRow.out (w' := w1) (fun b hb => hb1.block b (owns_block HRow.out hb).2)
      have hcm := hrow1.cellAt m (by omega)
      have hfm := hrow1.frozenAt m
      rw [show (strv (lst n (fun i => if i < m then marks k i else S i)))[m]? = some (.string (S m)) from by simp [strv, lst, hlt]] at hcm
      have HR : Hid _ := hrow1.stored m (.string ⟨(markOf (k + m)).toArray⟩)
      have HG1 : Hid (w.grownBy w1 (Value.slice (some ⟨g, 0, none⟩) n c).ownBlock) := HG.out.trans (grown_of_below hb1 _)
      clear hrow1 hb1 HG HRow
      go_wp2
      go_roundw
      case rel => exact ⟨m + 1, by omega, by go_num, by go_num, by
        have := HR.out.1
        rw [strv_set] at this
        rw [strv_ext (T := fun i => if i = m then (⟨(markOf (k + m)).toArray⟩ : ByteArray) else if i < m then marks k i else S i) (fun i hi => by
          by_cases e : i = m
          · subst e; simp [marks]
          · by_cases e2 : i < m
            · simp [e, e2, show i < m + 1 by omega]
            · simp [e, e2, show ¬ i < m + 1 by omega])]
        exact this, HG1.out.trans HR.out.2⟩
      case measure => simp [intOf]; omega
    · obtain rfl : m = n := by omega
      have HR : Hid _ := And.intro hrow hg
      clear hrow hg
      go_wp2
      go_ret
      refine ⟨rfl, ?_, HR.out.2⟩
      rw [strv_ext (T := fun i => if i < m then marks k i else S i) (fun i hi => by simp [hi])]
      exact HR.out.1
end Go.Proofs.YtfdjfndpeeomkaaGreatDoor

/-
  What is kept, in memory of one's own, when one of its lists is written into. Plain facts.
-/
namespace Go.Proofs.YtfdjfndpeeomkaaGreatDoor
open Go.RowKit Go.Deep
set_option linter.unusedVariables false
set_option linter.unusedSimpArgs false

section
variable {W W' : World} {B k : Nat} {Z Z' : Nat → Bool} {m : Nat} {O O' : Nat → Int} {D D' : Nat → Nd} {L : Nat → Loc} {lv iv : Value}

theorem OD.turn (h : OD W B k Z m O D L lv iv) {d0 : Nat} (hd0 : d0 < 2 + 2 * m) (hg : W.grownBy W' (valD lv iv D L d0).ownBlock) (hrow : ∀ d, d < 2 + 2 * m → d ≠ d0 → rowD k Z' m O' D' L d = rowD k Z m O D L d) (hval : ∀ d, d < 2 + 2 * m → valD lv iv D' L d = valD lv iv D L d)
    (hown : W'.ownsRow B (rowD k Z' m O' D' L d0).e (rowD k Z' m O' D' L d0).size (valD lv iv D L d0) (rowD k Z' m O' D' L d0).n (rowD k Z' m O' D' L d0).xs) : OD W' B k Z' m O' D' L lv iv := by
  refine ⟨⟨fun d hl => ?_, fun d1 d2 g1 g2 hne b h1 h2 => ?_⟩⟩
  · rw [hval d hl]
    by_cases e : d = d0
    · subst e; exact hown
    · rw [hrow d hl e]
      exact owns_kept (h.rows.own d hl) hg fun b hb => Ne.symm (Ne.symm (h.rows.apart d d0 hl hd0 e b hb))
  · rw [hval d1 g1] at h1
    rw [hval d2 g2] at h2
    exact h.rows.apart d1 d2 g1 g2 hne b h1 h2

/-- The same lengths everywhere: the same addresses. -/
theorem val_same (hl : ∀ i, i < m → (D' i).nn = (D i).nn ∧ (D' i).kn = (D i).kn) : ∀ d, d < 2 + 2 * m → valD lv iv D' L d = valD lv iv D L d := fun d hd => by
  unfold valD
  by_cases e0 : d = 0
  · rw [if_pos e0, if_pos e0]
  · by_cases e1 : d = 1
    · rw [if_neg e0, if_pos e1, if_neg e0, if_pos e1]
    · rw [if_neg e0, if_neg e1, if_neg e0, if_neg e1, (hl ((d - 2) / 2) (by omega)).1, (hl ((d - 2) / 2) (by omega)).2]

/-- The truth values are others. -/
theorem OD.turnLive (h : OD W B k Z m O D L lv iv) (hg : W.grownBy W' lv.ownBlock) (hown : W'.ownsRow B 4 1 lv k (boolv k Z')) : OD W' B k Z' m O D L lv iv :=
  h.turn (d0 := 0) (by omega) (by simpa [valD] using hg) (fun d hl hne => rowD_rest hne) (fun d hl => rfl) (by simpa [rowD, valD] using hown)

/-- The list of places holds others, of the same lists. -/
theorem OD.turnItems (h : OD W B k Z m O D L lv iv) (hl : ∀ i, i < m → (D' i).nn = (D i).nn ∧ (D' i).kn = (D i).kn ∧ (D' i).names = (D i).names ∧ (D' i).kids = (D i).kids) (hg : W.grownBy W' iv.ownBlock) (hown : W'.ownsRow B 133 6 iv m (rowsI O' D' L m)) : OD W' B k Z m O' D' L lv iv :=
  h.turn (d0 := 1) (by omega) (by simpa [valD] using hg) (fun d hd hne => by
    unfold rowD
    by_cases e0 : d = 0
    · rw [if_pos e0, if_pos e0]
    · obtain ⟨a1, a2, a3, a4⟩ := hl ((d - 2) / 2) (by omega)
      rw [if_neg e0, if_neg hne, if_neg e0, if_neg hne, a1, a2, a3, a4]) (val_same fun i hi => ⟨(hl i hi).1, (hl i hi).2.1⟩) (by simpa [rowD, valD] using hown)

/-- The names of a place are others. -/
theorem OD.turnNames (h : OD W B k Z m O D L lv iv) {i : Nat} (hi : i < m) (S : Nat → ByteArray) (hg : W.grownBy W' (Value.slice (L i).nA (D i).nn (L i).nc).ownBlock) (hown : W'.ownsRow B 9 1 (.slice (L i).nA (D i).nn (L i).nc) (D i).nn (strv (lst (D i).nn S))) :
    OD W' B k Z m O (fun j => if j = i then { D i with names := S } else D j) L lv iv := by
  have hd : (2 + 2 * i - 2) / 2 = i := by omega
  have hv : valD lv iv D L (2 + 2 * i) = .slice (L i).nA (D i).nn (L i).nc := by unfold valD; rw [if_neg (by omega), if_neg (by omega), if_pos (by omega), hd]
  refine h.turn (d0 := 2 + 2 * i) (by omega) (by rw [hv]; exact hg) (fun d hdl hne => ?_) (val_same fun j hj => by by_cases e : j = i <;> simp [e]) ?_
  · have hrows : rowsI O (fun j => if j = i then { D i with names := S } else D j) L m = rowsI O D L m := by
      have key : ∀ q, rowsI O (fun j => if j = i then { D i with names := S } else D j) L q = rowsI O D L q := fun q => by
        induction q with
        | zero => rfl
        | succ q ih =>
          rw [rowsI, rowsI, ih]
          by_cases e : q = i
          · subst e; simp [it6]
          · simp [e]
      exact key m
    unfold rowD
    by_cases e0 : d = 0
    · rw [if_pos e0, if_pos e0]
    · by_cases e1 : d = 1
      · rw [if_neg e0, if_pos e1, if_neg e0, if_pos e1, hrows]
      · rw [if_neg e0, if_neg e1, if_neg e0, if_neg e1]
        by_cases e : (d - 2) / 2 = i
        · have : d % 2 ≠ 0 := by omega
          rw [if_neg this, if_neg this]
          simp [e]
        · simp [e]
  · rw [hv]
    unfold rowD
    rw [if_neg (by omega), if_neg (by omega), if_pos (by omega), hd]
    simpa using hown

/-- The places in a directory are others. -/
theorem OD.turnKids (h : OD W B k Z m O D L lv iv) {i : Nat} (hi : i < m) (K : Nat → Int) (hg : W.grownBy W' (Value.slice (L i).kA (D i).kn (L i).kc).ownBlock) (hown : W'.ownsRow B 3 1 (.slice (L i).kA (D i).kn (L i).kc) (D i).kn (intv0 (D i).kn K)) :
    OD W' B k Z m O (fun j => if j = i then { D i with kids := K } else D j) L lv iv := by
  have hd : (3 + 2 * i - 2) / 2 = i := by omega
  have hv : valD lv iv D L (3 + 2 * i) = .slice (L i).kA (D i).kn (L i).kc := by unfold valD; rw [if_neg (by omega), if_neg (by omega), if_neg (by omega), hd]
  refine h.turn (d0 := 3 + 2 * i) (by omega) (by rw [hv]; exact hg) (fun d hdl hne => ?_) (val_same fun j hj => by by_cases e : j = i <;> simp [e]) ?_
  · have hrows : rowsI O (fun j => if j = i then { D i with kids := K } else D j) L m = rowsI O D L m := by
      have key : ∀ q, rowsI O (fun j => if j = i then { D i with kids := K } else D j) L q = rowsI O D L q := fun q => by
        induction q with
        | zero => rfl
        | succ q ih =>
          rw [rowsI, rowsI, ih]
          by_cases e : q = i
          · subst e; simp [it6]
          · simp [e]
      exact key m
    unfold rowD
    by_cases e0 : d = 0
    · rw [if_pos e0, if_pos e0]
    · by_cases e1 : d = 1
      · rw [if_neg e0, if_pos e1, if_neg e0, if_pos e1, hrows]
      · rw [if_neg e0, if_neg e1, if_neg e0, if_neg e1]
        by_cases e : (d - 2) / 2 = i
        · have : d % 2 = 0 := by omega
          rw [if_pos this, if_pos this]
          simp [e]
        · simp [e]
  · rw [hv]
    unfold rowD
    rw [if_neg (by omega), if_neg (by omega), if_neg (by omega), hd]
    simpa using hown
end
end Go.Proofs.YtfdjfndpeeomkaaGreatDoor

/-
  What markItemS does at what is kept, in memory of one's own: every list holds its own marks afterwards.
-/
namespace Go.Proofs.YtfdjfndpeeomkaaGreatDoor
open Go.RowKit Go.Deep
set_option linter.unusedVariables false
set_option linter.unusedSimpArgs false

section
variable {O O' : Nat → Int} {D D' : Nat → Nd} {L : Nat → Loc}

theorem rowsI_set {m i r : Nat} {u : Value} (hi : i < m) (hr : r < 6) (hx : it6 (O' i) (D' i) (L i) = (it6 (O i) (D i) (L i)).set r u) (ho : ∀ j, j < m → j ≠ i → O' j = O j ∧ D' j = D j) : (rowsI O D L m).set (i * 6 + r) u = rowsI O' D' L m := by
  apply List.ext_getElem?
  intro q
  by_cases hq : q < m * 6
  · have h1 := rowsI_get (O := O') (D := D') (L := L) m (q / 6) (by omega) (q % 6) (by omega)
    have h2 := rowsI_get (O := O) (D := D) (L := L) m (q / 6) (by omega) (q % 6) (by omega)
    rw [show q / 6 * 6 + q % 6 = q by omega] at h1 h2
    rw [h1, List.getElem?_set]
    by_cases e : q / 6 = i
    · rw [e, hx, List.getElem?_set]
      by_cases e2 : i * 6 + r = q
      · have e3 : r = q % 6 := by omega
        rw [if_pos e2, if_pos (by rw [rowsI_len]; omega), if_pos e3, if_pos (by simp [it6]; omega)]
      · have e3 : r ≠ q % 6 := by omega
        rw [if_neg e2, if_neg e3, h2, e]
    · obtain ⟨a1, a2⟩ := ho (q / 6) (by omega) e
      rw [if_neg (by omega), h2, a1, a2]
  · rw [List.getElem?_eq_none (by rw [List.length_set, rowsI_len]; omega), List.getElem?_eq_none (by rw [rowsI_len]; omega)]
end

section
variable {W : World} {B k : Nat} {Z : Nat → Bool} {m : Nat} {O : Nat → Int} {D : Nat → Nd} {L : Nat → Loc} {lv iv : Value} {g ic : Nat}

/-- The cells of a place that was turned. -/
theorem OD.cells (h : OD W B k Z m O D L lv (.slice (some ⟨g, 0, none⟩) m ic)) {i : Nat} (hi : i < m) : W.cell? ⟨g, i * 6, none⟩ = some (.int .i64 (O i)) ∧ W.cell? ⟨g, i * 6 + 1, none⟩ = some (.int .i64 (D i).kind) ∧ W.cell? ⟨g, i * 6 + 2, none⟩ = some (.string (D i).text) ∧
    W.cell? ⟨g, i * 6 + 3, none⟩ = some (.slice (L i).nA (D i).nn (L i).nc) ∧ W.cell? ⟨g, i * 6 + 4, none⟩ = some (.slice (L i).kA (D i).kn (L i).kc) ∧ W.cell? ⟨g, i * 6 + 5, none⟩ = some (.int .i64 (D i).turn) := by
  have key : ∀ r, r < 6 → W.cell? ⟨g, i * 6 + r, none⟩ = (it6 (O i) (D i) (L i))[r]? := fun r hr => by
    rw [h.ownI.cellAt (i * 6 + r) (by omega), rowsI_get m i hi r hr]
  exact ⟨key 0 (by omega), key 1 (by omega), key 2 (by omega), key 3 (by omega), key 4 (by omega), key 5 (by omega)⟩

theorem OD.free (h : OD W B k Z m O D L lv (.slice (some ⟨g, 0, none⟩) m ic)) (j : Nat) : W.frozen? ⟨g, j, none⟩ = false := h.ownI.frozenAt j

theorem OD.putIno (h : OD W B k Z m O D L lv (.slice (some ⟨g, 0, none⟩) m ic)) {i : Nat} (hi : i < m) (z : Int) : OD (W.setCell ⟨g, i * 6, none⟩ (.int .i64 z)) B k Z m (fun j => if j = i then z else O j) D L lv (.slice (some ⟨g, 0, none⟩) m ic) := by
  obtain ⟨h1, h2⟩ := h.ownI.stored (i * 6 + 0) (.int .i64 z)
  rw [rowsI_set (O' := fun j => if j = i then z else O j) (D' := D) hi (by omega) (by simp [it6]) (fun j hj e => by simp [e])] at h1
  exact h.turnItems (fun j hj => ⟨rfl, rfl, rfl, rfl⟩) h2 h1

theorem OD.putKind (h : OD W B k Z m O D L lv (.slice (some ⟨g, 0, none⟩) m ic)) {i : Nat} (hi : i < m) (z : Int) : OD (W.setCell ⟨g, i * 6 + 1, none⟩ (.int .i64 z)) B k Z m O (fun j => if j = i then { D i with kind := z } else D j) L lv (.slice (some ⟨g, 0, none⟩) m ic) := by
  obtain ⟨h1, h2⟩ := h.ownI.stored (i * 6 + 1) (.int .i64 z)
  rw [rowsI_set (O' := O) (D' := fun j => if j = i then { D i with kind := z } else D j) hi (by omega) (by simp [it6]) (fun j hj e => by simp [e])] at h1
  exact h.turnItems (fun j hj => by by_cases e : j = i <;> simp [e]) h2 h1

theorem OD.putText (h : OD W B k Z m O D L lv (.slice (some ⟨g, 0, none⟩) m ic)) {i : Nat} (hi : i < m) (s : ByteArray) : OD (W.setCell ⟨g, i * 6 + 2, none⟩ (.string s)) B k Z m O (fun j => if j = i then { D i with text := s } else D j) L lv (.slice (some ⟨g, 0, none⟩) m ic) := by
  obtain ⟨h1, h2⟩ := h.ownI.stored (i * 6 + 2) (.string s)
  rw [rowsI_set (O' := O) (D' := fun j => if j = i then { D i with text := s } else D j) hi (by omega) (by simp [it6]) (fun j hj e => by simp [e])] at h1
  exact h.turnItems (fun j hj => by by_cases e : j = i <;> simp [e]) h2 h1

theorem OD.putTurn (h : OD W B k Z m O D L lv (.slice (some ⟨g, 0, none⟩) m ic)) {i : Nat} (hi : i < m) (z : Int) : OD (W.setCell ⟨g, i * 6 + 5, none⟩ (.int .i64 z)) B k Z m O (fun j => if j = i then { D i with turn := z } else D j) L lv (.slice (some ⟨g, 0, none⟩) m ic) := by
  obtain ⟨h1, h2⟩ := h.ownI.stored (i * 6 + 5) (.int .i64 z)
  rw [rowsI_set (O' := O) (D' := fun j => if j = i then { D i with turn := z } else D j) hi (by omega) (by simp [it6]) (fun j hj e => by simp [e])] at h1
  exact h.turnItems (fun j hj => by by_cases e : j = i <;> simp [e]) h2 h1

theorem OD.ownN (h : OD W B k Z m O D L lv iv) {i : Nat} (hi : i < m) : W.ownsRow B 9 1 (.slice (L i).nA (D i).nn (L i).nc) (D i).nn (strv (lst (D i).nn (D i).names)) := by
  have hd : (2 + 2 * i - 2) / 2 = i := by omega
  have := h.rows.own (2 + 2 * i) (by omega)
  unfold rowD valD at this
  rw [if_neg (by omega), if_neg (by omega), if_pos (by omega), if_neg (by omega), if_neg (by omega), if_pos (by omega), hd] at this
  exact this

theorem OD.ownK (h : OD W B k Z m O D L lv iv) {i : Nat} (hi : i < m) : W.ownsRow B 3 1 (.slice (L i).kA (D i).kn (L i).kc) (D i).kn (intv0 (D i).kn (D i).kids) := by
  have hd : (3 + 2 * i - 2) / 2 = i := by omega
  have := h.rows.own (3 + 2 * i) (by omega)
  unfold rowD valD at this
  rw [if_neg (by omega), if_neg (by omega), if_neg (by omega), if_neg (by omega), if_neg (by omega), if_neg (by omega), hd] at this
  exact this
end

/-- Blocks below B, and those from H on, are kept. -/
structure Fr (B H : Nat) (w w' : World) : Prop where
  bel : Below B w w'
  far : ∀ b, H ≤ b → b < w.heap.size → w'.heap[b]? = w.heap[b]?

theorem Fr.refl (B H : Nat) (w : World) : Fr B H w w := ⟨Below.refl _ _, fun _ _ _ => rfl⟩
theorem Fr.put {B H : Nat} {a w : World} (h : Fr B H a w) {b i : Nat} (v : Value) (hb : B ≤ b) (hH : b < H) : Fr B H a (w.setCell ⟨b, i, none⟩ v) := ⟨bel_put h.bel v hb, fun j hj hl => (blk_setCell_other _ _ _ _ (show j ≠ b by omega)).trans (h.far j hj hl)⟩
theorem Fr.below {B H : Nat} {a w w' : World} (h : Fr B H a w) (hB : B ≤ w.heap.size) (hb : Below w.heap.size w w') : Fr B H a w' := ⟨h.bel.trans (hb.mono hB), fun j hj hl => (hb.block j (Nat.lt_of_lt_of_le hl h.bel.size)).trans (h.far j hj hl)⟩
theorem Fr.grow {B H : Nat} {a w w' : World} {r : Option Nat} (h : Fr B H a w) (hg : w.grownBy w' r) (hB : B ≤ w.heap.size) (hr : ∀ b, r = some b → B ≤ b ∧ b < H) : Fr B H a w' := ⟨h.bel.grown hg hB (fun b e => (hr b e).1), fun j hj hl => (hg.block j (Nat.lt_of_lt_of_le hl h.bel.size) (fun e => by have := (hr j e.symm).2; omega)).trans (h.far j hj hl)⟩

theorem Fr.trans {B H : Nat} {a b c : World} (h : Fr B H a b) (_hB : B ≤ b.heap.size) (k : Fr B H b c) : Fr B H a c := ⟨h.bel.trans k.bel, fun j hj hl => (k.far j hj (Nat.lt_of_lt_of_le hl h.bel.size)).trans (h.far j hj hl)⟩

theorem valD_n {lv iv : Value} {D : Nat → Nd} {L : Nat → Loc} {j : Nat} : valD lv iv D L (2 + 2 * j) = .slice (L j).nA (D j).nn (L j).nc := by unfold valD; rw [if_neg (by omega), if_neg (by omega), if_pos (by omega), show (2 + 2 * j - 2) / 2 = j by omega]
theorem valD_k {lv iv : Value} {D : Nat → Nd} {L : Nat → Loc} {j : Nat} : valD lv iv D L (3 + 2 * j) = .slice (L j).kA (D j).kn (L j).kc := by unfold valD; rw [if_neg (by omega), if_neg (by omega), if_neg (by omega), show (3 + 2 * j - 2) / 2 = j by omega]

/-- The first mark of place j. -/
def kap (D : Nat → Nd) (k0 : Nat) : Nat → Nat | 0 => k0 | j + 1 => kap D k0 j + (4 + (D j).nn + (D j).kn)
/-- A place, marked from q on. -/
def markNd (d : Nd) (q : Nat) : Nd := ⟨((q + 1 : Nat) : Int), ⟨(markOf (q + 2)).toArray⟩, d.nn, marks (q + 3), d.kn, fun i => ((q + 3 + d.nn + i : Nat) : Int), ((q + 3 + d.nn + d.kn : Nat) : Int)⟩
def markO (D : Nat → Nd) (k0 : Nat) (O : Nat → Int) (j : Nat) : Nat → Int := fun i => if i < j then ((kap D k0 i : Nat) : Int) else O i
def markD (D : Nat → Nd) (k0 j : Nat) : Nat → Nd := fun i => if i < j then markNd (D i) (kap D k0 i) else D i

theorem kap_mono (D : Nat → Nd) (k0 : Nat) {i j : Nat} (h : i ≤ j) : kap D k0 i ≤ kap D k0 j := by
  induction h with
  | refl => exact Nat.le_refl _
  | step _ ih => rw [kap]; omega

theorem kap_ge (D : Nat → Nd) (k0 i : Nat) : k0 ≤ kap D k0 i := kap_mono D k0 (Nat.zero_le i)

set_option maxRecDepth 100000 in
set_option maxHeartbeats 4000000 in
theorem markItemS_own (H : Nat) (ia : Option Addr) (m ic k0 B k : Nat) (Z : Nat → Bool) (O : Nat → Int) (D : Nat → Nd) (L : Nat → Loc) (lv : Value) (w : World) (h : OD w B k Z m O D L lv (.slice ia m ic)) (hm : m ≤ 1048576) (hk1 : 1 ≤ k0) (hH : ∀ d b, d < 2 + 2 * m → (valD lv (.slice ia m ic) D L d).ownBlock = some b → b < H) (hkap : kap D k0 m ≤ 90000000) (hsz : ∀ i, i < m → (D i).nn ≤ 1048576 ∧ (D i).kn ≤ 1048576) :
    Calls Tryz.prog 66 #[.slice ia m ic, .int .i64 k0] w fun e w' => e = .returned (.int .i64 (kap D k0 m : Nat)) ∧ Fr B H w w' ∧ OD w' B k Z m (markO D k0 O m) (markD D k0 m) L lv (.slice ia m ic) := by
  go_enter Tryz.func66, Tryz.ntmps66
  go_wp2
  go_loopw [1, 5] (fun kk i wr => ∃ j : Nat, j ≤ m ∧ i = .int .i64 j ∧ kk = .int .i64 (kap D k0 j : Nat) ∧ Fr B H w wr ∧ OD wr B k Z m (markO D k0 O j) (markD D k0 j) L lv (.slice ia m ic)) (fun _ i _ => m - (intOf i).toNat)
  case atStart => exact ⟨0, Nat.zero_le _, rfl, rfl, Fr.refl _ _ _, by rw [show markO D k0 O 0 = O from by funext i; simp [markO], show markD D k0 0 = D from by funext i; simp [markD]]; exact h⟩
  case round =>
    obtain ⟨j, hj, rfl, rfl, hb, hod⟩ := hrel
    by_cases hlt : j < m
    · obtain ⟨g, rfl, hgl⟩ := owns_addr hod.ownI (by omega)
      have hBg : B ≤ g := (owns_block hod.ownI rfl).1
      have hgH : g < H := hH 1 g (by omega) rfl
      have hlti : (j : Int) < (m : Int) := by omega
      have hq1 := kap_ge D k0 j
      have hq2 := kap_mono D k0 (show j + 1 ≤ m by omega)
      have hq3 : kap D k0 (j + 1) = kap D k0 j + (4 + (D j).nn + (D j).kn) := rfl
      obtain ⟨hs1, hs2⟩ := hsz j hlt
      generalize hq : kap D k0 j = q at *
      have HQ : Hid (kap D k0 j = q) := hq
      clear hq
      have hqb : q ≤ 90000000 := by omega
      have hDj : markD D k0 j j = D j := by simp [markD]
      obtain ⟨c0, c1, c2, c3, c4, c5⟩ := hod.cells hlt
      have f0 := hod.free (j * 6)
      have f1 := hod.free (j * 6 + 1)
      have f2 := hod.free (j * 6 + 2)
      have f5 := hod.free (j * 6 + 5)
      rw [hDj] at c1 c2 c3 c4 c5
      have H0 : Hid (Fr B H w wr ∧ OD wr B k Z m (markO D k0 O j) (markD D k0 j) L lv (.slice (some ⟨g, 0, none⟩) m ic)) := ⟨hb, hod⟩
      have H2 : Hid (Fr B H w ((wr.setCell ⟨g, j * 6, none⟩ (.int .i64 q)).setCell ⟨g, j * 6 + 1, none⟩ (.int .i64 ((q : Int) + 1))) ∧ OD ((wr.setCell ⟨g, j * 6, none⟩ (.int .i64 q)).setCell ⟨g, j * 6 + 1, none⟩ (.int .i64 ((q : Int) + 1))) B k Z m (fun i => if i = j then (q : Int) else markO D k0 O j i) (fun i => if i = j then { D j with kind := (q : Int) + 1 } else markD D k0 j i) L lv (.slice (some ⟨g, 0, none⟩) m ic)) := ⟨(hb.put _ hBg hgH).put _ hBg hgH, by have := (hod.putIno hlt (q : Int)).putKind hlt ((q : Int) + 1); rw [hDj] at this; exact this⟩
      clear hb hod H0
      go_wp2_with fail
      have e2 : (q : Int) + 1 + 1 = ((q + 2 : Nat) : Int) := by omega
      rw [e2]
      clear e2
      refine at_world (F := fun W => Fr B H w W ∧ OD W B k Z m (fun i => if i = j then (q : Int) else markO D k0 O j i) (fun i => if i = j then { D j with kind := (q : Int) + 1 } else markD D k0 j i) L lv (.slice (some ⟨g, 0, none⟩) m ic)) H2.out ?_
      clear H2 c0 c1 c2 c3 c4 c5 f0 f1 f2 f5
      rintro W2 ⟨hb2, hod2⟩
      refine (markText_any (q + 2) W2 (by omega) (by omega)).mono ?_
      rintro e W3 ⟨rfl, hb3⟩
      have hod3 := hod2.below hb3
      have hgl2 : g < W2.heap.size := (owns_block hod2.ownI rfl).2
      have hb3' : Fr B H w W3 := hb2.below (by omega) hb3
      obtain ⟨_, _, c2, _, _, _⟩ := hod3.cells hlt
      have f2 := hod3.free (j * 6 + 2)
      have c2' : W3.cell? ⟨g, j * 6 + 2, none⟩ = some (.string (D j).text) := by rw [c2]; simp
      have H4 : Hid (Fr B H w (W3.setCell ⟨g, j * 6 + 2, none⟩ (.string ⟨(markOf (q + 2)).toArray⟩)) ∧ OD (W3.setCell ⟨g, j * 6 + 2, none⟩ (.string ⟨(markOf (q + 2)).toArray⟩)) B k Z m (fun i => if i = j then (q : Int) else markO D k0 O j i) (fun i => if i = j then { D j with kind := (q : Int) + 1, text := ⟨(markOf (q + 2)).toArray⟩ } else markD D k0 j i) L lv (.slice (some ⟨g, 0, none⟩) m ic)) := ⟨hb3'.put _ hBg hgH, by
        have := hod3.putText hlt ⟨(markOf (q + 2)).toArray⟩
        rw [show (fun i => if i = j then { D j with kind := (q : Int) + 1, text := ⟨(markOf (q + 2)).toArray⟩ } else markD D k0 j i) = (fun i => if i = j then { (fun i => if i = j then { D j with kind := (q : Int) + 1 } else markD D k0 j i) j with text := ⟨(markOf (q + 2)).toArray⟩ } else (fun i => if i = j then { D j with kind := (q : Int) + 1 } else markD D k0 j i) i) from by
          funext i
          by_cases e : i = j <;> simp [e]]
        exact this⟩
      obtain ⟨_, _, _, c3, c4, _⟩ := H4.out.2.cells hlt
      have c3' : (W3.setCell ⟨g, j * 6 + 2, none⟩ (.string ⟨(markOf (q + 2)).toArray⟩)).cell? ⟨g, j * 6 + 3, none⟩ = some (.slice (L j).nA (D j).nn (L j).nc) := by rw [c3]; simp
      have d3 : W3.cell? ⟨g, j * 6 + 3, none⟩ = some (.slice (L j).nA (D j).nn (L j).nc) := by
        obtain ⟨_, _, _, c3, _, _⟩ := hod3.cells hlt
        rw [c3]; simp
      clear c2 c3 c4 c3' hod2 hod3 hb2 hb3 hb3'
      go_wp2_with fail
      have e3 : (q : Int) + 2 + 1 = ((q + 3 : Nat) : Int) := by omega
      rw [e3]
      clear e3
      refine at_world (F := fun W => Fr B H w W ∧ OD W B k Z m (fun i => if i = j then (q : Int) else markO D k0 O j i) (fun i => if i = j then { D j with kind := (q : Int) + 1, text := ⟨(markOf (q + 2)).toArray⟩ } else markD D k0 j i) L lv (.slice (some ⟨g, 0, none⟩) m ic)) H4.out ?_
      clear H4 c2' d3 f2
      rintro W4 ⟨hb4, hod4⟩
      have hN4 : W4.ownsRow B 9 1 (.slice (L j).nA (D j).nn (L j).nc) (D j).nn (strv (lst (D j).nn (D j).names)) := by simpa using hod4.ownN hlt
      have hgl4 : g < W4.heap.size := (owns_block hod4.ownI rfl).2
      refine (markStringS_own (L j).nA (D j).nn (L j).nc (q + 3) B (D j).names W4 hN4 hs1 (by omega) (by omega)).mono ?_
      rintro e W5 ⟨rfl, hown5, hg5⟩
      have hb5 : Fr B H w W5 := hb4.grow hg5 (by omega) (fun b e => ⟨(owns_block hN4 e).1, hH (2 + 2 * j) b (by omega) (by rw [valD_n]; exact e)⟩)
      have hod5 : OD W5 B k Z m (fun i => if i = j then (q : Int) else markO D k0 O j i) (fun i => if i = j then { D j with kind := (q : Int) + 1, text := ⟨(markOf (q + 2)).toArray⟩, names := marks (q + 3) } else markD D k0 j i) L lv (.slice (some ⟨g, 0, none⟩) m ic) := by
        have := hod4.turnNames hlt (marks (q + 3)) (by simpa using hg5) (by simpa using hown5)
        rw [show (fun i => if i = j then { D j with kind := (q : Int) + 1, text := ⟨(markOf (q + 2)).toArray⟩, names := marks (q + 3) } else markD D k0 j i) = (fun i => if i = j then { (fun i => if i = j then { D j with kind := (q : Int) + 1, text := ⟨(markOf (q + 2)).toArray⟩ } else markD D k0 j i) j with names := marks (q + 3) } else (fun i => if i = j then { D j with kind := (q : Int) + 1, text := ⟨(markOf (q + 2)).toArray⟩ } else markD D k0 j i) i) from by
          funext i
          by_cases e : i = j <;> simp [e]]
        exact this
      obtain ⟨_, _, _, _, c4, _⟩ := hod5.cells hlt
      have c4' : W5.cell? ⟨g, j * 6 + 4, none⟩ = some (.slice (L j).kA (D j).kn (L j).kc) := by rw [c4]; simp
      have hK5 : W5.ownsRow B 3 1 (.slice (L j).kA (D j).kn (L j).kc) (D j).kn (intv0 (D j).kn (D j).kids) := by simpa using hod5.ownK hlt
      have hgl5 : g < W5.heap.size := (owns_block hod5.ownI rfl).2
      have H5 : Hid (Fr B H w W5 ∧ OD W5 B k Z m (fun i => if i = j then (q : Int) else markO D k0 O j i) (fun i => if i = j then { D j with kind := (q : Int) + 1, text := ⟨(markOf (q + 2)).toArray⟩, names := marks (q + 3) } else markD D k0 j i) L lv (.slice (some ⟨g, 0, none⟩) m ic)) := ⟨hb5, hod5⟩
      have HK5 : Hid _ := hK5
      clear hb4 hod4 hN4 hown5 hg5 hb5 hod5 c4 hK5
      go_wp2_with fail
      refine (markIntS_own (L j).kA (D j).kn (L j).kc (q + 3 + (D j).nn) B (D j).kids W5 HK5.out hs2 (by omega)).mono ?_
      rintro e W6 ⟨rfl, hown6, hg6⟩
      have hb6 : Fr B H w W6 := H5.out.1.grow hg6 (by omega) (fun b e => ⟨(owns_block HK5.out e).1, hH (3 + 2 * j) b (by omega) (by rw [valD_k]; exact e)⟩)
      have hod6 : OD W6 B k Z m (fun i => if i = j then (q : Int) else markO D k0 O j i) (fun i => if i = j then { D j with kind := (q : Int) + 1, text := ⟨(markOf (q + 2)).toArray⟩, names := marks (q + 3), kids := fun i => ((q + 3 + (D j).nn + i : Nat) : Int) } else markD D k0 j i) L lv (.slice (some ⟨g, 0, none⟩) m ic) := by
        have := H5.out.2.turnKids hlt (fun i => ((q + 3 + (D j).nn + i : Nat) : Int)) (by simpa using hg6) (by simpa using hown6)
        rw [show (fun i => if i = j then { D j with kind := (q : Int) + 1, text := ⟨(markOf (q + 2)).toArray⟩, names := marks (q + 3), kids := fun i => ((q + 3 + (D j).nn + i : Nat) : Int) } else markD D k0 j i) = (fun i => if i = j then { (fun i => if i = j then { D j with kind := (q : Int) + 1, text := ⟨(markOf (q + 2)).toArray⟩, names := marks (q + 3) } else markD D k0 j i) j with kids := fun i => ((q + 3 + (D j).nn + i : Nat) : Int) } else (fun i => if i = j then { D j with kind := (q : Int) + 1, text := ⟨(markOf (q + 2)).toArray⟩, names := marks (q + 3) } else markD D k0 j i) i) from by
          funext i
          by_cases e : i = j <;> simp [e]]
        exact this
      obtain ⟨_, _, _, _, _, c5⟩ := hod6.cells hlt
      have c5' : W6.cell? ⟨g, j * 6 + 5, none⟩ = some (.int .i64 (D j).turn) := by rw [c5]; simp
      have f5 := hod6.free (j * 6 + 5)
      have H7 : Hid (Fr B H w (W6.setCell ⟨g, j * 6 + 5, none⟩ (.int .i64 ((q + 3 + (D j).nn + (D j).kn : Nat) : Int))) ∧ OD (W6.setCell ⟨g, j * 6 + 5, none⟩ (.int .i64 ((q + 3 + (D j).nn + (D j).kn : Nat) : Int))) B k Z m (markO D k0 O (j + 1)) (markD D k0 (j + 1)) L lv (.slice (some ⟨g, 0, none⟩) m ic)) := ⟨hb6.put _ hBg hgH, by
        have := hod6.putTurn hlt ((q + 3 + (D j).nn + (D j).kn : Nat) : Int)
        rw [show markO D k0 O (j + 1) = (fun i => if i = j then (q : Int) else markO D k0 O j i) from by
          funext i
          by_cases e : i = j
          · subst e; simp [markO, HQ.out]
          · by_cases e2 : i < j
            · simp [markO, e, e2, show i < j + 1 by omega]
            · simp [markO, e, e2, show ¬ i < j + 1 by omega], show markD D k0 (j + 1) = (fun i => if i = j then { (fun i => if i = j then { D j with kind := (q : Int) + 1, text := ⟨(markOf (q + 2)).toArray⟩, names := marks (q + 3), kids := fun i => ((q + 3 + (D j).nn + i : Nat) : Int) } else markD D k0 j i) j with turn := ((q + 3 + (D j).nn + (D j).kn : Nat) : Int) } else (fun i => if i = j then { D j with kind := (q : Int) + 1, text := ⟨(markOf (q + 2)).toArray⟩, names := marks (q + 3), kids := fun i => ((q + 3 + (D j).nn + i : Nat) : Int) } else markD D k0 j i) i) from by
          funext i
          by_cases e : i = j
          · subst e; simp [markD, markNd, HQ.out]
          · by_cases e2 : i < j
            · simp [markD, e, e2, show i < j + 1 by omega]
            · simp [markD, e, e2, show ¬ i < j + 1 by omega]]
        exact this⟩
      have HQ3 : Hid (kap D k0 (j + 1) = q + (4 + (D j).nn + (D j).kn)) := by show _ = _; rw [kap, HQ.out]
      clear hown6 hg6 hb6 hod6 c5 H5 HK5 c4' hq1 hq2 hq3
      go_wp2_with fail
      go_roundw
      case rel =>
        have h7 := H7.out
        rw [show ((q + 3 + (D j).nn + (D j).kn : Nat) : Int) = (q : Int) + 3 + ((D j).nn : Int) + ((D j).kn : Int) from by omega] at h7
        exact ⟨j + 1, by omega, by go_num, by rw [HQ3.out]; go_num, h7.1, h7.2⟩
      case measure => simp [intOf]; omega
    · obtain rfl : j = m := by omega
      have HR : Hid _ := And.intro hb hod
      clear hb hod
      go_wp2
      go_ret
      exact ⟨rfl, HR.out.1, HR.out.2⟩
end Go.Proofs.YtfdjfndpeeomkaaGreatDoor

/-
  What is kept and holds its marks is told to.
-/
namespace Go.Proofs.YtfdjfndpeeomkaaGreatDoor
open Go.RowKit Go.Deep
set_option linter.unusedVariables false
set_option linter.unusedSimpArgs false

theorem ownd_strs {w : World} {B n c : Nat} {a : Option Addr} {S : Nat → ByteArray} (h : w.ownsRow B 9 1 (.slice a n c) n (strv (lst n S))) : IsStrs w a n S := by
  by_cases hn : n = 0
  · exact Or.inl hn
  · obtain ⟨g, rfl, hg⟩ := owns_addr h (by omega)
    exact Or.inr ⟨g, 0, rfl, hg, fun i hi => by rw [Nat.zero_add, h.cellAt i (by omega)]; simp [strv, lst, hi]⟩

theorem ownd_ints {w : World} {B n c : Nat} {a : Option Addr} {Z : Nat → Int} (h : w.ownsRow B 3 1 (.slice a n c) n (intv0 n Z)) : IsInts w a n Z := by
  by_cases hn : n = 0
  · exact Or.inl hn
  · obtain ⟨g, rfl, hg⟩ := owns_addr h (by omega)
    exact Or.inr ⟨g, 0, rfl, hg, fun i hi => by rw [Nat.zero_add, h.cellAt i (by omega)]; simp [intv0, hi]⟩

theorem ownd_bools {w : World} {B n c : Nat} {a : Option Addr} {Z : Nat → Bool} (h : w.ownsRow B 4 1 (.slice a n c) n (boolv n Z)) : IsBools w a n Z := by
  by_cases hn : n = 0
  · exact Or.inl hn
  · obtain ⟨g, rfl, hg⟩ := owns_addr h (by omega)
    exact Or.inr ⟨g, 0, rfl, hg, fun i hi => by rw [Nat.zero_add, h.cellAt i (by omega)]; simp [boolv, hi]⟩

set_option maxRecDepth 100000 in
set_option maxHeartbeats 4000000 in
theorem heldItemS_own (ia : Option Addr) (m ic k0 B k : Nat) (Z : Nat → Bool) (O : Nat → Int) (D : Nat → Nd) (L : Nat → Loc) (lv : Value) (w : World) (h : OD w B k Z m (markO D k0 O m) (markD D k0 m) L lv (.slice ia m ic)) (hm : m ≤ 10) (hk1 : 1 ≤ k0) (hkap : kap D k0 m ≤ 90000000) (hsz : ∀ i, i < m → (D i).nn ≤ 1000000 ∧ (D i).kn ≤ 1000000) :
    Calls Tryz.prog 116 #[.slice ia m ic, .int .i64 k0] w fun e w' => e = .returned (.int .i64 (kap D k0 m : Nat)) ∧ Below w.heap.size w w' := by
  go_enter Tryz.func116, Tryz.ntmps116
  go_wp2
  go_loopw [1, 5] (fun kk i wr => ∃ j : Nat, j ≤ m ∧ i = .int .i64 j ∧ kk = .int .i64 (kap D k0 j : Nat) ∧ Below w.heap.size w wr) (fun _ i _ => m - (intOf i).toNat)
  case atStart => exact ⟨0, Nat.zero_le _, rfl, rfl, Below.refl _ _⟩
  case round =>
    obtain ⟨j, hj, rfl, rfl, hb⟩ := hrel
    by_cases hlt : j < m
    · have hod := h.below hb
      obtain ⟨g, rfl, hgl⟩ := owns_addr hod.ownI (by omega)
      have hlti : (j : Int) < (m : Int) := by omega
      have hq1 := kap_ge D k0 j
      have hq2 := kap_mono D k0 (show j + 1 ≤ m by omega)
      have hq3 : kap D k0 (j + 1) = kap D k0 j + (4 + (D j).nn + (D j).kn) := rfl
      obtain ⟨hs1, hs2⟩ := hsz j hlt
      have hOj : markO D k0 O m j = ((kap D k0 j : Nat) : Int) := by simp [markO, hlt]
      have hDj : markD D k0 m j = markNd (D j) (kap D k0 j) := by simp [markD, hlt]
      generalize hq : kap D k0 j = q at *
      have HQ : Hid (kap D k0 j = q) := hq
      clear hq
      have hqb : q ≤ 90000000 := by omega
      have HQ3 : Hid (kap D k0 (j + 1) = q + (4 + (D j).nn + (D j).kn)) := hq3
      have HC : Hid (∀ W, Below wr.heap.size wr W → W.cell? ⟨g, j * 6, none⟩ = some (.int .i64 (q : Int)) ∧ W.cell? ⟨g, j * 6 + 1, none⟩ = some (.int .i64 ((q : Int) + 1)) ∧ W.cell? ⟨g, j * 6 + 2, none⟩ = some (.string ⟨(markOf (q + 2)).toArray⟩) ∧
        W.cell? ⟨g, j * 6 + 3, none⟩ = some (.slice (L j).nA (D j).nn (L j).nc) ∧ W.cell? ⟨g, j * 6 + 4, none⟩ = some (.slice (L j).kA (D j).kn (L j).kc) ∧ W.cell? ⟨g, j * 6 + 5, none⟩ = some (.int .i64 ((q : Int) + 3 + ((D j).nn : Int) + ((D j).kn : Int))) ∧
        IsStrs W (L j).nA (D j).nn (marks (q + 3)) ∧ IsInts W (L j).kA (D j).kn (fun i => ((q + 3 + (D j).nn + i : Nat) : Int)) ∧ Below w.heap.size w W) := fun W hW => by
        have hod2 := hod.below hW
        obtain ⟨c0, c1, c2, c3, c4, c5⟩ := hod2.cells hlt
        have hn := hod2.ownN hlt
        have hk := hod2.ownK hlt
        rw [hOj] at c0
        rw [hDj] at c1 c2 c3 c4 c5 hn hk
        refine ⟨c0, ?_, c2, c3, c4, ?_, ownd_strs hn, ownd_ints hk, hb.trans (hW.mono hb.size)⟩
        · rw [c1]; simp [markNd]
        · rw [c5]; simp [markNd]
      clear hod hb hOj hDj hq1 hq2 hq3
      obtain ⟨c0, c1, c2, c3, c4, c5, _, _, _⟩ := HC.out wr (Below.refl _ _)
      have z0 : ((q : Int) != (q : Int)) = false := by simp
      have z1 : ((q : Int) + 1 != (q : Int) + 1) = false := by simp
      have C2 := Lat.cell (B := wr.heap.size) c2 hgl
      have hcall : Hid (∀ nq : Lat wr.heap.size wr, Calls Tryz.prog 73 #[.int .i64 ((q : Int) + 1 + 1)] nq.val fun e w'' => e = .returned (.string ⟨(markOf (q + 2)).toArray⟩) ∧ ∃ m : Lat wr.heap.size wr, w'' = m.val) := fun nq => by
        have := Calls.lat_of (markText_any (q + 2) nq.val (by omega) (by omega)) (B := wr.heap.size) (w0 := wr) (fun e w' h => ⟨h.1, h.2.mono nq.bel.size⟩)
        rw [show ((q : Int) + 1 + 1) = ((q + 2 : Nat) : Int) from by omega]
        exact this
      have z2 : (!((⟨(markOf (q + 2)).toArray⟩ : ByteArray).toList == (⟨(markOf (q + 2)).toArray⟩ : ByteArray).toList)) = false := by simp
      go_wp2_with fail
      refine wp_region_lat (B := wr.heap.size) (w0 := wr) (by kernel_rfl) (by kernel_rfl) (Below.refl _ _) ?_
      repeat (go_big_quiet_step (exact hcall.out _))
      refine wpQuiet_nil ?_
      rintro _ ⟨nq, rfl⟩
      clear hcall C2 c0 c1 c2 c3 c4 c5
      obtain ⟨_, _, _, c3, c4, c5, hs3, _, _⟩ := HC.out nq.val nq.bel
      go_wp2_with fail
      rw [show (q : Int) + 1 + 1 + 1 = ((q + 3 : Nat) : Int) from by omega]
      refine (heldStringS_any (L j).nA (D j).nn (L j).nc (q + 3) nq.val hs3 (by omega) (by omega) (by omega)).mono ?_
      rintro e W4 ⟨rfl, hb4⟩
      have hb4' : Below wr.heap.size wr W4 := nq.bel.trans (hb4.mono nq.bel.size)
      clear c3 c4 c5 hs3 hb4
      obtain ⟨_, _, _, _, c4, c5, _, hi4, hbw⟩ := HC.out W4 hb4'
      have y1 : decide (((q + 3 + (D j).nn : Nat) : Int) < 0) = false := by simp; omega
      have HB4 : Hid (Below w.heap.size w W4) := hbw
      clear hbw hb4' HC
      go_wp2_with fail
      refine (heldIntS_own (L j).kA (D j).kn (L j).kc (q + 3 + (D j).nn) W4 hi4 (by omega) (by omega)).mono ?_
      rintro e W5 ⟨rfl, rfl⟩
      have y2 : decide (((q + 3 + (D j).nn + (D j).kn : Nat) : Int) < 0) = false := by simp; omega
      have y3 : ((q : Int) + 3 + ((D j).nn : Int) + ((D j).kn : Int) != (q : Int) + 3 + ((D j).nn : Int) + ((D j).kn : Int)) = false := by simp
      clear hi4 y1
      go_wp2_with fail
      go_roundw
      case rel => exact ⟨j + 1, by omega, by go_num, by rw [HQ3.out]; go_num, HB4.out⟩
      case measure => simp [intOf]; omega
    · obtain rfl : j = m := by omega
      have HR : Hid _ := hb
      clear hb
      go_wp2
      go_ret
      exact ⟨rfl, HR.out⟩

set_option maxHeartbeats 2000000 in
theorem markDump_ownK (k0 : Nat) (hk1 : 1 ≤ k0) (hk2 : k0 ≤ 50000000) (la ia : Option Addr) (n lc m ic B : Nat) (since date : Int) (Z : Nat → Bool) (O : Nat → Int) (D : Nat → Nd) (L : Nat → Loc) (w : World) (h : OD w B n Z m O D L (.slice la n lc) (.slice ia m ic)) (hn : n ≤ 1048576) (hm : m ≤ 1048576) (hkap : kap D (k0 + n) m ≤ 90000000) (hsz : ∀ i, i < m → (D i).nn ≤ 1048576 ∧ (D i).kn ≤ 1048576) (hB : B ≤ w.heap.size) (H : Nat) (hH : ∀ d b, d < 2 + 2 * m → (valD (.slice la n lc) (.slice ia m ic) D L d).ownBlock = some b → b < H) :
    Calls Tryz.prog 18 #[.agg #[.int .i64 since, .int .i64 date, .slice la n lc, .slice ia m ic], .int .i64 (k0 : Int)] w fun e w' => e = .returned (.int .i64 (kap D (k0 + n) m : Nat)) ∧ Fr B H w w' ∧ OD w' B n (markB k0) m (markO D (k0 + n) O m) (markD D (k0 + n) m) L (.slice la n lc) (.slice ia m ic) := by
  go_enter Tryz.func18, Tryz.ntmps18
  go_wp2_with fail
  refine at_world (F := New1 w _ _) (new1 w _ _) ?_
  rintro W ⟨hp, hb, hs⟩
  have hod := h.below hb
  refine (markBoolS_own la n lc k0 B Z W hod.ownL (by omega) (by omega)).mono ?_
  rintro e W2 ⟨rfl, hown, hg⟩
  have hod2 := hod.turnLive hg hown
  have hne : (Value.slice la n lc).ownBlock ≠ some w.heap.size := fun e => by have := (owns_block h.ownL e).2; omega
  have hp2 : Blk W2 w.heap.size #[.int .i64 since, .int .i64 date, .slice la n lc, .slice ia m ic] 39 := hp.of_block (hg.block _ hp.lt (fun e => hne e.symm))
  have p3 : W2.cell? ⟨w.heap.size, 3, none⟩ = some (.slice ia m ic) := hp2.cell 3
  have H2 : Hid (Fr B H w W2 ∧ OD W2 B n (markB k0) m O D L (.slice la n lc) (.slice ia m ic)) := ⟨((Fr.refl B H w).below hB hb).grow hg (by omega) (fun b e => ⟨(owns_block hod.ownL e).1, hH 0 b (by omega) e⟩), hod2⟩
  clear hp hb hs hod hown hg hod2 hp2
  go_wp2_with fail
  rw [show (k0 : Int) + (n : Int) = ((k0 + n : Nat) : Int) from by omega]
  refine (markItemS_own H ia m ic (k0 + n) B n (markB k0) O D L (.slice la n lc) W2 H2.out.2 hm (by omega) hH hkap hsz).mono ?_
  rintro e W3 ⟨rfl, hb3, hod3⟩
  have H3 : Hid (Fr B H w W3 ∧ OD W3 B n (markB k0) m (markO D (k0 + n) O m) (markD D (k0 + n) m) L (.slice la n lc) (.slice ia m ic)) := ⟨H2.out.1.trans (by have := H2.out.1.bel.size; omega) hb3, hod3⟩
  clear hb3 hod3 p3
  go_wp2
  go_ret
  exact ⟨rfl, H3.out.1, H3.out.2⟩

theorem markDump_own (la ia : Option Addr) (n lc m ic B : Nat) (since date : Int) (Z : Nat → Bool) (O : Nat → Int) (D : Nat → Nd) (L : Nat → Loc) (w : World) (h : OD w B n Z m O D L (.slice la n lc) (.slice ia m ic)) (hn : n ≤ 10) (hm : m ≤ 10) (hkap : kap D (1 + n) m ≤ 90000000) (hsz : ∀ i, i < m → (D i).nn ≤ 1048576 ∧ (D i).kn ≤ 1048576) (hB : B ≤ w.heap.size) (H : Nat) (hH : ∀ d b, d < 2 + 2 * m → (valD (.slice la n lc) (.slice ia m ic) D L d).ownBlock = some b → b < H) :
    Calls Tryz.prog 18 #[.agg #[.int .i64 since, .int .i64 date, .slice la n lc, .slice ia m ic], .int .i64 1] w fun e w' => e = .returned (.int .i64 (kap D (1 + n) m : Nat)) ∧ Fr B H w w' ∧ OD w' B n (markB 1) m (markO D (1 + n) O m) (markD D (1 + n) m) L (.slice la n lc) (.slice ia m ic) :=
  markDump_ownK 1 (Nat.le_refl _) (by omega) la ia n lc m ic B since date Z O D L w h (by omega) (by omega) hkap hsz hB H hH

set_option maxHeartbeats 2000000 in
theorem heldDump_own (la ia : Option Addr) (n lc m ic B : Nat) (since date : Int) (O : Nat → Int) (D : Nat → Nd) (L : Nat → Loc) (w : World) (h : OD w B n (markB 1) m (markO D (1 + n) O m) (markD D (1 + n) m) L (.slice la n lc) (.slice ia m ic)) (hn : n ≤ 10) (hm : m ≤ 10) (hkap : kap D (1 + n) m ≤ 90000000) (hsz : ∀ i, i < m → (D i).nn ≤ 1000000 ∧ (D i).kn ≤ 1000000) :
    Calls Tryz.prog 86 #[.agg #[.int .i64 since, .int .i64 date, .slice la n lc, .slice ia m ic], .int .i64 1] w fun e w' => e = .returned (.int .i64 (kap D (1 + n) m : Nat)) ∧ Below w.heap.size w w' := by
  go_enter Tryz.func86, Tryz.ntmps86
  go_wp2_with fail
  refine at_world (F := New1 w _ _) (new1 w _ _) ?_
  rintro W ⟨hp, hb, hs⟩
  have hod := h.below hb
  refine (heldBoolS_own la n lc 1 W (ownd_bools hod.ownL) (by omega) (by omega)).mono ?_
  rintro e W2 ⟨rfl, rfl⟩
  have p3 : W2.cell? ⟨w.heap.size, 3, none⟩ = some (.slice ia m ic) := hp.cell 3
  have y1 : decide (((1 + n : Nat) : Int) < 0) = false := by simp; omega
  have H2 : Hid (Below w.heap.size w W2 ∧ OD W2 B n (markB 1) m (markO D (1 + n) O m) (markD D (1 + n) m) L (.slice la n lc) (.slice ia m ic)) := ⟨hb, hod⟩
  clear hp hb hs hod
  go_wp2_with fail
  rw [show (1 : Int) + (n : Int) = ((1 + n : Nat) : Int) from by omega]
  refine (heldItemS_own ia m ic (1 + n) B n (markB 1) O D L (.slice la n lc) W2 H2.out.2 hm (by omega) hkap hsz).mono ?_
  rintro e W3 ⟨rfl, hb3⟩
  have y2 : decide (((kap D (1 + n) m : Nat) : Int) < 0) = false := by simp
  have H3 : Hid (Below w.heap.size w W3) := H2.out.1.trans (hb3.mono H2.out.1.size)
  clear hb3 p3 y1
  go_wp2
  go_ret
  exact ⟨rfl, H3.out⟩
end Go.Proofs.YtfdjfndpeeomkaaGreatDoor

/-
  What DumpOf answers, said once for the specification and the program: one thing kept, in memory of its own.
-/
namespace Go.Proofs.YtfdjfndpeeomkaaGreatDoor
open Go.RowKit Go.Deep
set_option linter.unusedVariables false
set_option linter.unusedSimpArgs false

theorem OD.ext {W : World} {B k n : Nat} {Z : Nat → Bool} {O O' : Nat → Int} {D D' : Nat → Nd} {L : Nat → Loc} {lv iv : Value} (h : OD W B k Z n O D L lv iv) (he : ∀ i, i < n → O' i = O i ∧ D' i = D i) : OD W B k Z n O' D' L lv iv := by
  have hr : ∀ d, d < 2 + 2 * n → rowD k Z n O' D' L d = rowD k Z n O D L d := fun d hd => by
    unfold rowD
    by_cases e0 : d = 0
    · rw [if_pos e0, if_pos e0]
    · by_cases e1 : d = 1
      · rw [if_neg e0, if_pos e1, if_neg e0, if_pos e1, rowsI_ext n (fun i hi => ⟨(he i hi).1, (he i hi).2, rfl⟩)]
      · rw [if_neg e0, if_neg e1, if_neg e0, if_neg e1, (he ((d - 2) / 2) (by omega)).2]
  have hv : ∀ d, d < 2 + 2 * n → valD lv iv D' L d = valD lv iv D L d := fun d hd => by
    unfold valD
    by_cases e0 : d = 0
    · rw [if_pos e0, if_pos e0]
    · by_cases e1 : d = 1
      · rw [if_neg e0, if_pos e1, if_neg e0, if_pos e1]
      · rw [if_neg e0, if_neg e1, if_neg e0, if_neg e1, (he ((d - 2) / 2) (by omega)).2]
  exact ⟨⟨fun d hd => by rw [hr d hd, hv d hd]; exact h.rows.own d hd, fun d1 d2 g1 g2 hne b e1 e2 => by rw [hv d1 g1] at e1; rw [hv d2 g2] at e2; exact h.rows.apart d1 d2 g1 g2 hne b e1 e2⟩⟩

/-- Something kept, in memory of its own. -/
def OwnDp (W : World) (B : Nat) (d : Dp) (l : DLoc) : Prop := OD W B d.ln d.live d.m d.ino d.nd l.L (.slice l.lA d.ln l.lc) (.slice l.iA d.m l.ic)

theorem OwnDp.dpIn {W : World} {B : Nat} {d : Dp} {l : DLoc} (h : OwnDp W B d l) : DpIn W d l := by
  refine ⟨ownd_bools h.ownL, ?_⟩
  by_cases hm : d.m = 0
  · exact Or.inl hm
  · obtain ⟨g, hg, hgl⟩ := owns_addr h.ownI (by omega)
    refine Or.inr ⟨g, 0, hg, hgl, fun i hi => ?_⟩
    have h' : OD W B d.ln d.live d.m d.ino d.nd l.L (.slice l.lA d.ln l.lc) (.slice (some ⟨g, 0, none⟩) d.m l.ic) := by rw [← hg]; exact h
    obtain ⟨c0, c1, c2, c3, c4, c5⟩ := h'.cells hi
    rw [Nat.zero_add]
    exact ⟨c0, c1, c2, c3, c4, c5, ownd_strs (h.ownN hi), ownd_ints (h.ownK hi)⟩

/-- What is kept of a tree that is ok. -/
def dpOf (n : Nat) (D : Nat → Nd) (now since : Int) : Dp := ⟨since, now, n, fun i => (D i).kind != 0, (selTo D since n).length, fun i => ((selTo D since n).getD i 0 : Nat), fun i => D ((selTo D since n).getD i 0)⟩
/-- Nothing. -/
def dpNone : Dp := ⟨0, 0, 0, fun _ => false, 0, fun _ => 0, fun _ => ⟨0, ByteArray.empty, 0, fun _ => ByteArray.empty, 0, fun _ => 0, 0⟩⟩

theorem selTo_lt {D : Nat → Nd} {since : Int} {n i : Nat} (h : i < (selTo D since n).length) : (selTo D since n).getD i 0 < n := by
  have hm : (selTo D since n).getD i 0 ∈ selTo D since n := by
    rw [List.getD_eq_getElem?_getD, List.getElem?_eq_getElem h]
    exact List.getElem_mem h
  have := List.mem_filter.1 hm
  simpa using this.1

theorem ndOk_same {n : Nat} {D : Nat → Nd} {now : Int} {d : Nd} (h : ndOk n D now d = true) : d.kn = d.nn := by
  unfold ndOk at h
  split at h
  · unfold freeOk at h; simp at h; omega
  · split at h
    · unfold fileOk at h; simp at h; omega
    · split at h
      · unfold dirOk at h; simp at h; exact h.1.1.2.2
      · cases h

theorem kap_le {D : Nat → Nd} {k0 c : Nat} : ∀ m, (∀ i, i < m → (D i).nn + (D i).kn ≤ c) → kap D k0 m ≤ k0 + m * (4 + c)
  | 0, _ => by simp [kap]
  | m + 1, h => by
    have h1 := kap_le (D := D) (k0 := k0) m (fun i hi => h i (by omega))
    have h2 := h m (by omega)
    rw [kap, Nat.succ_mul]
    omega

/-- The bounds that an answer keeps. -/
structure DpSmall (d : Dp) : Prop where
  fits : d.Fits
  ln : d.ln ≤ 10
  m : d.m ≤ 10
  kap : kap d.nd (1 + d.ln) d.m ≤ 90000000
  nds : ∀ i, i < d.m → (d.nd i).nn ≤ 1000000 ∧ (d.nd i).kn ≤ 1000000

theorem dpNone_small : DpSmall dpNone :=
  ⟨⟨by unfold In64 dpNone; simp, by unfold In64 dpNone; simp, by unfold maxLen dpNone; simp, by unfold maxLen dpNone; simp, fun i hi => absurd hi (Nat.not_lt_zero _), fun i hi => absurd hi (Nat.not_lt_zero _)⟩, by simp [dpNone], by simp [dpNone], by simp [dpNone, kap], fun i hi => absurd hi (Nat.not_lt_zero _)⟩

theorem dpOf_small {n : Nat} {D : Nat → Nd} {now since : Int} (hg : TreeGood n D now) (hf : FitAll n D) (hsz : sizeTo D n ≤ 1048576) (h0 : 0 ≤ since) (h1 : since ≤ now) : DpSmall (dpOf n D now since) := by
  have hl := selTo_len D since n
  have hfew := hg.few
  have hsoon := hg.soon
  have hnd : ∀ i, i < (selTo D since n).length → ((D ((selTo D since n).getD i 0)).nn + (D ((selTo D since n).getD i 0)).kn ≤ 1048576) ∧ (D ((selTo D since n).getD i 0)).kn = (D ((selTo D since n).getD i 0)).nn := fun i hi => by
    have h2 := selTo_lt hi
    have h3 := size_le_sizeTo D n _ h2
    unfold Nd.size at h3
    exact ⟨by omega, ndOk_same (hg.nodes _ h2)⟩
  refine ⟨⟨?_, ?_, ?_, ?_, fun i hi => ?_, fun i hi => hf _ (selTo_lt hi)⟩, hfew, by show (selTo D since n).length ≤ 10; omega, ?_, fun i hi => ?_⟩
  · show In64 since; unfold In64; omega
  · show In64 now; unfold In64; omega
  · show n ≤ maxLen; unfold maxLen; omega
  · show (selTo D since n).length ≤ maxLen; unfold maxLen; omega
  · have := selTo_lt hi
    show In64 (((selTo D since n).getD i 0 : Nat) : Int)
    unfold In64
    omega
  · have h2 := kap_le (D := fun i => D ((selTo D since n).getD i 0)) (k0 := 1 + n) (c := 1048576) (selTo D since n).length (fun i hi => (hnd i hi).1)
    have h3 : (selTo D since n).length * (4 + 1048576) ≤ 10 * (4 + 1048576) := Nat.mul_le_mul_right _ (by omega)
    show kap (fun i => D ((selTo D since n).getD i 0)) (1 + n) (selTo D since n).length ≤ 90000000
    omega
  · have := hnd i hi
    exact ⟨by show (D ((selTo D since n).getD i 0)).nn ≤ 1000000; omega, by show (D ((selTo D since n).getD i 0)).kn ≤ 1000000; omega⟩

/-- One answer, whoever is asked. -/
theorem dump_ans (n : Nat) (D : Nat → Nd) (now since : Int) (hf : FitAll n D) (hsz : sizeTo D n ≤ 1048576) : ∃ (d : Dp) (ok : Bool), DpSmall d ∧ ∀ w e w', DumpOfPost w n D now since e w' → Below w.heap.size w w' ∧ ∃ l, e = .returned (.tuple #[dpV d l, .bool ok]) ∧ OwnDp w' w.heap.size d l := by
  by_cases hgo : TreeGood n D now ∧ 0 ≤ since ∧ since ≤ now
  · refine ⟨dpOf n D now since, true, dpOf_small hgo.1 hf hsz hgo.2.1 hgo.2.2, fun w e w' h => ⟨h.1, ?_⟩⟩
    rcases h.2 with ⟨hno, _⟩ | ⟨_, _, _, la, lc, m, ia, ic, O, E, M, he, hod, hsel⟩
    · exact absurd hgo hno
    · have hm := hsel.len
      subst hm
      exact ⟨⟨la, lc, ia, ic, M⟩, he, hod.ext (fun i hi => ⟨((hsel.each i hi).1).symm, ((hsel.each i hi).2).symm⟩)⟩
  · refine ⟨dpNone, false, dpNone_small, fun w e w' h => ⟨h.1, ?_⟩⟩
    rcases h.2 with ⟨_, he⟩ | ⟨h1, h2, h3, _⟩
    · exact ⟨⟨none, 0, none, 0, fun _ => ⟨none, 0, none, 0⟩⟩, he, OD.start _ _ _ _ _ _⟩
    · exact absurd ⟨h1, h2, h3⟩ hgo
end Go.Proofs.YtfdjfndpeeomkaaGreatDoor

/-
  Two things kept, made one: what it is, and what is held while it is made. Plain facts.
-/
namespace Go.Proofs.YtfdjfndpeeomkaaGreatDoor
open Go.RowKit Go.Deep
set_option linter.unusedVariables false
set_option linter.unusedSimpArgs false

theorem OD.sameAt2 {W W' : World} {B k : Nat} {Z : Nat → Bool} {m : Nat} {O : Nat → Int} {D : Nat → Nd} {L : Nat → Loc} {lv iv : Value} (h : OD W B k Z m O D L lv iv) (hw : ∀ d b, d < 2 + 2 * m → (valD lv iv D L d).ownBlock = some b → W'.heap[b]? = W.heap[b]?) : OD W' B k Z m O D L lv iv :=
  ⟨⟨fun d hl => owns_same (h.rows.own d hl) fun b hb => hw d b hl hb, h.rows.apart⟩⟩

/-- The number of a place among those that were turned: the last one, if there are several. -/
def ixOf (O : Nat → Int) : Nat → Int → Option Nat
  | 0, _ => none
  | k + 1, z => if z = O k then some k else ixOf O k z

theorem ixOf_some {O : Nat → Int} {z : Int} : ∀ {m i : Nat}, ixOf O m z = some i → i < m ∧ O i = z
  | 0, i, h => by cases h
  | m + 1, i, h => by
    unfold ixOf at h
    split at h
    · rename_i e; cases h; exact ⟨by omega, e.symm⟩
    · have := ixOf_some h; exact ⟨by omega, this.2⟩

theorem ixOf_none {O : Nat → Int} {z : Int} : ∀ {m : Nat}, ixOf O m z = none → ∀ i, i < m → O i ≠ z
  | 0, _, i, hi => by omega
  | m + 1, h, i, hi => by
    unfold ixOf at h
    split at h
    · cases h
    · rename_i e
      by_cases hm : i = m
      · subst hm; exact fun e' => e e'.symm
      · exact ixOf_none h i (by omega)

/-- Where numbers ascend there is one. -/
theorem ixOf_one {O : Nat → Int} {z : Int} {m i : Nat} (hinj : ∀ i j, i < m → j < m → O i = O j → i = j) (hi : i < m) (h : O i = z) : ixOf O m z = some i := by
  cases e : ixOf O m z with
  | none => exact absurd h (ixOf_none e i hi)
  | some j =>
    obtain ⟨h1, h2⟩ := ixOf_some e
    rw [hinj j i h1 hi (h2.trans h.symm)]

theorem learn_ix (f : Int → Option Value) (O : Nat → Int) (E : Nat → Nd) (L : Nat → Loc) (z : Int) : ∀ m, learn f O E L m z = match ixOf O m z with | some i => some (ndV (E i) (L i)) | none => f z
  | 0 => rfl
  | m + 1 => by
    unfold learn ixOf
    split
    · rfl
    · exact learn_ix f O E L z m

/-- What is kept of a place by the two: of the second, else, if it is there, of the first. -/
def thenNd (a b : Dp) (z : Int) : Option Nd :=
  match ixOf b.ino b.m z with
  | some k => some (b.nd k)
  | none => if b.live z.toNat then (ixOf a.ino a.m z).map a.nd else none

def thenSel (a b : Dp) (k : Nat) : List Nat := (List.range k).filter fun i => (thenNd a b (i : Int)).isSome
theorem thenSel_yes {a b : Dp} {k : Nat} (h : (thenNd a b (k : Int)).isSome = true) : thenSel a b (k + 1) = thenSel a b k ++ [k] := by simp [thenSel, List.range_succ, List.filter_append, h]
theorem thenSel_no {a b : Dp} {k : Nat} (h : (thenNd a b (k : Int)).isSome = false) : thenSel a b (k + 1) = thenSel a b k := by simp [thenSel, List.range_succ, List.filter_append, h]
theorem thenSel_len (a b : Dp) (k : Nat) : (thenSel a b k).length ≤ k := by
  have := List.length_filter_le (fun i => (thenNd a b ((i : Nat) : Int)).isSome) (List.range k)
  simpa [thenSel] using this

/-- The one. -/
def thenDp (a b : Dp) : Dp := ⟨a.since, b.date, b.ln, b.live, (thenSel a b b.ln).length, fun i => ((thenSel a b b.ln).getD i 0 : Nat), fun i => ((thenNd a b ((thenSel a b b.ln).getD i 0 : Nat)).getD ⟨0, ByteArray.empty, 0, fun _ => ByteArray.empty, 0, fun _ => 0, 0⟩)⟩

/-- They can be made one. -/
def thenOk (a b : Dp) : Bool := a.ok && b.ok && (a.date == b.since) && (thenDp a b).ok

/-- What it answers. -/
def ThenPost (w : World) (a b : Dp) (e : Ending) (w' : World) : Prop :=
  Below w.heap.size w w' ∧ ((thenOk a b = false ∧ e = .returned (.tuple #[.agg #[.int .i64 0, .int .i64 0, .slice none 0 0, .slice none 0 0], .bool false])) ∨
    (thenOk a b = true ∧ ∃ l, e = .returned (.tuple #[dpV (thenDp a b) l, .bool true]) ∧ OwnDp w' w.heap.size (thenDp a b) l))

/-- Of something that is ok: numbers ascend, and each is there. -/
theorem ok_asc {d : Dp} (h : d.ok = true) : ∀ j i, i < j → j < d.m → d.ino i < d.ino j
  | 0, i, hi, _ => by omega
  | j + 1, i, hi, hj => by
    unfold Dp.ok at h
    rw [Bool.and_eq_true] at h
    have hs := List.all_eq_true.1 h.2 (j + 1) (by simpa using hj)
    unfold stepIn at hs
    simp at hs
    by_cases e : i = j
    · subst e; exact hs.2
    · have := ok_asc (d := d) (by unfold Dp.ok; rw [Bool.and_eq_true]; exact h) j i (by omega) (by omega)
      omega

theorem ok_inj {d : Dp} (h : d.ok = true) : ∀ i j, i < d.m → j < d.m → d.ino i = d.ino j → i = j := fun i j hi hj e => by
  rcases Nat.lt_trichotomy i j with g | g | g
  · have := ok_asc h j i g hj; omega
  · exact g
  · have := ok_asc h i j g hi; omega

theorem ok_live {d : Dp} (h : d.ok = true) {i : Nat} (hi : i < d.m) : 0 ≤ d.ino i ∧ d.ino i < d.ln ∧ d.live (d.ino i).toNat = true := by
  unfold Dp.ok at h
  rw [Bool.and_eq_true] at h
  have hs := List.all_eq_true.1 h.2 i (by simpa using hi)
  unfold stepIn itIn liveIn at hs
  simp only [Bool.and_eq_true, decide_eq_true_eq] at hs
  exact ⟨hs.1.1.1.1.1, hs.1.1.1.1.2, hs.1.1.1.2⟩

/-- What is held while it is made: X are blocks that are kept as they were in W0. -/
structure GOf (w W0 : World) (B : Nat) (X : Nat → Prop) (since date : Int) (n : Nat) (Z : Nat → Bool) (V : Nat) (la : Option Addr) (lc m : Nat) (ia : Option Addr) (ic : Nat) (O : Nat → Int) (E : Nat → Nd) (M : Nat → Loc) (W : World) : Prop where
  v : Blk W V #[.int .i64 since, .int .i64 date, .slice la n lc, .slice ia m ic] 39
  bel : Below w.heap.size w W
  kept : ∀ b, X b → W.heap[b]? = W0.heap[b]?
  lt : ∀ b, X b → b < W.heap.size
  nv : ¬ X V
  far : w.heap.size ≤ V
  base : w.heap.size ≤ B
  od : OD W B n Z m O E M (.slice la n lc) (.slice ia m ic)
  off : ∀ d b, d < 2 + 2 * m → (valD (.slice la n lc) (.slice ia m ic) E M d).ownBlock = some b → ¬ X b ∧ b ≠ V

section
variable {w W0 : World} {B : Nat} {X : Nat → Prop} {since date : Int} {n : Nat} {Z : Nat → Bool} {V : Nat} {la : Option Addr} {lc m : Nat} {ia : Option Addr} {ic : Nat} {O : Nat → Int} {E : Nat → Nd} {M : Nat → Loc} {W W1 W' : World}

theorem GOf.below (h : GOf w W0 B X since date n Z V la lc m ia ic O E M W) (hb : Below W.heap.size W W') : GOf w W0 B X since date n Z V la lc m ia ic O E M W' :=
  ⟨h.v.below hb h.v.lt, h.bel.trans (hb.mono h.bel.size), fun b hX => (hb.block b (h.lt b hX)).trans (h.kept b hX), fun b hX => Nat.lt_of_lt_of_le (h.lt b hX) hb.size, h.nv, h.far, h.base, h.od.below hb, h.off⟩

/-- One place more, stored. -/
theorem GOf.item (h : GOf w W0 B X since date n Z V la lc m ia ic O E M W) {x : Nd} {o : Int} {l : Loc} (hN : NewNn W x l W1) (hB : B ≤ W.heap.size) {b c' : Nat} (hg : W1.grownBy W' (Value.slice ia m ic).ownBlock)
    (hown : W'.ownsRow B 133 6 (.slice (some ⟨b, 0, none⟩) (m + 1) c') (m + 1) (rowsI O E M m ++ it6 o x l)) (hb : (Value.slice ia m ic).ownBlock = some b ∨ W1.heap.size ≤ b) :
    GOf w W0 B X since date n Z V la lc (m + 1) (some ⟨b, 0, none⟩) c' (fun i => if i = m then o else O i) (fun i => if i = m then x else E i) (fun i => if i = m then l else M i) (W'.setCell ⟨V, 3, none⟩ (.slice (some ⟨b, 0, none⟩) (m + 1) c')) := by
  have h1 := h.below hN.bel
  have hfar := h.far
  have hbase := h.base
  have hsz := hN.bel.size
  have hof : ∀ j, (Value.slice ia m ic).ownBlock = some j → B ≤ j ∧ j < W.heap.size ∧ ¬ X j ∧ j ≠ V := fun j e => ⟨(owns_block h.od.ownI e).1, (owns_block h.od.ownI e).2, h.off 1 j (by omega) (by simpa [valD] using e)⟩
  have hVl := h.v.lt
  have hbel : Below w.heap.size w W' := h1.bel.grown hg h1.bel.size (fun j e => by have := (hof j e).1; omega)
  have hbV : b ≠ V := fun e => by
    rcases hb with h2 | h2
    · exact (hof b h2).2.2.2 e
    · omega
  have hbX : ¬ X b := fun e => by
    rcases hb with h2 | h2
    · exact (hof b h2).2.2.1 e
    · have := h.lt b e; omega
  have hoff : ∀ d b', d < 2 + 2 * (m + 1) → (valD (.slice la n lc) (.slice (some ⟨b, 0, none⟩) (m + 1) c') (fun i => if i = m then x else E i) (fun i => if i = m then l else M i) d).ownBlock = some b' → ¬ X b' ∧ b' ≠ V := fun d b' hd hv => by
    by_cases e1 : d = 1
    · subst e1
      have e : b = b' := by simpa [valD, Value.ownBlock] using hv
      exact e ▸ ⟨hbX, hbV⟩
    · by_cases e0 : d = 0
      · subst e0
        exact h.off 0 b' (by omega) (by simpa [valD] using hv)
      · unfold valD at hv
        rw [if_neg e0, if_neg e1] at hv
        by_cases hm : (d - 2) / 2 = m
        · simp only [hm, if_true] at hv
          have hfr : W.heap.size ≤ b' := by
            split at hv
            · exact (owns_block hN.names hv).1
            · exact (owns_block hN.kids hv).1
          exact ⟨fun e => by have := h.lt b' e; omega, by omega⟩
        · simp only [hm, if_false] at hv
          exact h.off d b' (by omega) (by unfold valD; rw [if_neg e0, if_neg e1]; exact hv)
  have hod := h.od.item (W' := W') hN hB hg hown (fun b' e => by simp [Value.ownBlock] at e; rw [← e]; exact hb)
  refine ⟨(blk_grown h1.v hg (fun e => (hof V e).2.2.2 rfl)).set 3 _, bel_put hbel _ hfar, fun b' hX => ?_, fun b' hX => ?_, h.nv, hfar, hbase, ?_, hoff⟩
  · have hXV : b' ≠ V := fun e => h.nv (e ▸ hX)
    exact (blk_setCell_other _ _ _ _ (show b' ≠ V from hXV)).trans ((hg.block b' (h1.lt b' hX) (fun e => (hof b' e.symm).2.2.1 hX)).trans (h1.kept b' hX))
  · have := h1.lt b' hX
    have h3 := hg.size
    simp
    omega
  · exact hod.sameAt2 fun d b' hd hv => blk_setCell_other _ _ _ _ (by show b' ≠ V; exact (hoff d b' hd hv).2)
end
end Go.Proofs.YtfdjfndpeeomkaaGreatDoor

/-
  What turnedSince yields to whoever ranges over it: the places that were turned, in order; all of them, or the first ones, where a round has said that it wants no more.
-/
namespace Go.Proofs.YtfdjfndpeeomkaaGreatDoor
open Go.RowKit Go.Shelf
set_option linter.unusedVariables false
set_option linter.unusedSimpArgs false
attribute [local go_sem] Oper.semAt_some

/-- Those of the first k that were turned since. -/
def selT (D : Nat → Nd) (since : Int) (k : Nat) : List Nat := (List.range k).filter fun i => decide (since < (D i).turn)
theorem selT_yes {D : Nat → Nd} {since : Int} {k : Nat} (h : since < (D k).turn) : selT D since (k + 1) = selT D since k ++ [k] := by simp [selT, List.range_succ, List.filter_append, h]
theorem selT_no {D : Nat → Nd} {since : Int} {k : Nat} (h : ¬ since < (D k).turn) : selT D since (k + 1) = selT D since k := by simp [selT, List.range_succ, List.filter_append, h]
theorem selT_pre (D : Nat → Nd) (since : Int) {k n : Nat} (h : k ≤ n) : selT D since k <+: selT D since n := by
  induction h with
  | refl => exact List.prefix_refl _
  | step h ih =>
    rename_i m
    by_cases hm : since < (D m).turn
    · rw [selT_yes hm]; exact ih.trans (List.prefix_append _ _)
    · rw [selT_no hm]; exact ih

/-- What a round keeps: the blocks that the function reads. -/
def KeepsTwo (S b : Nat) (W W' : World) : Prop := W'.heap[S]? = W.heap[S]? ∧ W'.heap[b]? = W.heap[b]?

end Go.Proofs.YtfdjfndpeeomkaaGreatDoor

/-
  A statement whose order is drawn, within a round of a range over a function: it is walked as anywhere else. Plain laws.
-/
namespace Go.Proofs.YtfdjfndpeeomkaaGreatDoor
open Go.RowKit
set_option linter.unusedVariables false

section
variable {P : Program} {md : Region.Mode} {Q : Exit → Act → World → Prop} {ops : Array Oper} {l n : Nat}

def noDefer (o : Oper) : Bool := match o.op with | .defer _ => false | _ => true

theorem oper_round {o : Oper} {a : Act} {w : World} {K : Act → World → Prop} (hd : noDefer o = true) (h : o.wp P a w K Q) : o.wpIn (Fence.wide.inRound l) n P a w K Q := by
  have hd' : ∀ c, o.op ≠ .defer c := fun c e => by simp [noDefer, e] at hd
  unfold Oper.wpIn
  refine ⟨fun _ _ => trivial, ?_⟩
  rw [Oper.semAt_eq _ _ _ hd']
  unfold Oper.wp at h
  generalize (execOp a.eval o).run P w = r at *
  cases r with
  | ok x w' =>
    cases x with
    | value v => exact h
    | skip => exact h
    | defer d => exact h
    | enter f args => exact ⟨fun e => by simp [Fence.wide] at e, CallsIn.inRound l (callsIn_wide.2 h)⟩
    | row row args => exact ⟨fun e => by simp [Fence.wide] at e, fun c cs _ => let ⟨v, w', r, s⟩ := h c cs; ⟨v, w', r, stepsIn_wide.2 s⟩⟩
    | _ => exact absurd h (by simp [Oper.upon])
  | halt x w' =>
    cases x <;> first | exact h | exact absurd h (by simp [Oper.upon])

theorem wpAnyIn_of_any (hd : ∀ o ∈ ops.toList, noDefer o = true) (hQ : ¬ LetsOut Q) : ∀ (fuel : Nat) (listed : Array Bool) (a : Act) (w : World), wpAny P md ops Q fuel listed a w → wpAnyIn (Fence.wide.inRound l) n P md ops Q fuel listed a w
  | 0, _, _, _, h => h
  | fuel + 1, listed, a, w, h => ⟨h.1, fun i hi => by
    have h1 := h.2 i hi
    unfold wpOp at h1
    unfold wpOpIn
    cases ho : ops[i]? with
    | none => simp only [ho] at h1 ⊢; exact wpAnyIn_of_any hd hQ fuel _ a w h1
    | some o =>
      have hdo : noDefer o = true := hd o (by have := Array.mem_of_getElem? ho; simpa using this)
      simp only [ho] at h1 ⊢
      by_cases hw : Region.wanted o (yielded ops a.tmps) = true
      · rw [if_pos hw] at h1 ⊢
        rcases h1 with h1 | ⟨_, h1⟩
        · exact Oper.wpIn_mono (fun a w h => wpAnyIn_of_any hd hQ fuel _ a w h) (oper_round hdo h1)
        · exact absurd h1 hQ
      · rw [if_neg hw] at h1 ⊢
        exact ⟨fun _ _ => trivial, wpAnyIn_of_any hd hQ fuel _ _ w h1⟩⟩

theorem wpIn_region_peel {id : Nat} {a : Act} {w : World} (S : World → Prop) (o : Oper) (hm : P.follows .mixedOrders = true) (hd : (ops.toList.all noDefer) = true) (hQ : ¬ LetsOut Q) (hb : ops.back? = some o) (hok : peelOk .any ops.pop o = true)
    (hS : S w.drew) (h : S w.drew → wpAnyH P .any ops.pop (Peel P o Q) S ops.pop.size (Array.replicate ops.pop.size false) a w.drew) : (Code.region id ops true).wpIn (Fence.wide.inRound l) n P Q a w := by
  refine wpIn_region_any hm (wpAnyIn_of_any (List.all_eq_true.1 hd) hQ _ _ _ _ ?_)
  have hp := push_pop hb
  have := wpAny_peel (Q := Q) (P := P) (peelOk_spec hok) ops.pop.size (Array.replicate ops.pop.size false) a w.drew ⟨by simp, fun j oj hj hl e he hbn => by
    rw [Array.getD_eq_getD_getElem?, Array.getElem?_replicate] at hl
    split at hl <;> cases hl⟩ (wpAny_of_held _ _ _ _ (h hS))
  have e1 : (Array.replicate ops.pop.size false).push false = Array.replicate ops.size false := by
    rw [← hp]; simp [Array.replicate_succ]
  have e2 : ops.pop.size + 1 = ops.size := by rw [← hp]; simp
  rw [hp, e1, e2] at this
  exact this
end
end Go.Proofs.YtfdjfndpeeomkaaGreatDoor

/-
  What DumpOf of the program holds between two rounds. Plain facts.
-/
namespace Go.Proofs.YtfdjfndpeeomkaaGreatDoor
open Go.RowKit Go.Deep Go.Shelf
set_option linter.unusedVariables false
set_option linter.unusedSimpArgs false

theorem OD.sameAt {W W' : World} {B k : Nat} {Z : Nat → Bool} {m : Nat} {O : Nat → Int} {D : Nat → Nd} {L : Nat → Loc} {lv iv : Value} (h : OD W B k Z m O D L lv iv) (hw : ∀ d b, d < 2 + 2 * m → (valD lv iv D L d).ownBlock = some b → W'.heap[b]? = W.heap[b]?) : OD W' B k Z m O D L lv iv :=
  ⟨⟨fun d hl => owns_same (h.rows.own d hl) fun b hb => hw d b hl hb, h.rows.apart⟩⟩

theorem owns_cells {W : World} {B : Nat} {e : TypeId} {size k : Nat} {v : Value} {xs : List Value} (h : W.ownsRow B e size v k xs) : ∀ (j : Nat) (o : Obj), v.ownBlock = some j → W.heap[j]? = some o → o.isCells = true := by
  intro j o ej hj
  rcases h.2 with ⟨rfl, _⟩ | ⟨g, cap, cur, rfl, _, hgb, _⟩
  · simp [Value.ownBlock] at ej
  · obtain rfl : g = j := by simpa [Value.ownBlock] using ej
    rw [hgb] at hj; cases hj; rfl

/-- What is known between two rounds: X are blocks of the caller's that are no rows. -/
structure IOf (w : World) (X : Nat → Prop) (a : Option Addr) (n c : Nat) (now since : Int) (Z : Nat → Bool) (V : Nat) (la : Option Addr) (lc m : Nat) (ia : Option Addr) (ic : Nat) (O : Nat → Int) (E : Nat → Nd) (M : Nat → Loc) (W : World) : Prop where
  p : Blk W w.heap.size #[.slice a n c, .int .i64 now] 33
  r : Blk W (w.heap.size + 1) #[.int .i64 0, .int .i64 0, .slice none 0 0, .slice none 0 0] 39
  v : Blk W V #[.int .i64 since, .int .i64 now, .slice la n lc, .slice ia m ic] 39
  bel : Below w.heap.size w W
  far : w.heap.size + 2 ≤ V
  od : OD W (w.heap.size + 2) n Z m O E M (.slice la n lc) (.slice ia m ic)
  off : ∀ d b, d < 2 + 2 * m → (valD (.slice la n lc) (.slice ia m ic) E M d).ownBlock = some b → ¬ X b ∧ b ≠ V
  lt : ∀ b, X b → b < W.heap.size

section
variable {w : World} {X : Nat → Prop} {a : Option Addr} {n c : Nat} {now since : Int} {Z : Nat → Bool} {V : Nat} {la : Option Addr} {lc m : Nat} {ia : Option Addr} {ic : Nat} {O : Nat → Int} {E : Nat → Nd} {M : Nat → Loc} {W W1 W' : World}

theorem IOf.below (h : IOf w X a n c now since Z V la lc m ia ic O E M W) (hb : Below W.heap.size W W') : IOf w X a n c now since Z V la lc m ia ic O E M W' :=
  ⟨h.p.below hb h.p.lt, h.r.below hb h.r.lt, h.v.below hb h.v.lt, h.bel.trans (hb.mono (by have := h.p.lt; omega)), h.far, h.od.below hb, h.off, fun b hX => Nat.lt_of_lt_of_le (h.lt b hX) hb.size⟩

theorem IOf.more {Y : Nat → Prop} (h : IOf w X a n c now since Z V la lc m ia ic O E M W) (hY : ∀ b, Y b → (X b ∨ W.heap.size ≤ b) ∧ b < W'.heap.size) (hb : Below W.heap.size W W') : IOf w Y a n c now since Z V la lc m ia ic O E M W' :=
  ⟨h.p.below hb h.p.lt, h.r.below hb h.r.lt, h.v.below hb h.v.lt, h.bel.trans (hb.mono (by have := h.p.lt; omega)), h.far, h.od.below hb, fun d b hd hv => ⟨fun hy => by
    rcases (hY b hy).1 with e | e
    · exact (h.off d b hd hv).1 e
    · have := (owns_block (h.od.rows.own d hd) hv).2; omega, (h.off d b hd hv).2⟩, fun b hy => (hY b hy).2⟩

/-- Blocks that are no cells may turn. -/
theorem IOf.turned {row : Option Nat} {B : Nat} (h : IOf w X a n c now since Z V la lc m ia ic O E M W) (hg : W.grownBy W' row) (hB : w.heap.size ≤ B) (hr : ∀ r, row = some r → B ≤ r ∧ ∃ o : Obj, W.heap[r]? = some o ∧ o.isCells = false) : IOf w X a n c now since Z V la lc m ia ic O E M W' := by
  have kb : ∀ {b : Nat} {cs : Array Value} {t : TypeId}, Blk W b cs t → Blk W' b cs t := fun {b cs t} hb => blk_grown hb hg (fun e => by
    obtain ⟨_, o, ho, hc⟩ := hr b e
    rw [hb] at ho
    cases ho
    cases hc)
  refine ⟨kb h.p, kb h.r, kb h.v, h.bel.grown hg h.bel.size (fun k e => by have := (hr k e).1; omega), h.far, h.od.sameAt (fun d b hd hv => hg.block b (owns_block (h.od.rows.own d hd) hv).2 (fun e => ?_)), h.off, fun b hX => Nat.lt_of_lt_of_le (h.lt b hX) hg.size⟩
  obtain ⟨_, o, ho, hc⟩ := hr b e.symm
  have := owns_cells (h.od.rows.own d hd) b o hv ho
  rw [this] at hc
  cases hc

/-- One place that was turned more, stored. -/
theorem IOf.item (h : IOf w X a n c now since Z V la lc m ia ic O E M W) {x : Nd} {o : Int} {l : Loc} (hN : NewNn W x l W1) {b c' : Nat} (hg : W1.grownBy W' (Value.slice ia m ic).ownBlock)
    (hown : W'.ownsRow (w.heap.size + 2) 133 6 (.slice (some ⟨b, 0, none⟩) (m + 1) c') (m + 1) (rowsI O E M m ++ it6 o x l)) (hb : (Value.slice ia m ic).ownBlock = some b ∨ W1.heap.size ≤ b) :
    IOf w X a n c now since Z V la lc (m + 1) (some ⟨b, 0, none⟩) c' (fun i => if i = m then o else O i) (fun i => if i = m then x else E i) (fun i => if i = m then l else M i) (W'.setCell ⟨V, 3, none⟩ (.slice (some ⟨b, 0, none⟩) (m + 1) c')) := by
  have h1 := h.below hN.bel
  have hfar := h.far
  have hsz := hN.bel.size
  have hof : ∀ j, (Value.slice ia m ic).ownBlock = some j → w.heap.size + 2 ≤ j ∧ j < W.heap.size ∧ ¬ X j ∧ j ≠ V := fun j e => ⟨(owns_block h.od.ownI e).1, (owns_block h.od.ownI e).2, h.off 1 j (by omega) (by simpa [valD] using e)⟩
  have hne : ∀ j, j ≤ w.heap.size + 1 ∨ j = V → (Value.slice ia m ic).ownBlock ≠ some j := fun j hj e => by
    obtain ⟨h2, _, _, h3⟩ := hof j e
    rcases hj with h4 | h4
    · omega
    · exact h3 h4
  have hVl := h.v.lt
  have hbel : Below w.heap.size w W' := h1.bel.grown hg (by have := h1.bel.size; omega) (fun j e => by have := (hof j e).1; omega)
  have hbV : b ≠ V := fun e => by
    rcases hb with h2 | h2
    · exact (hof b h2).2.2.2 e
    · omega
  have hbX : ¬ X b := fun e => by
    rcases hb with h2 | h2
    · exact (hof b h2).2.2.1 e
    · have := h.lt b e; omega
  have hoff : ∀ d b', d < 2 + 2 * (m + 1) → (valD (.slice la n lc) (.slice (some ⟨b, 0, none⟩) (m + 1) c') (fun i => if i = m then x else E i) (fun i => if i = m then l else M i) d).ownBlock = some b' → ¬ X b' ∧ b' ≠ V := fun d b' hd hv => by
    by_cases e1 : d = 1
    · subst e1
      have e : b = b' := by simpa [valD, Value.ownBlock] using hv
      exact e ▸ ⟨hbX, hbV⟩
    · by_cases e0 : d = 0
      · subst e0
        exact h.off 0 b' (by omega) (by simpa [valD] using hv)
      · unfold valD at hv
        rw [if_neg e0, if_neg e1] at hv
        by_cases hm : (d - 2) / 2 = m
        · simp only [hm, if_true] at hv
          have hfr : W.heap.size ≤ b' := by
            split at hv
            · exact (owns_block hN.names hv).1
            · exact (owns_block hN.kids hv).1
          exact ⟨fun e => by have := h.lt b' e; omega, by omega⟩
        · simp only [hm, if_false] at hv
          exact h.off d b' (by omega) (by unfold valD; rw [if_neg e0, if_neg e1]; exact hv)
  have hod := h.od.item (W' := W') hN (by have := h.p.lt; omega) hg hown (fun b' e => by simp [Value.ownBlock] at e; rw [← e]; exact hb)
  refine ⟨(blk_grown h1.p hg (hne _ (by omega))).off _ (by omega), (blk_grown h1.r hg (hne _ (by omega))).off _ (by omega), (blk_grown h1.v hg (hne _ (Or.inr rfl))).set 3 _, bel_put hbel _ (by omega), hfar, ?_, hoff, fun b' hX => ?_⟩
  · exact hod.sameAt fun d b' hd hv => blk_setCell_other _ _ _ _ (by show b' ≠ V; exact (hoff d b' hd hv).2)
  · have := h.lt b' hX
    have h3 := hg.size
    simp
    omega

/-- What the step leaves of other blocks. -/
theorem IOf.keep (h : IOf w X a n c now since Z V la lc m ia ic O E M W) {x : Nd} {l : Loc} (hN : NewNn W x l W1) {v : Value} (hg : W1.grownBy W' (Value.slice ia m ic).ownBlock) {s : Nat} (hs : X s ∨ s < w.heap.size) (hsV : s ≠ V) (hsl : s < W.heap.size) : (W'.setCell ⟨V, 3, none⟩ v).heap[s]? = W.heap[s]? := by
  have h2 := hN.bel.size
  refine (blk_setCell_other _ _ _ _ (show s ≠ V from hsV)).trans ((hg.block s (by omega) (fun e => ?_)).trans (hN.bel.block s hsl))
  have h3 := h.off 1 s (by omega) (by simpa [valD] using e.symm)
  have h4 := (owns_block h.od.ownI e.symm).1
  rcases hs with h5 | h5
  · exact h3.1 h5
  · omega

theorem keeps_bel {W W' : World} (hb : Below W.heap.size W W') : KeepsOthers W W' := ⟨hb.size, fun k o hk _ => (hb.block k (Array.getElem?_eq_some_iff.1 hk).1).trans hk⟩

theorem IOf.others (h : IOf w X a n c now since Z V la lc m ia ic O E M W) {x : Nd} {l : Loc} (hN : NewNn W x l W1) {v : Value} (hg : W1.grownBy W' (Value.slice ia m ic).ownBlock) : KeepsOthers W (W'.setCell ⟨V, 3, none⟩ v) :=
  ((keeps_bel hN.bel).trans (KeepsOthers.of_grownBy hg fun j o ej hj => owns_cells (owns_same h.od.ownI (w' := W1) (fun b hb => hN.bel.block b (owns_block h.od.ownI hb).2)) j o ej hj)).trans (KeepsOthers.setCell _ _ _)
end

theorem rowd_below {W W' : World} {b n : Nat} {t : TypeId} {f : Nat → Value} (h : W.rowIs b t n f) (hb : Below W.heap.size W W') : W'.rowIs b t n f := by
  obtain ⟨c, h1, h2⟩ := h
  exact ⟨c, (hb.block b (Array.getElem?_eq_some_iff.1 h1).1).trans h1, h2⟩

theorem row_owns {W : World} {B b n : Nat} {Z : Nat → Bool} (h : W.rowIs b 4 n (fun i => .bool (Z i))) (hB : B ≤ b) (hn : n ≤ maxLen) : W.ownsRow B 4 1 (.slice (some ⟨b, 0, none⟩) n n) n (boolv n Z) := by
  obtain ⟨cur, h1, h2, h3⟩ := h
  refine ⟨by rw [boolv_len]; omega, Or.inr ⟨b, n, cur, rfl, hB, h1, Nat.le_refl _, hn, by omega, ?_⟩⟩
  apply List.ext_getElem?
  intro i
  rw [List.getElem?_take]
  by_cases hi : i < n
  · rw [if_pos (by omega), Array.getElem?_toList, h3 i hi]
    simp [boolv, hi]
  · rw [if_neg (by omega)]
    simp [boolv, hi]

/-- At the start: nothing was turned yet. -/
theorem IOf.start {w w1 W : World} {a : Option Addr} {n c : Nat} {now since : Int} {Z : Nat → Bool} {V b2 : Nat} {D : Nat → Nd} {L : Nat → Loc} (h : Blk w1 w.heap.size #[.slice a n c, .int .i64 now] 33 ∧ Blk w1 (w.heap.size + 1) #[.int .i64 0, .int .i64 0, .slice none 0 0, .slice none 0 0] 39 ∧ Below w.heap.size w w1)
    (hb : Below w1.heap.size w1 W) (hv : Blk W V #[.int .i64 0, .int .i64 0, .slice none 0 0, .slice none 0 0] 39) (hrow : W.rowIs b2 4 n (fun i => .bool (Z i))) (hV : w1.heap.size ≤ V) (hb2 : w1.heap.size ≤ b2) (hn : n ≤ maxLen) :
    IOf w (fun _ => False) a n c now since Z V (some ⟨b2, 0, none⟩) n 0 none 0 (fun _ => 0) D L ((((W.setCell ⟨V, 0, none⟩ (.int .i64 since)).setCell ⟨V, 1, none⟩ (.int .i64 now)).setCell ⟨V, 2, none⟩ (.slice (some ⟨b2, 0, none⟩) n n)).setCell ⟨V, 3, none⟩ (.slice none 0 0)) := by
  have hne : b2 ≠ V := fun e => by
    obtain ⟨cur, k1, _, _⟩ := hrow
    rw [e] at k1
    have k2 := k1.symm.trans hv
    simp at k2
  obtain ⟨h1, h2, h3⟩ := h
  have l2 := h2.lt
  have hB : Below w.heap.size w W := h3.trans (hb.mono (by omega))
  have hown := row_owns (B := w.heap.size + 2) hrow (by omega) hn
  have hvs : ∀ d, d < 2 + 2 * 0 → d = 0 ∨ d = 1 := fun d hd => by omega
  have hod : OD W (w.heap.size + 2) n Z 0 (fun _ => 0) D L (.slice (some ⟨b2, 0, none⟩) n n) (.slice none 0 0) := ⟨⟨fun d hd => by
    rcases hvs d hd with rfl | rfl
    · exact hown
    · exact World.ownsRow_nil _ _ _ _, fun d d' hd hd' hne b e e' => by
    rcases hvs d hd with rfl | rfl
    · rcases hvs d' hd' with rfl | rfl
      · exact hne rfl
      · simp [valD, Value.ownBlock] at e'
    · simp [valD, Value.ownBlock] at e⟩⟩
  have hoff : ∀ d b, d < 2 + 2 * 0 → (valD (.slice (some ⟨b2, 0, none⟩) n n) (.slice none 0 0) D L d).ownBlock = some b → ¬ False ∧ b ≠ V := fun d b hd e => ⟨id, by
    rcases hvs d hd with rfl | rfl
    · have e' : b2 = b := by simpa [valD, Value.ownBlock] using e
      exact e' ▸ hne
    · simp [valD, Value.ownBlock] at e⟩
  have off : ∀ {j : Nat} {cs : Array Value} {t : TypeId}, Blk W j cs t → j ≠ V → Blk ((((W.setCell ⟨V, 0, none⟩ (.int .i64 since)).setCell ⟨V, 1, none⟩ (.int .i64 now)).setCell ⟨V, 2, none⟩ (.slice (some ⟨b2, 0, none⟩) n n)).setCell ⟨V, 3, none⟩ (.slice none 0 0)) j cs t := fun hj hV => (((hj.off _ hV).off _ hV).off _ hV).off _ hV
  refine ⟨off (h1.below hb h1.lt) (by have := h1.lt; omega), off (h2.below hb h2.lt) (by omega), (((hv.set 0 _).set 1 _).set 2 _).set 3 _, bel_put (bel_put (bel_put (bel_put hB _ (by omega)) _ (by omega)) _ (by omega)) _ (by omega), by omega, ?_, hoff, fun b hX => hX.elim⟩
  refine hod.sameAt fun d b hd e => ?_
  have hbV := (hoff d b hd e).2
  exact (blk_setCell_other _ _ _ _ (show b ≠ V from hbV)).trans ((blk_setCell_other _ _ _ _ (show b ≠ V from hbV)).trans ((blk_setCell_other _ _ _ _ (show b ≠ V from hbV)).trans (blk_setCell_other _ _ _ _ (show b ≠ V from hbV))))

theorem IOf.fresh {w w1 U : World} {a : Option Addr} {n c : Nat} {now since : Int} {Z : Nat → Bool} {b2 : Nat} {D : Nat → Nd} {L : Nat → Loc} (h : Blk w1 w.heap.size #[.slice a n c, .int .i64 now] 33 ∧ Blk w1 (w.heap.size + 1) #[.int .i64 0, .int .i64 0, .slice none 0 0, .slice none 0 0] 39 ∧ Below w.heap.size w w1)
    (hb : Below w1.heap.size w1 U) (hrow : U.rowIs b2 4 n (fun i => .bool (Z i))) (hb2 : w1.heap.size ≤ b2) (hn : n ≤ maxLen) :
    IOf w (fun _ => False) a n c now since Z U.heap.size (some ⟨b2, 0, none⟩) n 0 none 0 (fun _ => 0) D L (U.alloc (.cells #[.int .i64 since, .int .i64 now, .slice (some ⟨b2, 0, none⟩) n n, .slice none 0 0] 39)) := by
  have hb' := hb.alloc hb.size (.cells #[.int .i64 0, .int .i64 0, .slice none 0 0, .slice none 0 0] 39)
  have hU : Below U.heap.size U (U.alloc (.cells #[.int .i64 0, .int .i64 0, .slice none 0 0, .slice none 0 0] 39)) := (Below.refl _ _).alloc (Nat.le_refl _) _
  have := IOf.start (since := since) (D := D) (L := L) h hb' (Blk.new U _ _) (rowd_below hrow hU) hb.size hb2 hn
  simpa [go_sem] using this

/-- A place that is yielded. -/
abbrev Pl (D : Nat → Nd) (n : Nat) (since : Int) := { x : Nat // x < n ∧ since < (D x).turn }

/-- Between two rounds, these places having come. -/
def RndI (w : World) (a : Option Addr) (n c : Nat) (now since : Int) (D : Nat → Nd) (V b2 S : Nat) (pre : List (Pl D n since)) (W : World) : Prop :=
  ∃ ia ic O E M, IOf w (fun j => j = S) a n c now since (fun i => (D i).kind != 0) V (some ⟨b2, 0, none⟩) n pre.length ia ic O E M W ∧ ∀ i, i < pre.length → O i = ((pre.map (·.1)).getD i 0 : Nat) ∧ E i = D ((pre.map (·.1)).getD i 0)

theorem rndI_own {w : World} {a : Option Addr} {n c : Nat} {now since : Int} {D : Nat → Nd} {V b2 S B : Nat} (hB : w.heap.size ≤ B) : OwnFrom B (RndI w a n c now since D V b2 S) := by
  rintro pre A A' row ⟨ia, ic, O, E, M, h, hs⟩ hg hr
  exact ⟨ia, ic, O, E, M, h.turned hg hB hr, hs⟩

theorem own_ne {W : World} {B e t : Nat} {size k : Nat} {v : Value} {xs : List Value} {j : Nat} {cs : Array Value} (h : W.ownsRow B e size v k xs) (hb : Blk W j cs t) (hne : e ≠ t) : v.ownBlock ≠ some j := fun ej => by
  rcases h.2 with ⟨rfl, _⟩ | ⟨g, cap, cur, rfl, _, hgb, _⟩
  · simp [Value.ownBlock] at ej
  · obtain rfl : g = j := by simpa [Value.ownBlock] using ej
    rw [hb] at hgb
    simp at hgb
    exact hne hgb.2.symm

/-- What a round leaves. -/
theorem rnd_step {w : World} {a : Option Addr} {n c : Nat} {now since : Int} {D : Nat → Nd} {V b2 S B b0 : Nat} {pre : List (Pl D n since)} {x : Pl D n since} {ia : Option Addr} {ic : Nat} {O : Nat → Int} {E : Nat → Nd} {M : Nat → Loc} {W W1 W' : World}
    (h : IOf w (fun j => j = S) a n c now since (fun i => (D i).kind != 0) V (some ⟨b2, 0, none⟩) n pre.length ia ic O E M W) (hsel : ∀ i, i < pre.length → O i = ((pre.map (·.1)).getD i 0 : Nat) ∧ E i = D ((pre.map (·.1)).getD i 0))
    {l : Loc} (hN : NewNn W (D x.1) l W1) {g c' : Nat} (hg : W1.grownBy W' (Value.slice ia pre.length ic).ownBlock)
    (hown : W'.ownsRow (w.heap.size + 2) 133 6 (.slice (some ⟨g, 0, none⟩) (pre.length + 1) c') (pre.length + 1) (rowsI O E M pre.length ++ it6 (x.1 : Nat) (D x.1) l)) (hb : (Value.slice ia pre.length ic).ownBlock = some g ∨ W1.heap.size ≤ g) (hSV : S ≠ V) (hb0 : b0 < w.heap.size) :
    KeepsFrom B W (W'.setCell ⟨V, 3, none⟩ (.slice (some ⟨g, 0, none⟩) (pre.length + 1) c')) ∧ KeepsTwo S b0 W (W'.setCell ⟨V, 3, none⟩ (.slice (some ⟨g, 0, none⟩) (pre.length + 1) c')) ∧ RndI w a n c now since D V b2 S (pre ++ [x]) (W'.setCell ⟨V, 3, none⟩ (.slice (some ⟨g, 0, none⟩) (pre.length + 1) c')) := by
  have hfar := h.far
  have hsz := h.bel.size
  refine ⟨(h.others hN hg).from _, ⟨h.keep hN hg (Or.inl rfl) hSV (h.lt S rfl), h.keep hN hg (Or.inr hb0) (by omega) (by omega)⟩, some ⟨g, 0, none⟩, c', (fun i => if i = pre.length then ((x.1 : Nat) : Int) else O i), (fun i => if i = pre.length then D x.1 else E i), (fun i => if i = pre.length then l else M i), ?_, ?_⟩
  · rw [List.length_append]
    exact h.item hN hg hown hb
  · intro i hi
    rw [List.map_append]
    simp only [List.length_append, List.length_singleton] at hi
    by_cases e : i = pre.length
    · have e2 : (pre.map (·.1) ++ [x].map (·.1)).getD i 0 = x.1 := by rw [List.getD_eq_getElem?_getD, List.getElem?_append_right (by rw [List.length_map]; omega), List.length_map, e]; simp
      rw [e2]
      exact ⟨if_pos e, if_pos e⟩
    · have hi' : i < pre.length := by omega
      have := hsel i hi'
      have e2 : (pre.map (·.1) ++ [x].map (·.1)).getD i 0 = (pre.map (·.1)).getD i 0 := by rw [List.getD_eq_getElem?_getD, List.getD_eq_getElem?_getD, List.getElem?_append_left (by rw [List.length_map]; exact hi')]
      rw [e2]
      exact ⟨(if_neg e).trans this.1, (if_neg e).trans this.2⟩

/-- At the call's end. -/
theorem rnd_done {w : World} {X : Nat → Prop} {a : Option Addr} {n c : Nat} {now since : Int} {Z : Nat → Bool} {V : Nat} {la : Option Addr} {lc m : Nat} {ia : Option Addr} {ic : Nat} {O : Nat → Int} {E : Nat → Nd} {M : Nat → Loc} {U : World} {K : Nat} (h : IOf w X a n c now since Z V la lc m ia ic O E M U) (hK : U.heap[K]? = some (.deferred (some []))) (hl : w.heap.size + 2 ≤ K) :
    let U4 := (((U.setCell ⟨w.heap.size + 1, 0, none⟩ (.int .i64 since)).setCell ⟨w.heap.size + 1, 1, none⟩ (.int .i64 now)).setCell ⟨w.heap.size + 1, 2, none⟩ (.slice la n lc)).setCell ⟨w.heap.size + 1, 3, none⟩ (.slice ia m ic)
    U4.heap[K]? = some (.deferred (some [])) ∧ Blk (U4.putObj K (.deferred none)) (w.heap.size + 1) #[.int .i64 since, .int .i64 now, .slice la n lc, .slice ia m ic] 39 ∧ Below w.heap.size w (U4.putObj K (.deferred none)) ∧ OD (U4.putObj K (.deferred none)) w.heap.size n Z m O E M (.slice la n lc) (.slice ia m ic) := by
  intro U4
  have hset : ∀ b, b ≠ w.heap.size + 1 → U4.heap[b]? = U.heap[b]? := fun b hb => (blk_setCell_other _ _ _ _ (show b ≠ w.heap.size + 1 from hb)).trans ((blk_setCell_other _ _ _ _ (show b ≠ w.heap.size + 1 from hb)).trans ((blk_setCell_other _ _ _ _ (show b ≠ w.heap.size + 1 from hb)).trans (blk_setCell_other _ _ _ _ (show b ≠ w.heap.size + 1 from hb))))
  have hK4 : U4.heap[K]? = some (.deferred (some [])) := (hset K (by omega)).trans hK
  have hr : Blk U4 (w.heap.size + 1) #[.int .i64 since, .int .i64 now, .slice la n lc, .slice ia m ic] 39 := (((h.r.set 0 _).set 1 _).set 2 _).set 3 _
  have hb4 : Below w.heap.size w U4 := bel_put (bel_put (bel_put (bel_put h.bel _ (by omega)) _ (by omega)) _ (by omega)) _ (by omega)
  have hg := grownBy_putObj' U4 K (.deferred none)
  refine ⟨hK4, blk_grown hr hg (fun e => by simp at e; omega), hb4.grown hg hb4.size (fun k e => by cases e; omega), ?_⟩
  refine (h.od.lower (by omega)).sameAt fun d b hd hv => ?_
  have h1 := owns_block (h.od.rows.own d hd) hv
  have hbK : b ≠ K := fun e => by
    have := owns_cells (h.od.rows.own d hd) b _ hv (e ▸ hK)
    cases this
  exact (World.putObj_heap_other hbK).trans (hset b (by omega))

theorem sel_same {n : Nat} {D : Nat → Nd} {now since : Int} (hg : TreeGood n D now) (h0 : 0 ≤ since) : selT D since n = selTo D since n := by
  unfold selT selTo
  apply List.filter_congr
  intro i hi
  have hi' : i < n := by simpa using hi
  have hn := hg.nodes i hi'
  unfold turnedB
  by_cases hk : (D i).kind = 0
  · unfold ndOk at hn
    rw [if_pos hk] at hn
    have ht : (D i).turn = 0 := by
      unfold freeOk at hn
      simp at hn
      exact hn.2
    simp [hk, ht]
    omega
  · simp [hk]
end Go.Proofs.YtfdjfndpeeomkaaGreatDoor

/-
  What l6Item of the specification answers, and a copy of truth values by slices.Clone.
-/
namespace Go.Proofs.YtfdjfndpeeomkaaGreatDoor
open Go.RowKit Go.Deep
set_option linter.unusedVariables false
set_option linter.unusedSimpArgs false

theorem wp_cutq3 {X Y Z : Type} (F : X → Y → Z → World → Prop) {P : Program} {c : Code} {Q : Exit → Act → World → Prop} {a : Act} {w : World} (A : X → Y → Z → Act)
    (leaf : (∀ x y z W, F x y z W → Q .normal (A x y z) W) → c.wp P Q a w) (k : ∀ x y z W, F x y z W → Q .normal (A x y z) W) : c.wp P Q a w := leaf k

/-- At the start: the truth values alone. -/
theorem GOf.start {w W0 W : World} {X : Nat → Prop} {since date : Int} {n : Nat} {Z : Nat → Bool} {V g c' : Nat} {O : Nat → Int} {E : Nat → Nd} {M : Nat → Loc} (hbw : Below w.heap.size w W0) (hX : ∀ j, X j → j < W0.heap.size) (hb : Below W0.heap.size W0 W) (hV : W0.heap.size ≤ V)
    (hv : Blk W V #[.int .i64 since, .int .i64 date, .slice (some ⟨g, 0, none⟩) n c', .slice none 0 0] 39) (hown : W.ownsRow W0.heap.size 4 1 (.slice (some ⟨g, 0, none⟩) n c') n (boolv n Z)) :
    GOf w W0 W0.heap.size X since date n Z V (some ⟨g, 0, none⟩) c' 0 none 0 O E M W := by
  have hne : g ≠ V := fun e => own_ne hown hv (by decide) (by rw [e]; rfl)
  have hgl : W0.heap.size ≤ g := (owns_block hown rfl).1
  have hvs : ∀ d, d < 2 + 2 * 0 → d = 0 ∨ d = 1 := fun d hd => by omega
  refine ⟨hv, hbw.trans (hb.mono hbw.size), fun b hx => hb.block b (hX b hx), fun b hx => Nat.lt_of_lt_of_le (hX b hx) hb.size, fun hx => by have := hX V hx; omega, by have := hbw.size; omega, hbw.size, ⟨⟨fun d hd => ?_, fun d d' hd hd' hn b e e' => ?_⟩⟩, fun d b hd e => ?_⟩
  · rcases hvs d hd with rfl | rfl
    · exact hown
    · exact World.ownsRow_nil _ _ _ _
  · rcases hvs d hd with rfl | rfl
    · rcases hvs d' hd' with rfl | rfl
      · exact hn rfl
      · simp [valD, Value.ownBlock] at e'
    · simp [valD, Value.ownBlock] at e
  · rcases hvs d hd with rfl | rfl
    · have e' : g = b := by simpa [valD, Value.ownBlock] using e
      exact e' ▸ ⟨fun hx => by have := hX g hx; omega, hne⟩
    · simp [valD, Value.ownBlock] at e

theorem GOf.start4 {w W0 U : World} {X : Nat → Prop} {since date : Int} {n : Nat} {Z : Nat → Bool} {V g c' : Nat} {O : Nat → Int} {E : Nat → Nd} {M : Nat → Loc} (hbw : Below w.heap.size w W0) (hX : ∀ j, X j → j < W0.heap.size) (hb : Below W0.heap.size W0 U) (hV : W0.heap.size ≤ V)
    (hv : Blk U V #[.int .i64 0, .int .i64 0, .slice none 0 0, .slice none 0 0] 39) (hown : U.ownsRow W0.heap.size 4 1 (.slice (some ⟨g, 0, none⟩) n c') n (boolv n Z)) :
    GOf w W0 W0.heap.size X since date n Z V (some ⟨g, 0, none⟩) c' 0 none 0 O E M ((((U.setCell ⟨V, 0, none⟩ (.int .i64 since)).setCell ⟨V, 1, none⟩ (.int .i64 date)).setCell ⟨V, 2, none⟩ (.slice (some ⟨g, 0, none⟩) n c')).setCell ⟨V, 3, none⟩ (.slice none 0 0)) := by
  have hne : g ≠ V := fun e => own_ne hown hv (by decide) (by rw [e]; rfl)
  refine GOf.start hbw hX (bel_put (bel_put (bel_put (bel_put hb _ hV) _ hV) _ hV) _ hV) hV ((((hv.set 0 _).set 1 _).set 2 _).set 3 _) (owns_same hown fun b e => ?_)
  have e' : g = b := by simpa [Value.ownBlock] using e
  have hbV : b ≠ V := e' ▸ hne
  exact (blk_setCell_other _ _ _ _ (show b ≠ V from hbV)).trans ((blk_setCell_other _ _ _ _ (show b ≠ V from hbV)).trans ((blk_setCell_other _ _ _ _ (show b ≠ V from hbV)).trans (blk_setCell_other _ _ _ _ (show b ≠ V from hbV))))

theorem GOf.start1 {w W0 U : World} {X : Nat → Prop} {since date : Int} {n : Nat} {Z : Nat → Bool} {g c' : Nat} {O : Nat → Int} {E : Nat → Nd} {M : Nat → Loc} (hbw : Below w.heap.size w W0) (hX : ∀ j, X j → j < W0.heap.size) (hb : Below W0.heap.size W0 U)
    (hown : U.ownsRow W0.heap.size 4 1 (.slice (some ⟨g, 0, none⟩) n c') n (boolv n Z)) :
    GOf w W0 W0.heap.size X since date n Z U.heap.size (some ⟨g, 0, none⟩) c' 0 none 0 O E M (U.alloc (.cells #[.int .i64 since, .int .i64 date, .slice (some ⟨g, 0, none⟩) n c', .slice none 0 0] 39)) :=
  GOf.start hbw hX (hb.alloc hb.size _) hb.size (Blk.new U _ _) (hown.alloc _)

theorem bools_shape {W : World} {B : Nat} {v : Value} {n : Nat} {xs : List Value} (h : W.ownsRow B 4 1 v n xs) (hn : 1 ≤ n) : ∃ g c, v = .slice (some ⟨g, 0, none⟩) n c := by
  rcases h.2 with ⟨_, h0⟩ | ⟨g, cap, _, rfl, _⟩
  · omega
  · exact ⟨g, cap, rfl⟩

theorem bools_src {W : World} {a : Option Addr} {n : Nat} {Z : Nat → Bool} (h : IsBools W a n Z) (hn : 1 ≤ n) (c : Nat) : Src W 1 (.slice a n c) n (boolv n Z) := by
  obtain ⟨b, off, rfl, hbl, hc⟩ := h.at (show 0 < n by omega)
  refine ⟨by rw [boolv_len]; omega, fun u hu => by unfold boolv at hu; obtain ⟨i, _, rfl⟩ := List.mem_map.1 hu; rfl, Or.inr ⟨⟨b, off, none⟩, c, rfl, fun j u hu => ?_⟩⟩
  have hj : j < n := by
    rcases Nat.lt_or_ge j n with e | e
    · exact e
    · rw [List.getElem?_eq_none (by rw [boolv_len]; omega)] at hu; cases hu
  rw [addr_add, hc j hj]
  simp [boolv, hj] at hu
  rw [hu]

theorem ok_head1 {d : Dp} (h : d.ok = true) : 1 ≤ d.ln ∧ d.ln ≤ 10 := by
  unfold Dp.ok headIn at h
  simp at h
  omega

theorem thenOk_a {a b : Dp} (h : a.ok = false) : thenOk a b = false := by unfold thenOk; rw [h]; rfl
theorem thenOk_b {a b : Dp} (h : b.ok = false) : thenOk a b = false := by unfold thenOk; rw [h]; simp
theorem thenOk_d {a b : Dp} (h : a.date ≠ b.since) : thenOk a b = false := by unfold thenOk; simp [h]
theorem thenOk_is {a b : Dp} (h1 : a.ok = true) (h2 : b.ok = true) (h3 : a.date = b.since) : thenOk a b = (thenDp a b).ok := by unfold thenOk; rw [h1, h2, h3]; simp

theorem m_small {d : Dp} (h : d.ok = true) : d.m ≤ 10 := by
  rcases Nat.lt_or_ge 10 d.m with hg | hg
  · exfalso
    have key : ∀ i, i < d.m → (i : Int) ≤ d.ino i := fun i => by
      induction i with
      | zero => intro hi; exact (ok_live h hi).1
      | succ i ih => intro hi; have h1 := ih (by omega); have h2 := ok_asc h (i + 1) i (by omega) hi; omega
    have h1 := key 10 hg
    have h2 := (ok_live h hg).2.1
    have h3 := (ok_head1 h).2
    omega
  · exact hg

/-- A number, or -1. -/
def ixI : Option Nat → Int | some i => (i : Int) | none => -1

/-- What is known within l6Item. -/
structure D6In (w : World) (d : Dp) (l : DLoc) (W : World) : Prop where
  p : Blk W w.heap.size #[.int .i64 d.since, .int .i64 d.date, .slice l.lA d.ln l.lc, .slice l.iA d.m l.ic] 39
  bel : Below w.heap.size w W

set_option maxHeartbeats 1000000 in
theorem l6Item_any (d : Dp) (l : DLoc) (z : Int) (w : World) (hI : DpIn w d l) (hm : d.m ≤ maxLen) (hinj : ∀ i j, i < d.m → j < d.m → d.ino i = d.ino j → i = j) :
    Calls Tryz.prog 96 #[dpV d l, .int .i64 z] w fun e w' => Below w.heap.size w w' ∧ e = .returned (.int .i64 (ixI (ixOf d.ino d.m z))) := by
  unfold maxLen at hm
  unfold dpV
  go_enter Tryz.func96, Tryz.ntmps96
  go_wp2
  go_loopw [5] (fun i wr => ∃ k : Nat, k ≤ d.m ∧ i = .int .i64 k ∧ D6In w d l wr ∧ ∀ j, j < k → d.ino j ≠ z) (fun i _ => d.m - (intOf i).toNat)
  case atStart => exact ⟨0, Nat.zero_le _, rfl, ⟨(new1 w _ _).b0, (new1 w _ _).bel⟩, fun j hj => by omega⟩
  case round =>
    obtain ⟨k, hk, rfl, hin, hne⟩ := hrel
    have p3 : wr.cell? ⟨w.heap.size, 3, none⟩ = some (.slice l.iA d.m l.ic) := hin.p.cell 3
    have HIN : Hid (D6In w d l wr ∧ ∀ j, j < k → d.ino j ≠ z) := ⟨hin, hne⟩
    by_cases hlt : k < d.m
    · obtain ⟨b, off, hA, hbl, hc⟩ := (hI.items.below (Nat.le_refl _) hin.bel).at hlt
      obtain ⟨c0, _⟩ := hc k hlt
      rw [hA] at p3
      have hlti : (k : Int) < (d.m : Int) := by omega
      clear hc hA hin hne
      by_cases hz : d.ino k = z
      · have hzb : (d.ino k == z) = true := by simp [hz]
        have HZ : Hid (ixOf d.ino d.m z = some k) := ixOf_one hinj hlt hz
        clear hz
        go_wp2
        go_ret
        exact ⟨HIN.out.1.bel, by rw [HZ.out]; rfl⟩
      · have hzb : (d.ino k == z) = false := by simp [hz]
        have HZ : Hid (d.ino k ≠ z) := hz
        clear hz
        go_wp2
        go_roundw
        case rel => exact ⟨k + 1, by omega, by go_num, HIN.out.1, fun j hj => by
          by_cases e : j = k
          · subst e; exact HZ.out
          · exact HIN.out.2 j (by omega)⟩
        case measure => simp [intOf]; omega
    · have hke : k = d.m := by omega
      have HZ : Hid (ixOf d.ino d.m z = none) := by
        show _ = _
        cases e : ixOf d.ino d.m z with
        | none => rfl
        | some i => exact absurd (ixOf_some e).2 (HIN.out.2 i (by have := (ixOf_some e).1; omega))
      clear hin hne hke
      go_wp2
      go_ret
      exact ⟨HIN.out.1.bel, by rw [HZ.out]; rfl⟩

end Go.Proofs.YtfdjfndpeeomkaaGreatDoor

/-
  A tree in memory of one's own: its list of places, and the lists of each place; no two share a block. Plain facts.
-/
namespace Go.Proofs.YtfdjfndpeeomkaaGreatDoor
open Go.RowKit Go.Deep
set_option linter.unusedVariables false
set_option linter.unusedSimpArgs false

/-- The cells of a place that was turned. -/
def nt5 (o : Int) (d : Nd) (l : Loc) : List Value := [.int .i64 d.kind, .string d.text, .slice l.nA d.nn l.nc, .slice l.kA d.kn l.kc, .int .i64 d.turn]
/-- The cells of the first m. -/
def rowsT (O : Nat → Int) (D : Nat → Nd) (L : Nat → Loc) : Nat → List Value | 0 => [] | m + 1 => rowsT O D L m ++ nt5 (O m) (D m) (L m)

section
variable {O O' : Nat → Int} {D D' : Nat → Nd} {L L' : Nat → Loc}

theorem rowsT_len : ∀ m, (rowsT O D L m).length = m * 5
  | 0 => rfl
  | m + 1 => by rw [rowsT, List.length_append, rowsT_len m]; simp [nt5]; omega

theorem nt5_one (o : Int) (d : Nd) (l : Loc) : ∀ u ∈ nt5 o d l, u.oneCell' = true := by intro u hu; simp [nt5] at hu; rcases hu with rfl | rfl | rfl | rfl | rfl <;> rfl

theorem rowsT_get : ∀ m i, i < m → ∀ r, r < 5 → (rowsT O D L m)[i * 5 + r]? = (nt5 (O i) (D i) (L i))[r]?
  | 0, i, h, r, hr => by omega
  | m + 1, i, h, r, hr => by
    rw [rowsT]
    by_cases e : i < m
    · rw [List.getElem?_append_left (by rw [rowsT_len]; omega)]; exact rowsT_get m i e r hr
    · obtain rfl : i = m := by omega
      rw [List.getElem?_append_right (by rw [rowsT_len]; omega), rowsT_len, show i * 5 + r - i * 5 = r by omega]

theorem rowsT_ext : ∀ m, (∀ i, i < m → O' i = O i ∧ D' i = D i ∧ L' i = L i) → rowsT O' D' L' m = rowsT O D L m
  | 0, _ => rfl
  | m + 1, h => by rw [rowsT, rowsT, rowsT_ext m (fun i hi => h i (by omega)), (h m (by omega)).1, (h m (by omega)).2.1, (h m (by omega)).2.2]
end

/-- The rows of what is kept: 0 the truth values, 1 the places that were turned, then two for each of these. -/
def rowT (k : Nat) (Z : Nat → Bool) (m : Nat) (O : Nat → Int) (D : Nat → Nd) (L : Nat → Loc) (d : Nat) : Rw :=
  if d = 0 then ⟨4, 1, k, boolv k Z⟩ else if d = 1 then ⟨58, 5, m, rowsT O D L m⟩
  else if d % 2 = 0 then ⟨9, 1, (D ((d - 2) / 2)).nn, strv (lst (D ((d - 2) / 2)).nn (D ((d - 2) / 2)).names)⟩ else ⟨3, 1, (D ((d - 2) / 2)).kn, intv0 (D ((d - 2) / 2)).kn (D ((d - 2) / 2)).kids⟩
def valT (lv iv : Value) (D : Nat → Nd) (L : Nat → Loc) (d : Nat) : Value :=
  if d = 0 then lv else if d = 1 then iv else if d % 2 = 0 then .slice (L ((d - 2) / 2)).nA (D ((d - 2) / 2)).nn (L ((d - 2) / 2)).nc else .slice (L ((d - 2) / 2)).kA (D ((d - 2) / 2)).kn (L ((d - 2) / 2)).kc

structure OT (W : World) (B k : Nat) (Z : Nat → Bool) (m : Nat) (O : Nat → Int) (D : Nat → Nd) (L : Nat → Loc) (lv iv : Value) : Prop where
  rows : Rwn B (rowT k Z m O D L) (fun d => d < 2 + 2 * m) (valT lv iv D L) W

section
variable {W W' : World} {B k : Nat} {Z : Nat → Bool} {m : Nat} {O : Nat → Int} {D : Nat → Nd} {L : Nat → Loc} {lv iv lv' iv' : Value}

theorem OT.start (W : World) (B : Nat) (Z : Nat → Bool) (O : Nat → Int) (D : Nat → Nd) (L : Nat → Loc) : OT W B 0 Z 0 O D L (.slice none 0 0) (.slice none 0 0) :=
  ⟨⟨fun d hl => by
    have hd : d = 0 ∨ d = 1 := by omega
    rcases hd with rfl | rfl
    · exact World.ownsRow_nil _ _ _ _
    · exact World.ownsRow_nil _ _ _ _, fun d d' hl _ _ b hb => by
    have hd : d = 0 ∨ d = 1 := by omega
    rcases hd with rfl | rfl <;> simp [valT, Value.ownBlock] at hb⟩⟩

theorem OT.same (h : OT W B k Z m O D L lv iv) (hw : ∀ b, B ≤ b → b < W.heap.size → W'.heap[b]? = W.heap[b]?) : OT W' B k Z m O D L lv iv :=
  ⟨⟨fun d hl => owns_same (h.rows.own d hl) fun b hb => hw b (owns_block (h.rows.own d hl) hb).1 (owns_block (h.rows.own d hl) hb).2, h.rows.apart⟩⟩

theorem OT.below (h : OT W B k Z m O D L lv iv) (hb : Below W.heap.size W W') : OT W' B k Z m O D L lv iv := h.same fun b _ hlt => hb.block b hlt

theorem OT.off (h : OT W B k Z m O D L lv iv) {V i : Nat} (v : Value) (hV : V < B) : OT (W.setCell ⟨V, i, none⟩ v) B k Z m O D L lv iv := h.same fun b hB _ => blk_setCell_other _ _ _ _ (by show b ≠ V; omega)

theorem OT.lower {B' : Nat} (h : OT W B k Z m O D L lv iv) (hB : B' ≤ B) : OT W B' k Z m O D L lv iv := ⟨⟨fun d hl => owns_lower (h.rows.own d hl) hB, h.rows.apart⟩⟩

theorem OT.ownL (h : OT W B k Z m O D L lv iv) : W.ownsRow B 4 1 lv k (boolv k Z) := by
  have := h.rows.own 0 (by omega)
  simpa [rowT, valT] using this

theorem OT.ownI (h : OT W B k Z m O D L lv iv) : W.ownsRow B 58 5 iv m (rowsT O D L m) := by
  have := h.rows.own 1 (by omega)
  simpa [rowT, valT] using this

theorem rowT_rest {k k' m : Nat} {Z Z' : Nat → Bool} {d : Nat} (h : d ≠ 0) : rowT k' Z' m O D L d = rowT k Z m O D L d := by unfold rowT; rw [if_neg h, if_neg h]
theorem valT_rest {d : Nat} (h : d ≠ 0) : valT lv' iv D L d = valT lv iv D L d := by unfold valT; rw [if_neg h, if_neg h]

/-- One truth value more. -/
theorem OT.live (h : OT W B k Z m O D L lv iv) (hg : W.grownBy W' lv.ownBlock) (hown : W'.ownsRow B 4 1 lv' (k + 1) (boolv (k + 1) Z)) (hb : ∀ b, lv'.ownBlock = some b → lv.ownBlock = some b ∨ W.heap.size ≤ b) : OT W' B (k + 1) Z m O D L lv' iv := by
  have key : ∀ d, d < 2 + 2 * m → d ≠ 0 → ∀ b, (valT lv iv D L d).ownBlock = some b → b < W.heap.size ∧ lv.ownBlock ≠ some b := fun d hl hne b hb => ⟨(owns_block (h.rows.own d hl) hb).2, fun e => h.rows.apart d 0 hl (by omega) hne b hb (by simpa [valT] using e)⟩
  refine ⟨⟨fun d hl => ?_, fun d1 d2 g1 g2 hne b h1 h2 => ?_⟩⟩
  · by_cases e : d = 0
    · subst e; simpa [rowT, valT] using hown
    · rw [rowT_rest (k := k) (Z := Z) e, valT_rest (lv := lv) e]
      exact owns_kept (h.rows.own d hl) hg fun b hb => (key d hl e b hb).2
  · by_cases e1 : d1 = 0
    · have e2 : d2 ≠ 0 := fun e => hne (e1.trans e.symm)
      subst e1
      rw [valT_rest (lv := lv) e2] at h2
      have h1' : lv'.ownBlock = some b := by simpa [valT] using h1
      have := key d2 g2 e2 b h2
      rcases hb b h1' with e | e
      · exact this.2 e
      · omega
    · by_cases e2 : d2 = 0
      · subst e2
        rw [valT_rest (lv := lv) e1] at h1
        have h2' : lv'.ownBlock = some b := by simpa [valT] using h2
        have := key d1 g1 e1 b h1
        rcases hb b h2' with e | e
        · exact this.2 e
        · omega
      · rw [valT_rest (lv := lv) e1] at h1
        rw [valT_rest (lv := lv) e2] at h2
        exact h.rows.apart d1 d2 g1 g2 hne b h1 h2

/-- One place that was turned more: its lists are new, the list of them has grown. -/
theorem OT.item (h : OT W B k Z m O D L lv iv) {W1 : World} {o : Int} {x : Nd} {l : Loc} (hN : NewNn W x l W1) (hB : B ≤ W.heap.size) (hg : W1.grownBy W' iv.ownBlock) (hown : W'.ownsRow B 58 5 iv' (m + 1) (rowsT O D L m ++ nt5 o x l)) (hb : ∀ b, iv'.ownBlock = some b → iv.ownBlock = some b ∨ W1.heap.size ≤ b) :
    OT W' B k Z (m + 1) (fun i => if i = m then o else O i) (fun i => if i = m then x else D i) (fun i => if i = m then l else L i) lv iv' := by
  have h1 := h.below hN.bel
  have hsz := hN.bel.size
  have hrow : rowsT (fun i => if i = m then o else O i) (fun i => if i = m then x else D i) (fun i => if i = m then l else L i) (m + 1) = rowsT O D L m ++ nt5 o x l := by
    rw [rowsT, rowsT_ext (O := O) (D := D) (L := L) m (fun i hi => by simp [show i ≠ m by omega])]
    simp
  have hib : ∀ b, iv.ownBlock = some b → b < W.heap.size := fun b e => (owns_block h.ownI e).2
  have key : ∀ d, d < 2 + 2 * m → d ≠ 1 → ∀ b, (valT lv iv D L d).ownBlock = some b → b < W.heap.size ∧ iv.ownBlock ≠ some b := fun d hl hne b hb => ⟨(owns_block (h.rows.own d hl) hb).2, fun e => h.rows.apart d 1 hl (by omega) hne b hb (by simpa [valT] using e)⟩
  have e1 : rowT k Z (m + 1) (fun i => if i = m then o else O i) (fun i => if i = m then x else D i) (fun i => if i = m then l else L i) 1 = ⟨58, 5, m + 1, rowsT O D L m ++ nt5 o x l⟩ := by unfold rowT; rw [hrow]; simp
  have v1 : valT lv iv' (fun i => if i = m then x else D i) (fun i => if i = m then l else L i) 1 = iv' := by simp [valT]
  have e2 : rowT k Z (m + 1) (fun i => if i = m then o else O i) (fun i => if i = m then x else D i) (fun i => if i = m then l else L i) (2 + 2 * m) = ⟨9, 1, x.nn, strv (lst x.nn x.names)⟩ := by
    have hi : (2 + 2 * m - 2) / 2 = m := by omega
    unfold rowT; rw [if_neg (by omega), if_neg (by omega), if_pos (by omega)]; simp [hi]
  have v2 : valT lv iv' (fun i => if i = m then x else D i) (fun i => if i = m then l else L i) (2 + 2 * m) = .slice l.nA x.nn l.nc := by
    have hi : (2 + 2 * m - 2) / 2 = m := by omega
    unfold valT; rw [if_neg (by omega), if_neg (by omega), if_pos (by omega)]; simp [hi]
  have e3 : rowT k Z (m + 1) (fun i => if i = m then o else O i) (fun i => if i = m then x else D i) (fun i => if i = m then l else L i) (3 + 2 * m) = ⟨3, 1, x.kn, intv0 x.kn x.kids⟩ := by
    have hi : (3 + 2 * m - 2) / 2 = m := by omega
    unfold rowT; rw [if_neg (by omega), if_neg (by omega), if_neg (by omega)]; simp [hi]
  have v3 : valT lv iv' (fun i => if i = m then x else D i) (fun i => if i = m then l else L i) (3 + 2 * m) = .slice l.kA x.kn l.kc := by
    have hi : (3 + 2 * m - 2) / 2 = m := by omega
    unfold valT; rw [if_neg (by omega), if_neg (by omega), if_neg (by omega)]; simp [hi]
  have e4 : ∀ d, d < 2 + 2 * m → d ≠ 1 → rowT k Z (m + 1) (fun i => if i = m then o else O i) (fun i => if i = m then x else D i) (fun i => if i = m then l else L i) d = rowT k Z m O D L d := fun d hl hne => by
    unfold rowT
    by_cases e0 : d = 0
    · rw [if_pos e0, if_pos e0]
    · have hi : (d - 2) / 2 ≠ m := by omega
      rw [if_neg e0, if_neg hne, if_neg e0, if_neg hne]; simp [hi]
  have v4 : ∀ d, d < 2 + 2 * m → d ≠ 1 → valT lv iv' (fun i => if i = m then x else D i) (fun i => if i = m then l else L i) d = valT lv iv D L d := fun d hl hne => by
    unfold valT
    by_cases e0 : d = 0
    · rw [if_pos e0, if_pos e0]
    · have hi : (d - 2) / 2 ≠ m := by omega
      rw [if_neg e0, if_neg hne, if_neg e0, if_neg hne]; simp [hi]
  have hcase : ∀ d, d < 2 + 2 * (m + 1) → (d < 2 + 2 * m ∧ d ≠ 1) ∨ d = 1 ∨ d = 2 + 2 * m ∨ d = 3 + 2 * m := fun d hl => by omega
  have hnl : ∀ b, (Value.slice l.nA x.nn l.nc).ownBlock = some b → W.heap.size ≤ b ∧ b < W1.heap.size := fun b e => owns_block hN.names e
  have hkl : ∀ b, (Value.slice l.kA x.kn l.kc).ownBlock = some b → W.heap.size ≤ b ∧ b < W1.heap.size := fun b e => owns_block hN.kids e
  refine ⟨⟨fun d hl => ?_, fun d1 d2 g1 g2 hne b p1 p2 => ?_⟩⟩
  · rcases hcase d hl with ⟨h2, h3⟩ | rfl | rfl | rfl
    · rw [e4 d h2 h3, v4 d h2 h3]
      exact owns_kept (h1.rows.own d h2) hg fun b hb => (key d h2 h3 b hb).2
    · rw [e1, v1]; exact hown
    · rw [e2, v2]
      exact owns_kept (owns_lower hN.names hB) hg fun b hb e => by have h4 := hnl b hb; have h5 := hib b e; omega
    · rw [e3, v3]
      exact owns_kept (owns_lower hN.kids hB) hg fun b hb e => by have h4 := hkl b hb; have h5 := hib b e; omega
  · have cl : ∀ d, d < 2 + 2 * (m + 1) → (valT lv iv' (fun i => if i = m then x else D i) (fun i => if i = m then l else L i) d).ownBlock = some b → (d < 2 + 2 * m ∧ d ≠ 1 ∧ (valT lv iv D L d).ownBlock = some b ∧ b < W.heap.size ∧ iv.ownBlock ≠ some b) ∨ (d = 1 ∧ (iv.ownBlock = some b ∧ b < W.heap.size ∨ W1.heap.size ≤ b)) ∨ (d = 2 + 2 * m ∧ (Value.slice l.nA x.nn l.nc).ownBlock = some b ∧ W.heap.size ≤ b ∧ b < W1.heap.size) ∨ (d = 3 + 2 * m ∧ (Value.slice l.kA x.kn l.kc).ownBlock = some b ∧ W.heap.size ≤ b ∧ b < W1.heap.size) := fun d hl hv => by
      rcases hcase d hl with ⟨h2, h3⟩ | rfl | rfl | rfl
      · rw [v4 d h2 h3] at hv
        exact Or.inl ⟨h2, h3, hv, key d h2 h3 b hv⟩
      · rw [v1] at hv
        exact Or.inr (Or.inl ⟨rfl, (hb b hv).imp (fun e => ⟨e, hib b e⟩) id⟩)
      · rw [v2] at hv
        exact Or.inr (Or.inr (Or.inl ⟨rfl, hv, hnl b hv⟩))
      · rw [v3] at hv
        exact Or.inr (Or.inr (Or.inr ⟨rfl, hv, hkl b hv⟩))
    rcases cl d1 g1 p1 with ⟨a1, a2, a3, a4, a5⟩ | ⟨a1, a2⟩ | ⟨a1, a2, a3, a4⟩ | ⟨a1, a2, a3, a4⟩ <;> rcases cl d2 g2 p2 with ⟨z1, z2, z3, z4, z5⟩ | ⟨z1, z2⟩ | ⟨z1, z2, z3, z4⟩ | ⟨z1, z2, z3, z4⟩
    · exact h.rows.apart d1 d2 a1 z1 hne b a3 z3
    · rcases z2 with ⟨e, _⟩ | e
      · exact a5 e
      · omega
    · omega
    · omega
    · rcases a2 with ⟨e, _⟩ | e
      · exact z5 e
      · omega
    · omega
    · rcases a2 with ⟨_, e⟩ | e <;> omega
    · rcases a2 with ⟨_, e⟩ | e <;> omega
    · omega
    · rcases z2 with ⟨_, e⟩ | e <;> omega
    · omega
    · exact hN.apart b a2 z2
    · omega
    · rcases z2 with ⟨_, e⟩ | e <;> omega
    · exact hN.apart b z2 a2
    · omega
end

section
variable {W W' : World} {B k : Nat} {Z Z' : Nat → Bool} {m : Nat} {O O' : Nat → Int} {D D' : Nat → Nd} {L : Nat → Loc} {lv iv : Value}

theorem OT.turn (h : OT W B k Z m O D L lv iv) {d0 : Nat} (hd0 : d0 < 2 + 2 * m) (hg : W.grownBy W' (valT lv iv D L d0).ownBlock) (hrow : ∀ d, d < 2 + 2 * m → d ≠ d0 → rowT k Z' m O' D' L d = rowT k Z m O D L d) (hval : ∀ d, d < 2 + 2 * m → valT lv iv D' L d = valT lv iv D L d)
    (hown : W'.ownsRow B (rowT k Z' m O' D' L d0).e (rowT k Z' m O' D' L d0).size (valT lv iv D L d0) (rowT k Z' m O' D' L d0).n (rowT k Z' m O' D' L d0).xs) : OT W' B k Z' m O' D' L lv iv := by
  refine ⟨⟨fun d hl => ?_, fun d1 d2 g1 g2 hne b h1 h2 => ?_⟩⟩
  · rw [hval d hl]
    by_cases e : d = d0
    · subst e; exact hown
    · rw [hrow d hl e]
      exact owns_kept (h.rows.own d hl) hg fun b hb => Ne.symm (Ne.symm (h.rows.apart d d0 hl hd0 e b hb))
  · rw [hval d1 g1] at h1
    rw [hval d2 g2] at h2
    exact h.rows.apart d1 d2 g1 g2 hne b h1 h2

/-- The same lengths everywhere: the same addresses. -/
theorem valT_same (hl : ∀ i, i < m → (D' i).nn = (D i).nn ∧ (D' i).kn = (D i).kn) : ∀ d, d < 2 + 2 * m → valT lv iv D' L d = valT lv iv D L d := fun d hd => by
  unfold valT
  by_cases e0 : d = 0
  · rw [if_pos e0, if_pos e0]
  · by_cases e1 : d = 1
    · rw [if_neg e0, if_pos e1, if_neg e0, if_pos e1]
    · rw [if_neg e0, if_neg e1, if_neg e0, if_neg e1, (hl ((d - 2) / 2) (by omega)).1, (hl ((d - 2) / 2) (by omega)).2]

/-- The truth values are others. -/
theorem OT.turnLive (h : OT W B k Z m O D L lv iv) (hg : W.grownBy W' lv.ownBlock) (hown : W'.ownsRow B 4 1 lv k (boolv k Z')) : OT W' B k Z' m O D L lv iv :=
  h.turn (d0 := 0) (by omega) (by simpa [valT] using hg) (fun d hl hne => rowT_rest hne) (fun d hl => rfl) (by simpa [rowT, valT] using hown)

/-- The list of places holds others, of the same lists. -/
theorem OT.turnItems (h : OT W B k Z m O D L lv iv) (hl : ∀ i, i < m → (D' i).nn = (D i).nn ∧ (D' i).kn = (D i).kn ∧ (D' i).names = (D i).names ∧ (D' i).kids = (D i).kids) (hg : W.grownBy W' iv.ownBlock) (hown : W'.ownsRow B 58 5 iv m (rowsT O' D' L m)) : OT W' B k Z m O' D' L lv iv :=
  h.turn (d0 := 1) (by omega) (by simpa [valT] using hg) (fun d hd hne => by
    unfold rowT
    by_cases e0 : d = 0
    · rw [if_pos e0, if_pos e0]
    · obtain ⟨a1, a2, a3, a4⟩ := hl ((d - 2) / 2) (by omega)
      rw [if_neg e0, if_neg hne, if_neg e0, if_neg hne, a1, a2, a3, a4]) (valT_same fun i hi => ⟨(hl i hi).1, (hl i hi).2.1⟩) (by simpa [rowT, valT] using hown)

/-- The names of a place are others. -/
theorem OT.turnNames (h : OT W B k Z m O D L lv iv) {i : Nat} (hi : i < m) (S : Nat → ByteArray) (hg : W.grownBy W' (Value.slice (L i).nA (D i).nn (L i).nc).ownBlock) (hown : W'.ownsRow B 9 1 (.slice (L i).nA (D i).nn (L i).nc) (D i).nn (strv (lst (D i).nn S))) :
    OT W' B k Z m O (fun j => if j = i then { D i with names := S } else D j) L lv iv := by
  have hd : (2 + 2 * i - 2) / 2 = i := by omega
  have hv : valT lv iv D L (2 + 2 * i) = .slice (L i).nA (D i).nn (L i).nc := by unfold valT; rw [if_neg (by omega), if_neg (by omega), if_pos (by omega), hd]
  refine h.turn (d0 := 2 + 2 * i) (by omega) (by rw [hv]; exact hg) (fun d hdl hne => ?_) (valT_same fun j hj => by by_cases e : j = i <;> simp [e]) ?_
  · have hrows : rowsT O (fun j => if j = i then { D i with names := S } else D j) L m = rowsT O D L m := by
      have key : ∀ q, rowsT O (fun j => if j = i then { D i with names := S } else D j) L q = rowsT O D L q := fun q => by
        induction q with
        | zero => rfl
        | succ q ih =>
          rw [rowsT, rowsT, ih]
          by_cases e : q = i
          · subst e; simp [nt5]
          · simp [e]
      exact key m
    unfold rowT
    by_cases e0 : d = 0
    · rw [if_pos e0, if_pos e0]
    · by_cases e1 : d = 1
      · rw [if_neg e0, if_pos e1, if_neg e0, if_pos e1, hrows]
      · rw [if_neg e0, if_neg e1, if_neg e0, if_neg e1]
        by_cases e : (d - 2) / 2 = i
        · have : d % 2 ≠ 0 := by omega
          rw [if_neg this, if_neg this]
          simp [e]
        · simp [e]
  · rw [hv]
    unfold rowT
    rw [if_neg (by omega), if_neg (by omega), if_pos (by omega), hd]
    simpa using hown

/-- The places in a directory are others. -/
theorem OT.turnKids (h : OT W B k Z m O D L lv iv) {i : Nat} (hi : i < m) (K : Nat → Int) (hg : W.grownBy W' (Value.slice (L i).kA (D i).kn (L i).kc).ownBlock) (hown : W'.ownsRow B 3 1 (.slice (L i).kA (D i).kn (L i).kc) (D i).kn (intv0 (D i).kn K)) :
    OT W' B k Z m O (fun j => if j = i then { D i with kids := K } else D j) L lv iv := by
  have hd : (3 + 2 * i - 2) / 2 = i := by omega
  have hv : valT lv iv D L (3 + 2 * i) = .slice (L i).kA (D i).kn (L i).kc := by unfold valT; rw [if_neg (by omega), if_neg (by omega), if_neg (by omega), hd]
  refine h.turn (d0 := 3 + 2 * i) (by omega) (by rw [hv]; exact hg) (fun d hdl hne => ?_) (valT_same fun j hj => by by_cases e : j = i <;> simp [e]) ?_
  · have hrows : rowsT O (fun j => if j = i then { D i with kids := K } else D j) L m = rowsT O D L m := by
      have key : ∀ q, rowsT O (fun j => if j = i then { D i with kids := K } else D j) L q = rowsT O D L q := fun q => by
        induction q with
        | zero => rfl
        | succ q ih =>
          rw [rowsT, rowsT, ih]
          by_cases e : q = i
          · subst e; simp [nt5]
          · simp [e]
      exact key m
    unfold rowT
    by_cases e0 : d = 0
    · rw [if_pos e0, if_pos e0]
    · by_cases e1 : d = 1
      · rw [if_neg e0, if_pos e1, if_neg e0, if_pos e1, hrows]
      · rw [if_neg e0, if_neg e1, if_neg e0, if_neg e1]
        by_cases e : (d - 2) / 2 = i
        · have : d % 2 = 0 := by omega
          rw [if_pos this, if_pos this]
          simp [e]
        · simp [e]
  · rw [hv]
    unfold rowT
    rw [if_neg (by omega), if_neg (by omega), if_neg (by omega), hd]
    simpa using hown
end

section
variable {O O' : Nat → Int} {D D' : Nat → Nd} {L : Nat → Loc}

theorem rowsT_set {m i r : Nat} {u : Value} (hi : i < m) (hr : r < 5) (hx : nt5 (O' i) (D' i) (L i) = (nt5 (O i) (D i) (L i)).set r u) (ho : ∀ j, j < m → j ≠ i → O' j = O j ∧ D' j = D j) : (rowsT O D L m).set (i * 5 + r) u = rowsT O' D' L m := by
  apply List.ext_getElem?
  intro q
  by_cases hq : q < m * 5
  · have h1 := rowsT_get (O := O') (D := D') (L := L) m (q / 5) (by omega) (q % 5) (by omega)
    have h2 := rowsT_get (O := O) (D := D) (L := L) m (q / 5) (by omega) (q % 5) (by omega)
    rw [show q / 5 * 5 + q % 5 = q by omega] at h1 h2
    rw [h1, List.getElem?_set]
    by_cases e : q / 5 = i
    · rw [e, hx, List.getElem?_set]
      by_cases e2 : i * 5 + r = q
      · have e3 : r = q % 5 := by omega
        rw [if_pos e2, if_pos (by rw [rowsT_len]; omega), if_pos e3, if_pos (by simp [nt5]; omega)]
      · have e3 : r ≠ q % 5 := by omega
        rw [if_neg e2, if_neg e3, h2, e]
    · obtain ⟨a1, a2⟩ := ho (q / 5) (by omega) e
      rw [if_neg (by omega), h2, a1, a2]
  · rw [List.getElem?_eq_none (by rw [List.length_set, rowsT_len]; omega), List.getElem?_eq_none (by rw [rowsT_len]; omega)]
end

section
variable {W : World} {B k : Nat} {Z : Nat → Bool} {m : Nat} {O : Nat → Int} {D : Nat → Nd} {L : Nat → Loc} {lv iv : Value} {g ic : Nat}

/-- The cells of a place that was turned. -/
theorem OT.cells (h : OT W B k Z m O D L lv (.slice (some ⟨g, 0, none⟩) m ic)) {i : Nat} (hi : i < m) : W.cell? ⟨g, i * 5, none⟩ = some (.int .i64 (D i).kind) ∧ W.cell? ⟨g, i * 5 + 1, none⟩ = some (.string (D i).text) ∧
    W.cell? ⟨g, i * 5 + 2, none⟩ = some (.slice (L i).nA (D i).nn (L i).nc) ∧ W.cell? ⟨g, i * 5 + 3, none⟩ = some (.slice (L i).kA (D i).kn (L i).kc) ∧ W.cell? ⟨g, i * 5 + 4, none⟩ = some (.int .i64 (D i).turn) := by
  have key : ∀ r, r < 5 → W.cell? ⟨g, i * 5 + r, none⟩ = (nt5 (O i) (D i) (L i))[r]? := fun r hr => by
    rw [h.ownI.cellAt (i * 5 + r) (by omega), rowsT_get m i hi r hr]
  exact ⟨key 0 (by omega), key 1 (by omega), key 2 (by omega), key 3 (by omega), key 4 (by omega)⟩

theorem OT.free (h : OT W B k Z m O D L lv (.slice (some ⟨g, 0, none⟩) m ic)) (j : Nat) : W.frozen? ⟨g, j, none⟩ = false := h.ownI.frozenAt j

theorem OT.putKind (h : OT W B k Z m O D L lv (.slice (some ⟨g, 0, none⟩) m ic)) {i : Nat} (hi : i < m) (z : Int) : OT (W.setCell ⟨g, i * 5, none⟩ (.int .i64 z)) B k Z m O (fun j => if j = i then { D i with kind := z } else D j) L lv (.slice (some ⟨g, 0, none⟩) m ic) := by
  obtain ⟨h1, h2⟩ := h.ownI.stored (i * 5 + 0) (.int .i64 z)
  rw [rowsT_set (O' := O) (D' := fun j => if j = i then { D i with kind := z } else D j) hi (by omega) (by simp [nt5]) (fun j hj e => by simp [e])] at h1
  exact h.turnItems (fun j hj => by by_cases e : j = i <;> simp [e]) h2 h1

theorem OT.putText (h : OT W B k Z m O D L lv (.slice (some ⟨g, 0, none⟩) m ic)) {i : Nat} (hi : i < m) (s : ByteArray) : OT (W.setCell ⟨g, i * 5 + 1, none⟩ (.string s)) B k Z m O (fun j => if j = i then { D i with text := s } else D j) L lv (.slice (some ⟨g, 0, none⟩) m ic) := by
  obtain ⟨h1, h2⟩ := h.ownI.stored (i * 5 + 1) (.string s)
  rw [rowsT_set (O' := O) (D' := fun j => if j = i then { D i with text := s } else D j) hi (by omega) (by simp [nt5]) (fun j hj e => by simp [e])] at h1
  exact h.turnItems (fun j hj => by by_cases e : j = i <;> simp [e]) h2 h1

theorem OT.putTurn (h : OT W B k Z m O D L lv (.slice (some ⟨g, 0, none⟩) m ic)) {i : Nat} (hi : i < m) (z : Int) : OT (W.setCell ⟨g, i * 5 + 4, none⟩ (.int .i64 z)) B k Z m O (fun j => if j = i then { D i with turn := z } else D j) L lv (.slice (some ⟨g, 0, none⟩) m ic) := by
  obtain ⟨h1, h2⟩ := h.ownI.stored (i * 5 + 4) (.int .i64 z)
  rw [rowsT_set (O' := O) (D' := fun j => if j = i then { D i with turn := z } else D j) hi (by omega) (by simp [nt5]) (fun j hj e => by simp [e])] at h1
  exact h.turnItems (fun j hj => by by_cases e : j = i <;> simp [e]) h2 h1

theorem OT.ownN (h : OT W B k Z m O D L lv iv) {i : Nat} (hi : i < m) : W.ownsRow B 9 1 (.slice (L i).nA (D i).nn (L i).nc) (D i).nn (strv (lst (D i).nn (D i).names)) := by
  have hd : (2 + 2 * i - 2) / 2 = i := by omega
  have := h.rows.own (2 + 2 * i) (by omega)
  unfold rowT valT at this
  rw [if_neg (by omega), if_neg (by omega), if_pos (by omega), if_neg (by omega), if_neg (by omega), if_pos (by omega), hd] at this
  exact this

theorem OT.ownK (h : OT W B k Z m O D L lv iv) {i : Nat} (hi : i < m) : W.ownsRow B 3 1 (.slice (L i).kA (D i).kn (L i).kc) (D i).kn (intv0 (D i).kn (D i).kids) := by
  have hd : (3 + 2 * i - 2) / 2 = i := by omega
  have := h.rows.own (3 + 2 * i) (by omega)
  unfold rowT valT at this
  rw [if_neg (by omega), if_neg (by omega), if_neg (by omega), if_neg (by omega), if_neg (by omega), if_neg (by omega), hd] at this
  exact this
end


end Go.Proofs.YtfdjfndpeeomkaaGreatDoor

/-
  What markTree does at a tree in memory of one's own, and what heldTree tells of it.
-/
namespace Go.Proofs.YtfdjfndpeeomkaaGreatDoor
open Go.RowKit Go.Deep
set_option linter.unusedVariables false
set_option linter.unusedSimpArgs false

/-- The first mark of place j. -/
def kaT (D : Nat → Nd) (k0 : Nat) : Nat → Nat | 0 => k0 | j + 1 => kaT D k0 j + (3 + (D j).nn + (D j).kn)
/-- A place, marked from q on. -/
def markNt (d : Nd) (q : Nat) : Nd := ⟨((q : Nat) : Int), ⟨(markOf (q + 1)).toArray⟩, d.nn, marks (q + 2), d.kn, fun i => ((q + 2 + d.nn + i : Nat) : Int), ((q + 2 + d.nn + d.kn : Nat) : Int)⟩
def markT (D : Nat → Nd) (k0 j : Nat) : Nat → Nd := fun i => if i < j then markNt (D i) (kaT D k0 i) else D i

theorem kaT_mono (D : Nat → Nd) (k0 : Nat) {i j : Nat} (h : i ≤ j) : kaT D k0 i ≤ kaT D k0 j := by
  induction h with
  | refl => exact Nat.le_refl _
  | step _ ih => rw [kaT]; omega

theorem valT_n {lv iv : Value} {D : Nat → Nd} {L : Nat → Loc} {j : Nat} : valT lv iv D L (2 + 2 * j) = .slice (L j).nA (D j).nn (L j).nc := by unfold valT; rw [if_neg (by omega), if_neg (by omega), if_pos (by omega), show (2 + 2 * j - 2) / 2 = j by omega]
theorem valT_k {lv iv : Value} {D : Nat → Nd} {L : Nat → Loc} {j : Nat} : valT lv iv D L (3 + 2 * j) = .slice (L j).kA (D j).kn (L j).kc := by unfold valT; rw [if_neg (by omega), if_neg (by omega), if_neg (by omega), show (3 + 2 * j - 2) / 2 = j by omega]

theorem kaT_ge (D : Nat → Nd) (k0 i : Nat) : k0 ≤ kaT D k0 i := kaT_mono D k0 (Nat.zero_le i)

set_option maxRecDepth 100000 in
set_option maxHeartbeats 4000000 in
theorem markNodeS_own (H : Nat) (ia : Option Addr) (m ic k0 B k : Nat) (Z : Nat → Bool) (O : Nat → Int) (D : Nat → Nd) (L : Nat → Loc) (lv : Value) (w : World) (h : OT w B k Z m O D L lv (.slice ia m ic)) (hm : m ≤ 1048576) (hk1 : 1 ≤ k0) (hH : ∀ d b, d < 2 + 2 * m → (valT lv (.slice ia m ic) D L d).ownBlock = some b → b < H) (hkaT : kaT D k0 m ≤ 90000000) (hsz : ∀ i, i < m → (D i).nn ≤ 1048576 ∧ (D i).kn ≤ 1048576) :
    Calls Tryz.prog 64 #[.slice ia m ic, .int .i64 k0] w fun e w' => e = .returned (.int .i64 (kaT D k0 m : Nat)) ∧ Fr B H w w' ∧ OT w' B k Z m O (markT D k0 m) L lv (.slice ia m ic) := by
  go_enter Tryz.func64, Tryz.ntmps64
  go_wp2
  go_loopw [1, 5] (fun kk i wr => ∃ j : Nat, j ≤ m ∧ i = .int .i64 j ∧ kk = .int .i64 (kaT D k0 j : Nat) ∧ Fr B H w wr ∧ OT wr B k Z m O (markT D k0 j) L lv (.slice ia m ic)) (fun _ i _ => m - (intOf i).toNat)
  case atStart => exact ⟨0, Nat.zero_le _, rfl, rfl, Fr.refl _ _ _, by rw [show markT D k0 0 = D from by funext i; simp [markT]]; exact h⟩
  case round =>
    obtain ⟨j, hj, rfl, rfl, hb, hod⟩ := hrel
    by_cases hlt : j < m
    · obtain ⟨g, rfl, hgl⟩ := owns_addr hod.ownI (by omega)
      have hBg : B ≤ g := (owns_block hod.ownI rfl).1
      have hgH : g < H := hH 1 g (by omega) rfl
      have hlti : (j : Int) < (m : Int) := by omega
      have hq1 := kaT_ge D k0 j
      have hq2 := kaT_mono D k0 (show j + 1 ≤ m by omega)
      have hq3 : kaT D k0 (j + 1) = kaT D k0 j + (3 + (D j).nn + (D j).kn) := rfl
      obtain ⟨hs1, hs2⟩ := hsz j hlt
      generalize hq : kaT D k0 j = q at *
      have HQ : Hid (kaT D k0 j = q) := hq
      clear hq
      have hqb : q ≤ 90000000 := by omega
      have hDj : markT D k0 j j = D j := by simp [markT]
      obtain ⟨c1, c2, c3, c4, c5⟩ := hod.cells hlt
      have f1 := hod.free (j * 5)
      have f2 := hod.free (j * 5 + 1)
      have f5 := hod.free (j * 5 + 4)
      rw [hDj] at c1 c2 c3 c4 c5
      have H0 : Hid (Fr B H w wr ∧ OT wr B k Z m O (markT D k0 j) L lv (.slice (some ⟨g, 0, none⟩) m ic)) := ⟨hb, hod⟩
      have H2 : Hid (Fr B H w (wr.setCell ⟨g, j * 5, none⟩ (.int .i64 (q : Int))) ∧ OT (wr.setCell ⟨g, j * 5, none⟩ (.int .i64 (q : Int))) B k Z m O (fun i => if i = j then { D j with kind := (q : Int) } else markT D k0 j i) L lv (.slice (some ⟨g, 0, none⟩) m ic)) := ⟨hb.put _ hBg hgH, by have := hod.putKind hlt (q : Int); rw [hDj] at this; exact this⟩
      clear hb hod H0
      go_wp2_with fail
      have e2 : (q : Int) + 1 = ((q + 1 : Nat) : Int) := by omega
      rw [e2]
      clear e2
      refine at_world (F := fun W => Fr B H w W ∧ OT W B k Z m O (fun i => if i = j then { D j with kind := (q : Int) } else markT D k0 j i) L lv (.slice (some ⟨g, 0, none⟩) m ic)) H2.out ?_
      clear H2 c1 c2 c3 c4 c5 f1 f2 f5
      rintro W2 ⟨hb2, hod2⟩
      refine (markText_any (q + 1) W2 (by omega) (by omega)).mono ?_
      rintro e W3 ⟨rfl, hb3⟩
      have hod3 := hod2.below hb3
      have hgl2 : g < W2.heap.size := (owns_block hod2.ownI rfl).2
      have hb3' : Fr B H w W3 := hb2.below (by omega) hb3
      obtain ⟨_, c2, _, _, _⟩ := hod3.cells hlt
      have f2 := hod3.free (j * 5 + 1)
      have c2' : W3.cell? ⟨g, j * 5 + 1, none⟩ = some (.string (D j).text) := by rw [c2]; simp
      have H4 : Hid (Fr B H w (W3.setCell ⟨g, j * 5 + 1, none⟩ (.string ⟨(markOf (q + 1)).toArray⟩)) ∧ OT (W3.setCell ⟨g, j * 5 + 1, none⟩ (.string ⟨(markOf (q + 1)).toArray⟩)) B k Z m O (fun i => if i = j then { D j with kind := (q : Int), text := ⟨(markOf (q + 1)).toArray⟩ } else markT D k0 j i) L lv (.slice (some ⟨g, 0, none⟩) m ic)) := ⟨hb3'.put _ hBg hgH, by
        have := hod3.putText hlt ⟨(markOf (q + 1)).toArray⟩
        rw [show (fun i => if i = j then { D j with kind := (q : Int), text := ⟨(markOf (q + 1)).toArray⟩ } else markT D k0 j i) = (fun i => if i = j then { (fun i => if i = j then { D j with kind := (q : Int) } else markT D k0 j i) j with text := ⟨(markOf (q + 1)).toArray⟩ } else (fun i => if i = j then { D j with kind := (q : Int) } else markT D k0 j i) i) from by
          funext i
          by_cases e : i = j <;> simp [e]]
        exact this⟩
      obtain ⟨_, _, c3, c4, _⟩ := H4.out.2.cells hlt
      have c3' : (W3.setCell ⟨g, j * 5 + 1, none⟩ (.string ⟨(markOf (q + 1)).toArray⟩)).cell? ⟨g, j * 5 + 2, none⟩ = some (.slice (L j).nA (D j).nn (L j).nc) := by rw [c3]; simp
      have d3 : W3.cell? ⟨g, j * 5 + 2, none⟩ = some (.slice (L j).nA (D j).nn (L j).nc) := by
        obtain ⟨_, _, c3, _, _⟩ := hod3.cells hlt
        rw [c3]; simp
      clear c2 c3 c4 c3' hod2 hod3 hb2 hb3 hb3'
      go_wp2_with fail
      have e3 : (q : Int) + 1 + 1 = ((q + 2 : Nat) : Int) := by omega
      rw [e3]
      clear e3
      refine at_world (F := fun W => Fr B H w W ∧ OT W B k Z m O (fun i => if i = j then { D j with kind := (q : Int), text := ⟨(markOf (q + 1)).toArray⟩ } else markT D k0 j i) L lv (.slice (some ⟨g, 0, none⟩) m ic)) H4.out ?_
      clear H4 c2' d3 f2
      rintro W4 ⟨hb4, hod4⟩
      have hN4 : W4.ownsRow B 9 1 (.slice (L j).nA (D j).nn (L j).nc) (D j).nn (strv (lst (D j).nn (D j).names)) := by simpa using hod4.ownN hlt
      have hgl4 : g < W4.heap.size := (owns_block hod4.ownI rfl).2
      refine (markStringS_own (L j).nA (D j).nn (L j).nc (q + 2) B (D j).names W4 hN4 hs1 (by omega) (by omega)).mono ?_
      rintro e W5 ⟨rfl, hown5, hg5⟩
      have hb5 : Fr B H w W5 := hb4.grow hg5 (by omega) (fun b e => ⟨(owns_block hN4 e).1, hH (2 + 2 * j) b (by omega) (by rw [valT_n]; exact e)⟩)
      have hod5 : OT W5 B k Z m O (fun i => if i = j then { D j with kind := (q : Int), text := ⟨(markOf (q + 1)).toArray⟩, names := marks (q + 2) } else markT D k0 j i) L lv (.slice (some ⟨g, 0, none⟩) m ic) := by
        have := hod4.turnNames hlt (marks (q + 2)) (by simpa using hg5) (by simpa using hown5)
        rw [show (fun i => if i = j then { D j with kind := (q : Int), text := ⟨(markOf (q + 1)).toArray⟩, names := marks (q + 2) } else markT D k0 j i) = (fun i => if i = j then { (fun i => if i = j then { D j with kind := (q : Int), text := ⟨(markOf (q + 1)).toArray⟩ } else markT D k0 j i) j with names := marks (q + 2) } else (fun i => if i = j then { D j with kind := (q : Int), text := ⟨(markOf (q + 1)).toArray⟩ } else markT D k0 j i) i) from by
          funext i
          by_cases e : i = j <;> simp [e]]
        exact this
      obtain ⟨_, _, _, c4, _⟩ := hod5.cells hlt
      have c4' : W5.cell? ⟨g, j * 5 + 3, none⟩ = some (.slice (L j).kA (D j).kn (L j).kc) := by rw [c4]; simp
      have hK5 : W5.ownsRow B 3 1 (.slice (L j).kA (D j).kn (L j).kc) (D j).kn (intv0 (D j).kn (D j).kids) := by simpa using hod5.ownK hlt
      have hgl5 : g < W5.heap.size := (owns_block hod5.ownI rfl).2
      have H5 : Hid (Fr B H w W5 ∧ OT W5 B k Z m O (fun i => if i = j then { D j with kind := (q : Int), text := ⟨(markOf (q + 1)).toArray⟩, names := marks (q + 2) } else markT D k0 j i) L lv (.slice (some ⟨g, 0, none⟩) m ic)) := ⟨hb5, hod5⟩
      have HK5 : Hid _ := hK5
      clear hb4 hod4 hN4 hown5 hg5 hb5 hod5 c4 hK5
      go_wp2_with fail
      refine (markIntS_own (L j).kA (D j).kn (L j).kc (q + 2 + (D j).nn) B (D j).kids W5 HK5.out hs2 (by omega)).mono ?_
      rintro e W6 ⟨rfl, hown6, hg6⟩
      have hb6 : Fr B H w W6 := H5.out.1.grow hg6 (by omega) (fun b e => ⟨(owns_block HK5.out e).1, hH (3 + 2 * j) b (by omega) (by rw [valT_k]; exact e)⟩)
      have hod6 : OT W6 B k Z m O (fun i => if i = j then { D j with kind := (q : Int), text := ⟨(markOf (q + 1)).toArray⟩, names := marks (q + 2), kids := fun i => ((q + 2 + (D j).nn + i : Nat) : Int) } else markT D k0 j i) L lv (.slice (some ⟨g, 0, none⟩) m ic) := by
        have := H5.out.2.turnKids hlt (fun i => ((q + 2 + (D j).nn + i : Nat) : Int)) (by simpa using hg6) (by simpa using hown6)
        rw [show (fun i => if i = j then { D j with kind := (q : Int), text := ⟨(markOf (q + 1)).toArray⟩, names := marks (q + 2), kids := fun i => ((q + 2 + (D j).nn + i : Nat) : Int) } else markT D k0 j i) = (fun i => if i = j then { (fun i => if i = j then { D j with kind := (q : Int), text := ⟨(markOf (q + 1)).toArray⟩, names := marks (q + 2) } else markT D k0 j i) j with kids := fun i => ((q + 2 + (D j).nn + i : Nat) : Int) } else (fun i => if i = j then { D j with kind := (q : Int), text := ⟨(markOf (q + 1)).toArray⟩, names := marks (q + 2) } else markT D k0 j i) i) from by
          funext i
          by_cases e : i = j <;> simp [e]]
        exact this
      obtain ⟨_, _, _, _, c5⟩ := hod6.cells hlt
      have c5' : W6.cell? ⟨g, j * 5 + 4, none⟩ = some (.int .i64 (D j).turn) := by rw [c5]; simp
      have f5 := hod6.free (j * 5 + 4)
      have H7 : Hid (Fr B H w (W6.setCell ⟨g, j * 5 + 4, none⟩ (.int .i64 ((q + 2 + (D j).nn + (D j).kn : Nat) : Int))) ∧ OT (W6.setCell ⟨g, j * 5 + 4, none⟩ (.int .i64 ((q + 2 + (D j).nn + (D j).kn : Nat) : Int))) B k Z m O (markT D k0 (j + 1)) L lv (.slice (some ⟨g, 0, none⟩) m ic)) := ⟨hb6.put _ hBg hgH, by
        have := hod6.putTurn hlt ((q + 2 + (D j).nn + (D j).kn : Nat) : Int)
        rw [show markT D k0 (j + 1) = (fun i => if i = j then { (fun i => if i = j then { D j with kind := (q : Int), text := ⟨(markOf (q + 1)).toArray⟩, names := marks (q + 2), kids := fun i => ((q + 2 + (D j).nn + i : Nat) : Int) } else markT D k0 j i) j with turn := ((q + 2 + (D j).nn + (D j).kn : Nat) : Int) } else (fun i => if i = j then { D j with kind := (q : Int), text := ⟨(markOf (q + 1)).toArray⟩, names := marks (q + 2), kids := fun i => ((q + 2 + (D j).nn + i : Nat) : Int) } else markT D k0 j i) i) from by
          funext i
          by_cases e : i = j
          · subst e; simp [markT, markNt, HQ.out]
          · by_cases e2 : i < j
            · simp [markT, e, e2, show i < j + 1 by omega]
            · simp [markT, e, e2, show ¬ i < j + 1 by omega]]
        exact this⟩
      have HQ3 : Hid (kaT D k0 (j + 1) = q + (3 + (D j).nn + (D j).kn)) := by show _ = _; rw [kaT, HQ.out]
      clear hown6 hg6 hb6 hod6 c5 H5 HK5 c4' hq1 hq2 hq3
      go_wp2_with fail
      go_roundw
      case rel =>
        have h7 := H7.out
        rw [show ((q + 2 + (D j).nn + (D j).kn : Nat) : Int) = (q : Int) + 2 + ((D j).nn : Int) + ((D j).kn : Int) from by omega] at h7
        exact ⟨j + 1, by omega, by go_num, by rw [HQ3.out]; go_num, h7.1, h7.2⟩
      case measure => simp [intOf]; omega
    · obtain rfl : j = m := by omega
      have HR : Hid _ := And.intro hb hod
      clear hb hod
      go_wp2
      go_ret
      exact ⟨rfl, HR.out.1, HR.out.2⟩

set_option maxRecDepth 100000 in
set_option maxHeartbeats 4000000 in
theorem heldNodeS_own (ia : Option Addr) (m ic k0 B k : Nat) (Z : Nat → Bool) (O : Nat → Int) (D : Nat → Nd) (L : Nat → Loc) (lv : Value) (w : World) (h : OT w B k Z m O (markT D k0 m) L lv (.slice ia m ic)) (hm : m ≤ 1048576) (hk1 : 1 ≤ k0) (hkaT : kaT D k0 m ≤ 90000000) (hsz : ∀ i, i < m → (D i).nn ≤ 1000000 ∧ (D i).kn ≤ 1000000) :
    Calls Tryz.prog 67 #[.slice ia m ic, .int .i64 k0] w fun e w' => e = .returned (.int .i64 (kaT D k0 m : Nat)) ∧ Below w.heap.size w w' := by
  go_enter Tryz.func67, Tryz.ntmps67
  go_wp2
  go_loopw [1, 5] (fun kk i wr => ∃ j : Nat, j ≤ m ∧ i = .int .i64 j ∧ kk = .int .i64 (kaT D k0 j : Nat) ∧ Below w.heap.size w wr) (fun _ i _ => m - (intOf i).toNat)
  case atStart => exact ⟨0, Nat.zero_le _, rfl, rfl, Below.refl _ _⟩
  case round =>
    obtain ⟨j, hj, rfl, rfl, hb⟩ := hrel
    by_cases hlt : j < m
    · have hod := h.below hb
      obtain ⟨g, rfl, hgl⟩ := owns_addr hod.ownI (by omega)
      have hlti : (j : Int) < (m : Int) := by omega
      have hq1 := kaT_ge D k0 j
      have hq2 := kaT_mono D k0 (show j + 1 ≤ m by omega)
      have hq3 : kaT D k0 (j + 1) = kaT D k0 j + (3 + (D j).nn + (D j).kn) := rfl
      obtain ⟨hs1, hs2⟩ := hsz j hlt
      have hDj : markT D k0 m j = markNt (D j) (kaT D k0 j) := by simp [markT, hlt]
      generalize hq : kaT D k0 j = q at *
      have HQ : Hid (kaT D k0 j = q) := hq
      clear hq
      have hqb : q ≤ 90000000 := by omega
      have HQ3 : Hid (kaT D k0 (j + 1) = q + (3 + (D j).nn + (D j).kn)) := hq3
      have HC : Hid (∀ W, Below wr.heap.size wr W → W.cell? ⟨g, j * 5, none⟩ = some (.int .i64 ((q : Int))) ∧ W.cell? ⟨g, j * 5 + 1, none⟩ = some (.string ⟨(markOf (q + 1)).toArray⟩) ∧
        W.cell? ⟨g, j * 5 + 2, none⟩ = some (.slice (L j).nA (D j).nn (L j).nc) ∧ W.cell? ⟨g, j * 5 + 3, none⟩ = some (.slice (L j).kA (D j).kn (L j).kc) ∧ W.cell? ⟨g, j * 5 + 4, none⟩ = some (.int .i64 ((q : Int) + 2 + ((D j).nn : Int) + ((D j).kn : Int))) ∧
        IsStrs W (L j).nA (D j).nn (marks (q + 2)) ∧ IsInts W (L j).kA (D j).kn (fun i => ((q + 2 + (D j).nn + i : Nat) : Int)) ∧ Below w.heap.size w W) := fun W hW => by
        have hod2 := hod.below hW
        obtain ⟨c1, c2, c3, c4, c5⟩ := hod2.cells hlt
        have hn := hod2.ownN hlt
        have hk := hod2.ownK hlt
        rw [hDj] at c1 c2 c3 c4 c5 hn hk
        refine ⟨?_, c2, c3, c4, ?_, ownd_strs hn, ownd_ints hk, hb.trans (hW.mono hb.size)⟩
        · rw [c1]; simp [markNt]
        · rw [c5]; simp [markNt]
      clear hod hb hDj hq1 hq2 hq3
      obtain ⟨c1, c2, c3, c4, c5, _, _, _⟩ := HC.out wr (Below.refl _ _)
      have z1 : ((q : Int) != (q : Int)) = false := by simp
      have C2 := Lat.cell (B := wr.heap.size) c2 hgl
      have hcall : Hid (∀ nq : Lat wr.heap.size wr, Calls Tryz.prog 73 #[.int .i64 ((q : Int) + 1)] nq.val fun e w'' => e = .returned (.string ⟨(markOf (q + 1)).toArray⟩) ∧ ∃ m : Lat wr.heap.size wr, w'' = m.val) := fun nq => by
        have := Calls.lat_of (markText_any (q + 1) nq.val (by omega) (by omega)) (B := wr.heap.size) (w0 := wr) (fun e w' h => ⟨h.1, h.2.mono nq.bel.size⟩)
        rw [show ((q : Int) + 1) = ((q + 1 : Nat) : Int) from by omega]
        exact this
      have z2 : (!((⟨(markOf (q + 1)).toArray⟩ : ByteArray).toList == (⟨(markOf (q + 1)).toArray⟩ : ByteArray).toList)) = false := by simp
      go_wp2_with fail
      refine wp_region_lat (B := wr.heap.size) (w0 := wr) (by kernel_rfl) (by kernel_rfl) (Below.refl _ _) ?_
      repeat (go_big_quiet_step (exact hcall.out _))
      refine wpQuiet_nil ?_
      rintro _ ⟨nq, rfl⟩
      clear hcall C2 c1 c2 c3 c4 c5
      obtain ⟨_, _, c3, c4, c5, hs3, _, _⟩ := HC.out nq.val nq.bel
      go_wp2_with fail
      rw [show (q : Int) + 1 + 1 = ((q + 2 : Nat) : Int) from by omega]
      refine (heldStringS_any (L j).nA (D j).nn (L j).nc (q + 2) nq.val hs3 (by omega) (by omega) (by omega)).mono ?_
      rintro e W4 ⟨rfl, hb4⟩
      have hb4' : Below wr.heap.size wr W4 := nq.bel.trans (hb4.mono nq.bel.size)
      clear c3 c4 c5 hs3 hb4
      obtain ⟨_, _, _, c4, c5, _, hi4, hbw⟩ := HC.out W4 hb4'
      have y1 : decide (((q + 2 + (D j).nn : Nat) : Int) < 0) = false := by simp; omega
      have HB4 : Hid (Below w.heap.size w W4) := hbw
      clear hbw hb4' HC
      go_wp2_with fail
      refine (heldIntS_own (L j).kA (D j).kn (L j).kc (q + 2 + (D j).nn) W4 hi4 (by omega) (by omega)).mono ?_
      rintro e W5 ⟨rfl, rfl⟩
      have y2 : decide (((q + 2 + (D j).nn + (D j).kn : Nat) : Int) < 0) = false := by simp; omega
      have y3 : ((q : Int) + 2 + ((D j).nn : Int) + ((D j).kn : Int) != (q : Int) + 2 + ((D j).nn : Int) + ((D j).kn : Int)) = false := by simp
      clear hi4 y1
      go_wp2_with fail
      go_roundw
      case rel => exact ⟨j + 1, by omega, by go_num, by rw [HQ3.out]; go_num, HB4.out⟩
      case measure => simp [intOf]; omega
    · obtain rfl : j = m := by omega
      have HR : Hid _ := hb
      clear hb
      go_wp2
      go_ret
      exact ⟨rfl, HR.out⟩


set_option maxHeartbeats 2000000 in
theorem markTree_own (a : Option Addr) (n c k0 B : Nat) (now : Int) (O : Nat → Int) (D : Nat → Nd) (L : Nat → Loc) (w : World) (h : OT w B 0 (fun _ => false) n O D L (.slice none 0 0) (.slice a n c)) (hn : n ≤ 1048576) (hk1 : 1 ≤ k0) (hkap : kaT D k0 n ≤ 90000000) (hsz : ∀ i, i < n → (D i).nn ≤ 1048576 ∧ (D i).kn ≤ 1048576) (hB : B ≤ w.heap.size) (H : Nat) (hH : ∀ d b, d < 2 + 2 * n → (valT (.slice none 0 0) (.slice a n c) D L d).ownBlock = some b → b < H) :
    Calls Tryz.prog 17 #[trV a n c now, .int .i64 k0] w fun e w' => e = .returned (.int .i64 (kaT D k0 n : Nat)) ∧ Fr B H w w' ∧ OT w' B 0 (fun _ => false) n O (markT D k0 n) L (.slice none 0 0) (.slice a n c) := by
  unfold trV
  go_enter Tryz.func17, Tryz.ntmps17
  go_wp2_with fail
  refine at_world (F := New1 w _ _) (new1 w _ _) ?_
  rintro W ⟨hp, hb, hs⟩
  refine (markNodeS_own H a n c k0 B 0 (fun _ => false) O D L (.slice none 0 0) W (h.below hb) hn hk1 hH hkap hsz).mono ?_
  rintro e W3 ⟨rfl, hb3, hod3⟩
  have H3 : Hid (Fr B H w W3 ∧ OT W3 B 0 (fun _ => false) n O (markT D k0 n) L (.slice none 0 0) (.slice a n c)) := ⟨⟨(hb.mono hB).trans hb3.bel, fun j hj hl => (hb3.far j hj (by omega)).trans (hb.block j hl)⟩, hod3⟩
  clear hb3 hod3 hp hb hs
  go_wp2
  go_ret
  exact ⟨rfl, H3.out.1, H3.out.2⟩

set_option maxHeartbeats 2000000 in
theorem heldTree_own (a : Option Addr) (n c k0 B : Nat) (now : Int) (O : Nat → Int) (D : Nat → Nd) (L : Nat → Loc) (w : World) (h : OT w B 0 (fun _ => false) n O (markT D k0 n) L (.slice none 0 0) (.slice a n c)) (hn : n ≤ 1048576) (hk1 : 1 ≤ k0) (hkap : kaT D k0 n ≤ 90000000) (hsz : ∀ i, i < n → (D i).nn ≤ 1000000 ∧ (D i).kn ≤ 1000000) :
    Calls Tryz.prog 19 #[trV a n c now, .int .i64 k0] w fun e w' => e = .returned (.int .i64 (kaT D k0 n : Nat)) ∧ Below w.heap.size w w' := by
  unfold trV
  go_enter Tryz.func19, Tryz.ntmps19
  go_wp2_with fail
  refine at_world (F := New1 w _ _) (new1 w _ _) ?_
  rintro W ⟨hp, hb, hs⟩
  refine (heldNodeS_own a n c k0 B 0 (fun _ => false) O D L (.slice none 0 0) W (h.below hb) hn hk1 hkap hsz).mono ?_
  rintro e W3 ⟨rfl, hb3⟩
  have y2 : decide (((kaT D k0 n : Nat) : Int) < 0) = false := by simp
  have H3 : Hid (Below w.heap.size w W3) := hb.trans (hb3.mono hb.size)
  clear hb3 hp hb hs
  go_wp2
  go_ret
  exact ⟨rfl, H3.out⟩

end Go.Proofs.YtfdjfndpeeomkaaGreatDoor

/-
  A tree that is brought back from what was kept: each of its places, and how it ends. Plain facts.
-/
namespace Go.Proofs.YtfdjfndpeeomkaaGreatDoor
open Go.RowKit Go.Deep
set_option linter.unusedVariables false
set_option linter.unusedSimpArgs false

/-- A free place. -/
def ndZero : Nd := ⟨0, ByteArray.empty, 0, fun _ => ByteArray.empty, 0, fun _ => 0, 0⟩

/-- A place that is brought back, if it is known. -/
def oneNd (n : Nat) (D : Nat → Nd) (d : Dp) (i : Nat) : Option Nd :=
  if d.live i then
    match ixOf d.ino d.m (i : Int) with
    | some k => some (d.nd k)
    | none => if i < n ∧ (D i).kind ≠ 0 then some (D i) else none
  else some ndZero

/-- The places. -/
def oneD (n : Nat) (D : Nat → Nd) (d : Dp) (i : Nat) : Nd := (oneNd n D d i).getD ndZero

/-- From how many places of the tree that there was. -/
def fromN (n : Nat) (d : Dp) : Nat := if d.since = 0 then 0 else n

/-- How it ends. -/
noncomputable def backCode (n : Nat) (D : Nat → Nd) (now : Int) (d : Dp) : Int :=
  open Classical in
  if d.ok = false ∨ (0 < d.since ∧ ¬ TreeGood n D now) then 3
  else if 0 < d.since ∧ now ≠ d.since then 1
  else if (∃ i, i < d.ln ∧ oneNd (fromN n d) D d i = none) ∨ ¬ TreeGood d.ln (oneD (fromN n d) D d) d.date then 2
  else 0

theorem code_form {n : Nat} {D : Nat → Nd} {now : Int} {d : Dp} (h : d.ok = false ∨ (0 < d.since ∧ ¬ TreeGood n D now)) : backCode n D now d = 3 := by
  unfold backCode; rw [if_pos h]

theorem code_other {n : Nat} {D : Nat → Nd} {now : Int} {d : Dp} (h : d.ok = true) (h1 : 0 < d.since) (hg : TreeGood n D now) (h2 : now ≠ d.since) : backCode n D now d = 1 := by
  unfold backCode
  rw [if_neg (by rintro (e | ⟨_, e⟩); (rw [h] at e; cases e); exact e hg), if_pos ⟨h1, h2⟩]

theorem code_bad {n : Nat} {D : Nat → Nd} {now : Int} {d : Dp} (h : d.ok = true) (h1 : 0 < d.since → TreeGood n D now ∧ now = d.since) (hb : (∃ i, i < d.ln ∧ oneNd (fromN n d) D d i = none) ∨ ¬ TreeGood d.ln (oneD (fromN n d) D d) d.date) : backCode n D now d = 2 := by
  unfold backCode
  rw [if_neg (by rintro (e | ⟨e1, e⟩); (rw [h] at e; cases e); exact e (h1 e1).1), if_neg (fun e => e.2 (h1 e.1).2), if_pos hb]

theorem code_fine {n : Nat} {D : Nat → Nd} {now : Int} {d : Dp} (h : d.ok = true) (h1 : 0 < d.since → TreeGood n D now ∧ now = d.since) (hk : ∀ i, i < d.ln → oneNd (fromN n d) D d i ≠ none) (hg : TreeGood d.ln (oneD (fromN n d) D d) d.date) : backCode n D now d = 0 := by
  unfold backCode
  rw [if_neg (by rintro (e | ⟨e1, e⟩); (rw [h] at e; cases e); exact e (h1 e1).1), if_neg (fun e => e.2 (h1 e.1).2), if_neg (by rintro (⟨i, hi, e⟩ | e); exact hk i hi e; exact e hg)]

theorem code_cases (n : Nat) (D : Nat → Nd) (now : Int) (d : Dp) : backCode n D now d = 0 ∨ backCode n D now d = 1 ∨ backCode n D now d = 2 ∨ backCode n D now d = 3 := by
  unfold backCode
  split
  · simp
  · split
    · simp
    · split
      · simp
      · simp

/-- What is known where it ends well. -/
theorem code_zero {n : Nat} {D : Nat → Nd} {now : Int} {d : Dp} (h : backCode n D now d = 0) : d.ok = true ∧ (0 < d.since → TreeGood n D now ∧ now = d.since) ∧ (∀ i, i < d.ln → oneNd (fromN n d) D d i ≠ none) ∧ TreeGood d.ln (oneD (fromN n d) D d) d.date := by
  unfold backCode at h
  split at h
  · omega
  · rename_i h1
    split at h
    · omega
    · rename_i h2
      split at h
      · omega
      · rename_i h3
        refine ⟨?_, fun e => ⟨?_, ?_⟩, fun i hi e => h3 (Or.inl ⟨i, hi, e⟩), ?_⟩
        · cases e : d.ok with
          | true => rfl
          | false => exact absurd (Or.inl e) h1
        · by_cases g : TreeGood n D now
          · exact g
          · exact absurd (Or.inr ⟨e, g⟩) h1
        · by_cases g : now = d.since
          · exact g
          · exact absurd ⟨e, g⟩ h2
        · by_cases g : TreeGood d.ln (oneD (fromN n d) D d) d.date
          · exact g
          · exact absurd (Or.inr g) h3

theorem ndZero_fits : ndZero.Fits := ⟨by simp [ndZero, In64], by simp [ndZero, In64], by unfold ndZero maxLen; simp, fun i hi => absurd hi (Nat.not_lt_zero _), by unfold ndZero maxLen; simp, by unfold ndZero maxLen; simp, fun i hi => absurd hi (Nat.not_lt_zero _)⟩

theorem ndZero_size : ndZero.size = 0 := rfl

/-- Where a place comes from. -/
theorem oneD_from (n : Nat) (D : Nat → Nd) (d : Dp) (i : Nat) : oneD n D d i = ndZero ∨ (∃ k, k < d.m ∧ oneD n D d i = d.nd k) ∨ (i < n ∧ oneD n D d i = D i) := by
  unfold oneD oneNd
  split
  · split
    · rename_i k hk; exact Or.inr (Or.inl ⟨k, (ixOf_some hk).1, rfl⟩)
    · split
      · rename_i h; exact Or.inr (Or.inr ⟨h.1, rfl⟩)
      · exact Or.inl rfl
  · exact Or.inl rfl

theorem oneD_fits {n : Nat} {D : Nat → Nd} {d : Dp} (hf : FitAll n D) (hfd : d.Fits) (k : Nat) : FitAll k (oneD n D d) := fun i _ => by
  rcases oneD_from n D d i with e | ⟨j, hj, e⟩ | ⟨hi, e⟩
  · rw [e]; exact ndZero_fits
  · rw [e]; exact hfd.nds j hj
  · rw [e]; exact hf i hi

theorem fromN_le (n : Nat) (d : Dp) : fromN n d ≤ n := by unfold fromN; split <;> omega

theorem FitAll.less {n m : Nat} {D : Nat → Nd} (h : FitAll n D) (hm : m ≤ n) : FitAll m D := fun i hi => h i (by omega)

/-- They count no more than what they come of. -/
theorem oneD_size {n : Nat} {D : Nat → Nd} {d : Dp} (hok : d.ok = true) : ∀ k, k ≤ d.ln → ∃ c, c ≤ d.m ∧ (∀ j, j < d.m → (d.ino j < (k : Int) ↔ j < c)) ∧ sizeTo (oneD n D d) k ≤ sizeTo D (min k n) + sizeTo d.nd c := by
  intro k
  induction k with
  | zero => exact fun _ => ⟨0, Nat.zero_le _, fun j hj => by have := (ok_live hok hj).1; constructor <;> intro h <;> omega, by simp [sizeTo]⟩
  | succ k ih =>
    intro hk
    obtain ⟨c, hc, hin, hs⟩ := ih (by omega)
    have hmono : sizeTo D (min k n) ≤ sizeTo D (min (k + 1) n) := sizeTo_mono D (by omega)
    by_cases hcm : c < d.m ∧ d.ino c = (k : Int)
    · obtain ⟨hcm, hck⟩ := hcm
      refine ⟨c + 1, by omega, fun j hj => ⟨fun h => ?_, fun h => ?_⟩, ?_⟩
      · rcases Nat.lt_or_ge c j with g | g
        · have := ok_asc hok j c g hj; omega
        · omega
      · by_cases e : j = c
        · subst e; omega
        · have := (hin j hj).2 (by omega); omega
      · rw [sizeTo_succ, sizeTo_succ]
        have hone : (oneD n D d k).size ≤ (d.nd c).size := by
          have hl := (ok_live hok hcm).2.2
          rw [hck] at hl
          unfold oneD oneNd
          rw [if_pos (by simpa using hl), ixOf_one (ok_inj hok) hcm hck]
          exact Nat.le_refl _
        omega
    · have hne : ∀ j, j < d.m → d.ino j ≠ (k : Int) := fun j hj e => by
        have h1 : ¬ j < c := fun h => by have := (hin j hj).2 h; omega
        have h2 : c < d.m := by omega
        have h3 : d.ino c ≤ d.ino j := by
          by_cases e2 : c = j
          · subst e2; exact Int.le_refl _
          · have := ok_asc hok j c (by omega) hj; omega
        have h4 : ¬ d.ino c < (k : Int) := fun h => by have := (hin c h2).1 h; omega
        exact hcm ⟨h2, by omega⟩
      refine ⟨c, hc, fun j hj => ⟨fun h => (hin j hj).1 (by have := hne j hj; omega), fun h => by have := (hin j hj).2 h; omega⟩, ?_⟩
      rw [sizeTo_succ]
      have hone : (oneD n D d k).size = 0 ∨ (k < n ∧ (oneD n D d k).size = (D k).size) := by
        rcases oneD_from n D d k with e | ⟨j, hj, e⟩ | ⟨hi, e⟩
        · rw [e]; exact Or.inl rfl
        · cases hx : ixOf d.ino d.m (k : Int) with
          | some q => exact absurd (ixOf_some hx).2 (hne q (ixOf_some hx).1)
          | none =>
            unfold oneD oneNd
            rw [hx]
            split
            · show (Option.getD (if k < n ∧ (D k).kind ≠ 0 then some (D k) else none) ndZero).size = 0 ∨ _
              split
              · rename_i h; exact Or.inr ⟨h.1, by simp [h]⟩
              · exact Or.inl rfl
            · exact Or.inl rfl
        · rw [e]; exact Or.inr ⟨hi, rfl⟩
      rcases hone with e | ⟨hkn, e⟩
      · omega
      · have e1 : min (k + 1) n = k + 1 := by omega
        have e2 : min k n = k := by omega
        rw [e1, sizeTo_succ]
        rw [e2] at hs
        omega

theorem one_small {n : Nat} {D : Nat → Nd} {d : Dp} (hok : d.ok = true) : sizeTo (oneD n D d) d.ln ≤ sizeTo D n + sizeTo d.nd d.m := by
  obtain ⟨c, hc, _, hs⟩ := oneD_size (n := n) (D := D) hok d.ln (Nat.le_refl _)
  have h1 := sizeTo_mono D (show min d.ln n ≤ n by omega)
  have h2 := sizeTo_mono d.nd hc
  omega

theorem tr_small {n : Nat} {D : Nat → Nd} {q : Nat} (h : sizeTo D n ≤ q) : ∀ i, i < n → (D i).nn ≤ q ∧ (D i).kn ≤ q ∧ (D i).text.size ≤ q ∧ ∀ j, j < (D i).nn → ((D i).names j).size ≤ q := fun i hi => by
  have h1 := size_le_sizeTo D n i hi
  unfold Nd.size at h1
  exact ⟨by omega, by omega, by omega, fun j hj => by have := size_le_sumTo (D i).names (D i).nn j hj; omega⟩
end Go.Proofs.YtfdjfndpeeomkaaGreatDoor

/-
  What the small helpers of the exact laws do at a list of texts that lies in memory: szStringS counts it, toStringS makes a copy of it, eqStringS holds two of them against each other.
-/
namespace Go.Proofs.YtfdjfndpeeomkaaGreatDoor
open Go.RowKit
set_option linter.unusedVariables false

set_option maxHeartbeats 400000 in
theorem szStringS_any (a : Option Addr) (n c : Nat) (S : Nat → ByteArray) (left : Int) (w : World) (hS : IsStrs w a n S) (hm : Small n S) (hn : n ≤ maxLen) (h0 : 0 ≤ left) (h1 : left ≤ 1048576) :
    Calls Tryz.prog 26 #[.slice a n c, .int .i64 left] w fun e w' => w = w' ∧ ∃ r : Int, e = .returned (.int .i64 r) ∧ r ≤ left ∧ (0 ≤ r → r + n + sumTo S n ≤ left) := by
  unfold maxLen at hn
  by_cases hbig : left < n
  · go_enter Tryz.func26, Tryz.ntmps26
    go_wp2
    go_ret
    exact ⟨rfl, -1, rfl, by omega, fun h => by omega⟩
  · go_enter Tryz.func26, Tryz.ntmps26
    go_wp2
    go_loop [1, 5] (fun l i => ∃ (k : Nat) (r : Int), k ≤ n ∧ 0 ≤ r ∧ i = .int .i64 k ∧ l = .int .i64 r ∧ r + n + sumTo S k = left) (fun _ i => n - (intOf i).toNat)
    case atStart => exact ⟨0, left - n, Nat.zero_le _, by omega, rfl, rfl, by simp [sumTo]⟩
    case round =>
      obtain ⟨k, r, hk, hr, rfl, rfl, hsum⟩ := hrel
      by_cases hlt : k < n
      · obtain ⟨b, off, rfl, hlt2, hc⟩ := hS.at hlt
        have hck := hc k hlt
        have hmk := hm k hlt
        have hss := sumTo_succ S k
        have HS : Hid (sumTo S (k + 1) = sumTo S k + (S k).size) := hss
        have HM : Hid (r + n + sumTo S k = left) := hsum
        unfold maxLen at hmk
        have hr2 : r ≤ 1048576 := by omega
        clear hc hss hsum
        go_wp2
        · go_ret
          exact ⟨rfl, -1, rfl, by omega, fun h => by omega⟩
        · go_round
          case rel => exact ⟨k + 1, r - (S k).size, by omega, by omega, by go_num, by go_num, by have e1 := HS.out; have e2 := HM.out; omega⟩
          case measure => simp [intOf]; omega
      · go_wp2
        go_ret
        exact ⟨rfl, r, rfl, by omega, fun _ => by have : k = n := by omega
                                                  subst this; omega⟩


theorem copy_step (S : Nat → ByteArray) (i k : Nat) : (if i = k then Value.string (S k) else if i < k then .string (S i) else .string ByteArray.empty) = if i < k + 1 then .string (S i) else .string ByteArray.empty := by
  by_cases h : i = k
  · subst h; simp
  · by_cases h2 : i < k
    · simp [h, h2, show i < k + 1 by omega]
    · simp [h, h2, show ¬ i < k + 1 by omega]

set_option maxHeartbeats 400000 in
theorem toStringS_any (a : Option Addr) (n c : Nat) (S : Nat → ByteArray) (w : World) (hS : IsStrs w a n S) (hn : n ≤ 1048576) :
    Calls Tryz.prog 28 #[.slice a n c] w fun e w' => e = .returned (.slice (some ⟨w.heap.size, 0, none⟩) n n) ∧ Below w.heap.size w w' ∧ w'.rowIs w.heap.size 9 n (fun i => .string (S i)) := by
  have hmk := fun w => run_make_row' (P := Tryz.prog) 54 9 (.string ByteArray.empty) 16 Tryz.underlying54 infoStr rfl .i64 .i64 n (by omega) (by omega) w
  go_enter Tryz.func28, Tryz.ntmps28
  go_wp2
  go_loopw [4] (fun i wr => ∃ k : Nat, k ≤ n ∧ i = .int .i64 k ∧ Below w.heap.size w wr ∧ wr.rowIs w.heap.size 9 n (fun j => if j < k then .string (S j) else .string ByteArray.empty)) (fun i _ => n - (intOf i).toNat)
  case atStart => exact ⟨0, Nat.zero_le _, rfl, (Below.refl _ _).alloc (Nat.le_refl _) _, (World.rowIs_made w (.string ByteArray.empty) n 9).congr (fun i _ => by simp)⟩
  case round =>
    obtain ⟨k, hk, rfl, hb, hrow⟩ := hrel
    by_cases hlt : k < n
    · obtain ⟨b, off, rfl, hlt2, hc⟩ := hS.at hlt
      have hck : wr.cell? ⟨b, off + k, none⟩ = some (.string (S k)) := by rw [hb.cell (p := ⟨b, off + k, none⟩) hlt2]; exact hc k hlt
      have hcr := hrow.cell hlt
      have hfr := hrow.frozen k
      have HB : Hid (Below w.heap.size w wr) := hb
      have HR : Hid (wr.rowIs w.heap.size 9 n (fun j => if j < k then .string (S j) else .string ByteArray.empty)) := hrow
      clear hc hb hrow
      go_wp2
      go_roundw
      case rel => exact ⟨k + 1, by omega, by go_num, HB.out.setCell (Nat.le_refl _) _, (HR.out.set k (.string (S k))).congr (fun i _ => copy_step S i k)⟩
      case measure => simp [intOf]; omega
    · have HB : Hid (Below w.heap.size w wr) := hb
      have HR : Hid (wr.rowIs w.heap.size 9 n (fun j => if j < k then .string (S j) else .string ByteArray.empty)) := hrow
      clear hb hrow
      go_wp2
      go_ret
      exact ⟨rfl, HB.out, HR.out.congr (fun i hi => by simp [show i < k by omega])⟩

set_option maxHeartbeats 400000 in
theorem eqStringS_any (a a' : Option Addr) (n c m c' : Nat) (S T : Nat → ByteArray) (w : World) (hS : IsStrs w a n S) (hT : IsStrs w a' m T) (hn : n ≤ maxLen) (hm : m ≤ maxLen) :
    Calls Tryz.prog 31 #[.slice a n c, .slice a' m c'] w fun e w' => (∃ q, w' = w.drewN q) ∧ e = .returned (.bool (decide (n = m) && eqS n S T)) := by
  unfold maxLen at hn hm
  by_cases hne : n = m
  · subst hne
    have hb : ((n : Int) != (n : Int)) = false := by simp
    go_enter Tryz.func31, Tryz.ntmps31
    go_wp2
    go_loopw [5] (fun i wr => ∃ k q : Nat, k ≤ n ∧ i = .int .i64 k ∧ wr = w.drewN q ∧ eqS k S T = true) (fun i _ => n - (intOf i).toNat)
    case atStart => exact ⟨0, 0, Nat.zero_le _, rfl, rfl, rfl⟩
    case round =>
      obtain ⟨k, q, hk, rfl, rfl, heq⟩ := hrel
      have HE : Hid (eqS k S T = true) := heq
      clear heq
      by_cases hlt : k < n
      · obtain ⟨b, off, rfl, hlt2, hc⟩ := hS.at hlt
        obtain ⟨b', off', rfl, hlt2', hc'⟩ := hT.at hlt
        have h1 := hc k hlt
        have h2 := hc' k hlt
        have hlti : (k : Int) < (n : Int) := by omega
        clear hc hc'
        go_wp2
        go_quiet (fail)
        go_wp2
        · go_ret
          exact ⟨⟨q + nq, by simp⟩, ret_bool (by rw [← eqS_not n k S T hlt ‹_›]; simp)⟩
        · go_roundw
          case rel => exact ⟨k + 1, q + nq, by omega, by go_num, rfl, eqS_succ k S T HE.out ‹_›⟩
          case measure => simp [intOf]; omega
      · have hkn : k = n := by omega
        have HK : Hid (k = n) := hkn
        clear hkn
        go_wp2
        go_ret
        exact ⟨⟨q, rfl⟩, ret_bool (by rw [← HK.out, HE.out]; simp)⟩
  · have hb : ((n : Int) != (m : Int)) = true := by simp; omega
    go_enter Tryz.func31, Tryz.ntmps31
    go_wp2
    go_ret
    exact ⟨⟨0, rfl⟩, ret_bool (by simp [hne])⟩

end Go.Proofs.YtfdjfndpeeomkaaGreatDoor

/-
  What the small helpers of the exact laws do at a list of numbers that lies in memory: szIntS counts it, toIntS makes a copy of it, eqIntS holds two of them against each other.
-/
namespace Go.Proofs.YtfdjfndpeeomkaaGreatDoor
open Go.RowKit
set_option linter.unusedVariables false

set_option maxHeartbeats 400000 in
theorem szIntS_any (a : Option Addr) (n c : Nat) (left : Int) (w : World) (hn : n ≤ maxLen) (h0 : 0 ≤ left) (h1 : left ≤ 1048576) :
    Calls Tryz.prog 121 #[.slice a n c, .int .i64 left] w fun e w' => w = w' ∧ ∃ r : Int, e = .returned (.int .i64 r) ∧ r ≤ left ∧ (0 ≤ r → r + n ≤ left) := by
  unfold maxLen at hn
  go_enter Tryz.func121, Tryz.ntmps121
  go_wp2
  · go_ret
    exact ⟨rfl, -1, rfl, by omega, fun h => by omega⟩
  · go_ret
    exact ⟨rfl, left - n, rfl, by omega, fun h => by omega⟩

theorem copyZ_step (Z : Nat → Int) (i k : Nat) : (if i = k then Value.int .i64 (Z k) else if i < k then .int .i64 (Z i) else .int .i64 0) = if i < k + 1 then .int .i64 (Z i) else .int .i64 0 := by
  by_cases h : i = k
  · subst h; simp
  · by_cases h2 : i < k
    · simp [h, h2, show i < k + 1 by omega]
    · simp [h, h2, show ¬ i < k + 1 by omega]

set_option maxHeartbeats 400000 in
theorem toIntS_any (a : Option Addr) (n c : Nat) (Z : Nat → Int) (w : World) (hS : IsInts w a n Z) (hn : n ≤ 1048576) :
    Calls Tryz.prog 126 #[.slice a n c] w fun e w' => e = .returned (.slice (some ⟨w.heap.size, 0, none⟩) n n) ∧ Below w.heap.size w w' ∧ w'.rowIs w.heap.size 3 n (fun i => .int .i64 (Z i)) := by
  have hmk := fun w => run_make_row' (P := Tryz.prog) 56 3 (.int .i64 0) 8 Tryz.underlying56 infoInt rfl .i64 .i64 n (by omega) (by omega) w
  go_enter Tryz.func126, Tryz.ntmps126
  go_wp2
  go_loopw [4] (fun i wr => ∃ k : Nat, k ≤ n ∧ i = .int .i64 k ∧ Below w.heap.size w wr ∧ wr.rowIs w.heap.size 3 n (fun j => if j < k then .int .i64 (Z j) else .int .i64 0)) (fun i _ => n - (intOf i).toNat)
  case atStart => exact ⟨0, Nat.zero_le _, rfl, (Below.refl _ _).alloc (Nat.le_refl _) _, (World.rowIs_made w (.int .i64 0) n 3).congr (fun i _ => by simp)⟩
  case round =>
    obtain ⟨k, hk, rfl, hb, hrow⟩ := hrel
    by_cases hlt : k < n
    · obtain ⟨b, off, rfl, hlt2, hc⟩ := hS.at hlt
      have hck : wr.cell? ⟨b, off + k, none⟩ = some (.int .i64 (Z k)) := by rw [hb.cell (p := ⟨b, off + k, none⟩) hlt2]; exact hc k hlt
      have hcr := hrow.cell hlt
      have hfr := hrow.frozen k
      have HB : Hid (Below w.heap.size w wr) := hb
      have HR : Hid (wr.rowIs w.heap.size 3 n (fun j => if j < k then .int .i64 (Z j) else .int .i64 0)) := hrow
      clear hc hb hrow
      go_wp2
      go_roundw
      case rel => exact ⟨k + 1, by omega, by go_num, HB.out.setCell (Nat.le_refl _) _, (HR.out.set k (.int .i64 (Z k))).congr (fun i _ => copyZ_step Z i k)⟩
      case measure => simp [intOf]; omega
    · have HB : Hid (Below w.heap.size w wr) := hb
      have HR : Hid (wr.rowIs w.heap.size 3 n (fun j => if j < k then .int .i64 (Z j) else .int .i64 0)) := hrow
      clear hb hrow
      go_wp2
      go_ret
      exact ⟨rfl, HB.out, HR.out.congr (fun i hi => by simp [show i < k by omega])⟩

set_option maxHeartbeats 400000 in
theorem eqIntS_any (a a' : Option Addr) (n c m c' : Nat) (Z Y : Nat → Int) (w : World) (hS : IsInts w a n Z) (hT : IsInts w a' m Y) (hn : n ≤ maxLen) (hm : m ≤ maxLen) :
    Calls Tryz.prog 72 #[.slice a n c, .slice a' m c'] w fun e w' => (∃ q, w' = w.drewN q) ∧ e = .returned (.bool (decide (n = m) && eqZ n Z Y)) := by
  unfold maxLen at hn hm
  by_cases hne : n = m
  · subst hne
    have hb : ((n : Int) != (n : Int)) = false := by simp
    go_enter Tryz.func72, Tryz.ntmps72
    go_wp2
    go_loopw [5] (fun i wr => ∃ k q : Nat, k ≤ n ∧ i = .int .i64 k ∧ wr = w.drewN q ∧ eqZ k Z Y = true) (fun i _ => n - (intOf i).toNat)
    case atStart => exact ⟨0, 0, Nat.zero_le _, rfl, rfl, rfl⟩
    case round =>
      obtain ⟨k, q, hk, rfl, rfl, heq⟩ := hrel
      have HE : Hid (eqZ k Z Y = true) := heq
      clear heq
      by_cases hlt : k < n
      · obtain ⟨b, off, rfl, hlt2, hc⟩ := hS.at hlt
        obtain ⟨b', off', rfl, hlt2', hc'⟩ := hT.at hlt
        have h1 := hc k hlt
        have h2 := hc' k hlt
        have hlti : (k : Int) < (n : Int) := by omega
        clear hc hc'
        by_cases hzy : Z k = Y k
        · have hzb : (Z k != Y k) = false := by simp [hzy]
          have HZ : Hid (Z k = Y k) := hzy
          clear hzy
          go_wp2
          go_quiet (fail)
          go_wp2
          go_roundw
          case rel => exact ⟨k + 1, q + nq, by omega, by go_num, rfl, eqZ_succ k Z Y HE.out HZ.out⟩
          case measure => simp [intOf]; omega
        · have hzb : (Z k != Y k) = true := by simp [hzy]
          have HZ : Hid (¬ Z k = Y k) := hzy
          clear hzy
          go_wp2
          go_quiet (fail)
          go_wp2
          go_ret
          exact ⟨⟨q + nq, by simp⟩, ret_bool (by rw [← eqZ_not n k Z Y hlt HZ.out]; simp)⟩
      · have hkn : k = n := by omega
        have HK : Hid (k = n) := hkn
        clear hkn
        go_wp2
        go_ret
        exact ⟨⟨q, rfl⟩, ret_bool (by rw [← HK.out, HE.out]; simp)⟩
  · have hb : ((n : Int) != (m : Int)) = true := by simp; omega
    go_enter Tryz.func72, Tryz.ntmps72
    go_wp2
    go_ret
    exact ⟨⟨0, rfl⟩, ret_bool (by simp [hne])⟩

end Go.Proofs.YtfdjfndpeeomkaaGreatDoor

/-
  What the small helpers of the exact laws do at a place of a tree and at a list of them.
-/
namespace Go.Proofs.YtfdjfndpeeomkaaGreatDoor
open Go.RowKit
set_option linter.unusedVariables false

set_option maxHeartbeats 400000 in
theorem szNode_any (d : Nd) (l : Loc) (left : Int) (w : World) (hI : NdIn w d l) (hf : d.Fits) (h0 : 0 ≤ left) (h1 : left ≤ 1048576) :
    Calls Tryz.prog 90 #[ndV d l, .int .i64 left] w fun e w' => Below w.heap.size w w' ∧ ∃ r : Int, e = .returned (.int .i64 r) ∧ r ≤ left ∧ (0 ≤ r → r + d.size ≤ left) := by
  unfold ndV Nd.size
  have ht := hf.text
  unfold maxLen at ht
  by_cases hbig : left < d.text.size
  · go_enter Tryz.func90, Tryz.ntmps90
    go_wp2
    go_ret
    exact ⟨(Below.refl _ _).alloc (Nat.le_refl _) _, -1, rfl, by omega, fun h => by omega⟩
  · go_enter Tryz.func90, Tryz.ntmps90
    go_wp2_with fail
    refine (szStringS_any l.nA d.nn l.nc d.names _ _ (hI.1.below (Nat.le_refl _) ((Below.refl _ _).alloc (Nat.le_refl _) _)) hf.names hf.nn (by omega) (by omega)).mono ?_
    rintro e w0 ⟨rfl, r, rfl, hr1, hr2⟩
    by_cases hr : r < 0
    · go_wp2
      go_ret
      exact ⟨(Below.refl _ _).alloc (Nat.le_refl _) _, -1, rfl, by omega, fun h => by omega⟩
    · have hr' : decide (r < 0) = false := by simp; omega
      have HR := hr2 (by omega)
      clear hr2
      go_wp2_with fail
      refine (szIntS_any l.kA d.kn l.kc _ _ hf.kn (by omega) (by omega)).mono ?_
      rintro e w0 ⟨rfl, r', rfl, hr1', hr2'⟩
      by_cases hr3 : r' < 0
      · go_wp2
        go_ret
        exact ⟨(Below.refl _ _).alloc (Nat.le_refl _) _, -1, rfl, by omega, fun h => by omega⟩
      · have hr3' : decide (r' < 0) = false := by simp; omega
        have HR' := hr2' (by omega)
        clear hr2'
        go_wp2
        go_ret
        exact ⟨(Below.refl _ _).alloc (Nat.le_refl _) _, r', rfl, by omega, fun h => by omega⟩

theorem toStringS_at (a : Option Addr) (n c : Nat) (S : Nat → ByteArray) (w : World) (hS : IsStrs w a n S) (hn : n ≤ 1048576) :
    Calls Tryz.prog 28 #[.slice a n c] w fun e w' => ∃ b, e = .returned (.slice (some ⟨b, 0, none⟩) n n) ∧ w.heap.size ≤ b ∧ b < w'.heap.size ∧ Below w.heap.size w w' ∧ IsStrs w' (some ⟨b, 0, none⟩) n S :=
  (toStringS_any a n c S w hS hn).mono fun e w' ⟨he, hb, hr⟩ => ⟨_, he, Nat.le_refl _, hr.lt, hb, IsStrs.row hr⟩

theorem toIntS_at (a : Option Addr) (n c : Nat) (Z : Nat → Int) (w : World) (hS : IsInts w a n Z) (hn : n ≤ 1048576) :
    Calls Tryz.prog 126 #[.slice a n c] w fun e w' => ∃ b, e = .returned (.slice (some ⟨b, 0, none⟩) n n) ∧ w.heap.size ≤ b ∧ b < w'.heap.size ∧ Below w.heap.size w w' ∧ IsInts w' (some ⟨b, 0, none⟩) n Z :=
  (toIntS_any a n c Z w hS hn).mono fun e w' ⟨he, hb, hr⟩ => ⟨_, he, Nat.le_refl _, hr.lt, hb, IsInts.row hr⟩

/-- What is known within toNode, the names being copied. -/
structure Node2 (w : World) (d : Nd) (l : Loc) (b : Nat) (W : World) : Prop where
  p : Blk W w.heap.size #[.int .i64 d.kind, .string d.text, .slice l.nA d.nn l.nc, .slice l.kA d.kn l.kc, .int .i64 d.turn] 127
  r : Blk W (w.heap.size + 1) #[.int .i64 0, .string ByteArray.empty, .slice none 0 0, .slice none 0 0, .int .i64 0] 58
  o : Blk W (w.heap.size + 1 + 1) #[.int .i64 d.kind, .string d.text, .slice (some ⟨b, 0, none⟩) d.nn d.nn, .slice none 0 0, .int .i64 0] 58
  bel : Below w.heap.size w W
  size : w.heap.size + 3 ≤ W.heap.size
  le : w.heap.size + 3 ≤ b
  lt : b < W.heap.size
  names : IsStrs W (some ⟨b, 0, none⟩) d.nn d.names

/-- What is known at toNode's end. -/
structure NodeEnd (w : World) (d : Nd) (b b' : Nat) (W : World) : Prop where
  r : Blk W (w.heap.size + 1) #[.int .i64 d.kind, .string d.text, .slice (some ⟨b, 0, none⟩) d.nn d.nn, .slice (some ⟨b', 0, none⟩) d.kn d.kn, .int .i64 d.turn] 58
  bel : Below w.heap.size w W
  names : IsStrs W (some ⟨b, 0, none⟩) d.nn d.names
  kids : IsInts W (some ⟨b', 0, none⟩) d.kn d.kids

set_option maxHeartbeats 1000000 in
theorem toNode_any (d : Nd) (l : Loc) (w : World) (hI : NdIn w d l) (hn : d.nn ≤ 1048576) (hk : d.kn ≤ 1048576) :
    Calls Tryz.prog 97 #[ndV d l] w fun e w' => ∃ l', e = .returned (ndV d l') ∧ Below w.heap.size w w' ∧ NdIn w' d l' ∧ l'.Past w.heap.size := by
  unfold ndV
  go_enter Tryz.func97, Tryz.ntmps97
  go_wp2_with fail
  refine at_world (F := New3 w _ _ _ _ _ _) (new3 w _ _ _ _ _ _) ?_
  rintro W ⟨hp, hr, ho, hb0, hs0⟩
  refine (toStringS_at l.nA d.nn l.nc d.names _ (hI.1.below (Nat.le_refl _) hb0) hn).mono ?_
  rintro e w1 ⟨b, rfl, hge, hlt, hb1, hS1⟩
  have hp1 := hp.below hb1 (by omega)
  have hr1 := hr.below hb1 (by omega)
  have ho1 := ho.below hb1 (by omega)
  have hk1 := (hI.2.below (Nat.le_refl _) hb0).below (Nat.le_refl _) hb1
  have hB1 := hb0.trans (hb1.mono (by omega))
  have o2 : w1.cell? ⟨w.heap.size + 1 + 1, 2, none⟩ = some (.slice none 0 0) := ho1.cell 2
  have f2 := ho1.frozen 2
  have p3 : w1.cell? ⟨w.heap.size, 3, none⟩ = some (.slice l.kA d.kn l.kc) := hp1.cell 3
  have hsz1 := hb1.size
  have F2 : Hid (Node2 w d l b _) := ⟨hp1.off (b' := w.heap.size + 1 + 1) (i := 2) (.slice (some ⟨b, 0, none⟩) d.nn d.nn) (by omega), hr1.off _ (by omega), ho1.set 2 _, bel_put hB1 _ (by omega), by simp; omega, by omega, by simp; omega, hS1.off _ (by omega)⟩
  clear hp hr ho hb0 hb1 hp1 hr1 ho1 hk1 hB1 hS1
  go_wp2_with fail
  refine at_world (F := Node2 w d l b) F2.out ?_
  clear F2 hge hlt f2 o2 p3 hs0 hsz1
  rintro W ⟨hp, hr, ho, hb0, hs0, hlb, hbl, hS⟩
  refine (toIntS_at l.kA d.kn l.kc d.kids _ (hI.2.below (Nat.le_refl _) hb0) hk).mono ?_
  rintro e w2 ⟨b', rfl, hge, hlt, hb1, hZ⟩
  have hp1 := hp.below hb1 (by omega)
  have hr1 := hr.below hb1 (by omega)
  have ho1 := ho.below hb1 (by omega)
  have hB1 := hb0.trans (hb1.mono (by omega))
  have hS1 := hS.below (Nat.le_refl _) hb1
  have hsz := hb1.size
  have o0 : w2.cell? ⟨w.heap.size + 1 + 1, 0, none⟩ = some (.int .i64 d.kind) := ho1.cell 0
  have o1 : w2.cell? ⟨w.heap.size + 1 + 1, 1, none⟩ = some (.string d.text) := ho1.cell 1
  have o2 : w2.cell? ⟨w.heap.size + 1 + 1, 2, none⟩ = some (.slice (some ⟨b, 0, none⟩) d.nn d.nn) := ho1.cell 2
  have o3 : w2.cell? ⟨w.heap.size + 1 + 1, 3, none⟩ = some (.slice none 0 0) := ho1.cell 3
  have o4 : w2.cell? ⟨w.heap.size + 1 + 1, 4, none⟩ = some (.int .i64 0) := ho1.cell 4
  have f3 := ho1.frozen 3
  have f4 := ho1.frozen 4
  have p4 : w2.cell? ⟨w.heap.size, 4, none⟩ = some (.int .i64 d.turn) := hp1.cell 4
  have r0 : w2.cell? ⟨w.heap.size + 1, 0, none⟩ = some (.int .i64 0) := hr1.cell 0
  have r1 : w2.cell? ⟨w.heap.size + 1, 1, none⟩ = some (.string ByteArray.empty) := hr1.cell 1
  have r2 : w2.cell? ⟨w.heap.size + 1, 2, none⟩ = some (.slice none 0 0) := hr1.cell 2
  have r3 : w2.cell? ⟨w.heap.size + 1, 3, none⟩ = some (.slice none 0 0) := hr1.cell 3
  have r4 : w2.cell? ⟨w.heap.size + 1, 4, none⟩ = some (.int .i64 0) := hr1.cell 4
  have g0 := hr1.frozen 0
  have g1 := hr1.frozen 1
  have g2 := hr1.frozen 2
  have g3 := hr1.frozen 3
  have g4 := hr1.frozen 4
  have FB : Hid (Blk w2 (w.heap.size + 1) _ _ ∧ Below w.heap.size w w2 ∧ IsStrs w2 (some ⟨b, 0, none⟩) d.nn d.names ∧ IsInts w2 (some ⟨b', 0, none⟩) d.kn d.kids) := ⟨hr1, hB1, hS1, hZ⟩
  clear hp hr ho hb0 hb1 hp1 hr1 ho1 hB1 hS1 hZ hS
  go_wp2_with fail
  obtain ⟨hr, hB, hS, hZ⟩ := FB.out
  refine end_world (F := NodeEnd w d b b')
    ⟨((((((hr.off _ (by omega)).off _ (by omega)).set 0 _).set 1 _).set 2 _).set 3 _).set 4 _,
     bel_put (bel_put (bel_put (bel_put (bel_put (bel_put (bel_put hB _ (by omega)) _ (by omega)) _ (by omega)) _ (by omega)) _ (by omega)) _ (by omega)) _ (by omega),
     ((((((hS.off _ (by omega)).off _ (by omega)).off _ (by omega)).off _ (by omega)).off _ (by omega)).off _ (by omega)).off _ (by omega),
     ((((((hZ.off _ (by omega)).off _ (by omega)).off _ (by omega)).off _ (by omega)).off _ (by omega)).off _ (by omega)).off _ (by omega)⟩ ?_
  clear hr hB hS hZ FB o0 o1 o2 o3 o4 f3 f4 p4 r0 r1 r2 r3 r4 g0 g1 g2 g3 g4
  rintro W ⟨hr, hB, hS, hZ⟩
  have r0 : W.cell? ⟨w.heap.size + 1, 0, none⟩ = some (.int .i64 d.kind) := hr.cell 0
  have r1 : W.cell? ⟨w.heap.size + 1, 1, none⟩ = some (.string d.text) := hr.cell 1
  have r2 : W.cell? ⟨w.heap.size + 1, 2, none⟩ = some (.slice (some ⟨b, 0, none⟩) d.nn d.nn) := hr.cell 2
  have r3 : W.cell? ⟨w.heap.size + 1, 3, none⟩ = some (.slice (some ⟨b', 0, none⟩) d.kn d.kn) := hr.cell 3
  have r4 : W.cell? ⟨w.heap.size + 1, 4, none⟩ = some (.int .i64 d.turn) := hr.cell 4
  exact bodyPost_ret (v := .agg #[.int .i64 d.kind, .string d.text, .slice (some ⟨b, 0, none⟩) d.nn d.nn, .slice (some ⟨b', 0, none⟩) d.kn d.kn, .int .i64 d.turn]) (by simp [results, Tryz.results97, go_sem, r0, r1, r2, r3, r4]) rfl ⟨⟨some ⟨b, 0, none⟩, d.nn, some ⟨b', 0, none⟩, d.kn⟩, rfl, hB, ⟨hS, hZ⟩, ⟨b, 0, rfl, by omega⟩, b', 0, rfl, by omega⟩
end Go.Proofs.YtfdjfndpeeomkaaGreatDoor

/-
  What the small helpers of the exact laws do at a list of places.
-/
namespace Go.Proofs.YtfdjfndpeeomkaaGreatDoor
open Go.RowKit
set_option linter.unusedVariables false
set_option linter.unusedSimpArgs false

set_option maxHeartbeats 400000 in
theorem szNodeS_any (a : Option Addr) (n c : Nat) (D : Nat → Nd) (L : Nat → Loc) (left : Int) (w : World) (hS : IsNds w a n D L) (hf : FitAll n D) (hn : n ≤ maxLen) (h0 : 0 ≤ left) (h1 : left ≤ 1048576) :
    Calls Tryz.prog 50 #[.slice a n c, .int .i64 left] w fun e w' => Below w.heap.size w w' ∧ ∃ r : Int, e = .returned (.int .i64 r) ∧ r ≤ left ∧ (0 ≤ r → r + n + sizeTo D n ≤ left) := by
  unfold maxLen at hn
  by_cases hbig : left < n
  · go_enter Tryz.func50, Tryz.ntmps50
    go_wp2
    go_ret
    exact ⟨Below.refl _ _, -1, rfl, by omega, fun h => by omega⟩
  · go_enter Tryz.func50, Tryz.ntmps50
    go_wp2
    go_loopw [1, 5] (fun l i wr => ∃ (k : Nat) (r : Int), k ≤ n ∧ 0 ≤ r ∧ i = .int .i64 k ∧ l = .int .i64 r ∧ r + n + sizeTo D k ≤ left ∧ Below w.heap.size w wr) (fun _ i _ => n - (intOf i).toNat)
    case atStart => exact ⟨0, left - n, Nat.zero_le _, by omega, rfl, rfl, by simp [sizeTo], Below.refl _ _⟩
    case round =>
      obtain ⟨k, r, hk, hr, rfl, rfl, hsum, hbel⟩ := hrel
      by_cases hlt : k < n
      · obtain ⟨b, off, rfl, hlt2, hc⟩ := (hS.below (Nat.le_refl _) hbel).at hlt
        obtain ⟨c0, c1, c2, c3, c4, hI⟩ := hc k hlt
        clear hc
        go_wp2_with fail
        refine (szNode_any (D k) (L k) r wr hI (hf k hlt) hr (by omega)).mono ?_
        rintro e w1 ⟨hb1, r', rfl, hr1, hr2⟩
        have hB := hbel.trans (hb1.mono hbel.size)
        by_cases hr3 : r' < 0
        · have hr3' : decide (r' < 0) = true := by simp; omega
          have HB : Hid (Below w.heap.size w w1) := hB
          clear hB hb1 hbel c0 c1 c2 c3 c4 hI hr2
          go_wp2
          go_ret
          exact ⟨HB.out, -1, rfl, by omega, fun h => by omega⟩
        · have hr3' : decide (r' < 0) = false := by simp; omega
          have HS : Hid (r' + n + sizeTo D (k + 1) ≤ left ∧ Below w.heap.size w w1) := ⟨by have := hr2 (by omega); rw [sizeTo_succ]; omega, hB⟩
          clear hB hb1 hbel c0 c1 c2 c3 c4 hI hr2 hsum
          go_wp2
          go_roundw
          case rel => exact ⟨k + 1, r', by omega, by omega, by go_num, by go_num, HS.out.1, HS.out.2⟩
          case measure => simp [intOf]; omega
      · go_wp2
        go_ret
        exact ⟨hbel, r, rfl, by omega, fun _ => by have : k = n := by omega
                                                   subst this; omega⟩

/-- n places lie in a block of their own, so many of them laid. -/
structure NdRow (w : World) (b n k : Nat) (D : Nat → Nd) (L : Nat → Loc) : Prop where
  row : ∃ g, w.rowIs b 58 (n * 5) g ∧ ∀ i, i < k → g (i * 5) = .int .i64 (D i).kind ∧ g (i * 5 + 1) = .string (D i).text ∧ g (i * 5 + 2) = .slice (L i).nA (D i).nn (L i).nc ∧ g (i * 5 + 3) = .slice (L i).kA (D i).kn (L i).kc ∧ g (i * 5 + 4) = .int .i64 (D i).turn
  lists : ∀ i, i < k → NdIn w (D i) (L i) ∧ (L i).Past (b + 1)

theorem NdRow.nds {w : World} {b n : Nat} {D : Nat → Nd} {L : Nat → Loc} (h : NdRow w b n n D L) : IsNds w (some ⟨b, 0, none⟩) n D L := by
  obtain ⟨⟨g, hr, hg⟩, hl⟩ := h
  refine Or.inr ⟨b, 0, rfl, hr.lt, fun i hi => ?_⟩
  obtain ⟨g0, g1, g2, g3, g4⟩ := hg i hi
  rw [Nat.zero_add, ← g0, ← g1, ← g2, ← g3, ← g4]
  exact ⟨hr.cell (by omega), hr.cell (by omega), hr.cell (by omega), hr.cell (by omega), hr.cell (by omega), (hl i hi).1⟩

theorem NdRow.below {w w' : World} {b n k : Nat} {D : Nat → Nd} {L : Nat → Loc} (h : NdRow w b n k D L) {B : Nat} (hB : w.heap.size ≤ B) (hb : Below B w w') : NdRow w' b n k D L := by
  obtain ⟨⟨g, hr, hg⟩, hl⟩ := h
  have := hr.lt
  exact ⟨⟨g, rowIs_below hr hb (by omega), hg⟩, fun i hi => ⟨(hl i hi).1.below hB hb, (hl i hi).2⟩⟩

theorem NdRow.step {w : World} {b n k : Nat} {D : Nat → Nd} {L : Nat → Loc} (h : NdRow w b n k D L) {l : Loc} (hI : NdIn w (D k) l) (hp : l.Past (b + 1)) :
    NdRow (((((w.setCell ⟨b, k * 5, none⟩ (.int .i64 (D k).kind)).setCell ⟨b, k * 5 + 1, none⟩ (.string (D k).text)).setCell ⟨b, k * 5 + 2, none⟩ (.slice l.nA (D k).nn l.nc)).setCell ⟨b, k * 5 + 3, none⟩ (.slice l.kA (D k).kn l.kc)).setCell ⟨b, k * 5 + 4, none⟩ (.int .i64 (D k).turn)) b n (k + 1) D (fun i => if i = k then l else L i) := by
  obtain ⟨⟨g, hr, hg⟩, hl⟩ := h
  refine ⟨⟨_, ((((hr.set _ _).set _ _).set _ _).set _ _).set _ _, fun i hi => ?_⟩, fun i hi => ?_⟩
  · by_cases e : i = k
    · subst e
      simp
    · have := hg i (by omega)
      simp only [if_neg e]
      simp [show ¬ i * 5 = k * 5 by omega, show ¬ i * 5 = k * 5 + 1 by omega, show ¬ i * 5 = k * 5 + 2 by omega, show ¬ i * 5 = k * 5 + 3 by omega, show ¬ i * 5 = k * 5 + 4 by omega,
        show ¬ i * 5 + 1 = k * 5 by omega, show ¬ i * 5 + 1 = k * 5 + 2 by omega, show ¬ i * 5 + 1 = k * 5 + 3 by omega, show ¬ i * 5 + 1 = k * 5 + 4 by omega,
        show ¬ i * 5 + 2 = k * 5 by omega, show ¬ i * 5 + 2 = k * 5 + 1 by omega, show ¬ i * 5 + 2 = k * 5 + 3 by omega, show ¬ i * 5 + 2 = k * 5 + 4 by omega,
        show ¬ i * 5 + 3 = k * 5 by omega, show ¬ i * 5 + 3 = k * 5 + 1 by omega, show ¬ i * 5 + 3 = k * 5 + 2 by omega, show ¬ i * 5 + 3 = k * 5 + 4 by omega,
        show ¬ i * 5 + 4 = k * 5 by omega, show ¬ i * 5 + 4 = k * 5 + 1 by omega, show ¬ i * 5 + 4 = k * 5 + 2 by omega, show ¬ i * 5 + 4 = k * 5 + 3 by omega, e]
      exact this
  · by_cases e : i = k
    · subst e
      simp only [if_true]
      exact ⟨((((hI.off _ hp).off _ hp).off _ hp).off _ hp).off _ hp, hp⟩
    · obtain ⟨h1, h2⟩ := hl i (by omega)
      simp only [if_neg e]
      exact ⟨((((h1.off _ h2).off _ h2).off _ h2).off _ h2).off _ h2, h2⟩

set_option maxHeartbeats 1000000 in
theorem toNodeS_any (a : Option Addr) (n c : Nat) (D : Nat → Nd) (L : Nat → Loc) (w : World) (hS : IsNds w a n D L) (hn : n ≤ 1048576) (hsm : ∀ i, i < n → (D i).nn ≤ 1048576 ∧ (D i).kn ≤ 1048576) :
    Calls Tryz.prog 56 #[.slice a n c] w fun e w' => e = .returned (.slice (some ⟨w.heap.size, 0, none⟩) n n) ∧ Below w.heap.size w w' ∧ ∃ L', NdRow w' w.heap.size n n D L' := by
  have hmk := fun w => run_make_wide (P := Tryz.prog) 31 58 _ 80 5 Tryz.underlying31 infoNode .i64 .i64 n (by omega) (by omega) w
  go_enter Tryz.func56, Tryz.ntmps56
  go_wp2
  go_loopw [4] (fun i wr => ∃ (k : Nat) (L' : Nat → Loc), k ≤ n ∧ i = .int .i64 k ∧ Below w.heap.size w wr ∧ NdRow wr w.heap.size n k D L') (fun i _ => n - (intOf i).toNat)
  case atStart =>
    obtain ⟨g, hg⟩ := rowIs_wide w #[.int .i64 0, .string ByteArray.empty, .slice none 0 0, .slice none 0 0, .int .i64 0] (n * 5) 58
    exact ⟨0, L, Nat.zero_le _, rfl, (Below.refl _ _).alloc (Nat.le_refl _) _, ⟨g, hg, fun i hi => by omega⟩, fun i hi => by omega⟩
  case round =>
    obtain ⟨k, L', hk, rfl, hb, hrow⟩ := hrel
    by_cases hlt : k < n
    · obtain ⟨b, off, rfl, hlt2, hc⟩ := (hS.below (Nat.le_refl _) hb).at hlt
      obtain ⟨c0, c1, c2, c3, c4, hI⟩ := hc k hlt
      clear hc
      go_wp2_with fail
      refine (toNode_any (D k) (L k) wr hI (hsm k hlt).1 (hsm k hlt).2).mono ?_
      rintro e w1 ⟨l', rfl, hb1, hI1, hp1⟩
      unfold ndV
      have hrow1 := hrow.below (Nat.le_refl _) hb1
      have hB := hb.trans (hb1.mono hb.size)
      have hwl : w.heap.size < wr.heap.size := by obtain ⟨⟨g, hr, _⟩, _⟩ := hrow; exact hr.lt
      have hpp := hp1.mono (show w.heap.size + 1 ≤ wr.heap.size by omega)
      have HR : Hid (NdRow w1 w.heap.size n k D L' ∧ NdIn w1 (D k) l' ∧ l'.Past (w.heap.size + 1) ∧ Below w.heap.size w w1) := ⟨hrow1, hI1, hpp, hB⟩
      obtain ⟨⟨g, hr, _⟩, _⟩ := hrow1
      have d0 := hr.cell (show k * 5 < n * 5 by omega)
      have d1 := hr.cell (show k * 5 + 1 < n * 5 by omega)
      have d2 := hr.cell (show k * 5 + 2 < n * 5 by omega)
      have d3 := hr.cell (show k * 5 + 3 < n * 5 by omega)
      have d4 := hr.cell (show k * 5 + 4 < n * 5 by omega)
      have e0 := hr.frozen (k * 5)
      have e1 := hr.frozen (k * 5 + 1)
      have e2 := hr.frozen (k * 5 + 2)
      have e3 := hr.frozen (k * 5 + 3)
      have e4 := hr.frozen (k * 5 + 4)
      clear hb hrow hr hB hb1 hI1 hp1 hpp hI c0 c1 c2 c3 c4
      go_wp2
      go_roundw
      case rel => exact ⟨k + 1, _, by omega, by go_num, bel_put (bel_put (bel_put (bel_put (bel_put HR.out.2.2.2 _ (Nat.le_refl _)) _ (Nat.le_refl _)) _ (Nat.le_refl _)) _ (Nat.le_refl _)) _ (Nat.le_refl _), HR.out.1.step HR.out.2.1 HR.out.2.2.1⟩
      case measure => simp [intOf]; omega
    · have hkn : k = n := by omega
      have HR : Hid (Below w.heap.size w wr ∧ ∃ L', NdRow wr w.heap.size n n D L') := ⟨hb, L', hkn ▸ hrow⟩
      clear hb hrow hkn
      go_wp2
      go_ret
      exact ⟨rfl, HR.out.1, HR.out.2⟩
end Go.Proofs.YtfdjfndpeeomkaaGreatDoor

/-
  What the exact laws' helpers answer that hold two places, two lists of places and two trees against each other.
-/
namespace Go.Proofs.YtfdjfndpeeomkaaGreatDoor
open Go.RowKit
set_option linter.unusedVariables false

set_option maxHeartbeats 1000000 in
theorem eqNode_any (d d' : Nd) (l l' : Loc) (w : World) (hI : NdIn w d l) (hI' : NdIn w d' l') (hf : d.Fits) (hf' : d'.Fits) :
    Calls Tryz.prog 30 #[ndV d l, ndV d' l'] w fun e w' => Below w.heap.size w w' ∧ e = .returned (.bool (d.same d')) := by
  have hn := hf.nn
  have hn' := hf'.nn
  have hk := hf.kn
  have hk' := hf'.kn
  unfold ndV
  go_enter Tryz.func30, Tryz.ntmps30
  go_wp2_with fail
  · go_ret
    exact ⟨((Below.refl _ _).alloc (Nat.le_refl _) _).alloc (by simp) _, ret_bool (same_kind ‹_›)⟩
  · go_ret
    exact ⟨((Below.refl _ _).alloc (Nat.le_refl _) _).alloc (by simp) _, ret_bool (same_text ‹_›)⟩
  have HK : Hid ((d.kind != d'.kind) = false ∧ (!d.text.toList == d'.text.toList) = false) := ⟨‹_›, ‹_›⟩
  refine at_world (F := New2 w _ _ _ _) (new2 w _ _ _ _) ?_
  rintro W ⟨hp, hp', hb, hs⟩
  have hI1 := hI.below (Nat.le_refl _) hb
  have hI1' := hI'.below (Nat.le_refl _) hb
  refine (eqStringS_any l.nA l'.nA d.nn l.nc d'.nn l'.nc d.names d'.names W hI1.1 hI1'.1 hn hn').mono ?_
  rintro e w1 ⟨⟨q, rfl⟩, rfl⟩
  have p3 : W.cell? ⟨w.heap.size, 3, none⟩ = some (.slice l.kA d.kn l.kc) := hp.cell 3
  have p4 : W.cell? ⟨w.heap.size, 4, none⟩ = some (.int .i64 d.turn) := hp.cell 4
  have q3 : W.cell? ⟨w.heap.size + 1, 3, none⟩ = some (.slice l'.kA d'.kn l'.kc) := hp'.cell 3
  have q4 : W.cell? ⟨w.heap.size + 1, 4, none⟩ = some (.int .i64 d'.turn) := hp'.cell 4
  have HI : Hid (IsInts W l.kA d.kn d.kids ∧ IsInts W l'.kA d'.kn d'.kids) := ⟨hI1.2, hI1'.2⟩
  have HB : Hid (Below w.heap.size w W) := hb
  clear hI1 hI1' hI hI' hp hp' hb hs hf hf'
  cases hq1 : (decide (d.nn = d'.nn) && eqS d.nn d.names d'.names) with
  | false =>
    have HQ : Hid ((decide (d.nn = d'.nn) && eqS d.nn d.names d'.names) = false) := hq1
    clear hq1
    go_wp2
    go_ret
    exact ⟨below_drewN HB.out _, ret_bool (same_names HQ.out)⟩
  | true =>
    have HQ : Hid ((decide (d.nn = d'.nn) && eqS d.nn d.names d'.names) = true) := hq1
    clear hq1
    go_wp2_with fail
    refine (eqIntS_any l.kA l'.kA d.kn l.kc d'.kn l'.kc d.kids d'.kids (W.drewN q) (HI.out.1.below (Nat.le_refl _) (below_drewN (Below.refl _ _) _)) (HI.out.2.below (Nat.le_refl _) (below_drewN (Below.refl _ _) _)) hk hk').mono ?_
    rintro e w1 ⟨⟨q', rfl⟩, rfl⟩
    cases hq1 : (decide (d.kn = d'.kn) && eqZ d.kn d.kids d'.kids) with
    | false =>
      have HZ : Hid ((decide (d.kn = d'.kn) && eqZ d.kn d.kids d'.kids) = false) := hq1
      clear hq1
      go_wp2
      go_ret
      exact ⟨below_drewN HB.out _, ret_bool (same_kids HZ.out)⟩
    | true =>
      have HZ : Hid ((decide (d.kn = d'.kn) && eqZ d.kn d.kids d'.kids) = true) := hq1
      clear hq1
      go_wp2
      · go_ret
        exact ⟨below_drewN HB.out _, ret_bool (same_turn ‹_›)⟩
      · go_ret
        exact ⟨below_drewN HB.out _, ret_bool (same_yes HK.out.1 HK.out.2 HQ.out HZ.out ‹_›)⟩

set_option maxHeartbeats 1000000 in
theorem eqNodeS_any (a a' : Option Addr) (n c m c' : Nat) (D E : Nat → Nd) (L M : Nat → Loc) (w : World) (hS : IsNds w a n D L) (hT : IsNds w a' m E M) (hf : FitAll n D) (hf' : FitAll m E) (hn : n ≤ maxLen) (hm : m ≤ maxLen) :
    Calls Tryz.prog 61 #[.slice a n c, .slice a' m c'] w fun e w' => Below w.heap.size w w' ∧ e = .returned (.bool (decide (n = m) && sameAll n D E)) := by
  unfold maxLen at hn hm
  by_cases hne : n = m
  · subst hne
    have hb : ((n : Int) != (n : Int)) = false := by simp
    go_enter Tryz.func61, Tryz.ntmps61
    go_wp2
    go_loopw [5] (fun i wr => ∃ k : Nat, k ≤ n ∧ i = .int .i64 k ∧ Below w.heap.size w wr ∧ sameAll k D E = true) (fun i _ => n - (intOf i).toNat)
    case atStart => exact ⟨0, Nat.zero_le _, rfl, Below.refl _ _, rfl⟩
    case round =>
      obtain ⟨k, hk, rfl, hbel, heq⟩ := hrel
      have HE : Hid (sameAll k D E = true) := heq
      clear heq
      by_cases hlt : k < n
      · have hSr := hS.below (Nat.le_refl _) hbel
        have hTr := hT.below (Nat.le_refl _) hbel
        obtain ⟨b, off, rfl, hlt2, hc⟩ := hSr.at hlt
        obtain ⟨b', off', rfl, hlt2', hc'⟩ := hTr.at hlt
        obtain ⟨c0, c1, c2, c3, c4, hI⟩ := hc k hlt
        obtain ⟨d0, d1, d2, d3, d4, hI'⟩ := hc' k hlt
        have hlti : (k : Int) < (n : Int) := by omega
        have C0 := Lat.cell (B := wr.heap.size) c0 hlt2
        have C1 := Lat.cell (B := wr.heap.size) c1 hlt2
        have C2 := Lat.cell (B := wr.heap.size) c2 hlt2
        have C3 := Lat.cell (B := wr.heap.size) c3 hlt2
        have C4 := Lat.cell (B := wr.heap.size) c4 hlt2
        have D0 := Lat.cell (B := wr.heap.size) d0 hlt2'
        have D1 := Lat.cell (B := wr.heap.size) d1 hlt2'
        have D2 := Lat.cell (B := wr.heap.size) d2 hlt2'
        have D3 := Lat.cell (B := wr.heap.size) d3 hlt2'
        have D4 := Lat.cell (B := wr.heap.size) d4 hlt2'
        have hcall : Hid (∀ n : Lat wr.heap.size wr, Calls Tryz.prog 30 #[ndV (D k) (L k), ndV (E k) (M k)] n.val fun e w'' => e = .returned (.bool ((D k).same (E k))) ∧ ∃ m : Lat wr.heap.size wr, w'' = m.val) := fun n =>
          Calls.lat_of (eqNode_any (D k) (E k) (L k) (M k) n.val (hI.below (Nat.le_refl _) n.bel) (hI'.below (Nat.le_refl _) n.bel) (hf k hlt) (hf' k hlt)) (fun e w' h => ⟨h.2, h.1.mono n.bel.size⟩)
        clear hc hc' hSr hTr c0 c1 c2 c3 c4 d0 d1 d2 d3 d4 hI hI'
        have HBL : Hid (Below w.heap.size w wr) := hbel
        clear hbel
        go_wp2_with fail
        refine wp_region_lat (B := wr.heap.size) (w0 := wr) (by kernel_rfl) (by kernel_rfl) (Below.refl _ _) ?_
        repeat (go_big_quiet_step (exact hcall.out _))
        refine wpQuiet_nil ?_
        rintro _ ⟨nq, rfl⟩
        have hB : Hid (Below w.heap.size w nq.val) := HBL.out.trans (nq.bel.mono HBL.out.size)
        clear hcall C0 C1 C2 C3 C4 D0 D1 D2 D3 D4
        cases hq : (D k).same (E k) with
        | false =>
          have HQ : Hid ((D k).same (E k) = false) := hq
          clear hq
          go_wp2
          go_ret
          exact ⟨hB.out, ret_bool (by rw [← sameAll_not n k D E hlt HQ.out]; simp)⟩
        | true =>
          have HQ : Hid ((D k).same (E k) = true) := hq
          clear hq
          go_wp2
          go_roundw
          case rel => exact ⟨k + 1, by omega, by go_num, hB.out, sameAll_succ k D E HE.out HQ.out⟩
          case measure => simp [intOf]; omega
      · have hkn : k = n := by omega
        have HK : Hid (k = n ∧ Below w.heap.size w wr) := ⟨hkn, hbel⟩
        clear hkn hbel
        go_wp2
        go_ret
        exact ⟨HK.out.2, ret_bool (by rw [← HK.out.1, HE.out]; simp)⟩
  · have hb : ((n : Int) != (m : Int)) = true := by simp; omega
    go_enter Tryz.func61, Tryz.ntmps61
    go_wp2
    go_ret
    exact ⟨Below.refl _ _, ret_bool (by simp [hne])⟩

set_option maxHeartbeats 400000 in
theorem szTree_any (a : Option Addr) (n c : Nat) (now : Int) (D : Nat → Nd) (L : Nat → Loc) (left : Int) (w : World) (hS : IsNds w a n D L) (hf : FitAll n D) (hn : n ≤ maxLen) (h0 : 0 ≤ left) (h1 : left ≤ 1048576) :
    Calls Tryz.prog 9 #[trV a n c now, .int .i64 left] w fun e w' => Below w.heap.size w w' ∧ ∃ r : Int, e = .returned (.int .i64 r) ∧ r ≤ left ∧ (0 ≤ r → r + n + sizeTo D n ≤ left) := by
  unfold trV
  go_enter Tryz.func9, Tryz.ntmps9
  go_wp2_with fail
  refine at_world (F := New1 w _ _) (new1 w _ _) ?_
  rintro W ⟨hp, hb, hs⟩
  refine (szNodeS_any a n c D L left W (hS.below (Nat.le_refl _) hb) hf hn h0 h1).mono ?_
  rintro e w1 ⟨hb1, r, rfl, hr1, hr2⟩
  have hB := hb.trans (hb1.mono (by omega))
  by_cases hr3 : r < 0
  · have hr3' : decide (r < 0) = true := by simp; omega
    have HB : Hid (Below w.heap.size w w1) := hB
    clear hB hb1 hb hp hr2
    go_wp2
    go_ret
    exact ⟨HB.out, -1, rfl, by omega, fun h => by omega⟩
  · have hr3' : decide (r < 0) = false := by simp; omega
    have HB : Hid (Below w.heap.size w w1 ∧ (0 ≤ r → r + n + sizeTo D n ≤ left)) := ⟨hB, hr2⟩
    clear hB hb1 hb hp hr2
    go_wp2
    go_ret
    exact ⟨HB.out.1, r, rfl, by omega, HB.out.2⟩

/-- What is known at toTree's end. -/
structure TreeEnd (w : World) (n : Nat) (now : Int) (D : Nat → Nd) (b : Nat) (W : World) : Prop where
  r : Blk W (w.heap.size + 1) #[.slice (some ⟨b, 0, none⟩) n n, .int .i64 now] 33
  bel : Below w.heap.size w W
  row : ∃ L', NdRow W b n n D L'

theorem NdRow.off {w : World} {b n k : Nat} {D : Nat → Nd} {L : Nat → Loc} (h : NdRow w b n k D L) {b' i : Nat} (v : Value) (hb : b' < b) : NdRow (w.setCell ⟨b', i, none⟩ v) b n k D L := by
  obtain ⟨⟨g, hr, hg⟩, hl⟩ := h
  exact ⟨⟨g, hr.setOther (a := ⟨b', i, none⟩) (show b ≠ b' by omega) v, hg⟩, fun i hi => ⟨(hl i hi).1.off v ((hl i hi).2.mono (by omega)), (hl i hi).2⟩⟩

set_option maxHeartbeats 1000000 in
theorem toTree_any (a : Option Addr) (n c : Nat) (now : Int) (D : Nat → Nd) (L : Nat → Loc) (w : World) (hS : IsNds w a n D L) (hn : n ≤ 1048576) (hsm : ∀ i, i < n → (D i).nn ≤ 1048576 ∧ (D i).kn ≤ 1048576) :
    Calls Tryz.prog 12 #[trV a n c now] w fun e w' => ∃ b, e = .returned (trV (some ⟨b, 0, none⟩) n n now) ∧ Below w.heap.size w w' ∧ w.heap.size ≤ b ∧ ∃ L', NdRow w' b n n D L' := by
  unfold trV
  go_enter Tryz.func12, Tryz.ntmps12
  go_wp2_with fail
  refine at_world (F := New3 w _ _ _ _ _ _) (new3 w _ _ _ _ _ _) ?_
  rintro W ⟨hp, hr, ho, hb0, hs0⟩
  refine (toNodeS_any a n c D L _ (hS.below (Nat.le_refl _) hb0) hn hsm).mono ?_
  rintro e w1 ⟨rfl, hb1, hrow⟩
  have hp1 := hp.below hb1 (by omega)
  have hr1 := hr.below hb1 (by omega)
  have ho1 := ho.below hb1 (by omega)
  have hB1 := hb0.trans (hb1.mono (by omega))
  have hsz := hb1.size
  have p1 : w1.cell? ⟨w.heap.size, 1, none⟩ = some (.int .i64 now) := hp1.cell 1
  have o0 : w1.cell? ⟨w.heap.size + 1 + 1, 0, none⟩ = some (.slice none 0 0) := ho1.cell 0
  have o1 : w1.cell? ⟨w.heap.size + 1 + 1, 1, none⟩ = some (.int .i64 0) := ho1.cell 1
  have f0 := ho1.frozen 0
  have f1 := ho1.frozen 1
  have r0 : w1.cell? ⟨w.heap.size + 1, 0, none⟩ = some (.slice none 0 0) := hr1.cell 0
  have r1 : w1.cell? ⟨w.heap.size + 1, 1, none⟩ = some (.int .i64 0) := hr1.cell 1
  have g0 := hr1.frozen 0
  have g1 := hr1.frozen 1
  have FB : Hid (Blk w1 (w.heap.size + 1) _ _ ∧ Below w.heap.size w w1 ∧ ∃ L', NdRow w1 W.heap.size n n D L') := ⟨hr1, hB1, hrow⟩
  have hs1 : w.heap.size + 3 ≤ W.heap.size := by omega
  generalize W.heap.size = bW at *
  clear hp hr ho hb0 hb1 hp1 hr1 ho1 hB1 hrow hs0
  go_wp2_with fail
  obtain ⟨hr, hB, L', hrow⟩ := FB.out
  refine end_world (F := TreeEnd w n now D bW)
    ⟨(((hr.off _ (by omega)).off _ (by omega)).set 0 _).set 1 _,
     bel_put (bel_put (bel_put (bel_put hB _ (by omega)) _ (by omega)) _ (by omega)) _ (by omega),
     L', (((hrow.off _ (by omega)).off _ (by omega)).off _ (by omega)).off _ (by omega)⟩ ?_
  clear hr hB hrow FB o0 o1 f0 f1 p1 r0 r1 g0 g1
  rintro W ⟨hr, hB, hrow⟩
  have r0 : W.cell? ⟨w.heap.size + 1, 0, none⟩ = some (.slice (some ⟨bW, 0, none⟩) n n) := hr.cell 0
  have r1 : W.cell? ⟨w.heap.size + 1, 1, none⟩ = some (.int .i64 now) := hr.cell 1
  exact bodyPost_ret (v := .agg #[.slice (some ⟨bW, 0, none⟩) n n, .int .i64 now]) (by simp [results, Tryz.results12, go_sem, r0, r1]) rfl ⟨bW, rfl, hB, by omega, hrow⟩

set_option maxHeartbeats 1000000 in
theorem eqTree_any (a a' : Option Addr) (n c m c' : Nat) (now now' : Int) (D E : Nat → Nd) (L M : Nat → Loc) (w : World) (hS : IsNds w a n D L) (hT : IsNds w a' m E M) (hf : FitAll n D) (hf' : FitAll m E) (hn : n ≤ maxLen) (hm : m ≤ maxLen) :
    Calls Tryz.prog 15 #[trV a n c now, trV a' m c' now'] w fun e w' => Below w.heap.size w w' ∧ e = .returned (.bool ((decide (n = m) && sameAll n D E) && (now == now'))) := by
  unfold trV
  go_enter Tryz.func15, Tryz.ntmps15
  go_wp2_with fail
  refine at_world (F := New2 w _ _ _ _) (new2 w _ _ _ _) ?_
  rintro W ⟨hp, hp', hb, hs⟩
  refine (eqNodeS_any a a' n c m c' D E L M W (hS.below (Nat.le_refl _) hb) (hT.below (Nat.le_refl _) hb) hf hf' hn hm).mono ?_
  rintro e w1 ⟨hb1, rfl⟩
  have hB := hb.trans (hb1.mono (by omega))
  have p1 : w1.cell? ⟨w.heap.size, 1, none⟩ = some (.int .i64 now) := (hp.below hb1 (by omega)).cell 1
  have q1 : w1.cell? ⟨w.heap.size + 1, 1, none⟩ = some (.int .i64 now') := (hp'.below hb1 (by omega)).cell 1
  have HB : Hid (Below w.heap.size w w1) := hB
  clear hS hT hf hf' hp hp' hb hs hb1 hB
  cases hq : (decide (n = m) && sameAll n D E) with
  | false =>
    have HQ : Hid ((decide (n = m) && sameAll n D E) = false) := hq
    clear hq
    go_wp2
    go_ret
    exact ⟨HB.out, ret_bool (by rw [HQ.out]; rfl)⟩
  | true =>
    have HQ : Hid ((decide (n = m) && sameAll n D E) = true) := hq
    clear hq
    cases hnc : (now == now') with
    | true =>
      have hnb : (now != now') = false := by simpa [bne] using hnc
      have HN : Hid ((now == now') = true) := hnc
      clear hnc
      go_wp2
      go_ret
      exact ⟨HB.out, ret_bool (by rw [HQ.out, HN.out]; rfl)⟩
    | false =>
      have hnb : (now != now') = true := by simp only [bne, hnc]; rfl
      have HN : Hid ((now == now') = false) := hnc
      clear hnc
      go_wp2
      go_ret
      exact ⟨HB.out, ret_bool (by rw [HQ.out, HN.out]; rfl)⟩
end Go.Proofs.YtfdjfndpeeomkaaGreatDoor
