/-
  Texts that the proof needs, laid one behind the other.
-/
import Derived.Test.YteoanlkmkmajjaaExBackThenB1
import Derived.WalkSmall
import Derived.Laws.IdiomStrings
import Derived.Deep.RegionWith
import Derived.Maps.AppendAt
import Derived.RangeFuncNested
import Derived.RangeFuncBound
import Derived.RangeFuncCalls
import Derived.RangeFuncLeaves
import Derived.Shelf.Abstract
import Derived.Shelf.RegionOpen
import Derived.WalkKit
import Derived.OwnWalkIn
import Derived.TacticsInMore
import Derived.LoopNIn
import Derived.LoopIn
import Derived.OrdersIn
import Derived.Lib.BufferMore
import Derived.BigRegion

/-
  What l2Marks of the specification answers: which places are reached from the root.
-/
namespace Go.Proofs.Yteoanlkmkmajjaa
open Go.RowKit
set_option linter.unusedVariables false


/-- What is known within l2Marks. -/
structure MarksIn (w : World) (a : Option Addr) (n c : Nat) (now : Int) (m : Nat → Bool) (W : World) : Prop where
  t : Blk W w.heap.size #[.slice a n c, .int .i64 now] 34
  row : W.rowIs (w.heap.size + 1) 4 n (fun j => .bool (m j))
  bel : Below w.heap.size w W

theorem MarksIn.put {w : World} {a : Option Addr} {n c : Nat} {now : Int} {m : Nat → Bool} {W : World} (h : MarksIn w a n c now m W) (x : Nat) :
    MarksIn w a n c now (fun j => if j = x then true else m j) (W.setCell ⟨w.heap.size + 1, x, none⟩ (.bool true)) :=
  ⟨h.t.off _ (by omega), (h.row.set x (.bool true)).congr (fun i _ => by by_cases e : i = x <;> simp [e]), bel_put h.bel _ (by omega)⟩

theorem marks_start (w : World) (a : Option Addr) (n c : Nat) (now : Int) : MarksIn w a n c now (fun j => decide (j = 0))
    ((w.alloc (.cells #[.slice a n c, .int .i64 now] 34)).alloc (.cells ((madeCells #[.bool false] n).setIfInBounds 0 (.bool true)) 4)) := by
  have h := new2 w #[.slice a n c, .int .i64 now] 34 ((madeCells #[.bool false] n).setIfInBounds 0 (.bool true)) 4
  refine ⟨h.b0, ⟨_, h.b1, by simp [size_madeCells], fun i hi => ?_⟩, h.bel⟩
  rw [Array.getElem?_setIfInBounds]
  by_cases e : 0 = i
  · subst e
    simp [size_madeCells, hi]
  · rw [if_neg e]
    have : ¬ i = 0 := fun h => e h.symm
    simp [madeCells, hi, Nat.mod_one, this]

set_option maxHeartbeats 2000000 in
theorem l2Marks_any (a : Option Addr) (n c : Nat) (now : Int) (D : Nat → Nd) (L : Nat → Loc) (w : World) (hS : IsNds w a n D L) (h1 : 1 ≤ n) (hn : n ≤ 1048576) (hsm : ∀ i, i < n → (D i).kn ≤ maxLen) (hk : ∀ i, i < n → ∀ j, j < (D i).kn → 0 ≤ (D i).kids j ∧ (D i).kids j < n) :
    Calls Try.prog 46 #[trV a n c now] w fun e w' => Below w.heap.size w w' ∧ e = .returned (.slice (some ⟨w.heap.size + 1, 0, none⟩) n n) ∧ ∃ m : Nat → Bool, w'.rowIs (w.heap.size + 1) 4 n (fun j => .bool (m j)) ∧ ∀ j, m j = true ↔ Reach n D j := by
  have hmk := fun w => run_make_row' (P := Try.prog) 26 4 (.bool false) 1 Try.underlying26 infoBool rfl .i64 .i64 n (by omega) (by omega) w
  have hm0 : (madeCells #[Value.bool false] n)[0]? = some (.bool false) := by simp [madeCells, show 0 < n from h1]
  unfold trV
  go_enter Try.func46, Try.ntmps46
  go_wp2
  go_loopw [4] (fun i wr => ∃ (r : Nat) (m : Nat → Bool), r ≤ n ∧ i = .int .i64 r ∧ MarksIn w a n c now m wr ∧ Rounds n D r m) (fun i _ => n - (intOf i).toNat)
  case atStart => exact ⟨0, _, Nat.zero_le _, rfl, marks_start w a n c now, Rounds.start h1⟩
  case round =>
    obtain ⟨r, m0, hr, rfl, hin, hrd⟩ := hrel
    have t0 : wr.cell? ⟨w.heap.size, 0, none⟩ = some (.slice a n c) := hin.t.cell 0
    by_cases hlt : r < n
    · have HIN : Hid (MarksIn w a n c now m0 wr ∧ Rounds n D r m0) := ⟨hin, hrd⟩
      clear hin hrd hmk hm0
      go_wp2_with fail
      go_loopw [5] (fun i wr => ∃ (i' : Nat) (m : Nat → Bool), i' ≤ n ∧ i = .int .i64 i' ∧ MarksIn w a n c now m wr ∧ Pass n D m0 i' m) (fun i _ => n - (intOf i).toNat)
      case atStart => exact ⟨0, m0, Nat.zero_le _, rfl, HIN.out.1, HIN.out.2.pass⟩
      case round =>
        obtain ⟨i, m1, hi, rfl, hin, hps⟩ := hrel
        have t0 : wr.cell? ⟨w.heap.size, 0, none⟩ = some (.slice a n c) := hin.t.cell 0
        by_cases hlti : i < n
        · have HI : Hid (MarksIn w a n c now m1 wr ∧ Pass n D m0 i m1) := ⟨hin, hps⟩
          clear hin hps
          go_wp2_with fail
          go_loopw [6] (fun j wr => ∃ (j' : Nat) (m : Nat → Bool), j' ≤ (D i).kn ∧ j = .int .i64 j' ∧ MarksIn w a n c now m wr ∧ Pass n D m0 i m ∧ (m0 i = true → ∀ x, x < j' → m ((D i).kids x).toNat = true)) (fun j _ => (D i).kn - (intOf j).toNat)
          case atStart => exact ⟨0, m1, Nat.zero_le _, rfl, HI.out.1, HI.out.2, fun _ x hx => by omega⟩
          case round =>
            obtain ⟨j, m, hj, rfl, hin, hps, hkd⟩ := hrel
            have t0 : wr.cell? ⟨w.heap.size, 0, none⟩ = some (.slice a n c) := hin.t.cell 0
            have hSr := hS.below (Nat.le_refl _) hin.bel
            obtain ⟨b, off, ha, hlt2, hc⟩ := hSr.at hlti
            obtain ⟨_, _, _, c3, _, hI⟩ := hc i hlti
            rw [ha] at t0
            have hii : (i : Int) < (n : Int) := by omega
            have hknb := hsm i hlti
            unfold maxLen at hknb
            have mi : wr.cell? ⟨w.heap.size + 1, i, none⟩ = some (.bool (m i)) := hin.row.cell hlti
            clear hc hSr
            by_cases hltj : j < (D i).kn
            · obtain ⟨b', off', ha', hlt2', hc'⟩ := hI.2.at hltj
              have hz := hc' j hltj
              rw [ha'] at c3
              obtain ⟨hk0, hk1⟩ := hk i hlti j hltj
              obtain ⟨x, hx⟩ : ∃ x : Nat, (D i).kids j = x := ⟨((D i).kids j).toNat, by omega⟩
              have hxn : x < n := by omega
              have hjj : (j : Int) < ((D i).kn : Int) := by omega
              rw [hx] at hz
              cases hmi : m i with
              | true =>
                rw [hmi] at mi
                have xc : wr.cell? ⟨w.heap.size + 1, x, none⟩ = some (.bool (m x)) := hin.row.cell hxn
                have xf := hin.row.frozen x
                have HALL : Hid (MarksIn w a n c now m wr ∧ Pass n D m0 i m ∧ (m0 i = true → ∀ x, x < j → m ((D i).kids x).toNat = true) ∧ m i = true ∧ ((D i).kids j).toNat = x) := ⟨hin, hps, hkd, hmi, by rw [hx]; rfl⟩
                clear hin hps hkd hmi hc' hI hx hk0 hk1
                go_wp2
                go_roundw
                case rel =>
                  obtain ⟨h1, h2, h3, h4, h5⟩ := HALL.out
                  have h6 := h2.put hlti h4 hltj
                  rw [h5] at h6
                  refine ⟨j + 1, _, by omega, by go_num, h1.put x, h6, fun h0 y hy => ?_⟩
                  by_cases e : y = j
                  · subst e; simp [h5]
                  · have := h3 h0 y (by omega)
                    by_cases e2 : ((D i).kids y).toNat = x
                    · simp [e2]
                    · simp only [if_neg e2]; exact this
                case measure => simp [intOf]; omega
              | false =>
                rw [hmi] at mi
                have HALL : Hid (MarksIn w a n c now m wr ∧ Pass n D m0 (i + 1) m) := ⟨hin, hps.next (fun h0 => by have := hps.sub i h0; rw [hmi] at this; cases this)⟩
                clear hin hps hkd hmi hc' hI hx hk0 hk1
                go_wp2
                go_roundw
                case rel => exact ⟨i + 1, m, by omega, by go_num, HALL.out.1, HALL.out.2⟩
                case measure => simp [intOf]; omega
            · have hje : j = (D i).kn := by omega
              have HALL : Hid (MarksIn w a n c now m wr ∧ Pass n D m0 (i + 1) m) := ⟨hin, hps.next (fun h0 y hy => hkd h0 y (by omega))⟩
              clear hin hps hkd hje hI
              go_wp2
              go_roundw
              case rel => exact ⟨i + 1, m, by omega, by go_num, HALL.out.1, HALL.out.2⟩
              case measure => simp [intOf]; omega
        · have hie : i = n := by omega
          have HALL : Hid (MarksIn w a n c now m1 wr ∧ Rounds n D (r + 1) m1) := ⟨hin, Pass.done HIN.out.2 (hie ▸ hps) hk⟩
          clear hin hps hie
          go_wp2
          go_roundw
          case rel => exact ⟨r + 1, m1, by omega, by go_num, HALL.out.1, HALL.out.2⟩
          case measure => simp [intOf]; omega
    · have hre : r = n := by omega
      have HALL : Hid (MarksIn w a n c now m0 wr ∧ Rounds n D n m0) := ⟨hin, hre ▸ hrd⟩
      clear hin hrd hre hmk hm0
      go_wp2
      go_ret
      exact ⟨HALL.out.1.bel, rfl, m0, HALL.out.1.row, HALL.out.2.fin hk⟩
end Go.Proofs.Yteoanlkmkmajjaa

/-
  What TreeOk of the specification answers.
-/
namespace Go.Proofs.Yteoanlkmkmajjaa
open Go.RowKit
set_option linter.unusedVariables false

/-- A tree that is one. -/
structure TreeGood (n : Nat) (D : Nat → Nd) (now : Int) : Prop where
  some : 1 ≤ n
  few : n ≤ 10
  begun : 1 ≤ now
  soon : now ≤ 1000
  root : (D 0).kind = 2
  nodes : ∀ i, i < n → ndOk n D now (D i) = true
  reach : ∀ i, 1 ≤ i → i < n → (Reach n D i ↔ (D i).kind ≠ 0)
  one : ∀ i, 1 ≤ i → i < n → (D i).kind = 2 → refsTo D i n = 1

/-- Places in the directories of such a tree lead to places. -/
theorem kids_in {n : Nat} {D : Nat → Nd} {now : Int} (h : ∀ i, i < n → ndOk n D now (D i) = true) : ∀ i, i < n → ∀ j, j < (D i).kn → 0 ≤ (D i).kids j ∧ (D i).kids j < n := by
  intro i hi j hj
  have := h i hi
  unfold ndOk at this
  split at this
  · unfold freeOk at this; simp at this; omega
  · split at this
    · unfold fileOk at this; simp at this; omega
    · split at this
      · unfold dirOk at this
        simp only [Bool.and_eq_true] at this
        have hk := List.all_eq_true.1 this.1.1.2.1 j (by simpa using hj)
        unfold kidOk at hk
        simp at hk
        omega
      · cases this

theorem tree_mark {n : Nat} {D : Nat → Nd} {now : Int} (h : TreeGood n D now) {m : Bool} {i : Nat} (hm : m = true ↔ Reach n D i) (h1 : 1 ≤ i) (h2 : i < n) : m = ((D i).kind != 0) := by
  have := h.reach i h1 h2
  cases hk : ((D i).kind != 0) with
  | true => exact hm.2 (this.2 (by simpa using hk))
  | false =>
    rw [Bool.eq_false_iff]
    intro hm'
    exact this.1 (hm.1 hm') (by simpa using hk)

set_option maxHeartbeats 2000000 in
theorem specTreeOk_any (a : Option Addr) (n c : Nat) (now : Int) (D : Nat → Nd) (L : Nat → Loc) (w : World) (hS : IsNds w a n D L) (hf : FitAll n D) (hn : n ≤ maxLen) (hsz : sizeTo D n ≤ 1048576) :
    Calls Try.prog 19 #[trV a n c now] w fun e w' => Below w.heap.size w w' ∧ ∃ r : Bool, e = .returned (.bool r) ∧ (r = true ↔ TreeGood n D now) := by
  by_cases hhead : 1 ≤ n ∧ n ≤ 10 ∧ 1 ≤ now ∧ now ≤ 1000 ∧ (D 0).kind = 2
  · obtain ⟨h1, h2, h3, h4, h5⟩ := hhead
    obtain ⟨b, off, rfl, hlt2, hc⟩ := hS.at (show 0 < n from h1)
    have c0 := (hc 0 h1).1
    rw [Nat.zero_mul, Nat.add_zero] at c0
    have hk0 : ((D 0).kind != 2) = false := by simp [h5]
    have H5 : Hid ((D 0).kind = 2) := h5
    have hb1 : decide ((n : Int) < 1) = false := by simp; omega
    have hb2 : decide (10 < (n : Int)) = false := by simp; omega
    have hb3 : decide (now < 1) = false := by simp; omega
    have hb4 : decide (1000 < now) = false := by simp; omega
    clear hc h5
    unfold trV
    go_enter Try.func19, Try.ntmps19
    go_wp2_with fail
    go_loopw [3] (fun i wr => ∃ k : Nat, k ≤ n ∧ i = .int .i64 k ∧ RefsIn w (some ⟨b, off, none⟩) n c now wr ∧ ∀ i, i < k → ndOk n D now (D i) = true) (fun i _ => n - (intOf i).toNat)
    case atStart => exact ⟨0, Nat.zero_le _, rfl, ⟨(new1 w _ _).b0, (new1 w _ _).bel⟩, fun i hi => by omega⟩
    case round =>
      obtain ⟨k, hk, rfl, hin, hall⟩ := hrel
      have t0 : wr.cell? ⟨w.heap.size, 0, none⟩ = some (.slice (some ⟨b, off, none⟩) n c) := hin.t.cell 0
      have t1 : wr.cell? ⟨w.heap.size, 1, none⟩ = some (.int .i64 now) := hin.t.cell 1
      have hSr := hS.below (Nat.le_refl _) hin.bel
      have hwl : w.heap.size < wr.heap.size := hin.t.lt
      clear c0
      by_cases hlt : k < n
      · obtain ⟨b', off', ha, hlt2', hc⟩ := hSr.at hlt
        cases ha
        obtain ⟨c0, c1, c2, c3, c4, hI⟩ := hc k hlt
        have hki : (k : Int) < (n : Int) := by omega
        have C0 := Lat.cell (B := wr.heap.size) c0 hlt2'
        have C1 := Lat.cell (B := wr.heap.size) c1 hlt2'
        have C2 := Lat.cell (B := wr.heap.size) c2 hlt2'
        have C3 := Lat.cell (B := wr.heap.size) c3 hlt2'
        have C4 := Lat.cell (B := wr.heap.size) c4 hlt2'
        have T0 := Lat.cell (B := wr.heap.size) t0 hwl
        have T1 := Lat.cell (B := wr.heap.size) t1 hwl
        have hcall : Hid (∀ q : Lat wr.heap.size wr, Calls Try.prog 45 #[trV (some ⟨b, off, none⟩) n c now, ndV (D k) (L k)] q.val fun e w'' => e = .returned (.bool (ndOk n D now (D k))) ∧ ∃ m : Lat wr.heap.size wr, w'' = m.val) := fun q =>
          Calls.lat_of (l2Node_any _ n c now D L (D k) (L k) q.val (hSr.below (Nat.le_refl _) q.bel) (hI.below (Nat.le_refl _) q.bel) (hf k hlt) hn) (fun e w' h => ⟨h.2, h.1.mono q.bel.size⟩)
        have HIN : Hid (RefsIn w (some ⟨b, off, none⟩) n c now wr ∧ ∀ i, i < k → ndOk n D now (D i) = true) := ⟨hin, hall⟩
        clear hc c0 c1 c2 c3 c4 hI hSr hin hall
        go_wp2_with fail
        refine wp_region_lat (B := wr.heap.size) (w0 := wr) (by kernel_rfl) (by kernel_rfl) (Below.refl _ _) ?_
        repeat (go_big_quiet_step (exact hcall.out _))
        refine wpQuiet_nil ?_
        rintro _ ⟨nq, rfl⟩
        have HN : Hid (RefsIn w (some ⟨b, off, none⟩) n c now nq.val) := ⟨HIN.out.1.t.below nq.bel hwl, HIN.out.1.bel.trans (nq.bel.mono HIN.out.1.bel.size)⟩
        clear hcall C0 C1 C2 C3 C4 T0 T1 t0 t1 hwl hlt2'
        cases hq : ndOk n D now (D k) with
        | false =>
          have HQ : Hid (ndOk n D now (D k) = false) := hq
          clear hq
          go_wp2
          go_ret
          exact ⟨HN.out.bel, false, rfl, fun h => (by cases h), fun h => by have := h.nodes k hlt; rw [HQ.out] at this; cases this⟩
        | true =>
          have HQ : Hid (ndOk n D now (D k) = true) := hq
          clear hq
          go_wp2
          go_roundw
          case rel => exact ⟨k + 1, by omega, by go_num, HN.out, fun i hi => by
            by_cases e : i = k
            · subst e; exact HQ.out
            · exact HIN.out.2 i (by omega)⟩
          case measure => simp [intOf]; omega
      · have hke : k = n := by omega
        have hall' : Hid (∀ i, i < n → ndOk n D now (D i) = true) := fun i hi => hall i (by omega)
        have HIN : Hid (RefsIn w (some ⟨b, off, none⟩) n c now wr) := hin
        clear hke hall hin
        go_wp2_with fail
        refine (l2Marks_any _ n c now D L wr hSr h1 (by omega) (fun i hi => (hf i hi).kn) (kids_in hall'.out)).mono ?_
        rintro e w1 ⟨hb1, rfl, m, hrow, hm⟩
        have HM : Hid (RefsIn w (some ⟨b, off, none⟩) n c now w1 ∧ w1.rowIs (wr.heap.size + 1) 4 n (fun j => .bool (m j)) ∧ ∀ j, m j = true ↔ Reach n D j) := ⟨⟨HIN.out.t.below hb1 hwl, HIN.out.bel.trans (hb1.mono HIN.out.bel.size)⟩, hrow, hm⟩
        clear hb1 hrow hm hSr t0 t1
        have hw2 : w.heap.size < wr.heap.size + 1 := by omega
        generalize wr.heap.size + 1 = bm at *
        go_wp2_with fail
        go_loopw [5] (fun i wr => ∃ k : Nat, 1 ≤ k ∧ k ≤ n ∧ i = .int .i64 k ∧ RefsIn w (some ⟨b, off, none⟩) n c now wr ∧ wr.rowIs bm 4 n (fun j => .bool (m j)) ∧ ∀ i, 1 ≤ i → i < k → m i = ((D i).kind != 0) ∧ ((D i).kind = 2 → refsTo D i n = 1)) (fun i _ => n - (intOf i).toNat)
        case atStart => exact ⟨1, Nat.le_refl _, h1, rfl, HM.out.1, HM.out.2.1, fun i h h' => by omega⟩
        case round =>
          obtain ⟨k, hk1, hk, rfl, hin, hrow, hall⟩ := hrel
          have t0 : wr.cell? ⟨w.heap.size, 0, none⟩ = some (.slice (some ⟨b, off, none⟩) n c) := hin.t.cell 0
          have t1 : wr.cell? ⟨w.heap.size, 1, none⟩ = some (.int .i64 now) := hin.t.cell 1
          have hSr := hS.below (Nat.le_refl _) hin.bel
          have hwl : w.heap.size < wr.heap.size := hin.t.lt
          have hbl : bm < wr.heap.size := hrow.lt
          by_cases hlt : k < n
          · obtain ⟨b', off', ha, hlt2', hc⟩ := hSr.at hlt
            cases ha
            obtain ⟨c0, c1, c2, c3, c4, hI⟩ := hc k hlt
            have hki : (k : Int) < (n : Int) := by omega
            have HIN : Hid (RefsIn w (some ⟨b, off, none⟩) n c now wr ∧ wr.rowIs bm 4 n (fun j => .bool (m j)) ∧ (∀ i, 1 ≤ i → i < k → m i = ((D i).kind != 0) ∧ ((D i).kind = 2 → refsTo D i n = 1)) ∧ IsNds wr (some ⟨b, off, none⟩) n D L) := ⟨hin, hrow, hall, hSr⟩
            have HMM : Hid (∀ j, m j = true ↔ Reach n D j) := HM.out.2.2
            clear hc hI hin hrow hall hSr HM
            go_wp2_with fail
            refine at_world (F := New1 wr _ _) (new1 wr _ _) ?_
            rintro W ⟨hp, hb, hs⟩
            refine (l2Refs_any _ n c now k D L W (HIN.out.2.2.2.below (Nat.le_refl _) hb) hsz hn).mono ?_
            rintro e w2 ⟨hb2, rfl⟩
            have hbw : Below wr.heap.size wr w2 := hb.trans (hb2.mono (by omega))
            have n0 : w2.cell? ⟨wr.heap.size, 0, none⟩ = some (.int .i64 (D k).kind) := (hp.below hb2 (by omega)).cell 0
            have hrow2 : w2.rowIs bm 4 n (fun j => .bool (m j)) := rowIs_below HIN.out.2.1 hbw hbl
            have mk : w2.cell? ⟨bm, k, none⟩ = some (.bool (m k)) := hrow2.cell hlt
            have HN : Hid (RefsIn w (some ⟨b, off, none⟩) n c now w2 ∧ w2.rowIs bm 4 n (fun j => .bool (m j))) := ⟨⟨HIN.out.1.t.below hbw hwl, HIN.out.1.bel.trans (hbw.mono HIN.out.1.bel.size)⟩, hrow2⟩
            clear hp hb hs hb2 hbw hrow2 c0 c1 c2 c3 c4 t0 t1
            cases hmk : m k with
            | true =>
              rw [hmk] at mk
              cases hkz : ((D k).kind != 0) with
              | false =>
                have HX : Hid (¬ m k = ((D k).kind != 0)) := by show ¬ _; rw [hmk, hkz]; simp
                clear hmk
                go_wp2_with fail
                go_quiet (fail)
                go_wp2
                go_ret
                exact ⟨below_drewN HN.out.1.bel _, false, rfl, fun h => (by cases h), fun h => absurd (tree_mark h (HMM.out k) hk1 hlt) HX.out⟩
              | true =>
                have HX : Hid (m k = ((D k).kind != 0)) := by show _ = _; rw [hmk, hkz]
                clear hmk
                cases hd2 : ((D k).kind == 2) with
                | false =>
                  have H2 : Hid (¬ (D k).kind = 2) := show ¬ (D k).kind = 2 by simpa using hd2
                  go_wp2_with fail
                  go_quiet (fail)
                  go_wp2
                  go_roundw
                  case rel => exact ⟨k + 1, by omega, by omega, by go_num, HN.out.1.drew _, HN.out.2, fun i hi1 hi2 => by
                    by_cases e : i = k
                    · subst e; exact ⟨HX.out, fun h => absurd h H2.out⟩
                    · exact HIN.out.2.2.1 i hi1 (by omega)⟩
                  case measure => simp [intOf]; omega
                | true =>
                  have H2 : Hid ((D k).kind = 2) := show (D k).kind = 2 by simpa using hd2
                  by_cases hr1 : refsTo D k n = 1
                  · have hrb : (((refsTo D k n : Nat) : Int) != 1) = false := by simp [hr1]
                    have HR : Hid (refsTo D k n = 1) := hr1
                    clear hr1
                    go_wp2_with fail
                    go_quiet (fail)
                    go_wp2
                    go_roundw
                    case rel => exact ⟨k + 1, by omega, by omega, by go_num, HN.out.1.drew _, HN.out.2, fun i hi1 hi2 => by
                      by_cases e : i = k
                      · subst e; exact ⟨HX.out, fun _ => HR.out⟩
                      · exact HIN.out.2.2.1 i hi1 (by omega)⟩
                    case measure => simp [intOf]; omega
                  · have hrb : (((refsTo D k n : Nat) : Int) != 1) = true := by simp; omega
                    have HR : Hid (¬ refsTo D k n = 1) := hr1
                    clear hr1
                    go_wp2_with fail
                    go_quiet (fail)
                    go_wp2
                    go_ret
                    exact ⟨below_drewN HN.out.1.bel _, false, rfl, fun h => (by cases h), fun h => absurd (h.one k hk1 hlt H2.out) HR.out⟩
            | false =>
              rw [hmk] at mk
              cases hkz : ((D k).kind != 0) with
              | true =>
                have HX : Hid (¬ m k = ((D k).kind != 0)) := by show ¬ _; rw [hmk, hkz]; simp
                clear hmk
                go_wp2_with fail
                go_quiet (fail)
                go_wp2
                go_ret
                exact ⟨below_drewN HN.out.1.bel _, false, rfl, fun h => (by cases h), fun h => absurd (tree_mark h (HMM.out k) hk1 hlt) HX.out⟩
              | false =>
                have HX : Hid (m k = ((D k).kind != 0)) := by show _ = _; rw [hmk, hkz]
                clear hmk
                have hd2 : ((D k).kind == 2) = false := by
                  have : (D k).kind = 0 := by simpa using hkz
                  rw [this]; rfl
                have H2 : Hid (¬ (D k).kind = 2) := show ¬ (D k).kind = 2 by simpa using hd2
                go_wp2_with fail
                go_quiet (fail)
                go_wp2
                go_roundw
                case rel => exact ⟨k + 1, by omega, by omega, by go_num, HN.out.1.drew _, HN.out.2, fun i hi1 hi2 => by
                  by_cases e : i = k
                  · subst e; exact ⟨HX.out, fun h => absurd h H2.out⟩
                  · exact HIN.out.2.2.1 i hi1 (by omega)⟩
                case measure => simp [intOf]; omega
          · have HALL : Hid (Below w.heap.size w wr ∧ TreeGood n D now) := ⟨hin.bel, ⟨h1, h2, h3, h4, H5.out, hall'.out, fun i hi1 hi2 => by
              have := (hall i hi1 (by omega)).1
              rw [← HM.out.2.2 i, this]; simp, fun i hi1 hi2 hk2 => (hall i hi1 (by omega)).2 hk2⟩⟩
            clear hin hrow hall hSr
            go_wp2
            go_ret
            exact ⟨HALL.out.1, true, rfl, fun _ => HALL.out.2, fun _ => rfl⟩
  · have no : Hid (¬ TreeGood n D now) := fun h => hhead ⟨h.some, h.few, h.begun, h.soon, h.root⟩
    unfold maxLen at hn
    unfold trV
    by_cases g1 : n < 1
    · have hb1 : decide ((n : Int) < 1) = true := by simp; omega
      clear hhead
      go_enter Try.func19, Try.ntmps19
      go_wp2_with fail
      go_ret
      exact ⟨(Below.refl _ _).alloc (Nat.le_refl _) _, false, rfl, fun h => (by cases h), fun h => absurd h no.out⟩
    · have hb1 : decide ((n : Int) < 1) = false := by simp; omega
      by_cases g2 : 10 < n
      · have hb2 : decide (10 < (n : Int)) = true := by simp; omega
        clear hhead
        go_enter Try.func19, Try.ntmps19
        go_wp2_with fail
        go_ret
        exact ⟨(Below.refl _ _).alloc (Nat.le_refl _) _, false, rfl, fun h => (by cases h), fun h => absurd h no.out⟩
      · have hb2 : decide (10 < (n : Int)) = false := by simp; omega
        by_cases g3 : now < 1
        · have hb3 : decide (now < 1) = true := by simp; omega
          clear hhead
          go_enter Try.func19, Try.ntmps19
          go_wp2_with fail
          go_ret
          exact ⟨(Below.refl _ _).alloc (Nat.le_refl _) _, false, rfl, fun h => (by cases h), fun h => absurd h no.out⟩
        · have hb3 : decide (now < 1) = false := by simp; omega
          by_cases g4 : 1000 < now
          · have hb4 : decide (1000 < now) = true := by simp; omega
            clear hhead
            go_enter Try.func19, Try.ntmps19
            go_wp2_with fail
            go_ret
            exact ⟨(Below.refl _ _).alloc (Nat.le_refl _) _, Or.inl ⟨rfl, no.out⟩⟩
          · have hb4 : decide (1000 < now) = false := by simp; omega
            have g5 : ¬ (D 0).kind = 2 := fun h => hhead ⟨by omega, by omega, by omega, by omega, h⟩
            have hb5 : ((D 0).kind != 2) = true := by simpa using g5
            obtain ⟨b, off, rfl, hlt2, hc⟩ := hS.at (show 0 < n by omega)
            have c0 := (hc 0 (by omega)).1
            rw [Nat.zero_mul, Nat.add_zero] at c0
            clear hc g5 hhead
            go_enter Try.func19, Try.ntmps19
            go_wp2_with fail
            go_ret
            exact ⟨(Below.refl _ _).alloc (Nat.le_refl _) _, Or.inl ⟨rfl, no.out⟩⟩
end Go.Proofs.Yteoanlkmkmajjaa

/-
  Bounds of a tree that is not too great.
-/
namespace Go.Proofs.Yteoanlkmkmajjaa
set_option linter.unusedVariables false

theorem small_of_size {D : Nat → Nd} {n : Nat} (h : sizeTo D n ≤ 1048576) : ∀ i, i < n → (D i).nn ≤ 1048576 ∧ (D i).kn ≤ 1048576 := fun i hi => by
  have := size_le_sizeTo D n i hi
  unfold Nd.size at this
  omega
end Go.Proofs.Yteoanlkmkmajjaa

/-
  What DumpOf of the specification answers.
-/
namespace Go.Proofs.Yteoanlkmkmajjaa
open Go.RowKit Go.Deep
set_option linter.unusedVariables false
set_option linter.unusedSimpArgs false

/-- A place that was turned since. -/
def turnedB (D : Nat → Nd) (since : Int) (i : Nat) : Bool := (D i).kind != 0 && decide (since < (D i).turn)
/-- Those of the first k. -/
def selTo (D : Nat → Nd) (since : Int) (k : Nat) : List Nat := (List.range k).filter (turnedB D since)

theorem selTo_yes {D : Nat → Nd} {since : Int} {k : Nat} (h : turnedB D since k = true) : selTo D since (k + 1) = selTo D since k ++ [k] := by simp [selTo, List.range_succ, List.filter_append, h]
theorem selTo_no {D : Nat → Nd} {since : Int} {k : Nat} (h : turnedB D since k = false) : selTo D since (k + 1) = selTo D since k := by simp [selTo, List.range_succ, List.filter_append, h]
theorem selTo_len (D : Nat → Nd) (since : Int) (k : Nat) : (selTo D since k).length ≤ k := by
  have := List.length_filter_le (turnedB D since) (List.range k)
  simpa [selTo] using this

/-- m places are the ones. -/
structure Sel (D : Nat → Nd) (since : Int) (k m : Nat) (O : Nat → Int) (E : Nat → Nd) : Prop where
  len : m = (selTo D since k).length
  each : ∀ i, i < m → O i = ((selTo D since k).getD i 0 : Nat) ∧ E i = D ((selTo D since k).getD i 0)

theorem Sel.no {D : Nat → Nd} {since : Int} {k m : Nat} {O : Nat → Int} {E : Nat → Nd} (h : Sel D since k m O E) (hk : turnedB D since k = false) : Sel D since (k + 1) m O E := by
  refine ⟨by rw [selTo_no hk]; exact h.len, by rw [selTo_no hk]; exact h.each⟩

theorem Sel.yes {D : Nat → Nd} {since : Int} {k m : Nat} {O : Nat → Int} {E : Nat → Nd} (h : Sel D since k m O E) (hk : turnedB D since k = true) : Sel D since (k + 1) (m + 1) (fun i => if i = m then (k : Int) else O i) (fun i => if i = m then D k else E i) := by
  have hl := h.len
  refine ⟨by rw [selTo_yes hk]; simp [hl], fun i hi => ?_⟩
  rw [selTo_yes hk]
  by_cases e : i = m
  · subst e
    simp [hl]
  · have hi' : i < m := by omega
    have := h.each i hi'
    simp only [if_neg e]
    rw [this.1, this.2]
    simp [List.getElem?_append_left (show i < (selTo D since k).length by omega)]

/-- What is known within DumpOf. -/
structure DOf (w : World) (a : Option Addr) (n c : Nat) (now since : Int) (D : Nat → Nd) (V k ks : Nat) (la : Option Addr) (lc : Nat) (m : Nat) (ia : Option Addr) (ic : Nat) (O : Nat → Int) (E : Nat → Nd) (M : Nat → Loc) (W : World) : Prop where
  p : Blk W w.heap.size #[.slice a n c, .int .i64 now] 34
  r : Blk W (w.heap.size + 1) #[.int .i64 0, .int .i64 0, .slice none 0 0, .slice none 0 0] 29
  v : Blk W V #[.int .i64 since, .int .i64 now, .slice la k lc, .slice ia m ic] 29
  bel : Below w.heap.size w W
  far : w.heap.size + 2 ≤ V
  od : OD W (V + 1) k (fun i => (D i).kind != 0) m O E M (.slice la k lc) (.slice ia m ic)
  sel : Sel D since ks m O E

theorem DOf.below {w : World} {a : Option Addr} {n c : Nat} {now since : Int} {D : Nat → Nd} {V k ks : Nat} {la : Option Addr} {lc m : Nat} {ia : Option Addr} {ic : Nat} {O : Nat → Int} {E : Nat → Nd} {M : Nat → Loc} {W W' : World} (h : DOf w a n c now since D V k ks la lc m ia ic O E M W) (hb : Below W.heap.size W W') : DOf w a n c now since D V k ks la lc m ia ic O E M W' :=
  ⟨h.p.below hb h.p.lt, h.r.below hb h.r.lt, h.v.below hb h.v.lt, h.bel.trans (hb.mono (by have := h.p.lt; omega)), h.far, h.od.below hb, h.sel⟩

theorem src_item (W : World) (o : Int) (d : Nd) (l : Loc) : Src (W.alloc (.cells #[.int .i64 o, .int .i64 d.kind, .string d.text, .slice l.nA d.nn l.nc, .slice l.kA d.kn l.kc, .int .i64 d.turn] 56)) 6 (.slice (some ⟨W.heap.size, 0, none⟩) 1 1) 1 (it6 o d l) :=
  ⟨rfl, it6_one o d l, Or.inr ⟨⟨W.heap.size, 0, none⟩, 1, rfl, fun j u hu => by
    rw [addr_add, Nat.zero_add]
    have := (Blk.new W #[.int .i64 o, .int .i64 d.kind, .string d.text, .slice l.nA d.nn l.nc, .slice l.kA d.kn l.kc, .int .i64 d.turn] 56).cell j
    rw [this]
    simpa [it6] using hu⟩⟩

theorem blk_grown {w w' : World} {b : Nat} {cs : Array Value} {t : TypeId} {r : Option Nat} (h : Blk w b cs t) (hg : w.grownBy w' r) (hr : r ≠ some b) : Blk w' b cs t := h.of_block (hg.block b h.lt (fun e => hr e.symm))

/-- One truth value more, stored. -/
theorem DOf.live {w : World} {a : Option Addr} {n c : Nat} {now since : Int} {D : Nat → Nd} {V k ks : Nat} {la : Option Addr} {lc m : Nat} {ia : Option Addr} {ic : Nat} {O : Nat → Int} {E : Nat → Nd} {M : Nat → Loc} {W W' : World} (h : DOf w a n c now since D V k ks la lc m ia ic O E M W) {b c' : Nat} (hg : W.grownBy W' (Value.slice la k lc).ownBlock)
    (hown : W'.ownsRow (V + 1) 4 1 (.slice (some ⟨b, 0, none⟩) (k + 1) c') (k + 1) (boolv k (fun i => (D i).kind != 0) ++ [.bool ((D k).kind != 0)])) (hb : (Value.slice la k lc).ownBlock = some b ∨ W.heap.size ≤ b) :
    DOf w a n c now since D V (k + 1) ks (some ⟨b, 0, none⟩) c' m ia ic O E M (W'.setCell ⟨V, 2, none⟩ (.slice (some ⟨b, 0, none⟩) (k + 1) c')) := by
  have hfar := h.far
  have hne : ∀ j, j ≤ V → (Value.slice la k lc).ownBlock ≠ some j := fun j hj e => by
    have := (owns_block h.od.ownL e).1
    omega
  have hVl := h.v.lt
  have hbel : Below w.heap.size w W' := h.bel.grown hg (by have := h.bel.size; omega) (fun j e => by have := (owns_block h.od.ownL e).1; omega)
  refine ⟨(blk_grown h.p hg (hne _ (by omega))).off _ (by omega), (blk_grown h.r hg (hne _ (by omega))).off _ (by omega), (blk_grown h.v hg (hne _ (Nat.le_refl _))).set 2 _, bel_put hbel _ (by omega), hfar, ?_, h.sel⟩
  exact (h.od.live hg (by rw [boolv_snoc]; exact hown) (fun b' e => by simp [Value.ownBlock] at e; rw [← e]; exact hb)).off _ (by omega)

/-- One place that was turned more, stored. -/
theorem DOf.item {w : World} {a : Option Addr} {n c : Nat} {now since : Int} {D : Nat → Nd} {V k ks : Nat} {la : Option Addr} {lc m : Nat} {ia : Option Addr} {ic : Nat} {O : Nat → Int} {E : Nat → Nd} {M : Nat → Loc} {W W1 W' : World} (h : DOf w a n c now since D V k ks la lc m ia ic O E M W) {l : Loc} (hN : NewNn W (D ks) l W1) {b c' : Nat} (hg : W1.grownBy W' (Value.slice ia m ic).ownBlock)
    (hown : W'.ownsRow (V + 1) 56 6 (.slice (some ⟨b, 0, none⟩) (m + 1) c') (m + 1) (rowsI O E M m ++ it6 (ks : Int) (D ks) l)) (hb : (Value.slice ia m ic).ownBlock = some b ∨ W1.heap.size ≤ b) (ht : turnedB D since ks = true) :
    DOf w a n c now since D V k (ks + 1) la lc (m + 1) (some ⟨b, 0, none⟩) c' (fun i => if i = m then (ks : Int) else O i) (fun i => if i = m then D ks else E i) (fun i => if i = m then l else M i) (W'.setCell ⟨V, 3, none⟩ (.slice (some ⟨b, 0, none⟩) (m + 1) c')) := by
  have h1 := h.below hN.bel
  have hfar := h.far
  have hne : ∀ j, j ≤ V → (Value.slice ia m ic).ownBlock ≠ some j := fun j hj e => by
    have := (owns_block h.od.ownI e).1
    omega
  have hVl := h.v.lt
  have hbel : Below w.heap.size w W' := h1.bel.grown hg (by have := h1.bel.size; omega) (fun j e => by have := (owns_block h.od.ownI e).1; omega)
  refine ⟨(blk_grown h1.p hg (hne _ (by omega))).off _ (by omega), (blk_grown h1.r hg (hne _ (by omega))).off _ (by omega), (blk_grown h1.v hg (hne _ (Nat.le_refl _))).set 3 _, bel_put hbel _ (by omega), hfar, ?_, h.sel.yes ht⟩
  exact (h.od.item hN (by omega) hg hown (fun b' e => by simp [Value.ownBlock] at e; rw [← e]; exact hb)).off _ (by omega)

/-- What it answers. -/
def DumpOfPost (w : World) (n : Nat) (D : Nat → Nd) (now since : Int) (e : Ending) (w' : World) : Prop :=
  Below w.heap.size w w' ∧ ((¬ (TreeGood n D now ∧ 0 ≤ since ∧ since ≤ now) ∧ e = .returned (.tuple #[.agg #[.int .i64 0, .int .i64 0, .slice none 0 0, .slice none 0 0], .bool false])) ∨
    (TreeGood n D now ∧ 0 ≤ since ∧ since ≤ now ∧ ∃ la lc m ia ic O E M, e = .returned (.tuple #[.agg #[.int .i64 since, .int .i64 now, .slice la n lc, .slice ia m ic], .bool true]) ∧ OD w' w.heap.size n (fun i => (D i).kind != 0) m O E M (.slice la n lc) (.slice ia m ic) ∧ Sel D since n m O E))

/-- A list of operations is walked at a world of which no more is said than this. -/
theorem wpList_at {P : Program} {ops : Array Oper} {l : List Oper} {a : Act} {Q : Exit → Act → World → Prop} {F : World → Prop} {w : World} (h : F w) (g : ∀ W, F W → wpList P ops Q l a W) : wpList P ops Q l a w := g w h

set_option maxHeartbeats 4000000 in
theorem specDumpOf_any (a : Option Addr) (n c : Nat) (now since : Int) (D : Nat → Nd) (L : Nat → Loc) (w : World) (hS : IsNds w a n D L) (hf : FitAll n D) (hn : n ≤ maxLen) (hsz : sizeTo D n ≤ 1048576) :
    Calls Try.prog 6 #[trV a n c now, .int .i64 since] w (DumpOfPost w n D now since) := by
  have hn' := hn
  unfold maxLen at hn'
  unfold trV
  obtain ⟨q0, hq, hq0, hq1, hq2⟩ := info_parts infoBool
  obtain ⟨y0, hy, hy0, hy1, hy2⟩ := info_parts infoItem
  go_enter Try.func6, Try.ntmps6
  go_wp2_with fail
  refine at_world (F := New2 w _ _ _ _) (new2 w _ _ _ _) ?_
  rintro W ⟨hp, hr, hb, hs⟩
  refine (specTreeOk_any a n c now D L W (hS.below (Nat.le_refl _) hb) hf hn hsz).mono ?_
  rintro e w1 ⟨hb1, ok, rfl, hok⟩
  have hp1 := hp.below hb1 (by omega)
  have hr1 := hr.below hb1 (by omega)
  have hB1 := hb.trans (hb1.mono (by omega))
  have hs1 : w.heap.size + 2 ≤ w1.heap.size := by have := hb1.size; omega
  have p0 : w1.cell? ⟨w.heap.size, 0, none⟩ = some (.slice a n c) := hp1.cell 0
  have p1 : w1.cell? ⟨w.heap.size, 1, none⟩ = some (.int .i64 now) := hp1.cell 1
  have r0 : w1.cell? ⟨w.heap.size + 1, 0, none⟩ = some (.int .i64 0) := hr1.cell 0
  have r1 : w1.cell? ⟨w.heap.size + 1, 1, none⟩ = some (.int .i64 0) := hr1.cell 1
  have r2 : w1.cell? ⟨w.heap.size + 1, 2, none⟩ = some (.slice none 0 0) := hr1.cell 2
  have r3 : w1.cell? ⟨w.heap.size + 1, 3, none⟩ = some (.slice none 0 0) := hr1.cell 3
  have g0 := hr1.frozen 0
  have g1 := hr1.frozen 1
  have g2 := hr1.frozen 2
  have g3 := hr1.frozen 3
  have H1 : Hid (Blk w1 w.heap.size #[.slice a n c, .int .i64 now] 34 ∧ Blk w1 (w.heap.size + 1) #[.int .i64 0, .int .i64 0, .slice none 0 0, .slice none 0 0] 29 ∧ Below w.heap.size w w1) := ⟨hp1, hr1, hB1⟩
  clear hp hr hb hs hb1 hp1 hr1 hB1
  have HNO : Hid (∀ W, (∃ h : True, W = ((((w1.setCell ⟨w.heap.size + 1, 0, none⟩ (.int .i64 0)).setCell ⟨w.heap.size + 1, 1, none⟩ (.int .i64 0)).setCell ⟨w.heap.size + 1, 2, none⟩ (.slice none 0 0)).setCell ⟨w.heap.size + 1, 3, none⟩ (.slice none 0 0))) → Blk W (w.heap.size + 1) #[.int .i64 0, .int .i64 0, .slice none 0 0, .slice none 0 0] 29 ∧ Below w.heap.size w W) := fun W ⟨_, e⟩ => by
    rw [e]
    exact ⟨(((H1.out.2.1.set 0 _).set 1 _).set 2 _).set 3 _, bel_put (bel_put (bel_put (bel_put H1.out.2.2 _ (by omega)) _ (by omega)) _ (by omega)) _ (by omega)⟩
  by_cases hgo : ok = true ∧ 0 ≤ since ∧ since ≤ now
  · obtain ⟨rfl, hs0, hs1'⟩ := hgo
    have HG : Hid (TreeGood n D now) := hok.1 rfl
    have hb1 : decide (since < 0) = false := by simp; omega
    have hb2 : decide (now < since) = false := by simp; omega
    have HV : Hid (DOf w a n c now since D w1.heap.size 0 0 none 0 0 none 0 (fun _ => 0) D L (w1.alloc (.cells #[.int .i64 since, .int .i64 now, .slice none 0 0, .slice none 0 0] 29))) := by
      have hbe := (Below.refl w1.heap.size w1).alloc (Nat.le_refl _) (.cells #[.int .i64 since, .int .i64 now, .slice none 0 0, .slice none 0 0] 29)
      exact ⟨H1.out.1.below hbe H1.out.1.lt, H1.out.2.1.below hbe H1.out.2.1.lt, Blk.new w1 _ _, H1.out.2.2.trans (hbe.mono (by omega)), hs1, OD.start _ _ _ _ _ _, ⟨by simp [selTo], fun i hi => absurd hi (Nat.not_lt_zero _)⟩⟩
    clear hok HNO r0 r1 r2 r3 g0 g1 g2 g3
    go_wp2_with fail
    obtain ⟨V, hV⟩ : ∃ V, V = w1.heap.size := ⟨_, rfl⟩
    rw [← hV] at HV ⊢
    clear hV
    have hn10 : n ≤ 10 := HG.out.few
    go_loopw [7] (fun i wr => ∃ (k : Nat) (la : Option Addr) (lc m : Nat) (ia : Option Addr) (ic : Nat) (O : Nat → Int) (E : Nat → Nd) (M : Nat → Loc), k ≤ n ∧ i = .int .i64 k ∧ DOf w a n c now since D V k k la lc m ia ic O E M wr) (fun i _ => n - (intOf i).toNat)
    case atStart => exact ⟨0, none, 0, 0, none, 0, _, _, _, Nat.zero_le _, rfl, HV.out⟩
    case round =>
      obtain ⟨k, la, lc, m, ia, ic, O, E, M, hk, rfl, hin⟩ := hrel
      have t0 : wr.cell? ⟨w.heap.size, 0, none⟩ = some (.slice a n c) := hin.p.cell 0
      have t1 : wr.cell? ⟨w.heap.size, 1, none⟩ = some (.int .i64 now) := hin.p.cell 1
      have HIN : Hid (DOf w a n c now since D V k k la lc m ia ic O E M wr) := hin
      have hwl := hin.p.lt
      have hVl := hin.v.lt
      have hVf := hin.far
      clear hin
      by_cases hlt : k < n
      · obtain ⟨b0, off0, hA0, hlt0, hc0⟩ := (hS.below (Nat.le_refl _) HIN.out.bel).at hlt
        obtain ⟨c0, c1, c2, c3, c4, hNd⟩ := hc0 k hlt
        have HNd : Hid (NdIn wr (D k) (L k)) := hNd
        have hlti : (k : Int) < (n : Int) := by omega
        rw [hA0] at t0
        have HA0 : Hid (a = some ⟨b0, off0, none⟩) := hA0
        clear hc0 hNd hA0
        have v2 : wr.cell? ⟨V, 2, none⟩ = some (.slice la k lc) := HIN.out.v.cell 2
        have hVne : V ≠ wr.heap.size := by omega
        have hVne1 : V ≠ wr.heap.size + 1 := by omega
        have hVlt1 : V < wr.heap.size + 1 := by omega
        obtain ⟨WN, hWN⟩ : ∃ WN, WN = wr.alloc (.cells #[.int .i64 (D k).kind, .string (D k).text, .slice (L k).nA (D k).nn (L k).nc, .slice (L k).kA (D k).kn (L k).kc, .int .i64 (D k).turn] 53) := ⟨_, rfl⟩
        have hbN : Below wr.heap.size wr WN := by rw [hWN]; exact (Below.refl _ _).alloc (Nat.le_refl _) _
        have hszN : WN.heap.size = wr.heap.size + 1 := by rw [hWN]; simp
        have hNb : Blk WN wr.heap.size #[.int .i64 (D k).kind, .string (D k).text, .slice (L k).nA (D k).nn (L k).nc, .slice (L k).kA (D k).kn (L k).kc, .int .i64 (D k).turn] 53 := by rw [hWN]; exact Blk.new wr _ _
        obtain ⟨WL, hWL⟩ : ∃ WL, WL = WN.alloc (.cells #[.bool ((D k).kind != 0)] 4) := ⟨_, rfl⟩
        have hbL : Below WN.heap.size WN WL := by rw [hWL]; exact (Below.refl _ _).alloc (Nat.le_refl _) _
        have hszL : WL.heap.size = wr.heap.size + 1 + 1 := by rw [hWL]; simp; omega
        have hLb : Blk WL (wr.heap.size + 1) #[.bool ((D k).kind != 0)] 4 := by have := Blk.new WN #[.bool ((D k).kind != 0)] 4; rw [hszN] at this; rw [hWL]; exact this
        have HL : Hid (DOf w a n c now since D V k k la lc m ia ic O E M WL ∧ Blk WL wr.heap.size #[.int .i64 (D k).kind, .string (D k).text, .slice (L k).nA (D k).nn (L k).nc, .slice (L k).kA (D k).kn (L k).kc, .int .i64 (D k).turn] 53 ∧ NdIn WL (D k) (L k) ∧ WL.heap.size = wr.heap.size + 1 + 1) := ⟨(HIN.out.below hbN).below hbL, hNb.below hbL (by omega), (HNd.out.below (Nat.le_refl _) hbN).below (Nat.le_refl _) hbL, hszL⟩
        have HSrc : Hid (Src WL 1 (.slice (some ⟨wr.heap.size + 1, 0, none⟩) 1 1) 1 [.bool ((D k).kind != 0)]) := ⟨rfl, by intro u hu; simp at hu; subst hu; rfl, Or.inr ⟨⟨wr.heap.size + 1, 0, none⟩, 1, rfl, fun j u hu => by
          have hj : j = 0 := by
            rcases Nat.lt_or_ge j 1 with e | e
            · omega
            · rw [List.getElem?_eq_none (by simpa using e)] at hu; cases hu
          subst hj
          simp at hu
          rw [addr_add, ← hu]
          exact hLb.cell 0⟩⟩
        clear hbN hbL hNb hLb
        go_wp2_with (at_builtin; go_must (refine wpList_at (F := fun W => W = WL) (by rw [hWL, hWN]) ?_))
        intro Wx hWx
        subst hWx
        clear hWL hWN hszN hszL c0 c1 c2 c3 c4 v2 t0 t1
        have hlcap : k ≤ 10 := by omega
        refine wpList_append_src (by rfl) _ _ 26 rfl (V + 1) 4 q0 (.bool false) 1 1 Try.underlying26 hq hq0 hq1 hq2 rfl (by decide) (.slice la k lc) k _ (by rfl) HL.out.1.od.ownL _ 1 _ (by rfl) HSrc.out (by unfold maxLen; omega) (by omega) (by have := HL.out.2.2.2; omega) ?_
        intro vL W3 hown hgrow hnil hat
        rcases hown.2 with ⟨_, h0⟩ | ⟨gL, cL, cur, hvL, _, _, _⟩
        · omega
        subst hvL
        have hbL : (Value.slice la k lc).ownBlock = some gL ∨ Wx.heap.size ≤ gL := by
          rcases hat with e | e
          · exact Or.inl e.symm
          · right
            have e' : gL = Wx.heap.size := by simpa [Value.ownBlock] using e
            omega
        have hneN : (Value.slice la k lc).ownBlock ≠ some wr.heap.size := fun e => by have := (owns_block HIN.out.od.ownL e).2; omega
        have hneV : (Value.slice la k lc).ownBlock ≠ some V := fun e => by have := (owns_block HIN.out.od.ownL e).1; omega
        have hN3 := blk_grown HL.out.2.1 hgrow hneN
        have hV3 := blk_grown HL.out.1.v hgrow hneV
        have n0 : W3.cell? ⟨wr.heap.size, 0, none⟩ = some (.int .i64 (D k).kind) := hN3.cell 0
        have n1 : W3.cell? ⟨wr.heap.size, 1, none⟩ = some (.string (D k).text) := hN3.cell 1
        have n2 : W3.cell? ⟨wr.heap.size, 2, none⟩ = some (.slice (L k).nA (D k).nn (L k).nc) := hN3.cell 2
        have n3 : W3.cell? ⟨wr.heap.size, 3, none⟩ = some (.slice (L k).kA (D k).kn (L k).kc) := hN3.cell 3
        have n4 : W3.cell? ⟨wr.heap.size, 4, none⟩ = some (.int .i64 (D k).turn) := hN3.cell 4
        have v2 : W3.cell? ⟨V, 2, none⟩ = some (.slice la k lc) := hV3.cell 2
        have v3 : W3.cell? ⟨V, 3, none⟩ = some (.slice ia m ic) := hV3.cell 3
        have f2 := hV3.frozen 2
        have f3 := hV3.frozen 3
        have hNV : wr.heap.size ≠ V := by omega
        have H4 : Hid (DOf w a n c now since D V (k + 1) k (some ⟨gL, 0, none⟩) cL m ia ic O E M (W3.setCell ⟨V, 2, none⟩ (.slice (some ⟨gL, 0, none⟩) (k + 1) cL)) ∧ Blk (W3.setCell ⟨V, 2, none⟩ (.slice (some ⟨gL, 0, none⟩) (k + 1) cL)) wr.heap.size #[.int .i64 (D k).kind, .string (D k).text, .slice (L k).nA (D k).nn (L k).nc, .slice (L k).kA (D k).kn (L k).kc, .int .i64 (D k).turn] 53) := ⟨HL.out.1.live hgrow hown hbL, hN3.off _ (by omega)⟩
        clear hown hgrow hnil hat hN3 hV3 HL HSrc hbL hneN hneV HNd
        by_cases ht : (D k).kind = 0
        · have hb5 : ((D k).kind != 0) = false := by simp [ht]
          have HT : Hid (turnedB D since k = false) := by show _ = _; unfold turnedB; rw [hb5]; rfl
          clear ht
          go_wp2_with fail
          go_roundw
          case rel =>
            obtain ⟨h1, h2⟩ := H4.out
            exact ⟨k + 1, some ⟨gL, 0, none⟩, cL, m, ia, ic, O, E, M, by omega, by go_num, ⟨h1.p, h1.r, h1.v, h1.bel, h1.far, h1.od, h1.sel.no HT.out⟩⟩
          case measure => simp [intOf]; omega
        · have hb5 : ((D k).kind != 0) = true := by simp [ht]
          by_cases hs5 : since < (D k).turn
          · have hb6 : decide (since < (D k).turn) = true := by simp; omega
            have HT : Hid (turnedB D since k = true) := by show _ = _; unfold turnedB; rw [hb5, hb6]; rfl
            clear ht hs5
            go_wp2_with fail
            revert H4
            generalize W3.setCell ⟨V, 2, none⟩ (.slice (some ⟨gL, 0, none⟩) (k + 1) cL) = W4
            intro H4
            clear n0 n1 n2 n3 n4 v2 v3 f2 f3
            have v3 : W4.cell? ⟨V, 3, none⟩ = some (.slice ia m ic) := H4.out.1.v.cell 3
            have n0 : W4.cell? ⟨wr.heap.size, 0, none⟩ = some (.int .i64 (D k).kind) := H4.out.2.cell 0
            have n1 : W4.cell? ⟨wr.heap.size, 1, none⟩ = some (.string (D k).text) := H4.out.2.cell 1
            have n2 : W4.cell? ⟨wr.heap.size, 2, none⟩ = some (.slice (L k).nA (D k).nn (L k).nc) := H4.out.2.cell 2
            have n3 : W4.cell? ⟨wr.heap.size, 3, none⟩ = some (.slice (L k).kA (D k).kn (L k).kc) := H4.out.2.cell 3
            have n4 : W4.cell? ⟨wr.heap.size, 4, none⟩ = some (.int .i64 (D k).turn) := H4.out.2.cell 4
            have hN0 := H4.out.2.lt
            have hV0 := H4.out.1.v.lt
            have HSt : Hid (∀ W, Below W4.heap.size W4 W → W.cell? ⟨V, 3, none⟩ = some (.slice ia m ic) ∧ W.cell? ⟨wr.heap.size, 0, none⟩ = some (.int .i64 (D k).kind) ∧ W.cell? ⟨wr.heap.size, 1, none⟩ = some (.string (D k).text) ∧ W.cell? ⟨wr.heap.size, 2, none⟩ = some (.slice (L k).nA (D k).nn (L k).nc) ∧ W.cell? ⟨wr.heap.size, 3, none⟩ = some (.slice (L k).kA (D k).kn (L k).kc) ∧ W.cell? ⟨wr.heap.size, 4, none⟩ = some (.int .i64 (D k).turn)) := fun W hW => ⟨(hW.cell hV0).trans v3, (hW.cell hN0).trans n0, (hW.cell hN0).trans n1, (hW.cell hN0).trans n2, (hW.cell hN0).trans n3, (hW.cell hN0).trans n4⟩
            have hd4 : Below W4.heap.size W4 W4.drew := below_drewN (Below.refl _ _) 1
            have hsm := small_of_size hsz k hlt
            have HNd : Hid (∀ W, Below W4.heap.size W4 W → NdIn W (D k) (L k)) := fun W hW => by
              obtain ⟨b9, o9, h9, _, hc9⟩ := hS.at hlt
              have hb9 := H4.out.1.bel.trans (hW.mono H4.out.1.bel.size)
              exact (hc9 k hlt).2.2.2.2.2.below (Nat.le_refl _) hb9
            refine wp_region_noPanic ?_
            refine wp_region_peel2 (fun W' => W'.cell? ⟨V, 3, none⟩ = some (.slice ia m ic) ∧ W'.cell? ⟨wr.heap.size, 0, none⟩ = some (.int .i64 (D k).kind) ∧ W'.cell? ⟨wr.heap.size, 1, none⟩ = some (.string (D k).text) ∧ W'.cell? ⟨wr.heap.size, 2, none⟩ = some (.slice (L k).nA (D k).nn (L k).nc) ∧ W'.cell? ⟨wr.heap.size, 3, none⟩ = some (.slice (L k).kA (D k).kn (L k).kc) ∧ W'.cell? ⟨wr.heap.size, 4, none⟩ = some (.int .i64 (D k).turn)) _ _ (by kernel_rfl) rfl rfl (by kernel_rfl) (by kernel_rfl) ?_ (fun hHeld => ?_)
            · exact HSt.out _ hd4
            simp only [List.pop_toArray, List.dropLast, List.size_toArray, List.length_cons, List.length_nil, Nat.reduceAdd, Nat.reduceSub, List.getElem_toArray, List.getElem_cons_succ, List.getElem_cons_zero]
            refine peel_take (i := 0) (oi := ?oi0) (v := ?v0) (fun _ _ _ _ _ h => h) hHeld ?hi0 (by kernel_rfl) (by kernel_rfl) (by kernel_rfl) ?hw0 ?hy0 ?rest0
            case hi0 =>
              simp only [List.getElem?_toArray, List.getElem?_cons_zero]
              rfl
            case hw0 => rfl
            case hy0 =>
              intro w hSw
              obtain ⟨s0, s1, s2, s3, s4, s5⟩ := hSw
              go_simp
              try with_reducible rfl
            try simp only [Act.put, List.setIfInBounds_toArray, List.set_cons_zero, List.set_cons_succ]
            refine peel_take (i := 1) (oi := ?oi1) (v := ?v1) (fun _ _ _ _ _ h => h) hHeld ?hi1 (by kernel_rfl) (by kernel_rfl) (by kernel_rfl) ?hw1 ?hy1 ?rest1
            case hi1 =>
              simp only [List.getElem?_toArray, List.getElem?_cons_succ, List.getElem?_cons_zero]
              rfl
            case hw1 => rfl
            case hy1 =>
              intro w hSw
              obtain ⟨s0, s1, s2, s3, s4, s5⟩ := hSw
              go_simp
              try with_reducible rfl
            try simp only [Act.put, List.setIfInBounds_toArray, List.set_cons_zero, List.set_cons_succ]
            refine peel_take (i := 2) (oi := ?oi2) (v := ?v2) (fun _ _ _ _ _ h => h) hHeld ?hi2 (by kernel_rfl) (by kernel_rfl) (by kernel_rfl) ?hw2 ?hy2 ?rest2
            case hi2 =>
              simp only [List.getElem?_toArray, List.getElem?_cons_succ, List.getElem?_cons_zero]
              rfl
            case hw2 => rfl
            case hy2 =>
              intro w hSw
              obtain ⟨s0, s1, s2, s3, s4, s5⟩ := hSw
              go_simp
              try with_reducible rfl
            try simp only [Act.put, List.setIfInBounds_toArray, List.set_cons_zero, List.set_cons_succ]
            refine peel_take (i := 3) (oi := ?oi3) (v := ?v3) (fun _ _ _ _ _ h => h) hHeld ?hi3 (by kernel_rfl) (by kernel_rfl) (by kernel_rfl) ?hw3 ?hy3 ?rest3
            case hi3 =>
              simp only [List.getElem?_toArray, List.getElem?_cons_succ, List.getElem?_cons_zero]
              rfl
            case hw3 => rfl
            case hy3 =>
              intro w hSw
              obtain ⟨s0, s1, s2, s3, s4, s5⟩ := hSw
              go_simp
              try with_reducible rfl
            try simp only [Act.put, List.setIfInBounds_toArray, List.set_cons_zero, List.set_cons_succ]
            refine wpAnyH_ready (rs := [4]) (by kernel_rfl) (by simp) ?_
            refine AllReadyH.cons (o := ?o4) ?ho4 (fun K hK => ?st4) AllReadyH.nil
            case ho4 =>
              simp only [List.getElem?_toArray, List.getElem?_cons_succ, List.getElem?_cons_zero]
              rfl
            go_simp
            refine (l2Copy_any (D k) (L k) W4.drew (HNd.out _ hd4) hsm.1 hsm.2).mono ?_
            rintro e W5 ⟨l5, rfl, hN5⟩
            unfold ndV
            have hb5' : Below W4.heap.size W4 W5 := hd4.trans hN5.bel
            refine hK.out _ _ (HSt.out W5 hb5') (fun hHeld => ?re4)
            clear hK K
            try simp only [Act.put, List.setIfInBounds_toArray, List.set_cons_zero, List.set_cons_succ]
            refine wpAnyH_ready (rs := [5]) (by kernel_rfl) (by simp) ?_
            refine AllReadyH.cons (o := ?o5) ?ho5 (fun K hK => ?st5) AllReadyH.nil
            case ho5 =>
              simp only [List.getElem?_toArray, List.getElem?_cons_succ, List.getElem?_cons_zero]
              rfl
            go_simp
            refine hK.out _ _ (HSt.out W5 hb5') (fun hHeld => ?re5)
            clear hK K
            try simp only [Act.put, List.setIfInBounds_toArray, List.set_cons_zero, List.set_cons_succ]
            refine wpAnyH_ready (rs := [6]) (by kernel_rfl) (by simp) ?_
            refine AllReadyH.cons (o := ?o6) ?ho6 (fun K hK => ?st6) AllReadyH.nil
            case ho6 =>
              simp only [List.getElem?_toArray, List.getElem?_cons_succ, List.getElem?_cons_zero]
              rfl
            go_simp
            have hb6' : Below W4.heap.size W4 (W5.alloc (.cells #[.int .i64 (k : Int), .int .i64 (D k).kind, .string (D k).text, .slice l5.nA (D k).nn l5.nc, .slice l5.kA (D k).kn l5.kc, .int .i64 (D k).turn] 56)) := hb5'.alloc hb5'.size _
            refine hK.out _ _ (HSt.out _ hb6') (fun hHeld => ?re6)
            clear hK K
            try simp only [Act.put, List.setIfInBounds_toArray, List.set_cons_zero, List.set_cons_succ]
            refine wpAnyH_ready (rs := [7]) (by kernel_rfl) (by simp) ?_
            refine AllReadyH.cons (o := ?o7) ?ho7 (fun K hK => ?st7) AllReadyH.nil
            case ho7 =>
              simp only [List.getElem?_toArray, List.getElem?_cons_succ, List.getElem?_cons_zero]
              rfl
            have hD6 := H4.out.1.below hb6'
            have hm10 : m ≤ 10 := by have h1 := H4.out.1.sel.len; have h2 := selTo_len D since k; omega
            have hN6 := hN5.new.alloc (.cells #[.int .i64 (k : Int), .int .i64 (D k).kind, .string (D k).text, .slice l5.nA (D k).nn l5.nc, .slice l5.kA (D k).kn l5.kc, .int .i64 (D k).turn] 56)
            have hneV : (Value.slice ia m ic).ownBlock ≠ some V := fun e => by have := (owns_block H4.out.1.od.ownI e).1; omega
            have hneN : (Value.slice ia m ic).ownBlock ≠ some wr.heap.size := fun e => by have := (owns_block HIN.out.od.ownI e).2; omega
            refine step_of (by rfl) (wp_append_src (.tmp 57) (.tmp 62) 27 rfl (V + 1) 56 y0 (.agg #[.int .i64 0, .int .i64 0, .string ByteArray.empty, .slice none 0 0, .slice none 0 0, .int .i64 0]) 6 88 Try.underlying27 hy hy0 hy1 hy2 rfl (by decide) (.slice ia m ic) m _ (by rfl) hD6.od.ownI _ 1 _ (by rfl) (src_item W5 (k : Int) (D k) l5) (by unfold maxLen; omega) (by omega) (by have := hD6.v.lt; omega) ?_)
            intro vI W7 hown hgrow hnil hat
            rcases hown.2 with ⟨_, h0⟩ | ⟨gI, cI, cur, hvI, _, _, _⟩
            · omega
            subst hvI
            have hbI : (Value.slice ia m ic).ownBlock = some gI ∨ (W5.alloc (.cells #[.int .i64 (k : Int), .int .i64 (D k).kind, .string (D k).text, .slice l5.nA (D k).nn l5.nc, .slice l5.kA (D k).kn l5.kc, .int .i64 (D k).turn] 56)).heap.size ≤ gI := by
              rcases hat with e | e
              · exact Or.inl e.symm
              · right
                have e' : gI = (W5.alloc (.cells #[.int .i64 (k : Int), .int .i64 (D k).kind, .string (D k).text, .slice l5.nA (D k).nn l5.nc, .slice l5.kA (D k).kn l5.kc, .int .i64 (D k).turn] 56)).heap.size := by simpa [Value.ownBlock] using e
                omega
            have hV7 := blk_grown hD6.v hgrow hneV
            have hN7 := blk_grown (H4.out.2.below hb6' hN0) hgrow hneN
            have H8 : Hid (DOf w a n c now since D V (k + 1) (k + 1) (some ⟨gL, 0, none⟩) cL (m + 1) (some ⟨gI, 0, none⟩) cI (fun i => if i = m then (k : Int) else O i) (fun i => if i = m then D k else E i) (fun i => if i = m then l5 else M i) (W7.setCell ⟨V, 3, none⟩ (.slice (some ⟨gI, 0, none⟩) (m + 1) cI))) := (H4.out.1.below hd4).item hN6 hgrow hown hbI HT.out
            have v37 : W7.cell? ⟨V, 3, none⟩ = some (.slice ia m ic) := hV7.cell 3
            have f37 := hV7.frozen 3
            refine hK.out _ _ ⟨hV7.cell 3, hN7.cell 0, hN7.cell 1, hN7.cell 2, hN7.cell 3, hN7.cell 4⟩ (fun hHeld => ?re7)
            clear hK K
            try simp only [Act.put, List.setIfInBounds_toArray, List.set_cons_zero, List.set_cons_succ]
            refine wpAnyH_done (by kernel_rfl) ?_ _
            show Oper.wp _ _ _ _ _ _
            clear hown hgrow hnil hat hbI hV7 hN7 hN6 hD6 hN5 HSt HNd hneV hneN hHeld hd4 hb5' hb6' hsm
            go_simp
            show Oper.wp _ _ _ _ _ _
            go_simp
            refine NoPanic.normal ?_
            go_wp2_with fail
            go_roundw
            case rel => exact ⟨k + 1, some ⟨gL, 0, none⟩, cL, m + 1, some ⟨gI, 0, none⟩, cI, _, _, _, by omega, by go_num, H8.out⟩
            case measure => simp [intOf]; omega
          · have hb6 : decide (since < (D k).turn) = false := by simp; omega
            have HT : Hid (turnedB D since k = false) := by show _ = _; unfold turnedB; rw [hb6]; simp
            clear ht hs5
            go_wp2_with fail
            go_roundw
            case rel =>
              obtain ⟨h1, h2⟩ := H4.out
              exact ⟨k + 1, some ⟨gL, 0, none⟩, cL, m, ia, ic, O, E, M, by omega, by go_num, ⟨h1.p, h1.r, h1.v, h1.bel, h1.far, h1.od, h1.sel.no HT.out⟩⟩
            case measure => simp [intOf]; omega
      · obtain rfl : k = n := by omega
        have v0 : wr.cell? ⟨V, 0, none⟩ = some (.int .i64 since) := HIN.out.v.cell 0
        have v1 : wr.cell? ⟨V, 1, none⟩ = some (.int .i64 now) := HIN.out.v.cell 1
        have v2 : wr.cell? ⟨V, 2, none⟩ = some (.slice la k lc) := HIN.out.v.cell 2
        have v3 : wr.cell? ⟨V, 3, none⟩ = some (.slice ia m ic) := HIN.out.v.cell 3
        have r0 : wr.cell? ⟨w.heap.size + 1, 0, none⟩ = some (.int .i64 0) := HIN.out.r.cell 0
        have r1 : wr.cell? ⟨w.heap.size + 1, 1, none⟩ = some (.int .i64 0) := HIN.out.r.cell 1
        have r2 : wr.cell? ⟨w.heap.size + 1, 2, none⟩ = some (.slice none 0 0) := HIN.out.r.cell 2
        have r3 : wr.cell? ⟨w.heap.size + 1, 3, none⟩ = some (.slice none 0 0) := HIN.out.r.cell 3
        have g0 := HIN.out.r.frozen 0
        have g1 := HIN.out.r.frozen 1
        have g2 := HIN.out.r.frozen 2
        have g3 := HIN.out.r.frozen 3
        go_wp2_with fail
        refine end_world (F := fun W => Blk W (w.heap.size + 1) #[.int .i64 since, .int .i64 now, .slice la k lc, .slice ia m ic] 29 ∧ Below w.heap.size w W ∧ OD W (V + 1) k (fun i => (D i).kind != 0) m O E M (.slice la k lc) (.slice ia m ic)) ⟨(((HIN.out.r.set 0 _).set 1 _).set 2 _).set 3 _, bel_put (bel_put (bel_put (bel_put HIN.out.bel _ (by omega)) _ (by omega)) _ (by omega)) _ (by omega), (((HIN.out.od.off _ (by omega)).off _ (by omega)).off _ (by omega)).off _ (by omega)⟩ ?_
        clear r0 r1 r2 r3 g0 g1 g2 g3 v0 v1 v2 v3 t0 t1
        rintro W ⟨hr, hB, hod⟩
        have r0 : W.cell? ⟨w.heap.size + 1, 0, none⟩ = some (.int .i64 since) := hr.cell 0
        have r1 : W.cell? ⟨w.heap.size + 1, 1, none⟩ = some (.int .i64 now) := hr.cell 1
        have r2 : W.cell? ⟨w.heap.size + 1, 2, none⟩ = some (.slice la k lc) := hr.cell 2
        have r3 : W.cell? ⟨w.heap.size + 1, 3, none⟩ = some (.slice ia m ic) := hr.cell 3
        exact bodyPost_ret (v := .tuple #[.agg #[.int .i64 since, .int .i64 now, .slice la k lc, .slice ia m ic], .bool true]) (by simp [results, Try.results6, go_sem, r0, r1, r2, r3]) rfl ⟨hB, Or.inr ⟨HG.out, hs0, hs1', la, lc, m, ia, ic, O, E, M, rfl, hod.lower (by omega), HIN.out.sel⟩⟩
  · have HN : Hid (¬ (TreeGood n D now ∧ 0 ≤ since ∧ since ≤ now)) := fun h => hgo ⟨hok.2 h.1, h.2⟩
    have hcase : ok = false ∨ (ok = true ∧ since < 0) ∨ (ok = true ∧ 0 ≤ since ∧ now < since) := by
      rcases Bool.eq_false_or_eq_true ok with h | h
      · right
        by_cases h1 : since < 0
        · exact Or.inl ⟨h, h1⟩
        · exact Or.inr ⟨h, by omega, Decidable.byContradiction fun h2 => hgo ⟨h, by omega, by omega⟩⟩
      · exact Or.inl h
    clear hgo hok
    rcases hcase with rfl | ⟨rfl, h1⟩ | ⟨rfl, h1, h2⟩
    · go_wp2_with fail
      refine end_world (F := fun W => Blk W (w.heap.size + 1) #[.int .i64 0, .int .i64 0, .slice none 0 0, .slice none 0 0] 29 ∧ Below w.heap.size w W) (HNO.out _ ⟨trivial, rfl⟩) ?_
      clear HNO H1 r0 r1 r2 r3 g0 g1 g2 g3 p0 p1
      rintro W ⟨hr, hB⟩
      have r0 : W.cell? ⟨w.heap.size + 1, 0, none⟩ = some (.int .i64 0) := hr.cell 0
      have r1 : W.cell? ⟨w.heap.size + 1, 1, none⟩ = some (.int .i64 0) := hr.cell 1
      have r2 : W.cell? ⟨w.heap.size + 1, 2, none⟩ = some (.slice none 0 0) := hr.cell 2
      have r3 : W.cell? ⟨w.heap.size + 1, 3, none⟩ = some (.slice none 0 0) := hr.cell 3
      exact bodyPost_ret (v := .tuple #[.agg #[.int .i64 0, .int .i64 0, .slice none 0 0, .slice none 0 0], .bool false]) (by simp [results, Try.results6, go_sem, r0, r1, r2, r3]) rfl ⟨hB, Or.inl ⟨HN.out, rfl⟩⟩
    · have hb1 : decide (since < 0) = true := by simp; omega
      go_wp2_with fail
      refine end_world (F := fun W => Blk W (w.heap.size + 1) #[.int .i64 0, .int .i64 0, .slice none 0 0, .slice none 0 0] 29 ∧ Below w.heap.size w W) (HNO.out _ ⟨trivial, rfl⟩) ?_
      clear HNO H1 r0 r1 r2 r3 g0 g1 g2 g3 p0 p1
      rintro W ⟨hr, hB⟩
      have r0 : W.cell? ⟨w.heap.size + 1, 0, none⟩ = some (.int .i64 0) := hr.cell 0
      have r1 : W.cell? ⟨w.heap.size + 1, 1, none⟩ = some (.int .i64 0) := hr.cell 1
      have r2 : W.cell? ⟨w.heap.size + 1, 2, none⟩ = some (.slice none 0 0) := hr.cell 2
      have r3 : W.cell? ⟨w.heap.size + 1, 3, none⟩ = some (.slice none 0 0) := hr.cell 3
      exact bodyPost_ret (v := .tuple #[.agg #[.int .i64 0, .int .i64 0, .slice none 0 0, .slice none 0 0], .bool false]) (by simp [results, Try.results6, go_sem, r0, r1, r2, r3]) rfl ⟨hB, Or.inl ⟨HN.out, rfl⟩⟩
    · have hb1 : decide (since < 0) = false := by simp; omega
      have hb2 : decide (now < since) = true := by simp; omega
      go_wp2_with fail
      refine end_world (F := fun W => Blk W (w.heap.size + 1) #[.int .i64 0, .int .i64 0, .slice none 0 0, .slice none 0 0] 29 ∧ Below w.heap.size w W) (HNO.out _ ⟨trivial, rfl⟩) ?_
      clear HNO H1 r0 r1 r2 r3 g0 g1 g2 g3 p0 p1
      rintro W ⟨hr, hB⟩
      have r0 : W.cell? ⟨w.heap.size + 1, 0, none⟩ = some (.int .i64 0) := hr.cell 0
      have r1 : W.cell? ⟨w.heap.size + 1, 1, none⟩ = some (.int .i64 0) := hr.cell 1
      have r2 : W.cell? ⟨w.heap.size + 1, 2, none⟩ = some (.slice none 0 0) := hr.cell 2
      have r3 : W.cell? ⟨w.heap.size + 1, 3, none⟩ = some (.slice none 0 0) := hr.cell 3
      exact bodyPost_ret (v := .tuple #[.agg #[.int .i64 0, .int .i64 0, .slice none 0 0, .slice none 0 0], .bool false]) (by simp [results, Try.results6, go_sem, r0, r1, r2, r3]) rfl ⟨hB, Or.inl ⟨HN.out, rfl⟩⟩
end Go.Proofs.Yteoanlkmkmajjaa

/-
  What markText, markStringS and heldStringS do: each place of a list gets a text of its own, told by its number; and that it still holds it is asked.
-/
namespace Go.Proofs.Yteoanlkmkmajjaa
open Go.RowKit
set_option linter.unusedVariables false

/-- The last digit of a number, as a letter. -/
def dig (m : Nat) : UInt8 := UInt8.ofNat (48 + m % 10)
theorem dig_nat (m : Nat) : ((dig m).toNat : Int) = 48 + (m : Int) % 10 := by
  unfold dig
  rw [UInt8.toNat_ofNat']
  omega
/-- The digits of a number, at most f of them. -/
def digF : Nat → Nat → List UInt8 | 0, _ => [] | f + 1, k => if k = 0 then [] else digF f (k / 10) ++ [dig k]
/-- The text by which a place is marked. -/
def markOf (k : Nat) : List UInt8 := if k = 0 then [109, 48] else 109 :: digF 20 k

theorem digF_zero (f : Nat) : digF f 0 = [] := by cases f <;> simp [digF]
theorem digF_step (f k : Nat) (h : k ≠ 0) : digF (f + 1) k = digF f (k / 10) ++ [dig k] := by simp [digF, h]

theorem conv_digit (wr : World) (m : Nat) : (convert 108 9 (.slice (some ⟨wr.heap.size, 0, none⟩) 1 1)).run Try.prog (wr.alloc (.cells #[.int .u8 (48 + (m : Int) % 10)] 5)) = .ok (.string ⟨#[dig m]⟩) (wr.alloc (.cells #[.int .u8 (48 + (m : Int) % 10)] 5)) := by
  have e := dig_nat m
  refine run_convert_bytes_back _ 108 9 5 ⟨wr.heap.size, 0, none⟩ 1 [dig m] Try.underlying108 Try.underlying5 Try.underlying9 ?_
  intro j hj
  have : j = 0 := by simpa using hj
  subst this
  show World.cell? _ ((⟨wr.heap.size, 0, none⟩ : Addr).add 0) = some (.int .u8 ((dig m).toNat : Int))
  rw [e]
  simp [Addr.add]

theorem ret_nat {a b : Nat} (h : a = b) : Ending.returned (.int .i64 (a : Int)) = .returned (.int .i64 (b : Int)) := by rw [h]
theorem mret_str {a b : ByteArray} (h : a = b) : Ending.returned (.string a) = .returned (.string b) := by rw [h]

set_option maxRecDepth 100000 in
set_option maxHeartbeats 400000 in
theorem markText_any (k : Nat) (w : World) (h1 : 1 ≤ k) (h2 : k ≤ 1000000000) :
    Calls Try.prog 58 #[.int .i64 k] w fun e w' => e = .returned (.string ⟨(markOf k).toArray⟩) ∧ Below w.heap.size w w' := by
  have hle : decide ((k : Int) ≤ 0) = false := by simp; omega
  go_enter Try.func58, Try.ntmps58
  go_wp2
  go_loopw [0, 3] (fun kk o wr => ∃ (f m : Nat) (out : List UInt8), kk = .int .i64 m ∧ o = .string ⟨out.toArray⟩ ∧ m < 10 ^ f ∧ f ≤ 20 ∧ m ≤ 1000000000 ∧ digF f m ++ out = digF 20 k ∧ out.length + f = 20 ∧ Below w.heap.size w wr) (fun kk _ _ => (intOf kk).toNat)
  case atStart => exact ⟨20, k, [], rfl, rfl, by omega, Nat.le_refl _, h2, by simp, rfl, Below.refl _ _⟩
  case round =>
    obtain ⟨f, m, out, rfl, rfl, hm, hf, hm9, hd, hlen, hB⟩ := hrel
    have HD : Hid (digF f m ++ out = digF 20 k) := hd
    have HB : Hid (Below w.heap.size w wr) := hB
    clear hd hB
    by_cases h0 : m = 0
    · subst h0
      go_wp2
      go_ret
      refine ⟨mret_str ?_, HB.out⟩
      have hd := HD.out
      rw [digF_zero, List.nil_append] at hd
      unfold markOf
      rw [if_neg (by omega), ← hd]
      exact ByteArray.mk_append_mk [109] out
    · have hp : (0 : Int) < (m : Int) := by omega
      have hcv := conv_digit wr m
      have hol : out.length ≤ 20 := by omega
      obtain ⟨f', rfl⟩ : ∃ f', f = f' + 1 := ⟨f - 1, by cases f <;> simp at hm ⊢; omega⟩
      have HD2 : Hid (digF f' (m / 10) ++ (dig m :: out) = digF 20 k) := by
        show _ = _
        rw [← HD.out, digF_step f' m h0]; simp
      go_wp2
      go_roundw
      case rel => exact ⟨f', m / 10, dig m :: out, by go_num, congrArg Value.string (ByteArray.mk_append_mk [dig m] out), by rw [Nat.pow_succ] at hm; omega, by omega, by omega, HD2.out, by simp; omega, HB.out.alloc HB.out.size _⟩
      case measure => simp [intOf]; omega

/-- A list of texts in a row of one's own, not frozen. -/
structure Row (w : World) (g n : Nat) (S : Nat → ByteArray) : Prop where
  lt : g < w.heap.size
  cell : ∀ i, i < n → w.cell? ⟨g, 0 + i, none⟩ = some (.string (S i))
  free : ∀ i, i < n → w.frozen? ⟨g, 0 + i, none⟩ = false

theorem Row.below {w w' : World} {g n : Nat} {S : Nat → ByteArray} (h : Row w g n S) (hb : Below w.heap.size w w') : Row w' g n S :=
  ⟨Nat.lt_of_lt_of_le h.lt hb.size, fun i hi => (hb.cell (p := ⟨g, 0 + i, none⟩) h.lt).trans (h.cell i hi), fun i hi => (hb.frozen (p := ⟨g, 0 + i, none⟩) h.lt).trans (h.free i hi)⟩

/-- A store into the row. -/
theorem Row.set {w : World} {g n : Nat} {S : Nat → ByteArray} (h : Row w g n S) (k : Nat) (s : ByteArray) : Row (w.setCell ⟨g, 0 + k, none⟩ (.string s)) g n (fun i => if i = k then s else S i) := by
  refine ⟨by simp [World.setCell]; exact h.lt, fun i hi => ?_, fun i hi => ?_⟩
  · by_cases e : i = k
    · subst e
      rw [if_pos rfl]
      exact World.cell?_setCell_same' _ _ _ (by rw [h.cell i hi]; rfl)
    · rw [if_neg e, World.cell?_setCell_other (w := w) (a := ⟨g, 0 + k, none⟩) (b := ⟨g, 0 + i, none⟩) (v := .string s) (by intro h'; injection h' with h1 h2; omega)]; exact h.cell i hi
  · rw [World.frozen?_setCell]
    exact h.free i hi

/-- The texts by which n places are marked, from k on. -/
def marks (k : Nat) : Nat → ByteArray := fun i => ⟨(markOf (k + i)).toArray⟩

theorem mark_step (S : Nat → ByteArray) (k i m : Nat) : Value.string (if i = m then (⟨(markOf (k + m)).toArray⟩ : ByteArray) else if i < m then marks k i else S i) = Value.string (if i < m + 1 then marks k i else S i) := by
  by_cases h : i = m
  · subst h; simp [marks]
  · by_cases h2 : i < m
    · simp [h, h2, show i < m + 1 by omega]
    · simp [h, h2, show ¬ i < m + 1 by omega]

set_option maxHeartbeats 400000 in
theorem markStringS_any (g n c k B : Nat) (S : Nat → ByteArray) (w : World) (hR : Row w g n S) (hB : B ≤ g) (hn : n ≤ 1000000) (hk : 1 ≤ k) (hk2 : k ≤ 100000000) :
    Calls Try.prog 59 #[.slice (some ⟨g, 0, none⟩) n c, .int .i64 k] w fun e w' => e = .returned (.int .i64 ((k + n : Nat) : Int)) ∧ Below B w w' ∧ Row w' g n (marks k) := by
  go_enter Try.func59, Try.ntmps59
  go_wp2
  go_loopw [1, 5] (fun kk i wr => ∃ m : Nat, m ≤ n ∧ i = .int .i64 m ∧ kk = .int .i64 ((k + m : Nat) : Int) ∧ Below B w wr ∧ Row wr g n (fun j => if j < m then marks k j else S j)) (fun _ i _ => n - (intOf i).toNat)
  case atStart => exact ⟨0, Nat.zero_le _, rfl, rfl, Below.refl _ _, by simpa using hR⟩
  case round =>
    obtain ⟨m, hm, rfl, rfl, hb, hrow⟩ := hrel
    have HB : Hid (Below B w wr) := hb
    by_cases hlt : m < n
    · have hlti : (m : Int) < (n : Int) := by omega
      have HR : Hid _ := hrow
      clear hb hrow
      go_wp2_with fail
      refine (markText_any (k + m) _ (by omega) (by omega)).mono ?_
      rintro e w1 ⟨rfl, hb1⟩
      have hrow1 := HR.out.below hb1
      have hcm := hrow1.cell m hlt
      have hfm := hrow1.free m hlt
      rw [Nat.zero_add] at hcm hfm
      have HR1 : Hid _ := hrow1
      have HB1 : Hid (Below B w w1) := HB.out.trans (hb1.mono (by have := HR.out.lt; omega))
      clear hb1 hrow1 HR HB
      go_wp2
      go_roundw
      case rel => exact ⟨m + 1, by omega, by go_num, by go_num, HB1.out.setCell (p := ⟨g, m, none⟩) hB _, by
        have h := HR1.out.set m ⟨(markOf (k + m)).toArray⟩
        rw [Nat.zero_add] at h
        exact ⟨h.lt, fun i hi => by rw [h.cell i hi, mark_step S k i m], h.free⟩⟩
      case measure => simp [intOf]; omega
    · have hnm : m = n := by omega
      have HN : Hid (m = n) := hnm
      have HR : Hid _ := hrow
      clear hb hrow hnm
      go_wp2
      go_ret
      exact ⟨ret_nat (by rw [HN.out]), HB.out, HR.out.lt, fun i hi => by rw [HR.out.cell i hi, if_pos (by have := HN.out; omega)], HR.out.free⟩

theorem mark_same (k m : Nat) : ((marks k m).toList == markOf (k + m)) = true := by unfold marks; rw [ByteArray.toList_eq]; simp

set_option maxHeartbeats 1000000 in
/-- A list that holds its marks is told to. -/
theorem heldStringS_any (a : Option Addr) (n c k : Nat) (w : World) (hS : IsStrs w a n (marks k)) (hn : n ≤ 1000000) (hk : 1 ≤ k) (hk2 : k ≤ 100000000) :
    Calls Try.prog 61 #[.slice a n c, .int .i64 k] w fun e w' => e = .returned (.int .i64 ((k + n : Nat) : Int)) ∧ Below w.heap.size w w' := by
  go_enter Try.func61, Try.ntmps61
  go_wp2
  go_loopw [1, 5] (fun kk i wr => ∃ m : Nat, m ≤ n ∧ i = .int .i64 m ∧ kk = .int .i64 ((k + m : Nat) : Int) ∧ Below w.heap.size w wr) (fun _ i _ => n - (intOf i).toNat)
  case atStart => exact ⟨0, Nat.zero_le _, rfl, rfl, Below.refl _ _⟩
  case round =>
    obtain ⟨m, hm, rfl, rfl, hb⟩ := hrel
    have HB : Hid (Below w.heap.size w wr) := hb
    by_cases hlt : m < n
    · obtain ⟨b, off, rfl, hlt2, hc⟩ := hS.at hlt
      have hlti : (m : Int) < (n : Int) := by omega
      have hcm : wr.cell? ⟨b, off + m, none⟩ = some (.string (marks k m)) := (hb.cell (p := ⟨b, off + m, none⟩) hlt2).trans (hc m hlt)
      have hall : ∀ wq, Below wr.heap.size wr wq → wq.cell? ⟨b, off + m, none⟩ = some (.string (marks k m)) := fun wq hq => (hq.cell (p := ⟨b, off + m, none⟩) (Nat.lt_of_lt_of_le hlt2 hb.size)).trans hcm
      have HALL : Hid _ := hall
      clear hc hb hall
      go_wp2
      go_region_with (go_at_call 58; refine (markText_any (k + m) _ (by omega) (by omega)).mono ?_; rintro e w1 ⟨rfl, hb1⟩; have hcw := HALL.out w1 ((Below.refl wr.heap.size wr).drew.trans hb1))
      all_goals
        have hb2 : Below wr.heap.size wr w1 := (Below.refl wr.heap.size wr).drew.trans (by assumption)
        have HB2 : Hid (Below w.heap.size w w1) := HB.out.trans (hb2.mono HB.out.size)
        clear hb2
        go_wp2
        · have hx : (!(marks k m).toList == markOf (k + m)) = true := by assumption
          rw [mark_same] at hx
          cases hx
        · go_roundw
          case rel => exact ⟨m + 1, by omega, by go_num, by go_num, HB2.out⟩
          case measure => simp [intOf]; omega
    · have HN : Hid (m = n) := show m = n by omega
      clear hb
      go_wp2
      go_ret
      exact ⟨ret_nat (by rw [HN.out]), HB.out⟩
end Go.Proofs.Yteoanlkmkmajjaa

/-
  What the helpers that mark a list do at a row of one's own, and that it is told to hold its marks.
-/
namespace Go.Proofs.Yteoanlkmkmajjaa
open Go.RowKit Go.Deep
set_option linter.unusedVariables false
set_option linter.unusedSimpArgs false

theorem intv0_set (n m : Nat) (Z : Nat → Int) (z : Int) : (intv0 n Z).set m (.int .i64 z) = intv0 n (fun i => if i = m then z else Z i) := by
  apply List.ext_getElem?
  intro j
  rw [List.getElem?_set]
  by_cases e : m = j
  · subst e
    by_cases h : m < n <;> simp [intv0, h]
  · by_cases h : j < n <;> simp [intv0, h, e, Ne.symm e]

theorem boolv_set (n m : Nat) (Z : Nat → Bool) (z : Bool) : (boolv n Z).set m (.bool z) = boolv n (fun i => if i = m then z else Z i) := by
  apply List.ext_getElem?
  intro j
  rw [List.getElem?_set]
  by_cases e : m = j
  · subst e
    by_cases h : m < n <;> simp [boolv, h]
  · by_cases h : j < n <;> simp [boolv, h, e, Ne.symm e]

theorem intv0_ext {n : Nat} {Z Y : Nat → Int} (h : ∀ i, i < n → Z i = Y i) : intv0 n Z = intv0 n Y := by
  unfold intv0
  exact List.map_congr_left fun i hi => by rw [h i (by simpa using hi)]
theorem boolv_ext {n : Nat} {Z Y : Nat → Bool} (h : ∀ i, i < n → Z i = Y i) : boolv n Z = boolv n Y := by
  unfold boolv
  exact List.map_congr_left fun i hi => by rw [h i (by simpa using hi)]

theorem owns_addr {w : World} {B : Nat} {e : TypeId} {size n c : Nat} {a : Option Addr} {xs : List Value} (h : w.ownsRow B e size (.slice a n c) n xs) (hn : 0 < n) : ∃ g, a = some ⟨g, 0, none⟩ ∧ g < w.heap.size := by
  rcases h.2 with ⟨h0, hz⟩ | ⟨g, cap, cur, hv, _, hg, _⟩
  · omega
  · cases hv
    exact ⟨g, rfl, (Array.getElem?_eq_some_iff.1 hg).1⟩

set_option maxHeartbeats 1000000 in
theorem markIntS_own (a : Option Addr) (n c k B : Nat) (Z : Nat → Int) (w : World) (h : w.ownsRow B 3 1 (.slice a n c) n (intv0 n Z)) (hn : n ≤ 1048576) (hk : k ≤ 100000000) :
    Calls Try.prog 60 #[.slice a n c, .int .i64 k] w fun e w' => e = .returned (.int .i64 ((k + n : Nat) : Int)) ∧ w'.ownsRow B 3 1 (.slice a n c) n (intv0 n (fun i => ((k + i : Nat) : Int))) ∧ w.grownBy w' (Value.slice a n c).ownBlock := by
  go_enter Try.func60, Try.ntmps60
  go_wp2
  go_loopw [1, 5] (fun kk i wr => ∃ m : Nat, m ≤ n ∧ i = .int .i64 m ∧ kk = .int .i64 ((k + m : Nat) : Int) ∧ wr.ownsRow B 3 1 (.slice a n c) n (intv0 n (fun i => if i < m then ((k + i : Nat) : Int) else Z i)) ∧ w.grownBy wr (Value.slice a n c).ownBlock) (fun _ i _ => n - (intOf i).toNat)
  case atStart => exact ⟨0, Nat.zero_le _, rfl, rfl, by simpa using h, World.grownBy.refl _ _⟩
  case round =>
    obtain ⟨m, hm, rfl, rfl, hrow, hg⟩ := hrel
    by_cases hlt : m < n
    · obtain ⟨g, rfl, hgl⟩ := owns_addr hrow (by omega)
      have hlti : (m : Int) < (n : Int) := by omega
      have hcm := hrow.cellAt m (by omega)
      have hfm := hrow.frozenAt m
      rw [show (intv0 n (fun i => if i < m then ((k + i : Nat) : Int) else Z i))[m]? = some (.int .i64 (Z m)) from by simp [intv0, hlt]] at hcm
      have HR : Hid _ := hrow.stored m (.int .i64 ((k + m : Nat) : Int))
      have HG : Hid (w.grownBy wr (Value.slice (some ⟨g, 0, none⟩) n c).ownBlock) := hg
      clear hrow hg
      go_wp2
      go_roundw
      case rel => exact ⟨m + 1, by omega, by go_num, by go_num, by
        have := HR.out.1
        rw [intv0_set] at this
        rw [intv0_ext (Y := fun i => if i = m then ((k + m : Nat) : Int) else if i < m then ((k + i : Nat) : Int) else Z i) (fun i hi => by
          by_cases e : i = m
          · subst e; simp
          · by_cases e2 : i < m
            · simp [e, e2, show i < m + 1 by omega]
            · simp [e, e2, show ¬ i < m + 1 by omega])]
        exact this, HG.out.trans HR.out.2⟩
      case measure => simp [intOf]; omega
    · obtain rfl : m = n := by omega
      have HR : Hid _ := And.intro hrow hg
      clear hrow hg
      go_wp2
      go_ret
      refine ⟨rfl, ?_, HR.out.2⟩
      rw [intv0_ext (Y := fun i => if i < m then ((k + i : Nat) : Int) else Z i) (fun i hi => by simp [hi])]
      exact HR.out.1

set_option maxHeartbeats 1000000 in
theorem heldIntS_own (a : Option Addr) (n c k : Nat) (w : World) (h : IsInts w a n (fun i => ((k + i : Nat) : Int))) (hn : n ≤ 1048576) (hk : k ≤ 100000000) :
    Calls Try.prog 62 #[.slice a n c, .int .i64 k] w fun e w' => e = .returned (.int .i64 ((k + n : Nat) : Int)) ∧ w' = w := by
  go_enter Try.func62, Try.ntmps62
  go_wp2
  go_loopw [1, 5] (fun kk i wr => ∃ m : Nat, m ≤ n ∧ i = .int .i64 m ∧ kk = .int .i64 ((k + m : Nat) : Int) ∧ wr = w) (fun _ i _ => n - (intOf i).toNat)
  case atStart => exact ⟨0, Nat.zero_le _, rfl, rfl, rfl⟩
  case round =>
    obtain ⟨m, hm, rfl, rfl, rfl⟩ := hrel
    by_cases hlt : m < n
    · obtain ⟨b, off, rfl, hlt2, hc⟩ := h.at hlt
      have g0 := hc m hlt
      have hlti : (m : Int) < (n : Int) := by omega
      clear hc
      go_wp2
      go_roundw
      case rel => exact ⟨m + 1, by omega, by go_num, by go_num, trivial⟩
      case measure => simp [intOf]; omega
    · obtain rfl : m = n := by omega
      go_wp2
      go_ret
      exact ⟨rfl, rfl⟩

/-- The marks of truth values. -/
def markB (k : Nat) : Nat → Bool := fun i => decide ((k + i) % 3 = 0)

theorem mod3 (k m : Nat) : (((k : Int) + (m : Int)) % 3 == 0) = markB k m := by
  unfold markB
  by_cases e : (k + m) % 3 = 0
  · rw [decide_eq_true e]
    have : ((k : Int) + (m : Int)) % 3 = 0 := by omega
    simp [this]
  · rw [decide_eq_false e]
    have : ¬ ((k : Int) + (m : Int)) % 3 = 0 := by omega
    simp [this]

set_option maxHeartbeats 1000000 in
theorem markBoolS_own (a : Option Addr) (n c k B : Nat) (Z : Nat → Bool) (w : World) (h : w.ownsRow B 4 1 (.slice a n c) n (boolv n Z)) (hn : n ≤ 1048576) (hk : k ≤ 100000000) :
    Calls Try.prog 31 #[.slice a n c, .int .i64 k] w fun e w' => e = .returned (.int .i64 ((k + n : Nat) : Int)) ∧ w'.ownsRow B 4 1 (.slice a n c) n (boolv n (markB k)) ∧ w.grownBy w' (Value.slice a n c).ownBlock := by
  go_enter Try.func31, Try.ntmps31
  go_wp2
  go_loopw [1, 5] (fun kk i wr => ∃ m : Nat, m ≤ n ∧ i = .int .i64 m ∧ kk = .int .i64 ((k + m : Nat) : Int) ∧ wr.ownsRow B 4 1 (.slice a n c) n (boolv n (fun i => if i < m then markB k i else Z i)) ∧ w.grownBy wr (Value.slice a n c).ownBlock) (fun _ i _ => n - (intOf i).toNat)
  case atStart => exact ⟨0, Nat.zero_le _, rfl, rfl, by simpa using h, World.grownBy.refl _ _⟩
  case round =>
    obtain ⟨m, hm, rfl, rfl, hrow, hg⟩ := hrel
    by_cases hlt : m < n
    · obtain ⟨g, rfl, hgl⟩ := owns_addr hrow (by omega)
      have hlti : (m : Int) < (n : Int) := by omega
      have hcm := hrow.cellAt m (by omega)
      have hfm := hrow.frozenAt m
      rw [show (boolv n (fun i => if i < m then markB k i else Z i))[m]? = some (.bool (Z m)) from by simp [boolv, hlt]] at hcm
      have hmod : (((k : Int) + (m : Int)) % 3 == 0) = markB k m := mod3 k m
      have HR : Hid _ := hrow.stored m (.bool (markB k m))
      have HG : Hid (w.grownBy wr (Value.slice (some ⟨g, 0, none⟩) n c).ownBlock) := hg
      have HM : Hid _ := hmod
      clear hrow hg hmod
      go_wp2
      go_roundw
      case rel => exact ⟨m + 1, by omega, by go_num, by go_num, by
        have := HR.out.1
        rw [boolv_set] at this
        rw [HM.out, boolv_ext (Y := fun i => if i = m then markB k m else if i < m then markB k i else Z i) (fun i hi => by
          by_cases e : i = m
          · subst e; simp
          · by_cases e2 : i < m
            · simp [e, e2, show i < m + 1 by omega]
            · simp [e, e2, show ¬ i < m + 1 by omega])]
        exact this, by rw [HM.out]; exact HG.out.trans HR.out.2⟩
      case measure => simp [intOf]; omega
    · obtain rfl : m = n := by omega
      have HR : Hid _ := And.intro hrow hg
      clear hrow hg
      go_wp2
      go_ret
      refine ⟨rfl, ?_, HR.out.2⟩
      rw [boolv_ext (Y := fun i => if i < m then markB k i else Z i) (fun i hi => by simp [hi])]
      exact HR.out.1

set_option maxHeartbeats 1000000 in
theorem heldBoolS_own (a : Option Addr) (n c k : Nat) (w : World) (h : IsBools w a n (markB k)) (hn : n ≤ 1048576) (hk : k ≤ 100000000) :
    Calls Try.prog 33 #[.slice a n c, .int .i64 k] w fun e w' => e = .returned (.int .i64 ((k + n : Nat) : Int)) ∧ w' = w := by
  go_enter Try.func33, Try.ntmps33
  go_wp2
  go_loopw [1, 5] (fun kk i wr => ∃ m : Nat, m ≤ n ∧ i = .int .i64 m ∧ kk = .int .i64 ((k + m : Nat) : Int) ∧ wr = w) (fun _ i _ => n - (intOf i).toNat)
  case atStart => exact ⟨0, Nat.zero_le _, rfl, rfl, rfl⟩
  case round =>
    obtain ⟨m, hm, rfl, rfl, rfl⟩ := hrel
    by_cases hlt : m < n
    · obtain ⟨b, off, rfl, hlt2, hc⟩ := h.at hlt
      have g0 := hc m hlt
      have hlti : (m : Int) < (n : Int) := by omega
      have hmod := mod3 k m
      have hz : (!(markB k m == (((k : Int) + (m : Int)) % 3 == 0))) = false := by rw [hmod]; simp
      clear hc hmod
      go_wp2
      go_roundw
      case rel => exact ⟨m + 1, by omega, by go_num, by go_num, trivial⟩
      case measure => simp [intOf]; omega
    · obtain rfl : m = n := by omega
      go_wp2
      go_ret
      exact ⟨rfl, rfl⟩

theorem strv_set (n m : Nat) (S : Nat → ByteArray) (s : ByteArray) : (strv (lst n S)).set m (.string s) = strv (lst n (fun i => if i = m then s else S i)) := by
  apply List.ext_getElem?
  intro j
  rw [List.getElem?_set]
  by_cases e : m = j
  · subst e
    by_cases h : m < n <;> simp [strv, lst, h]
  · by_cases h : j < n <;> simp [strv, lst, h, e, Ne.symm e]

theorem strv_ext {n : Nat} {S T : Nat → ByteArray} (h : ∀ i, i < n → S i = T i) : strv (lst n S) = strv (lst n T) := by
  unfold lst
  congr 1
  exact List.map_congr_left fun i hi => h i (by simpa using hi)

theorem grown_of_below {w w' : World} (h : Below w.heap.size w w') (r : Option Nat) : w.grownBy w' r := ⟨h.os, h.tape, h.output, h.size, fun k hk _ => h.block k hk⟩

set_option maxHeartbeats 1000000 in
theorem markStringS_own (a : Option Addr) (n c k B : Nat) (S : Nat → ByteArray) (w : World) (h : w.ownsRow B 9 1 (.slice a n c) n (strv (lst n S))) (hn : n ≤ 1048576) (hk1 : 1 ≤ k) (hk : k ≤ 100000000) :
    Calls Try.prog 59 #[.slice a n c, .int .i64 k] w fun e w' => e = .returned (.int .i64 ((k + n : Nat) : Int)) ∧ w'.ownsRow B 9 1 (.slice a n c) n (strv (lst n (marks k))) ∧ w.grownBy w' (Value.slice a n c).ownBlock := by
  go_enter Try.func59, Try.ntmps59
  go_wp2
  go_loopw [1, 5] (fun kk i wr => ∃ m : Nat, m ≤ n ∧ i = .int .i64 m ∧ kk = .int .i64 ((k + m : Nat) : Int) ∧ wr.ownsRow B 9 1 (.slice a n c) n (strv (lst n (fun i => if i < m then marks k i else S i))) ∧ w.grownBy wr (Value.slice a n c).ownBlock) (fun _ i _ => n - (intOf i).toNat)
  case atStart => exact ⟨0, Nat.zero_le _, rfl, rfl, by simpa using h, World.grownBy.refl _ _⟩
  case round =>
    obtain ⟨m, hm, rfl, rfl, hrow, hg⟩ := hrel
    by_cases hlt : m < n
    · obtain ⟨g, rfl, hgl⟩ := owns_addr hrow (by omega)
      have hlti : (m : Int) < (n : Int) := by omega
      have HRow : Hid _ := hrow
      have HG : Hid (w.grownBy wr (Value.slice (some ⟨g, 0, none⟩) n c).ownBlock) := hg
      clear hrow hg
      go_wp2_with fail
      refine (markText_any (k + m) _ (by omega) (by omega)).mono ?_
      rintro e w1 ⟨rfl, hb1⟩
      have hrow1 := owns_same HRow.out (w' := w1) (fun b hb => hb1.block b (owns_block HRow.out hb).2)
      have hcm := hrow1.cellAt m (by omega)
      have hfm := hrow1.frozenAt m
      rw [show (strv (lst n (fun i => if i < m then marks k i else S i)))[m]? = some (.string (S m)) from by simp [strv, lst, hlt]] at hcm
      have HR : Hid _ := hrow1.stored m (.string ⟨(markOf (k + m)).toArray⟩)
      have HG1 : Hid (w.grownBy w1 (Value.slice (some ⟨g, 0, none⟩) n c).ownBlock) := HG.out.trans (grown_of_below hb1 _)
      clear hrow1 hb1 HG HRow
      go_wp2
      go_roundw
      case rel => exact ⟨m + 1, by omega, by go_num, by go_num, by
        have := HR.out.1
        rw [strv_set] at this
        rw [strv_ext (T := fun i => if i = m then (⟨(markOf (k + m)).toArray⟩ : ByteArray) else if i < m then marks k i else S i) (fun i hi => by
          by_cases e : i = m
          · subst e; simp [marks]
          · by_cases e2 : i < m
            · simp [e, e2, show i < m + 1 by omega]
            · simp [e, e2, show ¬ i < m + 1 by omega])]
        exact this, HG1.out.trans HR.out.2⟩
      case measure => simp [intOf]; omega
    · obtain rfl : m = n := by omega
      have HR : Hid _ := And.intro hrow hg
      clear hrow hg
      go_wp2
      go_ret
      refine ⟨rfl, ?_, HR.out.2⟩
      rw [strv_ext (T := fun i => if i < m then marks k i else S i) (fun i hi => by simp [hi])]
      exact HR.out.1
end Go.Proofs.Yteoanlkmkmajjaa

/-
  What is kept, in memory of one's own, when one of its lists is written into. Plain facts.
-/
namespace Go.Proofs.Yteoanlkmkmajjaa
open Go.RowKit Go.Deep
set_option linter.unusedVariables false
set_option linter.unusedSimpArgs false

section
variable {W W' : World} {B k : Nat} {Z Z' : Nat → Bool} {m : Nat} {O O' : Nat → Int} {D D' : Nat → Nd} {L : Nat → Loc} {lv iv : Value}

theorem OD.turn (h : OD W B k Z m O D L lv iv) {d0 : Nat} (hd0 : d0 < 2 + 2 * m) (hg : W.grownBy W' (valD lv iv D L d0).ownBlock) (hrow : ∀ d, d < 2 + 2 * m → d ≠ d0 → rowD k Z' m O' D' L d = rowD k Z m O D L d) (hval : ∀ d, d < 2 + 2 * m → valD lv iv D' L d = valD lv iv D L d)
    (hown : W'.ownsRow B (rowD k Z' m O' D' L d0).e (rowD k Z' m O' D' L d0).size (valD lv iv D L d0) (rowD k Z' m O' D' L d0).n (rowD k Z' m O' D' L d0).xs) : OD W' B k Z' m O' D' L lv iv := by
  refine ⟨⟨fun d hl => ?_, fun d1 d2 g1 g2 hne b h1 h2 => ?_⟩⟩
  · rw [hval d hl]
    by_cases e : d = d0
    · subst e; exact hown
    · rw [hrow d hl e]
      exact owns_kept (h.rows.own d hl) hg fun b hb => Ne.symm (Ne.symm (h.rows.apart d d0 hl hd0 e b hb))
  · rw [hval d1 g1] at h1
    rw [hval d2 g2] at h2
    exact h.rows.apart d1 d2 g1 g2 hne b h1 h2

/-- The same lengths everywhere: the same addresses. -/
theorem val_same (hl : ∀ i, i < m → (D' i).nn = (D i).nn ∧ (D' i).kn = (D i).kn) : ∀ d, d < 2 + 2 * m → valD lv iv D' L d = valD lv iv D L d := fun d hd => by
  unfold valD
  by_cases e0 : d = 0
  · rw [if_pos e0, if_pos e0]
  · by_cases e1 : d = 1
    · rw [if_neg e0, if_pos e1, if_neg e0, if_pos e1]
    · rw [if_neg e0, if_neg e1, if_neg e0, if_neg e1, (hl ((d - 2) / 2) (by omega)).1, (hl ((d - 2) / 2) (by omega)).2]

/-- The truth values are others. -/
theorem OD.turnLive (h : OD W B k Z m O D L lv iv) (hg : W.grownBy W' lv.ownBlock) (hown : W'.ownsRow B 4 1 lv k (boolv k Z')) : OD W' B k Z' m O D L lv iv :=
  h.turn (d0 := 0) (by omega) (by simpa [valD] using hg) (fun d hl hne => rowD_rest hne) (fun d hl => rfl) (by simpa [rowD, valD] using hown)

/-- The list of places holds others, of the same lists. -/
theorem OD.turnItems (h : OD W B k Z m O D L lv iv) (hl : ∀ i, i < m → (D' i).nn = (D i).nn ∧ (D' i).kn = (D i).kn ∧ (D' i).names = (D i).names ∧ (D' i).kids = (D i).kids) (hg : W.grownBy W' iv.ownBlock) (hown : W'.ownsRow B 56 6 iv m (rowsI O' D' L m)) : OD W' B k Z m O' D' L lv iv :=
  h.turn (d0 := 1) (by omega) (by simpa [valD] using hg) (fun d hd hne => by
    unfold rowD
    by_cases e0 : d = 0
    · rw [if_pos e0, if_pos e0]
    · obtain ⟨a1, a2, a3, a4⟩ := hl ((d - 2) / 2) (by omega)
      rw [if_neg e0, if_neg hne, if_neg e0, if_neg hne, a1, a2, a3, a4]) (val_same fun i hi => ⟨(hl i hi).1, (hl i hi).2.1⟩) (by simpa [rowD, valD] using hown)

/-- The names of a place are others. -/
theorem OD.turnNames (h : OD W B k Z m O D L lv iv) {i : Nat} (hi : i < m) (S : Nat → ByteArray) (hg : W.grownBy W' (Value.slice (L i).nA (D i).nn (L i).nc).ownBlock) (hown : W'.ownsRow B 9 1 (.slice (L i).nA (D i).nn (L i).nc) (D i).nn (strv (lst (D i).nn S))) :
    OD W' B k Z m O (fun j => if j = i then { D i with names := S } else D j) L lv iv := by
  have hd : (2 + 2 * i - 2) / 2 = i := by omega
  have hv : valD lv iv D L (2 + 2 * i) = .slice (L i).nA (D i).nn (L i).nc := by unfold valD; rw [if_neg (by omega), if_neg (by omega), if_pos (by omega), hd]
  refine h.turn (d0 := 2 + 2 * i) (by omega) (by rw [hv]; exact hg) (fun d hdl hne => ?_) (val_same fun j hj => by by_cases e : j = i <;> simp [e]) ?_
  · have hrows : rowsI O (fun j => if j = i then { D i with names := S } else D j) L m = rowsI O D L m := by
      have key : ∀ q, rowsI O (fun j => if j = i then { D i with names := S } else D j) L q = rowsI O D L q := fun q => by
        induction q with
        | zero => rfl
        | succ q ih =>
          rw [rowsI, rowsI, ih]
          by_cases e : q = i
          · subst e; simp [it6]
          · simp [e]
      exact key m
    unfold rowD
    by_cases e0 : d = 0
    · rw [if_pos e0, if_pos e0]
    · by_cases e1 : d = 1
      · rw [if_neg e0, if_pos e1, if_neg e0, if_pos e1, hrows]
      · rw [if_neg e0, if_neg e1, if_neg e0, if_neg e1]
        by_cases e : (d - 2) / 2 = i
        · have : d % 2 ≠ 0 := by omega
          rw [if_neg this, if_neg this]
          simp [e]
        · simp [e]
  · rw [hv]
    unfold rowD
    rw [if_neg (by omega), if_neg (by omega), if_pos (by omega), hd]
    simpa using hown

/-- The places in a directory are others. -/
theorem OD.turnKids (h : OD W B k Z m O D L lv iv) {i : Nat} (hi : i < m) (K : Nat → Int) (hg : W.grownBy W' (Value.slice (L i).kA (D i).kn (L i).kc).ownBlock) (hown : W'.ownsRow B 3 1 (.slice (L i).kA (D i).kn (L i).kc) (D i).kn (intv0 (D i).kn K)) :
    OD W' B k Z m O (fun j => if j = i then { D i with kids := K } else D j) L lv iv := by
  have hd : (3 + 2 * i - 2) / 2 = i := by omega
  have hv : valD lv iv D L (3 + 2 * i) = .slice (L i).kA (D i).kn (L i).kc := by unfold valD; rw [if_neg (by omega), if_neg (by omega), if_neg (by omega), hd]
  refine h.turn (d0 := 3 + 2 * i) (by omega) (by rw [hv]; exact hg) (fun d hdl hne => ?_) (val_same fun j hj => by by_cases e : j = i <;> simp [e]) ?_
  · have hrows : rowsI O (fun j => if j = i then { D i with kids := K } else D j) L m = rowsI O D L m := by
      have key : ∀ q, rowsI O (fun j => if j = i then { D i with kids := K } else D j) L q = rowsI O D L q := fun q => by
        induction q with
        | zero => rfl
        | succ q ih =>
          rw [rowsI, rowsI, ih]
          by_cases e : q = i
          · subst e; simp [it6]
          · simp [e]
      exact key m
    unfold rowD
    by_cases e0 : d = 0
    · rw [if_pos e0, if_pos e0]
    · by_cases e1 : d = 1
      · rw [if_neg e0, if_pos e1, if_neg e0, if_pos e1, hrows]
      · rw [if_neg e0, if_neg e1, if_neg e0, if_neg e1]
        by_cases e : (d - 2) / 2 = i
        · have : d % 2 = 0 := by omega
          rw [if_pos this, if_pos this]
          simp [e]
        · simp [e]
  · rw [hv]
    unfold rowD
    rw [if_neg (by omega), if_neg (by omega), if_neg (by omega), hd]
    simpa using hown
end
end Go.Proofs.Yteoanlkmkmajjaa

/-
  What markItemS does at what is kept, in memory of one's own: every list holds its own marks afterwards.
-/
namespace Go.Proofs.Yteoanlkmkmajjaa
open Go.RowKit Go.Deep
set_option linter.unusedVariables false
set_option linter.unusedSimpArgs false

section
variable {O O' : Nat → Int} {D D' : Nat → Nd} {L : Nat → Loc}

theorem rowsI_set {m i r : Nat} {u : Value} (hi : i < m) (hr : r < 6) (hx : it6 (O' i) (D' i) (L i) = (it6 (O i) (D i) (L i)).set r u) (ho : ∀ j, j < m → j ≠ i → O' j = O j ∧ D' j = D j) : (rowsI O D L m).set (i * 6 + r) u = rowsI O' D' L m := by
  apply List.ext_getElem?
  intro q
  by_cases hq : q < m * 6
  · have h1 := rowsI_get (O := O') (D := D') (L := L) m (q / 6) (by omega) (q % 6) (by omega)
    have h2 := rowsI_get (O := O) (D := D) (L := L) m (q / 6) (by omega) (q % 6) (by omega)
    rw [show q / 6 * 6 + q % 6 = q by omega] at h1 h2
    rw [h1, List.getElem?_set]
    by_cases e : q / 6 = i
    · rw [e, hx, List.getElem?_set]
      by_cases e2 : i * 6 + r = q
      · have e3 : r = q % 6 := by omega
        rw [if_pos e2, if_pos (by rw [rowsI_len]; omega), if_pos e3, if_pos (by simp [it6]; omega)]
      · have e3 : r ≠ q % 6 := by omega
        rw [if_neg e2, if_neg e3, h2, e]
    · obtain ⟨a1, a2⟩ := ho (q / 6) (by omega) e
      rw [if_neg (by omega), h2, a1, a2]
  · rw [List.getElem?_eq_none (by rw [List.length_set, rowsI_len]; omega), List.getElem?_eq_none (by rw [rowsI_len]; omega)]
end

section
variable {W : World} {B k : Nat} {Z : Nat → Bool} {m : Nat} {O : Nat → Int} {D : Nat → Nd} {L : Nat → Loc} {lv iv : Value} {g ic : Nat}

/-- The cells of a place that was turned. -/
theorem OD.cells (h : OD W B k Z m O D L lv (.slice (some ⟨g, 0, none⟩) m ic)) {i : Nat} (hi : i < m) : W.cell? ⟨g, i * 6, none⟩ = some (.int .i64 (O i)) ∧ W.cell? ⟨g, i * 6 + 1, none⟩ = some (.int .i64 (D i).kind) ∧ W.cell? ⟨g, i * 6 + 2, none⟩ = some (.string (D i).text) ∧
    W.cell? ⟨g, i * 6 + 3, none⟩ = some (.slice (L i).nA (D i).nn (L i).nc) ∧ W.cell? ⟨g, i * 6 + 4, none⟩ = some (.slice (L i).kA (D i).kn (L i).kc) ∧ W.cell? ⟨g, i * 6 + 5, none⟩ = some (.int .i64 (D i).turn) := by
  have key : ∀ r, r < 6 → W.cell? ⟨g, i * 6 + r, none⟩ = (it6 (O i) (D i) (L i))[r]? := fun r hr => by
    rw [h.ownI.cellAt (i * 6 + r) (by omega), rowsI_get m i hi r hr]
  exact ⟨key 0 (by omega), key 1 (by omega), key 2 (by omega), key 3 (by omega), key 4 (by omega), key 5 (by omega)⟩

theorem OD.free (h : OD W B k Z m O D L lv (.slice (some ⟨g, 0, none⟩) m ic)) (j : Nat) : W.frozen? ⟨g, j, none⟩ = false := h.ownI.frozenAt j

theorem OD.putIno (h : OD W B k Z m O D L lv (.slice (some ⟨g, 0, none⟩) m ic)) {i : Nat} (hi : i < m) (z : Int) : OD (W.setCell ⟨g, i * 6, none⟩ (.int .i64 z)) B k Z m (fun j => if j = i then z else O j) D L lv (.slice (some ⟨g, 0, none⟩) m ic) := by
  obtain ⟨h1, h2⟩ := h.ownI.stored (i * 6 + 0) (.int .i64 z)
  rw [rowsI_set (O' := fun j => if j = i then z else O j) (D' := D) hi (by omega) (by simp [it6]) (fun j hj e => by simp [e])] at h1
  exact h.turnItems (fun j hj => ⟨rfl, rfl, rfl, rfl⟩) h2 h1

theorem OD.putKind (h : OD W B k Z m O D L lv (.slice (some ⟨g, 0, none⟩) m ic)) {i : Nat} (hi : i < m) (z : Int) : OD (W.setCell ⟨g, i * 6 + 1, none⟩ (.int .i64 z)) B k Z m O (fun j => if j = i then { D i with kind := z } else D j) L lv (.slice (some ⟨g, 0, none⟩) m ic) := by
  obtain ⟨h1, h2⟩ := h.ownI.stored (i * 6 + 1) (.int .i64 z)
  rw [rowsI_set (O' := O) (D' := fun j => if j = i then { D i with kind := z } else D j) hi (by omega) (by simp [it6]) (fun j hj e => by simp [e])] at h1
  exact h.turnItems (fun j hj => by by_cases e : j = i <;> simp [e]) h2 h1

theorem OD.putText (h : OD W B k Z m O D L lv (.slice (some ⟨g, 0, none⟩) m ic)) {i : Nat} (hi : i < m) (s : ByteArray) : OD (W.setCell ⟨g, i * 6 + 2, none⟩ (.string s)) B k Z m O (fun j => if j = i then { D i with text := s } else D j) L lv (.slice (some ⟨g, 0, none⟩) m ic) := by
  obtain ⟨h1, h2⟩ := h.ownI.stored (i * 6 + 2) (.string s)
  rw [rowsI_set (O' := O) (D' := fun j => if j = i then { D i with text := s } else D j) hi (by omega) (by simp [it6]) (fun j hj e => by simp [e])] at h1
  exact h.turnItems (fun j hj => by by_cases e : j = i <;> simp [e]) h2 h1

theorem OD.putTurn (h : OD W B k Z m O D L lv (.slice (some ⟨g, 0, none⟩) m ic)) {i : Nat} (hi : i < m) (z : Int) : OD (W.setCell ⟨g, i * 6 + 5, none⟩ (.int .i64 z)) B k Z m O (fun j => if j = i then { D i with turn := z } else D j) L lv (.slice (some ⟨g, 0, none⟩) m ic) := by
  obtain ⟨h1, h2⟩ := h.ownI.stored (i * 6 + 5) (.int .i64 z)
  rw [rowsI_set (O' := O) (D' := fun j => if j = i then { D i with turn := z } else D j) hi (by omega) (by simp [it6]) (fun j hj e => by simp [e])] at h1
  exact h.turnItems (fun j hj => by by_cases e : j = i <;> simp [e]) h2 h1

theorem OD.ownN (h : OD W B k Z m O D L lv iv) {i : Nat} (hi : i < m) : W.ownsRow B 9 1 (.slice (L i).nA (D i).nn (L i).nc) (D i).nn (strv (lst (D i).nn (D i).names)) := by
  have hd : (2 + 2 * i - 2) / 2 = i := by omega
  have := h.rows.own (2 + 2 * i) (by omega)
  unfold rowD valD at this
  rw [if_neg (by omega), if_neg (by omega), if_pos (by omega), if_neg (by omega), if_neg (by omega), if_pos (by omega), hd] at this
  exact this

theorem OD.ownK (h : OD W B k Z m O D L lv iv) {i : Nat} (hi : i < m) : W.ownsRow B 3 1 (.slice (L i).kA (D i).kn (L i).kc) (D i).kn (intv0 (D i).kn (D i).kids) := by
  have hd : (3 + 2 * i - 2) / 2 = i := by omega
  have := h.rows.own (3 + 2 * i) (by omega)
  unfold rowD valD at this
  rw [if_neg (by omega), if_neg (by omega), if_neg (by omega), if_neg (by omega), if_neg (by omega), if_neg (by omega), hd] at this
  exact this
end

/-- Blocks below B, and those from H on, are kept. -/
structure Fr (B H : Nat) (w w' : World) : Prop where
  bel : Below B w w'
  far : ∀ b, H ≤ b → b < w.heap.size → w'.heap[b]? = w.heap[b]?

theorem Fr.refl (B H : Nat) (w : World) : Fr B H w w := ⟨Below.refl _ _, fun _ _ _ => rfl⟩
theorem Fr.put {B H : Nat} {a w : World} (h : Fr B H a w) {b i : Nat} (v : Value) (hb : B ≤ b) (hH : b < H) : Fr B H a (w.setCell ⟨b, i, none⟩ v) := ⟨bel_put h.bel v hb, fun j hj hl => (blk_setCell_other _ _ _ _ (show j ≠ b by omega)).trans (h.far j hj hl)⟩
theorem Fr.below {B H : Nat} {a w w' : World} (h : Fr B H a w) (hB : B ≤ w.heap.size) (hb : Below w.heap.size w w') : Fr B H a w' := ⟨h.bel.trans (hb.mono hB), fun j hj hl => (hb.block j (Nat.lt_of_lt_of_le hl h.bel.size)).trans (h.far j hj hl)⟩
theorem Fr.grow {B H : Nat} {a w w' : World} {r : Option Nat} (h : Fr B H a w) (hg : w.grownBy w' r) (hB : B ≤ w.heap.size) (hr : ∀ b, r = some b → B ≤ b ∧ b < H) : Fr B H a w' := ⟨h.bel.grown hg hB (fun b e => (hr b e).1), fun j hj hl => (hg.block j (Nat.lt_of_lt_of_le hl h.bel.size) (fun e => by have := (hr j e.symm).2; omega)).trans (h.far j hj hl)⟩

theorem Fr.trans {B H : Nat} {a b c : World} (h : Fr B H a b) (_hB : B ≤ b.heap.size) (k : Fr B H b c) : Fr B H a c := ⟨h.bel.trans k.bel, fun j hj hl => (k.far j hj (Nat.lt_of_lt_of_le hl h.bel.size)).trans (h.far j hj hl)⟩

theorem valD_n {lv iv : Value} {D : Nat → Nd} {L : Nat → Loc} {j : Nat} : valD lv iv D L (2 + 2 * j) = .slice (L j).nA (D j).nn (L j).nc := by unfold valD; rw [if_neg (by omega), if_neg (by omega), if_pos (by omega), show (2 + 2 * j - 2) / 2 = j by omega]
theorem valD_k {lv iv : Value} {D : Nat → Nd} {L : Nat → Loc} {j : Nat} : valD lv iv D L (3 + 2 * j) = .slice (L j).kA (D j).kn (L j).kc := by unfold valD; rw [if_neg (by omega), if_neg (by omega), if_neg (by omega), show (3 + 2 * j - 2) / 2 = j by omega]

/-- The first mark of place j. -/
def kap (D : Nat → Nd) (k0 : Nat) : Nat → Nat | 0 => k0 | j + 1 => kap D k0 j + (4 + (D j).nn + (D j).kn)
/-- A place, marked from q on. -/
def markNd (d : Nd) (q : Nat) : Nd := ⟨((q + 1 : Nat) : Int), ⟨(markOf (q + 2)).toArray⟩, d.nn, marks (q + 3), d.kn, fun i => ((q + 3 + d.nn + i : Nat) : Int), ((q + 3 + d.nn + d.kn : Nat) : Int)⟩
def markO (D : Nat → Nd) (k0 : Nat) (O : Nat → Int) (j : Nat) : Nat → Int := fun i => if i < j then ((kap D k0 i : Nat) : Int) else O i
def markD (D : Nat → Nd) (k0 j : Nat) : Nat → Nd := fun i => if i < j then markNd (D i) (kap D k0 i) else D i

theorem kap_mono (D : Nat → Nd) (k0 : Nat) {i j : Nat} (h : i ≤ j) : kap D k0 i ≤ kap D k0 j := by
  induction h with
  | refl => exact Nat.le_refl _
  | step _ ih => rw [kap]; omega

theorem kap_ge (D : Nat → Nd) (k0 i : Nat) : k0 ≤ kap D k0 i := kap_mono D k0 (Nat.zero_le i)

set_option maxRecDepth 100000 in
set_option maxHeartbeats 4000000 in
theorem markItemS_own (H : Nat) (ia : Option Addr) (m ic k0 B k : Nat) (Z : Nat → Bool) (O : Nat → Int) (D : Nat → Nd) (L : Nat → Loc) (lv : Value) (w : World) (h : OD w B k Z m O D L lv (.slice ia m ic)) (hm : m ≤ 1048576) (hk1 : 1 ≤ k0) (hH : ∀ d b, d < 2 + 2 * m → (valD lv (.slice ia m ic) D L d).ownBlock = some b → b < H) (hkap : kap D k0 m ≤ 90000000) (hsz : ∀ i, i < m → (D i).nn ≤ 1048576 ∧ (D i).kn ≤ 1048576) :
    Calls Try.prog 32 #[.slice ia m ic, .int .i64 k0] w fun e w' => e = .returned (.int .i64 (kap D k0 m : Nat)) ∧ Fr B H w w' ∧ OD w' B k Z m (markO D k0 O m) (markD D k0 m) L lv (.slice ia m ic) := by
  go_enter Try.func32, Try.ntmps32
  go_wp2
  go_loopw [1, 5] (fun kk i wr => ∃ j : Nat, j ≤ m ∧ i = .int .i64 j ∧ kk = .int .i64 (kap D k0 j : Nat) ∧ Fr B H w wr ∧ OD wr B k Z m (markO D k0 O j) (markD D k0 j) L lv (.slice ia m ic)) (fun _ i _ => m - (intOf i).toNat)
  case atStart => exact ⟨0, Nat.zero_le _, rfl, rfl, Fr.refl _ _ _, by rw [show markO D k0 O 0 = O from by funext i; simp [markO], show markD D k0 0 = D from by funext i; simp [markD]]; exact h⟩
  case round =>
    obtain ⟨j, hj, rfl, rfl, hb, hod⟩ := hrel
    by_cases hlt : j < m
    · obtain ⟨g, rfl, hgl⟩ := owns_addr hod.ownI (by omega)
      have hBg : B ≤ g := (owns_block hod.ownI rfl).1
      have hgH : g < H := hH 1 g (by omega) rfl
      have hlti : (j : Int) < (m : Int) := by omega
      have hq1 := kap_ge D k0 j
      have hq2 := kap_mono D k0 (show j + 1 ≤ m by omega)
      have hq3 : kap D k0 (j + 1) = kap D k0 j + (4 + (D j).nn + (D j).kn) := rfl
      obtain ⟨hs1, hs2⟩ := hsz j hlt
      generalize hq : kap D k0 j = q at *
      have HQ : Hid (kap D k0 j = q) := hq
      clear hq
      have hqb : q ≤ 90000000 := by omega
      have hDj : markD D k0 j j = D j := by simp [markD]
      obtain ⟨c0, c1, c2, c3, c4, c5⟩ := hod.cells hlt
      have f0 := hod.free (j * 6)
      have f1 := hod.free (j * 6 + 1)
      have f2 := hod.free (j * 6 + 2)
      have f5 := hod.free (j * 6 + 5)
      rw [hDj] at c1 c2 c3 c4 c5
      have H0 : Hid (Fr B H w wr ∧ OD wr B k Z m (markO D k0 O j) (markD D k0 j) L lv (.slice (some ⟨g, 0, none⟩) m ic)) := ⟨hb, hod⟩
      have H2 : Hid (Fr B H w ((wr.setCell ⟨g, j * 6, none⟩ (.int .i64 q)).setCell ⟨g, j * 6 + 1, none⟩ (.int .i64 ((q : Int) + 1))) ∧ OD ((wr.setCell ⟨g, j * 6, none⟩ (.int .i64 q)).setCell ⟨g, j * 6 + 1, none⟩ (.int .i64 ((q : Int) + 1))) B k Z m (fun i => if i = j then (q : Int) else markO D k0 O j i) (fun i => if i = j then { D j with kind := (q : Int) + 1 } else markD D k0 j i) L lv (.slice (some ⟨g, 0, none⟩) m ic)) := ⟨(hb.put _ hBg hgH).put _ hBg hgH, by have := (hod.putIno hlt (q : Int)).putKind hlt ((q : Int) + 1); rw [hDj] at this; exact this⟩
      clear hb hod H0
      go_wp2_with fail
      have e2 : (q : Int) + 1 + 1 = ((q + 2 : Nat) : Int) := by omega
      rw [e2]
      clear e2
      refine at_world (F := fun W => Fr B H w W ∧ OD W B k Z m (fun i => if i = j then (q : Int) else markO D k0 O j i) (fun i => if i = j then { D j with kind := (q : Int) + 1 } else markD D k0 j i) L lv (.slice (some ⟨g, 0, none⟩) m ic)) H2.out ?_
      clear H2 c0 c1 c2 c3 c4 c5 f0 f1 f2 f5
      rintro W2 ⟨hb2, hod2⟩
      refine (markText_any (q + 2) W2 (by omega) (by omega)).mono ?_
      rintro e W3 ⟨rfl, hb3⟩
      have hod3 := hod2.below hb3
      have hgl2 : g < W2.heap.size := (owns_block hod2.ownI rfl).2
      have hb3' : Fr B H w W3 := hb2.below (by omega) hb3
      obtain ⟨_, _, c2, _, _, _⟩ := hod3.cells hlt
      have f2 := hod3.free (j * 6 + 2)
      have c2' : W3.cell? ⟨g, j * 6 + 2, none⟩ = some (.string (D j).text) := by rw [c2]; simp
      have H4 : Hid (Fr B H w (W3.setCell ⟨g, j * 6 + 2, none⟩ (.string ⟨(markOf (q + 2)).toArray⟩)) ∧ OD (W3.setCell ⟨g, j * 6 + 2, none⟩ (.string ⟨(markOf (q + 2)).toArray⟩)) B k Z m (fun i => if i = j then (q : Int) else markO D k0 O j i) (fun i => if i = j then { D j with kind := (q : Int) + 1, text := ⟨(markOf (q + 2)).toArray⟩ } else markD D k0 j i) L lv (.slice (some ⟨g, 0, none⟩) m ic)) := ⟨hb3'.put _ hBg hgH, by
        have := hod3.putText hlt ⟨(markOf (q + 2)).toArray⟩
        rw [show (fun i => if i = j then { D j with kind := (q : Int) + 1, text := ⟨(markOf (q + 2)).toArray⟩ } else markD D k0 j i) = (fun i => if i = j then { (fun i => if i = j then { D j with kind := (q : Int) + 1 } else markD D k0 j i) j with text := ⟨(markOf (q + 2)).toArray⟩ } else (fun i => if i = j then { D j with kind := (q : Int) + 1 } else markD D k0 j i) i) from by
          funext i
          by_cases e : i = j <;> simp [e]]
        exact this⟩
      obtain ⟨_, _, _, c3, c4, _⟩ := H4.out.2.cells hlt
      have c3' : (W3.setCell ⟨g, j * 6 + 2, none⟩ (.string ⟨(markOf (q + 2)).toArray⟩)).cell? ⟨g, j * 6 + 3, none⟩ = some (.slice (L j).nA (D j).nn (L j).nc) := by rw [c3]; simp
      have d3 : W3.cell? ⟨g, j * 6 + 3, none⟩ = some (.slice (L j).nA (D j).nn (L j).nc) := by
        obtain ⟨_, _, _, c3, _, _⟩ := hod3.cells hlt
        rw [c3]; simp
      clear c2 c3 c4 c3' hod2 hod3 hb2 hb3 hb3'
      go_wp2_with fail
      have e3 : (q : Int) + 2 + 1 = ((q + 3 : Nat) : Int) := by omega
      rw [e3]
      clear e3
      refine at_world (F := fun W => Fr B H w W ∧ OD W B k Z m (fun i => if i = j then (q : Int) else markO D k0 O j i) (fun i => if i = j then { D j with kind := (q : Int) + 1, text := ⟨(markOf (q + 2)).toArray⟩ } else markD D k0 j i) L lv (.slice (some ⟨g, 0, none⟩) m ic)) H4.out ?_
      clear H4 c2' d3 f2
      rintro W4 ⟨hb4, hod4⟩
      have hN4 : W4.ownsRow B 9 1 (.slice (L j).nA (D j).nn (L j).nc) (D j).nn (strv (lst (D j).nn (D j).names)) := by simpa using hod4.ownN hlt
      have hgl4 : g < W4.heap.size := (owns_block hod4.ownI rfl).2
      refine (markStringS_own (L j).nA (D j).nn (L j).nc (q + 3) B (D j).names W4 hN4 hs1 (by omega) (by omega)).mono ?_
      rintro e W5 ⟨rfl, hown5, hg5⟩
      have hb5 : Fr B H w W5 := hb4.grow hg5 (by omega) (fun b e => ⟨(owns_block hN4 e).1, hH (2 + 2 * j) b (by omega) (by rw [valD_n]; exact e)⟩)
      have hod5 : OD W5 B k Z m (fun i => if i = j then (q : Int) else markO D k0 O j i) (fun i => if i = j then { D j with kind := (q : Int) + 1, text := ⟨(markOf (q + 2)).toArray⟩, names := marks (q + 3) } else markD D k0 j i) L lv (.slice (some ⟨g, 0, none⟩) m ic) := by
        have := hod4.turnNames hlt (marks (q + 3)) (by simpa using hg5) (by simpa using hown5)
        rw [show (fun i => if i = j then { D j with kind := (q : Int) + 1, text := ⟨(markOf (q + 2)).toArray⟩, names := marks (q + 3) } else markD D k0 j i) = (fun i => if i = j then { (fun i => if i = j then { D j with kind := (q : Int) + 1, text := ⟨(markOf (q + 2)).toArray⟩ } else markD D k0 j i) j with names := marks (q + 3) } else (fun i => if i = j then { D j with kind := (q : Int) + 1, text := ⟨(markOf (q + 2)).toArray⟩ } else markD D k0 j i) i) from by
          funext i
          by_cases e : i = j <;> simp [e]]
        exact this
      obtain ⟨_, _, _, _, c4, _⟩ := hod5.cells hlt
      have c4' : W5.cell? ⟨g, j * 6 + 4, none⟩ = some (.slice (L j).kA (D j).kn (L j).kc) := by rw [c4]; simp
      have hK5 : W5.ownsRow B 3 1 (.slice (L j).kA (D j).kn (L j).kc) (D j).kn (intv0 (D j).kn (D j).kids) := by simpa using hod5.ownK hlt
      have hgl5 : g < W5.heap.size := (owns_block hod5.ownI rfl).2
      have H5 : Hid (Fr B H w W5 ∧ OD W5 B k Z m (fun i => if i = j then (q : Int) else markO D k0 O j i) (fun i => if i = j then { D j with kind := (q : Int) + 1, text := ⟨(markOf (q + 2)).toArray⟩, names := marks (q + 3) } else markD D k0 j i) L lv (.slice (some ⟨g, 0, none⟩) m ic)) := ⟨hb5, hod5⟩
      have HK5 : Hid _ := hK5
      clear hb4 hod4 hN4 hown5 hg5 hb5 hod5 c4 hK5
      go_wp2_with fail
      refine (markIntS_own (L j).kA (D j).kn (L j).kc (q + 3 + (D j).nn) B (D j).kids W5 HK5.out hs2 (by omega)).mono ?_
      rintro e W6 ⟨rfl, hown6, hg6⟩
      have hb6 : Fr B H w W6 := H5.out.1.grow hg6 (by omega) (fun b e => ⟨(owns_block HK5.out e).1, hH (3 + 2 * j) b (by omega) (by rw [valD_k]; exact e)⟩)
      have hod6 : OD W6 B k Z m (fun i => if i = j then (q : Int) else markO D k0 O j i) (fun i => if i = j then { D j with kind := (q : Int) + 1, text := ⟨(markOf (q + 2)).toArray⟩, names := marks (q + 3), kids := fun i => ((q + 3 + (D j).nn + i : Nat) : Int) } else markD D k0 j i) L lv (.slice (some ⟨g, 0, none⟩) m ic) := by
        have := H5.out.2.turnKids hlt (fun i => ((q + 3 + (D j).nn + i : Nat) : Int)) (by simpa using hg6) (by simpa using hown6)
        rw [show (fun i => if i = j then { D j with kind := (q : Int) + 1, text := ⟨(markOf (q + 2)).toArray⟩, names := marks (q + 3), kids := fun i => ((q + 3 + (D j).nn + i : Nat) : Int) } else markD D k0 j i) = (fun i => if i = j then { (fun i => if i = j then { D j with kind := (q : Int) + 1, text := ⟨(markOf (q + 2)).toArray⟩, names := marks (q + 3) } else markD D k0 j i) j with kids := fun i => ((q + 3 + (D j).nn + i : Nat) : Int) } else (fun i => if i = j then { D j with kind := (q : Int) + 1, text := ⟨(markOf (q + 2)).toArray⟩, names := marks (q + 3) } else markD D k0 j i) i) from by
          funext i
          by_cases e : i = j <;> simp [e]]
        exact this
      obtain ⟨_, _, _, _, _, c5⟩ := hod6.cells hlt
      have c5' : W6.cell? ⟨g, j * 6 + 5, none⟩ = some (.int .i64 (D j).turn) := by rw [c5]; simp
      have f5 := hod6.free (j * 6 + 5)
      have H7 : Hid (Fr B H w (W6.setCell ⟨g, j * 6 + 5, none⟩ (.int .i64 ((q + 3 + (D j).nn + (D j).kn : Nat) : Int))) ∧ OD (W6.setCell ⟨g, j * 6 + 5, none⟩ (.int .i64 ((q + 3 + (D j).nn + (D j).kn : Nat) : Int))) B k Z m (markO D k0 O (j + 1)) (markD D k0 (j + 1)) L lv (.slice (some ⟨g, 0, none⟩) m ic)) := ⟨hb6.put _ hBg hgH, by
        have := hod6.putTurn hlt ((q + 3 + (D j).nn + (D j).kn : Nat) : Int)
        rw [show markO D k0 O (j + 1) = (fun i => if i = j then (q : Int) else markO D k0 O j i) from by
          funext i
          by_cases e : i = j
          · subst e; simp [markO, HQ.out]
          · by_cases e2 : i < j
            · simp [markO, e, e2, show i < j + 1 by omega]
            · simp [markO, e, e2, show ¬ i < j + 1 by omega], show markD D k0 (j + 1) = (fun i => if i = j then { (fun i => if i = j then { D j with kind := (q : Int) + 1, text := ⟨(markOf (q + 2)).toArray⟩, names := marks (q + 3), kids := fun i => ((q + 3 + (D j).nn + i : Nat) : Int) } else markD D k0 j i) j with turn := ((q + 3 + (D j).nn + (D j).kn : Nat) : Int) } else (fun i => if i = j then { D j with kind := (q : Int) + 1, text := ⟨(markOf (q + 2)).toArray⟩, names := marks (q + 3), kids := fun i => ((q + 3 + (D j).nn + i : Nat) : Int) } else markD D k0 j i) i) from by
          funext i
          by_cases e : i = j
          · subst e; simp [markD, markNd, HQ.out]
          · by_cases e2 : i < j
            · simp [markD, e, e2, show i < j + 1 by omega]
            · simp [markD, e, e2, show ¬ i < j + 1 by omega]]
        exact this⟩
      have HQ3 : Hid (kap D k0 (j + 1) = q + (4 + (D j).nn + (D j).kn)) := by show _ = _; rw [kap, HQ.out]
      clear hown6 hg6 hb6 hod6 c5 H5 HK5 c4' hq1 hq2 hq3
      go_wp2_with fail
      go_roundw
      case rel =>
        have h7 := H7.out
        rw [show ((q + 3 + (D j).nn + (D j).kn : Nat) : Int) = (q : Int) + 3 + ((D j).nn : Int) + ((D j).kn : Int) from by omega] at h7
        exact ⟨j + 1, by omega, by go_num, by rw [HQ3.out]; go_num, h7.1, h7.2⟩
      case measure => simp [intOf]; omega
    · obtain rfl : j = m := by omega
      have HR : Hid _ := And.intro hb hod
      clear hb hod
      go_wp2
      go_ret
      exact ⟨rfl, HR.out.1, HR.out.2⟩
end Go.Proofs.Yteoanlkmkmajjaa

/-
  What is kept and holds its marks is told to.
-/
namespace Go.Proofs.Yteoanlkmkmajjaa
open Go.RowKit Go.Deep
set_option linter.unusedVariables false
set_option linter.unusedSimpArgs false

theorem ownd_strs {w : World} {B n c : Nat} {a : Option Addr} {S : Nat → ByteArray} (h : w.ownsRow B 9 1 (.slice a n c) n (strv (lst n S))) : IsStrs w a n S := by
  by_cases hn : n = 0
  · exact Or.inl hn
  · obtain ⟨g, rfl, hg⟩ := owns_addr h (by omega)
    exact Or.inr ⟨g, 0, rfl, hg, fun i hi => by rw [Nat.zero_add, h.cellAt i (by omega)]; simp [strv, lst, hi]⟩

theorem ownd_ints {w : World} {B n c : Nat} {a : Option Addr} {Z : Nat → Int} (h : w.ownsRow B 3 1 (.slice a n c) n (intv0 n Z)) : IsInts w a n Z := by
  by_cases hn : n = 0
  · exact Or.inl hn
  · obtain ⟨g, rfl, hg⟩ := owns_addr h (by omega)
    exact Or.inr ⟨g, 0, rfl, hg, fun i hi => by rw [Nat.zero_add, h.cellAt i (by omega)]; simp [intv0, hi]⟩

theorem ownd_bools {w : World} {B n c : Nat} {a : Option Addr} {Z : Nat → Bool} (h : w.ownsRow B 4 1 (.slice a n c) n (boolv n Z)) : IsBools w a n Z := by
  by_cases hn : n = 0
  · exact Or.inl hn
  · obtain ⟨g, rfl, hg⟩ := owns_addr h (by omega)
    exact Or.inr ⟨g, 0, rfl, hg, fun i hi => by rw [Nat.zero_add, h.cellAt i (by omega)]; simp [boolv, hi]⟩

set_option maxRecDepth 100000 in
set_option maxHeartbeats 4000000 in
theorem heldItemS_own (ia : Option Addr) (m ic k0 B k : Nat) (Z : Nat → Bool) (O : Nat → Int) (D : Nat → Nd) (L : Nat → Loc) (lv : Value) (w : World) (h : OD w B k Z m (markO D k0 O m) (markD D k0 m) L lv (.slice ia m ic)) (hm : m ≤ 10) (hk1 : 1 ≤ k0) (hkap : kap D k0 m ≤ 90000000) (hsz : ∀ i, i < m → (D i).nn ≤ 1000000 ∧ (D i).kn ≤ 1000000) :
    Calls Try.prog 34 #[.slice ia m ic, .int .i64 k0] w fun e w' => e = .returned (.int .i64 (kap D k0 m : Nat)) ∧ Below w.heap.size w w' := by
  go_enter Try.func34, Try.ntmps34
  go_wp2
  go_loopw [1, 5] (fun kk i wr => ∃ j : Nat, j ≤ m ∧ i = .int .i64 j ∧ kk = .int .i64 (kap D k0 j : Nat) ∧ Below w.heap.size w wr) (fun _ i _ => m - (intOf i).toNat)
  case atStart => exact ⟨0, Nat.zero_le _, rfl, rfl, Below.refl _ _⟩
  case round =>
    obtain ⟨j, hj, rfl, rfl, hb⟩ := hrel
    by_cases hlt : j < m
    · have hod := h.below hb
      obtain ⟨g, rfl, hgl⟩ := owns_addr hod.ownI (by omega)
      have hlti : (j : Int) < (m : Int) := by omega
      have hq1 := kap_ge D k0 j
      have hq2 := kap_mono D k0 (show j + 1 ≤ m by omega)
      have hq3 : kap D k0 (j + 1) = kap D k0 j + (4 + (D j).nn + (D j).kn) := rfl
      obtain ⟨hs1, hs2⟩ := hsz j hlt
      have hOj : markO D k0 O m j = ((kap D k0 j : Nat) : Int) := by simp [markO, hlt]
      have hDj : markD D k0 m j = markNd (D j) (kap D k0 j) := by simp [markD, hlt]
      generalize hq : kap D k0 j = q at *
      have HQ : Hid (kap D k0 j = q) := hq
      clear hq
      have hqb : q ≤ 90000000 := by omega
      have HQ3 : Hid (kap D k0 (j + 1) = q + (4 + (D j).nn + (D j).kn)) := hq3
      have HC : Hid (∀ W, Below wr.heap.size wr W → W.cell? ⟨g, j * 6, none⟩ = some (.int .i64 (q : Int)) ∧ W.cell? ⟨g, j * 6 + 1, none⟩ = some (.int .i64 ((q : Int) + 1)) ∧ W.cell? ⟨g, j * 6 + 2, none⟩ = some (.string ⟨(markOf (q + 2)).toArray⟩) ∧
        W.cell? ⟨g, j * 6 + 3, none⟩ = some (.slice (L j).nA (D j).nn (L j).nc) ∧ W.cell? ⟨g, j * 6 + 4, none⟩ = some (.slice (L j).kA (D j).kn (L j).kc) ∧ W.cell? ⟨g, j * 6 + 5, none⟩ = some (.int .i64 ((q : Int) + 3 + ((D j).nn : Int) + ((D j).kn : Int))) ∧
        IsStrs W (L j).nA (D j).nn (marks (q + 3)) ∧ IsInts W (L j).kA (D j).kn (fun i => ((q + 3 + (D j).nn + i : Nat) : Int)) ∧ Below w.heap.size w W) := fun W hW => by
        have hod2 := hod.below hW
        obtain ⟨c0, c1, c2, c3, c4, c5⟩ := hod2.cells hlt
        have hn := hod2.ownN hlt
        have hk := hod2.ownK hlt
        rw [hOj] at c0
        rw [hDj] at c1 c2 c3 c4 c5 hn hk
        refine ⟨c0, ?_, c2, c3, c4, ?_, ownd_strs hn, ownd_ints hk, hb.trans (hW.mono hb.size)⟩
        · rw [c1]; simp [markNd]
        · rw [c5]; simp [markNd]
      clear hod hb hOj hDj hq1 hq2 hq3
      obtain ⟨c0, c1, c2, c3, c4, c5, _, _, _⟩ := HC.out wr (Below.refl _ _)
      have z0 : ((q : Int) != (q : Int)) = false := by simp
      have z1 : ((q : Int) + 1 != (q : Int) + 1) = false := by simp
      have C2 := Lat.cell (B := wr.heap.size) c2 hgl
      have hcall : Hid (∀ nq : Lat wr.heap.size wr, Calls Try.prog 58 #[.int .i64 ((q : Int) + 1 + 1)] nq.val fun e w'' => e = .returned (.string ⟨(markOf (q + 2)).toArray⟩) ∧ ∃ m : Lat wr.heap.size wr, w'' = m.val) := fun nq => by
        have := Calls.lat_of (markText_any (q + 2) nq.val (by omega) (by omega)) (B := wr.heap.size) (w0 := wr) (fun e w' h => ⟨h.1, h.2.mono nq.bel.size⟩)
        rw [show ((q : Int) + 1 + 1) = ((q + 2 : Nat) : Int) from by omega]
        exact this
      have z2 : (!((⟨(markOf (q + 2)).toArray⟩ : ByteArray).toList == (⟨(markOf (q + 2)).toArray⟩ : ByteArray).toList)) = false := by simp
      go_wp2_with fail
      refine wp_region_lat (B := wr.heap.size) (w0 := wr) (by kernel_rfl) (by kernel_rfl) (Below.refl _ _) ?_
      repeat (go_big_quiet_step (exact hcall.out _))
      refine wpQuiet_nil ?_
      rintro _ ⟨nq, rfl⟩
      clear hcall C2 c0 c1 c2 c3 c4 c5
      obtain ⟨_, _, _, c3, c4, c5, hs3, _, _⟩ := HC.out nq.val nq.bel
      go_wp2_with fail
      rw [show (q : Int) + 1 + 1 + 1 = ((q + 3 : Nat) : Int) from by omega]
      refine (heldStringS_any (L j).nA (D j).nn (L j).nc (q + 3) nq.val hs3 (by omega) (by omega) (by omega)).mono ?_
      rintro e W4 ⟨rfl, hb4⟩
      have hb4' : Below wr.heap.size wr W4 := nq.bel.trans (hb4.mono nq.bel.size)
      clear c3 c4 c5 hs3 hb4
      obtain ⟨_, _, _, _, c4, c5, _, hi4, hbw⟩ := HC.out W4 hb4'
      have y1 : decide (((q + 3 + (D j).nn : Nat) : Int) < 0) = false := by simp; omega
      have HB4 : Hid (Below w.heap.size w W4) := hbw
      clear hbw hb4' HC
      go_wp2_with fail
      refine (heldIntS_own (L j).kA (D j).kn (L j).kc (q + 3 + (D j).nn) W4 hi4 (by omega) (by omega)).mono ?_
      rintro e W5 ⟨rfl, rfl⟩
      have y2 : decide (((q + 3 + (D j).nn + (D j).kn : Nat) : Int) < 0) = false := by simp; omega
      have y3 : ((q : Int) + 3 + ((D j).nn : Int) + ((D j).kn : Int) != (q : Int) + 3 + ((D j).nn : Int) + ((D j).kn : Int)) = false := by simp
      clear hi4 y1
      go_wp2_with fail
      go_roundw
      case rel => exact ⟨j + 1, by omega, by go_num, by rw [HQ3.out]; go_num, HB4.out⟩
      case measure => simp [intOf]; omega
    · obtain rfl : j = m := by omega
      have HR : Hid _ := hb
      clear hb
      go_wp2
      go_ret
      exact ⟨rfl, HR.out⟩

set_option maxHeartbeats 2000000 in
theorem markDump_ownK (k0 : Nat) (hk1 : 1 ≤ k0) (hk2 : k0 ≤ 50000000) (la ia : Option Addr) (n lc m ic B : Nat) (since date : Int) (Z : Nat → Bool) (O : Nat → Int) (D : Nat → Nd) (L : Nat → Loc) (w : World) (h : OD w B n Z m O D L (.slice la n lc) (.slice ia m ic)) (hn : n ≤ 1048576) (hm : m ≤ 1048576) (hkap : kap D (k0 + n) m ≤ 90000000) (hsz : ∀ i, i < m → (D i).nn ≤ 1048576 ∧ (D i).kn ≤ 1048576) (hB : B ≤ w.heap.size) (H : Nat) (hH : ∀ d b, d < 2 + 2 * m → (valD (.slice la n lc) (.slice ia m ic) D L d).ownBlock = some b → b < H) :
    Calls Try.prog 12 #[.agg #[.int .i64 since, .int .i64 date, .slice la n lc, .slice ia m ic], .int .i64 (k0 : Int)] w fun e w' => e = .returned (.int .i64 (kap D (k0 + n) m : Nat)) ∧ Fr B H w w' ∧ OD w' B n (markB k0) m (markO D (k0 + n) O m) (markD D (k0 + n) m) L (.slice la n lc) (.slice ia m ic) := by
  go_enter Try.func12, Try.ntmps12
  go_wp2_with fail
  refine at_world (F := New1 w _ _) (new1 w _ _) ?_
  rintro W ⟨hp, hb, hs⟩
  have hod := h.below hb
  refine (markBoolS_own la n lc k0 B Z W hod.ownL (by omega) (by omega)).mono ?_
  rintro e W2 ⟨rfl, hown, hg⟩
  have hod2 := hod.turnLive hg hown
  have hne : (Value.slice la n lc).ownBlock ≠ some w.heap.size := fun e => by have := (owns_block h.ownL e).2; omega
  have hp2 : Blk W2 w.heap.size #[.int .i64 since, .int .i64 date, .slice la n lc, .slice ia m ic] 29 := hp.of_block (hg.block _ hp.lt (fun e => hne e.symm))
  have p3 : W2.cell? ⟨w.heap.size, 3, none⟩ = some (.slice ia m ic) := hp2.cell 3
  have H2 : Hid (Fr B H w W2 ∧ OD W2 B n (markB k0) m O D L (.slice la n lc) (.slice ia m ic)) := ⟨((Fr.refl B H w).below hB hb).grow hg (by omega) (fun b e => ⟨(owns_block hod.ownL e).1, hH 0 b (by omega) e⟩), hod2⟩
  clear hp hb hs hod hown hg hod2 hp2
  go_wp2_with fail
  rw [show (k0 : Int) + (n : Int) = ((k0 + n : Nat) : Int) from by omega]
  refine (markItemS_own H ia m ic (k0 + n) B n (markB k0) O D L (.slice la n lc) W2 H2.out.2 hm (by omega) hH hkap hsz).mono ?_
  rintro e W3 ⟨rfl, hb3, hod3⟩
  have H3 : Hid (Fr B H w W3 ∧ OD W3 B n (markB k0) m (markO D (k0 + n) O m) (markD D (k0 + n) m) L (.slice la n lc) (.slice ia m ic)) := ⟨H2.out.1.trans (by have := H2.out.1.bel.size; omega) hb3, hod3⟩
  clear hb3 hod3 p3
  go_wp2
  go_ret
  exact ⟨rfl, H3.out.1, H3.out.2⟩

theorem markDump_own (la ia : Option Addr) (n lc m ic B : Nat) (since date : Int) (Z : Nat → Bool) (O : Nat → Int) (D : Nat → Nd) (L : Nat → Loc) (w : World) (h : OD w B n Z m O D L (.slice la n lc) (.slice ia m ic)) (hn : n ≤ 10) (hm : m ≤ 10) (hkap : kap D (1 + n) m ≤ 90000000) (hsz : ∀ i, i < m → (D i).nn ≤ 1048576 ∧ (D i).kn ≤ 1048576) (hB : B ≤ w.heap.size) (H : Nat) (hH : ∀ d b, d < 2 + 2 * m → (valD (.slice la n lc) (.slice ia m ic) D L d).ownBlock = some b → b < H) :
    Calls Try.prog 12 #[.agg #[.int .i64 since, .int .i64 date, .slice la n lc, .slice ia m ic], .int .i64 1] w fun e w' => e = .returned (.int .i64 (kap D (1 + n) m : Nat)) ∧ Fr B H w w' ∧ OD w' B n (markB 1) m (markO D (1 + n) O m) (markD D (1 + n) m) L (.slice la n lc) (.slice ia m ic) :=
  markDump_ownK 1 (Nat.le_refl _) (by omega) la ia n lc m ic B since date Z O D L w h (by omega) (by omega) hkap hsz hB H hH

set_option maxHeartbeats 2000000 in
theorem heldDump_own (la ia : Option Addr) (n lc m ic B : Nat) (since date : Int) (O : Nat → Int) (D : Nat → Nd) (L : Nat → Loc) (w : World) (h : OD w B n (markB 1) m (markO D (1 + n) O m) (markD D (1 + n) m) L (.slice la n lc) (.slice ia m ic)) (hn : n ≤ 10) (hm : m ≤ 10) (hkap : kap D (1 + n) m ≤ 90000000) (hsz : ∀ i, i < m → (D i).nn ≤ 1000000 ∧ (D i).kn ≤ 1000000) :
    Calls Try.prog 13 #[.agg #[.int .i64 since, .int .i64 date, .slice la n lc, .slice ia m ic], .int .i64 1] w fun e w' => e = .returned (.int .i64 (kap D (1 + n) m : Nat)) ∧ Below w.heap.size w w' := by
  go_enter Try.func13, Try.ntmps13
  go_wp2_with fail
  refine at_world (F := New1 w _ _) (new1 w _ _) ?_
  rintro W ⟨hp, hb, hs⟩
  have hod := h.below hb
  refine (heldBoolS_own la n lc 1 W (ownd_bools hod.ownL) (by omega) (by omega)).mono ?_
  rintro e W2 ⟨rfl, rfl⟩
  have p3 : W2.cell? ⟨w.heap.size, 3, none⟩ = some (.slice ia m ic) := hp.cell 3
  have y1 : decide (((1 + n : Nat) : Int) < 0) = false := by simp; omega
  have H2 : Hid (Below w.heap.size w W2 ∧ OD W2 B n (markB 1) m (markO D (1 + n) O m) (markD D (1 + n) m) L (.slice la n lc) (.slice ia m ic)) := ⟨hb, hod⟩
  clear hp hb hs hod
  go_wp2_with fail
  rw [show (1 : Int) + (n : Int) = ((1 + n : Nat) : Int) from by omega]
  refine (heldItemS_own ia m ic (1 + n) B n (markB 1) O D L (.slice la n lc) W2 H2.out.2 hm (by omega) hkap hsz).mono ?_
  rintro e W3 ⟨rfl, hb3⟩
  have y2 : decide (((kap D (1 + n) m : Nat) : Int) < 0) = false := by simp
  have H3 : Hid (Below w.heap.size w W3) := H2.out.1.trans (hb3.mono H2.out.1.size)
  clear hb3 p3 y1
  go_wp2
  go_ret
  exact ⟨rfl, H3.out⟩
end Go.Proofs.Yteoanlkmkmajjaa

/-
  What DumpOf answers, said once for the specification and the program: one thing kept, in memory of its own.
-/
namespace Go.Proofs.Yteoanlkmkmajjaa
open Go.RowKit Go.Deep
set_option linter.unusedVariables false
set_option linter.unusedSimpArgs false

theorem OD.ext {W : World} {B k n : Nat} {Z : Nat → Bool} {O O' : Nat → Int} {D D' : Nat → Nd} {L : Nat → Loc} {lv iv : Value} (h : OD W B k Z n O D L lv iv) (he : ∀ i, i < n → O' i = O i ∧ D' i = D i) : OD W B k Z n O' D' L lv iv := by
  have hr : ∀ d, d < 2 + 2 * n → rowD k Z n O' D' L d = rowD k Z n O D L d := fun d hd => by
    unfold rowD
    by_cases e0 : d = 0
    · rw [if_pos e0, if_pos e0]
    · by_cases e1 : d = 1
      · rw [if_neg e0, if_pos e1, if_neg e0, if_pos e1, rowsI_ext n (fun i hi => ⟨(he i hi).1, (he i hi).2, rfl⟩)]
      · rw [if_neg e0, if_neg e1, if_neg e0, if_neg e1, (he ((d - 2) / 2) (by omega)).2]
  have hv : ∀ d, d < 2 + 2 * n → valD lv iv D' L d = valD lv iv D L d := fun d hd => by
    unfold valD
    by_cases e0 : d = 0
    · rw [if_pos e0, if_pos e0]
    · by_cases e1 : d = 1
      · rw [if_neg e0, if_pos e1, if_neg e0, if_pos e1]
      · rw [if_neg e0, if_neg e1, if_neg e0, if_neg e1, (he ((d - 2) / 2) (by omega)).2]
  exact ⟨⟨fun d hd => by rw [hr d hd, hv d hd]; exact h.rows.own d hd, fun d1 d2 g1 g2 hne b e1 e2 => by rw [hv d1 g1] at e1; rw [hv d2 g2] at e2; exact h.rows.apart d1 d2 g1 g2 hne b e1 e2⟩⟩

/-- Something kept, in memory of its own. -/
def OwnDp (W : World) (B : Nat) (d : Dp) (l : DLoc) : Prop := OD W B d.ln d.live d.m d.ino d.nd l.L (.slice l.lA d.ln l.lc) (.slice l.iA d.m l.ic)

theorem OwnDp.dpIn {W : World} {B : Nat} {d : Dp} {l : DLoc} (h : OwnDp W B d l) : DpIn W d l := by
  refine ⟨ownd_bools h.ownL, ?_⟩
  by_cases hm : d.m = 0
  · exact Or.inl hm
  · obtain ⟨g, hg, hgl⟩ := owns_addr h.ownI (by omega)
    refine Or.inr ⟨g, 0, hg, hgl, fun i hi => ?_⟩
    have h' : OD W B d.ln d.live d.m d.ino d.nd l.L (.slice l.lA d.ln l.lc) (.slice (some ⟨g, 0, none⟩) d.m l.ic) := by rw [← hg]; exact h
    obtain ⟨c0, c1, c2, c3, c4, c5⟩ := h'.cells hi
    rw [Nat.zero_add]
    exact ⟨c0, c1, c2, c3, c4, c5, ownd_strs (h.ownN hi), ownd_ints (h.ownK hi)⟩

/-- What is kept of a tree that is ok. -/
def dpOf (n : Nat) (D : Nat → Nd) (now since : Int) : Dp := ⟨since, now, n, fun i => (D i).kind != 0, (selTo D since n).length, fun i => ((selTo D since n).getD i 0 : Nat), fun i => D ((selTo D since n).getD i 0)⟩
/-- Nothing. -/
def dpNone : Dp := ⟨0, 0, 0, fun _ => false, 0, fun _ => 0, fun _ => ⟨0, ByteArray.empty, 0, fun _ => ByteArray.empty, 0, fun _ => 0, 0⟩⟩

theorem selTo_lt {D : Nat → Nd} {since : Int} {n i : Nat} (h : i < (selTo D since n).length) : (selTo D since n).getD i 0 < n := by
  have hm : (selTo D since n).getD i 0 ∈ selTo D since n := by
    rw [List.getD_eq_getElem?_getD, List.getElem?_eq_getElem h]
    exact List.getElem_mem h
  have := List.mem_filter.1 hm
  simpa using this.1

theorem ndOk_same {n : Nat} {D : Nat → Nd} {now : Int} {d : Nd} (h : ndOk n D now d = true) : d.kn = d.nn := by
  unfold ndOk at h
  split at h
  · unfold freeOk at h; simp at h; omega
  · split at h
    · unfold fileOk at h; simp at h; omega
    · split at h
      · unfold dirOk at h; simp at h; exact h.1.1.2.2
      · cases h

theorem kap_le {D : Nat → Nd} {k0 c : Nat} : ∀ m, (∀ i, i < m → (D i).nn + (D i).kn ≤ c) → kap D k0 m ≤ k0 + m * (4 + c)
  | 0, _ => by simp [kap]
  | m + 1, h => by
    have h1 := kap_le (D := D) (k0 := k0) m (fun i hi => h i (by omega))
    have h2 := h m (by omega)
    rw [kap, Nat.succ_mul]
    omega

/-- The bounds that an answer keeps. -/
structure DpSmall (d : Dp) : Prop where
  fits : d.Fits
  ln : d.ln ≤ 10
  m : d.m ≤ 10
  kap : kap d.nd (1 + d.ln) d.m ≤ 90000000
  nds : ∀ i, i < d.m → (d.nd i).nn ≤ 1000000 ∧ (d.nd i).kn ≤ 1000000

theorem dpNone_small : DpSmall dpNone :=
  ⟨⟨by unfold In64 dpNone; simp, by unfold In64 dpNone; simp, by unfold maxLen dpNone; simp, by unfold maxLen dpNone; simp, fun i hi => absurd hi (Nat.not_lt_zero _), fun i hi => absurd hi (Nat.not_lt_zero _)⟩, by simp [dpNone], by simp [dpNone], by simp [dpNone, kap], fun i hi => absurd hi (Nat.not_lt_zero _)⟩

theorem dpOf_small {n : Nat} {D : Nat → Nd} {now since : Int} (hg : TreeGood n D now) (hf : FitAll n D) (hsz : sizeTo D n ≤ 1048576) (h0 : 0 ≤ since) (h1 : since ≤ now) : DpSmall (dpOf n D now since) := by
  have hl := selTo_len D since n
  have hfew := hg.few
  have hsoon := hg.soon
  have hnd : ∀ i, i < (selTo D since n).length → ((D ((selTo D since n).getD i 0)).nn + (D ((selTo D since n).getD i 0)).kn ≤ 1048576) ∧ (D ((selTo D since n).getD i 0)).kn = (D ((selTo D since n).getD i 0)).nn := fun i hi => by
    have h2 := selTo_lt hi
    have h3 := size_le_sizeTo D n _ h2
    unfold Nd.size at h3
    exact ⟨by omega, ndOk_same (hg.nodes _ h2)⟩
  refine ⟨⟨?_, ?_, ?_, ?_, fun i hi => ?_, fun i hi => hf _ (selTo_lt hi)⟩, hfew, by show (selTo D since n).length ≤ 10; omega, ?_, fun i hi => ?_⟩
  · show In64 since; unfold In64; omega
  · show In64 now; unfold In64; omega
  · show n ≤ maxLen; unfold maxLen; omega
  · show (selTo D since n).length ≤ maxLen; unfold maxLen; omega
  · have := selTo_lt hi
    show In64 (((selTo D since n).getD i 0 : Nat) : Int)
    unfold In64
    omega
  · have h2 := kap_le (D := fun i => D ((selTo D since n).getD i 0)) (k0 := 1 + n) (c := 1048576) (selTo D since n).length (fun i hi => (hnd i hi).1)
    have h3 : (selTo D since n).length * (4 + 1048576) ≤ 10 * (4 + 1048576) := Nat.mul_le_mul_right _ (by omega)
    show kap (fun i => D ((selTo D since n).getD i 0)) (1 + n) (selTo D since n).length ≤ 90000000
    omega
  · have := hnd i hi
    exact ⟨by show (D ((selTo D since n).getD i 0)).nn ≤ 1000000; omega, by show (D ((selTo D since n).getD i 0)).kn ≤ 1000000; omega⟩

/-- One answer, whoever is asked. -/
theorem dump_ans (n : Nat) (D : Nat → Nd) (now since : Int) (hf : FitAll n D) (hsz : sizeTo D n ≤ 1048576) : ∃ (d : Dp) (ok : Bool), DpSmall d ∧ ∀ w e w', DumpOfPost w n D now since e w' → Below w.heap.size w w' ∧ ∃ l, e = .returned (.tuple #[dpV d l, .bool ok]) ∧ OwnDp w' w.heap.size d l := by
  by_cases hgo : TreeGood n D now ∧ 0 ≤ since ∧ since ≤ now
  · refine ⟨dpOf n D now since, true, dpOf_small hgo.1 hf hsz hgo.2.1 hgo.2.2, fun w e w' h => ⟨h.1, ?_⟩⟩
    rcases h.2 with ⟨hno, _⟩ | ⟨_, _, _, la, lc, m, ia, ic, O, E, M, he, hod, hsel⟩
    · exact absurd hgo hno
    · have hm := hsel.len
      subst hm
      exact ⟨⟨la, lc, ia, ic, M⟩, he, hod.ext (fun i hi => ⟨((hsel.each i hi).1).symm, ((hsel.each i hi).2).symm⟩)⟩
  · refine ⟨dpNone, false, dpNone_small, fun w e w' h => ⟨h.1, ?_⟩⟩
    rcases h.2 with ⟨_, he⟩ | ⟨h1, h2, h3, _⟩
    · exact ⟨⟨none, 0, none, 0, fun _ => ⟨none, 0, none, 0⟩⟩, he, OD.start _ _ _ _ _ _⟩
    · exact absurd ⟨h1, h2, h3⟩ hgo
end Go.Proofs.Yteoanlkmkmajjaa

/-
  Two things kept, made one: what it is, and what is held while it is made. Plain facts.
-/
namespace Go.Proofs.Yteoanlkmkmajjaa
open Go.RowKit Go.Deep
set_option linter.unusedVariables false
set_option linter.unusedSimpArgs false

theorem OD.sameAt2 {W W' : World} {B k : Nat} {Z : Nat → Bool} {m : Nat} {O : Nat → Int} {D : Nat → Nd} {L : Nat → Loc} {lv iv : Value} (h : OD W B k Z m O D L lv iv) (hw : ∀ d b, d < 2 + 2 * m → (valD lv iv D L d).ownBlock = some b → W'.heap[b]? = W.heap[b]?) : OD W' B k Z m O D L lv iv :=
  ⟨⟨fun d hl => owns_same (h.rows.own d hl) fun b hb => hw d b hl hb, h.rows.apart⟩⟩

/-- The number of a place among those that were turned: the last one, if there are several. -/
def ixOf (O : Nat → Int) : Nat → Int → Option Nat
  | 0, _ => none
  | k + 1, z => if z = O k then some k else ixOf O k z

theorem ixOf_some {O : Nat → Int} {z : Int} : ∀ {m i : Nat}, ixOf O m z = some i → i < m ∧ O i = z
  | 0, i, h => by cases h
  | m + 1, i, h => by
    unfold ixOf at h
    split at h
    · rename_i e; cases h; exact ⟨by omega, e.symm⟩
    · have := ixOf_some h; exact ⟨by omega, this.2⟩

theorem ixOf_none {O : Nat → Int} {z : Int} : ∀ {m : Nat}, ixOf O m z = none → ∀ i, i < m → O i ≠ z
  | 0, _, i, hi => by omega
  | m + 1, h, i, hi => by
    unfold ixOf at h
    split at h
    · cases h
    · rename_i e
      by_cases hm : i = m
      · subst hm; exact fun e' => e e'.symm
      · exact ixOf_none h i (by omega)

/-- Where numbers ascend there is one. -/
theorem ixOf_one {O : Nat → Int} {z : Int} {m i : Nat} (hinj : ∀ i j, i < m → j < m → O i = O j → i = j) (hi : i < m) (h : O i = z) : ixOf O m z = some i := by
  cases e : ixOf O m z with
  | none => exact absurd h (ixOf_none e i hi)
  | some j =>
    obtain ⟨h1, h2⟩ := ixOf_some e
    rw [hinj j i h1 hi (h2.trans h.symm)]

theorem learn_ix (f : Int → Option Value) (O : Nat → Int) (E : Nat → Nd) (L : Nat → Loc) (z : Int) : ∀ m, learn f O E L m z = match ixOf O m z with | some i => some (ndV (E i) (L i)) | none => f z
  | 0 => rfl
  | m + 1 => by
    unfold learn ixOf
    split
    · rfl
    · exact learn_ix f O E L z m

/-- What is kept of a place by the two: of the second, else, if it is there, of the first. -/
def thenNd (a b : Dp) (z : Int) : Option Nd :=
  match ixOf b.ino b.m z with
  | some k => some (b.nd k)
  | none => if b.live z.toNat then (ixOf a.ino a.m z).map a.nd else none

def thenSel (a b : Dp) (k : Nat) : List Nat := (List.range k).filter fun i => (thenNd a b (i : Int)).isSome
theorem thenSel_yes {a b : Dp} {k : Nat} (h : (thenNd a b (k : Int)).isSome = true) : thenSel a b (k + 1) = thenSel a b k ++ [k] := by simp [thenSel, List.range_succ, List.filter_append, h]
theorem thenSel_no {a b : Dp} {k : Nat} (h : (thenNd a b (k : Int)).isSome = false) : thenSel a b (k + 1) = thenSel a b k := by simp [thenSel, List.range_succ, List.filter_append, h]
theorem thenSel_len (a b : Dp) (k : Nat) : (thenSel a b k).length ≤ k := by
  have := List.length_filter_le (fun i => (thenNd a b ((i : Nat) : Int)).isSome) (List.range k)
  simpa [thenSel] using this

/-- The one. -/
def thenDp (a b : Dp) : Dp := ⟨a.since, b.date, b.ln, b.live, (thenSel a b b.ln).length, fun i => ((thenSel a b b.ln).getD i 0 : Nat), fun i => ((thenNd a b ((thenSel a b b.ln).getD i 0 : Nat)).getD ⟨0, ByteArray.empty, 0, fun _ => ByteArray.empty, 0, fun _ => 0, 0⟩)⟩

/-- They can be made one. -/
def thenOk (a b : Dp) : Bool := a.ok && b.ok && (a.date == b.since) && (thenDp a b).ok

/-- What it answers. -/
def ThenPost (w : World) (a b : Dp) (e : Ending) (w' : World) : Prop :=
  Below w.heap.size w w' ∧ ((thenOk a b = false ∧ e = .returned (.tuple #[.agg #[.int .i64 0, .int .i64 0, .slice none 0 0, .slice none 0 0], .bool false])) ∨
    (thenOk a b = true ∧ ∃ l, e = .returned (.tuple #[dpV (thenDp a b) l, .bool true]) ∧ OwnDp w' w.heap.size (thenDp a b) l))

/-- Of something that is ok: numbers ascend, and each is there. -/
theorem ok_asc {d : Dp} (h : d.ok = true) : ∀ j i, i < j → j < d.m → d.ino i < d.ino j
  | 0, i, hi, _ => by omega
  | j + 1, i, hi, hj => by
    unfold Dp.ok at h
    rw [Bool.and_eq_true] at h
    have hs := List.all_eq_true.1 h.2 (j + 1) (by simpa using hj)
    unfold stepIn at hs
    simp at hs
    by_cases e : i = j
    · subst e; exact hs.2
    · have := ok_asc (d := d) (by unfold Dp.ok; rw [Bool.and_eq_true]; exact h) j i (by omega) (by omega)
      omega

theorem ok_inj {d : Dp} (h : d.ok = true) : ∀ i j, i < d.m → j < d.m → d.ino i = d.ino j → i = j := fun i j hi hj e => by
  rcases Nat.lt_trichotomy i j with g | g | g
  · have := ok_asc h j i g hj; omega
  · exact g
  · have := ok_asc h i j g hi; omega

theorem ok_live {d : Dp} (h : d.ok = true) {i : Nat} (hi : i < d.m) : 0 ≤ d.ino i ∧ d.ino i < d.ln ∧ d.live (d.ino i).toNat = true := by
  unfold Dp.ok at h
  rw [Bool.and_eq_true] at h
  have hs := List.all_eq_true.1 h.2 i (by simpa using hi)
  unfold stepIn itIn liveIn at hs
  simp only [Bool.and_eq_true, decide_eq_true_eq] at hs
  exact ⟨hs.1.1.1.1.1, hs.1.1.1.1.2, hs.1.1.1.2⟩

/-- What is held while it is made: X are blocks that are kept as they were in W0. -/
structure GOf (w W0 : World) (B : Nat) (X : Nat → Prop) (since date : Int) (n : Nat) (Z : Nat → Bool) (V : Nat) (la : Option Addr) (lc m : Nat) (ia : Option Addr) (ic : Nat) (O : Nat → Int) (E : Nat → Nd) (M : Nat → Loc) (W : World) : Prop where
  v : Blk W V #[.int .i64 since, .int .i64 date, .slice la n lc, .slice ia m ic] 29
  bel : Below w.heap.size w W
  kept : ∀ b, X b → W.heap[b]? = W0.heap[b]?
  lt : ∀ b, X b → b < W.heap.size
  nv : ¬ X V
  far : w.heap.size ≤ V
  base : w.heap.size ≤ B
  od : OD W B n Z m O E M (.slice la n lc) (.slice ia m ic)
  off : ∀ d b, d < 2 + 2 * m → (valD (.slice la n lc) (.slice ia m ic) E M d).ownBlock = some b → ¬ X b ∧ b ≠ V

section
variable {w W0 : World} {B : Nat} {X : Nat → Prop} {since date : Int} {n : Nat} {Z : Nat → Bool} {V : Nat} {la : Option Addr} {lc m : Nat} {ia : Option Addr} {ic : Nat} {O : Nat → Int} {E : Nat → Nd} {M : Nat → Loc} {W W1 W' : World}

theorem GOf.below (h : GOf w W0 B X since date n Z V la lc m ia ic O E M W) (hb : Below W.heap.size W W') : GOf w W0 B X since date n Z V la lc m ia ic O E M W' :=
  ⟨h.v.below hb h.v.lt, h.bel.trans (hb.mono h.bel.size), fun b hX => (hb.block b (h.lt b hX)).trans (h.kept b hX), fun b hX => Nat.lt_of_lt_of_le (h.lt b hX) hb.size, h.nv, h.far, h.base, h.od.below hb, h.off⟩

/-- One place more, stored. -/
theorem GOf.item (h : GOf w W0 B X since date n Z V la lc m ia ic O E M W) {x : Nd} {o : Int} {l : Loc} (hN : NewNn W x l W1) (hB : B ≤ W.heap.size) {b c' : Nat} (hg : W1.grownBy W' (Value.slice ia m ic).ownBlock)
    (hown : W'.ownsRow B 56 6 (.slice (some ⟨b, 0, none⟩) (m + 1) c') (m + 1) (rowsI O E M m ++ it6 o x l)) (hb : (Value.slice ia m ic).ownBlock = some b ∨ W1.heap.size ≤ b) :
    GOf w W0 B X since date n Z V la lc (m + 1) (some ⟨b, 0, none⟩) c' (fun i => if i = m then o else O i) (fun i => if i = m then x else E i) (fun i => if i = m then l else M i) (W'.setCell ⟨V, 3, none⟩ (.slice (some ⟨b, 0, none⟩) (m + 1) c')) := by
  have h1 := h.below hN.bel
  have hfar := h.far
  have hbase := h.base
  have hsz := hN.bel.size
  have hof : ∀ j, (Value.slice ia m ic).ownBlock = some j → B ≤ j ∧ j < W.heap.size ∧ ¬ X j ∧ j ≠ V := fun j e => ⟨(owns_block h.od.ownI e).1, (owns_block h.od.ownI e).2, h.off 1 j (by omega) (by simpa [valD] using e)⟩
  have hVl := h.v.lt
  have hbel : Below w.heap.size w W' := h1.bel.grown hg h1.bel.size (fun j e => by have := (hof j e).1; omega)
  have hbV : b ≠ V := fun e => by
    rcases hb with h2 | h2
    · exact (hof b h2).2.2.2 e
    · omega
  have hbX : ¬ X b := fun e => by
    rcases hb with h2 | h2
    · exact (hof b h2).2.2.1 e
    · have := h.lt b e; omega
  have hoff : ∀ d b', d < 2 + 2 * (m + 1) → (valD (.slice la n lc) (.slice (some ⟨b, 0, none⟩) (m + 1) c') (fun i => if i = m then x else E i) (fun i => if i = m then l else M i) d).ownBlock = some b' → ¬ X b' ∧ b' ≠ V := fun d b' hd hv => by
    by_cases e1 : d = 1
    · subst e1
      have e : b = b' := by simpa [valD, Value.ownBlock] using hv
      exact e ▸ ⟨hbX, hbV⟩
    · by_cases e0 : d = 0
      · subst e0
        exact h.off 0 b' (by omega) (by simpa [valD] using hv)
      · unfold valD at hv
        rw [if_neg e0, if_neg e1] at hv
        by_cases hm : (d - 2) / 2 = m
        · simp only [hm, if_true] at hv
          have hfr : W.heap.size ≤ b' := by
            split at hv
            · exact (owns_block hN.names hv).1
            · exact (owns_block hN.kids hv).1
          exact ⟨fun e => by have := h.lt b' e; omega, by omega⟩
        · simp only [hm, if_false] at hv
          exact h.off d b' (by omega) (by unfold valD; rw [if_neg e0, if_neg e1]; exact hv)
  have hod := h.od.item (W' := W') hN hB hg hown (fun b' e => by simp [Value.ownBlock] at e; rw [← e]; exact hb)
  refine ⟨(blk_grown h1.v hg (fun e => (hof V e).2.2.2 rfl)).set 3 _, bel_put hbel _ hfar, fun b' hX => ?_, fun b' hX => ?_, h.nv, hfar, hbase, ?_, hoff⟩
  · have hXV : b' ≠ V := fun e => h.nv (e ▸ hX)
    exact (blk_setCell_other _ _ _ _ (show b' ≠ V from hXV)).trans ((hg.block b' (h1.lt b' hX) (fun e => (hof b' e.symm).2.2.1 hX)).trans (h1.kept b' hX))
  · have := h1.lt b' hX
    have h3 := hg.size
    simp
    omega
  · exact hod.sameAt2 fun d b' hd hv => blk_setCell_other _ _ _ _ (by show b' ≠ V; exact (hoff d b' hd hv).2)
end
end Go.Proofs.Yteoanlkmkmajjaa

/-
  What turnedSince yields to whoever ranges over it: the places that were turned, in order; all of them, or the first ones, where a round has said that it wants no more.
-/
namespace Go.Proofs.Yteoanlkmkmajjaa
open Go.RowKit Go.Shelf
set_option linter.unusedVariables false
set_option linter.unusedSimpArgs false
attribute [local go_sem] Oper.semAt_some

/-- Those of the first k that were turned since. -/
def selT (D : Nat → Nd) (since : Int) (k : Nat) : List Nat := (List.range k).filter fun i => decide (since < (D i).turn)
theorem selT_yes {D : Nat → Nd} {since : Int} {k : Nat} (h : since < (D k).turn) : selT D since (k + 1) = selT D since k ++ [k] := by simp [selT, List.range_succ, List.filter_append, h]
theorem selT_no {D : Nat → Nd} {since : Int} {k : Nat} (h : ¬ since < (D k).turn) : selT D since (k + 1) = selT D since k := by simp [selT, List.range_succ, List.filter_append, h]
theorem selT_pre (D : Nat → Nd) (since : Int) {k n : Nat} (h : k ≤ n) : selT D since k <+: selT D since n := by
  induction h with
  | refl => exact List.prefix_refl _
  | step h ih =>
    rename_i m
    by_cases hm : since < (D m).turn
    · rw [selT_yes hm]; exact ih.trans (List.prefix_append _ _)
    · rw [selT_no hm]; exact ih

/-- What a round keeps: the blocks that the function reads. -/
def KeepsTwo (S b : Nat) (W W' : World) : Prop := W'.heap[S]? = W.heap[S]? ∧ W'.heap[b]? = W.heap[b]?

set_option maxRecDepth 100000 in
set_option maxHeartbeats 4000000 in
theorem turned1_in (q : Nat) (hq : 1 ≤ q) (l T S b off n c : Nat) (now since : Int) (D : Nat → Nd) (L : Nat → Loc) (hn : n ≤ 10) (J Jx : List Nat → World → Prop)
    (hY : ∀ pre x W, x < n → since < (D x).turn → J pre W → pre.length < (selT D since n).length → YieldAt Fence.wide (q - 1) Try.prog l #[.int .i64 (x : Nat), ndV (D x) (L x)] W fun e W' =>
      (e = .returned (.bool true) ∧ J (pre ++ [x]) W' ∧ KeepsTwo S b W W') ∨ (e = .returned (.bool false) ∧ Jx (pre ++ [x]) W'))
    (hJa : ∀ pre W o, J pre W → J pre (W.alloc o))
    (W : World) (hT : W.cell? ⟨T, 0, none⟩ = some (.slice (some ⟨b, off, none⟩) n c)) (hSs : W.cell? ⟨S, 0, none⟩ = some (.int .i64 since)) (hSl : S < W.heap.size) (hbl : b < W.heap.size)
    (hc : ∀ i, i < n → W.cell? ⟨b, off + i * 5, none⟩ = some (.int .i64 (D i).kind) ∧ W.cell? ⟨b, off + i * 5 + 1, none⟩ = some (.string (D i).text) ∧
      W.cell? ⟨b, off + i * 5 + 2, none⟩ = some (.slice (L i).nA (D i).nn (L i).nc) ∧ W.cell? ⟨b, off + i * 5 + 3, none⟩ = some (.slice (L i).kA (D i).kn (L i).kc) ∧ W.cell? ⟨b, off + i * 5 + 4, none⟩ = some (.int .i64 (D i).turn)) (h0 : J [] W) :
    CallsIn Fence.wide q Try.prog 54 #[.func (.yield l) #[] #[], .pointer (some ⟨T, 0, none⟩), .pointer (some ⟨S, 0, none⟩)] W fun e W' => (∃ v, e = .returned v) ∧
      (J (selT D since n) W' ∨ (∃ pre : List Nat, pre <+: selT D since n ∧ Jx pre W')) := by
  have HC : Hid _ := hc
  clear hc
  refine callsIn_of_wp Try.func54 rfl trivial ?_ rfl
  simp only [Try.ntmps54, List.size_toArray, List.length_cons, List.length_nil, Nat.reduceAdd, Nat.reduceSub, Array.replicate_succ, Array.replicate_zero, List.push_toArray, List.append_toArray, List.nil_append, List.cons_append]
  gi_wp2
  gi_loopw [9] (fun i wr => ∃ k : Nat, k ≤ n ∧ i = .int .i64 k ∧ J (selT D since k) wr ∧ wr.heap[S]? = W.heap[S]? ∧ wr.heap[b]? = W.heap[b]? ∧ S < wr.heap.size ∧ b < wr.heap.size) (fun i _ => n - (intOf i).toNat)
  case atStart => exact ⟨0, Nat.zero_le _, rfl, h0, rfl, rfl, hSl, hbl⟩
  case round =>
    obtain ⟨k, hk, rfl, hJ, hS, hb, hSl', hbl'⟩ := hrel
    have HJ : Hid (J (selT D since k) wr ∧ wr.heap[S]? = W.heap[S]? ∧ wr.heap[b]? = W.heap[b]?) := ⟨hJ, hS, hb⟩
    clear hJ hS hb
    by_cases hlt : k < n
    · have hlti : (k : Int) < (n : Int) := by omega
      have hcb : ∀ o, wr.cell? ⟨b, o, none⟩ = W.cell? ⟨b, o, none⟩ := fun o => World.cell?_of_block (a := ⟨b, o, none⟩) HJ.out.2.2
      obtain ⟨e0, e1, e2, e3, e4⟩ := HC.out k hlt
      have c0 := (hcb _).trans e0
      have c1 := (hcb _).trans e1
      have c2 := (hcb _).trans e2
      have c3 := (hcb _).trans e3
      have c4 := (hcb _).trans e4
      have cs : wr.cell? ⟨S, 0, none⟩ = some (.int .i64 since) := (World.cell?_of_block (a := ⟨S, 0, none⟩) HJ.out.2.1).trans hSs
      have hSne : S ≠ wr.heap.size := by omega
      have hbne : b ≠ wr.heap.size := by omega
      clear hcb e0 e1 e2 e3 e4
      by_cases ht : since < (D k).turn
      · have hbt : decide (since < (D k).turn) = true := by simp; omega
        have HTK : Hid (since < (D k).turn) := ht
        have HS2 : Hid (selT D since (k + 1) = selT D since k ++ [k]) := selT_yes ht
        have HP : Hid (selT D since (k + 1) <+: selT D since n) := selT_pre D since (by omega)
        have hpl : (selT D since k).length < (selT D since n).length := by
          have := HP.out.length_le
          rw [HS2.out] at this
          simp at this
          omega
        clear ht
        have hJ1 := hJa _ _ (.cells #[.int .i64 (D k).kind, .string (D k).text, .slice (L k).nA (D k).nn (L k).nc, .slice (L k).kA (D k).kn (L k).kc, .int .i64 (D k).turn] 53) HJ.out.1
        obtain ⟨fn, tmps, assign, body, hy, hR⟩ := hY (selT D since k) k _ hlt HTK.out hJ1 hpl
        have HSl : Hid (∀ W3, KeepsTwo S b (wr.alloc (.cells #[.int .i64 (D k).kind, .string (D k).text, .slice (L k).nA (D k).nn (L k).nc, .slice (L k).kA (D k).kn (L k).kc, .int .i64 (D k).turn] 53)) W3 → W3.heap[S]? = W.heap[S]? ∧ W3.heap[b]? = W.heap[b]? ∧ S < W3.heap.size ∧ b < W3.heap.size) := fun W3 h3 => by
          have a1 : W3.heap[S]? = W.heap[S]? := h3.1.trans ((Go.Deep.blk_alloc_lt _ _ _ hSl').trans HJ.out.2.1)
          have a2 : W3.heap[b]? = W.heap[b]? := h3.2.trans ((Go.Deep.blk_alloc_lt _ _ _ hbl').trans HJ.out.2.2)
          exact ⟨a1, a2, (Array.getElem?_eq_some_iff.1 (a1.trans (Array.getElem?_eq_getElem hSl))).1, (Array.getElem?_eq_some_iff.1 (a2.trans (Array.getElem?_eq_getElem hbl))).1⟩
        clear hJ1 HJ
        dsimp only [ndV] at hy
        gi_wp2
        refine hR.mono ?_
        rintro e' W3 (⟨rfl, hJ3, hk3⟩ | ⟨rfl, hJx3⟩)
        · have HJ3 : Hid (J (selT D since k ++ [k]) W3 ∧ W3.heap[S]? = W.heap[S]? ∧ W3.heap[b]? = W.heap[b]? ∧ S < W3.heap.size ∧ b < W3.heap.size) := ⟨hJ3, HSl.out W3 hk3⟩
          clear hJ3 hk3 hy hR HSl
          gi_wp2
          go_roundw
          case rel => exact ⟨k + 1, by omega, by go_num, by rw [HS2.out]; exact HJ3.out.1, HJ3.out.2⟩
          case measure => simp [intOf]; omega
        · have HX : Hid (Jx (selT D since k ++ [k]) W3) := hJx3
          clear hJx3 hy hR HSl
          gi_wp2
          refine bodyPost_ret (results_none rfl _ _ _) rfl ?_
          refine ⟨⟨_, rfl⟩, .inr ⟨selT D since k ++ [k], ?_, HX.out⟩⟩
          have := HP.out
          rwa [HS2.out] at this
      · have hbt : decide (since < (D k).turn) = false := by simp; omega
        have HS2 : Hid (selT D since (k + 1) = selT D since k) := selT_no ht
        clear ht
        gi_wp2
        refine ⟨fun f hf => (by cases hf), ?_⟩
        rename_i hKK xr hr wr' heqr
        refine hKK _ _ ?_
        clear heqr hKK
        gi_wp2
        go_roundw
        case rel => exact ⟨k + 1, by omega, by go_num, by rw [HS2.out]; exact hJa _ _ _ HJ.out.1, (Go.Deep.blk_alloc_lt _ _ _ hSl').trans HJ.out.2.1, (Go.Deep.blk_alloc_lt _ _ _ hbl').trans HJ.out.2.2, by simp; omega, by simp; omega⟩
        case measure => simp [intOf]; omega
    · obtain rfl : k = n := by omega
      gi_wp2
      refine bodyPost_end (results_none rfl _ _ _) rfl ?_
      exact ⟨⟨_, rfl⟩, .inl HJ.out.1⟩

set_option maxHeartbeats 1000000 in
/-- turnedSince: the tree and the turn are boxed; the function value holds the boxes. -/
theorem turned_in (q : Nat) (a : Option Addr) (n c : Nat) (now since : Int) (w : World) :
    CallsIn Fence.wide q Try.prog 25 #[trV a n c now, .int .i64 since] w fun e w' => e = .returned (.func (.func 54) #[] #[.pointer (some ⟨w.heap.size, 0, none⟩), .pointer (some ⟨w.heap.size + 1, 0, none⟩)]) ∧ w' = (w.alloc (.cells #[.slice a n c, .int .i64 now] 34)).alloc (.cells #[.int .i64 since] 3) := by
  unfold trV
  refine callsIn_of_wp Try.func25 rfl trivial ?_ rfl
  simp only [Try.ntmps25, List.size_toArray, List.length_cons, List.length_nil, Nat.reduceAdd, Nat.reduceSub, Array.replicate_succ, Array.replicate_zero, List.push_toArray, List.append_toArray, List.nil_append, List.cons_append]
  gi_wp2
  go_ret
  exact ⟨rfl, rfl⟩
end Go.Proofs.Yteoanlkmkmajjaa

/-
  A statement whose order is drawn, within a round of a range over a function: it is walked as anywhere else. Plain laws.
-/
namespace Go.Proofs.Yteoanlkmkmajjaa
open Go.RowKit
set_option linter.unusedVariables false

section
variable {P : Program} {md : Region.Mode} {Q : Exit → Act → World → Prop} {ops : Array Oper} {l n : Nat}

def noDefer (o : Oper) : Bool := match o.op with | .defer _ => false | _ => true

theorem oper_round {o : Oper} {a : Act} {w : World} {K : Act → World → Prop} (hd : noDefer o = true) (h : o.wp P a w K Q) : o.wpIn (Fence.wide.inRound l) n P a w K Q := by
  have hd' : ∀ c, o.op ≠ .defer c := fun c e => by simp [noDefer, e] at hd
  unfold Oper.wpIn
  refine ⟨fun _ _ => trivial, ?_⟩
  rw [Oper.semAt_eq _ _ _ hd']
  unfold Oper.wp at h
  generalize (execOp a.eval o).run P w = r at *
  cases r with
  | ok x w' =>
    cases x with
    | value v => exact h
    | skip => exact h
    | defer d => exact h
    | enter f args => exact ⟨fun e => by simp [Fence.wide] at e, CallsIn.inRound l (callsIn_wide.2 h)⟩
    | row row args => exact ⟨fun e => by simp [Fence.wide] at e, fun c cs _ => let ⟨v, w', r, s⟩ := h c cs; ⟨v, w', r, stepsIn_wide.2 s⟩⟩
    | _ => exact absurd h (by simp [Oper.upon])
  | halt x w' =>
    cases x <;> first | exact h | exact absurd h (by simp [Oper.upon])

theorem wpAnyIn_of_any (hd : ∀ o ∈ ops.toList, noDefer o = true) (hQ : ¬ LetsOut Q) : ∀ (fuel : Nat) (listed : Array Bool) (a : Act) (w : World), wpAny P md ops Q fuel listed a w → wpAnyIn (Fence.wide.inRound l) n P md ops Q fuel listed a w
  | 0, _, _, _, h => h
  | fuel + 1, listed, a, w, h => ⟨h.1, fun i hi => by
    have h1 := h.2 i hi
    unfold wpOp at h1
    unfold wpOpIn
    cases ho : ops[i]? with
    | none => simp only [ho] at h1 ⊢; exact wpAnyIn_of_any hd hQ fuel _ a w h1
    | some o =>
      have hdo : noDefer o = true := hd o (by have := Array.mem_of_getElem? ho; simpa using this)
      simp only [ho] at h1 ⊢
      by_cases hw : Region.wanted o (yielded ops a.tmps) = true
      · rw [if_pos hw] at h1 ⊢
        rcases h1 with h1 | ⟨_, h1⟩
        · exact Oper.wpIn_mono (fun a w h => wpAnyIn_of_any hd hQ fuel _ a w h) (oper_round hdo h1)
        · exact absurd h1 hQ
      · rw [if_neg hw] at h1 ⊢
        exact ⟨fun _ _ => trivial, wpAnyIn_of_any hd hQ fuel _ _ w h1⟩⟩

theorem wpIn_region_peel {id : Nat} {a : Act} {w : World} (S : World → Prop) (o : Oper) (hm : P.follows .mixedOrders = true) (hd : (ops.toList.all noDefer) = true) (hQ : ¬ LetsOut Q) (hb : ops.back? = some o) (hok : peelOk .any ops.pop o = true)
    (hS : S w.drew) (h : S w.drew → wpAnyH P .any ops.pop (Peel P o Q) S ops.pop.size (Array.replicate ops.pop.size false) a w.drew) : (Code.region id ops true).wpIn (Fence.wide.inRound l) n P Q a w := by
  refine wpIn_region_any hm (wpAnyIn_of_any (List.all_eq_true.1 hd) hQ _ _ _ _ ?_)
  have hp := push_pop hb
  have := wpAny_peel (Q := Q) (P := P) (peelOk_spec hok) ops.pop.size (Array.replicate ops.pop.size false) a w.drew ⟨by simp, fun j oj hj hl e he hbn => by
    rw [Array.getD_eq_getD_getElem?, Array.getElem?_replicate] at hl
    split at hl <;> cases hl⟩ (wpAny_of_held _ _ _ _ (h hS))
  have e1 : (Array.replicate ops.pop.size false).push false = Array.replicate ops.size false := by
    rw [← hp]; simp [Array.replicate_succ]
  have e2 : ops.pop.size + 1 = ops.size := by rw [← hp]; simp
  rw [hp, e1, e2] at this
  exact this
end
end Go.Proofs.Yteoanlkmkmajjaa

/-
  What DumpOf of the program holds between two rounds. Plain facts.
-/
namespace Go.Proofs.Yteoanlkmkmajjaa
open Go.RowKit Go.Deep Go.Shelf
set_option linter.unusedVariables false
set_option linter.unusedSimpArgs false

theorem OD.sameAt {W W' : World} {B k : Nat} {Z : Nat → Bool} {m : Nat} {O : Nat → Int} {D : Nat → Nd} {L : Nat → Loc} {lv iv : Value} (h : OD W B k Z m O D L lv iv) (hw : ∀ d b, d < 2 + 2 * m → (valD lv iv D L d).ownBlock = some b → W'.heap[b]? = W.heap[b]?) : OD W' B k Z m O D L lv iv :=
  ⟨⟨fun d hl => owns_same (h.rows.own d hl) fun b hb => hw d b hl hb, h.rows.apart⟩⟩

theorem owns_cells {W : World} {B : Nat} {e : TypeId} {size k : Nat} {v : Value} {xs : List Value} (h : W.ownsRow B e size v k xs) : ∀ (j : Nat) (o : Obj), v.ownBlock = some j → W.heap[j]? = some o → o.isCells = true := by
  intro j o ej hj
  rcases h.2 with ⟨rfl, _⟩ | ⟨g, cap, cur, rfl, _, hgb, _⟩
  · simp [Value.ownBlock] at ej
  · obtain rfl : g = j := by simpa [Value.ownBlock] using ej
    rw [hgb] at hj; cases hj; rfl

/-- What is known between two rounds: X are blocks of the caller's that are no rows. -/
structure IOf (w : World) (X : Nat → Prop) (a : Option Addr) (n c : Nat) (now since : Int) (Z : Nat → Bool) (V : Nat) (la : Option Addr) (lc m : Nat) (ia : Option Addr) (ic : Nat) (O : Nat → Int) (E : Nat → Nd) (M : Nat → Loc) (W : World) : Prop where
  p : Blk W w.heap.size #[.slice a n c, .int .i64 now] 34
  r : Blk W (w.heap.size + 1) #[.int .i64 0, .int .i64 0, .slice none 0 0, .slice none 0 0] 29
  v : Blk W V #[.int .i64 since, .int .i64 now, .slice la n lc, .slice ia m ic] 29
  bel : Below w.heap.size w W
  far : w.heap.size + 2 ≤ V
  od : OD W (w.heap.size + 2) n Z m O E M (.slice la n lc) (.slice ia m ic)
  off : ∀ d b, d < 2 + 2 * m → (valD (.slice la n lc) (.slice ia m ic) E M d).ownBlock = some b → ¬ X b ∧ b ≠ V
  lt : ∀ b, X b → b < W.heap.size

section
variable {w : World} {X : Nat → Prop} {a : Option Addr} {n c : Nat} {now since : Int} {Z : Nat → Bool} {V : Nat} {la : Option Addr} {lc m : Nat} {ia : Option Addr} {ic : Nat} {O : Nat → Int} {E : Nat → Nd} {M : Nat → Loc} {W W1 W' : World}

theorem IOf.below (h : IOf w X a n c now since Z V la lc m ia ic O E M W) (hb : Below W.heap.size W W') : IOf w X a n c now since Z V la lc m ia ic O E M W' :=
  ⟨h.p.below hb h.p.lt, h.r.below hb h.r.lt, h.v.below hb h.v.lt, h.bel.trans (hb.mono (by have := h.p.lt; omega)), h.far, h.od.below hb, h.off, fun b hX => Nat.lt_of_lt_of_le (h.lt b hX) hb.size⟩

theorem IOf.more {Y : Nat → Prop} (h : IOf w X a n c now since Z V la lc m ia ic O E M W) (hY : ∀ b, Y b → (X b ∨ W.heap.size ≤ b) ∧ b < W'.heap.size) (hb : Below W.heap.size W W') : IOf w Y a n c now since Z V la lc m ia ic O E M W' :=
  ⟨h.p.below hb h.p.lt, h.r.below hb h.r.lt, h.v.below hb h.v.lt, h.bel.trans (hb.mono (by have := h.p.lt; omega)), h.far, h.od.below hb, fun d b hd hv => ⟨fun hy => by
    rcases (hY b hy).1 with e | e
    · exact (h.off d b hd hv).1 e
    · have := (owns_block (h.od.rows.own d hd) hv).2; omega, (h.off d b hd hv).2⟩, fun b hy => (hY b hy).2⟩

/-- Blocks that are no cells may turn. -/
theorem IOf.turned {row : Option Nat} {B : Nat} (h : IOf w X a n c now since Z V la lc m ia ic O E M W) (hg : W.grownBy W' row) (hB : w.heap.size ≤ B) (hr : ∀ r, row = some r → B ≤ r ∧ ∃ o : Obj, W.heap[r]? = some o ∧ o.isCells = false) : IOf w X a n c now since Z V la lc m ia ic O E M W' := by
  have kb : ∀ {b : Nat} {cs : Array Value} {t : TypeId}, Blk W b cs t → Blk W' b cs t := fun {b cs t} hb => blk_grown hb hg (fun e => by
    obtain ⟨_, o, ho, hc⟩ := hr b e
    rw [hb] at ho
    cases ho
    cases hc)
  refine ⟨kb h.p, kb h.r, kb h.v, h.bel.grown hg h.bel.size (fun k e => by have := (hr k e).1; omega), h.far, h.od.sameAt (fun d b hd hv => hg.block b (owns_block (h.od.rows.own d hd) hv).2 (fun e => ?_)), h.off, fun b hX => Nat.lt_of_lt_of_le (h.lt b hX) hg.size⟩
  obtain ⟨_, o, ho, hc⟩ := hr b e.symm
  have := owns_cells (h.od.rows.own d hd) b o hv ho
  rw [this] at hc
  cases hc

/-- One place that was turned more, stored. -/
theorem IOf.item (h : IOf w X a n c now since Z V la lc m ia ic O E M W) {x : Nd} {o : Int} {l : Loc} (hN : NewNn W x l W1) {b c' : Nat} (hg : W1.grownBy W' (Value.slice ia m ic).ownBlock)
    (hown : W'.ownsRow (w.heap.size + 2) 56 6 (.slice (some ⟨b, 0, none⟩) (m + 1) c') (m + 1) (rowsI O E M m ++ it6 o x l)) (hb : (Value.slice ia m ic).ownBlock = some b ∨ W1.heap.size ≤ b) :
    IOf w X a n c now since Z V la lc (m + 1) (some ⟨b, 0, none⟩) c' (fun i => if i = m then o else O i) (fun i => if i = m then x else E i) (fun i => if i = m then l else M i) (W'.setCell ⟨V, 3, none⟩ (.slice (some ⟨b, 0, none⟩) (m + 1) c')) := by
  have h1 := h.below hN.bel
  have hfar := h.far
  have hsz := hN.bel.size
  have hof : ∀ j, (Value.slice ia m ic).ownBlock = some j → w.heap.size + 2 ≤ j ∧ j < W.heap.size ∧ ¬ X j ∧ j ≠ V := fun j e => ⟨(owns_block h.od.ownI e).1, (owns_block h.od.ownI e).2, h.off 1 j (by omega) (by simpa [valD] using e)⟩
  have hne : ∀ j, j ≤ w.heap.size + 1 ∨ j = V → (Value.slice ia m ic).ownBlock ≠ some j := fun j hj e => by
    obtain ⟨h2, _, _, h3⟩ := hof j e
    rcases hj with h4 | h4
    · omega
    · exact h3 h4
  have hVl := h.v.lt
  have hbel : Below w.heap.size w W' := h1.bel.grown hg (by have := h1.bel.size; omega) (fun j e => by have := (hof j e).1; omega)
  have hbV : b ≠ V := fun e => by
    rcases hb with h2 | h2
    · exact (hof b h2).2.2.2 e
    · omega
  have hbX : ¬ X b := fun e => by
    rcases hb with h2 | h2
    · exact (hof b h2).2.2.1 e
    · have := h.lt b e; omega
  have hoff : ∀ d b', d < 2 + 2 * (m + 1) → (valD (.slice la n lc) (.slice (some ⟨b, 0, none⟩) (m + 1) c') (fun i => if i = m then x else E i) (fun i => if i = m then l else M i) d).ownBlock = some b' → ¬ X b' ∧ b' ≠ V := fun d b' hd hv => by
    by_cases e1 : d = 1
    · subst e1
      have e : b = b' := by simpa [valD, Value.ownBlock] using hv
      exact e ▸ ⟨hbX, hbV⟩
    · by_cases e0 : d = 0
      · subst e0
        exact h.off 0 b' (by omega) (by simpa [valD] using hv)
      · unfold valD at hv
        rw [if_neg e0, if_neg e1] at hv
        by_cases hm : (d - 2) / 2 = m
        · simp only [hm, if_true] at hv
          have hfr : W.heap.size ≤ b' := by
            split at hv
            · exact (owns_block hN.names hv).1
            · exact (owns_block hN.kids hv).1
          exact ⟨fun e => by have := h.lt b' e; omega, by omega⟩
        · simp only [hm, if_false] at hv
          exact h.off d b' (by omega) (by unfold valD; rw [if_neg e0, if_neg e1]; exact hv)
  have hod := h.od.item (W' := W') hN (by have := h.p.lt; omega) hg hown (fun b' e => by simp [Value.ownBlock] at e; rw [← e]; exact hb)
  refine ⟨(blk_grown h1.p hg (hne _ (by omega))).off _ (by omega), (blk_grown h1.r hg (hne _ (by omega))).off _ (by omega), (blk_grown h1.v hg (hne _ (Or.inr rfl))).set 3 _, bel_put hbel _ (by omega), hfar, ?_, hoff, fun b' hX => ?_⟩
  · exact hod.sameAt fun d b' hd hv => blk_setCell_other _ _ _ _ (by show b' ≠ V; exact (hoff d b' hd hv).2)
  · have := h.lt b' hX
    have h3 := hg.size
    simp
    omega

/-- What the step leaves of other blocks. -/
theorem IOf.keep (h : IOf w X a n c now since Z V la lc m ia ic O E M W) {x : Nd} {l : Loc} (hN : NewNn W x l W1) {v : Value} (hg : W1.grownBy W' (Value.slice ia m ic).ownBlock) {s : Nat} (hs : X s ∨ s < w.heap.size) (hsV : s ≠ V) (hsl : s < W.heap.size) : (W'.setCell ⟨V, 3, none⟩ v).heap[s]? = W.heap[s]? := by
  have h2 := hN.bel.size
  refine (blk_setCell_other _ _ _ _ (show s ≠ V from hsV)).trans ((hg.block s (by omega) (fun e => ?_)).trans (hN.bel.block s hsl))
  have h3 := h.off 1 s (by omega) (by simpa [valD] using e.symm)
  have h4 := (owns_block h.od.ownI e.symm).1
  rcases hs with h5 | h5
  · exact h3.1 h5
  · omega

theorem keeps_bel {W W' : World} (hb : Below W.heap.size W W') : KeepsOthers W W' := ⟨hb.size, fun k o hk _ => (hb.block k (Array.getElem?_eq_some_iff.1 hk).1).trans hk⟩

theorem IOf.others (h : IOf w X a n c now since Z V la lc m ia ic O E M W) {x : Nd} {l : Loc} (hN : NewNn W x l W1) {v : Value} (hg : W1.grownBy W' (Value.slice ia m ic).ownBlock) : KeepsOthers W (W'.setCell ⟨V, 3, none⟩ v) :=
  ((keeps_bel hN.bel).trans (KeepsOthers.of_grownBy hg fun j o ej hj => owns_cells (owns_same h.od.ownI (w' := W1) (fun b hb => hN.bel.block b (owns_block h.od.ownI hb).2)) j o ej hj)).trans (KeepsOthers.setCell _ _ _)
end

theorem rowd_below {W W' : World} {b n : Nat} {t : TypeId} {f : Nat → Value} (h : W.rowIs b t n f) (hb : Below W.heap.size W W') : W'.rowIs b t n f := by
  obtain ⟨c, h1, h2⟩ := h
  exact ⟨c, (hb.block b (Array.getElem?_eq_some_iff.1 h1).1).trans h1, h2⟩

theorem row_owns {W : World} {B b n : Nat} {Z : Nat → Bool} (h : W.rowIs b 4 n (fun i => .bool (Z i))) (hB : B ≤ b) (hn : n ≤ maxLen) : W.ownsRow B 4 1 (.slice (some ⟨b, 0, none⟩) n n) n (boolv n Z) := by
  obtain ⟨cur, h1, h2, h3⟩ := h
  refine ⟨by rw [boolv_len]; omega, Or.inr ⟨b, n, cur, rfl, hB, h1, Nat.le_refl _, hn, by omega, ?_⟩⟩
  apply List.ext_getElem?
  intro i
  rw [List.getElem?_take]
  by_cases hi : i < n
  · rw [if_pos (by omega), Array.getElem?_toList, h3 i hi]
    simp [boolv, hi]
  · rw [if_neg (by omega)]
    simp [boolv, hi]

/-- At the start: nothing was turned yet. -/
theorem IOf.start {w w1 W : World} {a : Option Addr} {n c : Nat} {now since : Int} {Z : Nat → Bool} {V b2 : Nat} {D : Nat → Nd} {L : Nat → Loc} (h : Blk w1 w.heap.size #[.slice a n c, .int .i64 now] 34 ∧ Blk w1 (w.heap.size + 1) #[.int .i64 0, .int .i64 0, .slice none 0 0, .slice none 0 0] 29 ∧ Below w.heap.size w w1)
    (hb : Below w1.heap.size w1 W) (hv : Blk W V #[.int .i64 0, .int .i64 0, .slice none 0 0, .slice none 0 0] 29) (hrow : W.rowIs b2 4 n (fun i => .bool (Z i))) (hV : w1.heap.size ≤ V) (hb2 : w1.heap.size ≤ b2) (hn : n ≤ maxLen) :
    IOf w (fun _ => False) a n c now since Z V (some ⟨b2, 0, none⟩) n 0 none 0 (fun _ => 0) D L ((((W.setCell ⟨V, 0, none⟩ (.int .i64 since)).setCell ⟨V, 1, none⟩ (.int .i64 now)).setCell ⟨V, 2, none⟩ (.slice (some ⟨b2, 0, none⟩) n n)).setCell ⟨V, 3, none⟩ (.slice none 0 0)) := by
  have hne : b2 ≠ V := fun e => by
    obtain ⟨cur, k1, _, _⟩ := hrow
    rw [e] at k1
    have k2 := k1.symm.trans hv
    simp at k2
  obtain ⟨h1, h2, h3⟩ := h
  have l2 := h2.lt
  have hB : Below w.heap.size w W := h3.trans (hb.mono (by omega))
  have hown := row_owns (B := w.heap.size + 2) hrow (by omega) hn
  have hvs : ∀ d, d < 2 + 2 * 0 → d = 0 ∨ d = 1 := fun d hd => by omega
  have hod : OD W (w.heap.size + 2) n Z 0 (fun _ => 0) D L (.slice (some ⟨b2, 0, none⟩) n n) (.slice none 0 0) := ⟨⟨fun d hd => by
    rcases hvs d hd with rfl | rfl
    · exact hown
    · exact World.ownsRow_nil _ _ _ _, fun d d' hd hd' hne b e e' => by
    rcases hvs d hd with rfl | rfl
    · rcases hvs d' hd' with rfl | rfl
      · exact hne rfl
      · simp [valD, Value.ownBlock] at e'
    · simp [valD, Value.ownBlock] at e⟩⟩
  have hoff : ∀ d b, d < 2 + 2 * 0 → (valD (.slice (some ⟨b2, 0, none⟩) n n) (.slice none 0 0) D L d).ownBlock = some b → ¬ False ∧ b ≠ V := fun d b hd e => ⟨id, by
    rcases hvs d hd with rfl | rfl
    · have e' : b2 = b := by simpa [valD, Value.ownBlock] using e
      exact e' ▸ hne
    · simp [valD, Value.ownBlock] at e⟩
  have off : ∀ {j : Nat} {cs : Array Value} {t : TypeId}, Blk W j cs t → j ≠ V → Blk ((((W.setCell ⟨V, 0, none⟩ (.int .i64 since)).setCell ⟨V, 1, none⟩ (.int .i64 now)).setCell ⟨V, 2, none⟩ (.slice (some ⟨b2, 0, none⟩) n n)).setCell ⟨V, 3, none⟩ (.slice none 0 0)) j cs t := fun hj hV => (((hj.off _ hV).off _ hV).off _ hV).off _ hV
  refine ⟨off (h1.below hb h1.lt) (by have := h1.lt; omega), off (h2.below hb h2.lt) (by omega), (((hv.set 0 _).set 1 _).set 2 _).set 3 _, bel_put (bel_put (bel_put (bel_put hB _ (by omega)) _ (by omega)) _ (by omega)) _ (by omega), by omega, ?_, hoff, fun b hX => hX.elim⟩
  refine hod.sameAt fun d b hd e => ?_
  have hbV := (hoff d b hd e).2
  exact (blk_setCell_other _ _ _ _ (show b ≠ V from hbV)).trans ((blk_setCell_other _ _ _ _ (show b ≠ V from hbV)).trans ((blk_setCell_other _ _ _ _ (show b ≠ V from hbV)).trans (blk_setCell_other _ _ _ _ (show b ≠ V from hbV))))

theorem IOf.fresh {w w1 U : World} {a : Option Addr} {n c : Nat} {now since : Int} {Z : Nat → Bool} {b2 : Nat} {D : Nat → Nd} {L : Nat → Loc} (h : Blk w1 w.heap.size #[.slice a n c, .int .i64 now] 34 ∧ Blk w1 (w.heap.size + 1) #[.int .i64 0, .int .i64 0, .slice none 0 0, .slice none 0 0] 29 ∧ Below w.heap.size w w1)
    (hb : Below w1.heap.size w1 U) (hrow : U.rowIs b2 4 n (fun i => .bool (Z i))) (hb2 : w1.heap.size ≤ b2) (hn : n ≤ maxLen) :
    IOf w (fun _ => False) a n c now since Z U.heap.size (some ⟨b2, 0, none⟩) n 0 none 0 (fun _ => 0) D L (U.alloc (.cells #[.int .i64 since, .int .i64 now, .slice (some ⟨b2, 0, none⟩) n n, .slice none 0 0] 29)) := by
  have hb' := hb.alloc hb.size (.cells #[.int .i64 0, .int .i64 0, .slice none 0 0, .slice none 0 0] 29)
  have hU : Below U.heap.size U (U.alloc (.cells #[.int .i64 0, .int .i64 0, .slice none 0 0, .slice none 0 0] 29)) := (Below.refl _ _).alloc (Nat.le_refl _) _
  have := IOf.start (since := since) (D := D) (L := L) h hb' (Blk.new U _ _) (rowd_below hrow hU) hb.size hb2 hn
  simpa [go_sem] using this

/-- A place that is yielded. -/
abbrev Pl (D : Nat → Nd) (n : Nat) (since : Int) := { x : Nat // x < n ∧ since < (D x).turn }

/-- Between two rounds, these places having come. -/
def RndI (w : World) (a : Option Addr) (n c : Nat) (now since : Int) (D : Nat → Nd) (V b2 S : Nat) (pre : List (Pl D n since)) (W : World) : Prop :=
  ∃ ia ic O E M, IOf w (fun j => j = S) a n c now since (fun i => (D i).kind != 0) V (some ⟨b2, 0, none⟩) n pre.length ia ic O E M W ∧ ∀ i, i < pre.length → O i = ((pre.map (·.1)).getD i 0 : Nat) ∧ E i = D ((pre.map (·.1)).getD i 0)

theorem rndI_own {w : World} {a : Option Addr} {n c : Nat} {now since : Int} {D : Nat → Nd} {V b2 S B : Nat} (hB : w.heap.size ≤ B) : OwnFrom B (RndI w a n c now since D V b2 S) := by
  rintro pre A A' row ⟨ia, ic, O, E, M, h, hs⟩ hg hr
  exact ⟨ia, ic, O, E, M, h.turned hg hB hr, hs⟩

theorem own_ne {W : World} {B e t : Nat} {size k : Nat} {v : Value} {xs : List Value} {j : Nat} {cs : Array Value} (h : W.ownsRow B e size v k xs) (hb : Blk W j cs t) (hne : e ≠ t) : v.ownBlock ≠ some j := fun ej => by
  rcases h.2 with ⟨rfl, _⟩ | ⟨g, cap, cur, rfl, _, hgb, _⟩
  · simp [Value.ownBlock] at ej
  · obtain rfl : g = j := by simpa [Value.ownBlock] using ej
    rw [hb] at hgb
    simp at hgb
    exact hne hgb.2.symm

/-- What a round leaves. -/
theorem rnd_step {w : World} {a : Option Addr} {n c : Nat} {now since : Int} {D : Nat → Nd} {V b2 S B b0 : Nat} {pre : List (Pl D n since)} {x : Pl D n since} {ia : Option Addr} {ic : Nat} {O : Nat → Int} {E : Nat → Nd} {M : Nat → Loc} {W W1 W' : World}
    (h : IOf w (fun j => j = S) a n c now since (fun i => (D i).kind != 0) V (some ⟨b2, 0, none⟩) n pre.length ia ic O E M W) (hsel : ∀ i, i < pre.length → O i = ((pre.map (·.1)).getD i 0 : Nat) ∧ E i = D ((pre.map (·.1)).getD i 0))
    {l : Loc} (hN : NewNn W (D x.1) l W1) {g c' : Nat} (hg : W1.grownBy W' (Value.slice ia pre.length ic).ownBlock)
    (hown : W'.ownsRow (w.heap.size + 2) 56 6 (.slice (some ⟨g, 0, none⟩) (pre.length + 1) c') (pre.length + 1) (rowsI O E M pre.length ++ it6 (x.1 : Nat) (D x.1) l)) (hb : (Value.slice ia pre.length ic).ownBlock = some g ∨ W1.heap.size ≤ g) (hSV : S ≠ V) (hb0 : b0 < w.heap.size) :
    KeepsFrom B W (W'.setCell ⟨V, 3, none⟩ (.slice (some ⟨g, 0, none⟩) (pre.length + 1) c')) ∧ KeepsTwo S b0 W (W'.setCell ⟨V, 3, none⟩ (.slice (some ⟨g, 0, none⟩) (pre.length + 1) c')) ∧ RndI w a n c now since D V b2 S (pre ++ [x]) (W'.setCell ⟨V, 3, none⟩ (.slice (some ⟨g, 0, none⟩) (pre.length + 1) c')) := by
  have hfar := h.far
  have hsz := h.bel.size
  refine ⟨(h.others hN hg).from _, ⟨h.keep hN hg (Or.inl rfl) hSV (h.lt S rfl), h.keep hN hg (Or.inr hb0) (by omega) (by omega)⟩, some ⟨g, 0, none⟩, c', (fun i => if i = pre.length then ((x.1 : Nat) : Int) else O i), (fun i => if i = pre.length then D x.1 else E i), (fun i => if i = pre.length then l else M i), ?_, ?_⟩
  · rw [List.length_append]
    exact h.item hN hg hown hb
  · intro i hi
    rw [List.map_append]
    simp only [List.length_append, List.length_singleton] at hi
    by_cases e : i = pre.length
    · have e2 : (pre.map (·.1) ++ [x].map (·.1)).getD i 0 = x.1 := by rw [List.getD_eq_getElem?_getD, List.getElem?_append_right (by rw [List.length_map]; omega), List.length_map, e]; simp
      rw [e2]
      exact ⟨if_pos e, if_pos e⟩
    · have hi' : i < pre.length := by omega
      have := hsel i hi'
      have e2 : (pre.map (·.1) ++ [x].map (·.1)).getD i 0 = (pre.map (·.1)).getD i 0 := by rw [List.getD_eq_getElem?_getD, List.getD_eq_getElem?_getD, List.getElem?_append_left (by rw [List.length_map]; exact hi')]
      rw [e2]
      exact ⟨(if_neg e).trans this.1, (if_neg e).trans this.2⟩

/-- At the call's end. -/
theorem rnd_done {w : World} {X : Nat → Prop} {a : Option Addr} {n c : Nat} {now since : Int} {Z : Nat → Bool} {V : Nat} {la : Option Addr} {lc m : Nat} {ia : Option Addr} {ic : Nat} {O : Nat → Int} {E : Nat → Nd} {M : Nat → Loc} {U : World} {K : Nat} (h : IOf w X a n c now since Z V la lc m ia ic O E M U) (hK : U.heap[K]? = some (.deferred (some []))) (hl : w.heap.size + 2 ≤ K) :
    let U4 := (((U.setCell ⟨w.heap.size + 1, 0, none⟩ (.int .i64 since)).setCell ⟨w.heap.size + 1, 1, none⟩ (.int .i64 now)).setCell ⟨w.heap.size + 1, 2, none⟩ (.slice la n lc)).setCell ⟨w.heap.size + 1, 3, none⟩ (.slice ia m ic)
    U4.heap[K]? = some (.deferred (some [])) ∧ Blk (U4.putObj K (.deferred none)) (w.heap.size + 1) #[.int .i64 since, .int .i64 now, .slice la n lc, .slice ia m ic] 29 ∧ Below w.heap.size w (U4.putObj K (.deferred none)) ∧ OD (U4.putObj K (.deferred none)) w.heap.size n Z m O E M (.slice la n lc) (.slice ia m ic) := by
  intro U4
  have hset : ∀ b, b ≠ w.heap.size + 1 → U4.heap[b]? = U.heap[b]? := fun b hb => (blk_setCell_other _ _ _ _ (show b ≠ w.heap.size + 1 from hb)).trans ((blk_setCell_other _ _ _ _ (show b ≠ w.heap.size + 1 from hb)).trans ((blk_setCell_other _ _ _ _ (show b ≠ w.heap.size + 1 from hb)).trans (blk_setCell_other _ _ _ _ (show b ≠ w.heap.size + 1 from hb))))
  have hK4 : U4.heap[K]? = some (.deferred (some [])) := (hset K (by omega)).trans hK
  have hr : Blk U4 (w.heap.size + 1) #[.int .i64 since, .int .i64 now, .slice la n lc, .slice ia m ic] 29 := (((h.r.set 0 _).set 1 _).set 2 _).set 3 _
  have hb4 : Below w.heap.size w U4 := bel_put (bel_put (bel_put (bel_put h.bel _ (by omega)) _ (by omega)) _ (by omega)) _ (by omega)
  have hg := grownBy_putObj' U4 K (.deferred none)
  refine ⟨hK4, blk_grown hr hg (fun e => by simp at e; omega), hb4.grown hg hb4.size (fun k e => by cases e; omega), ?_⟩
  refine (h.od.lower (by omega)).sameAt fun d b hd hv => ?_
  have h1 := owns_block (h.od.rows.own d hd) hv
  have hbK : b ≠ K := fun e => by
    have := owns_cells (h.od.rows.own d hd) b _ hv (e ▸ hK)
    cases this
  exact (World.putObj_heap_other hbK).trans (hset b (by omega))

theorem sel_same {n : Nat} {D : Nat → Nd} {now since : Int} (hg : TreeGood n D now) (h0 : 0 ≤ since) : selT D since n = selTo D since n := by
  unfold selT selTo
  apply List.filter_congr
  intro i hi
  have hi' : i < n := by simpa using hi
  have hn := hg.nodes i hi'
  unfold turnedB
  by_cases hk : (D i).kind = 0
  · unfold ndOk at hn
    rw [if_pos hk] at hn
    have ht : (D i).turn = 0 := by
      unfold freeOk at hn
      simp at hn
      exact hn.2
    simp [hk, ht]
    omega
  · simp [hk]

theorem turned_stops (q : Nat) (hq : 1 ≤ q) (T S b off n c : Nat) (now since : Int) (D : Nat → Nd) (L : Nat → Loc) (hn : n ≤ 10) (w0 : World)
    (hT : w0.cell? ⟨T, 0, none⟩ = some (.slice (some ⟨b, off, none⟩) n c)) (hTl : T < w0.heap.size) (hSs : w0.cell? ⟨S, 0, none⟩ = some (.int .i64 since)) (hSl : S < w0.heap.size) (hbl : b < w0.heap.size)
    (hc : ∀ i, i < n → w0.cell? ⟨b, off + i * 5, none⟩ = some (.int .i64 (D i).kind) ∧ w0.cell? ⟨b, off + i * 5 + 1, none⟩ = some (.string (D i).text) ∧
      w0.cell? ⟨b, off + i * 5 + 2, none⟩ = some (.slice (L i).nA (D i).nn (L i).nc) ∧ w0.cell? ⟨b, off + i * 5 + 3, none⟩ = some (.slice (L i).kA (D i).kn (L i).kc) ∧ w0.cell? ⟨b, off + i * 5 + 4, none⟩ = some (.int .i64 (D i).turn)) :
    SeqStopsK Fence.wide q Try.prog 54 #[.pointer (some ⟨T, 0, none⟩), .pointer (some ⟨S, 0, none⟩)] (fun x : Pl D n since => #[.int .i64 (x.1 : Nat), ndV (D x.1) (L x.1)]) (KeepsTwo S b) (fun xs => xs.map (·.1) = selT D since n) (fun _ => True) (selT D since n).length w0 := by
  intro l J Jx W hW hJ hJx hY h0
  refine (turned1_in q hq l T S b off n c now since D L hn (fun pre W => ∃ p : List (Pl D n since), p.map (·.1) = pre ∧ J p W) (fun pre W => ∃ p, Jx p W) ?_ ?_ W ((hW.cell (p := ⟨T, 0, none⟩) hTl).trans hT) ((hW.cell (p := ⟨S, 0, none⟩) hSl).trans hSs) (Nat.lt_of_lt_of_le hSl hW.size) (Nat.lt_of_lt_of_le hbl hW.size) ?_ ⟨[], rfl, h0⟩).mono ?_
  · rintro pre x W1 hx ht ⟨p, rfl, hp⟩ hlen
    obtain ⟨fn, tmps, assign, body, hy, hR⟩ := hY p ⟨x, hx, ht⟩ W1 hp (by simpa using hlen)
    refine ⟨fn, tmps, assign, body, hy, hR.mono ?_⟩
    rintro e W2 (⟨rfl, h1, h2⟩ | ⟨rfl, h1⟩)
    · exact Or.inl ⟨rfl, ⟨p ++ [⟨x, hx, ht⟩], by simp, h1⟩, h2⟩
    · exact Or.inr ⟨rfl, _, h1⟩
  · rintro pre W1 o ⟨p, rfl, hp⟩
    exact ⟨p, rfl, hJ p W1 _ none hp ⟨rfl, rfl, rfl, by simp, fun k hk _ => Go.Deep.blk_alloc_lt _ _ _ hk⟩ (fun r e => by cases e)⟩
  · intro i hi
    obtain ⟨c0, c1, c2, c3, c4⟩ := hc i hi
    have k : ∀ o v, w0.cell? ⟨b, o, none⟩ = some v → W.cell? ⟨b, o, none⟩ = some v := fun o v h => (hW.cell (p := ⟨b, o, none⟩) hbl).trans h
    exact ⟨k _ _ c0, k _ _ c1, k _ _ c2, k _ _ c3, k _ _ c4⟩
  · rintro e W2 ⟨hv, ⟨p, h1, h2⟩ | ⟨pre, _, p, h2⟩⟩
    · exact ⟨hv, Or.inl ⟨p, h1, h2⟩⟩
    · exact ⟨hv, Or.inr ⟨p, trivial, h2⟩⟩
end Go.Proofs.Yteoanlkmkmajjaa

/-
  What l6Item of the specification answers, and a copy of truth values by slices.Clone.
-/
namespace Go.Proofs.Yteoanlkmkmajjaa
open Go.RowKit Go.Deep
set_option linter.unusedVariables false
set_option linter.unusedSimpArgs false

theorem wp_cutq3 {X Y Z : Type} (F : X → Y → Z → World → Prop) {P : Program} {c : Code} {Q : Exit → Act → World → Prop} {a : Act} {w : World} (A : X → Y → Z → Act)
    (leaf : (∀ x y z W, F x y z W → Q .normal (A x y z) W) → c.wp P Q a w) (k : ∀ x y z W, F x y z W → Q .normal (A x y z) W) : c.wp P Q a w := leaf k

/-- At the start: the truth values alone. -/
theorem GOf.start {w W0 W : World} {X : Nat → Prop} {since date : Int} {n : Nat} {Z : Nat → Bool} {V g c' : Nat} {O : Nat → Int} {E : Nat → Nd} {M : Nat → Loc} (hbw : Below w.heap.size w W0) (hX : ∀ j, X j → j < W0.heap.size) (hb : Below W0.heap.size W0 W) (hV : W0.heap.size ≤ V)
    (hv : Blk W V #[.int .i64 since, .int .i64 date, .slice (some ⟨g, 0, none⟩) n c', .slice none 0 0] 29) (hown : W.ownsRow W0.heap.size 4 1 (.slice (some ⟨g, 0, none⟩) n c') n (boolv n Z)) :
    GOf w W0 W0.heap.size X since date n Z V (some ⟨g, 0, none⟩) c' 0 none 0 O E M W := by
  have hne : g ≠ V := fun e => own_ne hown hv (by decide) (by rw [e]; rfl)
  have hgl : W0.heap.size ≤ g := (owns_block hown rfl).1
  have hvs : ∀ d, d < 2 + 2 * 0 → d = 0 ∨ d = 1 := fun d hd => by omega
  refine ⟨hv, hbw.trans (hb.mono hbw.size), fun b hx => hb.block b (hX b hx), fun b hx => Nat.lt_of_lt_of_le (hX b hx) hb.size, fun hx => by have := hX V hx; omega, by have := hbw.size; omega, hbw.size, ⟨⟨fun d hd => ?_, fun d d' hd hd' hn b e e' => ?_⟩⟩, fun d b hd e => ?_⟩
  · rcases hvs d hd with rfl | rfl
    · exact hown
    · exact World.ownsRow_nil _ _ _ _
  · rcases hvs d hd with rfl | rfl
    · rcases hvs d' hd' with rfl | rfl
      · exact hn rfl
      · simp [valD, Value.ownBlock] at e'
    · simp [valD, Value.ownBlock] at e
  · rcases hvs d hd with rfl | rfl
    · have e' : g = b := by simpa [valD, Value.ownBlock] using e
      exact e' ▸ ⟨fun hx => by have := hX g hx; omega, hne⟩
    · simp [valD, Value.ownBlock] at e

theorem GOf.start4 {w W0 U : World} {X : Nat → Prop} {since date : Int} {n : Nat} {Z : Nat → Bool} {V g c' : Nat} {O : Nat → Int} {E : Nat → Nd} {M : Nat → Loc} (hbw : Below w.heap.size w W0) (hX : ∀ j, X j → j < W0.heap.size) (hb : Below W0.heap.size W0 U) (hV : W0.heap.size ≤ V)
    (hv : Blk U V #[.int .i64 0, .int .i64 0, .slice none 0 0, .slice none 0 0] 29) (hown : U.ownsRow W0.heap.size 4 1 (.slice (some ⟨g, 0, none⟩) n c') n (boolv n Z)) :
    GOf w W0 W0.heap.size X since date n Z V (some ⟨g, 0, none⟩) c' 0 none 0 O E M ((((U.setCell ⟨V, 0, none⟩ (.int .i64 since)).setCell ⟨V, 1, none⟩ (.int .i64 date)).setCell ⟨V, 2, none⟩ (.slice (some ⟨g, 0, none⟩) n c')).setCell ⟨V, 3, none⟩ (.slice none 0 0)) := by
  have hne : g ≠ V := fun e => own_ne hown hv (by decide) (by rw [e]; rfl)
  refine GOf.start hbw hX (bel_put (bel_put (bel_put (bel_put hb _ hV) _ hV) _ hV) _ hV) hV ((((hv.set 0 _).set 1 _).set 2 _).set 3 _) (owns_same hown fun b e => ?_)
  have e' : g = b := by simpa [Value.ownBlock] using e
  have hbV : b ≠ V := e' ▸ hne
  exact (blk_setCell_other _ _ _ _ (show b ≠ V from hbV)).trans ((blk_setCell_other _ _ _ _ (show b ≠ V from hbV)).trans ((blk_setCell_other _ _ _ _ (show b ≠ V from hbV)).trans (blk_setCell_other _ _ _ _ (show b ≠ V from hbV))))

theorem GOf.start1 {w W0 U : World} {X : Nat → Prop} {since date : Int} {n : Nat} {Z : Nat → Bool} {g c' : Nat} {O : Nat → Int} {E : Nat → Nd} {M : Nat → Loc} (hbw : Below w.heap.size w W0) (hX : ∀ j, X j → j < W0.heap.size) (hb : Below W0.heap.size W0 U)
    (hown : U.ownsRow W0.heap.size 4 1 (.slice (some ⟨g, 0, none⟩) n c') n (boolv n Z)) :
    GOf w W0 W0.heap.size X since date n Z U.heap.size (some ⟨g, 0, none⟩) c' 0 none 0 O E M (U.alloc (.cells #[.int .i64 since, .int .i64 date, .slice (some ⟨g, 0, none⟩) n c', .slice none 0 0] 29)) :=
  GOf.start hbw hX (hb.alloc hb.size _) hb.size (Blk.new U _ _) (hown.alloc _)

theorem bools_shape {W : World} {B : Nat} {v : Value} {n : Nat} {xs : List Value} (h : W.ownsRow B 4 1 v n xs) (hn : 1 ≤ n) : ∃ g c, v = .slice (some ⟨g, 0, none⟩) n c := by
  rcases h.2 with ⟨_, h0⟩ | ⟨g, cap, _, rfl, _⟩
  · omega
  · exact ⟨g, cap, rfl⟩

theorem bools_src {W : World} {a : Option Addr} {n : Nat} {Z : Nat → Bool} (h : IsBools W a n Z) (hn : 1 ≤ n) (c : Nat) : Src W 1 (.slice a n c) n (boolv n Z) := by
  obtain ⟨b, off, rfl, hbl, hc⟩ := h.at (show 0 < n by omega)
  refine ⟨by rw [boolv_len]; omega, fun u hu => by unfold boolv at hu; obtain ⟨i, _, rfl⟩ := List.mem_map.1 hu; rfl, Or.inr ⟨⟨b, off, none⟩, c, rfl, fun j u hu => ?_⟩⟩
  have hj : j < n := by
    rcases Nat.lt_or_ge j n with e | e
    · exact e
    · rw [List.getElem?_eq_none (by rw [boolv_len]; omega)] at hu; cases hu
  rw [addr_add, hc j hj]
  simp [boolv, hj] at hu
  rw [hu]

theorem ok_head1 {d : Dp} (h : d.ok = true) : 1 ≤ d.ln ∧ d.ln ≤ 10 := by
  unfold Dp.ok headIn at h
  simp at h
  omega

theorem thenOk_a {a b : Dp} (h : a.ok = false) : thenOk a b = false := by unfold thenOk; rw [h]; rfl
theorem thenOk_b {a b : Dp} (h : b.ok = false) : thenOk a b = false := by unfold thenOk; rw [h]; simp
theorem thenOk_d {a b : Dp} (h : a.date ≠ b.since) : thenOk a b = false := by unfold thenOk; simp [h]
theorem thenOk_is {a b : Dp} (h1 : a.ok = true) (h2 : b.ok = true) (h3 : a.date = b.since) : thenOk a b = (thenDp a b).ok := by unfold thenOk; rw [h1, h2, h3]; simp

theorem m_small {d : Dp} (h : d.ok = true) : d.m ≤ 10 := by
  rcases Nat.lt_or_ge 10 d.m with hg | hg
  · exfalso
    have key : ∀ i, i < d.m → (i : Int) ≤ d.ino i := fun i => by
      induction i with
      | zero => intro hi; exact (ok_live h hi).1
      | succ i ih => intro hi; have h1 := ih (by omega); have h2 := ok_asc h (i + 1) i (by omega) hi; omega
    have h1 := key 10 hg
    have h2 := (ok_live h hg).2.1
    have h3 := (ok_head1 h).2
    omega
  · exact hg

/-- A number, or -1. -/
def ixI : Option Nat → Int | some i => (i : Int) | none => -1

/-- What is known within l6Item. -/
structure D6In (w : World) (d : Dp) (l : DLoc) (W : World) : Prop where
  p : Blk W w.heap.size #[.int .i64 d.since, .int .i64 d.date, .slice l.lA d.ln l.lc, .slice l.iA d.m l.ic] 29
  bel : Below w.heap.size w W

set_option maxHeartbeats 1000000 in
theorem l6Item_any (d : Dp) (l : DLoc) (z : Int) (w : World) (hI : DpIn w d l) (hm : d.m ≤ maxLen) (hinj : ∀ i j, i < d.m → j < d.m → d.ino i = d.ino j → i = j) :
    Calls Try.prog 38 #[dpV d l, .int .i64 z] w fun e w' => Below w.heap.size w w' ∧ e = .returned (.int .i64 (ixI (ixOf d.ino d.m z))) := by
  unfold maxLen at hm
  unfold dpV
  go_enter Try.func38, Try.ntmps38
  go_wp2
  go_loopw [5] (fun i wr => ∃ k : Nat, k ≤ d.m ∧ i = .int .i64 k ∧ D6In w d l wr ∧ ∀ j, j < k → d.ino j ≠ z) (fun i _ => d.m - (intOf i).toNat)
  case atStart => exact ⟨0, Nat.zero_le _, rfl, ⟨(new1 w _ _).b0, (new1 w _ _).bel⟩, fun j hj => by omega⟩
  case round =>
    obtain ⟨k, hk, rfl, hin, hne⟩ := hrel
    have p3 : wr.cell? ⟨w.heap.size, 3, none⟩ = some (.slice l.iA d.m l.ic) := hin.p.cell 3
    have HIN : Hid (D6In w d l wr ∧ ∀ j, j < k → d.ino j ≠ z) := ⟨hin, hne⟩
    by_cases hlt : k < d.m
    · obtain ⟨b, off, hA, hbl, hc⟩ := (hI.items.below (Nat.le_refl _) hin.bel).at hlt
      obtain ⟨c0, _⟩ := hc k hlt
      rw [hA] at p3
      have hlti : (k : Int) < (d.m : Int) := by omega
      clear hc hA hin hne
      by_cases hz : d.ino k = z
      · have hzb : (d.ino k == z) = true := by simp [hz]
        have HZ : Hid (ixOf d.ino d.m z = some k) := ixOf_one hinj hlt hz
        clear hz
        go_wp2
        go_ret
        exact ⟨HIN.out.1.bel, by rw [HZ.out]; rfl⟩
      · have hzb : (d.ino k == z) = false := by simp [hz]
        have HZ : Hid (d.ino k ≠ z) := hz
        clear hz
        go_wp2
        go_roundw
        case rel => exact ⟨k + 1, by omega, by go_num, HIN.out.1, fun j hj => by
          by_cases e : j = k
          · subst e; exact HZ.out
          · exact HIN.out.2 j (by omega)⟩
        case measure => simp [intOf]; omega
    · have hke : k = d.m := by omega
      have HZ : Hid (ixOf d.ino d.m z = none) := by
        show _ = _
        cases e : ixOf d.ino d.m z with
        | none => rfl
        | some i => exact absurd (ixOf_some e).2 (HIN.out.2 i (by have := (ixOf_some e).1; omega))
      clear hin hne hke
      go_wp2
      go_ret
      exact ⟨HIN.out.1.bel, by rw [HZ.out]; rfl⟩

set_option maxHeartbeats 1000000 in
set_option maxRecDepth 100000 in
theorem cloneBools_any (b off n c : Nat) (Z : Nat → Bool) (w : World) (hc : ∀ i, i < n → w.cell? ⟨b, off + i, none⟩ = some (.bool (Z i))) (hbl : b < w.heap.size) (hn1 : 1 ≤ n) (hn : n ≤ 10) :
    Calls Try.prog 43 #[.slice (some ⟨b, off, none⟩) n c] w fun e w' => Below w.heap.size w w' ∧ ∃ g c', e = .returned (.slice (some ⟨g, 0, none⟩) n c') ∧ w'.ownsRow w.heap.size 4 1 (.slice (some ⟨g, 0, none⟩) n c') n (boolv n Z) := by
  obtain ⟨q0, hq, hq0, hq1, hq2⟩ := info_parts infoBool
  have hsrc : Hid (Src (w.alloc (.cells #[] 4)) 1 (.slice (some ⟨b, off, none⟩) n c) n (boolv n Z)) := ⟨by rw [boolv_len]; omega, fun u hu => by unfold boolv at hu; obtain ⟨i, _, rfl⟩ := List.mem_map.1 hu; rfl, Or.inr ⟨⟨b, off, none⟩, c, rfl, fun j u hu => by
    have hj : j < n := by
      rcases Nat.lt_or_ge j n with e | e
      · exact e
      · rw [List.getElem?_eq_none (by rw [boolv_len]; omega)] at hu; cases hu
    rw [addr_add]
    have hne : (w.alloc (.cells #[] 4)).cell? ⟨b, off + j, none⟩ = w.cell? ⟨b, off + j, none⟩ := World.cell?_of_block (blk_alloc_lt _ _ _ hbl)
    rw [hne, hc j hj]
    simp [boolv, hj] at hu
    rw [hu]⟩⟩
  have hown0 : Hid ((w.alloc (.cells #[] 4)).ownsRow w.heap.size 4 1 (.slice (some ⟨w.heap.size, 0, none⟩) 0 0) 0 []) := owns_lit (Nat.le_refl _) [] 4 1 0 rfl (by unfold maxLen; omega)
  have hnil : ∀ W, (binOp .eql 26 (.slice (some ⟨b, off, none⟩) n c) (.slice none 0 0)).run Try.prog W = .ok (.bool false) W := fun W => Lib.run_eql_slice_some_nil W _ _ _ Try.underlying26
  clear hc
  go_enter Try.func43, Try.ntmps43
  go_wp2_with (at_builtin; go_must (refine wpList_append_src (by rfl) _ _ 26 rfl w.heap.size 4 q0 (.bool false) 1 1 Try.underlying26 hq hq0 hq1 hq2 rfl (by decide) (.slice (some ⟨w.heap.size, 0, none⟩) 0 0) 0 [] (by rfl) hown0.out _ n _ (by rfl) hsrc.out (by unfold maxLen; omega) (by omega) (by simp) ?_))
  intro v' w' hown hgrow _ _
  obtain ⟨g, cap, rfl⟩ : ∃ g cap, v' = .slice (some ⟨g, 0, none⟩) n cap := by
    rcases hown.2 with ⟨_, h0⟩ | ⟨g, cap, _, rfl, _⟩
    · omega
    · exact ⟨g, cap, rfl⟩
  have HN : Hid (Below w.heap.size w w' ∧ w'.ownsRow w.heap.size 4 1 (.slice (some ⟨g, 0, none⟩) n cap) n (boolv n Z)) := ⟨((Below.refl _ w).alloc (Nat.le_refl _) _).grown hgrow (by simp) (fun j e => by simp [Value.ownBlock] at e; omega), hown⟩
  clear hown hgrow hown0 hsrc hnil
  go_wp2
  go_ret
  exact ⟨HN.out.1, g, cap, rfl, HN.out.2⟩
end Go.Proofs.Yteoanlkmkmajjaa

/-
  What NodeSame of the specification answers at two places.
-/
namespace Go.Proofs.Yteoanlkmkmajjaa
open Go.RowKit
set_option linter.unusedVariables false
end Go.Proofs.Yteoanlkmkmajjaa

/-
  What DumpSame of the specification answers.
-/
namespace Go.Proofs.Yteoanlkmkmajjaa
open Go.RowKit
set_option linter.unusedVariables false

/-- What is known within DumpSame. -/
structure DSIn (w : World) (d e : Dp) (l k : DLoc) (t : TypeId) (W : World) : Prop where
  p : Blk W w.heap.size #[.int .i64 d.since, .int .i64 d.date, .slice l.lA d.ln l.lc, .slice l.iA d.m l.ic] t
  p' : Blk W (w.heap.size + 1) #[.int .i64 e.since, .int .i64 e.date, .slice k.lA e.ln k.lc, .slice k.iA e.m k.ic] t
  bel : Below w.heap.size w W

theorem DSIn.below {w : World} {d e : Dp} {l k : DLoc} {t : TypeId} {W W' : World} (h : DSIn w d e l k t W) (hb : Below W.heap.size W W') : DSIn w d e l k t W' :=
  ⟨h.p.below hb h.p.lt, h.p'.below hb h.p'.lt, h.bel.trans (hb.mono (by have := h.p.lt; omega))⟩

theorem DSIn.drew {w : World} {d e : Dp} {l k : DLoc} {t : TypeId} {W : World} (h : DSIn w d e l k t W) (q : Nat) : DSIn w d e l k t (W.drewN q) := h.below (below_drewN (Below.refl _ _) q)

theorem same_since {d e : Dp} (h : (d.since == e.since) = false) : false = d.same e := by unfold Dp.same; rw [h]; rfl
theorem same_date {d e : Dp} (h : (d.date == e.date) = false) : false = d.same e := by unfold Dp.same; rw [h]; simp
theorem same_ln {d e : Dp} (h : ¬ d.ln = e.ln) : false = d.same e := by unfold Dp.same; simp [h]
theorem same_m {d e : Dp} (h : ¬ d.m = e.m) : false = d.same e := by unfold Dp.same; simp [h]
theorem same_live {d e : Dp} (h : false = eqB d.ln d.live e.live) : false = d.same e := by unfold Dp.same; rw [← h]; simp
theorem same_items {d e : Dp} (h : false = sameIts d.m d.ino e.ino d.nd e.nd) : false = d.same e := by unfold Dp.same; rw [← h]; simp
theorem same_all {d e : Dp} (h1 : (d.since == e.since) = true) (h2 : (d.date == e.date) = true) (h3 : d.ln = e.ln) (h4 : eqB d.ln d.live e.live = true) (h5 : d.m = e.m) (h6 : sameIts d.m d.ino e.ino d.nd e.nd = true) : true = d.same e := by
  unfold Dp.same; rw [h1, h2, h4, h6]; simp [h3, h5]

end Go.Proofs.Yteoanlkmkmajjaa

/-
  What DumpOk of the specification answers.
-/
namespace Go.Proofs.Yteoanlkmkmajjaa
open Go.RowKit
set_option linter.unusedVariables false

/-- What is known within l5Kids and l5Item: what is kept in one block, more cells in the next. -/
structure DKIn (w : World) (d : Dp) (l : DLoc) (cs : Array Value) (t : TypeId) (W : World) : Prop where
  p : Blk W w.heap.size #[.int .i64 d.since, .int .i64 d.date, .slice l.lA d.ln l.lc, .slice l.iA d.m l.ic] 29
  x : Blk W (w.heap.size + 1) cs t
  bel : Below w.heap.size w W

theorem DKIn.below {w : World} {d : Dp} {l : DLoc} {cs : Array Value} {t : TypeId} {W W' : World} (h : DKIn w d l cs t W) (hb : Below W.heap.size W W') : DKIn w d l cs t W' :=
  ⟨h.p.below hb h.p.lt, h.x.below hb h.x.lt, h.bel.trans (hb.mono (by have := h.p.lt; omega))⟩
theorem DKIn.drew {w : World} {d : Dp} {l : DLoc} {cs : Array Value} {t : TypeId} {W : World} (h : DKIn w d l cs t W) (q : Nat) : DKIn w d l cs t (W.drewN q) := h.below (below_drewN (Below.refl _ _) q)

set_option maxHeartbeats 2000000 in
theorem l5Kids_any (d : Dp) (l : DLoc) (x : Nd) (lo : Loc) (w : World) (hD : DpIn w d l) (hI : NdIn w x lo) (hfd : d.Fits) (hf : x.Fits) :
    Calls Try.prog 84 #[dpV d l, ndV x lo] w fun e w' => Below w.heap.size w w' ∧ e = .returned (.bool (kidsIn d.ln d.live x.kids x.kn && decide (x.kn = x.nn))) := by
  have hkn := hf.kn
  have hnn := hf.nn
  have hln := hfd.ln
  unfold maxLen at hkn hnn hln
  unfold dpV ndV
  go_enter Try.func84, Try.ntmps84
  go_wp2
  go_loopw [5] (fun i wr => ∃ k : Nat, k ≤ x.kn ∧ i = .int .i64 k ∧ DKIn w d l #[.int .i64 x.kind, .string x.text, .slice lo.nA x.nn lo.nc, .slice lo.kA x.kn lo.kc, .int .i64 x.turn] 53 wr ∧ kidsIn d.ln d.live x.kids k = true) (fun i _ => x.kn - (intOf i).toNat)
  case atStart =>
    have h := new2 w #[.int .i64 d.since, .int .i64 d.date, .slice l.lA d.ln l.lc, .slice l.iA d.m l.ic] 29 #[.int .i64 x.kind, .string x.text, .slice lo.nA x.nn lo.nc, .slice lo.kA x.kn lo.kc, .int .i64 x.turn] 53
    exact ⟨0, Nat.zero_le _, rfl, ⟨h.b0, h.b1, h.bel⟩, rfl⟩
  case round =>
    obtain ⟨k, hk, rfl, hin, heq⟩ := hrel
    have t2 : wr.cell? ⟨w.heap.size, 2, none⟩ = some (.slice l.lA d.ln l.lc) := hin.p.cell 2
    have d2 : wr.cell? ⟨w.heap.size + 1, 2, none⟩ = some (.slice lo.nA x.nn lo.nc) := hin.x.cell 2
    have d3 : wr.cell? ⟨w.heap.size + 1, 3, none⟩ = some (.slice lo.kA x.kn lo.kc) := hin.x.cell 3
    have hLr := hD.live.below (Nat.le_refl _) hin.bel
    have hIr := hI.2.below (Nat.le_refl _) hin.bel
    have HE : Hid (kidsIn d.ln d.live x.kids k = true ∧ DKIn w d l _ 53 wr) := ⟨heq, hin⟩
    clear heq hin
    by_cases hlt : k < x.kn
    · obtain ⟨b, off, hka, hlt2, hc⟩ := hIr.at hlt
      rw [hka] at d3
      have h1 := hc k hlt
      have hlti : (k : Int) < (x.kn : Int) := by omega
      have HKA : Hid _ := hka
      clear hc hka
      have hz := hf.kids k hlt
      unfold In64 at hz
      have bad : kidIn d.ln d.live (x.kids k) = false → Hid (kidsIn d.ln d.live x.kids x.kn = false) := fun h => kidsIn_bad hlt h
      by_cases hz1 : x.kids k < 1
      · have H : Hid (kidsIn d.ln d.live x.kids x.kn = false) := bad (by unfold kidIn; rw [decide_eq_false (show ¬ 1 ≤ x.kids k by omega)]; rfl)
        have hb1 : decide (x.kids k < 1) = true := by simp; omega
        clear bad
        go_wp2_with fail
        go_quiet (fail)
        go_wp2
        go_ret
        exact ⟨(HE.out.2.drew _).bel, ret_bool (by rw [H.out]; rfl)⟩
      · have hb1 : decide (x.kids k < 1) = false := by simp; omega
        by_cases hz2 : (d.ln : Int) ≤ x.kids k
        · have H : Hid (kidsIn d.ln d.live x.kids x.kn = false) := bad (by unfold kidIn; rw [decide_eq_false (show ¬ x.kids k < d.ln by omega)]; simp)
          have hb2 : decide ((d.ln : Int) ≤ x.kids k) = true := by simp; omega
          clear bad
          go_wp2_with fail
          go_quiet (fail)
          go_wp2
          go_ret
          exact ⟨(HE.out.2.drew _).bel, ret_bool (by rw [H.out]; rfl)⟩
        · obtain ⟨j, hj⟩ : ∃ j : Nat, x.kids k = j := ⟨(x.kids k).toNat, by omega⟩
          have hjn : j < d.ln := by omega
          obtain ⟨b', off', ha, hlt2', hc'⟩ := hLr.at hjn
          have g0 := hc' j hjn
          have hko : kidIn d.ln d.live (x.kids k) = d.live j := by
            unfold kidIn; rw [decide_eq_true (show 1 ≤ x.kids k by omega), decide_eq_true (show x.kids k < d.ln by omega), hj]; simp
          clear hc'
          rw [ha] at t2
          have HLA : Hid _ := ha
          clear ha hb1
          rw [hj] at h1 hz1 hz2 hz
          have hb1 : decide ((j : Int) < 1) = false := by simp; omega
          have hb2 : decide ((d.ln : Int) ≤ (j : Int)) = false := by simp; omega
          have hjl : (j : Int) < (d.ln : Int) := by omega
          cases hkd : d.live j with
          | false =>
            have H : Hid (kidsIn d.ln d.live x.kids x.kn = false) := bad (by rw [hko, hkd])
            rw [hkd] at g0
            clear bad hko hkd hj
            go_wp2_with fail
            go_quiet (fail)
            go_wp2
            go_ret
            exact ⟨(HE.out.2.drew _).bel, ret_bool (by rw [H.out]; rfl)⟩
          | true =>
            have H : Hid (kidIn d.ln d.live (x.kids k) = true) := by show _ = _; rw [hko, hkd]
            rw [hkd] at g0
            clear bad hko hkd hj
            go_wp2_with fail
            go_quiet (fail)
            go_wp2
            go_roundw
            case rel => exact ⟨k + 1, by omega, by go_num, HE.out.2.drew _, kidsIn_succ HE.out.1 H.out⟩
            case measure => simp [intOf]; omega
    · have hke : k = x.kn := by omega
      have HK : Hid (kidsIn d.ln d.live x.kids x.kn = true) := by have := HE.out.1; rw [hke] at this; exact this
      clear hke hLr hIr
      go_wp2
      go_ret
      refine ⟨HE.out.2.bel, ret_bool ?_⟩
      rw [HK.out, Bool.true_and]
      by_cases h : x.kn = x.nn
      · simp [h]
      · rw [decide_eq_false h]
        simp
        omega
end Go.Proofs.Yteoanlkmkmajjaa

/-
  What l5Item and DumpOk of the specification answer.
-/
namespace Go.Proofs.Yteoanlkmkmajjaa
open Go.RowKit
set_option linter.unusedVariables false

theorem it_dead {d : Dp} {o : Int} {x : Nd} (h : liveIn d.ln d.live o = false) : false = itIn d o x := by unfold itIn; rw [h]; rfl
theorem it_turn {d : Dp} {o : Int} {x : Nd} (h : turnedIn d x = false) : false = itIn d o x := by unfold itIn; rw [h]; simp
theorem it_node {d : Dp} {o : Int} {x : Nd} (h1 : liveIn d.ln d.live o = true) (h2 : turnedIn d x = true) : nodeIn d o x = itIn d o x := by unfold itIn; rw [h1, h2]; rfl

/-- The cells of a place that was turned. -/
def itC (o : Int) (x : Nd) (lo : Loc) : Array Value := #[.int .i64 o, .int .i64 x.kind, .string x.text, .slice lo.nA x.nn lo.nc, .slice lo.kA x.kn lo.kc, .int .i64 x.turn]

set_option maxHeartbeats 4000000 in
theorem l5Item_any (d : Dp) (l : DLoc) (o : Int) (x : Nd) (lo : Loc) (w : World) (hD : DpIn w d l) (hI : NdIn w x lo) (hfd : d.Fits) (hf : x.Fits) :
    Calls Try.prog 64 #[dpV d l, itV o x lo] w fun e w' => Below w.heap.size w w' ∧ e = .returned (.bool (itIn d o x)) := by
  have hkn := hf.kn
  have hnn := hf.nn
  have hln := hfd.ln
  unfold maxLen at hkn hnn hln
  unfold dpV itV
  have hend : ∀ (c0 c1 : Array Value) (t0 t1 : TypeId), Below w.heap.size w ((w.alloc (.cells c0 t0)).alloc (.cells c1 t1)) := fun c0 c1 t0 t1 => ((Below.refl _ _).alloc (Nat.le_refl _) _).alloc (by simp) _
  have HEND : Hid _ := hend
  clear hend
  by_cases h1 : o < 0
  · have hb1 : decide (o < 0) = true := by simp; omega
    have HX : Hid (false = itIn d o x) := it_dead (by unfold liveIn; rw [decide_eq_false (show ¬ 0 ≤ o by omega)]; rfl)
    go_enter Try.func64, Try.ntmps64
    go_wp2_with fail
    go_ret
    exact ⟨HEND.out _ _ _ _, ret_bool HX.out⟩
  have hb1 : decide (o < 0) = false := by simp; omega
  by_cases h2 : (d.ln : Int) ≤ o
  · have hb2 : decide ((d.ln : Int) ≤ o) = true := by simp; omega
    have HX : Hid (false = itIn d o x) := it_dead (by unfold liveIn; rw [decide_eq_false (show ¬ o < d.ln by omega)]; simp)
    go_enter Try.func64, Try.ntmps64
    go_wp2_with fail
    go_ret
    exact ⟨HEND.out _ _ _ _, ret_bool HX.out⟩
  have hb2 : decide ((d.ln : Int) ≤ o) = false := by simp; omega
  obtain ⟨j, rfl⟩ : ∃ j : Nat, o = j := ⟨o.toNat, by omega⟩
  have hjn : j < d.ln := by omega
  have hjl : (j : Int) < (d.ln : Int) := by omega
  obtain ⟨b, off, hA, hlt2, hc⟩ := hD.live.at hjn
  have g0 := hc j hjn
  have hbne : b ≠ w.heap.size := by omega
  have hbne' : b ≠ w.heap.size + 1 := by omega
  have hblt' : b < w.heap.size + 1 := by omega
  have HLA : Hid (l.lA = some ⟨b, off, none⟩) := hA
  rw [hA]
  clear hc hA
  cases hlv : d.live j with
  | false =>
    have HX : Hid (false = itIn d j x) := it_dead (by unfold liveIn; simp [hlv])
    rw [hlv] at g0
    clear hlv
    go_enter Try.func64, Try.ntmps64
    go_wp2_with fail
    go_ret
    exact ⟨HEND.out _ _ _ _, ret_bool HX.out⟩
  | true =>
  have HL : Hid (liveIn d.ln d.live (j : Int) = true) := by show _ = _; unfold liveIn; simp [hlv]; omega
  rw [hlv] at g0
  clear hlv
  by_cases h3 : x.turn ≤ d.since
  · have hb3 : decide (x.turn ≤ d.since) = true := by simp; omega
    have HX : Hid (false = itIn d j x) := it_turn (by unfold turnedIn; rw [decide_eq_false (show ¬ d.since < x.turn by omega)]; rfl)
    go_enter Try.func64, Try.ntmps64
    go_wp2_with fail
    go_ret
    exact ⟨HEND.out _ _ _ _, ret_bool HX.out⟩
  have hb3 : decide (x.turn ≤ d.since) = false := by simp; omega
  by_cases h4 : d.date < x.turn
  · have hb4 : decide (d.date < x.turn) = true := by simp; omega
    have HX : Hid (false = itIn d j x) := it_turn (by unfold turnedIn; rw [decide_eq_false (show ¬ x.turn ≤ d.date by omega)]; simp)
    go_enter Try.func64, Try.ntmps64
    go_wp2_with fail
    go_ret
    exact ⟨HEND.out _ _ _ _, ret_bool HX.out⟩
  have hb4 : decide (d.date < x.turn) = false := by simp; omega
  have HN : Hid (nodeIn d j x = itIn d j x) := it_node HL.out (by unfold turnedIn; rw [decide_eq_true (show d.since < x.turn by omega), decide_eq_true (show x.turn ≤ d.date by omega)]; rfl)
  clear HL
  by_cases k1 : x.kind = 1
  · have c1 : (x.kind == 1) = true := by simp [k1]
    have H : Hid ((fileIs x && decide ((0 : Int) < j)) = itIn d j x) := by show _ = _; rw [← HN.out]; unfold nodeIn; rw [if_pos k1]
    clear k1 HN
    go_enter Try.func64, Try.ntmps64
    go_wp2_with fail
    refine (l2Text_any x.text _ hf.text).mono ?_
    rintro e w1 ⟨rfl, rfl⟩
    cases htx : textOk x.text with
    | false =>
      have HT : Hid (textOk x.text = false) := htx
      clear htx
      go_wp2_with fail
      go_ret
      exact ⟨HEND.out _ _ _ _, ret_bool (by rw [← H.out]; unfold fileIs; rw [HT.out]; rfl)⟩
    | true =>
      have HT : Hid (textOk x.text = true) := htx
      clear htx
      have HF : Hid ((decide (x.nn = 0) && decide (x.kn = 0) && decide ((0 : Int) < j)) = itIn d j x) := by show _ = _; rw [← H.out]; unfold fileIs; rw [HT.out]; rfl
      clear H HT
      by_cases e1 : x.nn = 0
      · by_cases e2 : x.kn = 0
        · have a1 : ((x.nn : Int) == 0) = true := by simp [e1]
          have a2 : ((x.kn : Int) == 0) = true := by simp [e2]
          have HG : Hid (decide ((0 : Int) < j) = itIn d j x) := by show _ = _; rw [← HF.out, decide_eq_true e1, decide_eq_true e2]; rfl
          clear e1 e2 HF
          go_wp2_with fail
          all_goals
            go_ret
            exact ⟨HEND.out _ _ _ _, ret_bool (by rw [← HG.out]; (first | rfl | (simp [*]; done) | (simp; omega)))⟩
        · have a1 : ((x.nn : Int) == 0) = true := by simp [e1]
          have a2 : ((x.kn : Int) == 0) = false := by simp; omega
          have HG : Hid (false = itIn d j x) := by show _ = _; rw [← HF.out, decide_eq_false e2]; simp
          clear e1 e2 HF
          go_wp2_with fail
          go_ret
          exact ⟨HEND.out _ _ _ _, ret_bool HG.out⟩
      · have a1 : ((x.nn : Int) == 0) = false := by simp; omega
        have HG : Hid (false = itIn d j x) := by show _ = _; rw [← HF.out, decide_eq_false e1]; simp
        clear e1 HF
        go_wp2_with fail
        go_ret
        exact ⟨HEND.out _ _ _ _, ret_bool HG.out⟩
  · have c1 : (x.kind == 1) = false := by simp [k1]
    by_cases k2 : x.kind = 2
    · have c2 : (x.kind == 2) = true := by simp [k2]
      have H : Hid ((dirIs x && kidsIn d.ln d.live x.kids x.kn) = itIn d j x) := by show _ = _; rw [← HN.out]; unfold nodeIn; rw [if_neg k1, if_pos k2]
      clear k1 k2 HN
      cases ht : (x.text.toList == []) with
      | false =>
        have HX : Hid (false = itIn d j x) := by show _ = _; rw [← H.out]; unfold dirIs; rw [ht]; rfl
        go_enter Try.func64, Try.ntmps64
        go_wp2_with fail
        go_ret
        exact ⟨HEND.out _ _ _ _, ret_bool HX.out⟩
      | true =>
        have H2 : Hid ((dirNames x.names x.nn && decide (x.kn = x.nn) && kidsIn d.ln d.live x.kids x.kn) = itIn d j x) := by show _ = _; rw [← H.out]; unfold dirIs; rw [ht]; rfl
        clear H
        go_enter Try.func64, Try.ntmps64
        go_wp2_with fail
        refine at_world (F := New2 w _ _ _ _) (new2 w _ _ _ _) ?_
        rintro W ⟨hp, hx, hb, hs⟩
        refine (l2Names_any lo.nA x.nn lo.nc x.names W (hI.1.below (Nat.le_refl _) hb) hf.names hf.nn).mono ?_
        rintro e w1 ⟨⟨q, rfl⟩, rfl⟩
        have HB : Hid (Below w.heap.size w W) := hb
        have p0 : W.cell? ⟨w.heap.size, 0, none⟩ = some (.int .i64 d.since) := hp.cell 0
        have p1 : W.cell? ⟨w.heap.size, 1, none⟩ = some (.int .i64 d.date) := hp.cell 1
        have p2 : W.cell? ⟨w.heap.size, 2, none⟩ = some (.slice (some ⟨b, off, none⟩) d.ln l.lc) := hp.cell 2
        have p3 : W.cell? ⟨w.heap.size, 3, none⟩ = some (.slice l.iA d.m l.ic) := hp.cell 3
        have x1 : W.cell? ⟨w.heap.size + 1, 1, none⟩ = some (.int .i64 x.kind) := hx.cell 1
        have x2 : W.cell? ⟨w.heap.size + 1, 2, none⟩ = some (.string x.text) := hx.cell 2
        have x3 : W.cell? ⟨w.heap.size + 1, 3, none⟩ = some (.slice lo.nA x.nn lo.nc) := hx.cell 3
        have x4 : W.cell? ⟨w.heap.size + 1, 4, none⟩ = some (.slice lo.kA x.kn lo.kc) := hx.cell 4
        have x5 : W.cell? ⟨w.heap.size + 1, 5, none⟩ = some (.int .i64 x.turn) := hx.cell 5
        clear hp hx hb
        cases hnm : dirNames x.names x.nn with
        | false =>
          have HX : Hid (false = itIn d j x) := by show _ = _; rw [← H2.out, hnm]; rfl
          clear hnm
          go_wp2_with fail
          go_ret
          exact ⟨below_drewN HB.out _, ret_bool HX.out⟩
        | true =>
          have HX : Hid ((kidsIn d.ln d.live x.kids x.kn && decide (x.kn = x.nn)) = itIn d j x) := by show _ = _; rw [← H2.out, hnm]; simp [Bool.and_comm]
          clear hnm H2
          go_wp2_with fail
          have hbq := below_drewN HB.out q
          have hk5 := l5Kids_any d l x lo (W.drewN q) (hD.below (Nat.le_refl _) hbq) (hI.below (Nat.le_refl _) hbq) hfd hf
          unfold dpV at hk5
          rw [HLA.out] at hk5
          refine hk5.mono ?_
          rintro e w2 ⟨hb2, rfl⟩
          have HB2 : Hid (Below w.heap.size w w2) := hbq.trans (hb2.mono hbq.size)
          clear hb2 hbq hk5 p0 p1 p2 p3 x1 x2 x3 x4 x5
          rw [HX.out]
          go_wp2
          go_ret
          exact ⟨HB2.out, rfl⟩
    · have c2 : (x.kind == 2) = false := by simp [k2]
      have HX : Hid (false = itIn d j x) := by show _ = _; rw [← HN.out]; unfold nodeIn; rw [if_neg k1, if_neg k2]
      clear k1 k2 HN
      go_enter Try.func64, Try.ntmps64
      go_wp2_with fail
      go_ret
      exact ⟨HEND.out _ _ _ _, ret_bool HX.out⟩
end Go.Proofs.Yteoanlkmkmajjaa

/-
  What DumpOk of the specification answers.
-/
namespace Go.Proofs.Yteoanlkmkmajjaa
open Go.RowKit
set_option linter.unusedVariables false

/-- What is known within DumpOk. -/
structure D1In (w : World) (d : Dp) (l : DLoc) (t : TypeId) (W : World) : Prop where
  p : Blk W w.heap.size #[.int .i64 d.since, .int .i64 d.date, .slice l.lA d.ln l.lc, .slice l.iA d.m l.ic] t
  bel : Below w.heap.size w W

theorem D1In.below {w : World} {d : Dp} {l : DLoc} {t : TypeId} {W W' : World} (h : D1In w d l t W) (hb : Below W.heap.size W W') : D1In w d l t W' :=
  ⟨h.p.below hb h.p.lt, h.bel.trans (hb.mono (by have := h.p.lt; omega))⟩
theorem D1In.drew {w : World} {d : Dp} {l : DLoc} {t : TypeId} {W : World} (h : D1In w d l t W) (q : Nat) : D1In w d l t (W.drewN q) := h.below (below_drewN (Below.refl _ _) q)

theorem head_1 {d : Dp} (h : d.since < 0) : false = d.ok := ok_head (by unfold headIn; rw [decide_eq_false (show ¬ 0 ≤ d.since by omega)]; rfl)
theorem head_2 {d : Dp} (h : d.date < d.since) : false = d.ok := ok_head (by unfold headIn; rw [decide_eq_false (show ¬ d.since ≤ d.date by omega)]; simp)
theorem head_3 {d : Dp} (h : d.date < 1) : false = d.ok := ok_head (by unfold headIn; rw [decide_eq_false (show ¬ 1 ≤ d.date by omega)]; simp)
theorem head_4 {d : Dp} (h : 1000 < d.date) : false = d.ok := ok_head (by unfold headIn; rw [decide_eq_false (show ¬ d.date ≤ 1000 by omega)]; simp)
theorem head_5 {d : Dp} (h : d.ln < 1) : false = d.ok := ok_head (by unfold headIn; rw [decide_eq_false (show ¬ 1 ≤ d.ln by omega)]; simp)
theorem head_6 {d : Dp} (h : 10 < d.ln) : false = d.ok := ok_head (by unfold headIn; rw [decide_eq_false (show ¬ d.ln ≤ 10 by omega)]; simp)
theorem head_7 {d : Dp} (h : d.live 0 = false) : false = d.ok := ok_head (by unfold headIn; rw [h]; simp)
theorem head_yes {d : Dp} (h1 : ¬ d.since < 0) (h2 : ¬ d.date < d.since) (h3 : ¬ d.date < 1) (h4 : ¬ 1000 < d.date) (h5 : ¬ d.ln < 1) (h6 : ¬ 10 < d.ln) (h7 : d.live 0 = true) : headIn d = true := by
  unfold headIn
  rw [decide_eq_true (show 0 ≤ d.since by omega), decide_eq_true (show d.since ≤ d.date by omega), decide_eq_true (show 1 ≤ d.date by omega), decide_eq_true (show d.date ≤ 1000 by omega), decide_eq_true (show 1 ≤ d.ln by omega), decide_eq_true (show d.ln ≤ 10 by omega), h7]
  rfl

set_option maxHeartbeats 4000000 in
theorem specDumpOk_any (d : Dp) (l : DLoc) (w : World) (hD : DpIn w d l) (hfd : d.Fits) :
    Calls Try.prog 37 #[dpV d l] w fun e w' => Below w.heap.size w w' ∧ e = .returned (.bool d.ok) := by
  have hln := hfd.ln
  have hm := hfd.m
  unfold maxLen at hln hm
  unfold dpV
  have HEND : Hid (∀ (c0 : Array Value) (t0 : TypeId), Below w.heap.size w (w.alloc (.cells c0 t0))) := fun c0 t0 => (Below.refl _ _).alloc (Nat.le_refl _) _
  by_cases h1 : d.since < 0
  · have hb1 : decide (d.since < 0) = true := by simp; omega
    have HX : Hid (false = d.ok) := head_1 h1
    go_enter Try.func37, Try.ntmps37
    go_wp2_with fail
    go_ret
    exact ⟨HEND.out _ _, ret_bool HX.out⟩
  have hb1 : decide (d.since < 0) = false := by simp; omega
  by_cases h2 : d.date < d.since
  · have hb2 : decide (d.date < d.since) = true := by simp; omega
    have HX : Hid (false = d.ok) := head_2 h2
    go_enter Try.func37, Try.ntmps37
    go_wp2_with fail
    go_ret
    exact ⟨HEND.out _ _, ret_bool HX.out⟩
  have hb2 : decide (d.date < d.since) = false := by simp; omega
  by_cases h3 : d.date < 1
  · have hb3 : decide (d.date < 1) = true := by simp; omega
    have HX : Hid (false = d.ok) := head_3 h3
    go_enter Try.func37, Try.ntmps37
    go_wp2_with fail
    go_ret
    exact ⟨HEND.out _ _, ret_bool HX.out⟩
  have hb3 : decide (d.date < 1) = false := by simp; omega
  by_cases h4 : 1000 < d.date
  · have hb4 : decide (1000 < d.date) = true := by simp; omega
    have HX : Hid (false = d.ok) := head_4 h4
    go_enter Try.func37, Try.ntmps37
    go_wp2_with fail
    go_ret
    exact ⟨HEND.out _ _, ret_bool HX.out⟩
  have hb4 : decide (1000 < d.date) = false := by simp; omega
  by_cases h5 : d.ln < 1
  · have hb5 : decide ((d.ln : Int) < 1) = true := by simp; omega
    have HX : Hid (false = d.ok) := head_5 h5
    clear h5
    go_enter Try.func37, Try.ntmps37
    go_wp2_with fail
    go_ret
    exact ⟨HEND.out _ _, ret_bool HX.out⟩
  have hb5 : decide ((d.ln : Int) < 1) = false := by simp; omega
  by_cases h6 : 10 < d.ln
  · have hb6 : decide ((10 : Int) < (d.ln : Int)) = true := by simp; omega
    have HX : Hid (false = d.ok) := head_6 h6
    go_enter Try.func37, Try.ntmps37
    go_wp2_with fail
    go_ret
    exact ⟨HEND.out _ _, ret_bool HX.out⟩
  have hb6 : decide ((10 : Int) < (d.ln : Int)) = false := by simp; omega
  have h0n : 0 < d.ln := by omega
  have h0i : (0 : Int) < (d.ln : Int) := by omega
  obtain ⟨b, off, hA, hlt2, hc⟩ := hD.live.at h0n
  have g0 := hc 0 h0n
  rw [Nat.add_zero] at g0
  have hbne : b ≠ w.heap.size := by omega
  have HLA : Hid (l.lA = some ⟨b, off, none⟩) := hA
  rw [hA]
  clear hc hA
  cases h7 : d.live 0 with
  | false =>
    have HX : Hid (false = d.ok) := head_7 h7
    rw [h7] at g0
    clear h7
    go_enter Try.func37, Try.ntmps37
    go_wp2_with fail
    go_ret
    exact ⟨HEND.out _ _, ret_bool HX.out⟩
  | true =>
  have HH : Hid (headIn d = true) := head_yes h1 h2 h3 h4 h5 h6 h7
  rw [h7] at g0
  clear h7
  go_enter Try.func37, Try.ntmps37
  go_wp2_with fail
  go_loopw [3] (fun i wr => ∃ k : Nat, k ≤ d.m ∧ i = .int .i64 k ∧ D1In w d l 29 wr ∧ itsIn d k = true) (fun i _ => d.m - (intOf i).toNat)
  case atStart =>
    have h := new1 w #[.int .i64 d.since, .int .i64 d.date, .slice l.lA d.ln l.lc, .slice l.iA d.m l.ic] 29
    rw [HLA.out] at h
    exact ⟨0, Nat.zero_le _, rfl, ⟨by rw [HLA.out]; exact h.b0, h.bel⟩, rfl⟩
  case round =>
    obtain ⟨k, hk, rfl, hin, heq⟩ := hrel
    have t0 : wr.cell? ⟨w.heap.size, 0, none⟩ = some (.int .i64 d.since) := hin.p.cell 0
    have t1 : wr.cell? ⟨w.heap.size, 1, none⟩ = some (.int .i64 d.date) := hin.p.cell 1
    have t2 : wr.cell? ⟨w.heap.size, 2, none⟩ = some (.slice l.lA d.ln l.lc) := hin.p.cell 2
    have t3 : wr.cell? ⟨w.heap.size, 3, none⟩ = some (.slice l.iA d.m l.ic) := hin.p.cell 3
    have hwl := hin.p.lt
    by_cases hlt : k < d.m
    · obtain ⟨b', off', hA', hlt2', hc'⟩ := (hD.items.below (Nat.le_refl _) hin.bel).at hlt
      obtain ⟨c0, c1, c2, c3, c4, c5, hN⟩ := hc' k hlt
      have hDr := hD.below (Nat.le_refl _) hin.bel
      have hIA : Hid (l.iA = some ⟨b', off', none⟩) := hA'
      have T0 := Lat.cell (B := wr.heap.size) t0 hwl
      have T1 := Lat.cell (B := wr.heap.size) t1 hwl
      have T2 := Lat.cell (B := wr.heap.size) t2 hwl
      have T3 := Lat.cell (B := wr.heap.size) t3 hwl
      rw [hA'] at t3 T3
      have hlti : (k : Int) < (d.m : Int) := by omega
      have C0 := Lat.cell (B := wr.heap.size) c0 hlt2'
      have C1 := Lat.cell (B := wr.heap.size) c1 hlt2'
      have C2 := Lat.cell (B := wr.heap.size) c2 hlt2'
      have C3 := Lat.cell (B := wr.heap.size) c3 hlt2'
      have C4 := Lat.cell (B := wr.heap.size) c4 hlt2'
      have C5 := Lat.cell (B := wr.heap.size) c5 hlt2'
      have hcall0 : ∀ q : Lat wr.heap.size wr, Calls Try.prog 64 #[dpV d l, itV (d.ino k) (d.nd k) (l.L k)] q.val fun r w'' => r = .returned (.bool (itIn d (d.ino k) (d.nd k))) ∧ ∃ m : Lat wr.heap.size wr, w'' = m.val := fun q =>
        Calls.lat_of (l5Item_any d l (d.ino k) (d.nd k) (l.L k) q.val (hDr.below (Nat.le_refl _) q.bel) (hN.below (Nat.le_refl _) q.bel) hfd (hfd.nds k hlt)) (fun e w' h => ⟨h.2, h.1.mono q.bel.size⟩)
      unfold dpV at hcall0
      rw [hA'] at hcall0
      have HIN : Hid (D1In w d l 29 wr ∧ itsIn d k = true) := ⟨hin, heq⟩
      cases hq : itIn d (d.ino k) (d.nd k) with
      | false =>
        rw [hq] at hcall0
        have hcall : Hid _ := hcall0
        have HQ : Hid (false = d.ok) := ok_bad hlt (step_item hq)
        clear hq hcall0 hc' c0 c1 c2 c3 c4 c5 hN hDr hin heq hA'
        go_wp2_with fail
        refine wp_region_lat (B := wr.heap.size) (w0 := wr) (by kernel_rfl) (by kernel_rfl) (Below.refl _ _) ?_
        repeat (go_big_quiet_step (exact hcall.out _))
        refine wpQuiet_nil ?_
        rintro _ ⟨nq, rfl⟩
        have HB : Hid (Below w.heap.size w nq.val) := (HIN.out.1.below nq.bel).bel
        clear hcall C0 C1 C2 C3 C4 C5 T0 T1 T2 T3 t0 t1 t2 t3
        go_wp2
        go_ret
        exact ⟨HB.out, ret_bool HQ.out⟩
      | true =>
        rw [hq] at hcall0
        have hcall : Hid _ := hcall0
        have HI : Hid (itIn d (d.ino k) (d.nd k) = true) := hq
        clear hq hcall0 hDr hin heq hN
        by_cases hk0 : k = 0
        · subst hk0
          have hz : decide ((0 : Int) < ((0 : Nat) : Int)) = false := by decide
          have HS : Hid (stepIn d 0 = true) := step_zero HI.out
          clear hc' c0 c1 c2 c3 c4 c5 hA' HI
          simp only [Nat.zero_mul, Nat.add_zero] at C0 C1 C2 C3 C4 C5
          go_wp2_with fail
          refine wp_region_lat (B := wr.heap.size) (w0 := wr) (by kernel_rfl) (by kernel_rfl) (Below.refl _ _) ?_
          repeat (go_big_quiet_step (exact hcall.out _))
          refine wpQuiet_nil ?_
          rintro _ ⟨nq, rfl⟩
          have HB : Hid (D1In w d l 29 nq.val) := HIN.out.1.below nq.bel
          clear hcall C0 C1 C2 C3 C4 C5 T0 T1 T2 T3 t0 t1 t2 t3
          go_wp2
          go_roundw
          case rel => exact ⟨1, by omega, by go_num, HB.out, itsIn_succ HIN.out.2 HS.out⟩
          case measure => simp [intOf]; omega
        · have hz : decide ((0 : Int) < (k : Int)) = true := by simp; omega
          have hz' : decide (0 < k) = true := by simp; omega
          have e0 := (hc' (k - 1) (by omega)).1
          have E0 := Lat.cell (B := wr.heap.size) e0 hlt2'
          have hk1 : ((k - 1 : Nat) : Int) < (d.m : Int) := by omega
          have hwr : IntKind.i64.wrap ((k : Int) - 1) = ((k - 1 : Nat) : Int) := by rw [IntKind.wrap_i64]; omega
          by_cases hle : d.ino k ≤ d.ino (k - 1)
          · have hb8 : decide (d.ino k ≤ d.ino (k - 1)) = true := by simp; omega
            have HQ : Hid (false = d.ok) := ok_bad hlt (step_low hk0 hle)
            clear hc' c0 c1 c2 c3 c4 c5 hA' HI e0 hk0
            go_wp2_with fail
            refine wp_region_lat (B := wr.heap.size) (w0 := wr) (by kernel_rfl) (by kernel_rfl) (Below.refl _ _) ?_
            repeat (go_big_quiet_step (exact hcall.out _))
            refine wpQuiet_nil ?_
            rintro _ ⟨nq, rfl⟩
            have HB : Hid (Below w.heap.size w nq.val) := (HIN.out.1.below nq.bel).bel
            clear hcall C0 C1 C2 C3 C4 C5 E0 T0 T1 T2 T3 t0 t1 t2 t3
            go_wp2
            go_ret
            exact ⟨HB.out, ret_bool HQ.out⟩
          · have hb8 : decide (d.ino k ≤ d.ino (k - 1)) = false := by simp; omega
            have HS : Hid (stepIn d k = true) := step_more HI.out (by omega)
            clear hc' c0 c1 c2 c3 c4 c5 hA' HI e0 hk0
            go_wp2_with fail
            refine wp_region_lat (B := wr.heap.size) (w0 := wr) (by kernel_rfl) (by kernel_rfl) (Below.refl _ _) ?_
            repeat (go_big_quiet_step (exact hcall.out _))
            refine wpQuiet_nil ?_
            rintro _ ⟨nq, rfl⟩
            have HB : Hid (D1In w d l 29 nq.val) := HIN.out.1.below nq.bel
            clear hcall C0 C1 C2 C3 C4 C5 E0 T0 T1 T2 T3 t0 t1 t2 t3
            go_wp2
            go_roundw
            case rel => exact ⟨k + 1, by omega, by go_num, HB.out, itsIn_succ HIN.out.2 HS.out⟩
            case measure => simp [intOf]; omega
    · obtain rfl : k = d.m := by omega
      have HK : Hid (true = d.ok ∧ Below w.heap.size w wr) := ⟨by unfold Dp.ok; rw [HH.out, heq]; rfl, hin.bel⟩
      clear hin heq
      go_wp2
      go_ret
      exact ⟨HK.out.2, ret_bool HK.out.1⟩
end Go.Proofs.Yteoanlkmkmajjaa
