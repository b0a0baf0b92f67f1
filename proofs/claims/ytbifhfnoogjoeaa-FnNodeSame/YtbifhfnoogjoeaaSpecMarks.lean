/-
  What l2Marks of the specification answers: which places are reached from the root.
-/
import Derived.Test.YtbifhfnoogjoeaaSpecRefs
import Derived.Test.YtbifhfnoogjoeaaMarksMath
namespace Go.Proofs.Ytbifhfnoogjoeaa
open Go.RowKit
set_option linter.unusedVariables false

theorem infoBool : (Try.prog.info? 4).map (fun i => (i.zero, i.size, i.bytes)) = some (some (.bool false), 1, 1) := by kernel_rfl

/-- What is known within l2Marks. -/
structure MarksIn (w : World) (a : Option Addr) (n c : Nat) (now : Int) (m : Nat → Bool) (W : World) : Prop where
  t : Blk W w.heap.size #[.slice a n c, .int .i64 now] 25
  row : W.rowIs (w.heap.size + 1) 4 n (fun j => .bool (m j))
  bel : Below w.heap.size w W

theorem MarksIn.put {w : World} {a : Option Addr} {n c : Nat} {now : Int} {m : Nat → Bool} {W : World} (h : MarksIn w a n c now m W) (x : Nat) :
    MarksIn w a n c now (fun j => if j = x then true else m j) (W.setCell ⟨w.heap.size + 1, x, none⟩ (.bool true)) :=
  ⟨h.t.off _ (by omega), (h.row.set x (.bool true)).congr (fun i _ => by by_cases e : i = x <;> simp [e]), bel_put h.bel _ (by omega)⟩

theorem marks_start (w : World) (a : Option Addr) (n c : Nat) (now : Int) : MarksIn w a n c now (fun j => decide (j = 0))
    ((w.alloc (.cells #[.slice a n c, .int .i64 now] 25)).alloc (.cells ((madeCells #[.bool false] n).setIfInBounds 0 (.bool true)) 4)) := by
  have h := new2 w #[.slice a n c, .int .i64 now] 25 ((madeCells #[.bool false] n).setIfInBounds 0 (.bool true)) 4
  refine ⟨h.b0, ⟨_, h.b1, by simp [size_madeCells], fun i hi => ?_⟩, h.bel⟩
  rw [Array.getElem?_setIfInBounds]
  by_cases e : 0 = i
  · subst e
    simp [size_madeCells, hi]
  · rw [if_neg e]
    have : ¬ i = 0 := fun h => e h.symm
    simp [madeCells, hi, Nat.mod_one, this]

set_option maxHeartbeats 2000000 in
theorem l2Marks_any (a : Option Addr) (n c : Nat) (now : Int) (D : Nat → Nd) (L : Nat → Loc) (w : World) (hS : IsNds w a n D L) (h1 : 1 ≤ n) (hn : n ≤ 1048576) (hsm : ∀ i, i < n → (D i).kn ≤ maxLen) (hk : ∀ i, i < n → ∀ j, j < (D i).kn → 0 ≤ (D i).kids j ∧ (D i).kids j < n) :
    Calls Try.prog 32 #[trV a n c now] w fun e w' => Below w.heap.size w w' ∧ e = .returned (.slice (some ⟨w.heap.size + 1, 0, none⟩) n n) ∧ ∃ m : Nat → Bool, w'.rowIs (w.heap.size + 1) 4 n (fun j => .bool (m j)) ∧ ∀ j, m j = true ↔ Reach n D j := by
  have hmk := fun w => run_make_row' (P := Try.prog) 51 4 (.bool false) 1 Try.underlying51 infoBool rfl .i64 .i64 n (by omega) (by omega) w
  have hm0 : (madeCells #[Value.bool false] n)[0]? = some (.bool false) := by simp [madeCells, show 0 < n from h1]
  unfold trV
  go_enter Try.func32, Try.ntmps32
  go_wp2
  go_loopw [4] (fun i wr => ∃ (r : Nat) (m : Nat → Bool), r ≤ n ∧ i = .int .i64 r ∧ MarksIn w a n c now m wr ∧ Rounds n D r m) (fun i _ => n - (intOf i).toNat)
  case atStart => exact ⟨0, _, Nat.zero_le _, rfl, marks_start w a n c now, Rounds.start h1⟩
  case round =>
    obtain ⟨r, m0, hr, rfl, hin, hrd⟩ := hrel
    have t0 : wr.cell? ⟨w.heap.size, 0, none⟩ = some (.slice a n c) := hin.t.cell 0
    by_cases hlt : r < n
    · have HIN : Hid (MarksIn w a n c now m0 wr ∧ Rounds n D r m0) := ⟨hin, hrd⟩
      clear hin hrd hmk hm0
      go_wp2_with fail
      go_loopw [5] (fun i wr => ∃ (i' : Nat) (m : Nat → Bool), i' ≤ n ∧ i = .int .i64 i' ∧ MarksIn w a n c now m wr ∧ Pass n D m0 i' m) (fun i _ => n - (intOf i).toNat)
      case atStart => exact ⟨0, m0, Nat.zero_le _, rfl, HIN.out.1, HIN.out.2.pass⟩
      case round =>
        obtain ⟨i, m1, hi, rfl, hin, hps⟩ := hrel
        have t0 : wr.cell? ⟨w.heap.size, 0, none⟩ = some (.slice a n c) := hin.t.cell 0
        by_cases hlti : i < n
        · have HI : Hid (MarksIn w a n c now m1 wr ∧ Pass n D m0 i m1) := ⟨hin, hps⟩
          clear hin hps
          go_wp2_with fail
          go_loopw [6] (fun j wr => ∃ (j' : Nat) (m : Nat → Bool), j' ≤ (D i).kn ∧ j = .int .i64 j' ∧ MarksIn w a n c now m wr ∧ Pass n D m0 i m ∧ (m0 i = true → ∀ x, x < j' → m ((D i).kids x).toNat = true)) (fun j _ => (D i).kn - (intOf j).toNat)
          case atStart => exact ⟨0, m1, Nat.zero_le _, rfl, HI.out.1, HI.out.2, fun _ x hx => by omega⟩
          case round =>
            obtain ⟨j, m, hj, rfl, hin, hps, hkd⟩ := hrel
            have t0 : wr.cell? ⟨w.heap.size, 0, none⟩ = some (.slice a n c) := hin.t.cell 0
            have hSr := hS.below (Nat.le_refl _) hin.bel
            obtain ⟨b, off, ha, hlt2, hc⟩ := hSr.at hlti
            obtain ⟨_, _, _, c3, _, hI⟩ := hc i hlti
            rw [ha] at t0
            have hii : (i : Int) < (n : Int) := by omega
            have hknb := hsm i hlti
            unfold maxLen at hknb
            have mi : wr.cell? ⟨w.heap.size + 1, i, none⟩ = some (.bool (m i)) := hin.row.cell hlti
            clear hc hSr
            by_cases hltj : j < (D i).kn
            · obtain ⟨b', off', ha', hlt2', hc'⟩ := hI.2.at hltj
              have hz := hc' j hltj
              rw [ha'] at c3
              obtain ⟨hk0, hk1⟩ := hk i hlti j hltj
              obtain ⟨x, hx⟩ : ∃ x : Nat, (D i).kids j = x := ⟨((D i).kids j).toNat, by omega⟩
              have hxn : x < n := by omega
              have hjj : (j : Int) < ((D i).kn : Int) := by omega
              rw [hx] at hz
              cases hmi : m i with
              | true =>
                rw [hmi] at mi
                have xc : wr.cell? ⟨w.heap.size + 1, x, none⟩ = some (.bool (m x)) := hin.row.cell hxn
                have xf := hin.row.frozen x
                have HALL : Hid (MarksIn w a n c now m wr ∧ Pass n D m0 i m ∧ (m0 i = true → ∀ x, x < j → m ((D i).kids x).toNat = true) ∧ m i = true ∧ ((D i).kids j).toNat = x) := ⟨hin, hps, hkd, hmi, by rw [hx]; rfl⟩
                clear hin hps hkd hmi hc' hI hx hk0 hk1
                go_wp2
                go_roundw
                case rel =>
                  obtain ⟨h1, h2, h3, h4, h5⟩ := HALL.out
                  have h6 := h2.put hlti h4 hltj
                  rw [h5] at h6
                  refine ⟨j + 1, _, by omega, by go_num, h1.put x, h6, fun h0 y hy => ?_⟩
                  by_cases e : y = j
                  · subst e; simp [h5]
                  · have := h3 h0 y (by omega)
                    by_cases e2 : ((D i).kids y).toNat = x
                    · simp [e2]
                    · simp only [if_neg e2]; exact this
                case measure => simp [intOf]; omega
              | false =>
                rw [hmi] at mi
                have HALL : Hid (MarksIn w a n c now m wr ∧ Pass n D m0 (i + 1) m) := ⟨hin, hps.next (fun h0 => by have := hps.sub i h0; rw [hmi] at this; cases this)⟩
                clear hin hps hkd hmi hc' hI hx hk0 hk1
                go_wp2
                go_roundw
                case rel => exact ⟨i + 1, m, by omega, by go_num, HALL.out.1, HALL.out.2⟩
                case measure => simp [intOf]; omega
            · have hje : j = (D i).kn := by omega
              have HALL : Hid (MarksIn w a n c now m wr ∧ Pass n D m0 (i + 1) m) := ⟨hin, hps.next (fun h0 y hy => hkd h0 y (by omega))⟩
              clear hin hps hkd hje hI
              go_wp2
              go_roundw
              case rel => exact ⟨i + 1, m, by omega, by go_num, HALL.out.1, HALL.out.2⟩
              case measure => simp [intOf]; omega
        · have hie : i = n := by omega
          have HALL : Hid (MarksIn w a n c now m1 wr ∧ Rounds n D (r + 1) m1) := ⟨hin, Pass.done HIN.out.2 (hie ▸ hps) hk⟩
          clear hin hps hie
          go_wp2
          go_roundw
          case rel => exact ⟨r + 1, m1, by omega, by go_num, HALL.out.1, HALL.out.2⟩
          case measure => simp [intOf]; omega
    · have hre : r = n := by omega
      have HALL : Hid (MarksIn w a n c now m0 wr ∧ Rounds n D n m0) := ⟨hin, hre ▸ hrd⟩
      clear hin hrd hre hmk hm0
      go_wp2
      go_ret
      exact ⟨HALL.out.1.bel, rfl, m0, HALL.out.1.row, HALL.out.2.fin hk⟩
end Go.Proofs.Ytbifhfnoogjoeaa
