/-
  What refsOf and namedOnce of the program answer.
-/
import Derived.Test.YtkbccbooiaebfaaImplPlace
import Derived.Test.YtkbccbooiaebfaaSpecTreeOk
namespace Go.Proofs.Ytkbccbooiaebfaa
open Go.RowKit
set_option linter.unusedVariables false

/-- What is known within refsOf. -/
structure RefRow (w : World) (a : Option Addr) (n c : Nat) (now : Int) (f : Nat → Nat) (W : World) : Prop where
  t : Blk W w.heap.size #[.slice a n c, .int .i64 now] 30
  row : W.rowIs (w.heap.size + 1) 3 n (fun j => .int .i64 (f j))
  bel : Below w.heap.size w W

theorem RefRow.put {w : World} {a : Option Addr} {n c : Nat} {now : Int} {f : Nat → Nat} {W : World} (h : RefRow w a n c now f W) (x : Nat) {g : Nat → Nat} (hg : ∀ j, j < n → g j = if j = x then f j + 1 else f j) :
    RefRow w a n c now g (W.setCell ⟨w.heap.size + 1, x, none⟩ (.int .i64 ((f x : Int) + 1))) :=
  ⟨h.t.off _ (by omega), (h.row.set x (.int .i64 ((f x : Int) + 1))).congr (fun i hi => by
    rw [hg i hi]
    by_cases e : i = x
    · subst e; simp
    · simp [e]), bel_put h.bel _ (by omega)⟩

theorem RefRow.alloc {w : World} {a : Option Addr} {n c : Nat} {now : Int} {f : Nat → Nat} {W : World} (h : RefRow w a n c now f W) (o : Obj) : RefRow w a n c now f (W.alloc o) :=
  ⟨h.t.alloc _, rowIs_below h.row ((Below.refl W.heap.size W).alloc (Nat.le_refl _) _) h.row.lt, h.bel.alloc (by have := h.t.lt; omega) _⟩

theorem RefRow.to {w : World} {a : Option Addr} {n c : Nat} {now : Int} {f g : Nat → Nat} {W : World} (h : RefRow w a n c now f W) (hg : ∀ j, j < n → f j = g j) : RefRow w a n c now g W :=
  ⟨h.t, h.row.congr (fun i hi => by rw [hg i hi]), h.bel⟩

theorem refs_start (w : World) (a : Option Addr) (n c : Nat) (now : Int) : RefRow w a n c now (fun _ => 0)
    ((w.alloc (.cells #[.slice a n c, .int .i64 now] 30)).alloc (.cells (madeCells #[.int .i64 0] n) 3)) := by
  have h := new2 w #[.slice a n c, .int .i64 now] 30 (madeCells #[.int .i64 0] n) 3
  refine ⟨h.b0, ⟨_, h.b1, by simp [size_madeCells], fun i hi => ?_⟩, h.bel⟩
  simp [madeCells, hi, Nat.mod_one]

set_option maxHeartbeats 2000000 in
theorem refsOf_any (a : Option Addr) (n c : Nat) (now : Int) (D : Nat → Nd) (L : Nat → Loc) (w : World) (hS : IsNds w a n D L) (hn : n ≤ 1048576) (hsz : sizeTo D n ≤ 1048576) (hsm : ∀ i, i < n → (D i).kn ≤ maxLen) (hk : ∀ i, i < n → ∀ j, j < (D i).kn → 0 ≤ (D i).kids j ∧ (D i).kids j < n) :
    Calls Try.prog 80 #[trV a n c now] w fun e w' => Below w.heap.size w w' ∧ e = .returned (.slice (some ⟨w.heap.size + 1, 0, none⟩) n n) ∧ w'.rowIs (w.heap.size + 1) 3 n (fun j => .int .i64 (refsTo D j n)) := by
  have hmk := fun w => run_make_row' (P := Try.prog) 74 3 (.int .i64 0) 8 Try.underlying74 infoInt rfl .i64 .i64 n (by omega) (by omega) w
  unfold trV
  go_enter Try.func80, Try.ntmps80
  go_wp2
  go_loopw [15] (fun i wr => ∃ k : Nat, k ≤ n ∧ i = .int .i64 k ∧ RefRow w a n c now (fun j => refsTo D j k) wr) (fun i _ => n - (intOf i).toNat)
  case atStart => exact ⟨0, Nat.zero_le _, rfl, (refs_start w a n c now).to (fun _ _ => rfl)⟩
  case round =>
    obtain ⟨k, hk', rfl, hin⟩ := hrel
    by_cases hlt : k < n
    · have hSr := hS.below (Nat.le_refl _) hin.bel
      obtain ⟨b, off, rfl, hlt2, hc⟩ := hSr.at hlt
      obtain ⟨c0, c1, c2, c3, c4, hI⟩ := hc k hlt
      have hki : (k : Int) < (n : Int) := by omega
      have hkn := hsm k hlt
      unfold maxLen at hkn
      have HIN : Hid (RefRow w (some ⟨b, off, none⟩) n c now (fun j => refsTo D j k) wr ∧ NdIn wr (D k) (L k)) := ⟨hin, hI⟩
      clear hc hI hin hSr hmk
      go_wp2
      go_loopw [22] (fun i wr' => ∃ j : Nat, j ≤ (D k).kn ∧ i = .int .i64 j ∧ RefRow w (some ⟨b, off, none⟩) n c now (fun x => refsTo D x k + cnt (D k).kids x j) wr') (fun i _ => (D k).kn - (intOf i).toNat)
      case atStart => exact ⟨0, Nat.zero_le _, rfl, (HIN.out.1.alloc _).to (fun _ _ => rfl)⟩
      case round =>
        obtain ⟨j, hj, rfl, hin⟩ := hrel
        by_cases hltj : j < (D k).kn
        · have hIr := (hS.below (Nat.le_refl _) hin.bel)
          obtain ⟨b2, off2, ha2, _, hc2⟩ := hIr.at hlt
          cases ha2
          obtain ⟨b', off', ha', hlt2', hc'⟩ := (hc2 k hlt).2.2.2.2.2.2.at hltj
          have hz := hc' j hltj
          obtain ⟨hk0, hk1⟩ := hk k hlt j hltj
          obtain ⟨x, hx⟩ : ∃ x : Nat, (D k).kids j = x := ⟨((D k).kids j).toNat, by omega⟩
          have hxn : x < n := by omega
          have hjj : (j : Int) < ((D k).kn : Int) := by omega
          rw [hx] at hz
          obtain ⟨v, hv⟩ : ∃ v : Nat, v = refsTo D x k + cnt (D k).kids x j := ⟨_, rfl⟩
          have hvb : v ≤ 1048576 := by
            have h1 := refsTo_le D x k
            have h2 := cnt_le (D k).kids x j
            have h3 := sizeTo_mono D (show k + 1 ≤ n by omega)
            rw [sizeTo_succ] at h3
            unfold Nd.size at h3
            omega
          have xc : wr.cell? ⟨w.heap.size + 1, x, none⟩ = some (.int .i64 v) := by rw [hv]; exact hin.row.cell hxn
          have xf := hin.row.frozen x
          have HALL : Hid (RefRow w (some ⟨b, off, none⟩) n c now (fun x => refsTo D x k + cnt (D k).kids x j) wr ∧ (D k).kids j = x ∧ v = refsTo D x k + cnt (D k).kids x j) := ⟨hin, hx, hv⟩
          have hxi : (x : Int) < (n : Int) := by omega
          rw [ha']
          clear hin hIr hc2 hc' hx hk0 hk1 hv c0 c1 c2 c3 c4
          go_wp2
          go_roundw
          case rel =>
            obtain ⟨h1, h2, h3⟩ := HALL.out
            refine ⟨j + 1, by omega, by go_num, ?_⟩
            have h4 := h1.put (g := fun y => refsTo D y k + cnt (D k).kids y (j + 1)) x (fun y _ => by
              show _ + cnt (D k).kids y (j + 1) = _
              rw [cnt, h2]
              by_cases e : y = x
              · subst e; simp; omega
              · have : ¬ (x : Int) = (y : Int) := by omega
                simp [e, this])
            rw [h3]
            exact h4
          case measure => simp [intOf]; omega
        · have hje : j = (D k).kn := by omega
          have HALL : Hid (RefRow w (some ⟨b, off, none⟩) n c now (fun x => refsTo D x (k + 1)) wr) := hin.to (fun y _ => by rw [refsTo, hje])
          clear hin hje c0 c1 c2 c3 c4
          go_wp2
          go_roundw
          case rel => exact ⟨k + 1, by omega, by go_num, HALL.out⟩
          case measure => simp [intOf]; omega
    · have hke : k = n := by omega
      have HALL : Hid (RefRow w a n c now (fun x => refsTo D x n) wr) := hin.to (fun y _ => by rw [hke])
      clear hin hke hmk
      go_wp2
      go_ret
      exact ⟨HALL.out.bel, rfl, HALL.out.row⟩
end Go.Proofs.Ytkbccbooiaebfaa
