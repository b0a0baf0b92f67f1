/-
  What l2Node of the specification answers.
-/
import Derived.Test.YtnnhdcohfabenaaSpecKids
namespace Go.Proofs.Ytnnhdcohfabenaa
open Go.RowKit
set_option linter.unusedVariables false

/-- A free place. -/
def freeOk (d : Nd) : Bool := (d.text.toList == []) && decide (d.nn = 0) && decide (d.kn = 0) && (d.turn == 0)
/-- A file. -/
def fileOk (now : Int) (d : Nd) : Bool := textOk d.text && decide (d.nn = 0) && decide (d.kn = 0) && decide (1 ≤ d.turn) && decide (d.turn ≤ now)
/-- A directory. -/
def dirOk (n : Nat) (D : Nat → Nd) (now : Int) (d : Nd) : Bool := (d.text.toList == []) && dirNames d.names d.nn && (kidsOk n D d.kids d.kn && decide (d.kn = d.nn)) && decide (1 ≤ d.turn) && decide (d.turn ≤ now)
/-- A place that is right by itself. -/
def ndOk (n : Nat) (D : Nat → Nd) (now : Int) (d : Nd) : Bool := if d.kind = 0 then freeOk d else if d.kind = 1 then fileOk now d else if d.kind = 2 then dirOk n D now d else false

set_option maxHeartbeats 1000000 in
theorem l2Node_any (a : Option Addr) (n c : Nat) (now : Int) (D : Nat → Nd) (L : Nat → Loc) (d : Nd) (l : Loc) (w : World) (hS : IsNds w a n D L) (hI : NdIn w d l) (hf : d.Fits) (hn : n ≤ maxLen) :
    Calls Try.prog 64 #[trV a n c now, ndV d l] w fun e w' => Below w.heap.size w w' ∧ e = .returned (.bool (ndOk n D now d)) := by
  have hkn := hf.kn
  have hnn := hf.nn
  unfold maxLen at hkn hnn
  unfold trV ndV
  by_cases h0 : d.kind = 0
  · have H : Hid (ndOk n D now d = freeOk d) := if_pos h0
    have b0 : (d.kind == 0) = true := by simp [h0]
    clear h0
    go_enter Try.func64, Try.ntmps64
    go_wp2_with fail
    all_goals
      go_ret
      exact ⟨((Below.refl _ _).alloc (Nat.le_refl _) _).alloc (by simp) _, ret_bool (by rw [H.out]; unfold freeOk; simp [*])⟩
  · have n0 : (d.kind == 0) = false := by simp [h0]
    by_cases h1 : d.kind = 1
    · have H : Hid (ndOk n D now d = fileOk now d) := (if_neg h0).trans (if_pos h1)
      have b1 : (d.kind == 1) = true := by simp [h1]
      clear h0 h1
      go_enter Try.func64, Try.ntmps64
      go_wp2_with fail
      refine (l2Text_any d.text _ hf.text).mono ?_
      rintro e w1 ⟨rfl, rfl⟩
      cases htx : textOk d.text with
      | false =>
        have HT : Hid (textOk d.text = false) := htx
        clear htx
        go_wp2_with fail
        go_ret
        exact ⟨((Below.refl _ _).alloc (Nat.le_refl _) _).alloc (by simp) _, ret_bool (by rw [H.out]; unfold fileOk; rw [HT.out]; rfl)⟩
      | true =>
        have HT : Hid (textOk d.text = true) := htx
        clear htx
        go_wp2_with fail
        all_goals
          go_ret
          exact ⟨((Below.refl _ _).alloc (Nat.le_refl _) _).alloc (by simp) _, ret_bool (by rw [H.out]; unfold fileOk; rw [HT.out]; (first | (simp [*]; done) | (simp [*]; omega)))⟩
    · have n1 : (d.kind == 1) = false := by simp [h1]
      by_cases h2 : d.kind = 2
      · have H : Hid (ndOk n D now d = dirOk n D now d) := ((if_neg h0).trans (if_neg h1)).trans (if_pos h2)
        have b2 : (d.kind == 2) = true := by simp [h2]
        clear h0 h1 h2
        go_enter Try.func64, Try.ntmps64
        go_wp2_with fail
        rotate_left
        · go_ret
          exact ⟨((Below.refl _ _).alloc (Nat.le_refl _) _).alloc (by simp) _, ret_bool (by rw [H.out]; unfold dirOk; simp [*])⟩
        have htx : Hid (d.text.toList = []) := ‹d.text.toList = []›
        refine at_world (F := New2 w _ _ _ _) (new2 w _ _ _ _) ?_
        rintro W ⟨ht, hd, hb, hs⟩
        refine (l2Names_any l.nA d.nn l.nc d.names W (hI.1.below (Nat.le_refl _) hb) hf.names hf.nn).mono ?_
        rintro e w1 ⟨⟨q, rfl⟩, rfl⟩
        have t0 : W.cell? ⟨w.heap.size, 0, none⟩ = some (.slice a n c) := ht.cell 0
        have t1 : W.cell? ⟨w.heap.size, 1, none⟩ = some (.int .i64 now) := ht.cell 1
        have d0 : W.cell? ⟨w.heap.size + 1, 0, none⟩ = some (.int .i64 d.kind) := hd.cell 0
        have d1 : W.cell? ⟨w.heap.size + 1, 1, none⟩ = some (.string d.text) := hd.cell 1
        have d2 : W.cell? ⟨w.heap.size + 1, 2, none⟩ = some (.slice l.nA d.nn l.nc) := hd.cell 2
        have d3 : W.cell? ⟨w.heap.size + 1, 3, none⟩ = some (.slice l.kA d.kn l.kc) := hd.cell 3
        have d4 : W.cell? ⟨w.heap.size + 1, 4, none⟩ = some (.int .i64 d.turn) := hd.cell 4
        cases hnm : dirNames d.names d.nn with
        | false =>
          have HN : Hid (dirNames d.names d.nn = false) := hnm
          have HB : Hid (Below w.heap.size w W) := hb
          clear hnm ht hd hb hs
          go_wp2_with fail
          go_ret
          exact ⟨below_drewN HB.out _, ret_bool (by rw [H.out]; unfold dirOk; rw [HN.out]; simp)⟩
        | true =>
          have HN : Hid (dirNames d.names d.nn = true) := hnm
          have HB : Hid (Below w.heap.size w W ∧ Blk W w.heap.size _ _ ∧ Blk W (w.heap.size + 1) _ _) := ⟨hb, ht, hd⟩
          clear hnm ht hd hb
          go_wp2_with fail
          have hbq := below_drewN HB.out.1 q
          refine (l2Kids_any a n c now D L d l (W.drewN q) (hS.below (Nat.le_refl _) hbq) (hI.below (Nat.le_refl _) hbq) hf hn).mono ?_
          rintro e w1 ⟨hb1, rfl⟩
          have hb1' : Below W.heap.size W w1 := (below_drewN (Below.refl _ _) q).trans hb1
          have hB := HB.out.1.trans (hb1'.mono HB.out.1.size)
          have T1 : w1.cell? ⟨w.heap.size, 1, none⟩ = some (.int .i64 now) := (HB.out.2.1.below hb1' (by omega)).cell 1
          have D4 : w1.cell? ⟨w.heap.size + 1, 4, none⟩ = some (.int .i64 d.turn) := (HB.out.2.2.below hb1' (by omega)).cell 4
          have HBB : Hid (Below w.heap.size w w1) := hB
          clear t0 t1 d0 d1 d2 d3 d4 hB hb1 hb1' HB hbq
          cases hkk : (kidsOk n D d.kids d.kn && decide (d.kn = d.nn)) with
          | false =>
            have HK : Hid ((kidsOk n D d.kids d.kn && decide (d.kn = d.nn)) = false) := hkk
            clear hkk
            go_wp2_with fail
            go_ret
            exact ⟨HBB.out, ret_bool (by rw [H.out]; unfold dirOk; rw [HK.out]; simp)⟩
          | true =>
            have HK : Hid ((kidsOk n D d.kids d.kn && decide (d.kn = d.nn)) = true) := hkk
            clear hkk
            go_wp2_with fail
            all_goals
              go_ret
              exact ⟨HBB.out, ret_bool (by rw [H.out]; unfold dirOk; rw [HK.out, HN.out, htx.out]; (first | (simp [*]; done) | (simp [*]; omega)))⟩
      · have n2 : (d.kind == 2) = false := by simp [h2]
        have H : Hid (ndOk n D now d = false) := ((if_neg h0).trans (if_neg h1)).trans (if_neg h2)
        clear h0 h1 h2
        go_enter Try.func64, Try.ntmps64
        go_wp2_with fail
        go_ret
        exact ⟨((Below.refl _ _).alloc (Nat.le_refl _) _).alloc (by simp) _, ret_bool H.out.symm⟩
end Go.Proofs.Ytnnhdcohfabenaa
