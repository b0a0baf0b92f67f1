/-
  What placeOk of the program answers: whether a place is right by itself.
-/
import Derived.Test.YtnnhdcohfabenaaImplParts
namespace Go.Proofs.Ytnnhdcohfabenaa
open Go.RowKit
set_option linter.unusedVariables false

/-- The empty place. -/
def nd0 : Nd := ⟨0, ByteArray.empty, 0, fun _ => ByteArray.empty, 0, fun _ => 0, 0⟩
def loc0 : Loc := ⟨none, 0, none, 0⟩
theorem nd0_fits : nd0.Fits := ⟨⟨by decide, by decide⟩, ⟨by decide, by decide⟩, by unfold nd0 maxLen; simp, fun i hi => by unfold nd0 at hi; simp at hi, by unfold nd0 maxLen; simp, by unfold nd0 maxLen; simp, fun i hi => by unfold nd0 at hi; simp at hi⟩
theorem nd0_in (w : World) : NdIn w nd0 loc0 := ⟨Or.inl rfl, Or.inl rfl⟩

theorem same_free (d : Nd) (h : d.kind = 0) : d.same nd0 = freeOk d := by
  unfold Nd.same freeOk nd0
  rw [h]
  by_cases hn : d.nn = 0
  · by_cases hk : d.kn = 0
    · rw [hn, hk]; simp [eqS, eqZ]
    · simp [hk]
  · simp [hn]

/-- What a file has. -/
def fileIs (d : Nd) : Bool := textOk d.text && decide (d.nn = 0) && decide (d.kn = 0)
/-- What a directory has. -/
def dirIs (d : Nd) : Bool := (d.text.toList == []) && dirNames d.names d.nn && decide (d.kn = d.nn)

theorem fileOk_eq (now : Int) (d : Nd) : fileOk now d = (fileIs d && turnIn d.turn now) := by
  unfold fileOk fileIs turnIn; simp only [Bool.and_assoc]

theorem dirOk_eq (n : Nat) (D : Nat → Nd) (now : Int) (d : Nd) : dirOk n D now d = (dirIs d && kidsOk n D d.kids d.kn && turnIn d.turn now) := by
  unfold dirOk dirIs turnIn
  cases (d.text.toList == []) <;> cases dirNames d.names d.nn <;> cases kidsOk n D d.kids d.kn <;> cases decide (d.kn = d.nn) <;> simp

set_option maxHeartbeats 1000000 in
theorem implFileOk_any (d : Nd) (l : Loc) (w : World) (hf : d.Fits) :
    Calls Try.prog 59 #[ndV d l] w fun e w' => Below w.heap.size w w' ∧ e = .returned (.bool (fileIs d)) := by
  have hkn := hf.kn
  have hnn := hf.nn
  unfold maxLen at hkn hnn
  unfold ndV
  go_enter Try.func59, Try.ntmps59
  go_wp2_with fail
  refine (implTextOk_any d.text _ hf.text).mono ?_
  rintro e w1 ⟨rfl, rfl⟩
  cases htx : textOk d.text with
  | false =>
    have HT : Hid (textOk d.text = false) := htx
    clear htx
    go_wp2_with fail
    go_ret
    exact ⟨(Below.refl _ _).alloc (Nat.le_refl _) _, ret_bool (by unfold fileIs; rw [HT.out]; rfl)⟩
  | true =>
    have HT : Hid (textOk d.text = true) := htx
    clear htx
    go_wp2_with fail
    all_goals
      go_ret
      refine ⟨(Below.refl _ _).alloc (Nat.le_refl _) _, ret_bool ?_⟩
      unfold fileIs
      rw [HT.out]
      by_cases h1 : d.nn = 0 <;> by_cases h2 : d.kn = 0 <;> simp_all

set_option maxHeartbeats 1000000 in
theorem implDirOk_any (d : Nd) (l : Loc) (w : World) (hI : NdIn w d l) (hf : d.Fits) :
    Calls Try.prog 60 #[ndV d l] w fun e w' => Below w.heap.size w w' ∧ e = .returned (.bool (dirIs d)) := by
  have hkn := hf.kn
  have hnn := hf.nn
  unfold maxLen at hkn hnn
  unfold ndV
  cases ht : (d.text.toList == []) with
  | false =>
    have HT : Hid ((d.text.toList == []) = false) := ht
    go_enter Try.func60, Try.ntmps60
    go_wp2_with fail
    go_ret
    exact ⟨(Below.refl _ _).alloc (Nat.le_refl _) _, ret_bool (by unfold dirIs; rw [HT.out]; rfl)⟩
  | true =>
    have HT : Hid ((d.text.toList == []) = true) := ht
    go_enter Try.func60, Try.ntmps60
    go_wp2_with fail
    refine at_world (F := New1 w _ _) (new1 w _ _) ?_
    rintro W ⟨hp, hb, hs⟩
    refine (implNamesOk_any l.nA d.nn l.nc d.names W (hI.1.below (Nat.le_refl _) hb) hf.names hf.nn).mono ?_
    rintro e w1 ⟨⟨q, rfl⟩, rfl⟩
    have p2 : W.cell? ⟨w.heap.size, 2, none⟩ = some (.slice l.nA d.nn l.nc) := hp.cell 2
    have p3 : W.cell? ⟨w.heap.size, 3, none⟩ = some (.slice l.kA d.kn l.kc) := hp.cell 3
    have HB : Hid (Below w.heap.size w W) := hb
    clear hp hb hs ht
    cases hnm : dirNames d.names d.nn with
    | false =>
      have HN : Hid (dirNames d.names d.nn = false) := hnm
      clear hnm
      go_wp2_with fail
      go_ret
      exact ⟨below_drewN HB.out _, ret_bool (by unfold dirIs; rw [HN.out]; simp)⟩
    | true =>
      have HN : Hid (dirNames d.names d.nn = true) := hnm
      clear hnm
      go_wp2_with fail
      all_goals
        go_ret
        refine ⟨below_drewN HB.out _, ret_bool ?_⟩
        unfold dirIs; rw [HN.out, HT.out]
        by_cases h : d.kn = d.nn
        · simp [h]
        · rw [decide_eq_false h]; simp; omega

set_option maxHeartbeats 1000000 in
theorem placeOk_any (a : Option Addr) (n c : Nat) (now : Int) (D : Nat → Nd) (L : Nat → Loc) (d : Nd) (l : Loc) (w : World) (hS : IsNds w a n D L) (hI : NdIn w d l) (hf : d.Fits) (hn : n ≤ maxLen) :
    Calls Try.prog 68 #[trV a n c now, ndV d l] w fun e w' => Below w.heap.size w w' ∧ e = .returned (.bool (ndOk n D now d)) := by
  unfold trV ndV
  by_cases h0 : d.kind = 0
  · have H : Hid (d.same nd0 = ndOk n D now d) := (same_free d h0).trans (if_pos h0).symm
    have b0 : (d.kind == 0) = true := by simp [h0]
    clear h0
    go_enter Try.func68, Try.ntmps68
    go_wp2_with fail
    refine at_world (F := New2 w _ _ _ _) (new2 w _ _ _ _) ?_
    rintro W ⟨hp, hp', hb, hs⟩
    refine (implNodeSame_any d nd0 l loc0 W (hI.below (Nat.le_refl _) hb) (nd0_in _) hf nd0_fits).mono ?_
    rintro e w1 ⟨hb1, rfl⟩
    have HB : Hid (Below w.heap.size w w1) := hb.trans (hb1.mono (by omega))
    clear hp hp' hb hs hb1
    rw [H.out]
    go_wp2
    go_ret
    exact ⟨HB.out, rfl⟩
  · have n0 : (d.kind == 0) = false := by simp [h0]
    by_cases h1 : d.kind = 1
    · have H : Hid (ndOk n D now d = (fileIs d && turnIn d.turn now)) := ((if_neg h0).trans (if_pos h1)).trans (fileOk_eq now d)
      have b1 : (d.kind == 1) = true := by simp [h1]
      clear h0 h1
      go_enter Try.func68, Try.ntmps68
      go_wp2_with fail
      refine at_world (F := New2 w _ _ _ _) (new2 w _ _ _ _) ?_
      rintro W ⟨hp, hp', hb, hs⟩
      refine (implFileOk_any d l W hf).mono ?_
      rintro e w1 ⟨hb1, rfl⟩
      have p1 : w1.cell? ⟨w.heap.size, 1, none⟩ = some (.int .i64 now) := (hp.below hb1 (by omega)).cell 1
      have d4 : w1.cell? ⟨w.heap.size + 1, 4, none⟩ = some (.int .i64 d.turn) := (hp'.below hb1 (by omega)).cell 4
      have HB : Hid (Below w.heap.size w w1) := hb.trans (hb1.mono (by omega))
      clear hp hp' hb hs hb1
      cases hq : fileIs d with
      | false =>
        have HQ : Hid (false = ndOk n D now d) := by show _ = _; rw [H.out, hq]; rfl
        clear hq
        go_wp2
        go_ret
        exact ⟨HB.out, ret_bool HQ.out⟩
      | true =>
        have HQ : Hid (turnIn d.turn now = ndOk n D now d) := by show _ = _; rw [H.out, hq]; rfl
        clear hq
        go_wp2_with (go_at_call 29; refine (turnOk_any _ _ _).mono ?_; rintro e w' ⟨rfl, rfl⟩)
        go_ret
        exact ⟨HB.out, ret_bool HQ.out⟩
    · have n1 : (d.kind == 1) = false := by simp [h1]
      by_cases h2 : d.kind = 2
      · have H : Hid (ndOk n D now d = (dirIs d && kidsOk n D d.kids d.kn && turnIn d.turn now)) := ((if_neg h0).trans ((if_neg h1).trans (if_pos h2))).trans (dirOk_eq n D now d)
        have b2 : (d.kind == 2) = true := by simp [h2]
        clear h0 h1 h2
        go_enter Try.func68, Try.ntmps68
        go_wp2_with fail
        refine at_world (F := New2 w _ _ _ _) (new2 w _ _ _ _) ?_
        rintro W ⟨hp, hp', hb, hs⟩
        refine (implDirOk_any d l W (hI.below (Nat.le_refl _) hb) hf).mono ?_
        rintro e w1 ⟨hb1, rfl⟩
        have hp1 := hp.below hb1 (by omega)
        have hp1' := hp'.below hb1 (by omega)
        have p0 : w1.cell? ⟨w.heap.size, 0, none⟩ = some (.slice a n c) := hp1.cell 0
        have p1 : w1.cell? ⟨w.heap.size, 1, none⟩ = some (.int .i64 now) := hp1.cell 1
        have d3 : w1.cell? ⟨w.heap.size + 1, 3, none⟩ = some (.slice l.kA d.kn l.kc) := hp1'.cell 3
        have hwl := hp1'.lt
        have HB : Hid (Below w.heap.size w w1 ∧ Blk w1 w.heap.size _ _ ∧ Blk w1 (w.heap.size + 1) _ _) := ⟨hb.trans (hb1.mono (by omega)), hp1, hp1'⟩
        clear hp hp' hb hs hb1 hp1 hp1'
        cases hq : dirIs d with
        | false =>
          have HQ : Hid (false = ndOk n D now d) := by show _ = _; rw [H.out, hq]; rfl
          clear hq
          go_wp2
          go_ret
          exact ⟨HB.out.1, ret_bool HQ.out⟩
        | true =>
          have HQ1 : Hid (ndOk n D now d = (kidsOk n D d.kids d.kn && turnIn d.turn now)) := by show _ = _; rw [H.out, hq]; rfl
          clear hq
          go_wp2_with fail
          refine (implKidsOk_any a n c now D L l.kA d.kn l.kc d.kids w1 (hS.below (Nat.le_refl _) HB.out.1) (hI.2.below (Nat.le_refl _) HB.out.1) hf.kn hf.kids hn).mono ?_
          rintro e w2 ⟨hb2, rfl⟩
          have p1' : w2.cell? ⟨w.heap.size, 1, none⟩ = some (.int .i64 now) := (HB.out.2.1.below hb2 (by omega)).cell 1
          have d4 : w2.cell? ⟨w.heap.size + 1, 4, none⟩ = some (.int .i64 d.turn) := (HB.out.2.2.below hb2 (by omega)).cell 4
          have HB2 : Hid (Below w.heap.size w w2) := HB.out.1.trans (hb2.mono (by omega))
          clear hb2 p0 p1 d3
          cases hq : kidsOk n D d.kids d.kn with
          | false =>
            have HQ : Hid (false = ndOk n D now d) := by show _ = _; rw [HQ1.out, hq]; rfl
            clear hq
            go_wp2
            go_ret
            exact ⟨HB2.out, ret_bool HQ.out⟩
          | true =>
            have HQ : Hid (turnIn d.turn now = ndOk n D now d) := by show _ = _; rw [HQ1.out, hq]; rfl
            clear hq
            go_wp2_with (go_at_call 29; refine (turnOk_any _ _ _).mono ?_; rintro e w' ⟨rfl, rfl⟩)
            go_ret
            exact ⟨HB2.out, ret_bool HQ.out⟩
      · have n2 : (d.kind == 2) = false := by simp [h2]
        have H : Hid (false = ndOk n D now d) := ((if_neg h0).trans ((if_neg h1).trans (if_neg h2))).symm
        clear h0 h1 h2
        go_enter Try.func68, Try.ntmps68
        go_wp2_with fail
        go_ret
        exact ⟨((Below.refl _ _).alloc (Nat.le_refl _) _).alloc (by simp) _, ret_bool H.out⟩
end Go.Proofs.Ytnnhdcohfabenaa
