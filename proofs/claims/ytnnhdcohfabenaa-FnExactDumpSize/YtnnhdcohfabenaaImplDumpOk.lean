/-
  What DumpOk of the program answers.
-/
import Derived.Test.YtnnhdcohfabenaaImplBits
import Derived.Test.YtnnhdcohfabenaaSpecDumpAll
namespace Go.Proofs.Ytnnhdcohfabenaa
open Go.RowKit
set_option linter.unusedVariables false

theorem kidIn_eq (n : Nat) (Z : Nat → Bool) (z : Int) : kidIn n Z z = (!(z == 0) && liveIn n Z z) := by
  unfold kidIn liveIn
  by_cases h : z = 0
  · subst h; simp
  · by_cases h1 : 1 ≤ z
    · simp [h, h1, show 0 ≤ z by omega]
    · simp [h1, show ¬ 0 ≤ z by omega]

set_option maxHeartbeats 1000000 in
theorem liveKids_any (a : Option Addr) (m c : Nat) (K : Nat → Int) (Z : Nat → Bool) (n : Nat) (w : World) (hS : IsInts w a m K) (hK : ∀ i, i < m → In64 (K i)) (hm : m ≤ maxLen) (hn : n ≤ 10) :
    Calls Try.prog 61 #[.slice a m c, .int .u16 (bvv Z n : Nat)] w fun e w' => w' = w ∧ e = .returned (.bool (kidsIn n Z K m)) := by
  unfold maxLen at hm
  go_enter Try.func61, Try.ntmps61
  go_wp2
  go_loopw [9] (fun i wr => ∃ k : Nat, k ≤ m ∧ i = .int .i64 k ∧ wr = w ∧ kidsIn n Z K k = true) (fun i _ => m - (intOf i).toNat)
  case atStart => exact ⟨0, Nat.zero_le _, rfl, rfl, rfl⟩
  case round =>
    obtain ⟨k, hk, rfl, rfl, heq⟩ := hrel
    have HE : Hid (kidsIn n Z K k = true) := heq
    clear heq
    by_cases hlt : k < m
    · obtain ⟨b, off, rfl, hlt2, hc⟩ := hS.at hlt
      have g0 := hc k hlt
      have hlti : (k : Int) < (m : Int) := by omega
      clear hc
      cases hz : (K k == 0) with
      | true =>
        have HX : Hid (kidsIn n Z K m = false) := kidsIn_bad hlt (by rw [kidIn_eq, hz]; rfl)
        go_wp2_with fail
        go_ret
        exact ⟨rfl, ret_bool HX.out.symm⟩
      | false =>
        have HC : Hid (Calls Try.prog 31 #[.int .u16 (bvv Z n : Nat), .int .i64 (K k)] wr fun e w' => w' = wr ∧ e = .returned (.bool (liveIn n Z (K k)))) := has_any Z n (K k) wr hn (hK k hlt)
        have HZ : Hid ((K k == 0) = false) := hz
        go_wp2_with fail
        refine HC.out.mono ?_
        rintro e w' ⟨rfl, rfl⟩
        cases hl : liveIn n Z (K k) with
        | false =>
          have HX : Hid (kidsIn n Z K m = false) := kidsIn_bad hlt (by rw [kidIn_eq, hl]; simp)
          clear hl HC
          go_wp2
          go_ret
          exact ⟨rfl, ret_bool HX.out.symm⟩
        | true =>
          have HX : Hid (kidIn n Z (K k) = true) := by show _ = _; rw [kidIn_eq, hl, HZ.out]; rfl
          clear hl HC
          go_wp2
          go_roundw
          case rel => exact ⟨k + 1, by omega, by go_num, by trivial, kidsIn_succ HE.out HX.out⟩
          case measure => simp [intOf]; omega
    · obtain rfl : k = m := by omega
      go_wp2
      go_ret
      exact ⟨rfl, ret_bool HE.out.symm⟩

set_option maxHeartbeats 2000000 in
theorem itemOk_any (d : Dp) (o : Int) (x : Nd) (lo : Loc) (w : World) (hI : NdIn w x lo) (hf : x.Fits) (hn : d.ln ≤ 10) (ho : 0 ≤ o) :
    Calls Try.prog 32 #[itV o x lo, .int .u16 (bvv d.live d.ln : Nat)] w fun e w' => Below w.heap.size w w' ∧ e = .returned (.bool (nodeIn d o x)) := by
  unfold itV
  have HEND : Hid (∀ (c0 : Array Value) (t0 : TypeId), Below w.heap.size w (w.alloc (.cells c0 t0))) := fun c0 t0 => (Below.refl _ _).alloc (Nat.le_refl _) _
  by_cases k1 : x.kind = 1
  · have c1 : (x.kind == 1) = true := by simp [k1]
    have H : Hid ((fileIs x && decide (0 < o)) = nodeIn d o x) := by show _ = _; unfold nodeIn; rw [if_pos k1]
    clear k1
    by_cases h0 : o = 0
    · have hb0 : (o != 0) = false := by simp [h0]
      have HX : Hid (false = nodeIn d o x) := by show _ = _; rw [← H.out, decide_eq_false (show ¬ 0 < o by omega)]; simp
      clear h0
      go_enter Try.func32, Try.ntmps32
      go_wp2_with fail
      go_ret
      exact ⟨HEND.out _ _, ret_bool HX.out⟩
    · have hb0 : (o != 0) = true := by simp [h0]
      have HX : Hid (fileIs x = nodeIn d o x) := by show _ = _; rw [← H.out, decide_eq_true (show 0 < o by omega)]; simp
      clear h0
      go_enter Try.func32, Try.ntmps32
      go_wp2_with fail
      refine at_world (F := New1 w _ _) (new1 w _ _) ?_
      rintro W ⟨hp, hb, hs⟩
      refine (implFileOk_any x lo W hf).mono ?_
      rintro e w1 ⟨hb1, rfl⟩
      have HB : Hid (Below w.heap.size w w1) := hb.trans (hb1.mono (by omega))
      clear hp hb hb1
      rw [HX.out]
      go_wp2
      go_ret
      exact ⟨HB.out, rfl⟩
  · have c1 : (x.kind == 1) = false := by simp [k1]
    by_cases k2 : x.kind = 2
    · have c2 : (x.kind == 2) = true := by simp [k2]
      have H : Hid ((dirIs x && kidsIn d.ln d.live x.kids x.kn) = nodeIn d o x) := by show _ = _; unfold nodeIn; rw [if_neg k1, if_pos k2]
      clear k1 k2
      go_enter Try.func32, Try.ntmps32
      go_wp2_with fail
      refine at_world (F := New1 w _ _) (new1 w _ _) ?_
      rintro W ⟨hp, hb, hs⟩
      refine (implDirOk_any x lo W (hI.below (Nat.le_refl _) hb) hf).mono ?_
      rintro e w1 ⟨hb1, rfl⟩
      have p4 : w1.cell? ⟨w.heap.size, 4, none⟩ = some (.slice lo.kA x.kn lo.kc) := (hp.below hb1 (by omega)).cell 4
      have HB : Hid (Below w.heap.size w w1) := hb.trans (hb1.mono (by omega))
      clear hp hb hb1
      cases hd : dirIs x with
      | false =>
        have HX : Hid (false = nodeIn d o x) := by show _ = _; rw [← H.out, hd]; rfl
        clear hd
        go_wp2_with fail
        go_ret
        exact ⟨HB.out, ret_bool HX.out⟩
      | true =>
        have HX : Hid (kidsIn d.ln d.live x.kids x.kn = nodeIn d o x) := by show _ = _; rw [← H.out, hd]; rfl
        clear hd
        go_wp2_with fail
        refine (liveKids_any lo.kA x.kn lo.kc x.kids d.live d.ln w1 (hI.2.below (Nat.le_refl _) HB.out) hf.kids hf.kn hn).mono ?_
        rintro e w2 ⟨rfl, rfl⟩
        rw [HX.out]
        clear p4
        go_wp2
        go_ret
        exact ⟨HB.out, rfl⟩
    · have c2 : (x.kind == 2) = false := by simp [k2]
      have HX : Hid (false = nodeIn d o x) := by show _ = _; unfold nodeIn; rw [if_neg k1, if_neg k2]
      clear k1 k2
      go_enter Try.func32, Try.ntmps32
      go_wp2_with fail
      go_ret
      exact ⟨HEND.out _ _, ret_bool HX.out⟩
end Go.Proofs.Ytnnhdcohfabenaa
