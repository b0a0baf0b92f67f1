/-
  What l2Kids and l2Node of the specification answer.
-/
import Derived.Test.YtnnhdcohfabenaaSpecTree
import Derived.Test.YtnnhdcohfabenaaNodesDef
namespace Go.Proofs.Ytnnhdcohfabenaa
open Go.RowKit
set_option linter.unusedVariables false

/-- A place in a directory leads to one that is there and is not free. -/
def kidOk (n : Nat) (D : Nat → Nd) (z : Int) : Bool := decide (1 ≤ z) && decide (z < n) && (D z.toNat).kind != 0
/-- The first k places in a directory. -/
def kidsOk (n : Nat) (D : Nat → Nd) (Z : Nat → Int) (k : Nat) : Bool := (List.range k).all fun i => kidOk n D (Z i)

theorem kidsOk_succ {n : Nat} {D : Nat → Nd} {Z : Nat → Int} {k : Nat} (h : kidsOk n D Z k = true) (hk : kidOk n D (Z k) = true) : kidsOk n D Z (k + 1) = true := by
  unfold kidsOk at *
  rw [List.range_succ, List.all_append, h]; simpa using hk

theorem kidsOk_bad {n : Nat} {D : Nat → Nd} {Z : Nat → Int} {k m : Nat} (hk : k < m) (h : kidOk n D (Z k) = false) : kidsOk n D Z m = false := by
  rw [Bool.eq_false_iff]
  intro ha
  have := List.all_eq_true.1 ha k (by simpa using hk)
  simp [h] at this

/-- What is known within l2Kids. -/
structure KidsIn (w : World) (a : Option Addr) (n c : Nat) (now : Int) (d : Nd) (l : Loc) (W : World) : Prop where
  t : Blk W w.heap.size #[.slice a n c, .int .i64 now] 42
  d : Blk W (w.heap.size + 1) #[.int .i64 d.kind, .string d.text, .slice l.nA d.nn l.nc, .slice l.kA d.kn l.kc, .int .i64 d.turn] 56
  bel : Below w.heap.size w W

theorem KidsIn.drew {w : World} {a : Option Addr} {n c : Nat} {now : Int} {d : Nd} {l : Loc} {W : World} (h : KidsIn w a n c now d l W) (q : Nat) : KidsIn w a n c now d l (W.drewN q) := ⟨h.t, h.d, below_drewN h.bel q⟩

set_option maxHeartbeats 1000000 in
theorem l2Kids_any (a : Option Addr) (n c : Nat) (now : Int) (D : Nat → Nd) (L : Nat → Loc) (d : Nd) (l : Loc) (w : World) (hS : IsNds w a n D L) (hI : NdIn w d l) (hf : d.Fits) (hn : n ≤ maxLen) :
    Calls Try.prog 87 #[trV a n c now, ndV d l] w fun e w' => Below w.heap.size w w' ∧ e = .returned (.bool (kidsOk n D d.kids d.kn && decide (d.kn = d.nn))) := by
  have hkn := hf.kn
  have hnn := hf.nn
  unfold maxLen at hkn hnn hn
  unfold trV ndV
  go_enter Try.func87, Try.ntmps87
  go_wp2
  go_loopw [5] (fun i wr => ∃ k : Nat, k ≤ d.kn ∧ i = .int .i64 k ∧ KidsIn w a n c now d l wr ∧ kidsOk n D d.kids k = true) (fun i _ => d.kn - (intOf i).toNat)
  case atStart =>
    have h := new2 w #[.slice a n c, .int .i64 now] 42 #[.int .i64 d.kind, .string d.text, .slice l.nA d.nn l.nc, .slice l.kA d.kn l.kc, .int .i64 d.turn] 56
    exact ⟨0, Nat.zero_le _, rfl, ⟨h.b0, h.b1, h.bel⟩, rfl⟩
  case round =>
    obtain ⟨k, hk, rfl, hin, heq⟩ := hrel
    obtain ⟨ht, hd, hbel⟩ := hin
    have t0 : wr.cell? ⟨w.heap.size, 0, none⟩ = some (.slice a n c) := ht.cell 0
    have d2 : wr.cell? ⟨w.heap.size + 1, 2, none⟩ = some (.slice l.nA d.nn l.nc) := hd.cell 2
    have d3 : wr.cell? ⟨w.heap.size + 1, 3, none⟩ = some (.slice l.kA d.kn l.kc) := hd.cell 3
    have hSr := hS.below (Nat.le_refl _) hbel
    have hIr := hI.2.below (Nat.le_refl _) hbel
    have HE : Hid (kidsOk n D d.kids k = true ∧ KidsIn w a n c now d l wr) := ⟨heq, ht, hd, hbel⟩
    clear heq ht hd hbel
    by_cases hlt : k < d.kn
    · obtain ⟨b, off, hka, hlt2, hc⟩ := hIr.at hlt
      rw [hka] at d3
      have h1 := hc k hlt
      have hlti : (k : Int) < (d.kn : Int) := by omega
      clear hc
      have hz := hf.kids k hlt
      unfold In64 at hz
      have bad : kidOk n D (d.kids k) = false → Hid (kidsOk n D d.kids d.kn = false) := fun h => kidsOk_bad hlt h
      by_cases hz1 : d.kids k < 1
      · have H : Hid (kidsOk n D d.kids d.kn = false) := bad (by unfold kidOk; rw [decide_eq_false (show ¬ 1 ≤ d.kids k by omega)]; rfl)
        clear bad
        go_wp2_with fail
        go_ret
        exact ⟨HE.out.2.bel, ret_bool (by rw [H.out]; rfl)⟩
      · by_cases hz2 : (n : Int) ≤ d.kids k
        · have H : Hid (kidsOk n D d.kids d.kn = false) := bad (by unfold kidOk; rw [decide_eq_false (show ¬ d.kids k < n by omega)]; simp)
          clear bad
          go_wp2_with fail
          go_ret
          exact ⟨HE.out.2.bel, ret_bool (by rw [H.out]; rfl)⟩
        · obtain ⟨j, hj⟩ : ∃ j : Nat, d.kids k = j := ⟨(d.kids k).toNat, by omega⟩
          have hjn : j < n := by omega
          obtain ⟨b', off', ha, hlt2', hc'⟩ := hSr.at hjn
          have g0 := (hc' j hjn).1
          have hko : kidOk n D (d.kids k) = ((D j).kind != 0) := by
            unfold kidOk; rw [decide_eq_true (show 1 ≤ d.kids k by omega), decide_eq_true (show d.kids k < n by omega), hj]; simp
          clear hc' hSr
          rw [ha] at t0
          rw [hj] at h1 hz1 hz2 hz
          cases hkd : ((D j).kind == 0) with
          | true =>
            have H : Hid (kidsOk n D d.kids d.kn = false) := bad (by rw [hko]; simp only [bne, hkd]; rfl)
            clear bad hko
            go_wp2_with fail
            go_ret
            exact ⟨HE.out.2.bel, ret_bool (by rw [H.out]; rfl)⟩
          | false =>
            have H : Hid (kidOk n D (d.kids k) = true) := hko.trans (by simp only [bne, hkd]; rfl)
            clear bad hko
            go_wp2_with fail
            go_roundw
            case rel => exact ⟨k + 1, by omega, by go_num, HE.out.2, kidsOk_succ HE.out.1 H.out⟩
            case measure => simp [intOf]; omega
    · have hke : k = d.kn := by omega
      have HK : Hid (kidsOk n D d.kids d.kn = true) := by have := HE.out.1; rw [hke] at this; exact this
      clear hke hSr hIr
      go_wp2
      go_ret
      refine ⟨HE.out.2.bel, ret_bool ?_⟩
      rw [HK.out, Bool.true_and]
      by_cases h : d.kn = d.nn
      · simp [h]
      · rw [decide_eq_false h]
        simp
        omega
end Go.Proofs.Ytnnhdcohfabenaa
