/-
  What the small parts of TreeOk of the program answer: turns, texts, names, places.
-/
import Derived.Test.YtnnhdcohfabenaaImplSame
import Derived.Test.YtnnhdcohfabenaaName
import Derived.Test.YtnnhdcohfabenaaSpecRefs
namespace Go.Proofs.Ytnnhdcohfabenaa
open Go.RowKit
set_option linter.unusedVariables false

theorem less_total : ∀ a b : List UInt8, (!Op.bytesLess a b) = (Op.bytesLess b a || b == a)
  | [], [] => rfl
  | [], b :: y => by simp [Op.bytesLess]
  | a :: x, [] => by simp [Op.bytesLess]
  | a :: x, b :: y => by
    have ih := less_total x y
    simp only [Op.bytesLess]
    have e1 : (b :: y == a :: x) = (b == a && y == x) := by simp [List.cons_beq_cons]
    rw [e1]
    rcases Nat.lt_trichotomy a.toNat b.toNat with h | h | h
    · have h1 : a < b := UInt8.lt_iff_toNat_lt.2 h
      have h2 : ¬ b < a := fun hh => by have := UInt8.lt_iff_toNat_lt.1 hh; omega
      have h3 : (b == a) = false := by simp; intro hh; subst hh; omega
      rw [decide_eq_true h1, decide_eq_false h2, h3]; rfl
    · have h1 : a = b := UInt8.toNat_inj.1 h
      subst h1
      have h2 : ¬ a < a := fun hh => by have := UInt8.lt_iff_toNat_lt.1 hh; omega
      rw [decide_eq_false h2]
      simpa using ih
    · have h1 : b < a := UInt8.lt_iff_toNat_lt.2 h
      have h2 : ¬ a < b := fun hh => by have := UInt8.lt_iff_toNat_lt.1 hh; omega
      have h3 : (a == b) = false := by simp; intro hh; subst hh; omega
      rw [decide_eq_true h1, decide_eq_false h2, h3]; rfl

/-- A turn up to a last one. -/
def turnIn (z y : Int) : Bool := decide (1 ≤ z) && decide (z ≤ y)

theorem turnOk_any (z y : Int) (w : World) : Calls Try.prog 29 #[.int .i64 z, .int .i64 y] w fun e w' => e = .returned (.bool (turnIn z y)) ∧ w' = w := by
  by_cases h : 1 ≤ z
  · have hb : decide (1 ≤ z) = true := by simp; omega
    have HE : Hid (decide (z ≤ y) = turnIn z y) := by show _ = _; unfold turnIn; rw [hb]; rfl
    go_enter Try.func29, Try.ntmps29
    go_wp2
    go_ret
    exact ⟨ret_bool HE.out, rfl⟩
  · have hb : decide (1 ≤ z) = false := by simp; omega
    have HE : Hid (false = turnIn z y) := by show _ = _; unfold turnIn; rw [hb]; rfl
    go_enter Try.func29, Try.ntmps29
    go_wp2
    go_ret
    exact ⟨ret_bool HE.out, rfl⟩

theorem implTextOk_any (s : ByteArray) (w : World) (hs : s.size ≤ maxLen) :
    Calls Try.prog 83 #[.string s] w fun e w' => e = .returned (.bool (textOk s)) ∧ w' = w := by
  have hs' := hs
  unfold maxLen at hs'
  by_cases h : s.size ≤ 6
  · have hb : decide ((s.size : Int) ≤ 6) = true := by simp; omega
    have HE : Hid (s.data.toList.all letter = textOk s) := by show _ = _; unfold textOk; rw [decide_eq_true h, Bool.and_true]
    go_enter Try.func83, Try.ntmps83
    go_wp2_with (go_at_call 98; refine (lettersAlone_any _ _ hs).mono ?_; rintro e w' ⟨rfl, rfl⟩)
    go_ret
    exact ⟨ret_bool HE.out, rfl⟩
  · have hb : decide ((s.size : Int) ≤ 6) = false := by simp; omega
    have HE : Hid (false = textOk s) := by show _ = _; unfold textOk; rw [decide_eq_false h, Bool.and_false]
    go_enter Try.func83, Try.ntmps83
    go_wp2
    go_ret
    exact ⟨ret_bool HE.out, rfl⟩

set_option maxHeartbeats 1000000 in
theorem implNamesOk_any (a : Option Addr) (n c : Nat) (S : Nat → ByteArray) (w : World) (hS : IsStrs w a n S) (hm : Small n S) (hn : n ≤ maxLen) :
    Calls Try.prog 84 #[.slice a n c] w fun e w' => (∃ q, w' = w.drewN q) ∧ e = .returned (.bool (dirNames S n)) := by
  unfold maxLen at hn
  go_enter Try.func84, Try.ntmps84
  go_wp2
  go_loopw [7] (fun i wr => ∃ k q : Nat, k ≤ n ∧ i = .int .i64 k ∧ wr = w.drewN q ∧ dirNames S k = true) (fun i _ => n - (intOf i).toNat)
  case atStart => exact ⟨0, 0, Nat.zero_le _, rfl, rfl, rfl⟩
  case round =>
    obtain ⟨k, q, hk, rfl, hwr, heq⟩ := hrel
    have HE : Hid (dirNames S k = true ∧ wr = w.drewN q) := ⟨heq, hwr⟩
    have hSr : IsStrs wr a n S := by rw [hwr]; exact hS.below (Nat.le_refl _) (below_drewN (Below.refl _ _) _)
    clear heq hwr
    by_cases hlt : k < n
    · obtain ⟨b, off, rfl, hlt2, hc⟩ := hSr.at hlt
      have h1 := hc k hlt
      have hlti : (k : Int) < (n : Int) := by omega
      have hmk := hm k hlt
      have hcall : Hid (Calls Try.prog 99 #[.string (S k)] wr fun e w' => e = .returned (.bool (nameOk (S k).data.toList)) ∧ w' = wr) := implNameOk_any (S k) _ hmk
      cases hnm : nameOk (S k).data.toList with
      | false =>
        rw [hnm] at hcall
        have HN : Hid (nameOk (S k).data.toList = false) := hnm
        clear hc hnm
        go_wp2_with (go_at_call 99; refine hcall.out.mono ?_; rintro e w' ⟨rfl, rfl⟩)
        go_ret
        exact ⟨⟨q, HE.out.2⟩, ret_bool (dirNames_bad S k n hlt (by rw [HN.out]; rfl))⟩
      | true =>
        rw [hnm] at hcall
        have HN : Hid (nameOk (S k).data.toList = true) := hnm
        clear hnm
        by_cases hk0 : k = 0
        · subst hk0
          clear hc
          rw [Nat.add_zero] at h1
          go_wp2_with (go_at_call 99; refine hcall.out.mono ?_; rintro e w' ⟨rfl, rfl⟩)
          go_roundw
          case rel => exact ⟨1, q, by omega, by go_num, HE.out.2, dirNames_one S HN.out⟩
          case measure => simp [intOf]; omega
        · have h2 : wr.cell? ⟨b, off + (k - 1), none⟩ = some (.string (S (k - 1))) := hc (k - 1) (by omega)
          have hk0' : decide (0 < k) = true := by simp; omega
          have hk1 : ((k - 1 : Nat) : Int) < (n : Int) := by omega
          have hwr : IntKind.i64.wrap ((k : Int) - 1) = ((k - 1 : Nat) : Int) := by rw [IntKind.wrap_i64]; omega
          clear hc
          cases hle : lessEq (S k) (S (k - 1)) with
          | true =>
            have hle' : (!Op.bytesLess (S (k - 1)).toList (S k).toList) = true := (less_total _ _).trans hle
            have HL : Hid (lessEq (S k) (S (k - 1)) = true) := hle
            clear hle
            go_wp2_with (go_at_call 99; refine hcall.out.mono ?_; rintro e w' ⟨rfl, rfl⟩)
            go_ret
            exact ⟨⟨q, HE.out.2⟩, ret_bool (dirNames_bad S k n hlt (by rw [HN.out, HL.out]; simp; omega))⟩
          | false =>
            have hle' : (!Op.bytesLess (S (k - 1)).toList (S k).toList) = false := (less_total _ _).trans hle
            have HL : Hid (lessEq (S k) (S (k - 1)) = false) := hle
            clear hle
            go_wp2_with (go_at_call 99; refine hcall.out.mono ?_; rintro e w' ⟨rfl, rfl⟩)
            go_roundw
            case rel => exact ⟨k + 1, q, by omega, by go_num, HE.out.2, dirNames_succ S k HE.out.1 (by rw [HN.out, HL.out]; simp)⟩
            case measure => simp [intOf]; omega
    · have hkn : k = n := by omega
      have HK : Hid (k = n) := hkn
      clear hkn
      go_wp2
      go_ret
      exact ⟨⟨q, HE.out.2⟩, ret_bool (by rw [← HK.out, HE.out.1])⟩

set_option maxHeartbeats 1000000 in
theorem implKidsOk_any (a : Option Addr) (n c : Nat) (now : Int) (D : Nat → Nd) (L : Nat → Loc) (kA : Option Addr) (kn kc : Nat) (Z : Nat → Int) (w : World) (hS : IsNds w a n D L) (hI : IsInts w kA kn Z) (hkn : kn ≤ maxLen) (hZ : ∀ i, i < kn → In64 (Z i)) (hn : n ≤ maxLen) :
    Calls Try.prog 90 #[trV a n c now, .slice kA kn kc] w fun e w' => Below w.heap.size w w' ∧ e = .returned (.bool (kidsOk n D Z kn)) := by
  unfold maxLen at hkn hn
  unfold trV
  go_enter Try.func90, Try.ntmps90
  go_wp2
  go_loopw [9] (fun i wr => ∃ k : Nat, k ≤ kn ∧ i = .int .i64 k ∧ RefsIn w a n c now wr ∧ kidsOk n D Z k = true) (fun i _ => kn - (intOf i).toNat)
  case atStart => exact ⟨0, Nat.zero_le _, rfl, ⟨(new1 w _ _).b0, (new1 w _ _).bel⟩, rfl⟩
  case round =>
    obtain ⟨k, hk, rfl, hin, heq⟩ := hrel
    have t0 : wr.cell? ⟨w.heap.size, 0, none⟩ = some (.slice a n c) := hin.t.cell 0
    have hSr := hS.below (Nat.le_refl _) hin.bel
    have hIr := hI.below (Nat.le_refl _) hin.bel
    have HE : Hid (kidsOk n D Z k = true ∧ RefsIn w a n c now wr) := ⟨heq, hin⟩
    clear heq hin
    by_cases hlt : k < kn
    · obtain ⟨b, off, rfl, hlt2, hc⟩ := hIr.at hlt
      have h1 := hc k hlt
      have hlti : (k : Int) < (kn : Int) := by omega
      clear hc
      have hz := hZ k hlt
      unfold In64 at hz
      have bad : kidOk n D (Z k) = false → Hid (kidsOk n D Z kn = false) := fun h => kidsOk_bad hlt h
      by_cases hz1 : Z k < 1
      · have H : Hid (kidsOk n D Z kn = false) := bad (by unfold kidOk; rw [decide_eq_false (show ¬ 1 ≤ Z k by omega)]; rfl)
        clear bad
        go_wp2_with fail
        go_ret
        exact ⟨HE.out.2.bel, ret_bool (by rw [H.out])⟩
      · by_cases hz2 : (n : Int) ≤ Z k
        · have H : Hid (kidsOk n D Z kn = false) := bad (by unfold kidOk; rw [decide_eq_false (show ¬ Z k < n by omega)]; simp)
          clear bad
          go_wp2_with fail
          go_ret
          exact ⟨HE.out.2.bel, ret_bool (by rw [H.out])⟩
        · obtain ⟨j, hj⟩ : ∃ j : Nat, Z k = j := ⟨(Z k).toNat, by omega⟩
          have hjn : j < n := by omega
          obtain ⟨b', off', ha, hlt2', hc'⟩ := hSr.at hjn
          have g0 := (hc' j hjn).1
          have hko : kidOk n D (Z k) = ((D j).kind != 0) := by
            unfold kidOk; rw [decide_eq_true (show 1 ≤ Z k by omega), decide_eq_true (show Z k < n by omega), hj]; simp
          clear hc' hSr
          rw [ha] at t0
          rw [hj] at h1 hz1 hz2 hz
          cases hkd : ((D j).kind == 0) with
          | true =>
            have H : Hid (kidsOk n D Z kn = false) := bad (by rw [hko]; simp only [bne, hkd]; rfl)
            clear bad hko
            go_wp2_with fail
            go_ret
            exact ⟨HE.out.2.bel, ret_bool (by rw [H.out])⟩
          | false =>
            have H : Hid (kidOk n D (Z k) = true) := hko.trans (by simp only [bne, hkd]; rfl)
            clear bad hko
            go_wp2_with fail
            go_roundw
            case rel => exact ⟨k + 1, by omega, by go_num, HE.out.2, kidsOk_succ HE.out.1 H.out⟩
            case measure => simp [intOf]; omega
    · have hke : k = kn := by omega
      have HK : Hid (kidsOk n D Z kn = true) := by have := HE.out.1; rw [hke] at this; exact this
      clear hke hSr hIr
      go_wp2
      go_ret
      exact ⟨HE.out.2.bel, ret_bool (by rw [HK.out])⟩
end Go.Proofs.Ytnnhdcohfabenaa
