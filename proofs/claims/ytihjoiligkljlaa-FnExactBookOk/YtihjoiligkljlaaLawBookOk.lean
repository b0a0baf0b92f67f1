/-
  FnExactBookOk, walked.
-/
import Derived.Test.YtihjoiligkljlaaSpecBook
import Derived.Test.YtihjoiligkljlaaImplBook
import Derived.Test.YtihjoiligkljlaaEnts
namespace Go.Proofs.Ytihjoiligkljlaa
open Go.RowKit
set_option linter.unusedVariables false

set_option maxHeartbeats 2000000 in
theorem lawBookOk (a : Option Addr) (n c : Nat) (E : Nat → En) (w : World) (hS : IsEns w a n E) (hn : n ≤ maxLen) :
    Calls Try.prog 3 #[.slice a n c] w fun e w' => e = .returned (.bool true) ∧ Below w.heap.size w w' := by
  go_enter Try.func3, Try.ntmps3
  go_wp2_with fail
  refine (szEntryS_any a n c _ w hn (by omega) (by omega)).mono ?_
  rintro e w1 ⟨hw1, r, rfl, hr1, hr2⟩
  subst hw1
  by_cases hr3 : r < 0
  · have hr3' : decide (r < 0) = true := by simp; omega
    clear hr2
    go_wp2
    go_ret
    exact ⟨rfl, Below.refl _ _⟩
  · have hr3' : decide (r < 0) = false := by simp; omega
    have hsz : n ≤ 1048576 := by have := hr2 (by omega); omega
    clear hr2
    have HT : Hid (∀ W, Below w.heap.size w W → Calls Try.prog 9 #[.slice a n c] W fun e w' => ∃ b, e = .returned (.slice (some ⟨b, 0, none⟩) n n) ∧ Below w.heap.size w w' ∧ Below W.heap.size W w' ∧ IsEns w' (some ⟨b, 0, none⟩) n E) := fun W hW =>
      (toEntryS_any a n c E W (hS.below (Nat.le_refl _) hW) hsz).mono fun e w' ⟨he, hb, ho⟩ => ⟨_, he, hW.trans (hb.mono hW.size), hb, ho.lies⟩
    go_wp2_with fail
    refine (HT.out w (Below.refl _ _)).mono ?_
    rintro e w2 ⟨b2, rfl, hB2, _, hI2⟩
    go_wp2_with fail
    refine (specBookOk_any _ n n E w2 hI2 hn).mono ?_
    rintro e w3 ⟨⟨q3, rfl⟩, rfl⟩
    have hB3 := below_drewN hB2 q3
    go_wp2_with fail
    refine (HT.out _ hB3).mono ?_
    rintro e w4 ⟨b4, rfl, hB4, _, hI4⟩
    go_wp2_with fail
    refine (implBookOk_any _ n n E w4 hI4 hn).mono ?_
    rintro e w5 ⟨hb5, rfl⟩
    have hB5 : Below w.heap.size w w5 := hB4.trans (hb5.mono hB4.size)
    have hI5 := hI4.below (Nat.le_refl _) hb5
    have hne : ((bookTo E n) != (bookTo E n)) = false := by simp
    go_wp2_with fail
    refine (HT.out _ hB5).mono ?_
    rintro e w6 ⟨b6, rfl, hB6, hb6, hI6⟩
    go_wp2_with fail
    refine (eqEntryS_any _ _ n n n n E E w6 (hI5.below (Nat.le_refl _) hb6) hI6 hn hn).mono ?_
    rintro e w7 ⟨hb7, rfl⟩
    rw [eqEs_self n E E (fun _ _ => rfl)]
    have HB : Hid (Below w.heap.size w w7) := hB6.trans (hb7.mono hB6.size)
    clear hB6 hb7 hb6 hB5 hb5 hB4 hB3 hB2 hI2 hI4 hI5 hI6 HT
    go_wp2
    go_ret
    exact ⟨rfl, HB.out⟩
end Go.Proofs.Ytihjoiligkljlaa
