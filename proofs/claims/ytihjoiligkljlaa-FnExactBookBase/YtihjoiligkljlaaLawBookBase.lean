/-
  FnExactBookBase, walked.
-/
import Derived.Test.YtihjoiligkljlaaSpecBook
import Derived.Test.YtihjoiligkljlaaImplBase
import Derived.Test.YtihjoiligkljlaaEnts
namespace Go.Proofs.Ytihjoiligkljlaa
open Go.RowKit
set_option linter.unusedVariables false

set_option maxHeartbeats 2000000 in
theorem lawBookBase (a : Option Addr) (n c : Nat) (E : Nat → En) (lev : Int) (w : World) (hS : IsEns w a n E) (hn : n ≤ maxLen) (hlev : In64 lev) :
    Calls Try.prog 4 #[.slice a n c, .int .i64 lev] w fun e w' => e = .returned (.bool true) ∧ Below w.heap.size w w' := by
  go_enter Try.func4, Try.ntmps4
  go_wp2_with fail
  refine (szEntryS_any a n c _ w hn (by omega) (by omega)).mono ?_
  rintro e w1 ⟨hw1, r, rfl, hr1, hr2⟩
  subst hw1
  by_cases hr3 : r < 0
  · have hr3' : decide (r < 0) = true := by simp; omega
    clear hr2
    go_wp2
    go_ret
    exact ⟨rfl, Below.refl _ _⟩
  · have hr3' : decide (r < 0) = false := by simp; omega
    have hsz : n ≤ 1048576 := by have := hr2 (by omega); omega
    clear hr2
    have HT : Hid (∀ W, Below w.heap.size w W → Calls Try.prog 9 #[.slice a n c] W fun e w' => ∃ b, e = .returned (.slice (some ⟨b, 0, none⟩) n n) ∧ Below w.heap.size w w' ∧ Below W.heap.size W w' ∧ IsEns w' (some ⟨b, 0, none⟩) n E) := fun W hW =>
      (toEntryS_any a n c E W (hS.below (Nat.le_refl _) hW) hsz).mono fun e w' ⟨he, hb, ho⟩ => ⟨_, he, hW.trans (hb.mono hW.size), hb, ho.lies⟩
    go_wp2_with fail
    refine (HT.out w (Below.refl _ _)).mono ?_
    rintro e w2 ⟨b2, rfl, hB2, _, hI2⟩
    go_wp2_with fail
    refine (specBookBase_any _ n n E lev w2 hI2 hn).mono ?_
    rintro e w3 ⟨hb3, rfl⟩
    have hB3 := hB2.trans (hb3.mono hB2.size)
    go_wp2_with fail
    refine (HT.out _ hB3).mono ?_
    rintro e w4 ⟨b4, rfl, hB4, _, hI4⟩
    go_wp2_with fail
    refine (implBookBase_any _ n n E lev w4 hI4 hn).mono ?_
    rintro e w5 ⟨hb5, rfl⟩
    have hB5 : Below w.heap.size w w5 := hB4.trans (hb5.mono hB4.size)
    have hI5 := hI4.below (Nat.le_refl _) hb5
    have hne : ((bookBase n E lev) != (bookBase n E lev)) = false := by simp
    go_wp2_with fail
    refine (HT.out _ hB5).mono ?_
    rintro e w6 ⟨b6, rfl, hB6, hb6, hI6⟩
    go_wp2_with fail
    refine (eqEntryS_any _ _ n n n n E E w6 (hI5.below (Nat.le_refl _) hb6) hI6 hn hn).mono ?_
    rintro e w7 ⟨hb7, rfl⟩
    rw [eqEs_self n E E (fun _ _ => rfl)]
    have HB : Hid (Below w.heap.size w w7) := hB6.trans (hb7.mono hB6.size)
    clear hB6 hb7 hb6 hB5 hb5 hB4 hB3 hb3 hB2 hI2 hI4 hI5 hI6 HT
    go_wp2
    go_ret
    exact ⟨rfl, HB.out⟩
end Go.Proofs.Ytihjoiligkljlaa
