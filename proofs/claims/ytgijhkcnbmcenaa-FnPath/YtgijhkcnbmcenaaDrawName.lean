/-
  What the draw of a name gives: some text of at most five letters; nothing that was there turns.
-/
import Derived.Test.YtgijhkcnbmcenaaDraw1
namespace Go.Proofs.Ytgijhkcnbmcenaa
open Go.RowKit
set_option linter.unusedVariables false

def texts8 : List ByteArray := [⟨#[97]⟩, ⟨#[104, 111, 109, 101]⟩, ⟨#[]⟩, ⟨#[97, 98, 99, 100]⟩, ⟨#[97, 98, 99, 100, 101]⟩, ⟨#[65]⟩, ⟨#[97, 47, 98]⟩, ⟨#[120, 49]⟩]

set_option maxHeartbeats 400000 in
theorem drawNameOk_any (w : World) (a : Option Addr) (len cap : Nat) (zs : Nat → Int) (hc : IsCode w a len zs) (hlen : len ≤ maxLen) (hcap : len ≤ cap) :
    Calls Try.prog 17 #[.slice a len cap] w fun e w' => ∃ s : ByteArray, e = .returned (.string s) ∧ s.size ≤ 5 ∧ Below w.heap.size w w' := by
  go_enter Try.func17, Try.ntmps17
  go_wp2_with fail
  refine (l11Open_any w a len cap zs hlen hcap hc).mono ?_
  rintro e w1 ⟨rfl, hb1, len', hR⟩
  have HL : Hid (w.heap.size < w1.heap.size) := hR.lt
  have H8 : Hid (∀ i, i < 8 → (w1.alloc (.cells #[.string ⟨#[97]⟩, .string ⟨#[104, 111, 109, 101]⟩, .string ⟨#[]⟩, .string ⟨#[97, 98, 99, 100]⟩, .string ⟨#[97, 98, 99, 100, 101]⟩, .string ⟨#[65]⟩, .string ⟨#[97, 47, 98]⟩, .string ⟨#[120, 49]⟩] 9)).cell? ⟨w1.heap.size, 0 + i, none⟩ = some (.string (texts8.getD i ByteArray.empty))) := new_strs w1 texts8
  have HB1 : Hid (Below w.heap.size w w1) := hb1
  clear hb1 hc
  go_wp2_with fail
  refine (of_any _ w.heap.size a len' cap zs 0 (hR.alloc _) (by omega) w1.heap.size 0 8 8 (fun i => texts8.getD i ByteArray.empty) (by have := HL.out; omega) (by omega) (by omega) H8.out).mono ?_
  rintro e w2 ⟨i, hi, rfl, hg, hR1⟩
  have HF : Hid (Below w.heap.size w w2) := below_grown (HB1.out.alloc HB1.out.size _) (Nat.le_refl _) hg
  clear hg hR1 hR H8
  go_wp2
  go_ret
  exact ⟨_, rfl, getD_size rfl i, HF.out⟩

end Go.Proofs.Ytgijhkcnbmcenaa
