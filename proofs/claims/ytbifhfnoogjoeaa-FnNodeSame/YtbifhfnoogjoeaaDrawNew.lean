/-
  What DrawTreeNew gives: one of six numbers.
-/
import Derived.Test.YtbifhfnoogjoeaaRd
import Derived.Test.YtbifhfnoogjoeaaDraw1
import Derived.Test.YtbifhfnoogjoeaaOpenCode
namespace Go.Proofs.Ytbifhfnoogjoeaa
open Go.RowKit
set_option linter.unusedVariables false

set_option maxHeartbeats 400000 in
theorem num_any (w : World) (r : Nat) (a : Option Addr) (len cap : Nat) (zs : Nat → Int) (p : Nat) (hR : IsRd w r a len cap zs p) (hp : p ≤ 1000000)
    (b off m c : Nat) (S : Nat → Int) (hb : b ≠ r) (hm : 1 ≤ m) (hm2 : m ≤ 1000) (hc : ∀ i, i < m → w.cell? ⟨b, off + i, none⟩ = some (.int .i64 (S i))) :
    Calls Try.prog 26 #[.pointer (some ⟨r, 0, none⟩), .slice (some ⟨b, off, none⟩) m c] w fun e w' => ∃ i, i < m ∧ e = .returned (.int .i64 (S i)) ∧ w.grownBy w' (some r) ∧ IsRd w' r a len cap zs (p + 1) := by
  go_enter Try.func26, Try.ntmps26
  go_wp2_with fail
  refine (pick_any w r a len cap zs p m hR hp (by omega) (by omega)).mono ?_
  rintro e w1 ⟨x, rfl, hx0, hx1, hg, hR1⟩
  obtain ⟨i, rfl⟩ := Int.eq_ofNat_of_zero_le hx0
  have hi : i < m := by omega
  have hci : w1.cell? ⟨b, off + i, none⟩ = some (.int .i64 (S i)) := hg.cell (hc i hi) (by simp; exact hb)
  have HG : Hid (w.grownBy w1 (some r)) := hg
  have HR : Hid (IsRd w1 r a len cap zs (p + 1)) := hR1
  clear hc hg hR1 hR
  go_wp2
  go_ret
  exact ⟨i, hi, rfl, HG.out, HR.out⟩

def six6 : List Int := [1, 7, 1000, 0, -1, 1001]

set_option maxHeartbeats 400000 in
theorem drawTreeNew_any (w : World) (a : Option Addr) (len cap : Nat) (zs : Nat → Int) (hc : IsCode w a len zs) (hlen : len ≤ maxLen) (hcap : len ≤ cap) :
    Calls Try.prog 9 #[.slice a len cap] w fun e w' => ∃ z : Int, e = .returned (.int .i64 z) ∧ -1 ≤ z ∧ z ≤ 1001 ∧ Below w.heap.size w w' := by
  go_enter Try.func9, Try.ntmps9
  go_wp2_with fail
  refine (l11Open_any w a len cap zs hlen hcap hc).mono ?_
  rintro e w1 ⟨rfl, hb, len', hR⟩
  have hlt := hR.lt
  have HB : Hid (Below w.heap.size w w1) := hb
  clear hb
  go_wp2_with fail
  have H6 : ∀ i, i < 6 → (w1.alloc (.cells #[.int .i64 1, .int .i64 7, .int .i64 1000, .int .i64 0, .int .i64 (-1), .int .i64 1001] 3)).cell? ⟨w1.heap.size, 0 + i, none⟩ = some (.int .i64 (six6.getD i 0)) := fun i hi => by
    simp only [World.cell?, new_block]
    match i, hi with
    | 0, _ => rfl
    | 1, _ => rfl
    | 2, _ => rfl
    | 3, _ => rfl
    | 4, _ => rfl
    | 5, _ => rfl
  refine (num_any _ w.heap.size a len' cap zs 0 (hR.alloc _) (by omega) w1.heap.size 0 6 6 (fun i => six6.getD i 0) (by omega) (by omega) (by omega) H6).mono ?_
  rintro e w2 ⟨i, hi6, rfl, hg, hR2⟩
  have hz : -1 ≤ six6.getD i 0 ∧ six6.getD i 0 ≤ 1001 := by
    match i, hi6 with
    | 0, _ => exact ⟨by decide, by decide⟩
    | 1, _ => exact ⟨by decide, by decide⟩
    | 2, _ => exact ⟨by decide, by decide⟩
    | 3, _ => exact ⟨by decide, by decide⟩
    | 4, _ => exact ⟨by decide, by decide⟩
    | 5, _ => exact ⟨by decide, by decide⟩
  generalize six6.getD i 0 = z at hz ⊢
  have HB2 : Hid (Below w.heap.size w w2) := below_grown (HB.out.alloc HB.out.size _) (Nat.le_refl _) hg
  clear hg hR2 H6 hR HB
  go_wp2
  go_ret
  exact ⟨z, rfl, hz.1, hz.2, HB2.out⟩
end Go.Proofs.Ytbifhfnoogjoeaa
