/-
  What the draw of a text and a size gives.
-/
import Derived.Test.YtjlldefajgmelaaDoorDrawTape
namespace Go.Proofs.YtjlldefajgmelaaDoor
open Go.RowKit
set_option linter.unusedVariables false

set_option maxHeartbeats 400000 in
theorem num_any (w : World) (r : Nat) (a : Option Addr) (len cap : Nat) (zs : Nat → Int) (p : Nat) (hR : IsRd w r a len cap zs p) (hp : p ≤ 1000000)
    (b off m c : Nat) (S : Nat → Int) (hb : b ≠ r) (hm : 1 ≤ m) (hm2 : m ≤ 1000) (hc : ∀ i, i < m → w.cell? ⟨b, off + i, none⟩ = some (.int .i64 (S i))) :
    Calls Tryd.prog 29 #[.pointer (some ⟨r, 0, none⟩), .slice (some ⟨b, off, none⟩) m c] w fun e w' => ∃ i, i < m ∧ e = .returned (.int .i64 (S i)) ∧ w.grownBy w' (some r) ∧ IsRd w' r a len cap zs (p + 1) := by
  go_enter Tryd.func29, Tryd.ntmps29
  go_wp2_with fail
  refine (pick_any w r a len cap zs p m hR hp (by omega) (by omega)).mono ?_
  rintro e w1 ⟨x, rfl, hx0, hx1, hg, hR1⟩
  obtain ⟨i, rfl⟩ := Int.eq_ofNat_of_zero_le hx0
  have hi : i < m := by omega
  have hci : w1.cell? ⟨b, off + i, none⟩ = some (.int .i64 (S i)) := hg.cell (hc i hi) (by simp; exact hb)
  have HG : Hid (w.grownBy w1 (some r)) := hg
  have HR : Hid (IsRd w1 r a len cap zs (p + 1)) := hR1
  clear hc hg hR1 hR
  go_wp2
  go_ret
  exact ⟨i, hi, rfl, HG.out, HR.out⟩

/-- Numbers as cells. -/
def numv (L : List Int) : List Value := L.map (Value.int .i64)
theorem new_nums (w : World) (L : List Int) : ∀ i, i < L.length → (w.alloc (.cells (numv L).toArray 3)).cell? ⟨w.heap.size, 0 + i, none⟩ = some (.int .i64 (L.getD i 0)) := by
  intro i hi
  simp only [World.cell?, new_block]
  simp [numv, hi]

/-- The sizes of which one is drawn. -/
def nine9 : List Nat := [1, 2, 3, 5, 10, 60, 2000, 0, 2001]
theorem nine_le (i : Nat) (hi : i < 9) : nine9.getD i 0 ≤ 2001 := by
  match i, hi with
  | 0, _ => decide
  | 1, _ => decide
  | 2, _ => decide
  | 3, _ => decide
  | 4, _ => decide
  | 5, _ => decide
  | 6, _ => decide
  | 7, _ => decide
  | 8, _ => decide
theorem nine_cells (W : World) (i : Nat) (hi : i < 9) : (W.alloc (.cells #[.int .i64 1, .int .i64 2, .int .i64 3, .int .i64 5, .int .i64 10, .int .i64 60, .int .i64 2000, .int .i64 0, .int .i64 2001] 3)).cell? ⟨W.heap.size, 0 + i, none⟩ = some (.int .i64 (((nine9.getD i 0 : Nat)) : Int)) := by
  have h := new_nums W (nine9.map fun x : Nat => (x : Int)) i hi
  rw [show (nine9.map fun x : Nat => (x : Int)).getD i 0 = ((nine9.getD i 0 : Nat) : Int) from by
    match i, hi with
    | 0, _ => rfl
    | 1, _ => rfl
    | 2, _ => rfl
    | 3, _ => rfl
    | 4, _ => rfl
    | 5, _ => rfl
    | 6, _ => rfl
    | 7, _ => rfl
    | 8, _ => rfl] at h
  exact h

/-- Halving. -/
theorem half_mul (a m : Nat) : a * m = a * 2 * (m / 2) + a * (m % 2) := by
  conv => lhs; rw [← Nat.div_add_mod m 2, Nat.mul_add, ← Nat.mul_assoc]
end Go.Proofs.YtjlldefajgmelaaDoor
