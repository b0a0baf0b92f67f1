/-
  What the draws of texts and of pieces give: a text of at most 66 bytes, a size that is one of nine.
-/
import Derived.Test.YtjlldefajgmelaaDoorDraw1
import Derived.Test.YtjlldefajgmelaaDoorSumMath
namespace Go.Proofs.YtjlldefajgmelaaDoor
open Go.RowKit
set_option linter.unusedVariables false

def bits7 : List ByteArray := [⟨#[97]⟩, ⟨#[98, 98]⟩, ⟨#[10]⟩, ⟨#[32]⟩, ⟨#[48, 32, 53, 32, 49, 10]⟩, ⟨#[120, 121, 122]⟩, ⟨#[39]⟩]

theorem bits7_size (i : Nat) (hi : i < 7) : (bits7.getD i ByteArray.empty).size ≤ 6 := by
  match i, hi with
  | 0, _ => decide
  | 1, _ => decide
  | 2, _ => decide
  | 3, _ => decide
  | 4, _ => decide
  | 5, _ => decide
  | 6, _ => decide

theorem size_add (s t : ByteArray) : (s ++ t).size = s.size + t.size := ByteArray.size_append

set_option maxHeartbeats 1000000 in
theorem l8Text_any (w : World) (r : Nat) (a : Option Addr) (len cap : Nat) (zs : Nat → Int) (p : Nat) (hR : IsRd w r a len cap zs p) (hp : p ≤ 900000) :
    Calls Tryd.prog 34 #[.pointer (some ⟨r, 0, none⟩)] w fun e w' => ∃ (s : ByteArray) (q : Nat), e = .returned (.string s) ∧ s.size ≤ 66 ∧ w.grownBy w' (some r) ∧ IsRd w' r a len cap zs q ∧ q ≤ p + 12 := by
  have HL : Hid (r < w.heap.size) := hR.lt
  have H7 : Hid (∀ W : World, ∀ i, i < 7 → (W.alloc (.cells #[.string ⟨#[97]⟩, .string ⟨#[98, 98]⟩, .string ⟨#[10]⟩, .string ⟨#[32]⟩, .string ⟨#[48, 32, 53, 32, 49, 10]⟩, .string ⟨#[120, 121, 122]⟩, .string ⟨#[39]⟩] 9)).cell? ⟨W.heap.size, 0 + i, none⟩ = some (.string (bits7.getD i ByteArray.empty))) := fun W => new_strs W bits7
  go_enter Tryd.func34, Tryd.ntmps34
  go_wp2_with fail
  refine (pick_any _ r a len cap zs p 12 hR (by omega) (by omega) (by omega)).mono ?_
  rintro e w1 ⟨x, rfl, hx0, hx1, hg, hR1⟩
  obtain ⟨x, rfl⟩ := Int.eq_ofNat_of_zero_le hx0
  have HG : Hid (w.grownBy w1 (some r)) := hg
  have HR : Hid (IsRd w1 r a len cap zs (p + 1)) := hR1
  clear hg hR1 hR hx0
  go_wp2
  go_loopw [3, 4] (fun v i wr => ∃ (k m : Nat) (s : ByteArray) (q : Nat), i = .int .i64 k ∧ v = .string s ∧ k + m ≤ 11 ∧ s.size ≤ 6 * m ∧ w.grownBy wr (some r) ∧ IsRd wr r a len cap zs q ∧ q ≤ p + 1 + m) (fun _ i _ => (intOf i).toNat)
  case atStart => exact ⟨x, 0, _, p + 1, rfl, rfl, by omega, by simp [ByteArray.size], HG.out, HR.out, by omega⟩
  case round =>
    obtain ⟨k, m, s, q, rfl, rfl, hkm, hs, hg, hRr, hq⟩ := hrel
    clear HG HR
    have HG : Hid (w.grownBy wr (some r)) := hg
    have HS : Hid (s.size ≤ 6 * m) := hs
    clear hg hs
    by_cases hk : k = 0
    · subst hk
      have HR : Hid (IsRd wr r a len cap zs q) := hRr
      clear hRr
      go_wp2
      go_ret
      exact ⟨s, q, rfl, by have := HS.out; omega, HG.out, HR.out, by omega⟩
    · have hk0 : (0 : Int) < (k : Int) := by omega
      have hwl : w.heap.size ≤ wr.heap.size := HG.out.size
      go_wp2_with fail
      refine (of_any _ r a len cap zs q (hRr.alloc _) (by omega) wr.heap.size 0 7 7 (fun i => bits7.getD i ByteArray.empty) (by have := HL.out; omega) (by omega) (by omega) (H7.out wr)).mono ?_
      rintro e w2 ⟨i, hi, rfl, hg2, hR2⟩
      have HG2 : Hid (w.grownBy w2 (some r)) := grown_trans HG.out (grown_trans (grown_alloc wr _ _) hg2)
      have HR2 : Hid (IsRd w2 r a len cap zs (q + 1)) := hR2
      have HZ : Hid ((bits7.getD i ByteArray.empty).size ≤ 6) := bits7_size i hi
      generalize bits7.getD i ByteArray.empty = t at HZ ⊢
      clear hg2 hR2 hRr HG
      have hb1 : s.size ≤ 66 := by have := HS.out; omega
      have hb2 : t.size ≤ 6 := HZ.out
      go_wp2
      go_roundw
      case rel => exact ⟨k - 1, m + 1, s ++ t, q + 1, by go_num, rfl, by omega, by rw [size_add]; have := HS.out; have := HZ.out; omega, HG2.out, HR2.out, by omega⟩
      case measure => simp [intOf]; omega
end Go.Proofs.YtjlldefajgmelaaDoor
