/-
  What the draw of a text and a size gives.
-/
import Derived.Test.YtofbcenlpffclaaDrawTape
namespace Go.Proofs.Ytofbcenlpffclaa
open Go.RowKit
set_option linter.unusedVariables false

set_option maxHeartbeats 400000 in
theorem num_any (w : World) (r : Nat) (a : Option Addr) (len cap : Nat) (zs : Nat → Int) (p : Nat) (hR : IsRd w r a len cap zs p) (hp : p ≤ 1000000)
    (b off m c : Nat) (S : Nat → Int) (hb : b ≠ r) (hm : 1 ≤ m) (hm2 : m ≤ 1000) (hc : ∀ i, i < m → w.cell? ⟨b, off + i, none⟩ = some (.int .i64 (S i))) :
    Calls Try.prog 15 #[.pointer (some ⟨r, 0, none⟩), .slice (some ⟨b, off, none⟩) m c] w fun e w' => ∃ i, i < m ∧ e = .returned (.int .i64 (S i)) ∧ w.grownBy w' (some r) ∧ IsRd w' r a len cap zs (p + 1) := by
  go_enter Try.func15, Try.ntmps15
  go_wp2_with fail
  refine (pick_any w r a len cap zs p m hR hp (by omega) (by omega)).mono ?_
  rintro e w1 ⟨x, rfl, hx0, hx1, hg, hR1⟩
  obtain ⟨i, rfl⟩ := Int.eq_ofNat_of_zero_le hx0
  have hi : i < m := by omega
  have hci : w1.cell? ⟨b, off + i, none⟩ = some (.int .i64 (S i)) := hg.cell (hc i hi) (by simp; exact hb)
  have HG : Hid (w.grownBy w1 (some r)) := hg
  have HR : Hid (IsRd w1 r a len cap zs (p + 1)) := hR1
  clear hc hg hR1 hR
  go_wp2
  go_ret
  exact ⟨i, hi, rfl, HG.out, HR.out⟩

/-- Numbers as cells. -/
def numv (L : List Int) : List Value := L.map (Value.int .i64)
theorem new_nums (w : World) (L : List Int) : ∀ i, i < L.length → (w.alloc (.cells (numv L).toArray 3)).cell? ⟨w.heap.size, 0 + i, none⟩ = some (.int .i64 (L.getD i 0)) := by
  intro i hi
  simp only [World.cell?, new_block]
  simp [numv, hi]

/-- The sizes of which one is drawn. -/
def nine9 : List Nat := [1, 2, 3, 5, 10, 60, 2000, 0, 2001]
theorem nine_le (i : Nat) (hi : i < 9) : nine9.getD i 0 ≤ 2001 := by
  match i, hi with
  | 0, _ => decide
  | 1, _ => decide
  | 2, _ => decide
  | 3, _ => decide
  | 4, _ => decide
  | 5, _ => decide
  | 6, _ => decide
  | 7, _ => decide
  | 8, _ => decide
theorem nine_cells (W : World) (i : Nat) (hi : i < 9) : (W.alloc (.cells #[.int .i64 1, .int .i64 2, .int .i64 3, .int .i64 5, .int .i64 10, .int .i64 60, .int .i64 2000, .int .i64 0, .int .i64 2001] 3)).cell? ⟨W.heap.size, 0 + i, none⟩ = some (.int .i64 (((nine9.getD i 0 : Nat)) : Int)) := by
  have h := new_nums W (nine9.map fun x : Nat => (x : Int)) i hi
  rw [show (nine9.map fun x : Nat => (x : Int)).getD i 0 = ((nine9.getD i 0 : Nat) : Int) from by
    match i, hi with
    | 0, _ => rfl
    | 1, _ => rfl
    | 2, _ => rfl
    | 3, _ => rfl
    | 4, _ => rfl
    | 5, _ => rfl
    | 6, _ => rfl
    | 7, _ => rfl
    | 8, _ => rfl] at h
  exact h

/-- Halving. -/
theorem half_mul (a m : Nat) : a * m = a * 2 * (m / 2) + a * (m % 2) := by
  conv => lhs; rw [← Nat.div_add_mod m 2, Nat.mul_add, ← Nat.mul_assoc]

set_option maxHeartbeats 1000000 in
theorem l11Many_any (s : ByteArray) (n : Nat) (w : World) (hs : s.size ≤ 2) (hn : n ≤ 1001) :
    Calls Try.prog 14 #[.string s, .int .i64 (n : Nat)] w fun e w' => ∃ t : ByteArray, e = .returned (.string t) ∧ t.size ≤ 2002 ∧ w' = w := by
  go_enter Try.func14, Try.ntmps14
  go_wp2
  go_loop [0, 1, 5] (fun x i o => ∃ (m : Nat) (u t : ByteArray), x = .string u ∧ i = .int .i64 m ∧ o = .string t ∧ m ≤ 1001 ∧ t.size + u.size * m ≤ 2002) (fun _ i _ => (intOf i).toNat)
  case atStart => exact ⟨n, s, _, rfl, rfl, rfl, hn, by have := Nat.mul_le_mul hs hn; show 0 + s.size * n ≤ 2002; omega⟩
  case round =>
    obtain ⟨m, u, t, rfl, rfl, rfl, hm, hsz⟩ := hrel
    by_cases h0 : m = 0
    · subst h0
      have HS : Hid (t.size ≤ 2002) := by show _ ≤ _; omega
      clear hsz
      go_wp2
      go_ret
      exact ⟨t, rfl, HS.out, rfl⟩
    · have hp : (0 : Int) < (m : Int) := by omega
      have hu : u.size ≤ u.size * m := Nat.le_mul_of_pos_right _ (by omega)
      have hu2 : u.size ≤ 2002 := by omega
      have ht2 : t.size ≤ 2002 := by omega
      have hh := half_mul u.size m
      have hm2 : m % 2 = 0 ∨ m % 2 = 1 := by omega
      rcases hm2 with e | e
      · have hd : ((m : Int) % 2 == 1) = false := beq_eq_false_iff_ne.2 (by omega)
        have HS : Hid (t.size + (u ++ u).size * (m / 2) ≤ 2002) := by
          show _ ≤ _
          rw [size_add, show u.size + u.size = u.size * 2 by omega]
          rw [e] at hh
          omega
        clear hh hu hsz e
        go_wp2
        go_round
        case rel => exact ⟨m / 2, u ++ u, t, rfl, by go_num, rfl, by omega, HS.out⟩
        case measure => simp [intOf]; omega
      · have hd : ((m : Int) % 2 == 1) = true := beq_iff_eq.2 (by omega)
        have HS : Hid ((t ++ u).size + (u ++ u).size * (m / 2) ≤ 2002) := by
          show _ ≤ _
          rw [size_add, size_add, show u.size + u.size = u.size * 2 by omega]
          rw [e] at hh
          omega
        clear hh hu hsz e
        go_wp2
        go_round
        case rel => exact ⟨m / 2, u ++ u, t ++ u, rfl, by go_num, rfl, by omega, HS.out⟩
        case measure => simp [intOf]; omega

set_option maxHeartbeats 1000000 in
theorem drawTapeCut_any (w : World) (a : Option Addr) (len cap : Nat) (zs : Nat → Int) (hc : IsCode w a len zs) (hlen : len ≤ maxLen) (hcap : len ≤ cap) :
    Calls Try.prog 8 #[.slice a len cap] w fun e w' => ∃ (s : ByteArray) (k : Nat), e = .returned (.tuple #[.string s, .int .i64 (k : Nat)]) ∧ s.size ≤ 2002 ∧ k ≤ 2001 ∧ Below w.heap.size w w' := by
  go_enter Try.func8, Try.ntmps8
  go_wp2_with fail
  refine (l11Open_any w a len cap zs hlen hcap hc).mono ?_
  rintro e w1 ⟨rfl, hb1, len', hR1⟩
  go_wp2_with fail
  refine (l8Text_any w1 w.heap.size a len' cap zs 0 hR1 (by omega)).mono ?_
  rintro e w2 ⟨s, q, rfl, hs, hg2, hR2, hq⟩
  have hb2 : Below w.heap.size w w2 := hb1.grown hg2 hb1.size (fun k e => by cases e; exact Nat.le_refl _)
  clear hb1 hg2 hR1
  go_wp2_with fail
  refine (pick_any w2 w.heap.size a len' cap zs q 12 hR2 (by omega) (by omega) (by omega)).mono ?_
  rintro e w3 ⟨x, rfl, hx0, hx1, hg3, hR3⟩
  have hb3 : Below w.heap.size w w3 := hb2.grown hg3 hb2.size (fun k e => by cases e; exact Nat.le_refl _)
  clear hb2 hg3 hR2
  have H9 : Hid (∀ W : World, ∀ i, i < 9 → (W.alloc (.cells #[.int .i64 1, .int .i64 2, .int .i64 3, .int .i64 5, .int .i64 10, .int .i64 60, .int .i64 2000, .int .i64 0, .int .i64 2001] 3)).cell? ⟨W.heap.size, 0 + i, none⟩ = some (.int .i64 (((nine9.getD i 0 : Nat)) : Int))) := nine_cells
  by_cases hx : x = 0
  · have hxd : (x == 0) = true := by rw [hx]; rfl
    clear hx hx0 hx1
    go_wp2_with fail
    refine (pick_any w3 w.heap.size a len' cap zs (q + 1) 2 hR3 (by omega) (by omega) (by omega)).mono ?_
    rintro e w4 ⟨y, rfl, hy0, hy1, hg4, hR4⟩
    obtain ⟨y, rfl⟩ := Int.eq_ofNat_of_zero_le hy0
    have hb4 : Below w.heap.size w w4 := hb3.grown hg4 hb3.size (fun k e => by cases e; exact Nat.le_refl _)
    clear hb3 hg4 hR3
    go_wp2_with fail
    rw [show (1000 : Int) + (y : Int) = ((1000 + y : Nat) : Int) by omega]
    refine (l11Many_any ⟨#[97, 98]⟩ (1000 + y) w4 (by decide) (by omega)).mono ?_
    rintro e w5 ⟨t, rfl, ht, rfl⟩
    have hwl := hb4.size
    have hrl := hR4.lt
    go_wp2_with fail
    refine (num_any _ w.heap.size a len' cap zs (q + 1 + 1) (hR4.alloc _) (by omega) w5.heap.size 0 9 9 (fun i => ((nine9.getD i 0 : Nat) : Int)) (by omega) (by omega) (by omega) (H9.out w5)).mono ?_
    rintro e w6 ⟨i, hi, rfl, hg6, hR6⟩
    have HB : Hid (Below w.heap.size w w6) := (hb4.alloc hwl _).grown hg6 (by simp; omega) (fun k e => by cases e; exact Nat.le_refl _)
    have HZ : Hid (nine9.getD i 0 ≤ 2001) := nine_le i hi
    generalize nine9.getD i 0 = k at HZ ⊢
    clear hb4 hg6 hR4 hR6 H9
    go_wp2
    go_ret2
    exact ⟨t, k, rfl, ht, HZ.out, HB.out⟩
  · have hxd : (x == 0) = false := beq_eq_false_iff_ne.2 hx
    clear hx hx0 hx1
    have hwl := hb3.size
    have hrl := hR3.lt
    go_wp2_with fail
    refine (num_any _ w.heap.size a len' cap zs (q + 1) (hR3.alloc _) (by omega) w3.heap.size 0 9 9 (fun i => ((nine9.getD i 0 : Nat) : Int)) (by omega) (by omega) (by omega) (H9.out w3)).mono ?_
    rintro e w6 ⟨i, hi, rfl, hg6, hR6⟩
    have HB : Hid (Below w.heap.size w w6) := (hb3.alloc hwl _).grown hg6 (by simp; omega) (fun k e => by cases e; exact Nat.le_refl _)
    have HZ : Hid (nine9.getD i 0 ≤ 2001) := nine_le i hi
    generalize nine9.getD i 0 = k at HZ ⊢
    clear hb3 hg6 hR3 hR6 H9
    go_wp2
    go_ret2
    exact ⟨s, k, rfl, by omega, HZ.out, HB.out⟩
end Go.Proofs.Ytofbcenlpffclaa
