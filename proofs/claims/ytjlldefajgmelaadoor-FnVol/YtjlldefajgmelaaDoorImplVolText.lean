/-
  What VolText of the program answers, where the library's table of powers of ten reads as it is laid.
-/
import Derived.Test.YtjlldefajgmelaaDoorSpecVolText
import Derived.Test.YtjlldefajgmelaaDoorImplVolOk
import Derived.Test.YtjlldefajgmelaaDoorShelf
import Derived.Lib.AppendIntMem
import Derived.Lib.LaidTab
namespace Go.Proofs.YtjlldefajgmelaaDoor
open Go.RowKit
set_option linter.unusedVariables false

/-- The library's table of powers of ten reads as it is laid. -/
def Pow10 (w : World) : Prop := Lib.TabIs Tryd.prog w "internal/strconv.uint64pow10" .u64 Lib.pow10Tab

theorem Pow10.keeps {w w' : World} (h : Pow10 w) (hb : Below w.heap.size w w') : Pow10 w' := by
  unfold Pow10 Lib.TabIs at *
  unfold World.var? at *
  cases hg : Tryd.prog.globalNamed "internal/strconv.uint64pow10" with
  | none => simp [hg] at h
  | some g =>
    simp only [hg, Option.bind_some] at h ⊢
    have hlt : g < w.heap.size := by
      rcases Nat.lt_or_ge g w.heap.size with h' | h'
      · exact h'
      · simp [Array.getElem?_eq_none h'] at h
    rw [hb.block g hlt]
    exact h

theorem itoa_any (n : Nat) (w : World) (hn : n ≤ 100000) (hT : Pow10 w) :
    Calls Tryd.prog 18 #[.int .i64 (n : Nat)] w fun e w' => e = .returned (.string (decB n)) ∧ Below w.heap.size w w' :=
  (Tryd.strconv_Itoa (n : Int) (by omega) (by omega) w hT).mono fun e w' ⟨he, k, os, hw⟩ => ⟨by rw [he, Lib.itoa_nonneg]; rfl, by rw [hw]; exact Lib.below_grow w.heap.size w (Nat.le_refl _) k os⟩

set_option maxHeartbeats 2000000 in
theorem implVolText_any (v : Vo) (w : World) (hs : v.text.size ≤ maxLen) (hT0 : Pow10 w) :
    Calls Tryd.prog 7 #[voV v] w fun e w' => Below w.heap.size w w' ∧ e = .returned (.string (volT v)) := by
  have hs' := hs
  unfold maxLen at hs'
  cases hok : voOk v with
  | false =>
    have hT : volT v = ⟨#[]⟩ := by unfold volT; rw [hok]; rfl
    rw [hT]
    have HO : Hid (∀ W, Calls Tryd.prog 10 #[.agg #[.int .i64 v.num, .int .i64 v.cnt, .int .i64 v.sum, .string v.text]] W fun e w' => Below W.heap.size W w' ∧ e = .returned (.bool false)) := fun W => by have := implVolOk_any v W hs; rwa [hok] at this
    unfold voV
    go_enter Tryd.func7, Tryd.ntmps7
    go_wp2_with fail
    refine (HO.out _).mono ?_
    rintro e w1 ⟨hb1, rfl⟩
    have HB : Hid (Below w.heap.size w w1) := ((Below.refl _ _).alloc (Nat.le_refl _) _).trans (hb1.mono (by simp))
    clear hb1
    go_wp2
    go_ret
    exact ⟨HB.out, rfl⟩
  | true =>
    obtain ⟨k1, k2, k3, k4, k5, k6⟩ := voOk_iff.1 hok
    have hsl := sumB_lt v.text
    have HO : Hid (∀ W, Calls Tryd.prog 10 #[.agg #[.int .i64 v.num, .int .i64 v.cnt, .int .i64 v.sum, .string v.text]] W fun e w' => Below W.heap.size W w' ∧ e = .returned (.bool true)) := fun W => by have := implVolOk_any v W hs; rwa [hok] at this
    obtain ⟨x, hx⟩ : ∃ x : Nat, v.num = (x : Int) := ⟨v.num.toNat, by omega⟩
    obtain ⟨y, hy⟩ : ∃ y : Nat, v.cnt = (y : Int) := ⟨v.cnt.toNat, by omega⟩
    obtain ⟨z, hz⟩ : ∃ z : Nat, v.sum = (z : Int) := ⟨v.sum.toNat, by omega⟩
    have hT : volT v = ⟨#[118, 111, 108, 32]⟩ ++ decB x ++ ⟨#[32]⟩ ++ decB y ++ ⟨#[32]⟩ ++ decB z ++ ⟨#[10]⟩ ++ v.text := by
      unfold volT
      rw [if_pos hok, hx, hy, hz]
      simp only [Int.toNat_natCast]
    rw [hT]
    have hx1 : x ≤ 40 := by omega
    have hy1 : y ≤ 40 := by omega
    have hz1 : z ≤ 9973 := by omega
    have sx := decB_size x
    have sy := decB_size y
    have sz := decB_size z
    have DX : Hid (∀ W : World, Pow10 W → Calls Tryd.prog 18 #[.int .i64 (x : Nat)] W fun e w' => e = .returned (.string (decB x)) ∧ Below W.heap.size W w') := fun W hW => itoa_any x W (by omega) hW
    have DY : Hid (∀ W : World, Pow10 W → Calls Tryd.prog 18 #[.int .i64 (y : Nat)] W fun e w' => e = .returned (.string (decB y)) ∧ Below W.heap.size W w') := fun W hW => itoa_any y W (by omega) hW
    have DZ : Hid (∀ W : World, Pow10 W → Calls Tryd.prog 18 #[.int .i64 (z : Nat)] W fun e w' => e = .returned (.string (decB z)) ∧ Below W.heap.size W w') := fun W hW => itoa_any z W (by omega) hW
    generalize decB x = tx at *
    generalize decB y = ty at *
    generalize decB z = tz at *
    unfold voV
    rw [hx, hy, hz] at HO ⊢
    generalize v.text = t at *
    clear hok hT hx hy hz k1 k2 k3 k4 k6 hsl hs
    go_enter Tryd.func7, Tryd.ntmps7
    go_wp2_with fail
    refine at_world (F := New1 w _ _) (new1 w _ _) ?_
    rintro W ⟨ha, hb0, hs0⟩
    refine (HO.out W).mono ?_
    rintro e w1 ⟨hb1, rfl⟩
    have ha1 := ha.below hb1 (by omega)
    have hB1 := hb0.trans (hb1.mono (by omega))
    have hl1 := ha1.lt
    have hT1 : Hid (Pow10 w1) := hT0.keeps hB1
    have c0 : w1.cell? ⟨w.heap.size, 0, none⟩ = some (.int .i64 (x : Nat)) := ha1.cell 0
    have c1 : w1.cell? ⟨w.heap.size, 1, none⟩ = some (.int .i64 (y : Nat)) := ha1.cell 1
    have c2 : w1.cell? ⟨w.heap.size, 2, none⟩ = some (.int .i64 (z : Nat)) := ha1.cell 2
    have c3 : w1.cell? ⟨w.heap.size, 3, none⟩ = some (.string t) := ha1.cell 3
    have C0 := Lat.cell (B := w1.heap.size) c0 hl1
    have C1 := Lat.cell (B := w1.heap.size) c1 hl1
    have C2 := Lat.cell (B := w1.heap.size) c2 hl1
    have C3 := Lat.cell (B := w1.heap.size) c3 hl1
    have I0 : Hid (∀ n : Lat w1.heap.size w1, Calls Tryd.prog 18 #[.int .i64 (x : Nat)] n.val fun e w'' => e = .returned (.string tx) ∧ ∃ m : Lat w1.heap.size w1, w'' = m.val) := fun n => Calls.lat_of (DX.out n.val (hT1.out.keeps n.bel)) (fun e w' h => ⟨h.1, h.2.mono n.bel.size⟩)
    have I1 : Hid (∀ n : Lat w1.heap.size w1, Calls Tryd.prog 18 #[.int .i64 (y : Nat)] n.val fun e w'' => e = .returned (.string ty) ∧ ∃ m : Lat w1.heap.size w1, w'' = m.val) := fun n => Calls.lat_of (DY.out n.val (hT1.out.keeps n.bel)) (fun e w' h => ⟨h.1, h.2.mono n.bel.size⟩)
    have I2 : Hid (∀ n : Lat w1.heap.size w1, Calls Tryd.prog 18 #[.int .i64 (z : Nat)] n.val fun e w'' => e = .returned (.string tz) ∧ ∃ m : Lat w1.heap.size w1, w'' = m.val) := fun n => Calls.lat_of (DZ.out n.val (hT1.out.keeps n.bel)) (fun e w' h => ⟨h.1, h.2.mono n.bel.size⟩)
    have HB1 : Hid (Below w.heap.size w w1) := hB1
    have hwl : w.heap.size ≤ w1.heap.size := hB1.size
    clear ha hb0 hs0 hb1 ha1 hB1 c0 c1 c2 c3 DX DY DZ HO hT0 hT1
    go_wp2_with fail
    refine wp_region_lat (B := w1.heap.size) (w0 := w1) (by kernel_rfl) (by kernel_rfl) (Below.refl _ _) ?_
    repeat (go_big_quiet_step (first | with_reducible exact I0.out _ | with_reducible exact I1.out _ | with_reducible exact I2.out _))
    refine wpQuiet_nil ?_
    rintro _ ⟨nq, rfl⟩
    have hB : Hid (Below w.heap.size w nq.val) := HB1.out.trans (nq.bel.mono hwl)
    clear C0 C1 C2 C3 I0 I1 I2
    go_wp2
    go_ret
    exact ⟨hB.out, rfl⟩
end Go.Proofs.YtjlldefajgmelaaDoor
