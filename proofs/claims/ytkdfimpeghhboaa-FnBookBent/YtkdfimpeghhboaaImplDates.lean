/-
  What datesByLevel and BookBase of the program answer: the turns of the levels lie in an array of ten.
-/
import Derived.Test.YtkdfimpeghhboaaImplBook
import Derived.Test.YtkdfimpeghhboaaBookMath
import Derived.Test.YtkdfimpeghhboaaSpecBook
import Derived.WalkSmall
namespace Go.Proofs.Ytkdfimpeghhboaa
open Go.RowKit Go.Deep
set_option linter.unusedVariables false
set_option linter.unusedSimpArgs false

/-- Ten turns as cells. -/
def arrC (d : Int → Int) : Array Value := #[.int .i64 (d 0), .int .i64 (d 1), .int .i64 (d 2), .int .i64 (d 3), .int .i64 (d 4), .int .i64 (d 5), .int .i64 (d 6), .int .i64 (d 7), .int .i64 (d 8), .int .i64 (d 9)]

theorem arrC_get (d : Int → Int) (L : Nat) (hL : L < 10) : (arrC d)[L]? = some (.int .i64 (d L)) := by
  match L, hL with
  | 0, _ => rfl
  | 1, _ => rfl
  | 2, _ => rfl
  | 3, _ => rfl
  | 4, _ => rfl
  | 5, _ => rfl
  | 6, _ => rfl
  | 7, _ => rfl
  | 8, _ => rfl
  | 9, _ => rfl

theorem arrC_set (d : Int → Int) (L : Nat) (hL : L < 10) (z : Int) : (arrC d).setIfInBounds L (.int .i64 z) = arrC (fun l => if l = (L : Int) then z else d l) := by
  match L, hL with
  | 0, _ => simp [arrC]
  | 1, _ => simp [arrC]
  | 2, _ => simp [arrC]
  | 3, _ => simp [arrC]
  | 4, _ => simp [arrC]
  | 5, _ => simp [arrC]
  | 6, _ => simp [arrC]
  | 7, _ => simp [arrC]
  | 8, _ => simp [arrC]
  | 9, _ => simp [arrC]

theorem arr_sets (z d : Int → Int) : (((((((((((arrC z).setIfInBounds 0 (.int .i64 (d 0))).setIfInBounds 1 (.int .i64 (d 1))).setIfInBounds 2 (.int .i64 (d 2))).setIfInBounds 3 (.int .i64 (d 3))).setIfInBounds 4 (.int .i64 (d 4))).setIfInBounds 5 (.int .i64 (d 5))).setIfInBounds 6 (.int .i64 (d 6))).setIfInBounds 7 (.int .i64 (d 7))).setIfInBounds 8 (.int .i64 (d 8))).setIfInBounds 9 (.int .i64 (d 9))) = arrC d := by simp [arrC]

theorem arr_put {w : World} {b : Nat} {z d : Int → Int} {t : TypeId} (h : Blk w b (arrC z) t) : Blk ((((((((((w.setCell ⟨b, 0, none⟩ (.int .i64 (d 0))).setCell ⟨b, 1, none⟩ (.int .i64 (d 1))).setCell ⟨b, 2, none⟩ (.int .i64 (d 2))).setCell ⟨b, 3, none⟩ (.int .i64 (d 3))).setCell ⟨b, 4, none⟩ (.int .i64 (d 4))).setCell ⟨b, 5, none⟩ (.int .i64 (d 5))).setCell ⟨b, 6, none⟩ (.int .i64 (d 6))).setCell ⟨b, 7, none⟩ (.int .i64 (d 7))).setCell ⟨b, 8, none⟩ (.int .i64 (d 8))).setCell ⟨b, 9, none⟩ (.int .i64 (d 9))) b (arrC d) t := by
  rw [← arr_sets z d]
  exact ((((((((((h.set 0 _).set 1 _).set 2 _).set 3 _).set 4 _).set 5 _).set 6 _).set 7 _).set 8 _).set 9 _)

theorem arr_bel {B : Nat} {a w : World} {b : Nat} {d : Int → Int} (h : Below B a w) (hb : B ≤ b) : Below B a ((((((((((w.setCell ⟨b, 0, none⟩ (.int .i64 (d 0))).setCell ⟨b, 1, none⟩ (.int .i64 (d 1))).setCell ⟨b, 2, none⟩ (.int .i64 (d 2))).setCell ⟨b, 3, none⟩ (.int .i64 (d 3))).setCell ⟨b, 4, none⟩ (.int .i64 (d 4))).setCell ⟨b, 5, none⟩ (.int .i64 (d 5))).setCell ⟨b, 6, none⟩ (.int .i64 (d 6))).setCell ⟨b, 7, none⟩ (.int .i64 (d 7))).setCell ⟨b, 8, none⟩ (.int .i64 (d 8))).setCell ⟨b, 9, none⟩ (.int .i64 (d 9))) := bel_put (bel_put (bel_put (bel_put (bel_put (bel_put (bel_put (bel_put (bel_put (bel_put h _ hb) _ hb) _ hb) _ hb) _ hb) _ hb) _ hb) _ hb) _ hb) _ hb

set_option maxHeartbeats 4000000 in
theorem implDates_any (a : Option Addr) (n c : Nat) (E : Nat → En) (w : World) (hS : IsEns w a n E) (hn : n ≤ maxLen) (hbk : bookTo E n = true) :
    Calls Try.prog 20 #[.slice a n c] w fun e w' => Below w.heap.size w w' ∧ e = .returned (.agg (arrC (datesTo E n))) := by
  unfold maxLen at hn
  have HBK : Hid (bookTo E n = true) := hbk
  clear hbk
  go_enter Try.func20, Try.ntmps20
  go_wp2
  go_loopw [8] (fun i wr => ∃ k : Nat, k ≤ n ∧ i = .int .i64 k ∧ Below w.heap.size w wr ∧ Blk wr w.heap.size (arrC fun _ => 0) 41 ∧ Blk wr (w.heap.size + 1) (arrC (datesTo E k)) 41) (fun i _ => n - (intOf i).toNat)
  case atStart =>
    have h := new2 w (arrC fun _ => 0) 41 (arrC fun _ => 0) 41
    exact ⟨0, Nat.zero_le _, rfl, h.bel, h.b0, h.b1⟩
  case round =>
    obtain ⟨k, hk, rfl, hb, hR, hT⟩ := hrel
    have HB : Hid (Below w.heap.size w wr ∧ Blk wr w.heap.size (arrC fun _ => 0) 41 ∧ Blk wr (w.heap.size + 1) (arrC (datesTo E k)) 41) := ⟨hb, hR, hT⟩
    by_cases hlt : k < n
    · obtain ⟨b, off, rfl, hlt2, hc⟩ := hS.at hlt
      obtain ⟨c0, c1⟩ := hc k hlt
      have hlti : (k : Int) < (n : Int) := by omega
      obtain ⟨g0, g9, g1, g2⟩ := entOk_iff.1 (book_entOk HBK.out hlt)
      obtain ⟨L, hL⟩ := Int.eq_ofNat_of_zero_le g0
      have hL9 : (L : Int) < 10 := by omega
      have c0' : wr.cell? ⟨b, off + k * 2, none⟩ = some (.int .i64 (L : Int)) := by rw [hb.cell (p := ⟨b, off + k * 2, none⟩) hlt2, c0, hL]
      have c1' : wr.cell? ⟨b, off + k * 2 + 1, none⟩ = some (.int .i64 (E k).date) := by rw [hb.cell (p := ⟨b, off + k * 2 + 1, none⟩) hlt2, c1]
      have hTl := hT.lt
      have hbne : b ≠ wr.heap.size := by omega
      have hTne : w.heap.size + 1 ≠ wr.heap.size := by omega
      have hTc : wr.cell? ⟨w.heap.size + 1, L, none⟩ = some (.int .i64 (datesTo E k L)) := (hT.cell L).trans (arrC_get _ L (by omega))
      have hTf := hT.frozen L
      have HL : Hid ((E k).lev = (L : Int)) := hL
      clear hb hR hT hc c0 c1 g0 g9 g1 g2 hL
      go_wp2
      go_roundw
      case rel =>
        obtain ⟨hb, hR, hT⟩ := HB.out
        refine ⟨k + 1, by omega, by go_num, (bel_put hb _ (by omega)).alloc (by simp; omega) _, (hR.off _ (by omega)).alloc _, ?_⟩
        have h := (hT.set L (.int .i64 (E k).date)).alloc (.cells #[.int .i64 (L : Int), .int .i64 (E k).date] 30)
        rw [arrC_set _ L (by omega)] at h
        have e : datesTo E (k + 1) = fun l => if l = (L : Int) then (E k).date else datesTo E k l := by funext l; rw [datesTo, HL.out]
        rw [e]
        exact h
      case measure => simp [intOf]; omega
    · obtain rfl : k = n := by omega
      have t0 : wr.cell? ⟨w.heap.size + 1, 0, none⟩ = some (.int .i64 (datesTo E k 0)) := hT.cell 0
      have r0 : wr.cell? ⟨w.heap.size, 0, none⟩ = some (.int .i64 0) := hR.cell 0
      have f0 := hR.frozen 0
      have t1 : wr.cell? ⟨w.heap.size + 1, 1, none⟩ = some (.int .i64 (datesTo E k 1)) := hT.cell 1
      have r1 : wr.cell? ⟨w.heap.size, 1, none⟩ = some (.int .i64 0) := hR.cell 1
      have f1 := hR.frozen 1
      have t2 : wr.cell? ⟨w.heap.size + 1, 2, none⟩ = some (.int .i64 (datesTo E k 2)) := hT.cell 2
      have r2 : wr.cell? ⟨w.heap.size, 2, none⟩ = some (.int .i64 0) := hR.cell 2
      have f2 := hR.frozen 2
      have t3 : wr.cell? ⟨w.heap.size + 1, 3, none⟩ = some (.int .i64 (datesTo E k 3)) := hT.cell 3
      have r3 : wr.cell? ⟨w.heap.size, 3, none⟩ = some (.int .i64 0) := hR.cell 3
      have f3 := hR.frozen 3
      have t4 : wr.cell? ⟨w.heap.size + 1, 4, none⟩ = some (.int .i64 (datesTo E k 4)) := hT.cell 4
      have r4 : wr.cell? ⟨w.heap.size, 4, none⟩ = some (.int .i64 0) := hR.cell 4
      have f4 := hR.frozen 4
      have t5 : wr.cell? ⟨w.heap.size + 1, 5, none⟩ = some (.int .i64 (datesTo E k 5)) := hT.cell 5
      have r5 : wr.cell? ⟨w.heap.size, 5, none⟩ = some (.int .i64 0) := hR.cell 5
      have f5 := hR.frozen 5
      have t6 : wr.cell? ⟨w.heap.size + 1, 6, none⟩ = some (.int .i64 (datesTo E k 6)) := hT.cell 6
      have r6 : wr.cell? ⟨w.heap.size, 6, none⟩ = some (.int .i64 0) := hR.cell 6
      have f6 := hR.frozen 6
      have t7 : wr.cell? ⟨w.heap.size + 1, 7, none⟩ = some (.int .i64 (datesTo E k 7)) := hT.cell 7
      have r7 : wr.cell? ⟨w.heap.size, 7, none⟩ = some (.int .i64 0) := hR.cell 7
      have f7 := hR.frozen 7
      have t8 : wr.cell? ⟨w.heap.size + 1, 8, none⟩ = some (.int .i64 (datesTo E k 8)) := hT.cell 8
      have r8 : wr.cell? ⟨w.heap.size, 8, none⟩ = some (.int .i64 0) := hR.cell 8
      have f8 := hR.frozen 8
      have t9 : wr.cell? ⟨w.heap.size + 1, 9, none⟩ = some (.int .i64 (datesTo E k 9)) := hT.cell 9
      have r9 : wr.cell? ⟨w.heap.size, 9, none⟩ = some (.int .i64 0) := hR.cell 9
      have f9 := hR.frozen 9
      clear hb hR hT
      go_wp2_with fail
      refine end_world (F := fun W => Below w.heap.size w W ∧ Blk W w.heap.size (arrC (datesTo E k)) 41) ?_ ?_
      · obtain ⟨hb, hR, hT⟩ := HB.out
        exact ⟨arr_bel hb (Nat.le_refl _), arr_put hR⟩
      · rintro W ⟨hb, hR⟩
        clear t0 r0 f0 t1 r1 f1 t2 r2 f2 t3 r3 f3 t4 r4 f4 t5 r5 f5 t6 r6 f6 t7 r7 f7 t8 r8 f8 t9 r9 f9
        have q0 : W.cell? ⟨w.heap.size, 0, none⟩ = some (.int .i64 (datesTo E k 0)) := hR.cell 0
        have q1 : W.cell? ⟨w.heap.size, 1, none⟩ = some (.int .i64 (datesTo E k 1)) := hR.cell 1
        have q2 : W.cell? ⟨w.heap.size, 2, none⟩ = some (.int .i64 (datesTo E k 2)) := hR.cell 2
        have q3 : W.cell? ⟨w.heap.size, 3, none⟩ = some (.int .i64 (datesTo E k 3)) := hR.cell 3
        have q4 : W.cell? ⟨w.heap.size, 4, none⟩ = some (.int .i64 (datesTo E k 4)) := hR.cell 4
        have q5 : W.cell? ⟨w.heap.size, 5, none⟩ = some (.int .i64 (datesTo E k 5)) := hR.cell 5
        have q6 : W.cell? ⟨w.heap.size, 6, none⟩ = some (.int .i64 (datesTo E k 6)) := hR.cell 6
        have q7 : W.cell? ⟨w.heap.size, 7, none⟩ = some (.int .i64 (datesTo E k 7)) := hR.cell 7
        have q8 : W.cell? ⟨w.heap.size, 8, none⟩ = some (.int .i64 (datesTo E k 8)) := hR.cell 8
        have q9 : W.cell? ⟨w.heap.size, 9, none⟩ = some (.int .i64 (datesTo E k 9)) := hR.cell 9
        exact bodyPost_ret (v := .agg (arrC (datesTo E k))) (by simp [results, Try.results20, go_sem, q0, q1, q2, q3, q4, q5, q6, q7, q8, q9, arrC]) rfl ⟨hb, rfl⟩
end Go.Proofs.Ytkdfimpeghhboaa
