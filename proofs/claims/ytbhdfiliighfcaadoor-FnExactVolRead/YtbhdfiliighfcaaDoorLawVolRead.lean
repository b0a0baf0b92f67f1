/-
  FnExactVolRead, walked, where the library's table of powers of ten reads as it is laid.
-/
import Derived.Test.YtbhdfiliighfcaaDoorSpecVolRead
import Derived.Test.YtbhdfiliighfcaaDoorImplVolRead
import Derived.Test.YtbhdfiliighfcaaDoorVos
namespace Go.Proofs.YtbhdfiliighfcaaDoor
open Go.RowKit Go.Deep
set_option linter.unusedVariables false

set_option maxHeartbeats 1000000 in
theorem lawVolRead (s : ByteArray) (w : World) (hs : s.size ≤ maxLen) (hT : Pow10 w) :
    Calls Tryd.prog 4 #[.string s] w fun e w' => e = .returned (.bool true) ∧ Below w.heap.size w w' := by
  have hsm := hs
  unfold maxLen at hs
  by_cases hbig : (1048576 : Int) < s.size
  · have hb : decide ((1048576 : Int) < s.size) = true := by simp; omega
    clear hbig
    go_enter Tryd.func4, Tryd.ntmps4
    go_wp2
    go_ret
    exact ⟨rfl, Below.refl _ _⟩
  · have hb : decide ((1048576 : Int) < s.size) = false := by simp; omega
    have hs2 : s.size ≤ 1048576 := by omega
    have HS : Hid (∀ W, Calls Tryd.prog 9 #[.string s] W fun e w' => ∃ r : Option Vo, RdIs (bytes s) r ∧ e = .returned (.tuple #[.agg #[.int .i64 (r.getD voN).num, .int .i64 (r.getD voN).cnt, .int .i64 (r.getD voN).sum, .string (r.getD voN).text], .bool r.isSome]) ∧ Below W.heap.size W w') := fun W => specVolRead_any s W hs2
    have HI : Hid (∀ W, Pow10 W → Calls Tryd.prog 10 #[.string s] W fun e w' => ∃ r : Option Vo, RdIs (bytes s) r ∧ e = .returned (.tuple #[.agg #[.int .i64 (r.getD voN).num, .int .i64 (r.getD voN).cnt, .int .i64 (r.getD voN).sum, .string (r.getD voN).text], .bool r.isSome]) ∧ Below W.heap.size W w') := fun W hW => implVolRead_any s W hsm hW
    have HE : Hid (∀ (v : Vo) W, Calls Tryd.prog 11 #[.agg #[.int .i64 v.num, .int .i64 v.cnt, .int .i64 v.sum, .string v.text], .agg #[.int .i64 v.num, .int .i64 v.cnt, .int .i64 v.sum, .string v.text]] W fun e w' => Below W.heap.size W w' ∧ e = .returned (.bool true)) := fun v W => (eqVol_any v v W).mono fun e w' h => ⟨h.1, by rw [h.2, sameV_self]⟩
    clear hbig hs hs2 hsm
    go_enter Tryd.func4, Tryd.ntmps4
    go_wp2_with fail
    refine (HS.out w).mono ?_
    rintro e w1 ⟨r, hr, rfl, hb1⟩
    obtain ⟨v, hv⟩ : ∃ v, r.getD voN = v := ⟨_, rfl⟩
    obtain ⟨ok, ho⟩ : ∃ ok, r.isSome = ok := ⟨_, rfl⟩
    rw [hv, ho]
    have HR : Hid (RdIs (bytes s) r ∧ r.getD voN = v ∧ r.isSome = ok) := ⟨hr, hv, ho⟩
    have HB1 : Hid (Below w.heap.size w w1) := hb1
    clear hr hb1 hv ho
    go_wp2_with fail
    refine at_world (F := New1 w1 _ _) (new1 w1 _ _) ?_
    rintro W ⟨ha, hb0, hs0⟩
    have HW : Hid (Below w.heap.size w W) := HB1.out.trans (hb0.mono HB1.out.size)
    refine (HI.out W (hT.keeps HW.out)).mono ?_
    rintro e w2 ⟨r', hr', rfl, hb2⟩
    have ha2 := ha.below hb2 (by omega)
    have HB2 : Hid (Below w.heap.size w w2) := HW.out.trans (hb2.mono HW.out.size)
    obtain rfl : r' = r := rdIs_one hr' HR.out.1
    rw [HR.out.2.1, HR.out.2.2]
    have hne : (ok != ok) = false := by simp
    have HA : Hid (Blk w2 w1.heap.size _ _) := ha2
    have hl1 : w1.heap.size < w2.heap.size := ha2.lt
    have c0 : w2.cell? ⟨w1.heap.size, 0, none⟩ = some (.int .i64 v.num) := ha2.cell 0
    have c1 : w2.cell? ⟨w1.heap.size, 1, none⟩ = some (.int .i64 v.cnt) := ha2.cell 1
    have c2 : w2.cell? ⟨w1.heap.size, 2, none⟩ = some (.int .i64 v.sum) := ha2.cell 2
    have c3 : w2.cell? ⟨w1.heap.size, 3, none⟩ = some (.string v.text) := ha2.cell 3
    have hw1 : w.heap.size ≤ w1.heap.size := HB1.out.size
    clear hr' hb2 HB1 HR ha hb0 hs0 ha2 HW
    go_wp2_with fail
    refine at_world (F := New1 w2 _ _) (new1 w2 _ _) ?_
    rintro W3 ⟨ha3, hb30, hs3⟩
    refine (HE.out v W3).mono ?_
    rintro e w3 ⟨hb3, rfl⟩
    have HB3 : Hid (Below w.heap.size w w3) := HB2.out.trans ((hb30.trans (hb3.mono (by omega))).mono HB2.out.size)
    clear hb3 HB2 ha3 hb30 hs3
    go_wp2
    go_ret
    exact ⟨rfl, HB3.out⟩
end Go.Proofs.YtbhdfiliighfcaaDoor
