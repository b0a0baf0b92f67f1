/-
  FnExactVolText, walked, where the library's table of powers of ten reads as it is laid.
-/
import Derived.Test.YtbhdfiliighfcaaDoorSpecVolText
import Derived.Test.YtbhdfiliighfcaaDoorImplVolText
import Derived.Test.YtbhdfiliighfcaaDoorVols
import Derived.Test.YtbhdfiliighfcaaDoorBlk
namespace Go.Proofs.YtbhdfiliighfcaaDoor
open Go.RowKit
set_option linter.unusedVariables false

set_option maxHeartbeats 1000000 in
theorem lawVolText (v : Vo) (w : World) (hn : v.text.size ≤ maxLen) (hT : Pow10 w) :
    Calls Tryd.prog 3 #[voV v] w fun e w' => e = .returned (.bool true) ∧ Below w.heap.size w w' := by
  have hne : (!(volT v).toList == (volT v).toList) = false := by simp
  have hsz : Hid (∀ (left : Int) W, 0 ≤ left → left ≤ 1048576 → Calls Tryd.prog 5 #[.agg #[.int .i64 v.num, .int .i64 v.cnt, .int .i64 v.sum, .string v.text], .int .i64 left] W fun e w' => Below W.heap.size W w' ∧ ∃ r : Int, e = .returned (.int .i64 r) ∧ r ≤ left ∧ (0 ≤ r → r + v.text.size = left)) := fun left W => szVol_any v left W hn
  have hto : Hid (∀ W, Calls Tryd.prog 7 #[.agg #[.int .i64 v.num, .int .i64 v.cnt, .int .i64 v.sum, .string v.text]] W fun r w' => r = .returned (.agg #[.int .i64 v.num, .int .i64 v.cnt, .int .i64 v.sum, .string v.text]) ∧ Below W.heap.size W w') := fun W => toVol_any v W
  have hsp : Hid (∀ W, Calls Tryd.prog 6 #[.agg #[.int .i64 v.num, .int .i64 v.cnt, .int .i64 v.sum, .string v.text]] W fun e w' => Below W.heap.size W w' ∧ e = .returned (.string (volT v))) := fun W => specVolText_any v W hn
  have him : Hid (∀ W, Pow10 W → Calls Tryd.prog 8 #[.agg #[.int .i64 v.num, .int .i64 v.cnt, .int .i64 v.sum, .string v.text]] W fun e w' => Below W.heap.size W w' ∧ e = .returned (.string (volT v))) := fun W hW => implVolText_any v W hn hW
  generalize volT v = vt at *
  unfold voV
  go_enter Tryd.func3, Tryd.ntmps3
  go_wp2_with fail
  refine at_world (F := New1 w _ _) (new1 w _ _) ?_
  rintro W ⟨ha, hb0, hs0⟩
  refine (hsz.out _ W (by omega) (by omega)).mono ?_
  rintro e w1 ⟨hb1, r, rfl, hr1, hr2⟩
  have ha1 := ha.below hb1 (by omega)
  have hB1 := hb0.trans (hb1.mono (by omega))
  have c0 : w1.cell? ⟨w.heap.size, 0, none⟩ = some (.int .i64 v.num) := ha1.cell 0
  have c1 : w1.cell? ⟨w.heap.size, 1, none⟩ = some (.int .i64 v.cnt) := ha1.cell 1
  have c2 : w1.cell? ⟨w.heap.size, 2, none⟩ = some (.int .i64 v.sum) := ha1.cell 2
  have c3 : w1.cell? ⟨w.heap.size, 3, none⟩ = some (.string v.text) := ha1.cell 3
  by_cases hr3 : r < 0
  · have hr3' : decide (r < 0) = true := by simp; omega
    have HB : Hid (Below w.heap.size w w1) := hB1
    clear hr2 hr1 hr3
    go_wp2
    go_ret
    exact ⟨rfl, HB.out⟩
  · have hr3' : decide (r < 0) = false := by simp; omega
    have HA : Hid (Blk w1 w.heap.size _ _ ∧ Below w.heap.size w w1) := ⟨ha1, hB1⟩
    clear hr2 hr1 hr3 ha hb0 hs0 hb1 ha1 hB1
    go_wp2_with fail
    refine (hto.out w1).mono ?_
    rintro e w2 ⟨rfl, hb2⟩
    go_wp2_with fail
    refine (hsp.out w2).mono ?_
    rintro e w3 ⟨hb3, rfl⟩
    have hb13 := hb2.trans (hb3.mono hb2.size)
    have ha3 := HA.out.1.below hb13 (Nat.lt_of_lt_of_le HA.out.1.lt (Nat.le_refl _))
    have hB3 := HA.out.2.trans (hb13.mono HA.out.2.size)
    have c0 : w3.cell? ⟨w.heap.size, 0, none⟩ = some (.int .i64 v.num) := ha3.cell 0
    have c1 : w3.cell? ⟨w.heap.size, 1, none⟩ = some (.int .i64 v.cnt) := ha3.cell 1
    have c2 : w3.cell? ⟨w.heap.size, 2, none⟩ = some (.int .i64 v.sum) := ha3.cell 2
    have c3 : w3.cell? ⟨w.heap.size, 3, none⟩ = some (.string v.text) := ha3.cell 3
    have HB : Hid (Below w.heap.size w w3) := hB3
    clear hb2 hb3 hb13 ha3 hB3
    go_wp2_with fail
    refine (hto.out w3).mono ?_
    rintro e w4 ⟨rfl, hb4⟩
    have HB4 : Hid (Below w.heap.size w w4) := HB.out.trans (hb4.mono HB.out.size)
    clear hb4
    go_wp2_with fail
    refine (him.out w4 (hT.keeps HB4.out)).mono ?_
    rintro e w5 ⟨hb5, rfl⟩
    have HB5 : Hid (Below w.heap.size w w5) := HB4.out.trans (hb5.mono HB4.out.size)
    clear hb5
    go_wp2
    go_ret
    exact ⟨rfl, HB5.out⟩
end Go.Proofs.YtbhdfiliighfcaaDoor
