/-
  What VolRead of the program answers: the piece of which this is the text, or none, if there is none.
-/
import Derived.Test.YtjlldefajgmelaaDoorImplScan
import Derived.Test.YtjlldefajgmelaaDoorImplVolText
import Derived.Test.YtjlldefajgmelaaDoorClone
namespace Go.Proofs.YtjlldefajgmelaaDoor
open Go.RowKit Go.Deep
set_option linter.unusedVariables false
set_option linter.unusedSimpArgs false

def voZ : Vo := ⟨0, 0, 0, ⟨#[]⟩⟩

theorem rd_none {s : ByteArray} {v : Vo} {ok : Bool} (h : ScanPost s v ok) (hn : ok = true → voOk v = true → bytes (volT v) ≠ bytes s) : RdIs (bytes s) none := by
  refine ⟨fun u hu => (by cases hu), fun _ u hu hb => ?_⟩
  obtain ⟨h1, h2⟩ := h.2 u hu hb
  subst h2
  exact hn h1 hu hb

set_option maxRecDepth 100000 in
set_option maxHeartbeats 4000000 in
theorem implVolRead_any (s : ByteArray) (w : World) (hs : s.size ≤ maxLen) (hT0 : Pow10 w) :
    Calls Tryd.prog 8 #[.string s] w fun e w' => ∃ r : Option Vo, RdIs (bytes s) r ∧ e = .returned (.tuple #[voV (r.getD voZ), .bool r.isSome]) ∧ Below w.heap.size w w' := by
  have HV : Hid (∀ W, Calls Tryd.prog 19 #[.string s] W fun e w' => ∃ (v : Vo) (ok : Bool), e = .returned (.tuple #[.agg #[.int .i64 v.num, .int .i64 v.cnt, .int .i64 v.sum, .string v.text], .bool ok]) ∧ Below W.heap.size W w' ∧ ScanPost s v ok) := fun W => volOfText_any s W hs
  go_enter Tryd.func8, Tryd.ntmps8
  go_wp2_with fail
  refine at_world (F := New1 w _ _) (new1 w _ _) ?_
  rintro W ⟨ha, hb0, hs0⟩
  refine (HV.out W).mono ?_
  rintro e w1 ⟨v, ok, rfl, hb1, hP⟩
  have ha1 := ha.below hb1 (by omega)
  have hB1 := hb0.trans (hb1.mono (by omega))
  have hl1 := ha1.lt
  have hne1 : w.heap.size ≠ w1.heap.size := by omega
  have r0 : w1.cell? ⟨w.heap.size, 0, none⟩ = some (.int .i64 0) := ha1.cell 0
  have r1 : w1.cell? ⟨w.heap.size, 1, none⟩ = some (.int .i64 0) := ha1.cell 1
  have r2 : w1.cell? ⟨w.heap.size, 2, none⟩ = some (.int .i64 0) := ha1.cell 2
  have r3 : w1.cell? ⟨w.heap.size, 3, none⟩ = some (.string ⟨#[]⟩) := ha1.cell 3
  have z0 := ha1.frozen 0
  have z1 := ha1.frozen 1
  have z2 := ha1.frozen 2
  have z3 := ha1.frozen 3
  have HB1 : Hid (Below w.heap.size w w1) := hB1
  cases ok with
  | false =>
    have HR : Hid (RdIs (bytes s) none) := rd_none hP (fun h => by cases h)
    clear ha hb0 hs0 hb1 ha1 hB1 hP
    go_wp2
    refine bodyPost_ret (v := .tuple #[.agg #[.int .i64 0, .int .i64 0, .int .i64 0, .string ⟨#[]⟩], .bool false]) (by simp [results, Tryd.results8, go_sem, r0, r1, r2, r3, z0, z1, z2, z3, hl1]) rfl ⟨none, HR.out, rfl, ?_⟩
    repeat (first | exact HB1.out | (refine Below.alloc ?_ (by simp <;> omega) _) | (refine Below.setCell ?_ (by simp <;> omega) _))
  | true =>
    have HO : Hid (∀ W, Calls Tryd.prog 10 #[.agg #[.int .i64 v.num, .int .i64 v.cnt, .int .i64 v.sum, .string v.text]] W fun e w' => Below W.heap.size W w' ∧ e = .returned (.bool (voOk v))) := fun W => implVolOk_any v W hP.1
    have HX : Hid (∀ W, Pow10 W → Calls Tryd.prog 7 #[.agg #[.int .i64 v.num, .int .i64 v.cnt, .int .i64 v.sum, .string v.text]] W fun e w' => Below W.heap.size W w' ∧ e = .returned (.string (volT v))) := fun W hW => implVolText_any v W hP.1 hW
    have HT1 : Hid (Pow10 w1) := hT0.keeps hB1
    have HA1 : Hid (Blk w1 w.heap.size _ _) := ha1
    clear ha hb0 hs0 hb1 ha1 hB1 HV r0 r1 r2 r3 z0 z1 z2 z3
    go_wp2_with fail
    refine at_world (F := New1 w1 _ _) (new1 w1 _ _) ?_
    rintro W5 ⟨hx, hb5, hs5⟩
    refine (HO.out W5).mono ?_
    rintro e w6 ⟨hb6, rfl⟩
    have hx6 := hx.below hb6 (by omega)
    have hB16 := hb5.trans (hb6.mono (by omega))
    have hl6 := hx6.lt
    have x0 : w6.cell? ⟨w1.heap.size, 0, none⟩ = some (.int .i64 v.num) := hx6.cell 0
    have x1 : w6.cell? ⟨w1.heap.size, 1, none⟩ = some (.int .i64 v.cnt) := hx6.cell 1
    have x2 : w6.cell? ⟨w1.heap.size, 2, none⟩ = some (.int .i64 v.sum) := hx6.cell 2
    have x3 : w6.cell? ⟨w1.heap.size, 3, none⟩ = some (.string v.text) := hx6.cell 3
    have y3 := hx6.frozen 3
    have ha6 := HA1.out.below hB16 hl1
    have r0 : w6.cell? ⟨w.heap.size, 0, none⟩ = some (.int .i64 0) := ha6.cell 0
    have r1 : w6.cell? ⟨w.heap.size, 1, none⟩ = some (.int .i64 0) := ha6.cell 1
    have r2 : w6.cell? ⟨w.heap.size, 2, none⟩ = some (.int .i64 0) := ha6.cell 2
    have r3 : w6.cell? ⟨w.heap.size, 3, none⟩ = some (.string ⟨#[]⟩) := ha6.cell 3
    have z0 := ha6.frozen 0
    have z1 := ha6.frozen 1
    have z2 := ha6.frozen 2
    have z3 := ha6.frozen 3
    have HB6 : Hid (Below w.heap.size w w6) := HB1.out.trans (hB16.mono HB1.out.size)
    have hl16 : w.heap.size < w6.heap.size := by have := hB16.size; omega
    cases hvo : voOk v with
    | false =>
      have HR : Hid (RdIs (bytes s) none) := rd_none hP (fun _ h => by rw [hvo] at h; cases h)
      clear hx hb5 hs5 hb6 hx6 hB16 ha6 hP hvo
      go_wp2
      refine bodyPost_ret (v := .tuple #[.agg #[.int .i64 0, .int .i64 0, .int .i64 0, .string ⟨#[]⟩], .bool false]) (by simp [results, Tryd.results8, go_sem, r0, r1, r2, r3, z0, z1, z2, z3]) rfl ⟨none, HR.out, rfl, ?_⟩
      repeat (first | exact HB6.out | (refine Below.alloc ?_ (by simp <;> omega) _) | (refine Below.setCell ?_ (by simp <;> omega) _))
    | true =>
      have HT6 : Hid (Pow10 w6) := HT1.out.keeps hB16
      have HA6 : Hid (Blk w6 w.heap.size _ _ ∧ Blk w6 w1.heap.size _ _) := ⟨ha6, hx6⟩
      have k5 := (voOk_iff.1 hvo).2.2.2.2.1
      clear hx hb5 hs5 hb6 hx6 hB16 ha6 r0 r1 r2 r3 z0 z1 z2 z3 y3
      go_wp2_with fail
      refine (HX.out w6 HT6.out).mono ?_
      rintro e w7 ⟨hb7, rfl⟩
      have hx7 := HA6.out.2.below hb7 hl6
      have ha7 := HA6.out.1.below hb7 hl16
      have hl7 := hx7.lt
      have x0 : w7.cell? ⟨w1.heap.size, 0, none⟩ = some (.int .i64 v.num) := hx7.cell 0
      have x1 : w7.cell? ⟨w1.heap.size, 1, none⟩ = some (.int .i64 v.cnt) := hx7.cell 1
      have x2 : w7.cell? ⟨w1.heap.size, 2, none⟩ = some (.int .i64 v.sum) := hx7.cell 2
      have x3 : w7.cell? ⟨w1.heap.size, 3, none⟩ = some (.string v.text) := hx7.cell 3
      have HB7 : Hid (Below w.heap.size w w7) := HB6.out.trans (hb7.mono HB6.out.size)
      have HA7 : Hid (Blk w7 w.heap.size _ _ ∧ Blk w7 w1.heap.size _ _) := ⟨ha7, hx7⟩
      have hl17 : w.heap.size < w7.heap.size := by have := hb7.size; omega
      cases hcmp : ((volT v).toList == s.toList) with
      | false =>
        have r0 : w7.cell? ⟨w.heap.size, 0, none⟩ = some (.int .i64 0) := ha7.cell 0
        have r1 : w7.cell? ⟨w.heap.size, 1, none⟩ = some (.int .i64 0) := ha7.cell 1
        have r2 : w7.cell? ⟨w.heap.size, 2, none⟩ = some (.int .i64 0) := ha7.cell 2
        have r3 : w7.cell? ⟨w.heap.size, 3, none⟩ = some (.string ⟨#[]⟩) := ha7.cell 3
        have z0 := ha7.frozen 0
        have z1 := ha7.frozen 1
        have z2 := ha7.frozen 2
        have z3 := ha7.frozen 3
        have HR : Hid (RdIs (bytes s) none) := rd_none hP (fun _ _ h => by
          have e : volT v = s := ByteArray.ext (Array.toList_inj.1 h)
          rw [e] at hcmp
          simp at hcmp)
        have hd : (!(volT v).toList == s.toList) = true := by rw [hcmp]; rfl
        clear hb7 hx7 ha7 hP hvo hcmp
        go_wp2
        refine bodyPost_ret (v := .tuple #[.agg #[.int .i64 0, .int .i64 0, .int .i64 0, .string ⟨#[]⟩], .bool false]) (by simp [results, Tryd.results8, go_sem, r0, r1, r2, r3, z0, z1, z2, z3]) rfl ⟨none, HR.out, rfl, ?_⟩
        repeat (first | exact HB7.out | (refine Below.alloc ?_ (by simp <;> omega) _) | (refine Below.setCell ?_ (by simp <;> omega) _))
      | true =>
        have hd : (!(volT v).toList == s.toList) = false := by rw [hcmp]; rfl
        have HR : Hid (RdIs (bytes s) (some v)) := by
          refine ⟨fun u hu => ?_, fun h => by cases h⟩
          obtain rfl := Option.some.inj hu
          refine ⟨hvo, ?_⟩
          have := eq_of_beq hcmp
          rw [ByteArray.toList_eq, ByteArray.toList_eq] at this
          exact this
        clear hb7 hx7 ha7 hP hvo hcmp
        go_wp2_with fail
        refine (stringsClone_any v.text w7 (by omega)).mono ?_
        rintro e w8 ⟨rfl, hb8⟩
        have hx8 := HA7.out.2.below hb8 hl7
        have ha8 := HA7.out.1.below hb8 hl17
        have x0 : w8.cell? ⟨w1.heap.size, 0, none⟩ = some (.int .i64 v.num) := hx8.cell 0
        have x1 : w8.cell? ⟨w1.heap.size, 1, none⟩ = some (.int .i64 v.cnt) := hx8.cell 1
        have x2 : w8.cell? ⟨w1.heap.size, 2, none⟩ = some (.int .i64 v.sum) := hx8.cell 2
        have x3 : w8.cell? ⟨w1.heap.size, 3, none⟩ = some (.string v.text) := hx8.cell 3
        have y3 := hx8.frozen 3
        have r0 : w8.cell? ⟨w.heap.size, 0, none⟩ = some (.int .i64 0) := ha8.cell 0
        have r1 : w8.cell? ⟨w.heap.size, 1, none⟩ = some (.int .i64 0) := ha8.cell 1
        have r2 : w8.cell? ⟨w.heap.size, 2, none⟩ = some (.int .i64 0) := ha8.cell 2
        have r3 : w8.cell? ⟨w.heap.size, 3, none⟩ = some (.string ⟨#[]⟩) := ha8.cell 3
        have z0 := ha8.frozen 0
        have z1 := ha8.frozen 1
        have z2 := ha8.frozen 2
        have z3 := ha8.frozen 3
        have HB8 : Hid (Below w.heap.size w w8) := HB7.out.trans (hb8.mono HB7.out.size)
        clear hb8 hx8 ha8
        go_wp2
        refine bodyPost_ret (v := .tuple #[.agg #[.int .i64 v.num, .int .i64 v.cnt, .int .i64 v.sum, .string v.text], .bool true]) (by simp [results, Tryd.results8, go_sem, r0, r1, r2, r3, z0, z1, z2, z3]) rfl ⟨some v, HR.out, rfl, ?_⟩
        repeat (first | exact HB8.out | (refine Below.alloc ?_ (by simp <;> omega) _) | (refine Below.setCell ?_ (by simp <;> omega) _))
end Go.Proofs.YtjlldefajgmelaaDoor
