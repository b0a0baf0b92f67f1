/-
  Texts that the proof needs, laid one behind the other.
-/
import Derived.Test.YtakifcobofkheabGreatDoorCardBackPickB3
import Derived.Shelf.LaysM
import Derived.Shelf.Strconv.Clone
import Derived.Shelf.Slices.Reverse
import Derived.Shelf.Slices.Cells
import Derived.Test.YtakifcobofkheabGreatDoorProg
import Derived.WalkKit
import Derived.Laws.AppendOwn
import Derived.OwnWalk
import Derived.LaidEql
import Derived.Stop.Asserts
import Derived.RowKitTokens

/-
  What DumpOk of the program answers.
-/
namespace Go.Proofs.YtakifcobofkheabGreatDoor
open Go.RowKit
set_option linter.unusedVariables false

/-- The Ino of the place ahead. -/
def lastOf (d : Dp) (k : Nat) : Int := if k = 0 then -1 else d.ino (k - 1)

theorem last_low {d : Dp} {k : Nat} (h : d.ino k ≤ lastOf d k) : stepIn d k = false := by
  unfold lastOf at h
  by_cases hk : k = 0
  · subst hk
    rw [if_pos rfl] at h
    refine step_item (it_dead (x := d.nd 0) ?_).symm
    unfold liveIn
    rw [decide_eq_false (show ¬ 0 ≤ d.ino 0 by omega)]
    rfl
  · rw [if_neg hk] at h
    exact step_low hk h

theorem last_more {d : Dp} {k : Nat} (h : ¬ d.ino k ≤ lastOf d k) (hi : itIn d (d.ino k) (d.nd k) = true) : stepIn d k = true := by
  unfold lastOf at h
  by_cases hk : k = 0
  · subst hk; exact step_zero hi
  · rw [if_neg hk] at h
    exact step_more hi (by omega)

theorem last_succ (d : Dp) (k : Nat) : lastOf d (k + 1) = d.ino k := by unfold lastOf; simp

theorem turnIn_no {z y : Int} (h : z < 1 ∨ y < z) : turnIn z y = false := by
  unfold turnIn
  rcases h with h | h
  · rw [decide_eq_false (show ¬ 1 ≤ z by omega)]; rfl
  · rw [decide_eq_false (show ¬ z ≤ y by omega)]; simp
theorem turnIn_yes {z y : Int} (h : 1 ≤ z) (h' : z ≤ y) : turnIn z y = true := by unfold turnIn; rw [decide_eq_true h, decide_eq_true h']; rfl

/-- What is known within a round: what is kept, and a place that was turned in a variable. -/
structure D2In (w wr : World) (d : Dp) (l : DLoc) (o : Int) (x : Nd) (lo : Loc) (W : World) : Prop where
  d1 : D1In w d l 64 W
  x : Blk W wr.heap.size #[.int .i64 o, .int .i64 x.kind, .string x.text, .slice lo.nA x.nn lo.nc, .slice lo.kA x.kn lo.kc, .int .i64 x.turn] 100

theorem D2In.below {w wr : World} {d : Dp} {l : DLoc} {o : Int} {x : Nd} {lo : Loc} {W W' : World} (h : D2In w wr d l o x lo W) (hb : Below W.heap.size W W') : D2In w wr d l o x lo W' := ⟨h.d1.below hb, h.x.below hb h.x.lt⟩

set_option maxHeartbeats 4000000 in
theorem implDumpOk_any (d : Dp) (l : DLoc) (w : World) (hD : DpIn w d l) (hfd : d.Fits) :
    Calls Tryz.prog 96 #[dpV d l] w fun e w' => Below w.heap.size w w' ∧ e = .returned (.bool d.ok) := by
  have hln := hfd.ln
  have hm := hfd.m
  unfold maxLen at hln hm
  unfold dpV
  have HEND : Hid (∀ (c0 : Array Value) (t0 : TypeId), Below w.heap.size w (w.alloc (.cells c0 t0))) := fun c0 t0 => (Below.refl _ _).alloc (Nat.le_refl _) _
  by_cases h1 : d.since < 0
  · have hb1 : decide (d.since < 0) = true := by simp; omega
    have HX : Hid (false = d.ok) := head_1 h1
    go_enter Tryz.func96, Tryz.ntmps96
    go_wp2_with fail
    go_ret
    exact ⟨HEND.out _ _, ret_bool HX.out⟩
  have hb1 : decide (d.since < 0) = false := by simp; omega
  by_cases h2 : d.date < d.since
  · have hb2 : decide (d.date < d.since) = true := by simp; omega
    have HX : Hid (false = d.ok) := head_2 h2
    go_enter Tryz.func96, Tryz.ntmps96
    go_wp2_with fail
    go_ret
    exact ⟨HEND.out _ _, ret_bool HX.out⟩
  have hb2 : decide (d.date < d.since) = false := by simp; omega
  by_cases h3 : d.date < 1 ∨ 1000 < d.date
  · have HX : Hid (false = d.ok) := h3.elim head_3 head_4
    have HT : Hid (turnIn d.date 1000 = false) := turnIn_no h3
    clear h3
    go_enter Tryz.func96, Tryz.ntmps96
    go_wp2_with fail
    refine (turnOk_any d.date 1000 _).mono ?_
    rintro e w' ⟨rfl, rfl⟩
    rw [HT.out]
    go_wp2_with fail
    go_ret
    exact ⟨HEND.out _ _, ret_bool HX.out⟩
  have h3a : ¬ d.date < 1 := fun h => h3 (Or.inl h)
  have h3b : ¬ 1000 < d.date := fun h => h3 (Or.inr h)
  have HT : Hid (turnIn d.date 1000 = true) := turnIn_yes (by omega) (by omega)
  clear h3
  by_cases h5 : d.ln < 1
  · have hb5 : decide ((d.ln : Int) < 1) = true := by simp; omega
    have HX : Hid (false = d.ok) := head_5 h5
    clear h5
    go_enter Tryz.func96, Tryz.ntmps96
    go_wp2_with fail
    refine (turnOk_any d.date 1000 _).mono ?_
    rintro e w' ⟨rfl, rfl⟩
    rw [HT.out]
    go_wp2_with fail
    go_ret
    exact ⟨HEND.out _ _, ret_bool HX.out⟩
  have hb5 : decide ((d.ln : Int) < 1) = false := by simp; omega
  by_cases h6 : 10 < d.ln
  · have hb6 : decide ((10 : Int) < (d.ln : Int)) = true := by simp; omega
    have HX : Hid (false = d.ok) := head_6 h6
    go_enter Tryz.func96, Tryz.ntmps96
    go_wp2_with fail
    refine (turnOk_any d.date 1000 _).mono ?_
    rintro e w' ⟨rfl, rfl⟩
    rw [HT.out]
    go_wp2_with fail
    go_ret
    exact ⟨HEND.out _ _, ret_bool HX.out⟩
  have hb6 : decide ((10 : Int) < (d.ln : Int)) = false := by simp; omega
  have h0n : 0 < d.ln := by omega
  have h0i : (0 : Int) < (d.ln : Int) := by omega
  have h10 : d.ln ≤ 10 := by omega
  obtain ⟨b, off, hA, hlt2, hc⟩ := hD.live.at h0n
  have g0 := hc 0 h0n
  rw [Nat.add_zero] at g0
  have hbne : b ≠ w.heap.size := by omega
  have HLA : Hid (l.lA = some ⟨b, off, none⟩) := hA
  rw [hA]
  clear hc hA
  cases h7 : d.live 0 with
  | false =>
    have HX : Hid (false = d.ok) := head_7 h7
    rw [h7] at g0
    clear h7
    go_enter Tryz.func96, Tryz.ntmps96
    go_wp2_with fail
    refine (turnOk_any d.date 1000 _).mono ?_
    rintro e w' ⟨rfl, rfl⟩
    rw [HT.out]
    go_wp2_with fail
    go_ret
    exact ⟨HEND.out _ _, ret_bool HX.out⟩
  | true =>
  have HH : Hid (headIn d = true) := head_yes h1 h2 h3a h3b h5 h6 h7
  rw [h7] at g0
  clear h7
  go_enter Tryz.func96, Tryz.ntmps96
  go_wp2_with fail
  refine (turnOk_any d.date 1000 _).mono ?_
  rintro e w' ⟨rfl, rfl⟩
  rw [HT.out]
  go_wp2_with fail
  refine at_world (F := New1 w _ _) (new1 w _ _) ?_
  rintro W ⟨hp, hb, hs⟩
  have hbl := bitsOfList_any l.lA d.ln l.lc d.live W (hD.live.below (Nat.le_refl _) hb) h10
  rw [HLA.out] at hbl
  refine hbl.mono ?_
  rintro e w' ⟨rfl, rfl⟩
  have HW : Hid (D1In w d l 64 w') := ⟨by rw [HLA.out]; exact hp, hb⟩
  have t3 : w'.cell? ⟨w.heap.size, 3, none⟩ = some (.slice l.iA d.m l.ic) := hp.cell 3
  clear hp hb hs hbl
  generalize hbv : (bvv d.live d.ln : Nat) = bv
  have HBV : Hid (bvv d.live d.ln = bv) := hbv
  clear hbv
  go_wp2_with fail
  go_loopw [4, 46] (fun v i wr => ∃ k : Nat, k ≤ d.m ∧ i = .int .i64 k ∧ v = .int .i64 (lastOf d k) ∧ D1In w d l 64 wr ∧ itsIn d k = true) (fun _ i _ => d.m - (intOf i).toNat)
  case atStart => exact ⟨0, Nat.zero_le _, rfl, rfl, HW.out, rfl⟩
  case round =>
    obtain ⟨k, hk, rfl, rfl, hin, heq⟩ := hrel
    have hwl := hin.p.lt
    by_cases hlt : k < d.m
    · obtain ⟨b', off', hA', hlt2', hc'⟩ := (hD.items.below (Nat.le_refl _) hin.bel).at hlt
      obtain ⟨c0, c1, c2, c3, c4, c5, hN⟩ := hc' k hlt
      have hIA : Hid (l.iA = some ⟨b', off', none⟩) := hA'
      have hlti : (k : Int) < (d.m : Int) := by omega
      have hb'ne : b' ≠ wr.heap.size := by omega
      have hwne : w.heap.size ≠ wr.heap.size := by omega
      have HNI : Hid (NdIn wr (d.nd k) (l.L k)) := hN
      have HIN : Hid (D1In w d l 64 wr ∧ itsIn d k = true) := ⟨hin, heq⟩
      have ho := hfd.ino k hlt
      have hW2 : D2In w wr d l (d.ino k) (d.nd k) (l.L k) (wr.alloc (.cells #[.int .i64 (d.ino k), .int .i64 (d.nd k).kind, .string (d.nd k).text, .slice (l.L k).nA (d.nd k).nn (l.L k).nc, .slice (l.L k).kA (d.nd k).kn (l.L k).kc, .int .i64 (d.nd k).turn] 100)) := ⟨hin.below ((Below.refl _ _).alloc (Nat.le_refl _) _), Blk.new wr _ _⟩
      have HW2 : Hid _ := hW2
      have HNI2 : Hid (NdIn (wr.alloc (.cells #[.int .i64 (d.ino k), .int .i64 (d.nd k).kind, .string (d.nd k).text, .slice (l.L k).nA (d.nd k).nn (l.L k).nc, .slice (l.L k).kA (d.nd k).kn (l.L k).kc, .int .i64 (d.nd k).turn] 100)) (d.nd k) (l.L k)) := hN.below (Nat.le_refl _) ((Below.refl _ _).alloc (Nat.le_refl _) _)
      clear hc' hN hin heq hW2
      rw [hA']
      clear hA'
      by_cases hlo : d.ino k ≤ lastOf d k
      · have hb8 : decide (d.ino k ≤ lastOf d k) = true := by simp; omega
        have HX : Hid (false = d.ok) := ok_bad hlt (last_low hlo)
        clear hlo
        go_wp2_with fail
        go_ret
        exact ⟨HW2.out.d1.bel, ret_bool HX.out⟩
      · have hb8 : decide (d.ino k ≤ lastOf d k) = false := by simp; omega
        have HLO : Hid (¬ d.ino k ≤ lastOf d k) := hlo
        clear hlo
        go_wp2_with fail
        refine at_world (F := fun W => D2In w wr d l (d.ino k) (d.nd k) (l.L k) W ∧ NdIn W (d.nd k) (l.L k)) ⟨HW2.out, HNI2.out⟩ ?_
        rintro W ⟨hd2, hni⟩
        have hha := has_any d.live d.ln (d.ino k) W h10 ho
        rw [HBV.out] at hha
        refine hha.mono ?_
        rintro e w2 ⟨rfl, rfl⟩
        have x0 : w2.cell? ⟨wr.heap.size, 0, none⟩ = some (.int .i64 (d.ino k)) := hd2.x.cell 0
        have x1 : w2.cell? ⟨wr.heap.size, 1, none⟩ = some (.int .i64 (d.nd k).kind) := hd2.x.cell 1
        have x2 : w2.cell? ⟨wr.heap.size, 2, none⟩ = some (.string (d.nd k).text) := hd2.x.cell 2
        have x3 : w2.cell? ⟨wr.heap.size, 3, none⟩ = some (.slice (l.L k).nA (d.nd k).nn (l.L k).nc) := hd2.x.cell 3
        have x4 : w2.cell? ⟨wr.heap.size, 4, none⟩ = some (.slice (l.L k).kA (d.nd k).kn (l.L k).kc) := hd2.x.cell 4
        have x5 : w2.cell? ⟨wr.heap.size, 5, none⟩ = some (.int .i64 (d.nd k).turn) := hd2.x.cell 5
        have HD2 : Hid (D2In w wr d l (d.ino k) (d.nd k) (l.L k) w2 ∧ NdIn w2 (d.nd k) (l.L k)) := ⟨hd2, hni⟩
        clear hd2 hni hha HW2 HNI2 c0 c1 c2 c3 c4 c5 HNI
        cases hlv : liveIn d.ln d.live (d.ino k) with
        | false =>
          have HX : Hid (false = d.ok) := ok_bad hlt (step_item (it_dead (x := d.nd k) hlv).symm)
          clear hlv
          go_wp2_with fail
          go_ret
          exact ⟨HD2.out.1.d1.bel, ret_bool HX.out⟩
        | true =>
          have HL : Hid (liveIn d.ln d.live (d.ino k) = true) := hlv
          have ho0 : 0 ≤ d.ino k := by
            unfold liveIn at hlv
            simp at hlv
            exact hlv.1.1
          clear hlv
          go_wp2_with fail
          have hio := itemOk_any d (d.ino k) (d.nd k) (l.L k) w2 HD2.out.2 (hfd.nds k hlt) h10 ho0
          rw [HBV.out] at hio
          refine hio.mono ?_
          rintro e w3 ⟨hb3, rfl⟩
          have hd3 := HD2.out.1.below hb3
          have X0 : w3.cell? ⟨wr.heap.size, 0, none⟩ = some (.int .i64 (d.ino k)) := hd3.x.cell 0
          have X5 : w3.cell? ⟨wr.heap.size, 5, none⟩ = some (.int .i64 (d.nd k).turn) := hd3.x.cell 5
          have T0 : w3.cell? ⟨w.heap.size, 0, none⟩ = some (.int .i64 d.since) := hd3.d1.p.cell 0
          have T1 : w3.cell? ⟨w.heap.size, 1, none⟩ = some (.int .i64 d.date) := hd3.d1.p.cell 1
          have HD3 : Hid (D1In w d l 64 w3) := hd3.d1
          clear hb3 hd3 hio HD2 x0 x1 x2 x3 x4 x5
          cases hnd : nodeIn d (d.ino k) (d.nd k) with
          | false =>
            have HX : Hid (false = d.ok) := ok_bad hlt (step_item (by unfold itIn; rw [hnd]; simp))
            clear hnd
            go_wp2_with fail
            go_ret
            exact ⟨HD3.out.bel, ret_bool HX.out⟩
          | true =>
            have HND : Hid (nodeIn d (d.ino k) (d.nd k) = true) := hnd
            clear hnd
            by_cases h8 : (d.nd k).turn ≤ d.since
            · have hb9 : decide ((d.nd k).turn ≤ d.since) = true := by simp; omega
              have HX : Hid (false = d.ok) := ok_bad hlt (step_item (it_turn (o := d.ino k) (by unfold turnedIn; rw [decide_eq_false (show ¬ d.since < (d.nd k).turn by omega)]; rfl)).symm)
              clear h8
              go_wp2_with fail
              go_ret
              exact ⟨HD3.out.bel, ret_bool HX.out⟩
            · have hb9 : decide ((d.nd k).turn ≤ d.since) = false := by simp; omega
              by_cases h9 : d.date < (d.nd k).turn
              · have hb10 : decide (d.date < (d.nd k).turn) = true := by simp; omega
                have HX : Hid (false = d.ok) := ok_bad hlt (step_item (it_turn (o := d.ino k) (by unfold turnedIn; rw [decide_eq_false (show ¬ (d.nd k).turn ≤ d.date by omega)]; simp)).symm)
                clear h8 h9
                go_wp2_with fail
                go_ret
                exact ⟨HD3.out.bel, ret_bool HX.out⟩
              · have hb10 : decide (d.date < (d.nd k).turn) = false := by simp; omega
                have HI : Hid (itIn d (d.ino k) (d.nd k) = true) := by
                  show _ = _
                  rw [← it_node HL.out (by unfold turnedIn; rw [decide_eq_true (show d.since < (d.nd k).turn by omega), decide_eq_true (show (d.nd k).turn ≤ d.date by omega)]; rfl)]
                  exact HND.out
                have HS : Hid (stepIn d k = true) := last_more (by have := HLO.out; omega) HI.out
                clear h8 h9
                go_wp2_with fail
                go_roundw
                case rel => exact ⟨k + 1, by omega, by go_num, by rw [last_succ], HD3.out, itsIn_succ HIN.out.2 HS.out⟩
                case measure => simp [intOf]; omega
    · obtain rfl : k = d.m := by omega
      have HK : Hid (true = d.ok ∧ Below w.heap.size w wr) := ⟨by unfold Dp.ok; rw [HH.out, heq]; rfl, hin.bel⟩
      clear hin heq
      go_wp2
      go_ret
      exact ⟨HK.out.2, ret_bool HK.out.1⟩
end Go.Proofs.YtakifcobofkheabGreatDoor

/-
  What is known of the library functions that the program calls, laid at this program.
-/
namespace Go.Proofs.YtakifcobofkheabGreatDoor
open Go.Shelf
def Tryz.laysM316_ren : Go.Shelf.Ren := ⟨fun | 316 => 126 | n => n, fun | 9 => 9 | 3 => 3 | 4 => 4 | 37 => 101 | 0 => 0 | 127 => 177 | 5 => 5 | n => n, fun | n => n⟩
theorem Tryz.laysM316 : Go.Proofs.LaysM.n316 Tryz.prog Tryz.laysM316_ren := {
  mixed := by kernel_rfl
  f316 := Tryz.func126.trans (congrArg some (by kernel_rfl))
  t0 := Tryz.underlying0
  a0 := Tryz.isAgg0
  z0 := Tryz.sizeOf0
  v0 := Tryz.zeroValue0
  t3 := Tryz.underlying3
  a3 := Tryz.isAgg3
  z3 := Tryz.sizeOf3
  v3 := Tryz.zeroValue3
  t4 := Tryz.underlying4
  a4 := Tryz.isAgg4
  z4 := Tryz.sizeOf4
  v4 := Tryz.zeroValue4
  t9 := Tryz.underlying9
  a9 := Tryz.isAgg9
  z9 := Tryz.sizeOf9
  v9 := Tryz.zeroValue9
  t37 := Tryz.underlying101
  a37 := Tryz.isAgg101
  z37 := Tryz.sizeOf101
  v37 := Tryz.zeroValue101
  t127 := Tryz.underlying177
  a127 := Tryz.isAgg177
  z127 := Tryz.sizeOf177
  v127 := Tryz.zeroValue177
  t5 := Tryz.underlying5
  a5 := Tryz.isAgg5
  z5 := Tryz.sizeOf5
  v5 := Tryz.zeroValue5
  i0 := by kernel_rfl
  i3 := by kernel_rfl
  i4 := by kernel_rfl
  i5 := by kernel_rfl
  i9 := by kernel_rfl
  i37 := by kernel_rfl
  i127 := by kernel_rfl }
open Go.RowKit in
theorem Tryz.stringslite_Clone (s : ByteArray) (w : World) (hlim : s.size ≤ 281474976710656) :
    Calls Tryz.prog 126 #[.string s] w fun e w' => e = .returned (.string s) ∧ Below w.heap.size w w' := Any.stringslite_Clone Tryz.laysM316 s w hlim
def Tryz.lays112_ren : Go.Shelf.Ren := ⟨fun | 112 => 84 | n => n, fun | 28 => 26 | 3 => 3 | 4 => 4 | 0 => 0 | n => n, fun | n => n⟩
theorem Tryz.lays112 : Go.Proofs.Lays.n112 Tryz.prog Tryz.lays112_ren := {
  mixed := by kernel_rfl
  f112 := Tryz.func84.trans (congrArg some (by kernel_rfl))
  t0 := Tryz.underlying0
  a0 := Tryz.isAgg0
  z0 := Tryz.sizeOf0
  v0 := Tryz.zeroValue0
  t3 := Tryz.underlying3
  a3 := Tryz.isAgg3
  z3 := Tryz.sizeOf3
  v3 := Tryz.zeroValue3
  t4 := Tryz.underlying4
  a4 := Tryz.isAgg4
  z4 := Tryz.sizeOf4
  v4 := Tryz.zeroValue4
  t28 := Tryz.underlying26
  a28 := Tryz.isAgg26
  z28 := Tryz.sizeOf26
  v28 := Tryz.zeroValue26 }
open Go.RowKit Go.Lib Go.Sort in
theorem Tryz.slices_Reverse_int_arr (blk off cap : Nat) (d : Array Int) (w : World) (hH : Holds encI w blk off d) (hsz : d.size ≤ 9223372036854775807) :
    Calls Tryz.prog 84 #[.slice (some ⟨blk, off, none⟩) d.size cap] w fun e w' => e = .returned (.tuple #[]) ∧ ∃ n, w' = putRow encI (Sort.ahead w n) blk off d.reverse := Any.slices_Reverse_int_arr Tryz.lays112 blk off cap d w hH hsz
open Go.RowKit Go.Lib Go.Sort in
theorem Tryz.slices_Reverse_int (blk off cap : Nat) (zs : List Int) (w : World) (hH : Holds (Value.int .i64) w blk off zs.toArray) (hsz : zs.length ≤ 9223372036854775807) :
    Calls Tryz.prog 84 #[.slice (some ⟨blk, off, none⟩) zs.length cap] w fun e w' => e = .returned (.tuple #[]) ∧ ∃ n, w' = putRow (Value.int .i64) (Sort.ahead w n) blk off zs.reverse.toArray := Any.slices_Reverse_int Tryz.lays112 blk off cap zs w hH hsz
open Go.RowKit Go.Lib Go.Sort in
theorem Tryz.slices_Reverse_int_empty (a : Option Addr) (cap : Nat) (w : World) :
    Calls Tryz.prog 84 #[.slice a 0 cap] w fun e w' => e = .returned (.tuple #[]) ∧ w' = w := Any.slices_Reverse_int_empty Tryz.lays112 a cap w
open Go.RowKit Go.Lib Go.Sort in
theorem Tryz.slices_Reverse_int_cells (b off n c : Nat) (zs : List Int) (w : World) (hz : n ≤ zs.length) (hbig : n ≤ 9223372036854775807) (hc : ∀ j, j < zs.length → w.cell? ⟨b, off + j, none⟩ = some (.int .i64 (zs.getD j 0))) (hf : ∀ j, j < n → w.frozen? ⟨b, off + j, none⟩ = false) :
    Calls Tryz.prog 84 #[.slice (some ⟨b, off, none⟩) n c] w fun e w' => e = .returned (.tuple #[]) ∧ ∃ q, w' = (w.drewN q).setCells b off ((zs.take n).reverse.map (Value.int .i64)) := Any.slices_Reverse_int_cells Tryz.lays112 b off n c zs w hz hbig hc hf
end Go.Proofs.YtakifcobofkheabGreatDoor

/-
  What strings.Clone answers.
-/
namespace Go.Proofs.YtakifcobofkheabGreatDoor
open Go.RowKit Go.Shelf

set_option maxHeartbeats 400000 in
theorem stringsClone_any (s : ByteArray) (w : World) (hs : s.size ≤ 1048576) :
    Calls Tryz.prog 125 #[.string s] w fun e w' => e = .returned (.string s) ∧ Below w.heap.size w w' := by
  go_enter Tryz.func125, Tryz.ntmps125
  go_wp2_with fail
  refine (Tryz.stringslite_Clone s _ (by omega)).mono ?_
  rintro e w1 ⟨rfl, hb⟩
  have HB : Hid (Below w.heap.size w w1) := hb
  clear hb
  go_wp2
  go_ret
  exact ⟨rfl, HB.out⟩
end Go.Proofs.YtakifcobofkheabGreatDoor

/-
  What copyNode of the program answers: a place in new memory.
-/
namespace Go.Proofs.YtakifcobofkheabGreatDoor
open Go.RowKit Go.Deep
set_option linter.unusedVariables false
set_option linter.unusedSimpArgs false

/-- What is known within copyNode. -/
structure CN (w : World) (d : Nd) (l : Loc) (W : World) : Prop where
  p : Blk W w.heap.size #[.int .i64 d.kind, .string d.text, .slice l.nA d.nn l.nc, .slice l.kA d.kn l.kc, .int .i64 d.turn] 28
  r : Blk W (w.heap.size + 1) #[.int .i64 0, .string ByteArray.empty, .slice none 0 0, .slice none 0 0, .int .i64 0] 28
  bel : Below w.heap.size w W

theorem CN.below {w : World} {d : Nd} {l : Loc} {W W' : World} (h : CN w d l W) (hb : Below W.heap.size W W') : CN w d l W' := ⟨h.p.below hb h.p.lt, h.r.below hb h.r.lt, h.bel.trans (hb.mono (by have := h.p.lt; omega))⟩

theorem CN.grown {w : World} {d : Nd} {l : Loc} {W W' : World} {r : Option Nat} (h : CN w d l W) (hg : W.grownBy W' r) (hr : ∀ b, r = some b → w.heap.size + 2 ≤ b) : CN w d l W' := by
  have hp := h.p.lt
  exact ⟨h.p.of_block (hg.block _ h.p.lt (fun e => by have := hr _ e.symm; omega)), h.r.of_block (hg.block _ h.r.lt (fun e => by have := hr _ e.symm; omega)), h.bel.grown hg (by omega) (fun b e => by have := hr b e; omega)⟩

theorem src_text (W : World) (s : ByteArray) : Src (W.alloc (.cells #[.string s] 9)) 1 (.slice (some ⟨W.heap.size, 0, none⟩) 1 1) 1 [.string s] :=
  ⟨rfl, by intro u hu; simp at hu; subst hu; rfl, Or.inr ⟨⟨W.heap.size, 0, none⟩, 1, rfl, fun j u hu => by
    rw [addr_add, Nat.zero_add, (Blk.new W #[.string s] 9).cell j]
    simpa using hu⟩⟩

theorem lst_more (n : Nat) (S : Nat → ByteArray) : strv (lst (n + 1) S) = strv (lst n S) ++ [.string (S n)] := by simp [strv, lst, List.range_succ]

set_option maxHeartbeats 4000000 in
theorem copyNode_any (d : Nd) (l : Loc) (w : World) (hI : NdIn w d l) (hnn : d.nn ≤ 1048576) (hkn : d.kn ≤ 1048576) (htx : d.text.size ≤ 1048576) (hnm : ∀ i, i < d.nn → (d.names i).size ≤ 1048576) :
    Calls Tryz.prog 118 #[ndV d l] w fun e w' => ∃ l', e = .returned (ndV d l') ∧ NewNn w d l' w' := by
  obtain ⟨i0, hi, hz0, hz1, hz2⟩ := info_parts infoStr
  obtain ⟨j0, hj, hy0, hy1, hy2⟩ := info_parts infoInt
  unfold ndV
  go_enter Tryz.func118, Tryz.ntmps118
  go_wp2_with fail
  go_loopw [3, 10] (fun v i wr => ∃ (k : Nat) (na : Option Addr) (nc : Nat), k ≤ d.nn ∧ i = .int .i64 k ∧ v = .slice na k nc ∧ CN w d l wr ∧ wr.ownsRow (w.heap.size + 2) 9 1 (.slice na k nc) k (strv (lst k d.names))) (fun _ i _ => d.nn - (intOf i).toNat)
  case atStart =>
    have h := new2 w #[.int .i64 d.kind, .string d.text, .slice l.nA d.nn l.nc, .slice l.kA d.kn l.kc, .int .i64 d.turn] 28 #[.int .i64 0, .string ByteArray.empty, .slice none 0 0, .slice none 0 0, .int .i64 0] 28
    exact ⟨0, none, 0, Nat.zero_le _, rfl, rfl, ⟨h.b0, h.b1, h.bel⟩, World.ownsRow_nil _ _ _ _⟩
  case round =>
    obtain ⟨k, na, nc, hk, rfl, rfl, hin, hown⟩ := hrel
    have HIN : Hid (CN w d l wr) := hin
    have HOW : Hid (wr.ownsRow (w.heap.size + 2) 9 1 (.slice na k nc) k (strv (lst k d.names))) := hown
    have hwl := hin.r.lt
    clear hin hown
    by_cases hlt : k < d.nn
    · obtain ⟨b, off, hA, hlt2, hc⟩ := (hI.1.below (Nat.le_refl _) HIN.out.bel).at hlt
      have g0 := hc k hlt
      have hlti : (k : Int) < (d.nn : Int) := by omega
      have HA : Hid (l.nA = some ⟨b, off, none⟩) := hA
      rw [hA]
      clear hc hA
      go_wp2_with fail
      refine (stringsClone_any (d.names k) wr (hnm k hlt)).mono ?_
      rintro e W1 ⟨rfl, hb1⟩
      have hC1 := HIN.out.below hb1
      have hO1 := owns_same HOW.out (w' := W1) (fun b hb => hb1.block b (owns_block HOW.out hb).2)
      have hsz1 := hb1.size
      have HC1 : Hid (CN w d l (W1.alloc (.cells #[.string (d.names k)] 9)) ∧ (W1.alloc (.cells #[.string (d.names k)] 9)).ownsRow (w.heap.size + 2) 9 1 (.slice na k nc) k (strv (lst k d.names))) := ⟨hC1.below ((Below.refl _ _).alloc (Nat.le_refl _) _), hO1.alloc _⟩
      clear hb1 hC1 hO1
      go_wp2_with (at_builtin; go_must (refine wpList_append_src (by rfl) _ _ 23 rfl (w.heap.size + 2) 9 i0 (.string ByteArray.empty) 1 16 Tryz.underlying23 hi hz0 hz1 hz2 rfl (by decide) (.slice na k nc) k _ (by rfl) HC1.out.2 _ 1 _ (by rfl) (src_text W1 (d.names k)) (by unfold maxLen; omega) (by omega) (by simp; omega) ?_))
      intro vL W3 hown hgrow hnil hat
      rcases hown.2 with ⟨_, h0⟩ | ⟨gL, cL, cur, hvL, _, _, _⟩
      · omega
      subst hvL
      have HR : Hid (CN w d l W3 ∧ W3.ownsRow (w.heap.size + 2) 9 1 (.slice (some ⟨gL, 0, none⟩) (k + 1) cL) (k + 1) (strv (lst (k + 1) d.names))) := ⟨HC1.out.1.grown hgrow (fun b e => (owns_block HC1.out.2 e).1), by rw [lst_more]; exact hown⟩
      clear hown hgrow hnil hat HC1
      go_wp2_with fail
      go_roundw
      case rel => exact ⟨k + 1, some ⟨gL, 0, none⟩, cL, by omega, by go_num, by go_num, HR.out.1, HR.out.2⟩
      case measure => simp [intOf]; omega
    · obtain rfl : k = d.nn := by omega
      have p3 : wr.cell? ⟨w.heap.size, 3, none⟩ = some (.slice l.kA d.kn l.kc) := HIN.out.p.cell 3
      have HSk : Hid (Src wr 1 (.slice l.kA d.kn l.kc) d.kn (intv0 d.kn d.kids)) := (hI.2.below (Nat.le_refl _) HIN.out.bel).src _
      go_wp2_with (at_builtin; go_must (refine wpList_append_src (by rfl) _ _ 26 rfl (wr.heap.size) 3 j0 (.int .i64 0) 1 8 Tryz.underlying26 hj hy0 hy1 hy2 rfl (by decide) (.slice none 0 0) 0 [] (by rfl) (World.ownsRow_nil _ _ _ _) _ d.kn _ (by rfl) HSk.out (by unfold maxLen; omega) (by omega) (Nat.le_refl _) ?_))
      intro vK W4 hown hgrow hnil hat
      obtain ⟨ka, kc, rfl, hown'⟩ : ∃ ka kc, vK = .slice ka d.kn kc ∧ W4.ownsRow wr.heap.size 3 1 (.slice ka d.kn kc) d.kn (intv0 d.kn d.kids) := by
        try rw [Nat.zero_add, List.nil_append] at hown
        rcases hown.2 with ⟨hv, h0⟩ | ⟨g, cap, cur, hv, _⟩
        · exact ⟨none, 0, by rw [hv, h0], by rw [hv, h0] at hown; rw [h0]; exact hown⟩
        · exact ⟨some ⟨g, 0, none⟩, cap, hv, by rw [hv] at hown; exact hown⟩
      have HC4 : Hid (CN w d l W4) := HIN.out.grown hgrow (fun b e => by simp [Value.ownBlock] at e)
      have HN4 : Hid (W4.ownsRow (w.heap.size + 2) 9 1 (.slice na d.nn nc) d.nn (strv (lst d.nn d.names)) ∧ W4.ownsRow (w.heap.size + 2) 3 1 (.slice ka d.kn kc) d.kn (intv0 d.kn d.kids)) := ⟨owns_kept HOW.out hgrow (fun b _ e => by simp [Value.ownBlock] at e), owns_lower hown' (by omega)⟩
      have HAP : Hid (∀ b, (Value.slice na d.nn nc).ownBlock = some b → (Value.slice ka d.kn kc).ownBlock ≠ some b) := fun b h1 h2 => by
        have a1 := (owns_block HOW.out h1).2
        have a2 := (owns_block hown' h2).1
        omega
      have hwl4 := HC4.out.r.lt
      have HSt : Hid (∀ W, Below W4.heap.size W4 W → W.cell? ⟨w.heap.size, 0, none⟩ = some (.int .i64 d.kind) ∧ W.cell? ⟨w.heap.size, 1, none⟩ = some (.string d.text) ∧ W.cell? ⟨w.heap.size, 4, none⟩ = some (.int .i64 d.turn)) := fun W hW => ⟨(HC4.out.below hW).p.cell 0, (HC4.out.below hW).p.cell 1, (HC4.out.below hW).p.cell 4⟩
      clear hown hown' hgrow hnil hat HSk p3 HOW HIN hwl
      go_wp2_with fail
      refine wp_region_noPanic ?_
      refine wp_region_peel (fun W' => W'.cell? ⟨w.heap.size, 0, none⟩ = some (.int .i64 d.kind) ∧ W'.cell? ⟨w.heap.size, 1, none⟩ = some (.string d.text) ∧ W'.cell? ⟨w.heap.size, 4, none⟩ = some (.int .i64 d.turn)) _ (by kernel_rfl) rfl (by kernel_rfl) ?_ (fun hHeld => ?_)
      · exact HSt.out _ (below_drewN (Below.refl _ _) 1)
      simp only [List.pop_toArray, List.dropLast, List.size_toArray, List.length_cons, List.length_nil, Nat.reduceAdd, Nat.reduceSub, List.getElem_toArray, List.getElem_cons_succ, List.getElem_cons_zero]
      refine peel_take (i := 0) (oi := ?oi0) (v := ?v0) (fun _ _ _ _ _ h => h) hHeld ?hi0 (by kernel_rfl) (by kernel_rfl) (by kernel_rfl) ?hw0 ?hy0 ?rest0
      case hi0 =>
        simp only [List.getElem?_toArray, List.getElem?_cons_zero]
        rfl
      case hw0 => rfl
      case hy0 =>
        intro w hSw
        obtain ⟨s0, s1, s2⟩ := hSw
        go_simp
        try with_reducible rfl
      try simp only [Act.put, List.setIfInBounds_toArray, List.set_cons_zero, List.set_cons_succ]
      refine peel_take (i := 1) (oi := ?oi1) (v := ?v1) (fun _ _ _ _ _ h => h) hHeld ?hi1 (by kernel_rfl) (by kernel_rfl) (by kernel_rfl) ?hw1 ?hy1 ?rest1
      case hi1 =>
        simp only [List.getElem?_toArray, List.getElem?_cons_succ, List.getElem?_cons_zero]
        rfl
      case hw1 => rfl
      case hy1 =>
        intro w hSw
        obtain ⟨s0, s1, s2⟩ := hSw
        go_simp
        try with_reducible rfl
      try simp only [Act.put, List.setIfInBounds_toArray, List.set_cons_zero, List.set_cons_succ]
      refine peel_take (i := 2) (oi := ?oi2) (v := ?v2) (fun _ _ _ _ _ h => h) hHeld ?hi2 (by kernel_rfl) (by kernel_rfl) (by kernel_rfl) ?hw2 ?hy2 ?rest2
      case hi2 =>
        simp only [List.getElem?_toArray, List.getElem?_cons_succ, List.getElem?_cons_zero]
        rfl
      case hw2 => rfl
      case hy2 =>
        intro w hSw
        obtain ⟨s0, s1, s2⟩ := hSw
        go_simp
        try with_reducible rfl
      try simp only [Act.put, List.setIfInBounds_toArray, List.set_cons_zero, List.set_cons_succ]
      refine peel_take (i := 3) (oi := ?oi3) (v := ?v3) (fun _ _ _ _ _ h => h) hHeld ?hi3 (by kernel_rfl) (by kernel_rfl) (by kernel_rfl) ?hw3 ?hy3 ?rest3
      case hi3 =>
        simp only [List.getElem?_toArray, List.getElem?_cons_succ, List.getElem?_cons_zero]
        rfl
      case hw3 => rfl
      case hy3 =>
        intro w hSw
        obtain ⟨s0, s1, s2⟩ := hSw
        go_simp
        try with_reducible rfl
      try simp only [Act.put, List.setIfInBounds_toArray, List.set_cons_zero, List.set_cons_succ]
      refine peel_take (i := 5) (oi := ?oi5) (v := ?v5) (fun _ _ _ _ _ h => h) hHeld ?hi5 (by kernel_rfl) (by kernel_rfl) (by kernel_rfl) ?hw5 ?hy5 ?rest5
      case hi5 =>
        simp only [List.getElem?_toArray, List.getElem?_cons_succ, List.getElem?_cons_zero]
        rfl
      case hw5 => rfl
      case hy5 =>
        intro w hSw
        obtain ⟨s0, s1, s2⟩ := hSw
        go_simp
        try with_reducible rfl
      try simp only [Act.put, List.setIfInBounds_toArray, List.set_cons_zero, List.set_cons_succ]
      refine peel_take (i := 6) (oi := ?oi6) (v := ?v6) (fun _ _ _ _ _ h => h) hHeld ?hi6 (by kernel_rfl) (by kernel_rfl) (by kernel_rfl) ?hw6 ?hy6 ?rest6
      case hi6 =>
        simp only [List.getElem?_toArray, List.getElem?_cons_succ, List.getElem?_cons_zero]
        rfl
      case hw6 => rfl
      case hy6 =>
        intro w hSw
        obtain ⟨s0, s1, s2⟩ := hSw
        go_simp
        try with_reducible rfl
      try simp only [Act.put, List.setIfInBounds_toArray, List.set_cons_zero, List.set_cons_succ]
      refine peel_take (i := 7) (oi := ?oi7) (v := ?v7) (fun _ _ _ _ _ h => h) hHeld ?hi7 (by kernel_rfl) (by kernel_rfl) (by kernel_rfl) ?hw7 ?hy7 ?rest7
      case hi7 =>
        simp only [List.getElem?_toArray, List.getElem?_cons_succ, List.getElem?_cons_zero]
        rfl
      case hw7 => rfl
      case hy7 =>
        intro w hSw
        obtain ⟨s0, s1, s2⟩ := hSw
        go_simp
        try with_reducible rfl
      try simp only [Act.put, List.setIfInBounds_toArray, List.set_cons_zero, List.set_cons_succ]
      refine peel_take (i := 8) (oi := ?oi8) (v := ?v8) (fun _ _ _ _ _ h => h) hHeld ?hi8 (by kernel_rfl) (by kernel_rfl) (by kernel_rfl) ?hw8 ?hy8 ?rest8
      case hi8 =>
        simp only [List.getElem?_toArray, List.getElem?_cons_succ, List.getElem?_cons_zero]
        rfl
      case hw8 => rfl
      case hy8 =>
        intro w hSw
        obtain ⟨s0, s1, s2⟩ := hSw
        go_simp
        try with_reducible rfl
      try simp only [Act.put, List.setIfInBounds_toArray, List.set_cons_zero, List.set_cons_succ]
      refine wpAnyH_ready (rs := [4]) (by kernel_rfl) (by simp) ?_
      refine AllReadyH.cons (o := ?o4) ?ho4 (fun K hK => ?st4) AllReadyH.nil
      case ho4 =>
        simp only [List.getElem?_toArray, List.getElem?_cons_succ, List.getElem?_cons_zero]
        rfl
      go_simp
      refine (stringsClone_any d.text W4.drew htx).mono ?_
      rintro e W5 ⟨rfl, hb5⟩
      have hb5' : Below W4.heap.size W4 W5 := (below_drewN (Below.refl _ _) 1).trans hb5
      refine hK.out _ _ (HSt.out W5 hb5') (fun hHeld => ?re4)
      clear hK K
      try simp only [Act.put, List.setIfInBounds_toArray, List.set_cons_zero, List.set_cons_succ]
      refine wpAnyH_ready (rs := [9]) (by kernel_rfl) (by simp) ?_
      refine AllReadyH.cons (o := ?o9) ?ho9 (fun K hK => ?st9) AllReadyH.nil
      case ho9 =>
        simp only [List.getElem?_toArray, List.getElem?_cons_succ, List.getElem?_cons_zero]
        rfl
      go_simp
      refine hK.out _ _ (HSt.out W5 hb5') (fun hHeld => ?re9)
      clear hK K
      try simp only [Act.put, List.setIfInBounds_toArray, List.set_cons_zero, List.set_cons_succ]
      refine wpAnyH_done (by kernel_rfl) ?_ _
      show Oper.wp _ _ _ _ _ _
      have hC5 := HC4.out.below hb5'
      have r0 : W5.cell? ⟨w.heap.size + 1, 0, none⟩ = some (.int .i64 0) := hC5.r.cell 0
      have r1 : W5.cell? ⟨w.heap.size + 1, 1, none⟩ = some (.string ByteArray.empty) := hC5.r.cell 1
      have r2 : W5.cell? ⟨w.heap.size + 1, 2, none⟩ = some (.slice none 0 0) := hC5.r.cell 2
      have r3 : W5.cell? ⟨w.heap.size + 1, 3, none⟩ = some (.slice none 0 0) := hC5.r.cell 3
      have r4 : W5.cell? ⟨w.heap.size + 1, 4, none⟩ = some (.int .i64 0) := hC5.r.cell 4
      have g0 := hC5.r.frozen 0
      have g1 := hC5.r.frozen 1
      have g2 := hC5.r.frozen 2
      have g3 := hC5.r.frozen 3
      have g4 := hC5.r.frozen 4
      have HC5 : Hid (CN w d l W5 ∧ W5.ownsRow (w.heap.size + 2) 9 1 (.slice na d.nn nc) d.nn (strv (lst d.nn d.names)) ∧ W5.ownsRow (w.heap.size + 2) 3 1 (.slice ka d.kn kc) d.kn (intv0 d.kn d.kids)) := ⟨hC5, owns_same HN4.out.1 (fun b hb => hb5'.block b (owns_block HN4.out.1 hb).2), owns_same HN4.out.2 (fun b hb => hb5'.block b (owns_block HN4.out.2 hb).2)⟩
      clear hC5 hb5 hb5' HSt hHeld HC4 HN4
      go_simp
      refine NoPanic.normal ?_
      go_wp2_with fail
      refine end_world (F := fun W => Blk W (w.heap.size + 1) #[.int .i64 d.kind, .string d.text, .slice na d.nn nc, .slice ka d.kn kc, .int .i64 d.turn] 28 ∧ NewNn w d ⟨na, nc, ka, kc⟩ W) ?_ ?_
      · obtain ⟨hc, h1, h2⟩ := HC5.out
        refine ⟨((((hc.r.set 0 _).set 1 _).set 2 _).set 3 _).set 4 _, bel_put (bel_put (bel_put (bel_put (bel_put hc.bel _ (by omega)) _ (by omega)) _ (by omega)) _ (by omega)) _ (by omega), ?_, ?_, HAP.out⟩
        · refine owns_lower (owns_same h1 fun b hb => ?_) (by omega)
          have := (owns_block h1 hb).1
          have hne : b ≠ w.heap.size + 1 := by omega
          exact ((((blk_setCell_other _ _ _ _ hne).trans (blk_setCell_other _ _ _ _ hne)).trans (blk_setCell_other _ _ _ _ hne)).trans (blk_setCell_other _ _ _ _ hne)).trans (blk_setCell_other _ _ _ _ hne)
        · refine owns_lower (owns_same h2 fun b hb => ?_) (by omega)
          have := (owns_block h2 hb).1
          have hne : b ≠ w.heap.size + 1 := by omega
          exact ((((blk_setCell_other _ _ _ _ hne).trans (blk_setCell_other _ _ _ _ hne)).trans (blk_setCell_other _ _ _ _ hne)).trans (blk_setCell_other _ _ _ _ hne)).trans (blk_setCell_other _ _ _ _ hne)
      clear HC5 r0 r1 r2 r3 r4 g0 g1 g2 g3 g4
      rintro W ⟨hr, hN⟩
      have r0 : W.cell? ⟨w.heap.size + 1, 0, none⟩ = some (.int .i64 d.kind) := hr.cell 0
      have r1 : W.cell? ⟨w.heap.size + 1, 1, none⟩ = some (.string d.text) := hr.cell 1
      have r2 : W.cell? ⟨w.heap.size + 1, 2, none⟩ = some (.slice na d.nn nc) := hr.cell 2
      have r3 : W.cell? ⟨w.heap.size + 1, 3, none⟩ = some (.slice ka d.kn kc) := hr.cell 3
      have r4 : W.cell? ⟨w.heap.size + 1, 4, none⟩ = some (.int .i64 d.turn) := hr.cell 4
      exact bodyPost_ret (v := .agg #[.int .i64 d.kind, .string d.text, .slice na d.nn nc, .slice ka d.kn kc, .int .i64 d.turn]) (by simp [results, Tryz.results118, go_sem, r0, r1, r2, r3, r4]) rfl ⟨⟨na, nc, ka, kc⟩, rfl, hN⟩
end Go.Proofs.YtakifcobofkheabGreatDoor

/-
  What BackThen of the program answers.
-/
namespace Go.Proofs.YtakifcobofkheabGreatDoor
open Go.RowKit Go.Maps Go.WideMaps Go.Deep
set_option linter.unusedVariables false
set_option linter.unusedSimpArgs false
set_option linter.unnecessarySimpa false

theorem zeroNodeV (w : World) : (zeroValue 28).run Tryz.prog w = .ok (.agg #[.int .i64 0, .string ByteArray.empty, .slice none 0 0, .slice none 0 0, .int .i64 0]) w := by kernel_rfl

theorem run_makeMapN (w : World) : (Instr.makeMap 142 none).run Tryz.prog w = .ok (.map (some w.heap.size)) (w.alloc (.map #[] 0)) := by
  simp [Instr.makeMap, run_underlying Tryz.underlying142, Result.andThen]

theorem Th.grown {w : World} {a b : Dp} {la lb : DLoc} {W W' : World} (h : Th w a b la lb W) {q : Nat} (hg : W.grownBy W' (some q)) (hq : w.heap.size + 1 + 1 < q) : Th w a b la lb W' :=
  ⟨blk_grown h.p hg (fun e => by have := Option.some.inj e; omega), blk_grown h.q hg (fun e => by have := Option.some.inj e; omega), blk_grown h.r hg (fun e => by have := Option.some.inj e; omega), h.bel.grown hg h.bel.size (fun k e => by have := Option.some.inj e; omega)⟩

def ThY (w : World) (bm j : Nat) : Prop := ThX w j ∨ j = bm

theorem Th.of2 {w W0 : World} {a b : Dp} {la lb : DLoc} (h : Th w a b la lb W0) {bm B : Nat} {since date : Int} {n : Nat} {Z : Nat → Bool} {V : Nat} {lA : Option Addr} {lc m : Nat} {ia : Option Addr} {ic : Nat} {O : Nat → Int} {E : Nat → Nd} {M : Nat → Loc} {W : World} (g : GOf w W0 B (ThY w bm) since date n Z V lA lc m ia ic O E M W) : Th w a b la lb W :=
  ⟨h.p.of_block (g.kept _ (Or.inl (Or.inl rfl))), h.q.of_block (g.kept _ (Or.inl (Or.inr (Or.inl rfl)))), h.r.of_block (g.kept _ (Or.inl (Or.inr (Or.inr rfl)))), g.bel⟩

theorem map_block {P : Program} {k : TypeId} {R : Value → Option (DataW Value × List MemPlace)} {w W : World} {b n : Nat} {D : DataW Value} (h : w.ownsMap P k R b n D) (e : W.heap[b]? = w.heap[b]?) : W.ownsMap P k R b n D := by
  obtain ⟨es, clock, hb, F, hs, hD⟩ := h
  exact ⟨es, clock, e.trans hb, F, hs, hD⟩

/-- What a look into the map tells. -/
theorem then_look {a b : Dp} {la lb : DLoc} {w W : World} (hA : DpIn w a la) (hB : DpIn w b lb) (hsa : a.size ≤ 1048576) (hsb : b.size ≤ 1048576) (hbo : b.ok = true) {bm n : Nat} {M : DataW Value} (hown : W.ownsMap Tryz.prog 3 heldR bm n M)
    (hK : Knows M (learn (learn (fun _ => none) a.ino a.nd la.L a.m) b.ino b.nd lb.L b.m)) {k : Nat} (hk : k < 1000) :
    ∃ (x : Nd) (l : Loc) (th : Bool), (Instr.lookup 142 (.map (some bm)) (.int .i64 (k : Int)) true).run Tryz.prog W = .ok (.tuple #[.agg #[.int .i64 x.kind, .string x.text, .slice l.nA x.nn l.nc, .slice l.kA x.kn l.kc, .int .i64 x.turn], .bool th]) W ∧
      ((th = false ∧ thenNd a b (k : Int) = none) ∨ (th = true ∧ (∀ W', Below w.heap.size w W' → NdIn W' x l) ∧ (x.nn ≤ 1048576 ∧ x.kn ≤ 1048576 ∧ x.text.size ≤ 1048576 ∧ ∀ j, j < x.nn → (x.names j).size ≤ 1048576) ∧ thenNd a b (k : Int) = if b.live k then some x else none)) := by
  have hkey : keyOf Tryz.prog 3 (.int .i64 (k : Int)) = some (.int .i64 (k : Int)) := keyOf_int_mk Tryz.underlying3 (WalkArith.wf_i64 (by omega))
  obtain ⟨v, ps, hrun, hv⟩ := hown.look_ok (int_keyed Tryz.underlying3) Tryz.underlying142 (zeroNodeV W) (zd := .held (.agg #[.int .i64 0, .string ByteArray.empty, .slice none 0 0, .slice none 0 0, .int .i64 0])) (zp := []) rfl hkey
  rw [hK.has] at hrun
  have hlx := learn_ix (learn (fun _ => none) a.ino a.nd la.L a.m) b.ino b.nd lb.L (k : Int) b.m
  have hly := learn_ix (fun _ => none) a.ino a.nd la.L (k : Int) a.m
  have hval : ∀ u, learn (learn (fun _ => none) a.ino a.nd la.L a.m) b.ino b.nd lb.L b.m (k : Int) = some u → v = u := fun u hu => by
    rw [hK.at_ _ _ hu] at hv
    unfold heldR at hv
    cases hv
    rfl
  cases hob : ixOf b.ino b.m (k : Int) with
  | some j =>
    rw [hob] at hlx
    obtain rfl := hval _ hlx
    rw [hlx] at hrun
    have hj := ixOf_some hob
    have hlv : b.live k = true := by have := (ok_live hbo hj.1).2.2; rw [hj.2] at this; exact this
    refine ⟨b.nd j, lb.L j, true, hrun, Or.inr ⟨rfl, fun W' hW => ?_, dp_of_small hsb j hj.1, by unfold thenNd; rw [hob]; simp [hlv]⟩⟩
    obtain ⟨_, _, _, _, hc⟩ := (hB.items.below (Nat.le_refl _) hW).at hj.1
    exact (hc j hj.1).2.2.2.2.2.2
  | none =>
    rw [hob] at hlx
    cases hoa : ixOf a.ino a.m (k : Int) with
    | some j =>
      rw [hoa] at hly
      rw [hly] at hlx
      obtain rfl := hval _ hlx
      rw [hlx] at hrun
      have hj := ixOf_some hoa
      refine ⟨a.nd j, la.L j, true, hrun, Or.inr ⟨rfl, fun W' hW => ?_, dp_of_small hsa j hj.1, by unfold thenNd; rw [hob, hoa]; simp⟩⟩
      obtain ⟨_, _, _, _, hc⟩ := (hA.items.below (Nat.le_refl _) hW).at hj.1
      exact (hc j hj.1).2.2.2.2.2.2
    | none =>
      rw [hoa] at hly
      rw [hly] at hlx
      rw [hlx] at hrun
      have hno := hK.has (k : Int)
      rw [hlx] at hno
      rw [atKey_of_not_has hno] at hv
      unfold heldR at hv
      cases hv
      exact ⟨⟨0, ByteArray.empty, 0, fun _ => ByteArray.empty, 0, fun _ => 0, 0⟩, ⟨none, 0, none, 0⟩, false, hrun, Or.inl ⟨rfl, by unfold thenNd; rw [hob, hoa]; simp⟩⟩
end Go.Proofs.YtakifcobofkheabGreatDoor

/-
  What learnPlaces and livePlaces of the program do: places of a tree are put into a map, and places are made of what is known of them.
-/
namespace Go.Proofs.YtakifcobofkheabGreatDoor
open Go.RowKit Go.Maps Go.WideMaps Go.Deep
set_option linter.unusedVariables false
set_option linter.unusedSimpArgs false
set_option linter.unnecessarySimpa false

/-- What is known behind the first k places of a tree. -/
def learnT (f : Int → Option Value) (D : Nat → Nd) (L : Nat → Loc) : Nat → Int → Option Value
  | 0 => f
  | k + 1 => fun y => if y = (k : Int) ∧ (D k).kind ≠ 0 then some (ndV (D k) (L k)) else learnT f D L k y

theorem learnT_out (f : Int → Option Value) (D : Nat → Nd) (L : Nat → Loc) {z : Nat} : ∀ n, n ≤ z → learnT f D L n (z : Int) = f z
  | 0, _ => rfl
  | n + 1, h => by
    unfold learnT
    rw [if_neg (by rintro ⟨e, _⟩; omega)]
    exact learnT_out f D L n (by omega)

theorem learnT_at (f : Int → Option Value) (D : Nat → Nd) (L : Nat → Loc) {z : Nat} : ∀ n, z < n → learnT f D L n (z : Int) = if (D z).kind ≠ 0 then some (ndV (D z) (L z)) else f z
  | 0, h => by omega
  | n + 1, h => by
    unfold learnT
    by_cases e : z = n
    · subst e
      by_cases g : (D z).kind ≠ 0
      · rw [if_pos ⟨rfl, g⟩, if_pos g]
      · rw [if_neg (fun h => g h.2), if_neg g]; exact learnT_out f D L z (Nat.le_refl _)
    · rw [if_neg (by rintro ⟨e', _⟩; omega)]
      exact learnT_at f D L n (by omega)

set_option maxHeartbeats 1000000 in
theorem learnPlaces_any (b n0 : Nat) (M0 : DataW Value) (f : Int → Option Value) (a : Option Addr) (n c : Nat) (now : Int) (D : Nat → Nd) (L : Nat → Loc) (w : World) (hS : IsNds w a n D L) (hn : n ≤ 10) (hm : n0 + n ≤ 1000) (hown : w.ownsMap Tryz.prog 3 heldR b n0 M0) (hK : Knows M0 f) :
    Calls Tryz.prog 97 #[.map (some b), trV a n c now] w fun e w' => (∃ v, e = .returned v) ∧ w.grownBy w' (some b) ∧ ∃ q M, q ≤ n0 + n ∧ w'.ownsMap Tryz.prog 3 heldR b q M ∧ Knows M (learnT f D L n) := by
  unfold trV
  go_enter Tryz.func97, Tryz.ntmps97
  go_wp2
  go_loopw [9] (fun i wr => ∃ k q : Nat, k ≤ n ∧ i = .int .i64 k ∧ q ≤ n0 + k ∧ w.grownBy wr (some b) ∧ ∃ M, wr.ownsMap Tryz.prog 3 heldR b q M ∧ Knows M (learnT f D L k)) (fun i _ => n - (intOf i).toNat)
  case atStart => exact ⟨0, n0, Nat.zero_le _, rfl, Nat.le_refl _, grown_below ((Below.refl _ _).alloc (Nat.le_refl _) _), M0, hown.alloc _, hK⟩
  case round =>
    obtain ⟨k, q, hk, rfl, hq, hg, M, ho, hkn⟩ := hrel
    by_cases hlt : k < n
    · obtain ⟨b1, off, hA, hbl, hc⟩ := hS.at hlt
      obtain ⟨e0, e1, e2, e3, e4, _⟩ := hc k hlt
      have c0 := map_cell hown hg e0 hbl
      have c1 := map_cell hown hg e1 hbl
      have c2 := map_cell hown hg e2 hbl
      have c3 := map_cell hown hg e3 hbl
      have c4 := map_cell hown hg e4 hbl
      have hlti : (k : Int) < (n : Int) := by omega
      have hbl2 : b1 < wr.heap.size := Nat.lt_of_lt_of_le hbl hg.size
      have hbne : b1 ≠ wr.heap.size := by omega
      have HA : Hid (a = some ⟨b1, off, none⟩) := hA
      have HX : Hid (w.grownBy wr (some b) ∧ wr.ownsMap Tryz.prog 3 heldR b q M ∧ Knows M (learnT f D L k)) := ⟨hg, ho, hkn⟩
      have hwf : (Lit.int .i64 (k : Int)).wf = true := WalkArith.wf_i64 (by omega)
      have hkey : keyOf Tryz.prog 3 (.int .i64 (k : Int)) = some (.int .i64 (k : Int)) := keyOf_int_mk Tryz.underlying3 hwf
      have hmo := HX.out.2.1.alloc (.cells #[.int .i64 (D k).kind, .string (D k).text, .slice (L k).nA (D k).nn (L k).nc, .slice (L k).kA (D k).kn (L k).kc, .int .i64 (D k).turn] 28)
      clear hown hK hS
      rw [hA]
      clear hc hA e0 e1 e2 e3 e4 hg ho hkn
      by_cases hkd : (D k).kind = 0
      · have hkb : ((D k).kind != 0) = false := by simp [hkd]
        have HN : Hid (w.grownBy (wr.alloc (.cells #[.int .i64 (D k).kind, .string (D k).text, .slice (L k).nA (D k).nn (L k).nc, .slice (L k).kA (D k).kn (L k).kc, .int .i64 (D k).turn] 28)) (some b) ∧ (wr.alloc (.cells #[.int .i64 (D k).kind, .string (D k).text, .slice (L k).nA (D k).nn (L k).nc, .slice (L k).kA (D k).kn (L k).kc, .int .i64 (D k).turn] 28)).ownsMap Tryz.prog 3 heldR b q M ∧ Knows M (learnT f D L (k + 1))) :=
          ⟨grown_tr HX.out.1 (grown_below ((Below.refl _ _).alloc (Nat.le_refl _) _)), hmo, by
            have e : learnT f D L (k + 1) = learnT f D L k := by
              funext y
              show (if y = (k : Int) ∧ (D k).kind ≠ 0 then _ else _) = _
              rw [if_neg (fun h => h.2 hkd)]
            rw [e]; exact HX.out.2.2⟩
        clear hmo hkd
        go_wp2
        go_roundw
        case rel => exact ⟨k + 1, q, by omega, by go_num, by omega, HN.out.1, M, HN.out.2.1, HN.out.2.2⟩
        case measure => simp [intOf]; omega
      · have hkb : ((D k).kind != 0) = true := by simp [hkd]
        have HKD : Hid ((D k).kind ≠ 0) := hkd
        clear hkd
        go_wp2_with (at_mapUpdate; refine wpList_mapUpdate_own _ rfl _ _ _ 142 rfl 3 28 (int_keyed Tryz.underlying3) Tryz.underlying142 heldR b q M rfl hmo (by unfold maxLen; omega) _ _ _ rfl rfl hkey (.held (ndV (D k) (L k))) [] rfl ?_)
        intro w1 hown1 hgrow1
        have HN : Hid (w.grownBy w1 (some b) ∧ w1.ownsMap Tryz.prog 3 heldR b (q + 1) (M.put (.int .i64 (k : Int)) (.held (ndV (D k) (L k)))) ∧ Knows (M.put (.int .i64 (k : Int)) (.held (ndV (D k) (L k)))) (learnT f D L (k + 1))) := ⟨grown_tr (grown_tr HX.out.1 (grown_below ((Below.refl _ _).alloc (Nat.le_refl _) _))) hgrow1, hown1, by
          have e : learnT f D L (k + 1) = fun y => if y = (k : Int) then some (ndV (D k) (L k)) else learnT f D L k y := by
            funext y
            show (if y = (k : Int) ∧ (D k).kind ≠ 0 then _ else _) = _
            by_cases g : y = (k : Int)
            · rw [if_pos ⟨g, HKD.out⟩, if_pos g]
            · rw [if_neg (fun h => g h.1), if_neg g]
          rw [e]; exact HX.out.2.2.put _ _⟩
        clear hown1 hgrow1 hmo c0 c1 c2 c3 c4
        go_wp2
        go_roundw
        case rel => exact ⟨k + 1, q + 1, by omega, by go_num, by omega, HN.out.1, _, HN.out.2.1, HN.out.2.2⟩
        case measure => simp [intOf]; omega
    · have hke : k = n := by omega
      subst hke
      have HX : Hid (w.grownBy wr (some b) ∧ ∃ q M, q ≤ n0 + k ∧ wr.ownsMap Tryz.prog 3 heldR b q M ∧ Knows M (learnT f D L k)) := ⟨hg, q, M, hq, ho, hkn⟩
      clear hg ho hkn hown hK hS
      go_wp2
      refine bodyPost_end (results_none rfl _ _ _) rfl ?_
      exact ⟨⟨_, rfl⟩, HX.out.1, HX.out.2⟩

/-- What livePlaces answers. -/
def LivePost (w : World) (ln : Nat) (one : Nat → Option Nd) (e : Ending) (w' : World) : Prop :=
  Below w.heap.size w w' ∧ (((∃ i, i < ln ∧ one i = none) ∧ e = .returned (.tuple #[.slice none 0 0, .iface 115 (.agg #[.int .i64 2])])) ∨
    ((∀ i, i < ln → one i ≠ none) ∧ ∃ b c M, e = .returned (.tuple #[.slice b ln c, .nilIface]) ∧ OT w' w.heap.size 0 (fun _ => false) ln (fun _ => 0) (fun i => (one i).getD ndZero) M (.slice none 0 0) (.slice b ln c)))

theorem live_ext {one : Nat → Option Nd} {k : Nat} {E : Nat → Nd} {x : Nd} (h : ∀ i, i < k → one i = some (E i)) (hx : one k = some x) : ∀ i, i < k + 1 → one i = some ((fun i => if i = k then x else E i) i) := fun i hi => by
  by_cases e : i = k
  · subst e; simp [hx]
  · simp only [e, if_false]; exact h i (by omega)

set_option maxRecDepth 100000 in
set_option maxHeartbeats 4000000 in
theorem livePlaces_any (bm : Nat) (a : Option Addr) (ln c : Nat) (Z : Nat → Bool) (one : Nat → Option Nd) (w : World) (hB : IsBools w a ln Z) (hln : ln ≤ 10) (hfree : ∀ k, k < ln → Z k = false → one k = some ndZero)
    (hlook : ∀ W (k : Nat), Below w.heap.size w W → k < ln → Z k = true → ∃ (x : Nd) (l : Loc) (th : Bool), (Instr.lookup 142 (.map (some bm)) (.int .i64 (k : Int)) true).run Tryz.prog W = .ok (.tuple #[.agg #[.int .i64 x.kind, .string x.text, .slice l.nA x.nn l.nc, .slice l.kA x.kn l.kc, .int .i64 x.turn], .bool th]) W ∧
      ((th = false ∧ one k = none) ∨ (th = true ∧ one k = some x ∧ (∀ W', Below w.heap.size w W' → NdIn W' x l) ∧ x.nn ≤ 1048576 ∧ x.kn ≤ 1048576 ∧ x.text.size ≤ 1048576 ∧ ∀ j, j < x.nn → (x.names j).size ≤ 1048576))) :
    Calls Tryz.prog 99 #[.map (some bm), .slice a ln c] w (LivePost w ln one) := by
  obtain ⟨y0, hy, hy0, hy1, hy2⟩ := info_parts infoNode
  go_enter Tryz.func99, Tryz.ntmps99
  go_wp2_with fail
  go_loopw [6, 13] (fun v i wr => ∃ (k : Nat) (b : Option Addr) (bc : Nat) (E : Nat → Nd) (M : Nat → Loc), k ≤ ln ∧ v = .slice b k bc ∧ i = .int .i64 k ∧ Below w.heap.size w wr ∧ OT wr w.heap.size 0 (fun _ => false) k (fun _ => 0) E M (.slice none 0 0) (.slice b k bc) ∧ ∀ i, i < k → one i = some (E i)) (fun _ i _ => ln - (intOf i).toNat)
  case atStart => exact ⟨0, none, 0, fun _ => ndZero, fun _ => ⟨none, 0, none, 0⟩, Nat.zero_le _, rfl, rfl, Below.refl _ _, OT.start _ _ _ _ _ _, fun i hi => absurd hi (Nat.not_lt_zero _)⟩
  case round =>
    obtain ⟨k, b, bc, E, M, hk, rfl, rfl, hbw, hot, hsel⟩ := hrel
    have HIN : Hid (Below w.heap.size w wr ∧ OT wr w.heap.size 0 (fun _ => false) k (fun _ => 0) E M (.slice none 0 0) (.slice b k bc) ∧ ∀ i, i < k → one i = some (E i)) := ⟨hbw, hot, hsel⟩
    have hsw : w.heap.size ≤ wr.heap.size := hbw.size
    clear hbw hot hsel
    by_cases hlt : k < ln
    · have hlti : (k : Int) < (ln : Int) := by omega
      obtain ⟨bL, oL, hL, hLl, hLc⟩ := (hB.below (Nat.le_refl _) HIN.out.1).at hlt
      have hL0 := hLc k hlt
      rw [hL]
      have HA : Hid (a = some ⟨bL, oL, none⟩) := hL
      clear hL hLc
      cases hlv : Z k with
      | false =>
        rw [hlv] at hL0
        have HX : Hid (one k = some ndZero) := hfree k hlt hlv
        clear hlv hlook
        go_wp2_with (at_builtin; go_must (refine wpList_append_src (by rfl) _ _ 42 rfl w.heap.size 28 y0 (.agg #[.int .i64 0, .string ByteArray.empty, .slice none 0 0, .slice none 0 0, .int .i64 0]) 5 80 Tryz.underlying42 hy hy0 hy1 hy2 rfl (by decide) (.slice b k bc) k (rowsT (fun _ => 0) E M k) (by rfl) (HIN.out.2.1.ownI.alloc _) _ 1 _ (by rfl) (src_free wr) (by unfold maxLen; omega) (by omega) (by simp; omega) ?_))
        intro vI W7 hown hgrow hnil hat
        rcases hown.2 with ⟨_, h0⟩ | ⟨gI, cI, cur, hvI, _, _, _⟩
        · omega
        subst hvI
        have hbI : (Value.slice b k bc).ownBlock = some gI ∨ (wr.alloc (.cells #[.int .i64 0, .string ByteArray.empty, .slice none 0 0, .slice none 0 0, .int .i64 0] 28)).heap.size ≤ gI := by
          rcases hat with e | e
          · exact Or.inl e.symm
          · right
            have e' : gI = (wr.alloc (.cells #[.int .i64 0, .string ByteArray.empty, .slice none 0 0, .slice none 0 0, .int .i64 0] 28)).heap.size := by simpa [Value.ownBlock] using e
            omega
        have hN6 := (new_zero wr).alloc (.cells #[.int .i64 0, .string ByteArray.empty, .slice none 0 0, .slice none 0 0, .int .i64 0] 28)
        have hbo : ∀ q, (Value.slice b k bc).ownBlock = some q → w.heap.size ≤ q := fun q e => (owns_block HIN.out.2.1.ownI e).1
        have H8 : Hid (Below w.heap.size w W7 ∧ OT W7 w.heap.size 0 (fun _ => false) (k + 1) (fun _ => 0) (fun i => if i = k then ndZero else E i) (fun i => if i = k then ⟨none, 0, none, 0⟩ else M i) (.slice none 0 0) (.slice (some ⟨gI, 0, none⟩) (k + 1) cI)) := ⟨(HIN.out.1.alloc hsw _).grown hgrow (by simp; omega) hbo, HIN.out.2.1.more hN6 hsw hgrow hown hbI⟩
        clear hown hgrow hnil hat hbI hN6 hbo
        go_wp2_with fail
        go_roundw
        case rel => exact ⟨k + 1, some ⟨gI, 0, none⟩, cI, _, _, by omega, by go_num, by go_num, H8.out.1, H8.out.2, live_ext HIN.out.2.2 HX.out⟩
        case measure => simp [intOf]; omega
      | true =>
        rw [hlv] at hL0
        obtain ⟨x, lx, th, hrun, hcase⟩ := hlook wr k HIN.out.1 hlt hlv
        have HC : Hid _ := hcase
        clear hlv hlook hcase
        cases th with
        | false =>
          have HX : Hid (one k = none) := by
            show _ = _
            rcases HC.out with ⟨_, h⟩ | ⟨h, _⟩
            · exact h
            · cases h
          go_wp2_with fail
          exact bodyPost_ret (v := .tuple #[.slice none 0 0, .iface 115 (.agg #[.int .i64 2])]) (by simp [results, Tryz.results99, go_sem]) rfl ⟨HIN.out.1.alloc hsw _, Or.inl ⟨⟨k, hlt, HX.out⟩, rfl⟩⟩
        | true =>
          have HX : Hid (one k = some x ∧ (∀ W', Below w.heap.size w W' → NdIn W' x lx) ∧ x.nn ≤ 1048576 ∧ x.kn ≤ 1048576 ∧ x.text.size ≤ 1048576 ∧ ∀ j, j < x.nn → (x.names j).size ≤ 1048576) := by
            rcases HC.out with ⟨h, _⟩ | ⟨_, h⟩
            · cases h
            · exact h
          clear HC
          go_wp2_with fail
          have hba : Below w.heap.size w (wr.alloc (.cells #[.int .i64 x.kind, .string x.text, .slice lx.nA x.nn lx.nc, .slice lx.kA x.kn lx.kc, .int .i64 x.turn] 28)) := HIN.out.1.alloc hsw _
          have hota := HIN.out.2.1.below ((Below.refl _ wr).alloc (Nat.le_refl _) (.cells #[.int .i64 x.kind, .string x.text, .slice lx.nA x.nn lx.nc, .slice lx.kA x.kn lx.kc, .int .i64 x.turn] 28))
          refine at_world (F := fun U => Below w.heap.size w U ∧ OT U w.heap.size 0 (fun _ => false) k (fun _ => 0) E M (.slice none 0 0) (.slice b k bc)) ⟨hba, hota⟩ ?_
          clear hba hota
          rintro U ⟨hbU, hoU⟩
          refine (copyNode_any x lx U (HX.out.2.1 U hbU) HX.out.2.2.1 HX.out.2.2.2.1 HX.out.2.2.2.2.1 HX.out.2.2.2.2.2).mono ?_
          rintro e W6 ⟨l5, rfl, hN5⟩
          unfold ndV
          have HU : Hid (Below w.heap.size w U ∧ OT U w.heap.size 0 (fun _ => false) k (fun _ => 0) E M (.slice none 0 0) (.slice b k bc) ∧ NewNn U x l5 W6 ∧ w.heap.size ≤ U.heap.size ∧ w.heap.size ≤ W6.heap.size) := ⟨hbU, hoU, hN5, hbU.size, by have := hbU.size; have := hN5.bel.size; omega⟩
          clear hbU hoU hN5
          go_wp2_with (at_builtin; go_must (refine wpList_append_src (by rfl) _ _ 42 rfl w.heap.size 28 y0 (.agg #[.int .i64 0, .string ByteArray.empty, .slice none 0 0, .slice none 0 0, .int .i64 0]) 5 80 Tryz.underlying42 hy hy0 hy1 hy2 rfl (by decide) (.slice b k bc) k (rowsT (fun _ => 0) E M k) (by rfl) ((HU.out.2.1.below HU.out.2.2.1.bel).ownI.alloc _) _ 1 _ (by rfl) (src_node W6 x l5) (by unfold maxLen; omega) (by omega) (by have := HU.out.2.2.2.2; simp; omega) ?_))
          intro vI W7 hown hgrow hnil hat
          rcases hown.2 with ⟨_, h0⟩ | ⟨gI, cI, cur, hvI, _, _, _⟩
          · omega
          subst hvI
          have hbI : (Value.slice b k bc).ownBlock = some gI ∨ (W6.alloc (.cells #[.int .i64 x.kind, .string x.text, .slice l5.nA x.nn l5.nc, .slice l5.kA x.kn l5.kc, .int .i64 x.turn] 28)).heap.size ≤ gI := by
            rcases hat with e | e
            · exact Or.inl e.symm
            · right
              have e' : gI = (W6.alloc (.cells #[.int .i64 x.kind, .string x.text, .slice l5.nA x.nn l5.nc, .slice l5.kA x.kn l5.kc, .int .i64 x.turn] 28)).heap.size := by simpa [Value.ownBlock] using e
              omega
          have hN6 := HU.out.2.2.1.alloc (.cells #[.int .i64 x.kind, .string x.text, .slice l5.nA x.nn l5.nc, .slice l5.kA x.kn l5.kc, .int .i64 x.turn] 28)
          have hbo : ∀ q, (Value.slice b k bc).ownBlock = some q → w.heap.size ≤ q := fun q e => (owns_block HIN.out.2.1.ownI e).1
          have H8 : Hid (Below w.heap.size w W7 ∧ OT W7 w.heap.size 0 (fun _ => false) (k + 1) (fun _ => 0) (fun i => if i = k then x else E i) (fun i => if i = k then l5 else M i) (.slice none 0 0) (.slice (some ⟨gI, 0, none⟩) (k + 1) cI)) := ⟨((HU.out.1.trans (HU.out.2.2.1.bel.mono HU.out.2.2.2.1)).alloc HU.out.2.2.2.2 _).grown hgrow (by have := HU.out.2.2.2.2; simp; omega) hbo, HU.out.2.1.more hN6 HU.out.2.2.2.1 hgrow hown hbI⟩
          clear hown hgrow hnil hat hbI hN6 hbo
          go_wp2_with fail
          go_roundw
          case rel => exact ⟨k + 1, some ⟨gI, 0, none⟩, cI, _, _, by omega, by go_num, by go_num, H8.out.1, H8.out.2, live_ext HIN.out.2.2 HX.out.1⟩
          case measure => simp [intOf]; omega
    · obtain rfl : k = ln := by omega
      have HE : Hid (LivePost w k one (.returned (.tuple #[.slice b k bc, .nilIface])) wr) := ⟨HIN.out.1, Or.inr ⟨(fun i hi e => by have := HIN.out.2.2 i hi; rw [e] at this; cases this), b, bc, M, rfl, HIN.out.2.1.ext fun i hi => ⟨by show (one i).getD ndZero = E i; rw [HIN.out.2.2 i hi]; rfl, rfl⟩⟩⟩
      clear hlook hfree
      go_wp2_with fail
      exact bodyPost_ret (v := .tuple #[.slice b k bc, .nilIface]) (by simp [results, Tryz.results99, go_sem]) rfl HE.out
end Go.Proofs.YtakifcobofkheabGreatDoor

/-
  What refsOf and namedOnce of the program answer.
-/
namespace Go.Proofs.YtakifcobofkheabGreatDoor
open Go.RowKit
set_option linter.unusedVariables false

/-- What is known within refsOf. -/
structure RefRow (w : World) (a : Option Addr) (n c : Nat) (now : Int) (f : Nat → Nat) (W : World) : Prop where
  t : Blk W w.heap.size #[.slice a n c, .int .i64 now] 44
  row : W.rowIs (w.heap.size + 1) 3 n (fun j => .int .i64 (f j))
  bel : Below w.heap.size w W

theorem RefRow.put {w : World} {a : Option Addr} {n c : Nat} {now : Int} {f : Nat → Nat} {W : World} (h : RefRow w a n c now f W) (x : Nat) {g : Nat → Nat} (hg : ∀ j, j < n → g j = if j = x then f j + 1 else f j) :
    RefRow w a n c now g (W.setCell ⟨w.heap.size + 1, x, none⟩ (.int .i64 ((f x : Int) + 1))) :=
  ⟨h.t.off _ (by omega), (h.row.set x (.int .i64 ((f x : Int) + 1))).congr (fun i hi => by
    rw [hg i hi]
    by_cases e : i = x
    · subst e; simp
    · simp [e]), bel_put h.bel _ (by omega)⟩

theorem RefRow.alloc {w : World} {a : Option Addr} {n c : Nat} {now : Int} {f : Nat → Nat} {W : World} (h : RefRow w a n c now f W) (o : Obj) : RefRow w a n c now f (W.alloc o) :=
  ⟨h.t.alloc _, rowIs_below h.row ((Below.refl W.heap.size W).alloc (Nat.le_refl _) _) h.row.lt, h.bel.alloc (by have := h.t.lt; omega) _⟩

theorem RefRow.to {w : World} {a : Option Addr} {n c : Nat} {now : Int} {f g : Nat → Nat} {W : World} (h : RefRow w a n c now f W) (hg : ∀ j, j < n → f j = g j) : RefRow w a n c now g W :=
  ⟨h.t, h.row.congr (fun i hi => by rw [hg i hi]), h.bel⟩

theorem refs_start (w : World) (a : Option Addr) (n c : Nat) (now : Int) : RefRow w a n c now (fun _ => 0)
    ((w.alloc (.cells #[.slice a n c, .int .i64 now] 44)).alloc (.cells (madeCells #[.int .i64 0] n) 3)) := by
  have h := new2 w #[.slice a n c, .int .i64 now] 44 (madeCells #[.int .i64 0] n) 3
  refine ⟨h.b0, ⟨_, h.b1, by simp [size_madeCells], fun i hi => ?_⟩, h.bel⟩
  simp [madeCells, hi, Nat.mod_one]

set_option maxHeartbeats 2000000 in
theorem refsOf_any (a : Option Addr) (n c : Nat) (now : Int) (D : Nat → Nd) (L : Nat → Loc) (w : World) (hS : IsNds w a n D L) (hn : n ≤ 1048576) (hsz : sizeTo D n ≤ 1048576) (hsm : ∀ i, i < n → (D i).kn ≤ maxLen) (hk : ∀ i, i < n → ∀ j, j < (D i).kn → 0 ≤ (D i).kids j ∧ (D i).kids j < n) :
    Calls Tryz.prog 105 #[trV a n c now] w fun e w' => Below w.heap.size w w' ∧ e = .returned (.slice (some ⟨w.heap.size + 1, 0, none⟩) n n) ∧ w'.rowIs (w.heap.size + 1) 3 n (fun j => .int .i64 (refsTo D j n)) := by
  have hmk := fun w => run_make_row' (P := Tryz.prog) 26 3 (.int .i64 0) 8 Tryz.underlying26 infoInt rfl .i64 .i64 n (by omega) (by omega) w
  unfold trV
  go_enter Tryz.func105, Tryz.ntmps105
  go_wp2
  go_loopw [15] (fun i wr => ∃ k : Nat, k ≤ n ∧ i = .int .i64 k ∧ RefRow w a n c now (fun j => refsTo D j k) wr) (fun i _ => n - (intOf i).toNat)
  case atStart => exact ⟨0, Nat.zero_le _, rfl, (refs_start w a n c now).to (fun _ _ => rfl)⟩
  case round =>
    obtain ⟨k, hk', rfl, hin⟩ := hrel
    by_cases hlt : k < n
    · have hSr := hS.below (Nat.le_refl _) hin.bel
      obtain ⟨b, off, rfl, hlt2, hc⟩ := hSr.at hlt
      obtain ⟨c0, c1, c2, c3, c4, hI⟩ := hc k hlt
      have hki : (k : Int) < (n : Int) := by omega
      have hkn := hsm k hlt
      unfold maxLen at hkn
      have HIN : Hid (RefRow w (some ⟨b, off, none⟩) n c now (fun j => refsTo D j k) wr ∧ NdIn wr (D k) (L k)) := ⟨hin, hI⟩
      clear hc hI hin hSr hmk
      go_wp2
      go_loopw [22] (fun i wr' => ∃ j : Nat, j ≤ (D k).kn ∧ i = .int .i64 j ∧ RefRow w (some ⟨b, off, none⟩) n c now (fun x => refsTo D x k + cnt (D k).kids x j) wr') (fun i _ => (D k).kn - (intOf i).toNat)
      case atStart => exact ⟨0, Nat.zero_le _, rfl, (HIN.out.1.alloc _).to (fun _ _ => rfl)⟩
      case round =>
        obtain ⟨j, hj, rfl, hin⟩ := hrel
        by_cases hltj : j < (D k).kn
        · have hIr := (hS.below (Nat.le_refl _) hin.bel)
          obtain ⟨b2, off2, ha2, _, hc2⟩ := hIr.at hlt
          cases ha2
          obtain ⟨b', off', ha', hlt2', hc'⟩ := (hc2 k hlt).2.2.2.2.2.2.at hltj
          have hz := hc' j hltj
          obtain ⟨hk0, hk1⟩ := hk k hlt j hltj
          obtain ⟨x, hx⟩ : ∃ x : Nat, (D k).kids j = x := ⟨((D k).kids j).toNat, by omega⟩
          have hxn : x < n := by omega
          have hjj : (j : Int) < ((D k).kn : Int) := by omega
          rw [hx] at hz
          obtain ⟨v, hv⟩ : ∃ v : Nat, v = refsTo D x k + cnt (D k).kids x j := ⟨_, rfl⟩
          have hvb : v ≤ 1048576 := by
            have h1 := refsTo_le D x k
            have h2 := cnt_le (D k).kids x j
            have h3 := sizeTo_mono D (show k + 1 ≤ n by omega)
            rw [sizeTo_succ] at h3
            unfold Nd.size at h3
            omega
          have xc : wr.cell? ⟨w.heap.size + 1, x, none⟩ = some (.int .i64 v) := by rw [hv]; exact hin.row.cell hxn
          have xf := hin.row.frozen x
          have HALL : Hid (RefRow w (some ⟨b, off, none⟩) n c now (fun x => refsTo D x k + cnt (D k).kids x j) wr ∧ (D k).kids j = x ∧ v = refsTo D x k + cnt (D k).kids x j) := ⟨hin, hx, hv⟩
          have hxi : (x : Int) < (n : Int) := by omega
          rw [ha']
          clear hin hIr hc2 hc' hx hk0 hk1 hv c0 c1 c2 c3 c4
          go_wp2
          go_roundw
          case rel =>
            obtain ⟨h1, h2, h3⟩ := HALL.out
            refine ⟨j + 1, by omega, by go_num, ?_⟩
            have h4 := h1.put (g := fun y => refsTo D y k + cnt (D k).kids y (j + 1)) x (fun y _ => by
              show _ + cnt (D k).kids y (j + 1) = _
              rw [cnt, h2]
              by_cases e : y = x
              · subst e; simp; omega
              · have : ¬ (x : Int) = (y : Int) := by omega
                simp [e, this])
            rw [h3]
            exact h4
          case measure => simp [intOf]; omega
        · have hje : j = (D k).kn := by omega
          have HALL : Hid (RefRow w (some ⟨b, off, none⟩) n c now (fun x => refsTo D x (k + 1)) wr) := hin.to (fun y _ => by rw [refsTo, hje])
          clear hin hje c0 c1 c2 c3 c4
          go_wp2
          go_roundw
          case rel => exact ⟨k + 1, by omega, by go_num, HALL.out⟩
          case measure => simp [intOf]; omega
    · have hke : k = n := by omega
      have HALL : Hid (RefRow w a n c now (fun x => refsTo D x n) wr) := hin.to (fun y _ => by rw [hke])
      clear hin hke hmk
      go_wp2
      go_ret
      exact ⟨HALL.out.bel, rfl, HALL.out.row⟩
end Go.Proofs.YtakifcobofkheabGreatDoor

/-
  What namedOnce of the program answers: whether each directory but the root has one name.
-/
namespace Go.Proofs.YtakifcobofkheabGreatDoor
open Go.RowKit
set_option linter.unusedVariables false

set_option maxHeartbeats 2000000 in
theorem namedOnce_any (a : Option Addr) (n c : Nat) (now : Int) (D : Nat → Nd) (L : Nat → Loc) (w : World) (hS : IsNds w a n D L) (hn : n ≤ 1048576) (hsz : sizeTo D n ≤ 1048576) (hsm : ∀ i, i < n → (D i).kn ≤ maxLen) (hk : ∀ i, i < n → ∀ j, j < (D i).kn → 0 ≤ (D i).kids j ∧ (D i).kids j < n) :
    Calls Tryz.prog 80 #[trV a n c now] w fun e w' => Below w.heap.size w w' ∧ ∃ r : Bool, e = .returned (.bool r) ∧ (r = true ↔ ∀ i, 1 ≤ i → i < n → (D i).kind = 2 → refsTo D i n = 1) := by
  unfold trV
  go_enter Tryz.func80, Tryz.ntmps80
  go_wp2_with fail
  refine at_world (F := New1 w _ _) (new1 w _ _) ?_
  rintro W ⟨hp, hb, hs⟩
  refine (refsOf_any a n c now D L W (hS.below (Nat.le_refl _) hb) hn hsz hsm hk).mono ?_
  rintro e w1 ⟨hb1, rfl, hrow⟩
  have hp1 := hp.below hb1 (by omega)
  have HIN : Hid (RefsIn w a n c now w1 ∧ w1.rowIs (W.heap.size + 1) 3 n (fun j => .int .i64 (refsTo D j n))) := ⟨⟨hp1, hb.trans (hb1.mono (by omega))⟩, hrow⟩
  clear hp hb hs hb1 hrow hp1
  generalize W.heap.size + 1 = bm at *
  go_wp2
  go_loopw [8] (fun i wr => ∃ k : Nat, k ≤ n ∧ i = .int .i64 k ∧ RefsIn w a n c now wr ∧ wr.rowIs bm 3 n (fun j => .int .i64 (refsTo D j n)) ∧ ∀ i, 1 ≤ i → i < k → (D i).kind = 2 → refsTo D i n = 1) (fun i _ => n - (intOf i).toNat)
  case atStart => exact ⟨0, Nat.zero_le _, rfl, HIN.out.1, HIN.out.2, fun i h1 h2 => by omega⟩
  case round =>
    obtain ⟨k, hk', rfl, hin, hrow, hall⟩ := hrel
    by_cases hlt : k < n
    · have hSr := hS.below (Nat.le_refl _) hin.bel
      obtain ⟨b, off, rfl, hlt2, hc⟩ := hSr.at hlt
      have c0 := (hc k hlt).1
      have t0 : wr.cell? ⟨w.heap.size, 0, none⟩ = some (.slice (some ⟨b, off, none⟩) n c) := hin.t.cell 0
      have hki : (k : Int) < (n : Int) := by omega
      have rc : wr.cell? ⟨bm, k, none⟩ = some (.int .i64 (refsTo D k n)) := hrow.cell hlt
      have HR : Hid (RefsIn w (some ⟨b, off, none⟩) n c now wr ∧ wr.rowIs bm 3 n (fun j => .int .i64 (refsTo D j n)) ∧ ∀ i, 1 ≤ i → i < k → (D i).kind = 2 → refsTo D i n = 1) := ⟨hin, hrow, hall⟩
      clear hc hin hrow hall hSr HIN
      by_cases hk0 : k = 0
      · subst hk0
        rw [Nat.zero_mul, Nat.add_zero] at c0
        go_wp2
        go_roundw
        case rel => exact ⟨1, by omega, by go_num, HR.out.1, HR.out.2.1, fun i h1 h2 => by omega⟩
        case measure => simp [intOf]; omega
      · have hkb : ((k : Int) != 0) = true := by simp; omega
        cases hd2 : ((D k).kind == 2) with
        | false =>
          have H2 : Hid (¬ (D k).kind = 2) := show ¬ (D k).kind = 2 by simpa using hd2
          go_wp2
          go_roundw
          case rel => exact ⟨k + 1, by omega, by go_num, HR.out.1, HR.out.2.1, fun i h1 h2 h3 => by
            by_cases e : i = k
            · subst e; exact absurd h3 H2.out
            · exact HR.out.2.2 i h1 (by omega) h3⟩
          case measure => simp [intOf]; omega
        | true =>
          have H2 : Hid ((D k).kind = 2) := show (D k).kind = 2 by simpa using hd2
          by_cases hr1 : refsTo D k n = 1
          · have hrb : (((refsTo D k n : Nat) : Int) != 1) = false := by simp [hr1]
            have HX : Hid (refsTo D k n = 1) := hr1
            clear hr1
            go_wp2
            go_roundw
            case rel => exact ⟨k + 1, by omega, by go_num, HR.out.1, HR.out.2.1, fun i h1 h2 h3 => by
              by_cases e : i = k
              · subst e; exact HX.out
              · exact HR.out.2.2 i h1 (by omega) h3⟩
            case measure => simp [intOf]; omega
          · have hrb : (((refsTo D k n : Nat) : Int) != 1) = true := by simp; omega
            have HX : Hid (¬ refsTo D k n = 1) := hr1
            clear hr1
            go_wp2
            go_ret
            exact ⟨HR.out.1.bel, false, rfl, fun h => (by cases h), fun h => absurd (h k (by omega) hlt H2.out) HX.out⟩
    · have HALL : Hid (Below w.heap.size w wr ∧ ∀ i, 1 ≤ i → i < n → (D i).kind = 2 → refsTo D i n = 1) := ⟨hin.bel, fun i h1 h2 h3 => hall i h1 (by omega) h3⟩
      clear hin hrow hall HIN
      go_wp2
      go_ret
      exact ⟨HALL.out.1, true, rfl, fun _ => HALL.out.2, fun _ => rfl⟩
end Go.Proofs.YtakifcobofkheabGreatDoor

/-
  Which places are reached from the root, by a stack: plain facts. A place is put on the stack when it is marked; what is marked and no longer on the stack leads to what is marked.
-/
namespace Go.Proofs.YtakifcobofkheabGreatDoor
set_option linter.unusedVariables false

/-- Between two rounds. -/
structure Stk (n : Nat) (D : Nat → Nd) (m : Nat → Bool) (L : List Nat) : Prop where
  sound : Sound n D m
  root : m 0 = true
  on : ∀ i, i ∈ L → i < n ∧ m i = true
  done : ∀ i, i < n → m i = true → i ∉ L → ∀ j, j < (D i).kn → m ((D i).kids j).toNat = true
  few : L.length ≤ cntB m n

/-- Within a round, whose place is x: the first k of its places are through. -/
structure StkIn (n : Nat) (D : Nat → Nd) (x k : Nat) (m : Nat → Bool) (L : List Nat) : Prop where
  sound : Sound n D m
  root : m 0 = true
  cur : x < n ∧ m x = true
  on : ∀ i, i ∈ L → i < n ∧ m i = true
  done : ∀ i, i < n → m i = true → i ∉ L → i ≠ x → ∀ j, j < (D i).kn → m ((D i).kids j).toNat = true
  kids : ∀ j, j < k → m ((D x).kids j).toNat = true
  few : L.length + 1 ≤ cntB m n

theorem Stk.start {n : Nat} {D : Nat → Nd} (hn : 1 ≤ n) : Stk n D (fun j => decide (j = 0)) [0] :=
  ⟨fun i hi => by simp at hi; subst hi; exact .root, by simp, fun i hi => by simp at hi; subst hi; exact ⟨hn, by simp⟩, fun i _ hm hi => by simp at hm hi; exact absurd hm hi, by
    have := cntB_one (m := fun j => decide (j = 0)) (by simp) n hn
    simpa using this⟩

theorem Stk.pop {n : Nat} {D : Nat → Nd} {m : Nat → Bool} {L : List Nat} {x : Nat} (h : Stk n D m (L ++ [x])) : StkIn n D x 0 m L :=
  ⟨h.sound, h.root, h.on x (by simp), fun i hi => h.on i (by simp [hi]), fun i hi hm hL hx => h.done i hi hm (by simp [hL, hx]), fun j hj => by omega, by have := h.few; simpa using this⟩

theorem StkIn.push {n : Nat} {D : Nat → Nd} {x k : Nat} {m : Nat → Bool} {L : List Nat} (h : StkIn n D x k m L) (hk : k < (D x).kn) {z : Nat} (hz : ((D x).kids k).toNat = z) (hzn : z < n) (hm : m z = false) :
    StkIn n D x (k + 1) (fun j => if j = z then true else m j) (L ++ [z]) := by
  have up : ∀ j, m j = true → (if j = z then true else m j) = true := fun j hj => by by_cases e : j = z <;> simp [e, hj]
  refine ⟨fun i hi => ?_, up 0 h.root, ⟨h.cur.1, up x h.cur.2⟩, fun i hi => ?_, fun i hi hmi hL hx j hj => ?_, fun j hj => ?_, ?_⟩
  · by_cases e : i = z
    · subst e; rw [← hz]; exact .step (h.sound x h.cur.2) h.cur.1 hk
    · simp only [if_neg e] at hi; exact h.sound i hi
  · rcases List.mem_append.1 hi with hi | hi
    · exact ⟨(h.on i hi).1, up i (h.on i hi).2⟩
    · simp at hi; subst hi; exact ⟨hzn, by simp⟩
  · have hne : i ≠ z := fun e => hL (by simp [e])
    simp only [if_neg hne] at hmi
    exact up _ (h.done i hi hmi (fun hi' => hL (by simp [hi'])) hx j hj)
  · by_cases e : j = k
    · subst e; simp [hz]
    · exact up _ (h.kids j (by omega))
  · have := cntB_lt up (i := z) (by simp [hm]) (by simp) n hzn
    have h2 := h.few
    simp only [List.length_append, List.length_singleton]
    omega

theorem StkIn.pass {n : Nat} {D : Nat → Nd} {x k : Nat} {m : Nat → Bool} {L : List Nat} (h : StkIn n D x k m L) (hm : m ((D x).kids k).toNat = true) : StkIn n D x (k + 1) m L :=
  ⟨h.sound, h.root, h.cur, h.on, h.done, fun j hj => by
    by_cases e : j = k
    · subst e; exact hm
    · exact h.kids j (by omega), h.few⟩

theorem StkIn.out {n : Nat} {D : Nat → Nd} {x : Nat} {m : Nat → Bool} {L : List Nat} (h : StkIn n D x (D x).kn m L) : Stk n D m L :=
  ⟨h.sound, h.root, h.on, fun i hi hm hL => by
    by_cases e : i = x
    · subst e; exact h.kids
    · exact h.done i hi hm hL e, by have := h.few; omega⟩

theorem Stk.fin {n : Nat} {D : Nat → Nd} {m : Nat → Bool} (h : Stk n D m []) (i : Nat) : m i = true ↔ Reach n D i := by
  refine ⟨h.sound i, fun hr => ?_⟩
  induction hr with
  | root => exact h.root
  | step hr hi hj ih => exact h.done _ hi ih (by simp) _ hj
end Go.Proofs.YtakifcobofkheabGreatDoor

/-
  What reached of the program answers: which places are reached from the root, marked with a stack.
-/
namespace Go.Proofs.YtakifcobofkheabGreatDoor
open Go.RowKit Go.Deep
set_option linter.unusedVariables false

/-- A list of numbers, as cells. -/
def natv (L : List Nat) : List Value := L.map fun (i : Nat) => Value.int .i64 (i : Int)
theorem natv_length (L : List Nat) : (natv L).length = L.length := by simp [natv]
theorem natv_append (L M : List Nat) : natv L ++ natv M = natv (L ++ M) := by simp [natv]
theorem natv_one (L : List Nat) : ∀ u ∈ natv L, u.oneCell' = true := by
  intro u hu
  simp only [natv, List.mem_map] at hu
  obtain ⟨s, _, rfl⟩ := hu
  rfl

/-- The mark at a place. -/
def bitAt (W : World) (b j : Nat) : Bool := match W.cell? ⟨b, j, none⟩ with | some (.bool x) => x | _ => false
/-- How long a slice is. -/
def lenOf : Value → Nat | .slice _ n _ => n | _ => 0

theorem cntB_congr {m m' : Nat → Bool} {k : Nat} (h : ∀ j, j < k → m j = m' j) : cntB m k = cntB m' k := by
  induction k with
  | zero => rfl
  | succ k ih => unfold cntB; rw [ih (fun j hj => h j (by omega)), h k (by omega)]

/-- What is known within reached. -/
structure StkW (w : World) (a : Option Addr) (n c : Nat) (now : Int) (m : Nat → Bool) (L : List Nat) (s : Value) (W : World) : Prop where
  t : Blk W w.heap.size #[.slice a n c, .int .i64 now] 44
  row : W.rowIs (w.heap.size + 1) 4 n (fun j => .bool (m j))
  own : W.ownsRow (w.heap.size + 2) 3 1 s L.length (natv L)
  some : s ≠ .slice none 0 0
  bel : Below w.heap.size w W
  size : w.heap.size + 2 ≤ W.heap.size

theorem StkW.shape {w : World} {a : Option Addr} {n c : Nat} {now : Int} {m : Nat → Bool} {L : List Nat} {s : Value} {W : World} (h : StkW w a n c now m L s W) :
    ∃ g cap, s = .slice (Option.some ⟨g, 0, none⟩) L.length cap ∧ w.heap.size + 2 ≤ g ∧ g < W.heap.size ∧ L.length ≤ cap ∧ cap ≤ maxLen ∧ ∀ i, i < L.length → W.cell? ⟨g, i, none⟩ = Option.some (.int .i64 (L.getD i 0 : Nat)) := by
  obtain ⟨h1, h2⟩ := h.own
  rcases h2 with ⟨rfl, h0⟩ | ⟨g, cap, cur, rfl, hb, hblk, hn, hm, hsz, htake⟩
  · exact absurd rfl h.some
  · have hglt : g < W.heap.size := (Array.getElem?_eq_some_iff.1 hblk).1
    refine ⟨g, cap, rfl, hb, hglt, hn, hm, fun i hi => ?_⟩
    have hi2 : (natv L)[i]? = Option.some (.int .i64 (L.getD i 0 : Nat)) := by simp [natv, hi]
    rw [← htake, Nat.mul_one, List.getElem?_take_of_lt hi] at hi2
    simp only [World.cell?, hblk]
    simpa using hi2

/-- The last one is taken off. -/
theorem StkW.pop {w : World} {a : Option Addr} {n c : Nat} {now : Int} {m : Nat → Bool} {L : List Nat} {x g cap : Nat} {k : Nat} {W : World} (h : StkW w a n c now m (L ++ [x]) (.slice (Option.some ⟨g, 0, none⟩) k cap) W) :
    StkW w a n c now m L (.slice (Option.some ⟨g, 0, none⟩) L.length cap) W := by
  refine ⟨h.t, h.row, ?_, by simp, h.bel, h.size⟩
  obtain ⟨h1, h2⟩ := h.own
  rcases h2 with ⟨h2, h0⟩ | ⟨g', cap', cur, hv, hb, hblk, hn, hm, hsz, htake⟩
  · cases h2
  · cases hv
    refine ⟨by simp [natv], Or.inr ⟨g, cap, cur, rfl, hb, hblk, by simp at hn; omega, hm, hsz, ?_⟩⟩
    have e : natv (L ++ [x]) = natv L ++ natv [x] := (natv_append L [x]).symm
    rw [e] at htake
    have h5 : (natv L ++ natv [x]).take L.length = natv L := by
      have := List.take_left (l₁ := natv L) (l₂ := natv [x])
      rwa [natv_length] at this
    have := congrArg (List.take L.length) htake
    rw [List.take_take, Nat.min_eq_left (by simp), h5] at this
    rw [Nat.mul_one]
    exact this

theorem StkW.mark {w : World} {a : Option Addr} {n c : Nat} {now : Int} {m : Nat → Bool} {L : List Nat} {s : Value} {W : World} (h : StkW w a n c now m L s W) (x : Nat) :
    StkW w a n c now (fun j => if j = x then true else m j) L s (W.setCell ⟨w.heap.size + 1, x, none⟩ (.bool true)) := by
  refine ⟨h.t.off _ (by omega), (h.row.set x (.bool true)).congr (fun i _ => by by_cases e : i = x <;> simp [e]), ⟨h.own.1, ?_⟩, h.some, bel_put h.bel _ (by omega), by simpa [World.setCell] using h.size⟩
  rcases h.own.2 with h2 | ⟨g, cap, cur, hv, hb, hblk, rest⟩
  · exact Or.inl h2
  · exact Or.inr ⟨g, cap, cur, hv, hb, (blk_setCell_other _ _ _ _ (by show g ≠ w.heap.size + 1; omega)).trans hblk, rest⟩

theorem StkW.alloc {w : World} {a : Option Addr} {n c : Nat} {now : Int} {m : Nat → Bool} {L : List Nat} {s : Value} {W : World} (h : StkW w a n c now m L s W) (o : Obj) : StkW w a n c now m L s (W.alloc o) :=
  ⟨h.t.alloc _, rowIs_below h.row ((Below.refl W.heap.size W).alloc (Nat.le_refl _) _) h.row.lt, h.own.alloc o, h.some, h.bel.alloc (by have := h.t.lt; omega) _, by have := h.size; simp; omega⟩

/-- One more is put on it. -/
theorem StkW.push {w : World} {a : Option Addr} {n c : Nat} {now : Int} {m : Nat → Bool} {L : List Nat} {s s' : Value} {W W' : World} (h : StkW w a n c now m L s W) {x : Nat}
    (hown : W'.ownsRow (w.heap.size + 2) 3 1 s' (L.length + 1) (natv L ++ natv [x])) (hg : W.grownBy W' s.ownBlock) (hs : ¬ s' = .slice none 0 0) : StkW w a n c now m (L ++ [x]) s' W' := by
  have hob : ∀ g, s.ownBlock = Option.some g → w.heap.size + 2 ≤ g := by
    intro g hg
    obtain ⟨g', cap, rfl, hb, _⟩ := h.shape
    simp [Value.ownBlock] at hg
    omega
  have blk : ∀ b, b < w.heap.size + 2 → b < W.heap.size → W'.heap[b]? = W.heap[b]? := fun b hb hlt => hg.block b hlt (fun e => by have := hob b e.symm; omega)
  have hrow := h.row
  refine ⟨h.t.of_block (blk _ (by omega) h.t.lt), ?_, ?_, hs, h.bel.grown hg (by have := h.t.lt; omega) (fun g hg' => by have := hob g hg'; omega), Nat.le_trans h.size hg.size⟩
  · obtain ⟨cs, hb, r⟩ := hrow
    exact ⟨cs, (blk _ (by omega) h.row.lt).trans hb, r⟩
  · rw [List.length_append, ← natv_append]; exact hown

theorem StkW.meas {w : World} {a : Option Addr} {n c : Nat} {now : Int} {m : Nat → Bool} {L : List Nat} {s : Value} {W : World} (h : StkW w a n c now m L s W) :
    2 * (n - cntB (fun j => bitAt W (w.heap.size + 1) j) n) + lenOf s = 2 * (n - cntB m n) + L.length := by
  have e : cntB (fun j => bitAt W (w.heap.size + 1) j) n = cntB m n := cntB_congr (fun j hj => by
    unfold bitAt
    rw [h.row.cell hj])
  obtain ⟨g, cap, rfl, _⟩ := h.shape
  rw [e]
  rfl

theorem StkW.drew {w : World} {a : Option Addr} {n c : Nat} {now : Int} {m : Nat → Bool} {L : List Nat} {s : Value} {W : World} (h : StkW w a n c now m L s W) (q : Nat) : StkW w a n c now m L s (W.drewN q) :=
  ⟨h.t, h.row, h.own, h.some, below_drewN h.bel q, h.size⟩

theorem natv_cells (w : World) (x : Nat) : ∀ j u, (natv [x])[j]? = some u → (w.alloc (.cells #[.int .i64 (x : Int)] 3)).cell? ((⟨w.heap.size, 0, none⟩ : Addr).add j) = some u := by
  intro j u h
  have hj : j = 0 := by
    rcases Nat.eq_zero_or_pos j with h0 | h0
    · exact h0
    · rw [List.getElem?_eq_none (by simp [natv]; omega)] at h; cases h
  subst hj
  have := cell_one_new w (.int .i64 (x : Int)) 3
  simp [natv] at h
  subst h
  rw [show (⟨w.heap.size, 0, none⟩ : Addr).add 0 = ⟨w.heap.size, 0, none⟩ by unfold Addr.add; split <;> simp_all]
  exact (Blk.new w #[.int .i64 (x : Int)] 3).cell 0

theorem stk_start (w : World) (a : Option Addr) (n c : Nat) (now : Int) : StkW w a n c now (fun j => decide (j = 0)) [0] (.slice (some ⟨w.heap.size + 1 + 1, 0, none⟩) 1 1)
    (((w.alloc (.cells #[.slice a n c, .int .i64 now] 44)).alloc (.cells ((madeCells #[.bool false] n).setIfInBounds 0 (.bool true)) 4)).alloc (.cells #[.int .i64 0] 3)) := by
  have h := marks_start w a n c now
  have h3 := new3 w #[.slice a n c, .int .i64 now] 44 ((madeCells #[.bool false] n).setIfInBounds 0 (.bool true)) 4 #[.int .i64 0] 3
  refine ⟨h3.b0, rowIs_below h.row ((Below.refl _ _).alloc (Nat.le_refl _) _) h.row.lt, ⟨rfl, Or.inr ⟨w.heap.size + 1 + 1, 1, _, rfl, by omega, h3.b2, Nat.le_refl _, by unfold maxLen; omega, rfl, rfl⟩⟩, by simp, h3.bel, by have := h3.size; omega⟩

set_option maxHeartbeats 2000000 in
theorem reached_any (a : Option Addr) (n c : Nat) (now : Int) (D : Nat → Nd) (L : Nat → Loc) (w : World) (hS : IsNds w a n D L) (h1 : 1 ≤ n) (hn : n ≤ 1048576) (hsm : ∀ i, i < n → (D i).kn ≤ maxLen) (hk : ∀ i, i < n → ∀ j, j < (D i).kn → 0 ≤ (D i).kids j ∧ (D i).kids j < n) :
    Calls Tryz.prog 104 #[trV a n c now] w fun e w' => Below w.heap.size w w' ∧ e = .returned (.slice (some ⟨w.heap.size + 1, 0, none⟩) n n) ∧ ∃ m : Nat → Bool, w'.rowIs (w.heap.size + 1) 4 n (fun j => .bool (m j)) ∧ ∀ j, m j = true ↔ Reach n D j := by
  have hmk := fun w => run_make_row' (P := Tryz.prog) 55 4 (.bool false) 1 Tryz.underlying55 infoBool rfl .i64 .i64 n (by omega) (by omega) w
  have hm0 : (madeCells #[Value.bool false] n)[0]? = some (.bool false) := by simp [madeCells, show 0 < n from h1]
  obtain ⟨i0, hi, hz0, hz1, hz2⟩ := info_parts infoInt
  unfold trV
  go_enter Tryz.func104, Tryz.ntmps104
  go_wp2
  go_loopw [4] (fun s wr => ∃ (m : Nat → Bool) (L : List Nat), StkW w a n c now m L s wr ∧ Stk n D m L) (fun s wr => 2 * (n - cntB (fun j => bitAt wr (w.heap.size + 1) j) n) + lenOf s)
  case atStart => exact ⟨_, _, stk_start w a n c now, Stk.start h1⟩
  case round =>
    obtain ⟨m0, K, hin, hst⟩ := hrel
    have hfew := hst.few
    have hfew2 := cntB_le m0 n
    have hmeas := hin.meas
    obtain ⟨g, cap, rfl, hg1, hg2, hcap, hcapm, hcells⟩ := hin.shape
    unfold maxLen at hcapm
    clear hmk hm0
    rcases List.eq_nil_or_concat K with rfl | ⟨K', x, rfl⟩
    · have HALL : Hid (StkW w a n c now m0 [] (.slice (some ⟨g, 0, none⟩) 0 cap) wr ∧ Stk n D m0 []) := ⟨hin, hst⟩
      have h00 : ((([] : List Nat).length : Nat)) = 0 := rfl
      rw [h00]
      clear hin hst hcells
      go_wp2
      go_ret
      exact ⟨HALL.out.1.bel, rfl, m0, HALL.out.1.row, HALL.out.2.fin⟩
    · rw [List.concat_eq_append] at *
      have hxc : wr.cell? ⟨g, K'.length, none⟩ = some (.int .i64 (x : Nat)) := by
        have := hcells K'.length (by simp)
        simpa using this
      have hlen : (K' ++ [x]).length = K'.length + 1 := by simp
      rw [hlen] at hfew hmeas hcap ⊢
      obtain ⟨hxn, hmx⟩ := hst.on x (by simp)
      have hSr := hS.below (Nat.le_refl _) hin.bel
      obtain ⟨b, off, rfl, hlt2, hc⟩ := hSr.at hxn
      have c3 := (hc x hxn).2.2.2.1
      have t0 : wr.cell? ⟨w.heap.size, 0, none⟩ = some (.slice (some ⟨b, off, none⟩) n c) := hin.t.cell 0
      have hknb := hsm x hxn
      unfold maxLen at hknb
      have hxi : (x : Int) < (n : Int) := by omega
      have HST : Hid (StkW w (some ⟨b, off, none⟩) n c now m0 K' (.slice (some ⟨g, 0, none⟩) K'.length cap) wr ∧ StkIn n D x 0 m0 K' ∧ 2 * (n - cntB m0 n) + K'.length + 1 = 2 * (n - cntB (fun j => bitAt wr (w.heap.size + 1) j) n) + lenOf (.slice (some ⟨g, 0, none⟩) (K'.length + 1) cap)) := ⟨hin.pop, hst.pop, hmeas.symm⟩
      clear hin hst hmeas hc hcells hSr hmx
      generalize hkl : K'.length = kl at *
      have hwr : IntKind.i64.wrap ((kl : Int) + 1 - 1) = (kl : Int) := by rw [IntKind.wrap_i64]; omega
      have hwr2 : IntKind.i64.wrap (((kl + 1 : Nat) : Int) - 1) = (kl : Int) := by rw [IntKind.wrap_i64]; omega
      have hki : (kl : Int) < ((kl + 1 : Nat) : Int) := by omega
      go_wp2_with fail
      go_quiet (fail)
      have HS1 := HST.out.1.drew nq
      have HS : Hid (StkW w (some ⟨b, off, none⟩) n c now m0 K' (.slice (some ⟨g, 0, none⟩) kl cap) (wr.drewN nq)) := HS1
      clear HS1
      go_wp2
      go_loopw [4, 36] (fun s i wr' => ∃ (j : Nat) (m : Nat → Bool) (K : List Nat), j ≤ (D x).kn ∧ i = .int .i64 j ∧ StkW w (some ⟨b, off, none⟩) n c now m K s wr' ∧ StkIn n D x j m K ∧ 2 * (n - cntB m n) + K.length ≤ 2 * (n - cntB m0 n) + kl) (fun _ i _ => (D x).kn - (intOf i).toNat)
      case atStart => exact ⟨0, m0, K', Nat.zero_le _, rfl, HS.out, HST.out.2.1, by omega⟩
      case round =>
        obtain ⟨j, m, K, hj, rfl, hin, hst, hms⟩ := hrel
        have hfew3 := hst.few
        have hfew4 := cntB_le m n
        by_cases hltj : j < (D x).kn
        · have hSr := hS.below (Nat.le_refl _) hin.bel
          obtain ⟨b2, off2, ha2, _, hc2⟩ := hSr.at hxn
          cases ha2
          obtain ⟨b', off', ha', hlt2', hc'⟩ := (hc2 x hxn).2.2.2.2.2.2.at hltj
          have hz := hc' j hltj
          obtain ⟨hk0, hk1⟩ := hk x hxn j hltj
          obtain ⟨z, hz'⟩ : ∃ z : Nat, (D x).kids j = z := ⟨((D x).kids j).toNat, by omega⟩
          have hzn : z < n := by omega
          have hzt : ((D x).kids j).toNat = z := by rw [hz']; rfl
          have hjj : (j : Int) < ((D x).kn : Int) := by omega
          have hzi : (z : Int) < (n : Int) := by omega
          rw [hz'] at hz
          have mz : wr.cell? ⟨w.heap.size + 1, z, none⟩ = some (.bool (m z)) := hin.row.cell hzn
          have mf := hin.row.frozen z
          rw [ha']
          clear hSr hc2 hc' hk0 hk1 t0 c3 hxc hwr hwr2 hki hg1 hg2
          cases hmz : m z with
          | true =>
            rw [hmz] at mz
            have HALL : Hid (StkW w (some ⟨b, off, none⟩) n c now m K u4 wr ∧ StkIn n D x (j + 1) m K ∧ 2 * (n - cntB m n) + K.length ≤ 2 * (n - cntB m0 n) + kl) := ⟨hin, hst.pass (by rw [hzt]; exact hmz), hms⟩
            clear hin hst hms hmz
            go_wp2
            go_roundw
            case rel => exact ⟨j + 1, m, K, by omega, by go_num, HALL.out.1, HALL.out.2.1, HALL.out.2.2⟩
            case measure => simp [intOf]; omega
          | false =>
            rw [hmz] at mz
            have hst2 := hst.push hltj hzt hzn hmz
            have hcl := cntB_lt (m := m) (m' := fun j => if j = z then true else m j) (fun y hy => by by_cases e : y = z <;> simp [e, hy]) (i := z) (by simp [hmz]) (by simp) n hzn
            have hfew5 := cntB_le (fun j => if j = z then true else m j) n
            have hin2 := hin.mark z
            have HALL : Hid (StkIn n D x (j + 1) (fun j => if j = z then true else m j) (K ++ [z]) ∧ 2 * (n - cntB (fun j => if j = z then true else m j) n) + (K ++ [z]).length ≤ 2 * (n - cntB m0 n) + kl) := ⟨hst2, by rw [List.length_append]; simp only [List.length_singleton]; omega⟩
            have HIN : Hid (StkW w (some ⟨b, off, none⟩) n c now (fun j => if j = z then true else m j) K u4 (wr.setCell ⟨w.heap.size + 1, z, none⟩ (.bool true))) := hin2
            have hsz := hin.size
            clear hin hst hms hmz hst2 hcl hin2
            go_wp2_with (at_builtin; refine wpList_append_own _ rfl _ _ 26 rfl (w.heap.size + 2) 3 i0 (.int .i64 0) 1 8 Tryz.underlying26 hi hz0 hz1 hz2 rfl (by decide) _ _ _ rfl (HIN.out.alloc _).own ⟨_, 0, none⟩ 1 1 (natv [z]) rfl rfl ?c1 ?c2 ?c3 ?c4 ?c5 ?_)
            case c1 =>
              have := natv_cells (wr.setCell ⟨w.heap.size + 1, z, none⟩ (.bool true)) z
              rwa [show (wr.setCell ⟨w.heap.size + 1, z, none⟩ (.bool true)).heap.size = wr.heap.size by simp [World.setCell]] at this
            case c2 => exact natv_one _
            case c3 => unfold maxLen; omega
            case c4 => omega
            case c5 => simp [World.setCell]; omega
            intro v' w1 hown hgrow hnil
            have HN : Hid (StkW w (some ⟨b, off, none⟩) n c now (fun j => if j = z then true else m j) (K ++ [z]) v' w1) := (HIN.out.alloc _).push hown hgrow hnil
            clear hown hgrow hnil
            go_wp2
            go_roundw
            case rel => exact ⟨j + 1, _, K ++ [z], by omega, by go_num, HN.out, HALL.out.1, HALL.out.2⟩
            case measure => simp [intOf]; omega
        · have hje : j = (D x).kn := by omega
          have hmeas := hin.meas
          have HALL : Hid (StkW w (some ⟨b, off, none⟩) n c now m K u4 wr ∧ Stk n D m K ∧ 2 * (n - cntB m n) + K.length ≤ 2 * (n - cntB m0 n) + kl ∧ 2 * (n - cntB (fun j => bitAt wr (w.heap.size + 1) j) n) + lenOf u4 = 2 * (n - cntB m n) + K.length) := ⟨hin, (hje ▸ hst).out, hms, hmeas⟩
          clear hin hst hms hje hmeas
          go_wp2
          go_roundw
          case rel => exact ⟨m, K, HALL.out.1, HALL.out.2.1⟩
          case measure =>
            have h1 := HALL.out.2.2
            have h2 := HST.out.2.2
            simp at h2 ⊢
            omega
end Go.Proofs.YtakifcobofkheabGreatDoor

/-
  What TreeOk of the program has to keep.
-/
namespace Go.Proofs.YtakifcobofkheabGreatDoor
open Go.RowKit

/-- What TreeOk of the program has to keep. -/
def ImplTreeOk : Prop := ∀ (a : Option Addr) (n c : Nat) (now : Int) (D : Nat → Nd) (L : Nat → Loc) (w : World), IsNds w a n D L → FitAll n D → n ≤ maxLen → sizeTo D n ≤ 1048576 → In64 now →
    Calls Tryz.prog 60 #[trV a n c now] w fun e w' => Below w.heap.size w w' ∧ ∃ r : Bool, e = .returned (.bool r) ∧ (r = true ↔ TreeGood n D now)
end Go.Proofs.YtakifcobofkheabGreatDoor

/-
  What reachOk and TreeOk of the program answer.
-/
namespace Go.Proofs.YtakifcobofkheabGreatDoor
open Go.RowKit
set_option linter.unusedVariables false

set_option maxHeartbeats 2000000 in
theorem reachOk_any (a : Option Addr) (n c : Nat) (now : Int) (D : Nat → Nd) (L : Nat → Loc) (w : World) (hS : IsNds w a n D L) (h1 : 1 ≤ n) (hn : n ≤ 1048576) (hsm : ∀ i, i < n → (D i).kn ≤ maxLen) (hk : ∀ i, i < n → ∀ j, j < (D i).kn → 0 ≤ (D i).kids j ∧ (D i).kids j < n) :
    Calls Tryz.prog 79 #[trV a n c now] w fun e w' => Below w.heap.size w w' ∧ ∃ r : Bool, e = .returned (.bool r) ∧ (r = true ↔ ∀ i, i < n → (Reach n D i ↔ (D i).kind ≠ 0)) := by
  unfold trV
  go_enter Tryz.func79, Tryz.ntmps79
  go_wp2_with fail
  refine at_world (F := New1 w _ _) (new1 w _ _) ?_
  rintro W ⟨hp, hb, hs⟩
  refine (reached_any a n c now D L W (hS.below (Nat.le_refl _) hb) h1 hn hsm hk).mono ?_
  rintro e w1 ⟨hb1, rfl, m, hrow, hm⟩
  have hp1 := hp.below hb1 (by omega)
  have HIN : Hid (RefsIn w a n c now w1 ∧ w1.rowIs (W.heap.size + 1) 4 n (fun j => .bool (m j))) := ⟨⟨hp1, hb.trans (hb1.mono (by omega))⟩, hrow⟩
  have HM : Hid (∀ j, m j = true ↔ Reach n D j) := hm
  clear hp hb hs hb1 hrow hp1 hm
  generalize W.heap.size + 1 = bm at *
  go_wp2
  go_loopw [8] (fun i wr => ∃ k : Nat, k ≤ n ∧ i = .int .i64 k ∧ RefsIn w a n c now wr ∧ wr.rowIs bm 4 n (fun j => .bool (m j)) ∧ ∀ i, i < k → (Reach n D i ↔ (D i).kind ≠ 0)) (fun i _ => n - (intOf i).toNat)
  case atStart => exact ⟨0, Nat.zero_le _, rfl, HIN.out.1, HIN.out.2, fun i h2 => by omega⟩
  case round =>
    obtain ⟨k, hk', rfl, hin, hrow, hall⟩ := hrel
    by_cases hlt : k < n
    · have hSr := hS.below (Nat.le_refl _) hin.bel
      obtain ⟨b, off, rfl, hlt2, hc⟩ := hSr.at hlt
      have c0 := (hc k hlt).1
      have t0 : wr.cell? ⟨w.heap.size, 0, none⟩ = some (.slice (some ⟨b, off, none⟩) n c) := hin.t.cell 0
      have hki : (k : Int) < (n : Int) := by omega
      have rc : wr.cell? ⟨bm, k, none⟩ = some (.bool (m k)) := hrow.cell hlt
      have HR : Hid (RefsIn w (some ⟨b, off, none⟩) n c now wr ∧ wr.rowIs bm 4 n (fun j => .bool (m j)) ∧ ∀ i, i < k → (Reach n D i ↔ (D i).kind ≠ 0)) := ⟨hin, hrow, hall⟩
      clear hc hin hrow hall hSr HIN
      cases hkz : ((D k).kind == 0) with
      | true =>
        have HZ : Hid ((D k).kind = 0) := show (D k).kind = 0 by simpa using hkz
        cases hmk : m k with
        | true =>
          rw [hmk] at rc
          have HX : Hid (Reach n D k) := (HM.out k).1 hmk
          clear hmk
          go_wp2
          go_ret
          exact ⟨HR.out.1.bel, false, rfl, fun h => (by cases h), fun h => absurd HZ.out ((h k hlt).1 HX.out)⟩
        | false =>
          rw [hmk] at rc
          have HX : Hid (Reach n D k ↔ (D k).kind ≠ 0) := ⟨fun h => (by have := (HM.out k).2 h; rw [hmk] at this; cases this), fun h => absurd HZ.out h⟩
          clear hmk
          go_wp2
          go_roundw
          case rel => exact ⟨k + 1, by omega, by go_num, HR.out.1, HR.out.2.1, fun i h2 => by
            by_cases e : i = k
            · subst e; exact HX.out
            · exact HR.out.2.2 i (by omega)⟩
          case measure => simp [intOf]; omega
      | false =>
        have HZ : Hid (¬ (D k).kind = 0) := show ¬ (D k).kind = 0 by simpa using hkz
        cases hmk : m k with
        | false =>
          rw [hmk] at rc
          have HX : Hid (¬ Reach n D k) := fun h => (by have := (HM.out k).2 h; rw [hmk] at this; cases this)
          clear hmk
          go_wp2
          go_ret
          exact ⟨HR.out.1.bel, false, rfl, fun h => (by cases h), fun h => absurd ((h k hlt).2 HZ.out) HX.out⟩
        | true =>
          rw [hmk] at rc
          have HX : Hid (Reach n D k ↔ (D k).kind ≠ 0) := ⟨fun _ => HZ.out, fun _ => (HM.out k).1 hmk⟩
          clear hmk
          go_wp2
          go_roundw
          case rel => exact ⟨k + 1, by omega, by go_num, HR.out.1, HR.out.2.1, fun i h2 => by
            by_cases e : i = k
            · subst e; exact HX.out
            · exact HR.out.2.2 i (by omega)⟩
          case measure => simp [intOf]; omega
    · have HALL : Hid (Below w.heap.size w wr ∧ ∀ i, i < n → (Reach n D i ↔ (D i).kind ≠ 0)) := ⟨hin.bel, fun i h2 => hall i (by omega)⟩
      clear hin hrow hall HIN
      go_wp2
      go_ret
      exact ⟨HALL.out.1, true, rfl, fun _ => HALL.out.2, fun _ => rfl⟩

set_option maxHeartbeats 2000000 in
theorem implTreeOk : ImplTreeOk := by
  intro a n c now D L w hS hf hn hsz hnow
  have hn' := hn
  unfold maxLen at hn'
  have out : ∀ (e : Ending) (w' : World), Below w.heap.size w w' → e = .returned (.bool false) → ¬ TreeGood n D now → Below w.heap.size w w' ∧ ∃ r : Bool, e = .returned (.bool r) ∧ (r = true ↔ TreeGood n D now) :=
    fun e w' hb he hg => ⟨hb, false, he, fun h => (by cases h), fun h => absurd h hg⟩
  by_cases g1 : n < 1
  · have hb1 : decide ((n : Int) < 1) = true := by simp; omega
    have HG : Hid (¬ TreeGood n D now) := fun h => by have := h.some; omega
    unfold trV
    go_enter Tryz.func60, Tryz.ntmps60
    go_wp2_with fail
    go_ret
    exact out _ _ ((Below.refl _ _).alloc (Nat.le_refl _) _) rfl HG.out
  · have hb1 : decide ((n : Int) < 1) = false := by simp; omega
    by_cases g2 : 10 < n
    · have hb2 : decide (10 < (n : Int)) = true := by simp; omega
      have HG : Hid (¬ TreeGood n D now) := fun h => by have := h.few; omega
      unfold trV
      go_enter Tryz.func60, Tryz.ntmps60
      go_wp2_with fail
      go_ret
      exact out _ _ ((Below.refl _ _).alloc (Nat.le_refl _) _) rfl HG.out
    · have hb2 : decide (10 < (n : Int)) = false := by simp; omega
      cases hto : turnIn now 1000 with
      | false =>
        have HG : Hid (¬ TreeGood n D now) := fun h => by
          have h1 := h.begun
          have h2 := h.soon
          unfold turnIn at hto
          rw [decide_eq_true h1, decide_eq_true h2] at hto
          cases hto
        unfold trV
        go_enter Tryz.func60, Tryz.ntmps60
        go_wp2_with (go_at_call 77; refine (turnOk_any _ _ _).mono ?_; rintro e w' ⟨rfl, rfl⟩; rw [hto])
        go_ret
        exact out _ _ ((Below.refl _ _).alloc (Nat.le_refl _) _) rfl HG.out
      | true =>
        have HT : Hid (1 ≤ now ∧ now ≤ 1000) := by
          show 1 ≤ now ∧ now ≤ 1000
          unfold turnIn at hto
          simpa using hto
        obtain ⟨b, off, rfl, hlt2, hc⟩ := hS.at (show 0 < n by omega)
        have c0 := (hc 0 (by omega)).1
        rw [Nat.zero_mul, Nat.add_zero] at c0
        clear hc
        by_cases g5 : (D 0).kind = 2
        · have hb5 : ((D 0).kind != 2) = false := by simp [g5]
          have H5 : Hid ((D 0).kind = 2) := g5
          clear g5
          unfold trV
          go_enter Tryz.func60, Tryz.ntmps60
          go_wp2_with (go_at_call 77; refine (turnOk_any _ _ _).mono ?_; rintro e w' ⟨rfl, rfl⟩; rw [hto])
          clear c0
          go_loopw [30] (fun i wr => ∃ k : Nat, k ≤ n ∧ i = .int .i64 k ∧ RefsIn w (some ⟨b, off, none⟩) n c now wr ∧ ∀ i, i < k → ndOk n D now (D i) = true) (fun i _ => n - (intOf i).toNat)
          case atStart => exact ⟨0, Nat.zero_le _, rfl, ⟨(new1 w _ _).b0, (new1 w _ _).bel⟩, fun i hi => by omega⟩
          case round =>
            obtain ⟨k, hk, rfl, hin, hall⟩ := hrel
            have t0 : wr.cell? ⟨w.heap.size, 0, none⟩ = some (.slice (some ⟨b, off, none⟩) n c) := hin.t.cell 0
            have t1 : wr.cell? ⟨w.heap.size, 1, none⟩ = some (.int .i64 now) := hin.t.cell 1
            have hSr := hS.below (Nat.le_refl _) hin.bel
            have hwl : w.heap.size < wr.heap.size := hin.t.lt
            by_cases hlt : k < n
            · obtain ⟨b', off', ha, hlt2', hc⟩ := hSr.at hlt
              cases ha
              obtain ⟨c0, c1, c2, c3, c4, hI⟩ := hc k hlt
              have hki : (k : Int) < (n : Int) := by omega
              have HIN : Hid (RefsIn w (some ⟨b, off, none⟩) n c now wr ∧ ∀ i, i < k → ndOk n D now (D i) = true) := ⟨hin, hall⟩
              clear hc hin hall
              go_wp2_with fail
              refine at_world (F := New1 wr _ _) (new1 wr _ _) ?_
              rintro W ⟨hp, hb, hs⟩
              refine (placeOk_any _ n c now D L (D k) (L k) W (hSr.below (Nat.le_refl _) hb) (hI.below (Nat.le_refl _) hb) (hf k hlt) hn).mono ?_
              rintro e w1 ⟨hb1', rfl⟩
              have hbw : Below wr.heap.size wr w1 := hb.trans (hb1'.mono (by omega))
              have HN : Hid (RefsIn w (some ⟨b, off, none⟩) n c now w1) := ⟨HIN.out.1.t.below hbw hwl, HIN.out.1.bel.trans (hbw.mono HIN.out.1.bel.size)⟩
              clear hp hb hs hb1' hbw c0 c1 c2 c3 c4 hI hSr t0 t1
              cases hq : ndOk n D now (D k) with
              | false =>
                have HQ : Hid (¬ TreeGood n D now) := fun h => by have := h.nodes k hlt; rw [hq] at this; cases this
                clear hq
                go_wp2
                go_ret
                exact out _ _ HN.out.bel rfl HQ.out
              | true =>
                have HQ : Hid (ndOk n D now (D k) = true) := hq
                clear hq
                go_wp2
                go_roundw
                case rel => exact ⟨k + 1, by omega, by go_num, HN.out, fun i hi => by
                  by_cases e : i = k
                  · subst e; exact HQ.out
                  · exact HIN.out.2 i (by omega)⟩
                case measure => simp [intOf]; omega
            · have hke : k = n := by omega
              have HALL : Hid (∀ i, i < n → ndOk n D now (D i) = true) := fun i hi => hall i (by omega)
              have HIN : Hid (RefsIn w (some ⟨b, off, none⟩) n c now wr) := hin
              clear hke hall hin
              go_wp2_with fail
              refine (reachOk_any _ n c now D L wr hSr (by omega) (by omega) (fun i hi => (hf i hi).kn) (kids_in HALL.out)).mono ?_
              rintro e w1 ⟨hb1', r, rfl, hr⟩
              have hN1 : RefsIn w (some ⟨b, off, none⟩) n c now w1 := ⟨HIN.out.t.below hb1' hwl, HIN.out.bel.trans (hb1'.mono HIN.out.bel.size)⟩
              have T0 : w1.cell? ⟨w.heap.size, 0, none⟩ = some (.slice (some ⟨b, off, none⟩) n c) := hN1.t.cell 0
              have T1 : w1.cell? ⟨w.heap.size, 1, none⟩ = some (.int .i64 now) := hN1.t.cell 1
              have HN1 : Hid (RefsIn w (some ⟨b, off, none⟩) n c now w1 ∧ (r = true ↔ ∀ i, i < n → (Reach n D i ↔ (D i).kind ≠ 0))) := ⟨hN1, hr⟩
              clear hb1' hN1 hr t0 t1 hSr
              cases r with
              | false =>
                have HQ : Hid (¬ TreeGood n D now) := fun h => by
                  have := HN1.out.2.2 (fun i hi => by
                    by_cases e : i = 0
                    · subst e; exact ⟨fun _ => by rw [H5.out]; decide, fun _ => .root⟩
                    · exact h.reach i (by omega) hi)
                  cases this
                go_wp2
                go_ret
                exact out _ _ HN1.out.1.bel rfl HQ.out
              | true =>
                go_wp2_with fail
                refine (namedOnce_any _ n c now D L w1 (hS.below (Nat.le_refl _) HN1.out.1.bel) (by omega) hsz (fun i hi => (hf i hi).kn) (kids_in HALL.out)).mono ?_
                rintro e w2 ⟨hb2', r2, rfl, hr2⟩
                have HE : Hid (Below w.heap.size w w2 ∧ (r2 = true ↔ TreeGood n D now)) := ⟨HN1.out.1.bel.trans (hb2'.mono HN1.out.1.bel.size),
                  fun h => ⟨by omega, by omega, HT.out.1, HT.out.2, H5.out, HALL.out, fun i _ hi => HN1.out.2.1 (by trivial) i hi, hr2.1 h⟩, fun h => hr2.2 h.one⟩
                clear hb2' hr2
                go_wp2
                go_ret
                exact ⟨HE.out.1, r2, rfl, HE.out.2⟩
        · have hb5 : ((D 0).kind != 2) = true := by simpa using g5
          have HG : Hid (¬ TreeGood n D now) := fun h => g5 h.root
          clear g5
          unfold trV
          go_enter Tryz.func60, Tryz.ntmps60
          go_wp2_with (go_at_call 77; refine (turnOk_any _ _ _).mono ?_; rintro e w' ⟨rfl, rfl⟩; rw [hto])
          go_ret
          exact out _ _ ((Below.refl _ _).alloc (Nat.le_refl _) _) rfl HG.out
end Go.Proofs.YtakifcobofkheabGreatDoor

/-
  errors.As at a target of the program's own error type, a struct of one number: of no error it answers false, of that very type it answers true and hands the number over.
-/
namespace Go.Proofs.YtakifcobofkheabGreatDoor
open Go.RowKit Go.Extern.Stop Go.Stop Go.Extern
set_option linter.unusedVariables false
set_option linter.unusedSimpArgs false

/-- What the listed variable of the library reads as. -/
def ErrType (w : World) : Prop := w.cell? ⟨0, 0, none⟩ = some (.iface 157 (.agg #[.pointer (some ⟨1, 91, none⟩)]))

theorem ErrType.lt {w : World} (h : ErrType w) : 0 < w.heap.size := by
  unfold ErrType at h
  rcases Nat.eq_zero_or_pos w.heap.size with h0 | h1
  · simp [World.cell?, h0] at h
  · exact h1

theorem ErrType.below {w w' : World} (h : ErrType w) {B : Nat} (hb : Below B w w') (hB : 0 < B) : ErrType w' := (hb.cell (p := ⟨0, 0, none⟩) hB).trans h

theorem ErrType.bel {w w' : World} (h : ErrType w) (hb : Below w.heap.size w w') : ErrType w' := h.below hb h.lt

/-- errors.As of no error. -/
theorem as_nil (t : Value) (w : World) :
    Calls Tryz.prog 75 #[.nilIface, t] w fun e w' => e = .returned (.bool false) ∧ w' = w := by
  go_enter Tryz.func75, Tryz.ntmps75
  go_wp2
  go_ret
  exact ⟨rfl, rfl⟩

theorem as_vP (t : Addr) (w : World) : (ReflectliteValue.unpack (.iface 117 (.pointer (some t)))).run Tryz.prog w
    = .ok (.agg #[.pointer (some ⟨1, 117, none⟩), .pointer (some ⟨w.heap.size, 0, none⟩), .int .u64 150]) (w.alloc (.cells #[.pointer (some t)] 117)) := by kernel_rfl
theorem as_tP (a : Addr) (w : World) : (ReflectliteValue.methodAny (ReflectliteValue.valueError "reflectlite.Value.Type" 0) (fun t _ _ _ => ReflectliteType.toType t) #[.agg #[.pointer (some ⟨1, 117, none⟩), .pointer (some a), .int .u64 150]]).run Tryz.prog w
    = .ok (.iface 157 (.agg #[.pointer (some ⟨1, 117, none⟩)])) w := by kernel_rfl
theorem as_mKind (h : Value) (w : World) : (Go.method 306 157 (.agg #[h]) "Kind").run Tryz.prog w = .ok (141, h) w := by kernel_rfl
theorem as_mElem (h : Value) (w : World) : (Go.method 306 157 (.agg #[h]) "Elem").run Tryz.prog w = .ok (151, .agg #[h]) w := by kernel_rfl
theorem as_mImpl (h : Value) (w : World) : (Go.method 306 157 (.agg #[h]) "Implements").run Tryz.prog w = .ok (152, .agg #[h]) w := by kernel_rfl
theorem as_mAssn (h : Value) (w : World) : (Go.method 306 157 (.agg #[h]) "AssignableTo").run Tryz.prog w = .ok (149, .agg #[h]) w := by kernel_rfl
theorem as_kP (w : World) : ((ReflectliteType.abiMethod fun t => (fun a : Nat => Value.int IntKind.u8 (a : Int)) <$> Rtype.kind t) #[.pointer (some ⟨1, 117, none⟩)]).run Tryz.prog w = .ok (.int .u8 22) w := by kernel_rfl
theorem as_kE (w : World) : ((ReflectliteType.abiMethod fun t => (fun a : Nat => Value.int IntKind.u8 (a : Int)) <$> Rtype.kind t) #[.pointer (some ⟨1, 115, none⟩)]).run Tryz.prog w = .ok (.int .u8 25) w := by kernel_rfl

theorem rlm (z : Sem Value) (f : TypeId → Addr → Nat → Nat → Sem Value) (v : Value) :
    ReflectliteValue.method z f #[v] = (do match ← ReflectliteValue.parts v with | none => z | some (t, a, fl) => f t a fl (fl % 32)) := rfl
theorem as_pP (a : Addr) (w : World) : (ReflectliteValue.parts (.agg #[.pointer (some ⟨1, 117, none⟩), .pointer (some a), .int .u64 150])).run Tryz.prog w = .ok (some (117, a, 150)) w := by kernel_rfl
theorem as_isNil (a p : Addr) (W : World) (ha : W.cell? a = some (.pointer (some p))) :
    (ReflectliteValue.method (ReflectliteValue.valueError "reflectlite.Value.IsNil" 0) ReflectliteValue.isNil #[.agg #[.pointer (some ⟨1, 117, none⟩), .pointer (some a), .int .u64 150]]).run Tryz.prog W = .ok (.bool false) W := by
  rw [rlm]
  simp only [Sem.run_bind, as_pP, Result.andThen]
  simp [ReflectliteValue.isNil, loadVar, isAgg, underlying, Tryz.underlying117, ha, Result.andThen]

theorem as_eP (w : World) : (ReflectliteType.method ReflectliteType.elem #[.agg #[.pointer (some ⟨1, 117, none⟩)]]).run Tryz.prog w = .ok (.iface 157 (.agg #[.pointer (some ⟨1, 115, none⟩)])) w := by kernel_rfl
theorem as_iE (w : World) : (ReflectliteType.relation "Implements" ReflectliteType.implements_ #[.agg #[.pointer (some ⟨1, 115, none⟩)], .iface 157 (.agg #[.pointer (some ⟨1, 91, none⟩)])]).run Tryz.prog w = .ok (.bool true) w := by kernel_rfl
theorem as_tE (v : Value) (w : World) : (ReflectliteType.typeOf #[.iface 115 v]).run Tryz.prog w = .ok (.iface 157 (.agg #[.pointer (some ⟨1, 115, none⟩)])) w := by kernel_rfl
theorem as_aE (w : World) : (ReflectliteType.relation "AssignableTo" ReflectliteType.assignableTo #[.agg #[.pointer (some ⟨1, 115, none⟩)], .iface 157 (.agg #[.pointer (some ⟨1, 115, none⟩)])]).run Tryz.prog w = .ok (.bool true) w := by kernel_rfl
theorem as_vE (z : Int) (w : World) : (ReflectliteValue.unpack (.iface 115 (.agg #[.int .i64 z]))).run Tryz.prog w
    = .ok (.agg #[.pointer (some ⟨1, 115, none⟩), .pointer (some ⟨w.heap.size, 0, none⟩), .int .u64 153]) (w.alloc (.cells #[.int .i64 z] 115)) := by kernel_rfl

theorem as_elemOf (w : World) : (Rtype.elem? 117).run Tryz.prog w = .ok (some 115) w := by kernel_rfl
theorem as_mk (p : Addr) (w : World) : (ReflectliteValue.mk 115 p ReflectliteValue.flagAddr).run Tryz.prog w = .ok (.agg #[.pointer (some ⟨1, 115, none⟩), .pointer (some p), .int .u64 409]) w := by kernel_rfl
theorem as_elemV (a p : Addr) (W : World) (ha : W.cell? a = some (.pointer (some p))) :
    (ReflectliteValue.method (ReflectliteValue.valueError "reflectlite.Value.Elem" 0) ReflectliteValue.elem #[.agg #[.pointer (some ⟨1, 117, none⟩), .pointer (some a), .int .u64 150]]).run Tryz.prog W
      = .ok (.agg #[.pointer (some ⟨1, 115, none⟩), .pointer (some p), .int .u64 409]) W := by
  rw [rlm]
  simp only [Sem.run_bind, as_pP, Result.andThen]
  simp [ReflectliteValue.elem, loadVar, isAgg, underlying, Tryz.underlying117, ha, Result.andThen, as_elemOf, as_mk]
theorem rls (v x : Value) : ReflectliteValue.set #[v, x] = (do
    let (some (dst, a, fl), some (src, b, _)) := (← ReflectliteValue.parts v, ← ReflectliteValue.parts x)
      | unsupported (.noEntry "extern/(internal/reflectlite.Value).Set.zeroValue")
    if fl / ReflectliteValue.flagAddr % 2 == 0 then unsupported (.noEntry "extern/(internal/reflectlite.Value).Set.unaddressable")
    let val ← loadVar src b
    if ← Rtype.directlyAssignable dst src then storeVar dst a val
    else if ← Rtype.implements dst src then
      if (← Rtype.kind src) == 20 then
        match val with
        | .nilIface => unsupported (.noEntry "extern/reflectlite: a nil value of one interface type handed on as a value of another")
        | _ => storeVar dst a val
      else storeVar dst a (.iface src val)
    else panicString ("reflectlite.Set: value of type " ++ (← Rtype.spelt src) ++ " is not assignable to type " ++ (← Rtype.spelt dst))
    pure (.tuple #[])) := rfl
theorem as_pEa (a : Addr) (w : World) : (ReflectliteValue.parts (.agg #[.pointer (some ⟨1, 115, none⟩), .pointer (some a), .int .u64 409])).run Tryz.prog w = .ok (some (115, a, 409)) w := by kernel_rfl
theorem as_pE (a : Addr) (w : World) : (ReflectliteValue.parts (.agg #[.pointer (some ⟨1, 115, none⟩), .pointer (some a), .int .u64 153])).run Tryz.prog w = .ok (some (115, a, 153)) w := by kernel_rfl
theorem as_direct (w : World) : (Rtype.directlyAssignable 115 115).run Tryz.prog w = .ok true w := by kernel_rfl
theorem as_size (w : World) : (sizeOf 115).run Tryz.prog w = .ok 1 w := by kernel_rfl
theorem as_loadE (b : Addr) (z : Int) (W : World) (hb : W.cell? b = some (.int .i64 z)) : (loadVar 115 b).run Tryz.prog W = .ok (.agg #[.int .i64 z]) W := by
  simp [loadVar, isAgg, underlying, Tryz.underlying115, as_size, hb, Result.andThen, loadCells, go_sem]
theorem as_storeE (a : Addr) (z : Int) (old : Value) (W : World) (ht : W.cell? a = some old) (hf : W.frozen? a = false) : (storeVar 115 a (.agg #[.int .i64 z])).run Tryz.prog W = .ok () (W.setCell a (.int .i64 z)) := by
  simp [storeVar, Value.cells, storeCells, Addr.add, go_sem, ht, hf]
theorem as_set (ta b : Addr) (z : Int) (old : Value) (W : World) (hb : W.cell? b = some (.int .i64 z)) (ht : W.cell? ta = some old) (hf : W.frozen? ta = false) :
    (ReflectliteValue.set #[.agg #[.pointer (some ⟨1, 115, none⟩), .pointer (some ta), .int .u64 409], .agg #[.pointer (some ⟨1, 115, none⟩), .pointer (some b), .int .u64 153]]).run Tryz.prog W
      = .ok (.tuple #[]) (W.setCell ta (.int .i64 z)) := by
  rw [rls]
  simp only [Sem.run_bind, as_pEa, as_pE, Result.andThen]
  simp [ReflectliteValue.flagAddr, as_loadE b z W hb, Result.andThen, as_direct, as_storeE ta z old W ht hf]

set_option maxHeartbeats 4000000 in
theorem as_hit (z : Int) (t : Addr) (old : Value) (w : World) (hg : ErrType w) (ht0 : w.cell? t = some old) (hf0 : w.frozen? t = false) :
    Calls Tryz.prog 75 #[.iface 115 (.agg #[.int .i64 z]), .iface 117 (.pointer (some t))] w fun ev w' => ev = .returned (.bool true) ∧ ∃ W, Below w.heap.size w W ∧ w' = W.setCell t (.int .i64 z) := by
  have h6 := @run_callFunc_extern Tryz.prog 92 _ (fun args => ReflectliteValue.unpack (args.getD 0 (.tuple #[]))) Tryz.func92 (by kernel_rfl) (by kernel_rfl) (by kernel_rfl) (by kernel_rfl)
  have h7 := @run_callFunc_extern Tryz.prog 93 _ (ReflectliteValue.methodAny (ReflectliteValue.valueError "reflectlite.Value.Type" 0) (fun t _ _ _ => ReflectliteType.toType t)) Tryz.func93 (by kernel_rfl) (by kernel_rfl) (by kernel_rfl) (by kernel_rfl)
  have h8 := @run_callFunc_extern Tryz.prog 94 _ (ReflectliteValue.method (ReflectliteValue.valueError "reflectlite.Value.IsNil" 0) ReflectliteValue.isNil) Tryz.func94 (by kernel_rfl) (by kernel_rfl) (by kernel_rfl) (by kernel_rfl)
  have h27 := @run_callFunc_extern Tryz.prog 141 _ (ReflectliteType.abiMethod fun t => do pure (.int .u8 (← Rtype.kind t))) Tryz.func141 (by kernel_rfl) (by kernel_rfl) (by kernel_rfl) (by kernel_rfl)
  have h37 := @run_callFunc_extern Tryz.prog 151 _ (ReflectliteType.method ReflectliteType.elem) Tryz.func151 (by kernel_rfl) (by kernel_rfl) (by kernel_rfl) (by kernel_rfl)
  have h38 := @run_callFunc_extern Tryz.prog 152 _ (ReflectliteType.relation "Implements" ReflectliteType.implements_) Tryz.func152 (by kernel_rfl) (by kernel_rfl) (by kernel_rfl) (by kernel_rfl)
  have h10 := @run_callFunc_extern Tryz.prog 112 _ ReflectliteType.typeOf Tryz.func112 (by kernel_rfl) (by kernel_rfl) (by kernel_rfl) (by kernel_rfl)
  have h35 := @run_callFunc_extern Tryz.prog 149 _ (ReflectliteType.relation "AssignableTo" ReflectliteType.assignableTo) Tryz.func149 (by kernel_rfl) (by kernel_rfl) (by kernel_rfl) (by kernel_rfl)
  have h11 := @run_callFunc_extern Tryz.prog 113 _ (ReflectliteValue.method (ReflectliteValue.valueError "reflectlite.Value.Elem" 0) ReflectliteValue.elem) Tryz.func113 (by kernel_rfl) (by kernel_rfl) (by kernel_rfl) (by kernel_rfl)
  have h12 := @run_callFunc_extern Tryz.prog 114 _ ReflectliteValue.set Tryz.func114 (by kernel_rfl) (by kernel_rfl) (by kernel_rfl) (by kernel_rfl)
  have tO := as_tE
  have mA := as_mAssn
  have aE := as_aE
  have vE := as_vE
  have f6 := as_vP
  have f7 := as_tP
  have mK := as_mKind
  have mE := as_mElem
  have mI := as_mImpl
  have kP := as_kP
  have kE := as_kE
  have eP := as_eP
  have iE := as_iE
  have hlt := hg.lt
  unfold ErrType at hg
  have n8 := as_isNil ⟨w.heap.size, 0, none⟩ t ((w.alloc (.cells #[.pointer (some t)] 117)).alloc (.cells #[.pointer (some ⟨1, 117, none⟩), .pointer (some ⟨w.heap.size, 0, none⟩), .int .u64 150] 132)) (by simp)
  have hg2 : ((w.alloc (.cells #[.pointer (some t)] 117)).alloc (.cells #[.pointer (some ⟨1, 117, none⟩), .pointer (some ⟨w.heap.size, 0, none⟩), .int .u64 150] 132)).cell? ⟨0, 0, none⟩ = some (.iface 157 (.agg #[.pointer (some ⟨1, 91, none⟩)])) := by
    rw [World.cell?_alloc_lt _ _ ⟨0, 0, none⟩ (by simp), World.cell?_alloc_lt _ _ ⟨0, 0, none⟩ hlt]; exact hg
  have htl : t.block < w.heap.size := by
    rcases Nat.lt_or_ge t.block w.heap.size with h | h
    · exact h
    · simp [World.cell?, Array.getElem?_eq_none h] at ht0
  have el := as_elemV ⟨w.heap.size, 0, none⟩ t (((w.alloc (.cells #[.pointer (some t)] 117)).alloc (.cells #[.pointer (some ⟨1, 117, none⟩), .pointer (some ⟨w.heap.size, 0, none⟩), .int .u64 150] 132)).alloc (.cells #[.pointer (some ⟨1, 117, none⟩), .pointer (some ⟨w.heap.size, 0, none⟩), .int .u64 150] 132)) (by rw [World.cell?_alloc_lt _ _ ⟨w.heap.size, 0, none⟩ (by simp; omega)]; simp)
  have st := as_set t ⟨w.heap.size + 1 + 1 + 1, 0, none⟩ z old ((((w.alloc (.cells #[.pointer (some t)] 117)).alloc (.cells #[.pointer (some ⟨1, 117, none⟩), .pointer (some ⟨w.heap.size, 0, none⟩), .int .u64 150] 132)).alloc (.cells #[.pointer (some ⟨1, 117, none⟩), .pointer (some ⟨w.heap.size, 0, none⟩), .int .u64 150] 132)).alloc (.cells #[.int .i64 z] 115))
    (by rw [World.cell?_alloc_at _ _ _ _ (by simp)]; rfl)
    (by rw [World.cell?_alloc_lt _ _ t (by simp; omega), World.cell?_alloc_lt _ _ t (by simp; omega), World.cell?_alloc_lt _ _ t (by simp; omega), World.cell?_alloc_lt _ _ t htl]; exact ht0)
    (by rw [World.frozen?_alloc_old _ _ t (by simp; omega), World.frozen?_alloc_old _ _ t (by simp; omega), World.frozen?_alloc_old _ _ t (by simp; omega), World.frozen?_alloc_old _ _ t (Nat.ne_of_lt htl)]; exact hf0)
  have HB : Hid (Below w.heap.size w ((((w.alloc (.cells #[.pointer (some t)] 117)).alloc (.cells #[.pointer (some ⟨1, 117, none⟩), .pointer (some ⟨w.heap.size, 0, none⟩), .int .u64 150] 132)).alloc (.cells #[.pointer (some ⟨1, 117, none⟩), .pointer (some ⟨w.heap.size, 0, none⟩), .int .u64 150] 132)).alloc (.cells #[.int .i64 z] 115))) :=
    ((((Below.refl _ w).alloc (Nat.le_refl _) _).alloc (by simp) _).alloc (by simp; omega) _).alloc (by simp; omega) _
  go_enter Tryz.func75, Tryz.ntmps75
  go_wp2
  refine wp_loop_rounds 1 ?_
  rw [rounds_succ]
  go_wp2
  go_ret
  exact ⟨rfl, _, HB.out, rfl⟩
end Go.Proofs.YtakifcobofkheabGreatDoor

/-
  What bringOne, treeOrCode and BackOne of the program answer.
-/
namespace Go.Proofs.YtakifcobofkheabGreatDoor
open Go.RowKit Go.Maps Go.WideMaps Go.Deep
set_option linter.unusedVariables false
set_option linter.unusedSimpArgs false
set_option linter.unnecessarySimpa false

/-- What bringOne answers. -/
def BringPost (w : World) (n : Nat) (D : Nat → Nd) (now : Int) (d : Dp) (e : Ending) (w' : World) : Prop :=
  Below w.heap.size w w' ∧ ((backCode n D now d ≠ 0 ∧ e = .returned (.tuple #[.agg #[.slice none 0 0, .int .i64 0], .iface 115 (.agg #[.int .i64 (backCode n D now d)])])) ∨
    (backCode n D now d = 0 ∧ ∃ b c M, e = .returned (.tuple #[.agg #[.slice b d.ln c, .int .i64 d.date], .nilIface]) ∧ OT w' w.heap.size 0 (fun _ => false) d.ln (fun _ => 0) (oneD (fromN n d) D d) M (.slice none 0 0) (.slice b d.ln c)))

theorem On.bfail {w : World} {a : Option Addr} {n c : Nat} {now : Int} {d : Dp} {l : DLoc} {W : World} (h : On w a n c now d l W) {D : Nat → Nd} {z : Int} (hz : backCode n D now d = z) (h0 : z ≠ 0) :
    Blk ((W.setCell ⟨w.heap.size + 1 + 1, 0, none⟩ (.slice none 0 0)).setCell ⟨w.heap.size + 1 + 1, 1, none⟩ (.int .i64 0)) (w.heap.size + 1 + 1) #[.slice none 0 0, .int .i64 0] 44 ∧
      BringPost w n D now d (.returned (.tuple #[.agg #[.slice none 0 0, .int .i64 0], .iface 115 (.agg #[.int .i64 z])])) ((W.setCell ⟨w.heap.size + 1 + 1, 0, none⟩ (.slice none 0 0)).setCell ⟨w.heap.size + 1 + 1, 1, none⟩ (.int .i64 0)) :=
  ⟨(h.r.set 0 _).set 1 _, bel_put (bel_put h.bel _ (by omega)) _ (by omega), Or.inl ⟨by rw [hz]; exact h0, by rw [hz]⟩⟩

theorem On.bfine {w : World} {a : Option Addr} {n c : Nat} {now : Int} {d : Dp} {l : DLoc} {W : World} (h : On w a n c now d l W) {D : Nat → Nd} (hz : backCode n D now d = 0) {B : Nat} (hB : w.heap.size + 3 ≤ B) {b : Option Addr} {bc : Nat} {M : Nat → Loc} (hot : OT W B 0 (fun _ => false) d.ln (fun _ => 0) (oneD (fromN n d) D d) M (.slice none 0 0) (.slice b d.ln bc)) :
    Blk ((W.setCell ⟨w.heap.size + 1 + 1, 0, none⟩ (.slice b d.ln bc)).setCell ⟨w.heap.size + 1 + 1, 1, none⟩ (.int .i64 d.date)) (w.heap.size + 1 + 1) #[.slice b d.ln bc, .int .i64 d.date] 44 ∧
      BringPost w n D now d (.returned (.tuple #[.agg #[.slice b d.ln bc, .int .i64 d.date], .nilIface])) ((W.setCell ⟨w.heap.size + 1 + 1, 0, none⟩ (.slice b d.ln bc)).setCell ⟨w.heap.size + 1 + 1, 1, none⟩ (.int .i64 d.date)) :=
  ⟨(h.r.set 0 _).set 1 _, bel_put (bel_put h.bel _ (by omega)) _ (by omega), Or.inr ⟨hz, b, bc, M, rfl, OT.lower ((hot.off _ (by omega)).off _ (by omega)) (by omega)⟩⟩

theorem On.grown {w : World} {a : Option Addr} {n c : Nat} {now : Int} {d : Dp} {l : DLoc} {W W' : World} (h : On w a n c now d l W) {q : Nat} (hg : W.grownBy W' (some q)) (hq : w.heap.size + 3 ≤ q) : On w a n c now d l W' :=
  ⟨blk_grown h.p hg (fun e => by have := Option.some.inj e; omega), blk_grown h.q hg (fun e => by have := Option.some.inj e; omega), blk_grown h.r hg (fun e => by have := Option.some.inj e; omega), h.bel.grown hg h.bel.size (fun j e => by have := Option.some.inj e; omega)⟩

/-- What a look into the map tells. -/
theorem one_look {w w4 W : World} {a : Option Addr} {n : Nat} {D : Nat → Nd} {L : Nat → Loc} {d : Dp} {l : DLoc} (hS : IsNds w a n D L) (hD : DpIn w d l) (hw4 : Below w.heap.size w w4)
    (hT : ∀ i, i < n → (D i).nn ≤ 1048576 ∧ (D i).kn ≤ 1048576 ∧ (D i).text.size ≤ 1048576 ∧ ∀ j, j < (D i).nn → ((D i).names j).size ≤ 1048576)
    (hd : ∀ i, i < d.m → (d.nd i).nn ≤ 1048576 ∧ (d.nd i).kn ≤ 1048576 ∧ (d.nd i).text.size ≤ 1048576 ∧ ∀ j, j < (d.nd i).nn → ((d.nd i).names j).size ≤ 1048576) (hok : d.ok = true) (hW : Below w4.heap.size w4 W)
    {bm q : Nat} {M : DataW Value} (hown : W.ownsMap Tryz.prog 3 heldR bm q M) (hK : Knows M (learn (learnT (fun _ => none) D L n) d.ino d.nd l.L d.m)) {k : Nat} (hlv : d.live k = true) (hk : k < 1000) :
    ∃ (x : Nd) (l : Loc) (th : Bool), (Instr.lookup 142 (.map (some bm)) (.int .i64 (k : Int)) true).run Tryz.prog W = .ok (.tuple #[.agg #[.int .i64 x.kind, .string x.text, .slice l.nA x.nn l.nc, .slice l.kA x.kn l.kc, .int .i64 x.turn], .bool th]) W ∧
      ((th = false ∧ oneNd n D d k = none) ∨ (th = true ∧ oneNd n D d k = some x ∧ (∀ W', Below w4.heap.size w4 W' → NdIn W' x l) ∧ x.nn ≤ 1048576 ∧ x.kn ≤ 1048576 ∧ x.text.size ≤ 1048576 ∧ ∀ j, j < x.nn → (x.names j).size ≤ 1048576)) := by
  have hkey : keyOf Tryz.prog 3 (.int .i64 (k : Int)) = some (.int .i64 (k : Int)) := keyOf_int_mk Tryz.underlying3 (WalkArith.wf_i64 (by omega))
  obtain ⟨v, ps, hrun, hv⟩ := hown.look_ok (int_keyed Tryz.underlying3) Tryz.underlying142 (zeroNodeV W) (zd := .held (.agg #[.int .i64 0, .string ByteArray.empty, .slice none 0 0, .slice none 0 0, .int .i64 0])) (zp := []) rfl hkey
  rw [hK.has] at hrun
  have hlx := learn_ix (learnT (fun _ => none) D L n) d.ino d.nd l.L (k : Int) d.m
  have hval : ∀ u, learn (learnT (fun _ => none) D L n) d.ino d.nd l.L d.m (k : Int) = some u → v = u := fun u hu => by
    rw [hK.at_ _ _ hu] at hv
    unfold heldR at hv
    cases hv
    rfl
  cases hob : ixOf d.ino d.m (k : Int) with
  | some j =>
    rw [hob] at hlx
    obtain rfl := hval _ hlx
    rw [hlx] at hrun
    have hj := ixOf_some hob
    refine ⟨d.nd j, l.L j, true, hrun, Or.inr ⟨rfl, by unfold oneNd; rw [hlv, hob]; rfl, fun W' hW' => ?_, hd j hj.1⟩⟩
    obtain ⟨_, _, _, _, hc⟩ := ((hD.items.below (Nat.le_refl _) hw4).below (Nat.le_refl _) hW').at hj.1
    exact (hc j hj.1).2.2.2.2.2.2
  | none =>
    rw [hob] at hlx
    by_cases hkn : k < n ∧ (D k).kind ≠ 0
    · have hlt := learnT_at (fun _ => none) D L (z := k) n hkn.1
      rw [if_pos hkn.2] at hlt
      have hlx' := hlx.trans hlt
      obtain rfl := hval _ hlx'
      rw [hlx'] at hrun
      refine ⟨D k, L k, true, hrun, Or.inr ⟨rfl, by unfold oneNd; rw [hlv, hob]; simp only [if_true]; exact if_pos hkn, fun W' hW' => ?_, hT k hkn.1⟩⟩
      obtain ⟨_, _, _, _, hc⟩ := ((hS.below (Nat.le_refl _) hw4).below (Nat.le_refl _) hW').at hkn.1
      exact (hc k hkn.1).2.2.2.2.2
    · have hlt : learnT (fun _ => none) D L n (k : Int) = none := by
        rcases Nat.lt_or_ge k n with g | g
        · rw [learnT_at (fun _ => none) D L (z := k) n g]
          exact if_neg fun e => hkn ⟨g, e⟩
        · exact learnT_out (fun _ => none) D L (z := k) n g
      have hlx' := hlx.trans hlt
      rw [hlx'] at hrun
      have hno := hK.has (k : Int)
      rw [hlx'] at hno
      rw [atKey_of_not_has hno] at hv
      unfold heldR at hv
      cases hv
      exact ⟨⟨0, ByteArray.empty, 0, fun _ => ByteArray.empty, 0, fun _ => 0, 0⟩, ⟨none, 0, none, 0⟩, false, hrun, Or.inl ⟨rfl, by unfold oneNd; rw [hlv, hob]; simp only [if_true]; exact if_neg hkn⟩⟩

set_option maxRecDepth 100000 in
set_option maxHeartbeats 8000000 in
theorem bringOne_any (a : Option Addr) (n c : Nat) (now : Int) (D : Nat → Nd) (L : Nat → Loc) (d : Dp) (l : DLoc) (w : World) (hS : IsNds w a n D L) (hD : DpIn w d l) (hn : n ≤ maxLen) (hf : FitAll n D) (hfd : d.Fits) (hnow : In64 now) (hsz : sizeTo D n + sizeTo d.nd d.m ≤ 1048576) :
    Calls Tryz.prog 76 #[trV a n c now, dpV d l] w (BringPost w n D now d) := by
  unfold trV dpV
  have hmk := run_makeMapN
  have htS := tr_small (show sizeTo D n ≤ 1048576 by omega)
  have htd := tr_small (show sizeTo d.nd d.m ≤ 1048576 by omega)
  go_enter Tryz.func76, Tryz.ntmps76
  go_wp2_with fail
  refine at_world (F := fun W => On w a n c now d l W ∧ w.heap.size + 3 ≤ W.heap.size) ⟨on3 w a n c now d l, by simp⟩ ?_
  rintro W ⟨hO, hsW⟩
  refine (implDumpOk_any d l W (hD.below (Nat.le_refl _) hO.bel) hfd).mono ?_
  rintro e w1 ⟨hb1, rfl⟩
  have H1 : Hid (On w a n c now d l w1) := hO.below hb1
  have hs1 : w.heap.size + 3 ≤ w1.heap.size := by have := hb1.size; omega
  clear hb1 hO hsW
  obtain ⟨⟨p0, p1⟩, ⟨q0, q1, q2, q3⟩, r0, r1⟩ := H1.out.cells
  have g0 := H1.out.r.frozen 0
  have g1 := H1.out.r.frozen 1
  cases hok : d.ok with
  | false =>
    have HC : Hid (backCode n D now d = 3) := code_form (Or.inl hok)
    clear hok
    have HE : Hid _ := H1.out.bfail (D := D) (z := 3) HC.out (by decide)
    clear HC
    go_wp2_with fail
    refine end_world (F := fun U => Blk U (w.heap.size + 1 + 1) #[.slice none 0 0, .int .i64 0] 44 ∧ BringPost w n D now d (.returned (.tuple #[.agg #[.slice none 0 0, .int .i64 0], .iface 115 (.agg #[.int .i64 3])])) U) HE.out ?_
    clear HE
    rintro U ⟨hr, hE⟩
    have e0 : U.cell? ⟨w.heap.size + 1 + 1, 0, none⟩ = some (.slice none 0 0) := hr.cell 0
    have e1 : U.cell? ⟨w.heap.size + 1 + 1, 1, none⟩ = some (.int .i64 0) := hr.cell 1
    exact bodyPost_ret (v := .tuple #[.agg #[.slice none 0 0, .int .i64 0], .iface 115 (.agg #[.int .i64 3])]) (by simp [results, Tryz.results76, go_sem, e0, e1]) rfl hE
  | true =>
    have HOK : Hid (0 ≤ d.since) := ok_since hok
    have HLN : Hid (d.ok = true ∧ d.ln ≤ 10) := ⟨hok, (ok_head1 hok).2⟩
    have hm10 := m_small hok
    have HSZ : Hid (sizeTo (oneD (fromN n d) D d) d.ln ≤ 1048576 ∧ FitAll d.ln (oneD (fromN n d) D d)) := ⟨by have h1 := one_small (n := fromN n d) (D := D) hok; have h2 := sizeTo_mono D (fromN_le n d); omega, oneD_fits (hf.less (fromN_le n d)) hfd _⟩
    by_cases hsi : 0 < d.since
    · go_wp2_with fail
      refine (implTreeOk a n c now D L w1 (hS.below (Nat.le_refl _) H1.out.bel) hf hn (by omega) hnow).mono ?_
      rintro e w2 ⟨hb2, r, rfl, hr⟩
      have H2 : Hid (On w a n c now d l w2) := H1.out.below hb2
      have hs2 : w.heap.size + 3 ≤ w2.heap.size := by have := hb2.size; omega
      clear hb2
      clear p0 p1 q0 q1 q2 q3 r0 r1 g0 g1
      obtain ⟨⟨p0, p1⟩, ⟨q0, q1, q2, q3⟩, r0, r1⟩ := H2.out.cells
      have g0 := H2.out.r.frozen 0
      have g1 := H2.out.r.frozen 1
      have n0 : w.heap.size < w2.heap.size := by omega
      have n1 : w.heap.size + 1 < w2.heap.size := by omega
      have n2 : w.heap.size + 1 + 1 < w2.heap.size := by omega
      have m0 : w.heap.size ≠ w2.heap.size := by omega
      have m1 : w.heap.size + 1 ≠ w2.heap.size := by omega
      have m2 : w.heap.size + 1 + 1 ≠ w2.heap.size := by omega
      cases r with
      | false =>
        have HC : Hid (backCode n D now d = 3) := code_form (Or.inr ⟨hsi, fun h => by have := hr.2 h; cases this⟩)
        clear hr
        have HE : Hid _ := H2.out.bfail (D := D) (z := 3) HC.out (by decide)
        clear HC
        go_wp2_with fail
        refine end_world (F := fun U => Blk U (w.heap.size + 1 + 1) #[.slice none 0 0, .int .i64 0] 44 ∧ BringPost w n D now d (.returned (.tuple #[.agg #[.slice none 0 0, .int .i64 0], .iface 115 (.agg #[.int .i64 3])])) U) HE.out ?_
        clear HE
        rintro U ⟨hr, hE⟩
        have e0 : U.cell? ⟨w.heap.size + 1 + 1, 0, none⟩ = some (.slice none 0 0) := hr.cell 0
        have e1 : U.cell? ⟨w.heap.size + 1 + 1, 1, none⟩ = some (.int .i64 0) := hr.cell 1
        exact bodyPost_ret (v := .tuple #[.agg #[.slice none 0 0, .int .i64 0], .iface 115 (.agg #[.int .i64 3])]) (by simp [results, Tryz.results76, go_sem, e0, e1]) rfl hE
      | true =>
        have HG : Hid (TreeGood n D now) := hr.1 rfl
        clear hr
        by_cases hnw : now = d.since
        · have hnb : (d.since != now) = false := by simp [hnw]
          have HFR : Hid (0 < d.since → TreeGood n D now ∧ now = d.since) := fun _ => ⟨HG.out, hnw⟩
          have HFN : Hid (fromN n d = n) := fromN_some hsi
          clear hnw
          go_wp2_with fail
          obtain ⟨bm, hbm⟩ : ∃ bm, bm = w2.heap.size := ⟨_, rfl⟩
          refine at_world (F := fun U => On w a n c now d l U ∧ U.ownsMap Tryz.prog 3 heldR bm 0 (.map [])) ⟨H2.out.below ((Below.refl _ _).alloc (Nat.le_refl _) _), by rw [hbm]; exact World.ownsMap_made _ _ _ _⟩ ?_
          rintro U1 ⟨hU1, hUm⟩
          rw [← hbm]
          refine (learnPlaces_any bm 0 (.map []) (fun _ => none) a n c now D L U1 (hS.below (Nat.le_refl _) hU1.bel) HG.out.few (by have := HG.out.few; omega) hUm knows_start).mono ?_
          rintro e w3 ⟨⟨v3, rfl⟩, hg3, qn, M1, hq1, ho3, hk3⟩
          have HW : Hid (On w a n c now d l w3) := hU1.grown hg3 (by omega)
          have KN : Hid (w3.ownsMap Tryz.prog 3 heldR bm qn M1 ∧ Knows M1 (learnT (fun _ => none) D L n) ∧ w.heap.size + 3 ≤ bm ∧ qn ≤ 10) := ⟨ho3, hk3, by omega, by have := HG.out.few; omega⟩
          clear hU1 hUm hg3 ho3 hk3 hq1 hbm n0 n1 n2 m0 m1 m2
          clear p0 p1 q0 q1 q2 q3 r0 r1 g0 g1
          obtain ⟨⟨p0, p1⟩, ⟨q0, q1, q2, q3⟩, r0, r1⟩ := HW.out.cells
          have g0 := HW.out.r.frozen 0
          have g1 := HW.out.r.frozen 1
          go_wp2_with fail
          refine (learnItems_any bm qn M1 _ l.iA d.m l.ic d.ino d.nd l.L w3 (hD.items.below (Nat.le_refl _) HW.out.bel) hfd.ino (by have := KN.out.2.2.2; omega) KN.out.1 KN.out.2.1).mono ?_
          rintro e w4 ⟨⟨v4, rfl⟩, hg4, M4, ho4, hk4⟩
          have H4 : Hid (On w a n c now d l w4) := HW.out.grown hg4 KN.out.2.2.1
          have hs4 : w.heap.size + 3 ≤ w4.heap.size := by have := hg4.size; have := KN.out.2.2.1; have := ho4.lt; omega
          have HK4 : Hid (w4.ownsMap Tryz.prog 3 heldR bm (qn + d.m) M4 ∧ Knows M4 (learn (learnT (fun _ => none) D L n) d.ino d.nd l.L d.m)) := ⟨ho4, hk4⟩
          clear hg4 ho4 hk4 KN HW
          clear p0 p1 q0 q1 q2 q3 r0 r1 g0 g1
          obtain ⟨⟨p0, p1⟩, ⟨q0, q1, q2, q3⟩, r0, r1⟩ := H4.out.cells
          have g0 := H4.out.r.frozen 0
          have g1 := H4.out.r.frozen 1
          have n0 : w.heap.size < w4.heap.size := by omega
          have n1 : w.heap.size + 1 < w4.heap.size := by omega
          have n2 : w.heap.size + 1 + 1 < w4.heap.size := by omega
          have m0 : w.heap.size ≠ w4.heap.size := by omega
          have m1 : w.heap.size + 1 ≠ w4.heap.size := by omega
          have m2 : w.heap.size + 1 + 1 ≠ w4.heap.size := by omega
          go_wp2_with fail
          refine (livePlaces_any bm l.lA d.ln l.lc d.live (oneNd (fromN n d) D d) w4 (hD.live.below (Nat.le_refl _) H4.out.bel) HLN.out.2 (fun k hk hz => by unfold oneNd; rw [hz]; rfl) (fun W k hW hk hz => by
            rw [HFN.out]
            exact one_look (w := w) (w4 := w4) hS hD H4.out.bel htS htd HLN.out.1 hW (map_block HK4.out.1 (hW.block bm HK4.out.1.lt)) HK4.out.2 hz (by have := HLN.out.2; omega))).mono ?_
          rintro e w5 ⟨hb5, hcase⟩
          have H5 : Hid (On w a n c now d l w5) := H4.out.below hb5
          have hs5 : w.heap.size + 3 ≤ w5.heap.size := by have := hb5.size; omega
          have HB4 : Hid (w.heap.size + 3 ≤ w4.heap.size) := hs4
          clear hb5 n0 n1 n2 m0 m1 m2
          clear p0 p1 q0 q1 q2 q3 r0 r1 g0 g1
          obtain ⟨⟨p0, p1⟩, ⟨q0, q1, q2, q3⟩, r0, r1⟩ := H5.out.cells
          have g0 := H5.out.r.frozen 0
          have g1 := H5.out.r.frozen 1
          have n0 : w.heap.size < w5.heap.size := by omega
          have n1 : w.heap.size + 1 < w5.heap.size := by omega
          have n2 : w.heap.size + 1 + 1 < w5.heap.size := by omega
          have m0 : w.heap.size ≠ w5.heap.size := by omega
          have m1 : w.heap.size + 1 ≠ w5.heap.size := by omega
          have m2 : w.heap.size + 1 + 1 ≠ w5.heap.size := by omega
          rcases hcase with ⟨hbad, rfl⟩ | ⟨hkn, b, bc, M, rfl, hot⟩
          · have HC : Hid (backCode n D now d = 2) := code_bad hok HFR.out (Or.inl hbad)
            clear hbad
            have HE : Hid _ := H5.out.bfail (D := D) (z := 2) HC.out (by decide)
            clear HC
            go_wp2_with fail
            refine end_world (F := fun U => Blk U (w.heap.size + 1 + 1) #[.slice none 0 0, .int .i64 0] 44 ∧ BringPost w n D now d (.returned (.tuple #[.agg #[.slice none 0 0, .int .i64 0], .iface 115 (.agg #[.int .i64 2])])) U) HE.out ?_
            clear HE
            rintro U ⟨hr, hE⟩
            have e0 : U.cell? ⟨w.heap.size + 1 + 1, 0, none⟩ = some (.slice none 0 0) := hr.cell 0
            have e1 : U.cell? ⟨w.heap.size + 1 + 1, 1, none⟩ = some (.int .i64 0) := hr.cell 1
            exact bodyPost_ret (v := .tuple #[.agg #[.slice none 0 0, .int .i64 0], .iface 115 (.agg #[.int .i64 2])]) (by simp [results, Tryz.results76, go_sem, e0, e1]) rfl hE
          · have HKN : Hid (∀ i, i < d.ln → oneNd (fromN n d) D d i ≠ none) := hkn
            have HOT : Hid (OT w5 w4.heap.size 0 (fun _ => false) d.ln (fun _ => 0) (oneD (fromN n d) D d) M (.slice none 0 0) (.slice b d.ln bc)) := hot
            clear hkn hot
            go_wp2_with fail
            refine at_world (F := fun U => On w a n c now d l U ∧ Blk U w5.heap.size #[.slice b d.ln bc, .int .i64 d.date] 44 ∧ OT U w4.heap.size 0 (fun _ => false) d.ln (fun _ => 0) (oneD (fromN n d) D d) M (.slice none 0 0) (.slice b d.ln bc) ∧ w5.heap.size < U.heap.size) ⟨H5.out.below ((Below.refl _ _).alloc (Nat.le_refl _) _), Blk.new _ _ _, HOT.out.below ((Below.refl _ _).alloc (Nat.le_refl _) _), by simp⟩ ?_
            rintro U1 ⟨hU1, hUt, hUo, hUs⟩
            refine (implTreeOk b d.ln bc d.date (oneD (fromN n d) D d) M U1 hUo.nds HSZ.out.2 (by have := HLN.out.2; unfold maxLen; omega) HSZ.out.1 hfd.date).mono ?_
            rintro e w6 ⟨hb6, r, rfl, hr⟩
            have H6 : Hid (On w a n c now d l w6) := hU1.below hb6
            have HOT6 : Hid (OT w6 w4.heap.size 0 (fun _ => false) d.ln (fun _ => 0) (oneD (fromN n d) D d) M (.slice none 0 0) (.slice b d.ln bc)) := hUo.below hb6
            have hUt6 := hUt.below hb6 hUt.lt
            have t0 : w6.cell? ⟨w5.heap.size, 0, none⟩ = some (.slice b d.ln bc) := hUt6.cell 0
            have t1 : w6.cell? ⟨w5.heap.size, 1, none⟩ = some (.int .i64 d.date) := hUt6.cell 1
            have hs6 : w.heap.size + 3 ≤ w6.heap.size := by have := hb6.size; omega
            clear hb6 hU1 hUt hUo hUt6 HOT
            clear p0 p1 q0 q1 q2 q3 r0 r1 g0 g1
            obtain ⟨⟨p0, p1⟩, ⟨q0, q1, q2, q3⟩, r0, r1⟩ := H6.out.cells
            have g0 := H6.out.r.frozen 0
            have g1 := H6.out.r.frozen 1
            cases r with
            | false =>
              have HC : Hid (backCode n D now d = 2) := code_bad hok HFR.out (Or.inr (fun h => by have := hr.2 h; cases this))
              clear hr
              have HE : Hid _ := H6.out.bfail (D := D) (z := 2) HC.out (by decide)
              clear HC
              go_wp2_with fail
              refine end_world (F := fun U => Blk U (w.heap.size + 1 + 1) #[.slice none 0 0, .int .i64 0] 44 ∧ BringPost w n D now d (.returned (.tuple #[.agg #[.slice none 0 0, .int .i64 0], .iface 115 (.agg #[.int .i64 2])])) U) HE.out ?_
              clear HE
              rintro U ⟨hr, hE⟩
              have e0 : U.cell? ⟨w.heap.size + 1 + 1, 0, none⟩ = some (.slice none 0 0) := hr.cell 0
              have e1 : U.cell? ⟨w.heap.size + 1 + 1, 1, none⟩ = some (.int .i64 0) := hr.cell 1
              exact bodyPost_ret (v := .tuple #[.agg #[.slice none 0 0, .int .i64 0], .iface 115 (.agg #[.int .i64 2])]) (by simp [results, Tryz.results76, go_sem, e0, e1]) rfl hE
            | true =>
              have HE : Hid _ := H6.out.bfine (D := D) (code_fine hok HFR.out HKN.out (hr.1 rfl)) HB4.out HOT6.out
              clear hr
              go_wp2_with fail
              refine end_world (F := fun U => Blk U (w.heap.size + 1 + 1) #[.slice b d.ln bc, .int .i64 d.date] 44 ∧ BringPost w n D now d (.returned (.tuple #[.agg #[.slice b d.ln bc, .int .i64 d.date], .nilIface])) U) HE.out ?_
              clear HE
              rintro U ⟨hr, hE⟩
              have e0 : U.cell? ⟨w.heap.size + 1 + 1, 0, none⟩ = some (.slice b d.ln bc) := hr.cell 0
              have e1 : U.cell? ⟨w.heap.size + 1 + 1, 1, none⟩ = some (.int .i64 d.date) := hr.cell 1
              exact bodyPost_ret (v := .tuple #[.agg #[.slice b d.ln bc, .int .i64 d.date], .nilIface]) (by simp [results, Tryz.results76, go_sem, e0, e1]) rfl hE
        · have hnb : (d.since != now) = true := by simp; exact fun e => hnw e.symm
          have HC : Hid (backCode n D now d = 1) := code_other hok hsi HG.out hnw
          clear hnw
          have HE : Hid _ := H2.out.bfail (D := D) (z := 1) HC.out (by decide)
          clear HC
          go_wp2_with fail
          refine end_world (F := fun U => Blk U (w.heap.size + 1 + 1) #[.slice none 0 0, .int .i64 0] 44 ∧ BringPost w n D now d (.returned (.tuple #[.agg #[.slice none 0 0, .int .i64 0], .iface 115 (.agg #[.int .i64 1])])) U) HE.out ?_
          clear HE
          rintro U ⟨hr, hE⟩
          have e0 : U.cell? ⟨w.heap.size + 1 + 1, 0, none⟩ = some (.slice none 0 0) := hr.cell 0
          have e1 : U.cell? ⟨w.heap.size + 1 + 1, 1, none⟩ = some (.int .i64 0) := hr.cell 1
          exact bodyPost_ret (v := .tuple #[.agg #[.slice none 0 0, .int .i64 0], .iface 115 (.agg #[.int .i64 1])]) (by simp [results, Tryz.results76, go_sem, e0, e1]) rfl hE
    · have hs0 : d.since = 0 := by have := HOK.out; omega
      have HFN : Hid (fromN n d = 0) := fromN_none hs0
      have HFR : Hid (0 < d.since → TreeGood n D now ∧ now = d.since) := fun h => absurd h hsi
      clear hs0
      have n0 : w.heap.size < w1.heap.size := by omega
      have n1 : w.heap.size + 1 < w1.heap.size := by omega
      have n2 : w.heap.size + 1 + 1 < w1.heap.size := by omega
      have m0 : w.heap.size ≠ w1.heap.size := by omega
      have m1 : w.heap.size + 1 ≠ w1.heap.size := by omega
      have m2 : w.heap.size + 1 + 1 ≠ w1.heap.size := by omega
      go_wp2_with fail
      obtain ⟨bm, hbm⟩ : ∃ bm, bm = w1.heap.size := ⟨_, rfl⟩
      refine at_world (F := fun U => On w a n c now d l U ∧ U.ownsMap Tryz.prog 3 heldR bm 0 (.map [])) ⟨H1.out.below ((Below.refl _ _).alloc (Nat.le_refl _) _), by rw [hbm]; exact World.ownsMap_made _ _ _ _⟩ ?_
      rintro w3 ⟨hU1, hUm⟩
      rw [← hbm]
      obtain ⟨qn, hq1⟩ : ∃ qn, qn = 0 := ⟨_, rfl⟩
      obtain ⟨M1, hM1⟩ : ∃ M1 : DataW Value, M1 = .map [] := ⟨_, rfl⟩
      have HW : Hid (On w a n c now d l w3) := hU1
      have KN : Hid (w3.ownsMap Tryz.prog 3 heldR bm qn M1 ∧ Knows M1 (learnT (fun _ => none) D L 0) ∧ w.heap.size + 3 ≤ bm ∧ qn ≤ 10) := ⟨by rw [hq1, hM1]; exact hUm, by rw [hM1]; exact knows_start, by omega, by omega⟩
      clear hU1 hUm hq1 hM1 hbm n0 n1 n2 m0 m1 m2
      refine (learnItems_any bm qn M1 _ l.iA d.m l.ic d.ino d.nd l.L w3 (hD.items.below (Nat.le_refl _) HW.out.bel) hfd.ino (by have := KN.out.2.2.2; omega) KN.out.1 KN.out.2.1).mono ?_
      rintro e w4 ⟨⟨v4, rfl⟩, hg4, M4, ho4, hk4⟩
      have H4 : Hid (On w a n c now d l w4) := HW.out.grown hg4 KN.out.2.2.1
      have hs4 : w.heap.size + 3 ≤ w4.heap.size := by have := hg4.size; have := KN.out.2.2.1; have := ho4.lt; omega
      have HK4 : Hid (w4.ownsMap Tryz.prog 3 heldR bm (qn + d.m) M4 ∧ Knows M4 (learn (learnT (fun _ => none) D L 0) d.ino d.nd l.L d.m)) := ⟨ho4, hk4⟩
      clear hg4 ho4 hk4 KN HW
      clear p0 p1 q0 q1 q2 q3 r0 r1 g0 g1
      obtain ⟨⟨p0, p1⟩, ⟨q0, q1, q2, q3⟩, r0, r1⟩ := H4.out.cells
      have g0 := H4.out.r.frozen 0
      have g1 := H4.out.r.frozen 1
      have n0 : w.heap.size < w4.heap.size := by omega
      have n1 : w.heap.size + 1 < w4.heap.size := by omega
      have n2 : w.heap.size + 1 + 1 < w4.heap.size := by omega
      have m0 : w.heap.size ≠ w4.heap.size := by omega
      have m1 : w.heap.size + 1 ≠ w4.heap.size := by omega
      have m2 : w.heap.size + 1 + 1 ≠ w4.heap.size := by omega
      go_wp2_with fail
      refine (livePlaces_any bm l.lA d.ln l.lc d.live (oneNd (fromN n d) D d) w4 (hD.live.below (Nat.le_refl _) H4.out.bel) HLN.out.2 (fun k hk hz => by unfold oneNd; rw [hz]; rfl) (fun W k hW hk hz => by
        rw [HFN.out]
        exact one_look (w := w) (w4 := w4) (show IsNds w none 0 D L from Or.inl rfl) hD H4.out.bel (fun i hi => absurd hi (Nat.not_lt_zero _)) htd HLN.out.1 hW (map_block HK4.out.1 (hW.block bm HK4.out.1.lt)) HK4.out.2 hz (by have := HLN.out.2; omega))).mono ?_
      rintro e w5 ⟨hb5, hcase⟩
      have H5 : Hid (On w a n c now d l w5) := H4.out.below hb5
      have hs5 : w.heap.size + 3 ≤ w5.heap.size := by have := hb5.size; omega
      have HB4 : Hid (w.heap.size + 3 ≤ w4.heap.size) := hs4
      clear hb5 n0 n1 n2 m0 m1 m2
      clear p0 p1 q0 q1 q2 q3 r0 r1 g0 g1
      obtain ⟨⟨p0, p1⟩, ⟨q0, q1, q2, q3⟩, r0, r1⟩ := H5.out.cells
      have g0 := H5.out.r.frozen 0
      have g1 := H5.out.r.frozen 1
      have n0 : w.heap.size < w5.heap.size := by omega
      have n1 : w.heap.size + 1 < w5.heap.size := by omega
      have n2 : w.heap.size + 1 + 1 < w5.heap.size := by omega
      have m0 : w.heap.size ≠ w5.heap.size := by omega
      have m1 : w.heap.size + 1 ≠ w5.heap.size := by omega
      have m2 : w.heap.size + 1 + 1 ≠ w5.heap.size := by omega
      rcases hcase with ⟨hbad, rfl⟩ | ⟨hkn, b, bc, M, rfl, hot⟩
      · have HC : Hid (backCode n D now d = 2) := code_bad hok HFR.out (Or.inl hbad)
        clear hbad
        have HE : Hid _ := H5.out.bfail (D := D) (z := 2) HC.out (by decide)
        clear HC
        go_wp2_with fail
        refine end_world (F := fun U => Blk U (w.heap.size + 1 + 1) #[.slice none 0 0, .int .i64 0] 44 ∧ BringPost w n D now d (.returned (.tuple #[.agg #[.slice none 0 0, .int .i64 0], .iface 115 (.agg #[.int .i64 2])])) U) HE.out ?_
        clear HE
        rintro U ⟨hr, hE⟩
        have e0 : U.cell? ⟨w.heap.size + 1 + 1, 0, none⟩ = some (.slice none 0 0) := hr.cell 0
        have e1 : U.cell? ⟨w.heap.size + 1 + 1, 1, none⟩ = some (.int .i64 0) := hr.cell 1
        exact bodyPost_ret (v := .tuple #[.agg #[.slice none 0 0, .int .i64 0], .iface 115 (.agg #[.int .i64 2])]) (by simp [results, Tryz.results76, go_sem, e0, e1]) rfl hE
      · have HKN : Hid (∀ i, i < d.ln → oneNd (fromN n d) D d i ≠ none) := hkn
        have HOT : Hid (OT w5 w4.heap.size 0 (fun _ => false) d.ln (fun _ => 0) (oneD (fromN n d) D d) M (.slice none 0 0) (.slice b d.ln bc)) := hot
        clear hkn hot
        go_wp2_with fail
        refine at_world (F := fun U => On w a n c now d l U ∧ Blk U w5.heap.size #[.slice b d.ln bc, .int .i64 d.date] 44 ∧ OT U w4.heap.size 0 (fun _ => false) d.ln (fun _ => 0) (oneD (fromN n d) D d) M (.slice none 0 0) (.slice b d.ln bc) ∧ w5.heap.size < U.heap.size) ⟨H5.out.below ((Below.refl _ _).alloc (Nat.le_refl _) _), Blk.new _ _ _, HOT.out.below ((Below.refl _ _).alloc (Nat.le_refl _) _), by simp⟩ ?_
        rintro U1 ⟨hU1, hUt, hUo, hUs⟩
        refine (implTreeOk b d.ln bc d.date (oneD (fromN n d) D d) M U1 hUo.nds HSZ.out.2 (by have := HLN.out.2; unfold maxLen; omega) HSZ.out.1 hfd.date).mono ?_
        rintro e w6 ⟨hb6, r, rfl, hr⟩
        have H6 : Hid (On w a n c now d l w6) := hU1.below hb6
        have HOT6 : Hid (OT w6 w4.heap.size 0 (fun _ => false) d.ln (fun _ => 0) (oneD (fromN n d) D d) M (.slice none 0 0) (.slice b d.ln bc)) := hUo.below hb6
        have hUt6 := hUt.below hb6 hUt.lt
        have t0 : w6.cell? ⟨w5.heap.size, 0, none⟩ = some (.slice b d.ln bc) := hUt6.cell 0
        have t1 : w6.cell? ⟨w5.heap.size, 1, none⟩ = some (.int .i64 d.date) := hUt6.cell 1
        have hs6 : w.heap.size + 3 ≤ w6.heap.size := by have := hb6.size; omega
        clear hb6 hU1 hUt hUo hUt6 HOT
        clear p0 p1 q0 q1 q2 q3 r0 r1 g0 g1
        obtain ⟨⟨p0, p1⟩, ⟨q0, q1, q2, q3⟩, r0, r1⟩ := H6.out.cells
        have g0 := H6.out.r.frozen 0
        have g1 := H6.out.r.frozen 1
        cases r with
        | false =>
          have HC : Hid (backCode n D now d = 2) := code_bad hok HFR.out (Or.inr (fun h => by have := hr.2 h; cases this))
          clear hr
          have HE : Hid _ := H6.out.bfail (D := D) (z := 2) HC.out (by decide)
          clear HC
          go_wp2_with fail
          refine end_world (F := fun U => Blk U (w.heap.size + 1 + 1) #[.slice none 0 0, .int .i64 0] 44 ∧ BringPost w n D now d (.returned (.tuple #[.agg #[.slice none 0 0, .int .i64 0], .iface 115 (.agg #[.int .i64 2])])) U) HE.out ?_
          clear HE
          rintro U ⟨hr, hE⟩
          have e0 : U.cell? ⟨w.heap.size + 1 + 1, 0, none⟩ = some (.slice none 0 0) := hr.cell 0
          have e1 : U.cell? ⟨w.heap.size + 1 + 1, 1, none⟩ = some (.int .i64 0) := hr.cell 1
          exact bodyPost_ret (v := .tuple #[.agg #[.slice none 0 0, .int .i64 0], .iface 115 (.agg #[.int .i64 2])]) (by simp [results, Tryz.results76, go_sem, e0, e1]) rfl hE
        | true =>
          have HE : Hid _ := H6.out.bfine (D := D) (code_fine hok HFR.out HKN.out (hr.1 rfl)) HB4.out HOT6.out
          clear hr
          go_wp2_with fail
          refine end_world (F := fun U => Blk U (w.heap.size + 1 + 1) #[.slice b d.ln bc, .int .i64 d.date] 44 ∧ BringPost w n D now d (.returned (.tuple #[.agg #[.slice b d.ln bc, .int .i64 d.date], .nilIface])) U) HE.out ?_
          clear HE
          rintro U ⟨hr, hE⟩
          have e0 : U.cell? ⟨w.heap.size + 1 + 1, 0, none⟩ = some (.slice b d.ln bc) := hr.cell 0
          have e1 : U.cell? ⟨w.heap.size + 1 + 1, 1, none⟩ = some (.int .i64 d.date) := hr.cell 1
          exact bodyPost_ret (v := .tuple #[.agg #[.slice b d.ln bc, .int .i64 d.date], .nilIface]) (by simp [results, Tryz.results76, go_sem, e0, e1]) rfl hE


/-- treeOrCode of a tree that was brought back. -/
theorem treeOrCode_nil (s : Value) (now : Int) (a : Option Addr) (n c : Nat) (hs : s = .slice a n c) (w : World) :
    Calls Tryz.prog 58 #[.agg #[s, .int .i64 now], .nilIface] w fun e w' => e = .returned (.tuple #[.agg #[s, .int .i64 now], .int .i64 0]) ∧ Below w.heap.size w w' := by
  subst hs
  go_enter Tryz.func58, Tryz.ntmps58
  go_wp2_with (go_at_call 75; refine (as_nil _ _).mono ?_; rintro e w' ⟨rfl, rfl⟩)
  refine end_world (F := fun U => Blk U (w.heap.size + 1) #[.slice a n c, .int .i64 now] 44 ∧ Below w.heap.size w U) ?_ ?_
  · obtain ⟨_, h1, _, hb, _⟩ := new3 w #[.slice a n c, .int .i64 now] 44 #[.slice a n c, .int .i64 now] 44 #[.int .i64 0] 115
    exact ⟨h1, hb⟩
  rintro U ⟨hr, hb⟩
  have e0 : U.cell? ⟨w.heap.size + 1, 0, none⟩ = some (.slice a n c) := hr.cell 0
  have e1 : U.cell? ⟨w.heap.size + 1, 1, none⟩ = some (.int .i64 now) := hr.cell 1
  exact bodyPost_ret (v := .tuple #[.agg #[.slice a n c, .int .i64 now], .int .i64 0]) (by simp [results, Tryz.results58, go_sem, e0, e1]) rfl ⟨rfl, hb⟩

/-- .. and of an error. -/
theorem treeOrCode_err (z now : Int) (a : Option Addr) (n c : Nat) (w : World) (hg : ErrType w) :
    Calls Tryz.prog 58 #[.agg #[.slice a n c, .int .i64 now], .iface 115 (.agg #[.int .i64 z])] w fun e w' => e = .returned (.tuple #[.agg #[.slice none 0 0, .int .i64 0], .int .i64 z]) ∧ Below w.heap.size w w' := by
  go_enter Tryz.func58, Tryz.ntmps58
  go_wp2_with fail
  refine at_world (F := New3 w #[.slice a n c, .int .i64 now] 44 #[.slice none 0 0, .int .i64 0] 44 #[.int .i64 0] 115) (new3 w _ _ _ _ _ _) ?_
  rintro W ⟨h0, h1, h2, hb, hs⟩
  refine (as_hit z ⟨w.heap.size + 1 + 1, 0, none⟩ (.int .i64 0) W (hg.bel hb) (h2.cell 0) (h2.frozen 0)).mono ?_
  rintro e w' ⟨rfl, W2, hb2, rfl⟩
  have h1' := h1.below hb2 (by omega)
  have h2' := h2.below hb2 (by omega)
  have r0 : W2.cell? ⟨w.heap.size + 1, 0, none⟩ = some (.slice none 0 0) := h1'.cell 0
  have r1 : W2.cell? ⟨w.heap.size + 1, 1, none⟩ = some (.int .i64 0) := h1'.cell 1
  have g0 := h1'.frozen 0
  have g1 := h1'.frozen 1
  have t0 : W2.cell? ⟨w.heap.size + 1 + 1, 0, none⟩ = some (.int .i64 0) := h2'.cell 0
  have HB : Hid (Below w.heap.size w W2 ∧ Blk W2 (w.heap.size + 1) #[.slice none 0 0, .int .i64 0] 44) := ⟨hb.trans (hb2.mono (by omega)), h1'⟩
  clear h0 h1 h2 hb hs hb2 h1' h2' hg
  go_wp2_with fail
  go_region
  go_wp2
  refine end_world (F := fun U => Blk U (w.heap.size + 1) #[.slice none 0 0, .int .i64 0] 44 ∧ Below w.heap.size w U) ⟨?_, ?_⟩ ?_
  · exact Blk.of_block (((HB.out.2.off _ (by omega)).set 0 _).set 1 _) rfl
  · exact (bel_put (bel_put (bel_put HB.out.1 _ (by omega)) _ (by omega)) _ (by omega)).drew
  rintro U ⟨hr, hb⟩
  have e0 : U.cell? ⟨w.heap.size + 1, 0, none⟩ = some (.slice none 0 0) := hr.cell 0
  have e1 : U.cell? ⟨w.heap.size + 1, 1, none⟩ = some (.int .i64 0) := hr.cell 1
  exact bodyPost_ret (v := .tuple #[.agg #[.slice none 0 0, .int .i64 0], .int .i64 z]) (by simp [results, Tryz.results58, go_sem, e0, e1]) rfl ⟨rfl, hb⟩
end Go.Proofs.YtakifcobofkheabGreatDoor

/-
  What BackOne answers: one tree and one code for both.
-/
namespace Go.Proofs.YtakifcobofkheabGreatDoor
open Go.RowKit Go.Deep
set_option linter.unusedVariables false
set_option linter.unusedSimpArgs false

/-- The tree that is brought back, and the code. -/
noncomputable def backTr (t : Tr) (d : Dp) : Tr := if backCode t.n t.D t.now d = 0 then ⟨d.ln, oneD (fromN t.n d) t.D d, d.date⟩ else trNone

theorem back_size {t : Tr} {d : Dp} (h : backCode t.n t.D t.now d = 0) : d.ln + sizeTo (oneD (fromN t.n d) t.D d) d.ln ≤ sizeTo t.D t.n + d.size := by
  obtain ⟨hok, _, _, _⟩ := code_zero h
  have h1 := one_small (n := fromN t.n d) (D := t.D) hok
  have h2 := sizeTo_mono t.D (fromN_le t.n d)
  unfold Dp.size
  omega

theorem back_small (t : Tr) (d : Dp) (ft : t.Fits) (fd : d.Fits) (hs : t.size + d.size ≤ 1048576) : SmTr (backTr t d) := by
  unfold backTr
  split
  · rename_i h
    obtain ⟨hok, _, _, hg⟩ := code_zero h
    have h1 := back_size h
    unfold Tr.size at hs
    exact good_small (t := ⟨d.ln, oneD (fromN t.n d) t.D d, d.date⟩) hg (oneD_fits (ft.nds.less (fromN_le t.n d)) fd _) (by show d.ln + sizeTo (oneD (fromN t.n d) t.D d) d.ln ≤ 1048576; omega)
  · exact trNone_small

theorem back_out (t : Tr) (d : Dp) {w : World} {e : Ending} {w' : World} (h : BackPost w t.n t.D t.now d e w') : Below w.heap.size w w' ∧ ∃ l, e = .returned (.tuple #[tV (backTr t d) l, .int .i64 (backCode t.n t.D t.now d)]) ∧ OwnTr w' w.heap.size (backTr t d) l := by
  obtain ⟨hb, hc⟩ := h
  refine ⟨hb, ?_⟩
  rcases hc with ⟨hne, rfl⟩ | ⟨hz, b, c, M, rfl, hot⟩
  · have e1 : backTr t d = trNone := by unfold backTr; rw [if_neg hne]
    rw [e1]
    exact ⟨⟨none, 0, fun _ => ⟨none, 0, none, 0⟩⟩, rfl, OT.start _ _ _ _ _ _⟩
  · have e1 : backTr t d = ⟨d.ln, oneD (fromN t.n d) t.D d, d.date⟩ := by unfold backTr; rw [if_pos hz]
    rw [e1, hz]
    exact ⟨⟨b, c, M⟩, rfl, hot⟩

theorem back_ans (t : Tr) (d : Dp) (ft : t.Fits) (fd : d.Fits) (hs : t.size + d.size ≤ 1048576) : ∃ (r : Tr) (z : Int), SmTr r ∧ ∀ w e w', BackPost w t.n t.D t.now d e w' → Below w.heap.size w w' ∧ ∃ l, e = .returned (.tuple #[tV r l, .int .i64 z]) ∧ OwnTr w' w.heap.size r l :=
  ⟨backTr t d, backCode t.n t.D t.now d, back_small t d ft fd hs, fun w e w' h => back_out t d h⟩

theorem specBackOne_law (t : Tr) (l : TLoc) (d : Dp) (k : DLoc) (w : World) (hT : TIn w t l) (hD : DpIn w d k) (ft : t.Fits) (fd : d.Fits) (hs : t.size + d.size ≤ 1048576) :
    Calls Tryz.prog 52 #[tV t l, dpV d k] w (BackPost w t.n t.D t.now d) :=
  specBackOne_any l.a t.n l.c t.now t.D l.L d k w hT hD ft.n ft.nds fd (by unfold Tr.size Dp.size at hs; omega)
end Go.Proofs.YtakifcobofkheabGreatDoor

/-
  The tree that a list of what was kept comes to, one behind the other. Plain facts.
-/
namespace Go.Proofs.YtakifcobofkheabGreatDoor
open Go.RowKit Go.Deep
set_option linter.unusedVariables false

/-- Behind the first k of them. -/
noncomputable def allAt (D : Nat → Dp) : Nat → Tr × Int
  | 0 => (trNone, 0)
  | k + 1 => if (allAt D k).2 = 0 then (backTr (allAt D k).1 (D k), backCode (allAt D k).1.n (allAt D k).1.D (allAt D k).1.now (D k)) else (trNone, (allAt D k).2)

noncomputable def allAns (n : Nat) (D : Nat → Dp) : Tr × Int := if n = 0 ∨ (D 0).since ≠ 0 then (trNone, 3) else allAt D n

theorem allAt_zero (D : Nat → Dp) : allAt D 0 = (trNone, 0) := rfl
theorem allAt_next {D : Nat → Dp} {k : Nat} (h : (allAt D k).2 = 0) : allAt D (k + 1) = (backTr (allAt D k).1 (D k), backCode (allAt D k).1.n (allAt D k).1.D (allAt D k).1.now (D k)) := by
  show (if _ then _ else _) = _
  rw [if_pos h]

theorem allAt_stuck {D : Nat → Dp} {k : Nat} {z : Int} (hz : z ≠ 0) (h : allAt D k = (trNone, z)) : ∀ m, k ≤ m → allAt D m = (trNone, z) := by
  intro m hm
  induction hm with
  | refl => exact h
  | step _ ih =>
    show (if _ then _ else _) = _
    rw [ih, if_neg hz]

theorem backTr_bad {t : Tr} {d : Dp} (h : backCode t.n t.D t.now d ≠ 0) : backTr t d = trNone := by unfold backTr; rw [if_neg h]

theorem all_small {n : Nat} {D : Nat → Dp} (hf : FitDps n D) (hs : recsTo D n ≤ 1048576) : ∀ k, k ≤ n → SmTr (allAt D k).1 ∧ (allAt D k).1.size ≤ recsTo D k := by
  intro k
  induction k with
  | zero => exact fun _ => ⟨trNone_small, by show trNone.size ≤ 0; unfold trNone Tr.size; simp [sizeTo]⟩
  | succ k ih =>
    intro hk
    obtain ⟨h1, h2⟩ := ih (by omega)
    have hm := recsTo_mono D hk
    rw [recsTo_succ] at hm
    by_cases hz : (allAt D k).2 = 0
    · rw [allAt_next hz]
      refine ⟨back_small _ _ h1.fits (hf k (by omega)) (by omega), ?_⟩
      rw [recsTo_succ]
      by_cases hc : backCode (allAt D k).1.n (allAt D k).1.D (allAt D k).1.now (D k) = 0
      · have hb := back_size hc
        show (backTr _ _).size ≤ _
        unfold backTr
        rw [if_pos hc]
        show (D k).ln + sizeTo (oneD (fromN (allAt D k).1.n (D k)) (allAt D k).1.D (D k)) (D k).ln ≤ _
        unfold Tr.size at h2
        omega
      · show (backTr _ _).size ≤ _
        rw [backTr_bad hc]
        unfold trNone Tr.size
        simp [sizeTo]
    · have e : allAt D (k + 1) = (trNone, (allAt D k).2) := by show (if _ then _ else _) = _; rw [if_neg hz]
      rw [e]
      exact ⟨trNone_small, by show trNone.size ≤ _; unfold trNone Tr.size; simp [sizeTo]⟩

theorem allAns_small {n : Nat} {D : Nat → Dp} (hf : FitDps n D) (hs : recsTo D n ≤ 1048576) : SmTr (allAns n D).1 := by
  unfold allAns
  split
  · exact trNone_small
  · exact (all_small hf hs n (Nat.le_refl _)).1

/-- What BackAll answers. -/
def AllPost (w : World) (r : Tr × Int) (e : Ending) (w' : World) : Prop := Below w.heap.size w w' ∧ ∃ l, e = .returned (.tuple #[tV r.1 l, .int .i64 r.2]) ∧ OwnTr w' w.heap.size r.1 l
end Go.Proofs.YtakifcobofkheabGreatDoor

/-
  What PathOk of the program and PathOk of the specification answer at every list of texts: whether it has at most 5, each of them a name; neither turns the world.
-/
namespace Go.Proofs.YtakifcobofkheabGreatDoor
open Go.RowKit
set_option linter.unusedVariables false

def namesOk (n : Nat) (S : Nat → ByteArray) : Bool := (List.range n).all fun i => nameOk (S i).data.toList
def pathOk (n : Nat) (S : Nat → ByteArray) : Bool := namesOk n S && decide (n ≤ 5)

theorem namesOk_succ (k : Nat) (S : Nat → ByteArray) (h : namesOk k S = true) (hk : nameOk (S k).data.toList = true) : namesOk (k + 1) S = true := by
  unfold namesOk at *
  rw [List.range_succ, List.all_append, h]; simpa using hk

theorem namesOk_not (n k : Nat) (S : Nat → ByteArray) (hk : k < n) (h : nameOk (S k).data.toList = false) : namesOk n S = false := by
  rw [Bool.eq_false_iff]
  intro ha
  have := List.all_eq_true.1 ha k (by simpa using hk)
  simp [this] at h

theorem pathOk_not (n k : Nat) (S : Nat → ByteArray) (hk : k < n) (h : nameOk (S k).data.toList = false) : false = pathOk n S := by
  unfold pathOk; rw [namesOk_not n k S hk h]; rfl

theorem pathOk_end (n : Nat) (S : Nat → ByteArray) (h : namesOk n S = true) : decide ((n : Int) ≤ 5) = pathOk n S := by
  unfold pathOk; rw [h]; simp; omega

set_option maxHeartbeats 400000 in
theorem specPathOk_any (a : Option Addr) (n c : Nat) (S : Nat → ByteArray) (w : World) (hS : IsStrs w a n S) (hm : Small n S) (hn : n ≤ maxLen) :
    Calls Tryz.prog 54 #[.slice a n c] w fun e w' => e = .returned (.bool (pathOk n S)) ∧ w' = w := by
  unfold maxLen at hn
  go_enter Tryz.func54, Tryz.ntmps54
  go_wp2
  go_loop [3] (fun i => ∃ k : Nat, k ≤ n ∧ i = .int .i64 k ∧ namesOk k S = true) (fun i => n - (intOf i).toNat)
  case atStart => exact ⟨0, Nat.zero_le _, rfl, rfl⟩
  case round =>
    obtain ⟨k, hk, rfl, ha⟩ := hrel
    have HA : Hid (namesOk k S = true) := ha
    clear ha
    by_cases hlt : k < n
    · obtain ⟨b, off, rfl, hlt2, hc⟩ := hS.at hlt
      have hck := hc k hlt
      have hmk := hm k hlt
      clear hc
      cases hok : nameOk (S k).data.toList
      · go_wp2_with (go_at_call 72; refine (specNameOk_any _ _ hmk).mono ?_; rintro e w' ⟨rfl, rfl⟩)
        go_ret
        exact ⟨ret_bool (pathOk_not n k S hlt hok), rfl⟩
      · go_wp2_with (go_at_call 72; refine (specNameOk_any _ _ hmk).mono ?_; rintro e w' ⟨rfl, rfl⟩)
        go_round
        case rel => exact ⟨k + 1, by omega, by go_num, namesOk_succ k S HA.out hok⟩
        case measure => simp [intOf]; omega
    · have HK : Hid (k = n) := show k = n by omega
      go_wp2
      go_ret
      exact ⟨ret_bool (pathOk_end n S (HK.out ▸ HA.out)), rfl⟩

set_option maxHeartbeats 400000 in
theorem implPathOk_any (a : Option Addr) (n c : Nat) (S : Nat → ByteArray) (w : World) (hS : IsStrs w a n S) (hm : Small n S) (hn : n ≤ maxLen) :
    Calls Tryz.prog 61 #[.slice a n c] w fun e w' => e = .returned (.bool (pathOk n S)) ∧ w' = w := by
  unfold maxLen at hn
  by_cases h5 : 5 < n
  · go_enter Tryz.func61, Tryz.ntmps61
    go_wp2
    go_ret
    exact ⟨ret_bool (by unfold pathOk; simp; omega), rfl⟩
  · have hd : decide ((5 : Int) < n) = false := by simp; omega
    go_enter Tryz.func61, Tryz.ntmps61
    go_wp2
    go_loop [10] (fun i => ∃ k : Nat, k ≤ n ∧ i = .int .i64 k ∧ namesOk k S = true) (fun i => n - (intOf i).toNat)
    case atStart => exact ⟨0, Nat.zero_le _, rfl, rfl⟩
    case round =>
      obtain ⟨k, hk, rfl, ha⟩ := hrel
      have HA : Hid (namesOk k S = true) := ha
      clear ha
      by_cases hlt : k < n
      · obtain ⟨b, off, rfl, hlt2, hc⟩ := hS.at hlt
        have hck := hc k hlt
        have hmk := hm k hlt
        clear hc
        cases hok : nameOk (S k).data.toList
        · go_wp2_with (go_at_call 81; refine (implNameOk_any _ _ hmk).mono ?_; rintro e w' ⟨rfl, rfl⟩)
          go_ret
          exact ⟨ret_bool (pathOk_not n k S hlt hok), rfl⟩
        · go_wp2_with (go_at_call 81; refine (implNameOk_any _ _ hmk).mono ?_; rintro e w' ⟨rfl, rfl⟩)
          go_round
          case rel => exact ⟨k + 1, by omega, by go_num, namesOk_succ k S HA.out hok⟩
          case measure => simp [intOf]; omega
      · have HK : Hid (k = n) := show k = n by omega
        go_wp2
        go_ret
        exact ⟨ret_bool (by rw [← pathOk_end n S (HK.out ▸ HA.out)]; simp; omega), rfl⟩
end Go.Proofs.YtakifcobofkheabGreatDoor

/-
  Where a way leads in a tree: plain facts. Names of a directory are told apart, so a way leads to one place at most.
-/
namespace Go.Proofs.YtakifcobofkheabGreatDoor
set_option linter.unusedVariables false

theorem less_trans : ∀ a b c : List UInt8, Op.bytesLess a b = true → Op.bytesLess b c = true → Op.bytesLess a c = true
  | _, [], _, h, _ => by simp [Op.bytesLess] at h
  | _, _ :: _, [], _, h => by simp [Op.bytesLess] at h
  | [], _ :: _, _ :: _, _, _ => by simp [Op.bytesLess]
  | a :: x, b :: y, c :: z, h1, h2 => by
    have ih := less_trans x y z
    simp only [Op.bytesLess, Bool.or_eq_true, Bool.and_eq_true, decide_eq_true_eq, beq_iff_eq] at *
    rcases h1 with h1 | ⟨rfl, h1⟩
    · rcases h2 with h2 | ⟨rfl, h2⟩
      · exact Or.inl (UInt8.lt_iff_toNat_lt.2 (Nat.lt_trans (UInt8.lt_iff_toNat_lt.1 h1) (UInt8.lt_iff_toNat_lt.1 h2)))
      · exact Or.inl h1
    · rcases h2 with h2 | ⟨rfl, h2⟩
      · exact Or.inl h2
      · exact Or.inr ⟨rfl, ih h1 h2⟩

theorem less_irrefl : ∀ a : List UInt8, Op.bytesLess a a = false
  | [] => rfl
  | a :: x => by
    have ih := less_irrefl x
    have : ¬ a < a := fun hh => by have := UInt8.lt_iff_toNat_lt.1 hh; omega
    simp [Op.bytesLess, ih, this]

theorem less_tot : ∀ a b : List UInt8, (!Op.bytesLess a b) = (Op.bytesLess b a || b == a)
  | [], [] => rfl
  | [], b :: y => by simp [Op.bytesLess]
  | a :: x, [] => by simp [Op.bytesLess]
  | a :: x, b :: y => by
    have ih := less_tot x y
    simp only [Op.bytesLess]
    have e1 : (b :: y == a :: x) = (b == a && y == x) := by simp [List.cons_beq_cons]
    rw [e1]
    rcases Nat.lt_trichotomy a.toNat b.toNat with h | h | h
    · have h1 : a < b := UInt8.lt_iff_toNat_lt.2 h
      have h2 : ¬ b < a := fun hh => by have := UInt8.lt_iff_toNat_lt.1 hh; omega
      have h3 : (b == a) = false := by simp; intro hh; subst hh; omega
      rw [decide_eq_true h1, decide_eq_false h2, h3]; rfl
    · have h1 : a = b := UInt8.toNat_inj.1 h
      subst h1
      have h2 : ¬ a < a := fun hh => by have := UInt8.lt_iff_toNat_lt.1 hh; omega
      rw [decide_eq_false h2]
      simpa using ih
    · have h1 : b < a := UInt8.lt_iff_toNat_lt.2 h
      have h2 : ¬ a < b := fun hh => by have := UInt8.lt_iff_toNat_lt.1 hh; omega
      have h3 : (a == b) = false := by simp; intro hh; subst hh; omega
      rw [decide_eq_true h1, decide_eq_false h2, h3]; rfl

/-- Names in order ascend. -/
theorem names_up {S : Nat → ByteArray} {n : Nat} (h : dirNames S n = true) {i j : Nat} (hij : i < j) (hj : j < n) : Op.bytesLess (S i).toList (S j).toList = true := by
  induction j with
  | zero => omega
  | succ j ih =>
    have h1 := List.all_eq_true.1 h (j + 1) (by simpa using hj)
    simp only [Bool.and_eq_true, Bool.or_eq_true] at h1
    have h2 : lessEq (S (j + 1)) (S j) = false := by
      rcases h1.2 with h2 | h2
      · simp at h2
      · simpa using h2
    have h3 : Op.bytesLess (S j).toList (S (j + 1)).toList = true := by
      have := less_tot (S j).toList (S (j + 1)).toList
      rw [show (Op.bytesLess (S (j + 1)).toList (S j).toList || (S (j + 1)).toList == (S j).toList) = lessEq (S (j + 1)) (S j) from rfl, h2] at this
      simpa using this
    by_cases e : i = j
    · subst e; exact h3
    · exact less_trans _ _ _ (ih (by omega) (by omega)) h3

theorem names_inj {S : Nat → ByteArray} {n : Nat} (h : dirNames S n = true) {i j : Nat} (hi : i < n) (hj : j < n) (e : (S i).toList = (S j).toList) : i = j := by
  rcases Nat.lt_trichotomy i j with hl | hl | hl
  · have := names_up h hl hj
    rw [e, less_irrefl] at this; cases this
  · exact hl
  · have := names_up h hl hi
    rw [e, less_irrefl] at this; cases this

/-- A place that has names is a directory. -/
theorem dir_of_names {n : Nat} {D : Nat → Nd} {now : Int} {d : Nd} (h : ndOk n D now d = true) (hn : 0 < d.nn) : d.kind = 2 ∧ dirNames d.names d.nn = true ∧ d.kn = d.nn := by
  unfold ndOk at h
  split at h
  · unfold freeOk at h; simp at h; omega
  · split at h
    · unfold fileOk at h; simp at h; omega
    · split at h
      · rename_i hk
        unfold dirOk at h
        simp only [Bool.and_eq_true, decide_eq_true_eq] at h
        exact ⟨hk, h.1.1.1.2, h.1.1.2.2⟩
      · cases h

/-- Behind k names of a way one stands at place x. -/
inductive Leads (D : Nat → Nd) (S : Nat → ByteArray) : Nat → Nat → Prop
  | root : Leads D S 0 0
  | step {k x i : Nat} : Leads D S k x → i < (D x).nn → ((D x).names i).toList = (S k).toList → Leads D S (k + 1) ((D x).kids i).toNat

theorem Leads.lt {n : Nat} {D : Nat → Nd} {now : Int} {S : Nat → ByteArray} (h : TreeGood n D now) {k x : Nat} (hl : Leads D S k x) : x < n := by
  induction hl with
  | root => exact h.some
  | step hl hi he ih =>
    rename_i k x i
    have := (dir_of_names (h.nodes x ih) (by omega)).2.2
    have hk := kids_in h.nodes x ih i (by omega)
    omega

theorem Leads.one {n : Nat} {D : Nat → Nd} {now : Int} {S : Nat → ByteArray} (h : TreeGood n D now) {k x : Nat} (hx : Leads D S k x) : ∀ {y : Nat}, Leads D S k y → x = y := by
  induction hx with
  | root => intro y hy; cases hy; rfl
  | step hl hi he ih =>
    intro y hy
    cases hy with
    | step hl' hi' he' =>
      have e := ih hl'
      subst e
      have := names_inj (dir_of_names (h.nodes _ (hl.lt h)) (by omega)).2.1 hi hi' (he.trans he'.symm)
      subst this
      rfl

/-- Where a name fails, the way leads nowhere. -/
theorem Leads.stuck {n : Nat} {D : Nat → Nd} {now : Int} {S : Nat → ByteArray} (h : TreeGood n D now) {k x : Nat} (hx : Leads D S k x) (hno : ∀ i, i < (D x).nn → ¬ ((D x).names i).toList = (S k).toList) {m : Nat} (hm : k < m) : ¬ ∃ y, Leads D S m y := by
  induction m with
  | zero => omega
  | succ m ih =>
    rintro ⟨y, hy⟩
    cases hy with
    | step hl hi he =>
      by_cases e : k = m
      · subst e
        have := hx.one h hl
        subst this
        exact hno _ hi he
      · exact ih (by omega) ⟨_, hl⟩

/-- The place at the end of a way; -1, if there is none. -/
structure FindAre (n : Nat) (D : Nat → Nd) (now : Int) (m : Nat) (S : Nat → ByteArray) (r : Int) : Prop where
  yes : TreeGood n D now → pathOk m S = true → ∀ x, Leads D S m x → r = (x : Int)
  no : ¬ (TreeGood n D now ∧ pathOk m S = true ∧ ∃ x, Leads D S m x) → r = -1

theorem FindAre.one {n : Nat} {D : Nat → Nd} {now : Int} {m : Nat} {S : Nat → ByteArray} {r r' : Int} (h : FindAre n D now m S r) (h' : FindAre n D now m S r') : r = r' := by
  by_cases g : TreeGood n D now ∧ pathOk m S = true ∧ ∃ x, Leads D S m x
  · obtain ⟨g1, g2, x, g3⟩ := g
    rw [h.yes g1 g2 x g3, h'.yes g1 g2 x g3]
  · rw [h.no g, h'.no g]

theorem findAre_end {n : Nat} {D : Nat → Nd} {now : Int} {m : Nat} {S : Nat → ByteArray} {x : Nat} (h : TreeGood n D now) (hp : pathOk m S = true) (hx : Leads D S m x) : FindAre n D now m S x :=
  ⟨fun _ _ y hy => by rw [hx.one h hy], fun g => absurd ⟨h, hp, x, hx⟩ g⟩

theorem findAre_no {n : Nat} {D : Nat → Nd} {now : Int} {m : Nat} {S : Nat → ByteArray} (hx : ¬ (TreeGood n D now ∧ pathOk m S = true ∧ ∃ x, Leads D S m x)) : FindAre n D now m S (-1) :=
  ⟨fun h1 h2 y hy => absurd ⟨h1, h2, y, hy⟩ hx, fun _ => rfl⟩
end Go.Proofs.YtakifcobofkheabGreatDoor

/-
  The place at the end of a way in what was kept. Plain facts.
-/
namespace Go.Proofs.YtakifcobofkheabGreatDoor
open Go.RowKit Go.Deep
set_option linter.unusedVariables false

/-- A place in memory of its own. -/
structure OwnNd (W : World) (B : Nat) (d : Nd) (l : Loc) : Prop where
  names : W.ownsRow B 9 1 (.slice l.nA d.nn l.nc) d.nn (strv (lst d.nn d.names))
  kids : W.ownsRow B 3 1 (.slice l.kA d.kn l.kc) d.kn (intv0 d.kn d.kids)
  apart : ∀ b, (Value.slice l.nA d.nn l.nc).ownBlock = some b → (Value.slice l.kA d.kn l.kc).ownBlock ≠ some b

theorem OwnNd.below {W W' : World} {B : Nat} {d : Nd} {l : Loc} (h : OwnNd W B d l) (hb : Below W.heap.size W W') : OwnNd W' B d l :=
  ⟨owns_same h.names fun b e => hb.block b (owns_block h.names e).2, owns_same h.kids fun b e => hb.block b (owns_block h.kids e).2, h.apart⟩
theorem OwnNd.lower {W : World} {B B' : Nat} {d : Nd} {l : Loc} (h : OwnNd W B d l) (hB : B' ≤ B) : OwnNd W B' d l := ⟨owns_lower h.names hB, owns_lower h.kids hB, h.apart⟩
theorem OwnNd.put {W : World} {B V i : Nat} {d : Nd} {l : Loc} (h : OwnNd W B d l) (v : Value) (hV : V < B) : OwnNd (W.setCell ⟨V, i, none⟩ v) B d l :=
  ⟨owns_same h.names fun b e => blk_setCell_other _ _ _ _ (show b ≠ V by have := (owns_block h.names e).1; omega), owns_same h.kids fun b e => blk_setCell_other _ _ _ _ (show b ≠ V by have := (owns_block h.kids e).1; omega), h.apart⟩
theorem OwnNd.far {W W' : World} {B B0 H0 : Nat} {d : Nd} {l : Loc} (h : OwnNd W B d l) (hf : Fr B0 H0 W W') (hH : H0 ≤ B) : OwnNd W' B d l :=
  ⟨owns_same h.names fun b e => hf.far b (by have := (owns_block h.names e).1; omega) (owns_block h.names e).2, owns_same h.kids fun b e => hf.far b (by have := (owns_block h.kids e).1; omega) (owns_block h.kids e).2, h.apart⟩

theorem OwnTr.place {W : World} {B : Nat} {t : Tr} {l : TLoc} (h : OwnTr W B t l) {i : Nat} (hi : i < t.n) : OwnNd W B (t.D i) (l.L i) := by
  refine ⟨OT.ownN h hi, OT.ownK h hi, fun q e e' => ?_⟩
  have d1 : (2 + 2 * i - 2) / 2 = i := by omega
  have d2 : (3 + 2 * i - 2) / 2 = i := by omega
  refine (OT.rows h).apart (2 + 2 * i) (3 + 2 * i) (show _ < 2 + 2 * t.n by omega) (show _ < 2 + 2 * t.n by omega) (by omega) q ?_ ?_
  · unfold valT; rw [if_neg (by omega), if_neg (by omega), if_pos (by omega), d1]; exact e
  · unfold valT; rw [if_neg (by omega), if_neg (by omega), if_neg (by omega), d2]; exact e'

theorem ownNd_zero (W : World) (B : Nat) : OwnNd W B ndZero ⟨none, 0, none, 0⟩ := ⟨World.ownsRow_nil _ _ _ _, World.ownsRow_nil _ _ _ _, fun b e => by simp [Value.ownBlock] at e⟩

/-- What is answered. -/
def PickIs (t : Tr) (z : Int) (m : Nat) (S : Nat → ByteArray) (r : Nd × Bool) : Prop :=
  (∃ x : Nat, z = 0 ∧ x < t.n ∧ FindAre t.n t.D t.now m S x ∧ r = (t.D x, true)) ∨ ((z ≠ 0 ∨ FindAre t.n t.D t.now m S (-1)) ∧ r = (ndZero, false))

theorem find_cases {n : Nat} {D : Nat → Nd} {now : Int} {m : Nat} {S : Nat → ByteArray} {r : Int} (h : FindAre n D now m S r) : (∃ x : Nat, r = (x : Int) ∧ x < n) ∨ r = -1 := by
  by_cases g : TreeGood n D now ∧ pathOk m S = true ∧ ∃ x, Leads D S m x
  · obtain ⟨g1, g2, x, g3⟩ := g
    exact Or.inl ⟨x, h.yes g1 g2 x g3, g3.lt g1⟩
  · exact Or.inr (h.no g)

theorem PickIs.one {t : Tr} {z : Int} {m : Nat} {S : Nat → ByteArray} {r r' : Nd × Bool} (h : PickIs t z m S r) (h' : PickIs t z m S r') : r = r' := by
  rcases h with ⟨x, h1, h2, h3, rfl⟩ | ⟨h1, rfl⟩ <;> rcases h' with ⟨x', h1', h2', h3', rfl⟩ | ⟨h1', rfl⟩
  · have := h3.one h3'
    have e : x = x' := by omega
    rw [e]
  · rcases h1' with h | h
    · exact absurd h1 h
    · have := h3.one h; omega
  · rcases h1 with h | h
    · exact absurd h1' h
    · have := h.one h3'; omega
  · rfl

/-- What BackPick answers. -/
def PickPost (w : World) (r : Tr × Int) (m : Nat) (S : Nat → ByteArray) (e : Ending) (w' : World) : Prop :=
  Below w.heap.size w w' ∧ ∃ (q : Nd × Bool) (l : Loc), PickIs r.1 r.2 m S q ∧ e = .returned (.tuple #[ndV q.1 l, .bool q.2]) ∧ OwnNd w' w.heap.size q.1 l
end Go.Proofs.YtakifcobofkheabGreatDoor

/-
  Cuts behind a piece of code, of up to seven letters.
-/
namespace Go.Proofs.YtakifcobofkheabGreatDoor
open Go.RowKit

theorem wp_cn1 {X : Type} (F : X → World → Prop) {P : Program} {c : Code} {Q : Exit → Act → World → Prop} {a : Act} {w : World} (A : X → Act)
    (leaf : (∀ x W, F x W → Q .normal (A x) W) → c.wp P Q a w) (k : ∀ x W, F x W → Q .normal (A x) W) : c.wp P Q a w := leaf k

theorem wp_cn2 {X Y : Type} (F : X → Y → World → Prop) {P : Program} {c : Code} {Q : Exit → Act → World → Prop} {a : Act} {w : World} (A : X → Y → Act)
    (leaf : (∀ x y W, F x y W → Q .normal (A x y) W) → c.wp P Q a w) (k : ∀ x y W, F x y W → Q .normal (A x y) W) : c.wp P Q a w := leaf k

theorem wp_cn3 {X Y Z : Type} (F : X → Y → Z → World → Prop) {P : Program} {c : Code} {Q : Exit → Act → World → Prop} {a : Act} {w : World} (A : X → Y → Z → Act)
    (leaf : (∀ x y z W, F x y z W → Q .normal (A x y z) W) → c.wp P Q a w) (k : ∀ x y z W, F x y z W → Q .normal (A x y z) W) : c.wp P Q a w := leaf k

theorem wp_cn4 {X Y Z U : Type} (F : X → Y → Z → U → World → Prop) {P : Program} {c : Code} {Q : Exit → Act → World → Prop} {a : Act} {w : World} (A : X → Y → Z → U → Act)
    (leaf : (∀ x y z u W, F x y z u W → Q .normal (A x y z u) W) → c.wp P Q a w) (k : ∀ x y z u W, F x y z u W → Q .normal (A x y z u) W) : c.wp P Q a w := leaf k

theorem wp_cn5 {X Y Z U V : Type} (F : X → Y → Z → U → V → World → Prop) {P : Program} {c : Code} {Q : Exit → Act → World → Prop} {a : Act} {w : World} (A : X → Y → Z → U → V → Act)
    (leaf : (∀ x y z u v W, F x y z u v W → Q .normal (A x y z u v) W) → c.wp P Q a w) (k : ∀ x y z u v W, F x y z u v W → Q .normal (A x y z u v) W) : c.wp P Q a w := leaf k

theorem wp_cn6 {X Y Z U V S : Type} (F : X → Y → Z → U → V → S → World → Prop) {P : Program} {c : Code} {Q : Exit → Act → World → Prop} {a : Act} {w : World} (A : X → Y → Z → U → V → S → Act)
    (leaf : (∀ x y z u v s W, F x y z u v s W → Q .normal (A x y z u v s) W) → c.wp P Q a w) (k : ∀ x y z u v s W, F x y z u v s W → Q .normal (A x y z u v s) W) : c.wp P Q a w := leaf k

theorem wp_cn7 {X Y Z U V S T : Type} (F : X → Y → Z → U → V → S → T → World → Prop) {P : Program} {c : Code} {Q : Exit → Act → World → Prop} {a : Act} {w : World} (A : X → Y → Z → U → V → S → T → Act)
    (leaf : (∀ x y z u v s t W, F x y z u v s t W → Q .normal (A x y z u v s t) W) → c.wp P Q a w) (k : ∀ x y z u v s t W, F x y z u v s t W → Q .normal (A x y z u v s t) W) : c.wp P Q a w := leaf k
end Go.Proofs.YtakifcobofkheabGreatDoor

/-
  Jobs: a tree, what is kept, and the places that are done. Plain facts.
-/
namespace Go.Proofs.YtakifcobofkheabGreatDoor
open Go.RowKit Go.Deep
set_option linter.unusedVariables false
set_option linter.unusedSimpArgs false

/-- A job. -/
structure Jb where
  t : Tr
  d : Dp
  q : Nat
  e : Nat → Nd

/-- Where it lies. -/
structure JLoc where
  t : TLoc
  d : DLoc
  e : Option Addr
  f : Nat
  g : Nat → Loc

def jV (j : Jb) (l : JLoc) : Value := .agg #[.slice l.t.a j.t.n l.t.c, .int .i64 j.t.now, .int .i64 j.d.since, .int .i64 j.d.date, .slice l.d.lA j.d.ln l.d.lc, .slice l.d.iA j.d.m l.d.ic, .slice l.e j.q l.f]
def jC (j : Jb) (l : JLoc) : Array Value := #[.slice l.t.a j.t.n l.t.c, .int .i64 j.t.now, .int .i64 j.d.since, .int .i64 j.d.date, .slice l.d.lA j.d.ln l.d.lc, .slice l.d.iA j.d.m l.d.ic, .slice l.e j.q l.f]
/-- The places that are done, as a tree's. -/
def Jb.dn (j : Jb) : Tr := ⟨j.q, j.e, 0⟩
def JLoc.dn (l : JLoc) : TLoc := ⟨l.e, l.f, l.g⟩

structure JIn (w : World) (j : Jb) (l : JLoc) : Prop where
  t : TIn w j.t l.t
  d : DpIn w j.d l.d
  e : IsNds w l.e j.q j.e l.g

def Jb.size (j : Jb) : Nat := j.t.size + j.d.size + (j.q + sizeTo j.e j.q)
structure Jb.Fits (j : Jb) : Prop where
  t : j.t.Fits
  d : j.d.Fits
  q : j.q ≤ maxLen
  e : FitAll j.q j.e

def Jb.same (j k : Jb) : Bool := (j.t.same k.t && j.d.same k.d) && (decide (j.q = k.q) && sameAll j.q j.e k.e)
theorem Jb.same_self (j : Jb) : j.same j = true := by unfold Jb.same; rw [Tr.same_self, Dp.same_self, sameAll_self]; simp

theorem JIn.below {w w' : World} {j : Jb} {l : JLoc} (h : JIn w j l) {B : Nat} (hB : w.heap.size ≤ B) (hb : Below B w w') : JIn w' j l := ⟨h.t.below hB hb, h.d.below hB hb, h.e.below hB hb⟩

theorem jC_cells {W : World} {b : Nat} {j : Jb} {l : JLoc} {ty : TypeId} (h : Blk W b (jC j l) ty) :
    W.cell? ⟨b, 0, none⟩ = some (.slice l.t.a j.t.n l.t.c) ∧ W.cell? ⟨b, 1, none⟩ = some (.int .i64 j.t.now) ∧ W.cell? ⟨b, 2, none⟩ = some (.int .i64 j.d.since) ∧ W.cell? ⟨b, 3, none⟩ = some (.int .i64 j.d.date) ∧
    W.cell? ⟨b, 4, none⟩ = some (.slice l.d.lA j.d.ln l.d.lc) ∧ W.cell? ⟨b, 5, none⟩ = some (.slice l.d.iA j.d.m l.d.ic) ∧ W.cell? ⟨b, 6, none⟩ = some (.slice l.e j.q l.f) := ⟨h.cell 0, h.cell 1, h.cell 2, h.cell 3, h.cell 4, h.cell 5, h.cell 6⟩

/-- The blocks that are a tree's, and those of something kept. -/
def BkT (t : Tr) (l : TLoc) (b : Nat) : Prop := ∃ d, d < 2 + 2 * t.n ∧ (valT (.slice none 0 0) (.slice l.a t.n l.c) t.D l.L d).ownBlock = some b
def BkD (d : Dp) (l : DLoc) (b : Nat) : Prop := ∃ dd, dd < 2 + 2 * d.m ∧ (valD (.slice l.lA d.ln l.lc) (.slice l.iA d.m l.ic) d.nd l.L dd).ownBlock = some b
def BkJ (j : Jb) (l : JLoc) (b : Nat) : Prop := BkT j.t l.t b ∨ BkD j.d l.d b ∨ BkT j.dn l.dn b

/-- A job in memory of its own. -/
structure OwnJb (W : World) (B : Nat) (j : Jb) (l : JLoc) : Prop where
  t : OwnTr W B j.t l.t
  d : OwnDp W B j.d l.d
  e : OwnTr W B j.dn l.dn
  td : ∀ b, BkT j.t l.t b → ¬ BkD j.d l.d b
  te : ∀ b, BkT j.t l.t b → ¬ BkT j.dn l.dn b
  de : ∀ b, BkD j.d l.d b → ¬ BkT j.dn l.dn b

def TopJb (j : Jb) (l : JLoc) (H : Nat) : Prop := ∀ b, BkJ j l b → b < H

theorem OwnTr.blk {W : World} {B : Nat} {t : Tr} {l : TLoc} (h : OwnTr W B t l) {b : Nat} (hb : BkT t l b) : B ≤ b ∧ b < W.heap.size := by
  obtain ⟨d, hd, e⟩ := hb
  exact owns_block (h.rows.own d hd) e
theorem OwnDp.blk {W : World} {B : Nat} {d : Dp} {l : DLoc} (h : OwnDp W B d l) {b : Nat} (hb : BkD d l b) : B ≤ b ∧ b < W.heap.size := by
  obtain ⟨dd, hd, e⟩ := hb
  exact owns_block (h.rows.own dd hd) e
/-- Nothing of its blocks turns. -/
theorem OwnTr.keep {W W' : World} {B : Nat} {t : Tr} {l : TLoc} (h : OwnTr W B t l) (hk : ∀ b, BkT t l b → W'.heap[b]? = W.heap[b]?) : OwnTr W' B t l :=
  ⟨⟨fun d hl => owns_same (h.rows.own d hl) fun b hb => hk b ⟨d, hl, hb⟩, h.rows.apart⟩⟩
theorem OwnDp.keep {W W' : World} {B : Nat} {d : Dp} {l : DLoc} (h : OwnDp W B d l) (hk : ∀ b, BkD d l b → W'.heap[b]? = W.heap[b]?) : OwnDp W' B d l :=
  ⟨⟨fun dd hl => owns_same (h.rows.own dd hl) fun b hb => hk b ⟨dd, hl, hb⟩, h.rows.apart⟩⟩

theorem OwnJb.blk {W : World} {B : Nat} {j : Jb} {l : JLoc} (h : OwnJb W B j l) {b : Nat} (hb : BkJ j l b) : B ≤ b ∧ b < W.heap.size := by
  rcases hb with hb | hb | hb
  · exact h.t.blk hb
  · exact h.d.blk hb
  · exact h.e.blk hb
theorem OwnJb.tIn {W : World} {B : Nat} {j : Jb} {l : JLoc} (h : OwnJb W B j l) : JIn W j l := ⟨h.t.tIn, h.d.tIn, h.e.tIn⟩
theorem OwnJb.top {W : World} {B : Nat} {j : Jb} {l : JLoc} (h : OwnJb W B j l) : TopJb j l W.heap.size := fun b hb => (h.blk hb).2
theorem OwnJb.keep {W W' : World} {B : Nat} {j : Jb} {l : JLoc} (h : OwnJb W B j l) (hk : ∀ b, BkJ j l b → W'.heap[b]? = W.heap[b]?) : OwnJb W' B j l :=
  ⟨h.t.keep fun b e => hk b (Or.inl e), h.d.keep fun b e => hk b (Or.inr (Or.inl e)), h.e.keep fun b e => hk b (Or.inr (Or.inr e)), h.td, h.te, h.de⟩
theorem OwnJb.below {W W' : World} {B : Nat} {j : Jb} {l : JLoc} (h : OwnJb W B j l) (hb : Below W.heap.size W W') : OwnJb W' B j l := h.keep fun b e => hb.block b (h.blk e).2
theorem OwnJb.far {W W' : World} {B B0 H0 : Nat} {j : Jb} {l : JLoc} (h : OwnJb W B j l) (hf : Fr B0 H0 W W') (hH : H0 ≤ B) : OwnJb W' B j l := h.keep fun b e => hf.far b (by have := (h.blk e).1; omega) (h.blk e).2
theorem OwnJb.lower {W : World} {B B' : Nat} {j : Jb} {l : JLoc} (h : OwnJb W B j l) (hB : B' ≤ B) : OwnJb W B' j l := ⟨h.t.lower hB, h.d.lower hB, h.e.lower hB, h.td, h.te, h.de⟩
theorem OwnJb.put {W : World} {B V i : Nat} {j : Jb} {l : JLoc} (h : OwnJb W B j l) (v : Value) (hV : V < B) : OwnJb (W.setCell ⟨V, i, none⟩ v) B j l := h.keep fun b e => blk_setCell_other _ _ _ _ (show b ≠ V by have := (h.blk e).1; omega)

/-- Marks. -/
def kJb (j : Jb) (k0 : Nat) : Nat := kTr j.dn (kDp j.d (kTr j.t k0))
def markedT (t : Tr) (k0 : Nat) : Tr := ⟨t.n, markT t.D k0 t.n, t.now⟩
structure MarkedJb (W : World) (B : Nat) (j : Jb) (l : JLoc) (k0 : Nat) : Prop where
  t : MarkedTr W B j.t l.t k0
  d : MarkedDp W B j.d l.d (kTr j.t k0)
  e : MarkedTr W B j.dn l.dn (kDp j.d (kTr j.t k0))

theorem MarkedJb.below {W W' : World} {B : Nat} {j : Jb} {l : JLoc} {k0 : Nat} (h : MarkedJb W B j l k0) (hb : Below W.heap.size W W') : MarkedJb W' B j l k0 := ⟨h.t.below hb, h.d.below hb, h.e.below hb⟩

/-- The bounds that marks keep. -/
structure Jb.Mid (j : Jb) : Prop where
  t : j.t.size ≤ 1048576
  d : j.d.size ≤ 1048576
  q : j.q ≤ 1048576
  e : sizeTo j.e j.q ≤ 2097152
  es : ∀ i, i < j.q → (j.e i).size ≤ 1048576

theorem Jb.mid {j : Jb} (h : j.size ≤ 1048576) : j.Mid := by
  unfold Jb.size at h
  refine ⟨by omega, by omega, by omega, by omega, fun i hi => ?_⟩
  have := size_le_sizeTo j.e j.q i hi
  omega

theorem kJb_le {j : Jb} (h : j.Mid) (k0 : Nat) : kJb j k0 ≤ k0 + 15728640 ∧ kDp j.d (kTr j.t k0) ≤ k0 + 8388608 ∧ kTr j.t k0 ≤ k0 + 4194304 := by
  have h1 := kTr_le (t := j.t) h.t k0
  have h2 := kDp_le (d := j.d) h.d (kTr j.t k0)
  have h3 := kaT_le j.e (kDp j.d (kTr j.t k0)) j.q
  have h4 := h.q
  have h5 := h.e
  unfold kJb
  refine ⟨?_, by omega, h1⟩
  show kaT j.e (kDp j.d (kTr j.t k0)) j.q ≤ _
  omega

theorem kJb_ge (j : Jb) (k0 : Nat) : k0 ≤ kJb j k0 := by
  have h1 := kTr_ge j.t k0
  have h2 := kDp_ge j.d (kTr j.t k0)
  have h3 := kTr_ge j.dn (kDp j.d (kTr j.t k0))
  unfold kJb
  omega

/-- The same blocks, whatever is written into them. -/
theorem markedT_bk {t : Tr} {l : TLoc} {k0 b : Nat} : BkT (markedT t k0) l b ↔ BkT t l b := by
  have e : ∀ d, d < 2 + 2 * t.n → valT (.slice none 0 0) (.slice l.a t.n l.c) (markT t.D k0 t.n) l.L d = valT (.slice none 0 0) (.slice l.a t.n l.c) t.D l.L d := valT_same fun i hi => by unfold markT; rw [if_pos hi]; exact ⟨rfl, rfl⟩
  unfold BkT markedT
  constructor
  · rintro ⟨d, hd, h⟩
    exact ⟨d, hd, by rw [← e d hd]; exact h⟩
  · rintro ⟨d, hd, h⟩
    exact ⟨d, hd, by rw [e d hd]; exact h⟩

/-- The bounds that an answer keeps. -/
structure SmJb (j : Jb) : Prop where
  fits : j.Fits
  size : j.Mid
  nds : (∀ i, i < j.t.n → (j.t.D i).nn ≤ 1000000 ∧ (j.t.D i).kn ≤ 1000000) ∧ (∀ i, i < j.d.m → (j.d.nd i).nn ≤ 1000000 ∧ (j.d.nd i).kn ≤ 1000000) ∧ (∀ i, i < j.q → (j.e i).nn ≤ 1000000 ∧ (j.e i).kn ≤ 1000000)

def jbNone : Jb := ⟨trNone, dpNone, 0, fun _ => ndZero⟩
theorem dpNone_size : dpNone.size = 0 := by unfold Dp.size dpNone; simp [sizeTo]
theorem jbNone_size : jbNone.size = 0 := by
  unfold Jb.size jbNone
  rw [dpNone_size]
  unfold Tr.size trNone
  simp [sizeTo]
theorem jbNone_small : SmJb jbNone :=
  ⟨⟨trNone_small.fits, dpNone_small.fits, by unfold maxLen jbNone; simp, fun i hi => absurd hi (Nat.not_lt_zero _)⟩, Jb.mid (by rw [jbNone_size]; omega), fun i hi => absurd hi (Nat.not_lt_zero _), fun i hi => absurd hi (Nat.not_lt_zero _), fun i hi => absurd hi (Nat.not_lt_zero _)⟩
end Go.Proofs.YtakifcobofkheabGreatDoor

/-
  What BackAll of the specification answers.
-/
namespace Go.Proofs.YtakifcobofkheabGreatDoor
open Go.RowKit Go.Deep
set_option linter.unusedVariables false
set_option linter.unusedSimpArgs false
set_option linter.unnecessarySimpa false

/-- The result's block and the tree's. -/
structure Al (w : World) (t : Tr) (lt : TLoc) (W : World) : Prop where
  r : Blk W w.heap.size #[.slice none 0 0, .int .i64 0] 44
  v : Blk W (w.heap.size + 1) (tC t lt) 44
  own : OwnTr W (w.heap.size + 2) t lt
  bel : Below w.heap.size w W
  size : w.heap.size + 2 ≤ W.heap.size

theorem Al.below {w : World} {t : Tr} {lt : TLoc} {W W' : World} (h : Al w t lt W) (hb : Below W.heap.size W W') : Al w t lt W' := ⟨h.r.below hb h.r.lt, h.v.below hb h.v.lt, h.own.below hb, h.bel.trans (hb.mono h.bel.size), Nat.le_trans h.size hb.size⟩

theorem al_new (w : World) : Al w trNone ⟨none, 0, fun _ => ⟨none, 0, none, 0⟩⟩ ((w.alloc (.cells #[.slice none 0 0, .int .i64 0] 44)).alloc (.cells #[.slice none 0 0, .int .i64 0] 44)) := by
  obtain ⟨h0, h1, hb, _⟩ := new2 w #[.slice none 0 0, .int .i64 0] 44 #[.slice none 0 0, .int .i64 0] 44
  exact ⟨h0, h1, OT.start _ _ _ _ _ _, hb, by simp⟩

/-- Another tree is put into its block. -/
theorem Al.turn {w : World} {t tn : Tr} {lt lr : TLoc} {W W' : World} (h : Al w t lt W) (hb : Below W.heap.size W W') (ho : OwnTr W' W.heap.size tn lr) :
    Al w tn lr ((W'.setCell ⟨w.heap.size + 1, 0, none⟩ (.slice lr.a tn.n lr.c)).setCell ⟨w.heap.size + 1, 1, none⟩ (.int .i64 tn.now)) := by
  have hs := h.size
  have h' := h.below hb
  exact ⟨(h'.r.off _ (by omega)).off _ (by omega), (h'.v.set 0 _).set 1 _, ((ho.put _ (by omega)).put _ (by omega)).lower (by omega), bel_put (bel_put h'.bel _ (by omega)) _ (by omega), by simpa [World.setCell] using h'.size⟩

/-- It ends with a tree. -/
theorem Al.fin {w : World} {t tn : Tr} {lt lr : TLoc} {W : World} {z : Int} (h : Al w t lt W) (ho : OwnTr W (w.heap.size + 1) tn lr) :
    Blk ((W.setCell ⟨w.heap.size, 0, none⟩ (.slice lr.a tn.n lr.c)).setCell ⟨w.heap.size, 1, none⟩ (.int .i64 tn.now)) w.heap.size (tC tn lr) 44 ∧ AllPost w (tn, z) (.returned (.tuple #[.agg #[.slice lr.a tn.n lr.c, .int .i64 tn.now], .int .i64 z])) ((W.setCell ⟨w.heap.size, 0, none⟩ (.slice lr.a tn.n lr.c)).setCell ⟨w.heap.size, 1, none⟩ (.int .i64 tn.now)) :=
  ⟨(h.r.set 0 _).set 1 _, bel_put (bel_put h.bel _ (Nat.le_refl _)) _ (Nat.le_refl _), lr, rfl, ((ho.put _ (by omega)).put _ (by omega)).lower (by omega)⟩

set_option maxRecDepth 100000 in
set_option maxHeartbeats 8000000 in
theorem specBackAll_any (a : Option Addr) (n c : Nat) (D : Nat → Dp) (L : Nat → DLoc) (w : World) (hS : IsDps w a n D L) (hf : FitDps n D) (hn : n ≤ maxLen) (hs : recsTo D n ≤ 1048576) :
    Calls Tryz.prog 28 #[.slice a n c] w (AllPost w (allAns n D)) := by
  unfold maxLen at hn
  have HFAIL : Hid (allAns n D = (trNone, 3) → ∀ U, U = (w.alloc (.cells #[.slice none 0 0, .int .i64 0] 44)).alloc (.cells #[.slice none 0 0, .int .i64 0] 44) → Blk U w.heap.size #[.slice none 0 0, .int .i64 0] 44 ∧ AllPost w (allAns n D) (.returned (.tuple #[.agg #[.slice none 0 0, .int .i64 0], .int .i64 3])) U) := fun h U e => by
    subst e
    rw [h]
    exact ⟨(al_new w).r, (al_new w).bel, ⟨none, 0, fun _ => ⟨none, 0, none, 0⟩⟩, rfl, OT.start _ _ _ _ _ _⟩
  by_cases hn0 : n = 0
  · have HX : Hid _ := HFAIL.out (by unfold allAns; rw [if_pos (Or.inl hn0)])
    subst hn0
    clear HFAIL
    go_enter Tryz.func28, Tryz.ntmps28
    go_wp2_with fail
    refine end_world (F := fun U => Blk U w.heap.size #[.slice none 0 0, .int .i64 0] 44 ∧ AllPost w (allAns 0 D) (.returned (.tuple #[.agg #[.slice none 0 0, .int .i64 0], .int .i64 3])) U) (HX.out _ rfl) ?_
    rintro U ⟨hr, hE⟩
    have e0 : U.cell? ⟨w.heap.size, 0, none⟩ = some (.slice none 0 0) := hr.cell 0
    have e1 : U.cell? ⟨w.heap.size, 1, none⟩ = some (.int .i64 0) := hr.cell 1
    exact bodyPost_ret (v := .tuple #[.agg #[.slice none 0 0, .int .i64 0], .int .i64 3]) (by simp [results, Tryz.results28, go_sem, e0, e1]) rfl hE
  · obtain ⟨b, off, rfl, hlt0, hc0⟩ := hS.at (show 0 < n by omega)
    have c00 : w.cell? ⟨b, off, none⟩ = some (.int .i64 (D 0).since) := by have := (hc0 0 (by omega)).1; simpa using this
    have hnb : ((n : Int) == 0) = false := by simp; omega
    have hn0i : (0 : Int) < (n : Int) := by omega
    clear hc0
    by_cases hsi : (D 0).since = 0
    · have hsb : ((D 0).since != 0) = false := by simp [hsi]
      have HANS : Hid (allAns n D = allAt D n) := by show _ = _; unfold allAns; rw [if_neg (by omega)]
      clear hsi HFAIL
      go_enter Tryz.func28, Tryz.ntmps28
      go_wp2
      go_loopw [5] (fun i wr => ∃ (k : Nat) (lt : TLoc), k ≤ n ∧ i = .int .i64 k ∧ (allAt D k).2 = 0 ∧ Al w (allAt D k).1 lt wr) (fun i _ => n - (intOf i).toNat)
      case atStart => exact ⟨0, _, Nat.zero_le _, rfl, rfl, al_new w⟩
      case round =>
        obtain ⟨k, lt, hk, rfl, hz, hA⟩ := hrel
        obtain ⟨hsm, hsk⟩ := all_small hf hs k hk
        have HNX : Hid _ := allAt_next hz
        have HZ : Hid ((allAt D k).2 = 0) := hz
        clear hz
        generalize ht : (allAt D k).1 = t at hA hsm hsk HNX
        have HT : Hid ((allAt D k).1 = t) := ht
        clear ht
        by_cases hlt : k < n
        · have hlti : (k : Int) < (n : Int) := by omega
          obtain ⟨b', off', e', hlt2, hc⟩ := (hS.below (Nat.le_refl _) hA.bel).at hlt
          cases e'
          obtain ⟨c0, c1, c2, c3, hI⟩ := hc k hlt
          have hrt := recsTo_mono D (show k + 1 ≤ n by omega)
          rw [recsTo_succ] at hrt
          have hpair : t.size + (D k).size ≤ 1048576 := by omega
          have HBAD : Hid (backCode t.n t.D t.now (D k) ≠ 0 → backTr t (D k) = trNone) := backTr_bad
          have HC0 : Hid (∀ W', Below wr.heap.size wr W' → Calls Tryz.prog 52 #[tV t lt, dpV (D k) (L k)] W' fun e w' => Below W'.heap.size W' w' ∧ ∃ l, e = .returned (.tuple #[tV (backTr t (D k)) l, .int .i64 (backCode t.n t.D t.now (D k))]) ∧ OwnTr w' W'.heap.size (backTr t (D k)) l) := fun W' hW => (specBackOne_law t lt (D k) (L k) W' (hA.own.tIn.below (Nat.le_refl _) hW) (hI.below (Nat.le_refl _) hW) hsm.fits (hf k hlt) hpair).mono fun e w' h => back_out _ _ h
          have HCN : Hid (∀ tn z, backTr t (D k) = tn → backCode t.n t.D t.now (D k) = z → ∀ W', Below wr.heap.size wr W' → Calls Tryz.prog 52 #[tV t lt, dpV (D k) (L k)] W' fun e w' => Below W'.heap.size W' w' ∧ ∃ l, e = .returned (.tuple #[tV tn l, .int .i64 z]) ∧ OwnTr w' W'.heap.size tn l) := fun tn z h1 h2 => by rw [← h1, ← h2]; exact HC0.out
          obtain ⟨tn, htn⟩ : ∃ tn, backTr t (D k) = tn := ⟨_, rfl⟩
          obtain ⟨z, hzz⟩ : ∃ z, backCode t.n t.D t.now (D k) = z := ⟨_, rfl⟩
          have HCALL : Hid _ := HCN.out tn z htn hzz
          have HNZ : Hid (allAt D (k + 1) = (tn, z) ∧ (z ≠ 0 → tn = trNone)) := ⟨by rw [HNX.out, htn, hzz], fun h => by rw [← htn]; exact HBAD.out (by rw [hzz]; exact h)⟩
          obtain ⟨v0, v1⟩ := tC_cells hA.v
          have hvl := hA.v.lt
          have HSt : Hid (∀ W', Below wr.heap.size wr W' → W'.cell? ⟨w.heap.size + 1, 0, none⟩ = some (.slice lt.a t.n lt.c) ∧ W'.cell? ⟨w.heap.size + 1, 1, none⟩ = some (.int .i64 t.now) ∧ W'.cell? ⟨b, off + k * 4, none⟩ = some (.int .i64 (D k).since) ∧ W'.cell? ⟨b, off + k * 4 + 1, none⟩ = some (.int .i64 (D k).date) ∧ W'.cell? ⟨b, off + k * 4 + 2, none⟩ = some (.slice (L k).lA (D k).ln (L k).lc) ∧ W'.cell? ⟨b, off + k * 4 + 3, none⟩ = some (.slice (L k).iA (D k).m (L k).ic)) := fun W' hW => by
            have kk : ∀ (q o : Nat) (v : Value), q < wr.heap.size → wr.cell? ⟨q, o, none⟩ = some v → W'.cell? ⟨q, o, none⟩ = some v := fun q o v hq hv => (hW.cell (p := ⟨q, o, none⟩) hq).trans hv
            exact ⟨kk _ _ _ hvl v0, kk _ _ _ hvl v1, kk _ _ _ hlt2 c0, kk _ _ _ hlt2 c1, kk _ _ _ hlt2 c2, kk _ _ _ hlt2 c3⟩
          have HA : Hid (Al w t lt wr) := hA
          clear hc hI c0 c1 c2 c3 v0 v1 hA HC0 HCN htn hzz HBAD HNX hrt hsm hsk hpair hvl
          go_wp2_with fail
          apply wp_cn2 (X := TLoc) (Y := Nat) (fun lr V W => Below wr.heap.size wr W ∧ Blk W (V) (tC tn lr) 44 ∧ OwnTr W wr.heap.size tn lr ∧ wr.heap.size ≤ V ∧ ¬ BkT tn lr (V))
          · intro key
            have KEY : Hid _ := key
            clear key
            refine wp_region_noPanic ?_
            have hB0 : Below wr.heap.size wr wr.drew := (Below.refl _ _).drew
            refine wp_region_peel (fun W' => W'.cell? ⟨w.heap.size + 1, 0, none⟩ = some (.slice lt.a t.n lt.c) ∧ W'.cell? ⟨w.heap.size + 1, 1, none⟩ = some (.int .i64 t.now) ∧ W'.cell? ⟨b, off + k * 4, none⟩ = some (.int .i64 (D k).since) ∧ W'.cell? ⟨b, off + k * 4 + 1, none⟩ = some (.int .i64 (D k).date) ∧ W'.cell? ⟨b, off + k * 4 + 2, none⟩ = some (.slice (L k).lA (D k).ln (L k).lc) ∧ W'.cell? ⟨b, off + k * 4 + 3, none⟩ = some (.slice (L k).iA (D k).m (L k).ic)) _ (by kernel_rfl) rfl (by kernel_rfl) ?_ (fun hHeld => ?_)
            · exact HSt.out _ hB0
            simp only [List.pop_toArray, List.dropLast, List.size_toArray, List.length_cons, List.length_nil, Nat.reduceAdd, Nat.reduceSub, List.getElem_toArray, List.getElem_cons_succ, List.getElem_cons_zero]
            refine peel_take (i := 0) (oi := ?oi0p) (v := ?v0p) (fun _ _ _ _ _ h => h) hHeld ?hi0p (by kernel_rfl) (by kernel_rfl) (by kernel_rfl) ?hw0p ?hy0p ?rest0p
            case hi0p =>
              simp only [List.getElem?_toArray, List.getElem?_cons_zero]
              rfl
            case hw0p => rfl
            case hy0p =>
              intro w hSw
              obtain ⟨s0, s1, s2, s3, s4, s5⟩ := hSw
              go_simp
              try with_reducible rfl
            try simp only [Act.put, List.setIfInBounds_toArray, List.set_cons_zero, List.set_cons_succ]
            refine peel_take (i := 1) (oi := ?oi1p) (v := ?v1p) (fun _ _ _ _ _ h => h) hHeld ?hi1p (by kernel_rfl) (by kernel_rfl) (by kernel_rfl) ?hw1p ?hy1p ?rest1p
            case hi1p =>
              simp only [List.getElem?_toArray, List.getElem?_cons_succ, List.getElem?_cons_zero]
              rfl
            case hw1p => rfl
            case hy1p =>
              intro w hSw
              obtain ⟨s0, s1, s2, s3, s4, s5⟩ := hSw
              go_simp
              try with_reducible rfl
            try simp only [Act.put, List.setIfInBounds_toArray, List.set_cons_zero, List.set_cons_succ]
            refine peel_take (i := 2) (oi := ?oi2p) (v := ?v2p) (fun _ _ _ _ _ h => h) hHeld ?hi2p (by kernel_rfl) (by kernel_rfl) (by kernel_rfl) ?hw2p ?hy2p ?rest2p
            case hi2p =>
              simp only [List.getElem?_toArray, List.getElem?_cons_succ, List.getElem?_cons_zero]
              rfl
            case hw2p => rfl
            case hy2p =>
              intro w hSw
              obtain ⟨s0, s1, s2, s3, s4, s5⟩ := hSw
              go_simp
              try with_reducible rfl
            try simp only [Act.put, List.setIfInBounds_toArray, List.set_cons_zero, List.set_cons_succ]
            refine peel_take (i := 3) (oi := ?oi3p) (v := ?v3p) (fun _ _ _ _ _ h => h) hHeld ?hi3p (by kernel_rfl) (by kernel_rfl) (by kernel_rfl) ?hw3p ?hy3p ?rest3p
            case hi3p =>
              simp only [List.getElem?_toArray, List.getElem?_cons_succ, List.getElem?_cons_zero]
              rfl
            case hw3p => rfl
            case hy3p =>
              intro w hSw
              obtain ⟨s0, s1, s2, s3, s4, s5⟩ := hSw
              go_simp
              try with_reducible rfl
            try simp only [Act.put, List.setIfInBounds_toArray, List.set_cons_zero, List.set_cons_succ]
            refine peel_take (i := 4) (oi := ?oi4p) (v := ?v4p) (fun _ _ _ _ _ h => h) hHeld ?hi4p (by kernel_rfl) (by kernel_rfl) (by kernel_rfl) ?hw4p ?hy4p ?rest4p
            case hi4p =>
              simp only [List.getElem?_toArray, List.getElem?_cons_succ, List.getElem?_cons_zero]
              rfl
            case hw4p => rfl
            case hy4p =>
              intro w hSw
              obtain ⟨s0, s1, s2, s3, s4, s5⟩ := hSw
              go_simp
              try with_reducible rfl
            try simp only [Act.put, List.setIfInBounds_toArray, List.set_cons_zero, List.set_cons_succ]
            refine wpAnyH_ready (rs := [5, 9]) (by kernel_rfl) (by simp) ?_
            refine AllReadyH.cons (o := ?o5q1a) ?ho5q1a (fun K hK => ?st5q1a) ?more5q1a
            case ho5q1a =>
              simp only [List.getElem?_toArray, List.getElem?_cons_succ, List.getElem?_cons_zero]
              rfl
            case st5q1a =>
              go_simp
              refine (HCALL.out _ hB0).mono ?_
              rintro e wq1a ⟨hbc, lr, rfl, hodq1a⟩
              unfold tV
              have hBq1a : Below wr.heap.size wr wq1a := hB0.trans (hbc.mono hB0.size)
              clear hbc
              refine hK.out _ _ (HSt.out _ hBq1a) (fun hHeld => ?_)
              clear hK K
              try simp only [Act.put, List.setIfInBounds_toArray, List.set_cons_zero, List.set_cons_succ]
              refine peel_take (i := 6) (oi := ?oi6q1a) (v := ?v6q1a) (fun _ _ _ _ _ h => h) hHeld ?hi6q1a (by kernel_rfl) (by kernel_rfl) (by kernel_rfl) ?hw6q1a ?hy6q1a ?rest6q1a
              case hi6q1a =>
                simp only [List.getElem?_toArray, List.getElem?_cons_succ, List.getElem?_cons_zero]
                rfl
              case hw6q1a => rfl
              case hy6q1a =>
                intro w hSw
                obtain ⟨s0, s1, s2, s3, s4, s5⟩ := hSw
                go_simp
                try with_reducible rfl
              try simp only [Act.put, List.setIfInBounds_toArray, List.set_cons_zero, List.set_cons_succ]
              refine peel_take (i := 7) (oi := ?oi7q1a) (v := ?v7q1a) (fun _ _ _ _ _ h => h) hHeld ?hi7q1a (by kernel_rfl) (by kernel_rfl) (by kernel_rfl) ?hw7q1a ?hy7q1a ?rest7q1a
              case hi7q1a =>
                simp only [List.getElem?_toArray, List.getElem?_cons_succ, List.getElem?_cons_zero]
                rfl
              case hw7q1a => rfl
              case hy7q1a =>
                intro w hSw
                obtain ⟨s0, s1, s2, s3, s4, s5⟩ := hSw
                go_simp
                try with_reducible rfl
              try simp only [Act.put, List.setIfInBounds_toArray, List.set_cons_zero, List.set_cons_succ]
              refine peel_take (i := 8) (oi := ?oi8q1a) (v := ?v8q1a) (fun _ _ _ _ _ h => h) hHeld ?hi8q1a (by kernel_rfl) (by kernel_rfl) (by kernel_rfl) ?hw8q1a ?hy8q1a ?rest8q1a
              case hi8q1a =>
                simp only [List.getElem?_toArray, List.getElem?_cons_succ, List.getElem?_cons_zero]
                rfl
              case hw8q1a => rfl
              case hy8q1a =>
                intro w hSw
                obtain ⟨s0, s1, s2, s3, s4, s5⟩ := hSw
                go_simp
                try with_reducible rfl
              try simp only [Act.put, List.setIfInBounds_toArray, List.set_cons_zero, List.set_cons_succ]
              refine wpAnyH_ready (rs := [9]) (by kernel_rfl) (by simp) ?_
              refine AllReadyH.cons (o := ?o9q2a) ?ho9q2a (fun K hK => ?st9q2a) AllReadyH.nil
              case ho9q2a =>
                simp only [List.getElem?_toArray, List.getElem?_cons_succ, List.getElem?_cons_zero]
                rfl
              go_simp
              have hBq2a : Below wr.heap.size wr (wq1a.alloc (.cells #[.slice none 0 0, .int .i64 0] 44)) := hBq1a.alloc hBq1a.size _
              have hvq2a : Blk (wq1a.alloc (.cells #[.slice none 0 0, .int .i64 0] 44)) (wq1a.heap.size) #[.slice none 0 0, .int .i64 0] 44 := by
                have h := Blk.new wq1a #[.slice none 0 0, .int .i64 0] 44
                simpa using h
              have hVq2a : wr.heap.size ≤ wq1a.heap.size := by
                have h := hBq1a.size
                simpa using h
              refine hK.out _ _ (HSt.out _ hBq2a) (fun hHeld => ?_)
              clear hK K
              try simp only [Act.put, List.setIfInBounds_toArray, List.set_cons_zero, List.set_cons_succ]
              refine wpAnyH_ready (rs := [10]) (by kernel_rfl) (by simp) ?_
              refine AllReadyH.cons (o := ?o10q3a) ?ho10q3a (fun K hK => ?st10q3a) AllReadyH.nil
              case ho10q3a =>
                simp only [List.getElem?_toArray, List.getElem?_cons_succ, List.getElem?_cons_zero]
                rfl
              have HS : Hid (∀ U, U = wq1a.alloc (.cells (tC tn lr) 44) → Below wr.heap.size wr U ∧ Blk U (wq1a.heap.size) (tC tn lr) 44 ∧ OwnTr U wr.heap.size tn lr ∧ wr.heap.size ≤ wq1a.heap.size ∧ ¬ BkT tn lr (wq1a.heap.size)) := fun U e => by
                subst e
                exact ⟨hBq1a.alloc hBq1a.size _, Blk.new _ _ _, (hodq1a.below ((Below.refl _ _).alloc (Nat.le_refl _) _)).lower hB0.size, hVq2a, fun e => Nat.lt_irrefl _ (hodq1a.blk e).2⟩
              go_simp
              refine hK.out _ _ (HSt.out _ (HS.out _ rfl).1) (fun hHeld => ?_)
              clear hK K
              try simp only [Act.put, List.setIfInBounds_toArray, List.set_cons_zero, List.set_cons_succ]
              refine wpAnyH_done (by kernel_rfl) ?_ _
              show Oper.wp _ _ _ _ _ _
              go_simp
              generalize hV : wq1a.heap.size = V
              exact NoPanic.normal (KEY.out lr V _ (by rw [← hV]; exact HS.out _ rfl))
            refine AllReadyH.cons (o := ?o9q1b) ?ho9q1b (fun K hK => ?st9q1b) AllReadyH.nil
            case ho9q1b =>
              simp only [List.getElem?_toArray, List.getElem?_cons_succ, List.getElem?_cons_zero]
              rfl
            go_simp
            have hBq1b : Below wr.heap.size wr (wr.drew.alloc (.cells #[.slice none 0 0, .int .i64 0] 44)) := hB0.alloc hB0.size _
            have hvq1b : Blk (wr.drew.alloc (.cells #[.slice none 0 0, .int .i64 0] 44)) (wr.heap.size) #[.slice none 0 0, .int .i64 0] 44 := by
              have h := Blk.new wr.drew #[.slice none 0 0, .int .i64 0] 44
              simpa using h
            have hVq1b : wr.heap.size ≤ wr.heap.size := by
              have h := hB0.size
              simpa using h
            refine hK.out _ _ (HSt.out _ hBq1b) (fun hHeld => ?_)
            clear hK K
            try simp only [Act.put, List.setIfInBounds_toArray, List.set_cons_zero, List.set_cons_succ]
            refine wpAnyH_ready (rs := [5]) (by kernel_rfl) (by simp) ?_
            refine AllReadyH.cons (o := ?o5q5a) ?ho5q5a (fun K hK => ?st5q5a) AllReadyH.nil
            case ho5q5a =>
              simp only [List.getElem?_toArray, List.getElem?_cons_succ, List.getElem?_cons_zero]
              rfl
            go_simp
            refine (HCALL.out _ hBq1b).mono ?_
            rintro e wq5a ⟨hbc, lr, rfl, hodq5a⟩
            unfold tV
            have hBq5a : Below wr.heap.size wr wq5a := hBq1b.trans (hbc.mono hBq1b.size)
            have hvq5a : Blk wq5a (wr.heap.size) #[.slice none 0 0, .int .i64 0] 44 := hvq1b.below hbc hvq1b.lt
            have hltq5a := hvq1b.lt
            clear hbc
            refine hK.out _ _ (HSt.out _ hBq5a) (fun hHeld => ?_)
            clear hK K
            try simp only [Act.put, List.setIfInBounds_toArray, List.set_cons_zero, List.set_cons_succ]
            refine peel_take (i := 6) (oi := ?oi6q5a) (v := ?v6q5a) (fun _ _ _ _ _ h => h) hHeld ?hi6q5a (by kernel_rfl) (by kernel_rfl) (by kernel_rfl) ?hw6q5a ?hy6q5a ?rest6q5a
            case hi6q5a =>
              simp only [List.getElem?_toArray, List.getElem?_cons_succ, List.getElem?_cons_zero]
              rfl
            case hw6q5a => rfl
            case hy6q5a =>
              intro w hSw
              obtain ⟨s0, s1, s2, s3, s4, s5⟩ := hSw
              go_simp
              try with_reducible rfl
            try simp only [Act.put, List.setIfInBounds_toArray, List.set_cons_zero, List.set_cons_succ]
            refine peel_take (i := 7) (oi := ?oi7q5a) (v := ?v7q5a) (fun _ _ _ _ _ h => h) hHeld ?hi7q5a (by kernel_rfl) (by kernel_rfl) (by kernel_rfl) ?hw7q5a ?hy7q5a ?rest7q5a
            case hi7q5a =>
              simp only [List.getElem?_toArray, List.getElem?_cons_succ, List.getElem?_cons_zero]
              rfl
            case hw7q5a => rfl
            case hy7q5a =>
              intro w hSw
              obtain ⟨s0, s1, s2, s3, s4, s5⟩ := hSw
              go_simp
              try with_reducible rfl
            try simp only [Act.put, List.setIfInBounds_toArray, List.set_cons_zero, List.set_cons_succ]
            refine peel_take (i := 8) (oi := ?oi8q5a) (v := ?v8q5a) (fun _ _ _ _ _ h => h) hHeld ?hi8q5a (by kernel_rfl) (by kernel_rfl) (by kernel_rfl) ?hw8q5a ?hy8q5a ?rest8q5a
            case hi8q5a =>
              simp only [List.getElem?_toArray, List.getElem?_cons_succ, List.getElem?_cons_zero]
              rfl
            case hw8q5a => rfl
            case hy8q5a =>
              intro w hSw
              obtain ⟨s0, s1, s2, s3, s4, s5⟩ := hSw
              go_simp
              try with_reducible rfl
            try simp only [Act.put, List.setIfInBounds_toArray, List.set_cons_zero, List.set_cons_succ]
            refine wpAnyH_ready (rs := [10]) (by kernel_rfl) (by simp) ?_
            refine AllReadyH.cons (o := ?o10q6a) ?ho10q6a (fun K hK => ?st10q6a) AllReadyH.nil
            case ho10q6a =>
              simp only [List.getElem?_toArray, List.getElem?_cons_succ, List.getElem?_cons_zero]
              rfl
            have z0 := hvq5a.cell 0
            have z1 := hvq5a.cell 1
            have f0 := hvq5a.frozen 0
            have f1 := hvq5a.frozen 1
            simp at z0 z1
            have HS : Hid (∀ U, U = ((wq5a.setCell ⟨wr.heap.size, 0, none⟩ (.slice lr.a tn.n lr.c)).setCell ⟨wr.heap.size, 1, none⟩ (.int .i64 tn.now)) → Below wr.heap.size wr U ∧ Blk U (wr.heap.size) (tC tn lr) 44 ∧ OwnTr U wr.heap.size tn lr ∧ wr.heap.size ≤ wr.heap.size ∧ ¬ BkT tn lr (wr.heap.size)) := fun U e => by
              subst e
              have hlow : ∀ q, BkT tn lr q → wr.heap.size < q := fun q e => by have := (hodq5a.blk e).1; have h2 := hltq5a; omega
              exact ⟨bel_put (bel_put hBq5a _ hVq1b) _ hVq1b, (hvq5a.set 0 _).set 1 _, ((hodq5a.put _ hltq5a).put _ hltq5a).lower hBq1b.size, hVq1b, fun e => Nat.lt_irrefl _ (hlow _ e)⟩
            go_simp
            refine hK.out _ _ (HSt.out _ (HS.out _ rfl).1) (fun hHeld => ?_)
            clear hK K
            try simp only [Act.put, List.setIfInBounds_toArray, List.set_cons_zero, List.set_cons_succ]
            refine wpAnyH_done (by kernel_rfl) ?_ _
            show Oper.wp _ _ _ _ _ _
            go_simp
            generalize hV : wr.heap.size = V
            exact NoPanic.normal (KEY.out lr V _ (by rw [← hV]; exact HS.out _ rfl))
          · intro lr V W3 h3
            obtain ⟨hb3, hv3, ho3, hV3, _⟩ := h3
            have hA3 := HA.out.below hb3
            by_cases hz0 : z = 0
            · have hzb : (z != 0) = false := by simp [hz0]
              have HN : Hid (allAt D (k + 1) = (tn, 0)) := by have := HNZ.out.1; rw [hz0] at this; exact this
              obtain ⟨u0, u1⟩ := tC_cells hv3
              have q0 : W3.cell? ⟨w.heap.size + 1, 0, none⟩ = some (.slice lt.a t.n lt.c) := hA3.v.cell 0
              have q1 : W3.cell? ⟨w.heap.size + 1, 1, none⟩ = some (.int .i64 t.now) := hA3.v.cell 1
              have g0 := hA3.v.frozen 0
              have g1 := hA3.v.frozen 1
              have HX : Hid _ := HA.out.turn hb3 ho3
              clear hb3 hv3 ho3 hV3 hA3 hz0 HA HNZ HCALL HSt
              go_wp2
              go_roundw
              case rel => exact ⟨k + 1, lr, by omega, by go_num, by rw [HN.out], by rw [HN.out]; exact HX.out⟩
              case measure => simp [intOf]; omega
            · have hzb : (z != 0) = true := by simp [hz0]
              have HN : Hid (allAns n D = (trNone, z)) := by
                show _ = _
                have h1 := HNZ.out.1
                rw [HNZ.out.2 hz0] at h1
                rw [HANS.out]
                exact allAt_stuck hz0 h1 n hlt
              have r0 : W3.cell? ⟨w.heap.size, 0, none⟩ = some (.slice none 0 0) := hA3.r.cell 0
              have r1 : W3.cell? ⟨w.heap.size, 1, none⟩ = some (.int .i64 0) := hA3.r.cell 1
              have g0 := hA3.r.frozen 0
              have g1 := hA3.r.frozen 1
              have HE : Hid _ := Al.fin (z := z) hA3 (tn := trNone) (lr := ⟨none, 0, fun _ => ⟨none, 0, none, 0⟩⟩) (OT.start _ _ _ _ _ _)
              clear hb3 hv3 ho3 hV3 hA3 hz0 HA HNZ HCALL HSt
              go_wp2_with fail
              refine end_world (F := fun U => Blk U w.heap.size (tC trNone ⟨none, 0, fun _ => ⟨none, 0, none, 0⟩⟩) 44 ∧ AllPost w (trNone, z) (.returned (.tuple #[.agg #[.slice none 0 0, .int .i64 0], .int .i64 z])) U) HE.out ?_
              clear HE r0 r1 g0 g1
              rintro U ⟨hr, hE⟩
              have e0 : U.cell? ⟨w.heap.size, 0, none⟩ = some (.slice none 0 0) := hr.cell 0
              have e1 : U.cell? ⟨w.heap.size, 1, none⟩ = some (.int .i64 0) := hr.cell 1
              exact bodyPost_ret (v := .tuple #[.agg #[.slice none 0 0, .int .i64 0], .int .i64 z]) (by simp [results, Tryz.results28, go_sem, e0, e1]) rfl (by rw [HN.out]; exact hE)
        · obtain rfl : k = n := by omega
          have HN : Hid (allAns k D = (t, 0)) := by
            show _ = _
            rw [HANS.out]
            exact Prod.ext HT.out HZ.out
          obtain ⟨v0, v1⟩ := tC_cells hA.v
          have r0 : wr.cell? ⟨w.heap.size, 0, none⟩ = some (.slice none 0 0) := hA.r.cell 0
          have r1 : wr.cell? ⟨w.heap.size, 1, none⟩ = some (.int .i64 0) := hA.r.cell 1
          have g0 := hA.r.frozen 0
          have g1 := hA.r.frozen 1
          have HE : Hid _ := Al.fin (z := 0) hA (hA.own.lower (by omega))
          clear hA HNX HZ HT hsm hsk
          go_wp2_with fail
          refine end_world (F := fun U => Blk U w.heap.size (tC t lt) 44 ∧ AllPost w (t, 0) (.returned (.tuple #[.agg #[.slice lt.a t.n lt.c, .int .i64 t.now], .int .i64 0])) U) HE.out ?_
          clear HE r0 r1 g0 g1 v0 v1
          rintro U ⟨hr, hE⟩
          obtain ⟨e0, e1⟩ := tC_cells hr
          exact bodyPost_ret (v := .tuple #[.agg #[.slice lt.a t.n lt.c, .int .i64 t.now], .int .i64 0]) (by simp [results, Tryz.results28, go_sem, e0, e1]) rfl (by rw [HN.out]; exact hE)
    · have hsb : ((D 0).since != 0) = true := by simp [hsi]
      have HX : Hid _ := HFAIL.out (by unfold allAns; rw [if_pos (Or.inr hsi)])
      clear hsi HFAIL
      go_enter Tryz.func28, Tryz.ntmps28
      go_wp2_with fail
      refine end_world (F := fun U => Blk U w.heap.size #[.slice none 0 0, .int .i64 0] 44 ∧ AllPost w (allAns n D) (.returned (.tuple #[.agg #[.slice none 0 0, .int .i64 0], .int .i64 3])) U) (HX.out _ rfl) ?_
      rintro U ⟨hr, hE⟩
      have e0 : U.cell? ⟨w.heap.size, 0, none⟩ = some (.slice none 0 0) := hr.cell 0
      have e1 : U.cell? ⟨w.heap.size, 1, none⟩ = some (.int .i64 0) := hr.cell 1
      exact bodyPost_ret (v := .tuple #[.agg #[.slice none 0 0, .int .i64 0], .int .i64 3]) (by simp [results, Tryz.results28, go_sem, e0, e1]) rfl hE
end Go.Proofs.YtakifcobofkheabGreatDoor

/-
  What TreeFind of the specification answers.
-/
namespace Go.Proofs.YtakifcobofkheabGreatDoor
open Go.RowKit
set_option linter.unusedVariables false

/-- The first place of a name in a directory; -1, if there is none. -/
def nameIx (d : Nd) (s : ByteArray) : Int := match (List.range d.nn).find? (fun i => (d.names i).toList == s.toList) with | some i => (i : Int) | none => -1

theorem nameIx_none {d : Nd} {s : ByteArray} (h : ∀ i, i < d.nn → ¬ (d.names i).toList = s.toList) : nameIx d s = -1 := by
  unfold nameIx
  rw [List.find?_eq_none.2 (fun i hi => by simpa using h i (by simpa using hi))]

theorem nameIx_some {d : Nd} {s : ByteArray} {k : Nat} (hk : k < d.nn) (he : (d.names k).toList = s.toList) (h : ∀ i, i < k → ¬ (d.names i).toList = s.toList) : nameIx d s = k := by
  unfold nameIx
  have : (List.range d.nn).find? (fun i => (d.names i).toList == s.toList) = some k := by
    rw [List.find?_range_eq_some]
    exact ⟨by simpa using he, by simpa using hk, fun j hj => by simpa using h j hj⟩
  rw [this]

theorem nameIx_spec (d : Nd) (s : ByteArray) : (nameIx d s = -1 ∧ ∀ i, i < d.nn → ¬ (d.names i).toList = s.toList) ∨ ∃ i : Nat, nameIx d s = i ∧ i < d.nn ∧ (d.names i).toList = s.toList := by
  unfold nameIx
  split
  · rename_i i hi
    have h1 := List.find?_some hi
    have h2 := List.mem_of_find?_eq_some hi
    exact Or.inr ⟨i, rfl, by simpa using h2, by simpa using h1⟩
  · rename_i hi
    have := List.find?_eq_none.1 hi
    exact Or.inl ⟨rfl, fun i hlt => by simpa using this i (by simpa using hlt)⟩

/-- What is known within l2Name. -/
structure NmIn (w : World) (d : Nd) (l : Loc) (W : World) : Prop where
  d : Blk W w.heap.size #[.int .i64 d.kind, .string d.text, .slice l.nA d.nn l.nc, .slice l.kA d.kn l.kc, .int .i64 d.turn] 28
  bel : Below w.heap.size w W

set_option maxHeartbeats 1000000 in
theorem l2Name_any (d : Nd) (l : Loc) (s : ByteArray) (w : World) (hI : NdIn w d l) (hn : d.nn ≤ maxLen) :
    Calls Tryz.prog 73 #[ndV d l, .string s] w fun e w' => Below w.heap.size w w' ∧ e = .returned (.int .i64 (nameIx d s)) := by
  unfold maxLen at hn
  unfold ndV
  go_enter Tryz.func73, Tryz.ntmps73
  go_wp2
  go_loopw [5] (fun i wr => ∃ k : Nat, k ≤ d.nn ∧ i = .int .i64 k ∧ NmIn w d l wr ∧ ∀ i, i < k → ¬ (d.names i).toList = s.toList) (fun i _ => d.nn - (intOf i).toNat)
  case atStart => exact ⟨0, Nat.zero_le _, rfl, ⟨(new1 w _ _).b0, (new1 w _ _).bel⟩, fun i hi => by omega⟩
  case round =>
    obtain ⟨k, hk, rfl, hin, hall⟩ := hrel
    have d2 : wr.cell? ⟨w.heap.size, 2, none⟩ = some (.slice l.nA d.nn l.nc) := hin.d.cell 2
    have hIr := hI.1.below (Nat.le_refl _) hin.bel
    have HE : Hid (NmIn w d l wr ∧ ∀ i, i < k → ¬ (d.names i).toList = s.toList) := ⟨hin, hall⟩
    clear hin hall
    by_cases hlt : k < d.nn
    · obtain ⟨b, off, ha, hlt2, hc⟩ := hIr.at hlt
      rw [ha] at d2
      have h1 := hc k hlt
      have hlti : (k : Int) < (d.nn : Int) := by omega
      clear hc
      cases he : ((d.names k).toList == s.toList) with
      | true =>
        have HX : Hid ((d.names k).toList = s.toList) := show _ = _ by simpa using he
        go_wp2_with fail
        go_ret
        exact ⟨HE.out.1.bel, by rw [nameIx_some hlt HX.out HE.out.2]; rfl⟩
      | false =>
        have HX : Hid (¬ (d.names k).toList = s.toList) := show ¬ _ by simpa using he
        go_wp2_with fail
        go_roundw
        case rel => exact ⟨k + 1, by omega, by go_num, HE.out.1, fun i hi => by
          by_cases e : i = k
          · subst e; exact HX.out
          · exact HE.out.2 i (by omega)⟩
        case measure => simp [intOf]; omega
    · clear hIr
      go_wp2
      go_ret
      exact ⟨HE.out.1.bel, by rw [nameIx_none (fun i hi => HE.out.2 i (by omega))]; rfl⟩

set_option maxHeartbeats 2000000 in
theorem l2Find_any (a : Option Addr) (n c : Nat) (now : Int) (D : Nat → Nd) (L : Nat → Loc) (pa : Option Addr) (m pc : Nat) (S : Nat → ByteArray) (w : World) (hS : IsNds w a n D L) (hP : IsStrs w pa m S) (hf : FitAll n D) (hn : n ≤ maxLen) (hm : m ≤ maxLen) (hg : TreeGood n D now) (hp : pathOk m S = true) :
    Calls Tryz.prog 55 #[trV a n c now, .slice pa m pc] w fun e w' => Below w.heap.size w w' ∧ ∃ r, e = .returned (.int .i64 r) ∧ FindAre n D now m S r := by
  have HG : Hid (TreeGood n D now) := hg
  have HP : Hid (pathOk m S = true) := hp
  unfold maxLen at hm
  have hn' := hn
  unfold maxLen at hn'
  clear hg hp
  unfold trV
  go_enter Tryz.func55, Tryz.ntmps55
  go_wp2
  go_loopw [5, 6] (fun x i wr => ∃ k y : Nat, k ≤ m ∧ i = .int .i64 k ∧ x = .int .i64 y ∧ RefsIn w a n c now wr ∧ Leads D S k y) (fun _ i _ => m - (intOf i).toNat)
  case atStart => exact ⟨0, 0, Nat.zero_le _, rfl, rfl, ⟨(new1 w _ _).b0, (new1 w _ _).bel⟩, .root⟩
  case round =>
    obtain ⟨k, y, hk, rfl, rfl, hin, hl⟩ := hrel
    have t0 : wr.cell? ⟨w.heap.size, 0, none⟩ = some (.slice a n c) := hin.t.cell 0
    have hwl : w.heap.size < wr.heap.size := hin.t.lt
    by_cases hlt : k < m
    · have hyn : y < n := hl.lt HG.out
      have hSr := hS.below (Nat.le_refl _) hin.bel
      have hPr := hP.below (Nat.le_refl _) hin.bel
      obtain ⟨b, off, rfl, hlt2, hc⟩ := hSr.at hyn
      obtain ⟨b', off', rfl, hlt2', hc'⟩ := hPr.at hlt
      obtain ⟨c0, c1, c2, c3, c4, hI⟩ := hc y hyn
      have p0 := hc' k hlt
      have hki : (k : Int) < (m : Int) := by omega
      have hyi : (y : Int) < (n : Int) := by omega
      have C0 := Lat.cell (B := wr.heap.size) c0 hlt2
      have C1 := Lat.cell (B := wr.heap.size) c1 hlt2
      have C2 := Lat.cell (B := wr.heap.size) c2 hlt2
      have C3 := Lat.cell (B := wr.heap.size) c3 hlt2
      have C4 := Lat.cell (B := wr.heap.size) c4 hlt2
      have P0 := Lat.cell (B := wr.heap.size) p0 hlt2'
      have T0 := Lat.cell (B := wr.heap.size) t0 hwl
      have hcall : Hid (∀ q : Lat wr.heap.size wr, Calls Tryz.prog 73 #[ndV (D y) (L y), .string (S k)] q.val fun e w'' => e = .returned (.int .i64 (nameIx (D y) (S k))) ∧ ∃ m : Lat wr.heap.size wr, w'' = m.val) := fun q =>
        Calls.lat_of (l2Name_any (D y) (L y) (S k) q.val (hI.below (Nat.le_refl _) q.bel) (hf y hyn).nn) (fun e w' h => ⟨h.2, h.1.mono q.bel.size⟩)
      have HIN : Hid (RefsIn w (some ⟨b, off, none⟩) n c now wr ∧ Leads D S k y) := ⟨hin, hl⟩
      clear hc hc' hin hl hI c0 c1 c2 c3 c4 p0 hSr hPr
      go_wp2_with fail
      refine wp_region_lat (B := wr.heap.size) (w0 := wr) (by kernel_rfl) (by kernel_rfl) (Below.refl _ _) ?_
      repeat (go_big_quiet_step (exact hcall.out _))
      refine wpQuiet_nil ?_
      rintro _ ⟨nq, rfl⟩
      have hN : RefsIn w (some ⟨b, off, none⟩) n c now nq.val := ⟨HIN.out.1.t.below nq.bel hwl, HIN.out.1.bel.trans (nq.bel.mono HIN.out.1.bel.size)⟩
      clear hcall C0 C1 C2 C3 C4 P0 T0 t0 hwl hlt2 hlt2'
      rcases nameIx_spec (D y) (S k) with ⟨h1, h2⟩ | ⟨i, h1, h2, h3⟩
      · have HX : Hid (FindAre n D now m S (-1)) := findAre_no (fun g => (HIN.out.2.stuck g.1 h2 hlt) g.2.2)
        have HN : Hid (RefsIn w (some ⟨b, off, none⟩) n c now nq.val) := hN
        rw [h1]
        clear h1 h2 hN
        go_wp2
        go_ret
        exact ⟨HN.out.bel, -1, rfl, HX.out⟩
      · have hdir := dir_of_names (HG.out.nodes y hyn) (by omega)
        have hik : i < (D y).kn := by omega
        have hst := HIN.out.2.step h2 h3
        have hkid := kids_in HG.out.nodes y hyn i hik
        obtain ⟨z, hz⟩ : ∃ z : Nat, (D y).kids i = z := ⟨((D y).kids i).toNat, by omega⟩
        obtain ⟨b2, off2, ha2, hlt3, hc2⟩ := (hS.below (Nat.le_refl _) hN.bel).at hyn
        cases ha2
        obtain ⟨_, _, _, c3, _, hI2⟩ := hc2 y hyn
        obtain ⟨b3, off3, ha3, hlt4, hc3⟩ := hI2.2.at hik
        have z0 := hc3 i hik
        rw [hz] at z0
        rw [ha3] at c3
        have t0 : nq.val.cell? ⟨w.heap.size, 0, none⟩ = some (.slice (some ⟨b, off, none⟩) n c) := hN.t.cell 0
        have hii : (i : Int) < ((D y).kn : Int) := by omega
        have hkn := (hf y hyn).kn
        unfold maxLen at hkn
        have HN : Hid (RefsIn w (some ⟨b, off, none⟩) n c now nq.val ∧ Leads D S (k + 1) z) := ⟨hN, by have e : ((D y).kids i).toNat = z := (by rw [hz]; rfl); rw [e] at hst; exact hst⟩
        rw [h1]
        clear h1 h2 h3 hN hdir hst hkid hz hc2 hc3 hI2 ha3 HIN
        go_wp2
        go_roundw
        case rel => exact ⟨k + 1, z, by omega, by go_num, rfl, HN.out.1, HN.out.2⟩
        case measure => simp [intOf]; omega
    · have hke : k = m := by omega
      have HX : Hid (FindAre n D now m S y ∧ Below w.heap.size w wr) := ⟨findAre_end HG.out HP.out (hke ▸ hl), hin.bel⟩
      clear hke hin hl
      go_wp2
      go_ret
      exact ⟨HX.out.2, _, rfl, HX.out.1⟩

set_option maxHeartbeats 2000000 in
theorem specTreeFind_any (a : Option Addr) (n c : Nat) (now : Int) (D : Nat → Nd) (L : Nat → Loc) (pa : Option Addr) (m pc : Nat) (S : Nat → ByteArray) (w : World) (hS : IsNds w a n D L) (hP : IsStrs w pa m S) (hf : FitAll n D) (hn : n ≤ maxLen) (hsz : sizeTo D n ≤ 1048576) (hm : m ≤ maxLen) (hsm : Small m S) :
    Calls Tryz.prog 29 #[trV a n c now, .slice pa m pc] w fun e w' => Below w.heap.size w w' ∧ ∃ r, e = .returned (.int .i64 r) ∧ FindAre n D now m S r := by
  unfold trV
  go_enter Tryz.func29, Tryz.ntmps29
  go_wp2_with fail
  refine at_world (F := New1 w _ _) (new1 w _ _) ?_
  rintro W ⟨hp, hb, hs⟩
  refine (specTreeOk_any a n c now D L W (hS.below (Nat.le_refl _) hb) hf hn hsz).mono ?_
  rintro e w1 ⟨hb1, r, rfl, hr⟩
  have hp1 := hp.below hb1 (by omega)
  have p0 : w1.cell? ⟨w.heap.size, 0, none⟩ = some (.slice a n c) := hp1.cell 0
  have p1 : w1.cell? ⟨w.heap.size, 1, none⟩ = some (.int .i64 now) := hp1.cell 1
  have HB : Hid (Below w.heap.size w w1 ∧ (r = true ↔ TreeGood n D now)) := ⟨hb.trans (hb1.mono (by omega)), hr⟩
  clear hp hb hs hb1 hp1 hr
  cases r with
  | false =>
    have HN : Hid (FindAre n D now m S (-1)) := findAre_no (fun g => by have := HB.out.2.2 g.1; cases this)
    go_wp2_with fail
    go_ret
    exact ⟨HB.out.1, -1, rfl, HN.out⟩
  | true =>
    have HG : Hid (TreeGood n D now) := HB.out.2.1 rfl
    go_wp2_with fail
    refine (specPathOk_any pa m pc S w1 (hP.below (Nat.le_refl _) HB.out.1) hsm hm).mono ?_
    rintro e w2 ⟨rfl, rfl⟩
    cases hpo : pathOk m S with
    | false =>
      have HN : Hid (FindAre n D now m S (-1)) := findAre_no (fun g => by have := g.2.1; rw [hpo] at this; cases this)
      clear hpo
      go_wp2_with fail
      go_ret
      exact ⟨HB.out.1, -1, rfl, HN.out⟩
    | true =>
      have HP : Hid (pathOk m S = true) := hpo
      clear hpo
      go_wp2_with fail
      refine (l2Find_any a n c now D L pa m pc S w2 (hS.below (Nat.le_refl _) HB.out.1) (hP.below (Nat.le_refl _) HB.out.1) hf hn hm HG.out HP.out).mono ?_
      rintro e w3 ⟨hb3, r, rfl, hr⟩
      have HE : Hid (Below w.heap.size w w3 ∧ FindAre n D now m S r) := ⟨HB.out.1.trans (hb3.mono HB.out.1.size), hr⟩
      clear hb3 hr
      go_wp2_with fail
      go_ret
      exact ⟨HE.out.1, r, rfl, HE.out.2⟩
end Go.Proofs.YtakifcobofkheabGreatDoor

/-
  What BackPick of the specification answers.
-/
namespace Go.Proofs.YtakifcobofkheabGreatDoor
open Go.RowKit Go.Deep
set_option linter.unusedVariables false
set_option linter.unusedSimpArgs false
set_option linter.unnecessarySimpa false

/-- The result's block, and the tree's. -/
structure Pk (w : World) (t : Tr) (lt : TLoc) (V : Nat) (W : World) : Prop where
  r : Blk W w.heap.size #[.int .i64 0, .string ByteArray.empty, .slice none 0 0, .slice none 0 0, .int .i64 0] 28
  v : Blk W V (tC t lt) 44
  own : OwnTr W (w.heap.size + 1) t lt
  bel : Below w.heap.size w W
  vl : w.heap.size < V

theorem Pk.below {w : World} {t : Tr} {lt : TLoc} {V : Nat} {W W' : World} (h : Pk w t lt V W) (hb : Below W.heap.size W W') : Pk w t lt V W' := ⟨h.r.below hb h.r.lt, h.v.below hb h.v.lt, h.own.below hb, h.bel.trans (hb.mono h.bel.size), h.vl⟩

theorem blk5p {W : World} {b : Nat} {ty : TypeId} {u0 u1 u2 u3 u4 : Value} (h : Blk W b #[u0, u1, u2, u3, u4] ty) (v0 v1 v2 v3 v4 : Value) : Blk (((((W.setCell ⟨b, 0, none⟩ v0).setCell ⟨b, 1, none⟩ v1).setCell ⟨b, 2, none⟩ v2).setCell ⟨b, 3, none⟩ v3).setCell ⟨b, 4, none⟩ v4) b #[v0, v1, v2, v3, v4] ty := by
  have h0 : Blk _ b #[v0, u1, u2, u3, u4] ty := h.set 0 v0
  have h1 : Blk _ b #[v0, v1, u2, u3, u4] ty := h0.set 1 v1
  have h2 : Blk _ b #[v0, v1, v2, u3, u4] ty := h1.set 2 v2
  have h3 : Blk _ b #[v0, v1, v2, v3, u4] ty := h2.set 3 v3
  have h4 : Blk _ b #[v0, v1, v2, v3, v4] ty := h3.set 4 v4
  exact h4
theorem bel5p {W w : World} {B b : Nat} (h : Below B w W) (hb : B ≤ b) (v0 v1 v2 v3 v4 : Value) : Below B w (((((W.setCell ⟨b, 0, none⟩ v0).setCell ⟨b, 1, none⟩ v1).setCell ⟨b, 2, none⟩ v2).setCell ⟨b, 3, none⟩ v3).setCell ⟨b, 4, none⟩ v4) := bel_put (bel_put (bel_put (bel_put (bel_put h _ hb) _ hb) _ hb) _ hb) _ hb
theorem nd5p {W : World} {B b : Nat} {d : Nd} {l : Loc} (h : OwnNd W B d l) (hb : b < B) (v0 v1 v2 v3 v4 : Value) : OwnNd (((((W.setCell ⟨b, 0, none⟩ v0).setCell ⟨b, 1, none⟩ v1).setCell ⟨b, 2, none⟩ v2).setCell ⟨b, 3, none⟩ v3).setCell ⟨b, 4, none⟩ v4) B d l := ((((h.put v0 hb).put v1 hb).put v2 hb).put v3 hb).put v4 hb

/-- It ends with nothing, or with a place. -/
theorem Pk.fin {w : World} {t : Tr} {lt : TLoc} {V : Nat} {W : World} (h : Pk w t lt V W) {m : Nat} {S : Nat → ByteArray} {z : Int} {q : Nd × Bool} {lq : Loc} (hq : PickIs t z m S q) (ho : OwnNd W (w.heap.size + 1) q.1 lq) (U : World) (hU : U = (((((W.setCell ⟨w.heap.size, 0, none⟩ (.int .i64 q.1.kind)).setCell ⟨w.heap.size, 1, none⟩ (.string q.1.text)).setCell ⟨w.heap.size, 2, none⟩ (.slice lq.nA q.1.nn lq.nc)).setCell ⟨w.heap.size, 3, none⟩ (.slice lq.kA q.1.kn lq.kc)).setCell ⟨w.heap.size, 4, none⟩ (.int .i64 q.1.turn))) :
    Blk U w.heap.size #[.int .i64 q.1.kind, .string q.1.text, .slice lq.nA q.1.nn lq.nc, .slice lq.kA q.1.kn lq.kc, .int .i64 q.1.turn] 28 ∧ PickPost w (t, z) m S (.returned (.tuple #[.agg #[.int .i64 q.1.kind, .string q.1.text, .slice lq.nA q.1.nn lq.nc, .slice lq.kA q.1.kn lq.kc, .int .i64 q.1.turn], .bool q.2])) U := by
  subst hU
  exact ⟨blk5p h.r _ _ _ _ _, bel5p h.bel (Nat.le_refl _) _ _ _ _ _, q, lq, hq, rfl, (nd5p ho (by omega) _ _ _ _ _).lower (by omega)⟩

set_option maxRecDepth 100000 in
set_option maxHeartbeats 8000000 in
theorem specBackPick_any (a : Option Addr) (n c : Nat) (D : Nat → Dp) (L : Nat → DLoc) (pa : Option Addr) (m pc : Nat) (S : Nat → ByteArray) (w : World) (hS : IsDps w a n D L) (hP : IsStrs w pa m S) (hf : FitDps n D) (hn : n ≤ maxLen) (hs : recsTo D n ≤ 1048576) (hm : m ≤ maxLen) (hsm : Small m S) :
    Calls Tryz.prog 7 #[.slice a n c, .slice pa m pc] w (PickPost w (allAns n D) m S) := by
  have HSM : Hid (SmTr (allAns n D).1) := allAns_small hf hs
  go_enter Tryz.func7, Tryz.ntmps7
  go_wp2_with fail
  refine at_world (F := New1 w #[.int .i64 0, .string ByteArray.empty, .slice none 0 0, .slice none 0 0, .int .i64 0] 28) (new1 w _ _) ?_
  rintro W ⟨hr, hb, hsz⟩
  refine (specBackAll_any a n c D L W (hS.below (Nat.le_refl _) hb) hf hn hs).mono ?_
  generalize hrz : allAns n D = rz
  rw [hrz] at HSM
  obtain ⟨t, z⟩ := rz
  have HRZ : Hid (allAns n D = (t, z)) := hrz
  replace HSM : Hid (SmTr t) := HSM
  clear hrz
  rintro e w1 ⟨hb1, lt, rfl, hot⟩
  unfold tV
  have hs1 : w.heap.size + 1 ≤ W.heap.size := by omega
  have hs2 : W.heap.size ≤ w1.heap.size := hb1.size
  have H1 : Hid (Blk w1 w.heap.size #[.int .i64 0, .string ByteArray.empty, .slice none 0 0, .slice none 0 0, .int .i64 0] 28 ∧ Below w.heap.size w w1 ∧ OwnTr w1 (w.heap.size + 1) t lt) := ⟨hr.below hb1 (by omega), hb.trans (hb1.mono (by omega)), hot.lower hs1⟩
  have HV : Hid (∀ U, U = w1.alloc (.cells (tC t lt) 44) → Pk w t lt w1.heap.size U ∧ w1.heap.size < U.heap.size) := fun U e => by
    obtain ⟨h0, hbn, _⟩ := new1 w1 (tC t lt) 44
    rw [← e] at h0 hbn
    exact ⟨⟨H1.out.1.below hbn H1.out.1.lt, h0, H1.out.2.2.below hbn, H1.out.2.1.trans (hbn.mono H1.out.2.1.size), by omega⟩, h0.lt⟩
  clear hr hb hb1 hot hsz
  dsimp only
  go_wp2_with fail
  refine at_world (F := fun U => Pk w t lt w1.heap.size U ∧ w1.heap.size < U.heap.size) (HV.out _ rfl) ?_
  clear HV H1
  generalize w1.heap.size = V at *
  rintro W2 ⟨hk2, hl2⟩
  refine (specTreeFind_any lt.a t.n lt.c t.now t.D lt.L pa m pc S W2 hk2.own.tIn (hP.below (Nat.le_refl _) hk2.bel) HSM.out.fits.nds HSM.out.fits.n (by have := HSM.out.size; unfold Tr.size at this; omega) hm hsm).mono ?_
  rintro e w3 ⟨hb3, r, rfl, hfa⟩
  have H3 : Hid (Pk w t lt V w3) := hk2.below hb3
  have HFA : Hid (FindAre t.n t.D t.now m S r) := hfa
  clear hk2 hl2 hb3 hfa
  by_cases hz : z = 0
  · have hzb : (z != 0) = false := by simp [hz]
    have HZ : Hid (z = 0) := hz
    clear hz
    rcases find_cases HFA.out with ⟨x, rfl, hx⟩ | rfl
    · have hxb : decide ((x : Int) < 0) = false := by simp
      have hxi : (x : Int) < (t.n : Int) := by omega
      have HQ : Hid (PickIs t z m S (t.D x, true)) := Or.inl ⟨x, HZ.out, hx, HFA.out, rfl⟩
      obtain ⟨v0, v1⟩ := tC_cells H3.out.v
      obtain ⟨b, off, hla, hbl, hc⟩ := (OwnTr.tIn H3.out.own).at hx
      obtain ⟨c0, c1, c2, c3, c4, hI⟩ := hc x hx
      have hnk := HSM.out.nds x hx
      have HI : Hid (NdIn w3 (t.D x) (lt.L x)) := hI
      rw [hla] at v0
      clear hc hI hla
      go_wp2_with fail
      refine (l2Copy_any (t.D x) (lt.L x) w3 HI.out (by omega) (by omega)).mono ?_
      rintro e w4 ⟨lx, rfl, hN⟩
      unfold ndV
      have H4 : Hid (Pk w t lt V w4 ∧ OwnNd w4 (w.heap.size + 1) (t.D x) lx) := ⟨H3.out.below hN.bel, (OwnNd.mk hN.new.names hN.new.kids hN.new.apart).lower (by have := H3.out.r.lt; omega)⟩
      clear hN H3 HI c0 c1 c2 c3 c4 v0 v1 hnk
      have r0 : w4.cell? ⟨w.heap.size, 0, none⟩ = some (.int .i64 0) := H4.out.1.r.cell 0
      have r1 : w4.cell? ⟨w.heap.size, 1, none⟩ = some (.string ByteArray.empty) := H4.out.1.r.cell 1
      have r2 : w4.cell? ⟨w.heap.size, 2, none⟩ = some (.slice none 0 0) := H4.out.1.r.cell 2
      have r3 : w4.cell? ⟨w.heap.size, 3, none⟩ = some (.slice none 0 0) := H4.out.1.r.cell 3
      have r4 : w4.cell? ⟨w.heap.size, 4, none⟩ = some (.int .i64 0) := H4.out.1.r.cell 4
      have g0 := H4.out.1.r.frozen 0
      have g1 := H4.out.1.r.frozen 1
      have g2 := H4.out.1.r.frozen 2
      have g3 := H4.out.1.r.frozen 3
      have g4 := H4.out.1.r.frozen 4
      have HE : Hid _ := H4.out.1.fin HQ.out (lq := lx) H4.out.2 _ rfl
      go_wp2_with fail
      refine end_world (F := fun U => Blk U w.heap.size #[.int .i64 (t.D x).kind, .string (t.D x).text, .slice lx.nA (t.D x).nn lx.nc, .slice lx.kA (t.D x).kn lx.kc, .int .i64 (t.D x).turn] 28 ∧ PickPost w (t, z) m S (.returned (.tuple #[.agg #[.int .i64 (t.D x).kind, .string (t.D x).text, .slice lx.nA (t.D x).nn lx.nc, .slice lx.kA (t.D x).kn lx.kc, .int .i64 (t.D x).turn], .bool true])) U) HE.out ?_
      clear HE r0 r1 r2 r3 r4 g0 g1 g2 g3 g4
      rintro U ⟨hr, hE⟩
      have e0 : U.cell? ⟨w.heap.size, 0, none⟩ = some (.int .i64 (t.D x).kind) := hr.cell 0
      have e1 : U.cell? ⟨w.heap.size, 1, none⟩ = some (.string (t.D x).text) := hr.cell 1
      have e2 : U.cell? ⟨w.heap.size, 2, none⟩ = some (.slice lx.nA (t.D x).nn lx.nc) := hr.cell 2
      have e3 : U.cell? ⟨w.heap.size, 3, none⟩ = some (.slice lx.kA (t.D x).kn lx.kc) := hr.cell 3
      have e4 : U.cell? ⟨w.heap.size, 4, none⟩ = some (.int .i64 (t.D x).turn) := hr.cell 4
      exact bodyPost_ret (v := .tuple #[.agg #[.int .i64 (t.D x).kind, .string (t.D x).text, .slice lx.nA (t.D x).nn lx.nc, .slice lx.kA (t.D x).kn lx.kc, .int .i64 (t.D x).turn], .bool true]) (by simp [results, Tryz.results7, go_sem, e0, e1, e2, e3, e4]) rfl (by rw [HRZ.out]; exact hE)
    · have HQ : Hid (PickIs t z m S (ndZero, false)) := Or.inr ⟨Or.inr HFA.out, rfl⟩
      have r0 : w3.cell? ⟨w.heap.size, 0, none⟩ = some (.int .i64 0) := H3.out.r.cell 0
      have r1 : w3.cell? ⟨w.heap.size, 1, none⟩ = some (.string ByteArray.empty) := H3.out.r.cell 1
      have r2 : w3.cell? ⟨w.heap.size, 2, none⟩ = some (.slice none 0 0) := H3.out.r.cell 2
      have r3 : w3.cell? ⟨w.heap.size, 3, none⟩ = some (.slice none 0 0) := H3.out.r.cell 3
      have r4 : w3.cell? ⟨w.heap.size, 4, none⟩ = some (.int .i64 0) := H3.out.r.cell 4
      have g0 := H3.out.r.frozen 0
      have g1 := H3.out.r.frozen 1
      have g2 := H3.out.r.frozen 2
      have g3 := H3.out.r.frozen 3
      have g4 := H3.out.r.frozen 4
      have HE : Hid _ := H3.out.fin HQ.out (lq := ⟨none, 0, none, 0⟩) (ownNd_zero _ _) _ rfl
      go_wp2_with fail
      refine end_world (F := fun U => Blk U w.heap.size #[.int .i64 0, .string ByteArray.empty, .slice none 0 0, .slice none 0 0, .int .i64 0] 28 ∧ PickPost w (t, z) m S (.returned (.tuple #[.agg #[.int .i64 0, .string ByteArray.empty, .slice none 0 0, .slice none 0 0, .int .i64 0], .bool false])) U) HE.out ?_
      clear HE r0 r1 r2 r3 r4 g0 g1 g2 g3 g4
      rintro U ⟨hr, hE⟩
      have e0 : U.cell? ⟨w.heap.size, 0, none⟩ = some (.int .i64 0) := hr.cell 0
      have e1 : U.cell? ⟨w.heap.size, 1, none⟩ = some (.string ByteArray.empty) := hr.cell 1
      have e2 : U.cell? ⟨w.heap.size, 2, none⟩ = some (.slice none 0 0) := hr.cell 2
      have e3 : U.cell? ⟨w.heap.size, 3, none⟩ = some (.slice none 0 0) := hr.cell 3
      have e4 : U.cell? ⟨w.heap.size, 4, none⟩ = some (.int .i64 0) := hr.cell 4
      exact bodyPost_ret (v := .tuple #[.agg #[.int .i64 0, .string ByteArray.empty, .slice none 0 0, .slice none 0 0, .int .i64 0], .bool false]) (by simp [results, Tryz.results7, go_sem, e0, e1, e2, e3, e4]) rfl (by rw [HRZ.out]; exact hE)
  · have hzb : (z != 0) = true := by simp [hz]
    have HQ : Hid (PickIs t z m S (ndZero, false)) := Or.inr ⟨Or.inl hz, rfl⟩
    clear hz
    have r0 : w3.cell? ⟨w.heap.size, 0, none⟩ = some (.int .i64 0) := H3.out.r.cell 0
    have r1 : w3.cell? ⟨w.heap.size, 1, none⟩ = some (.string ByteArray.empty) := H3.out.r.cell 1
    have r2 : w3.cell? ⟨w.heap.size, 2, none⟩ = some (.slice none 0 0) := H3.out.r.cell 2
    have r3 : w3.cell? ⟨w.heap.size, 3, none⟩ = some (.slice none 0 0) := H3.out.r.cell 3
    have r4 : w3.cell? ⟨w.heap.size, 4, none⟩ = some (.int .i64 0) := H3.out.r.cell 4
    have g0 := H3.out.r.frozen 0
    have g1 := H3.out.r.frozen 1
    have g2 := H3.out.r.frozen 2
    have g3 := H3.out.r.frozen 3
    have g4 := H3.out.r.frozen 4
    have HE : Hid _ := H3.out.fin HQ.out (lq := ⟨none, 0, none, 0⟩) (ownNd_zero _ _) _ rfl
    go_wp2_with fail
    refine end_world (F := fun U => Blk U w.heap.size #[.int .i64 0, .string ByteArray.empty, .slice none 0 0, .slice none 0 0, .int .i64 0] 28 ∧ PickPost w (t, z) m S (.returned (.tuple #[.agg #[.int .i64 0, .string ByteArray.empty, .slice none 0 0, .slice none 0 0, .int .i64 0], .bool false])) U) HE.out ?_
    clear HE r0 r1 r2 r3 r4 g0 g1 g2 g3 g4
    rintro U ⟨hr, hE⟩
    have e0 : U.cell? ⟨w.heap.size, 0, none⟩ = some (.int .i64 0) := hr.cell 0
    have e1 : U.cell? ⟨w.heap.size, 1, none⟩ = some (.string ByteArray.empty) := hr.cell 1
    have e2 : U.cell? ⟨w.heap.size, 2, none⟩ = some (.slice none 0 0) := hr.cell 2
    have e3 : U.cell? ⟨w.heap.size, 3, none⟩ = some (.slice none 0 0) := hr.cell 3
    have e4 : U.cell? ⟨w.heap.size, 4, none⟩ = some (.int .i64 0) := hr.cell 4
    exact bodyPost_ret (v := .tuple #[.agg #[.int .i64 0, .string ByteArray.empty, .slice none 0 0, .slice none 0 0, .int .i64 0], .bool false]) (by simp [results, Tryz.results7, go_sem, e0, e1, e2, e3, e4]) rfl (by rw [HRZ.out]; exact hE)
end Go.Proofs.YtakifcobofkheabGreatDoor
