/-
  Texts that the proof needs, laid one behind the other.
-/
import Derived.Test.YtakifcobofkheabGreatDoorCardBackPickB2
import Derived.Maps.Own
import Derived.Maps.OwnOps
import Derived.Maps.OwnSet
import Derived.Maps.Views
import Derived.RangeFuncNested
import Derived.RangeFuncBound
import Derived.RangeFuncCalls
import Derived.RangeFuncLeaves
import Derived.Shelf.Abstract
import Derived.Shelf.RegionOpen
import Derived.WalkKit
import Derived.OwnWalkIn
import Derived.TacticsInMore
import Derived.LoopNIn
import Derived.LoopIn
import Derived.OrdersIn
import Derived.Lib.BufferMore
import Derived.BigRegion
import Derived.Laws.Shifts

/-
  What learnItems of the program does to a map of places.
-/
namespace Go.Proofs.YtakifcobofkheabGreatDoor
open Go.RowKit Go.Maps Go.WideMaps Go.Deep
set_option linter.unusedVariables false
set_option linter.unusedSimpArgs false

/-- A place in a map reads as itself. -/
def heldR (v : Value) : Option (DataW Value × List MemPlace) := some (.held v, [])

/-- What a map knows, by numbers of places. -/
structure Knows (M : DataW Value) (f : Int → Option Value) : Prop where
  isMap : IsMap M
  has : ∀ z, Maps.has M (.int .i64 z) = (f z).isSome
  at_ : ∀ z v, f z = some v → ∀ d, M.atKey (.int .i64 z) d = .held v

theorem knows_start : Knows (.map []) (fun _ => none) := ⟨isMap_empty, fun z => by simp [Maps.has], fun z v h => by cases h⟩

theorem Knows.put {M : DataW Value} {f : Int → Option Value} (h : Knows M f) (z : Int) (v : Value) : Knows (M.put (.int .i64 z) (.held v)) (fun y => if y = z then some v else f y) := by
  refine ⟨h.isMap.put _ _, fun y => ?_, fun y u hy d => ?_⟩
  · by_cases e : y = z
    · subst e
      rw [has_put_same h.isMap (show WideAt.IsKeyLit (Lit.int .i64 y) from trivial)]
      simp
    · rw [has_put_other (fun e' => e (by simpa using e')), h.has y]
      simp [e]
  · by_cases e : y = z
    · subst e
      have hu : v = u := by simpa using hy
      subst hu
      exact atKey_put_same h.isMap (show WideAt.IsKeyLit (Lit.int .i64 y) from trivial) _ _
    · rw [atKey_put_other (fun e' => e (by simpa using e'))]
      exact h.at_ y u (by simpa [e] using hy) d

/-- What is known behind the first k that were turned. -/
def learn (f : Int → Option Value) (O : Nat → Int) (E : Nat → Nd) (L : Nat → Loc) : Nat → Int → Option Value
  | 0 => f
  | k + 1 => fun y => if y = O k then some (ndV (E k) (L k)) else learn f O E L k y

theorem grown_tr {A C E : World} {g : Nat} (h1 : A.grownBy C (some g)) (h2 : C.grownBy E (some g)) : A.grownBy E (some g) := ⟨h2.os.trans h1.os, h2.tape.trans h1.tape, h2.output.trans h1.output, Nat.le_trans h1.size h2.size, fun b hb hne => (h2.block b (Nat.lt_of_lt_of_le hb h1.size) hne).trans (h1.block b hb hne)⟩

theorem grown_below {A C : World} {g : Nat} (h : Below A.heap.size A C) : A.grownBy C (some g) := ⟨h.os, h.tape, h.output, h.size, fun b hb _ => h.block b hb⟩

/-- A cell is kept where a map turns. -/
theorem map_cell {w W : World} {b : Nat} {p : Addr} {v : Value} {P : Program} {k : TypeId} {R : Value → Option (DataW Value × List MemPlace)} {n : Nat} {M : DataW Value} (ho : w.ownsMap P k R b n M) (hg : w.grownBy W (some b)) (h : w.cell? p = some v) (hp : p.block < w.heap.size) : W.cell? p = some v := by
  obtain ⟨es, clock, hb, _⟩ := ho
  have hne : p.block ≠ b := fun e => by
    unfold World.cell? at h
    rw [e, hb] at h
    cases h
  exact (World.cell?_of_block (hg.block p.block hp (fun e => hne (by simpa using e)))).trans h

set_option maxHeartbeats 1000000 in
theorem learnItems_any (b n0 : Nat) (M0 : DataW Value) (f : Int → Option Value) (a : Option Addr) (m c : Nat) (O : Nat → Int) (E : Nat → Nd) (L : Nat → Loc) (w : World) (hI : IsIts w a m O E L) (hO : ∀ i, i < m → In64 (O i)) (hm : n0 + m ≤ 1000) (hown : w.ownsMap Tryz.prog 3 heldR b n0 M0) (hK : Knows M0 f) :
    Calls Tryz.prog 98 #[.map (some b), .slice a m c] w fun e w' => (∃ v, e = .returned v) ∧ w.grownBy w' (some b) ∧ ∃ M, w'.ownsMap Tryz.prog 3 heldR b (n0 + m) M ∧ Knows M (learn f O E L m) := by
  go_enter Tryz.func98, Tryz.ntmps98
  go_wp2
  go_loopw [8] (fun i wr => ∃ k : Nat, k ≤ m ∧ i = .int .i64 k ∧ w.grownBy wr (some b) ∧ ∃ M, wr.ownsMap Tryz.prog 3 heldR b (n0 + k) M ∧ Knows M (learn f O E L k)) (fun i _ => m - (intOf i).toNat)
  case atStart => exact ⟨0, Nat.zero_le _, rfl, grown_below (Below.refl _ _), M0, hown, hK⟩
  case round =>
    obtain ⟨k, hk, rfl, hg, M, ho, hkn⟩ := hrel
    by_cases hlt : k < m
    · obtain ⟨b1, off, hA, hbl, hc⟩ := hI.at hlt
      obtain ⟨e0, e1, e2, e3, e4, e5, _⟩ := hc k hlt
      have c0 := map_cell hown hg e0 hbl
      have c1 := map_cell hown hg e1 hbl
      have c2 := map_cell hown hg e2 hbl
      have c3 := map_cell hown hg e3 hbl
      have c4 := map_cell hown hg e4 hbl
      have c5 := map_cell hown hg e5 hbl
      have hlti : (k : Int) < (m : Int) := by omega
      have hbl2 : b1 < wr.heap.size := Nat.lt_of_lt_of_le hbl hg.size
      have hbne : b1 ≠ wr.heap.size := by omega
      have HA : Hid (a = some ⟨b1, off, none⟩) := hA
      have HX : Hid (w.grownBy wr (some b) ∧ wr.ownsMap Tryz.prog 3 heldR b (n0 + k) M ∧ Knows M (learn f O E L k)) := ⟨hg, ho, hkn⟩
      have hwf : (Lit.int .i64 (O k)).wf = true := by
        have := hO k hlt
        unfold In64 at this
        exact WalkArith.wf_i64 (by omega)
      have hkey : keyOf Tryz.prog 3 (.int .i64 (O k)) = some (.int .i64 (O k)) := keyOf_int_mk Tryz.underlying3 hwf
      have hmo := HX.out.2.1.alloc (.cells #[.int .i64 (O k), .int .i64 (E k).kind, .string (E k).text, .slice (L k).nA (E k).nn (L k).nc, .slice (L k).kA (E k).kn (L k).kc, .int .i64 (E k).turn] 100)
      clear hown hK hI
      rw [hA]
      clear hc hA e0 e1 e2 e3 e4 e5 hg ho hkn
      go_wp2_with (at_mapUpdate; refine wpList_mapUpdate_own _ rfl _ _ _ 142 rfl 3 28 (int_keyed Tryz.underlying3) Tryz.underlying142 heldR b (n0 + k) M rfl hmo (by unfold maxLen; omega) _ _ _ rfl rfl hkey (.held (ndV (E k) (L k))) [] rfl ?_)
      intro w1 hown1 hgrow1
      have HN : Hid (w.grownBy w1 (some b) ∧ w1.ownsMap Tryz.prog 3 heldR b (n0 + (k + 1)) (M.put (.int .i64 (O k)) (.held (ndV (E k) (L k)))) ∧ Knows (M.put (.int .i64 (O k)) (.held (ndV (E k) (L k)))) (learn f O E L (k + 1))) := ⟨grown_tr (grown_tr HX.out.1 (grown_below ((Below.refl _ _).alloc (Nat.le_refl _) _))) hgrow1, hown1, HX.out.2.2.put _ _⟩
      clear hown1 hgrow1 hmo c0 c1 c2 c3 c4 c5
      go_wp2
      go_roundw
      case rel => exact ⟨k + 1, by omega, by go_num, HN.out.1, _, HN.out.2.1, HN.out.2.2⟩
      case measure => simp [intOf]; omega
    · have hke : k = m := by omega
      subst hke
      have HX : Hid (w.grownBy wr (some b) ∧ ∃ M, wr.ownsMap Tryz.prog 3 heldR b (n0 + k) M ∧ Knows M (learn f O E L k)) := ⟨hg, M, ho, hkn⟩
      clear hg ho hkn hown hK hI
      go_wp2
      refine bodyPost_end (results_none rfl _ _ _) rfl ?_
      exact ⟨⟨_, rfl⟩, HX.out.1, HX.out.2⟩
end Go.Proofs.YtakifcobofkheabGreatDoor

/-
  What slices.Equal answers at two lists of texts; it turns no memory.
-/
namespace Go.Proofs.YtakifcobofkheabGreatDoor
open Go.RowKit
set_option linter.unusedVariables false

set_option maxHeartbeats 400000 in
theorem slicesEqual_any (a a' : Option Addr) (n c m c' : Nat) (S T : Nat → ByteArray) (w : World) (hS : IsStrs w a n S) (hT : IsStrs w a' m T) (hn : n ≤ maxLen) (hm : m ≤ maxLen) :
    Calls Tryz.prog 119 #[.slice a n c, .slice a' m c'] w fun e w' => (∃ q, w' = w.drewN q) ∧ e = .returned (.bool (decide (n = m) && eqS n S T)) := by
  unfold maxLen at hn hm
  by_cases hne : n = m
  · subst hne
    have hb : ((n : Int) != (n : Int)) = false := by simp
    go_enter Tryz.func119, Tryz.ntmps119
    go_wp2
    go_loopw [13] (fun i wr => ∃ k q : Nat, k ≤ n ∧ i = .int .i64 k ∧ wr = w.drewN q ∧ eqS k S T = true) (fun i _ => n - (intOf i).toNat)
    case atStart => exact ⟨0, 0, Nat.zero_le _, rfl, rfl, rfl⟩
    case round =>
      obtain ⟨k, q, hk, rfl, rfl, heq⟩ := hrel
      have HE : Hid (eqS k S T = true) := heq
      clear heq
      by_cases hlt : k < n
      · obtain ⟨b, off, rfl, hlt2, hc⟩ := hS.at hlt
        obtain ⟨b', off', rfl, hlt2', hc'⟩ := hT.at hlt
        have h1 := hc k hlt
        have h2 := hc' k hlt
        have hlti : (k : Int) < (n : Int) := by omega
        clear hc hc'
        go_wp2
        go_quiet (fail)
        go_wp2
        · go_ret
          exact ⟨⟨q + nq, by simp⟩, ret_bool (by rw [← eqS_not n k S T hlt ‹_›]; simp)⟩
        · go_roundw
          case rel => exact ⟨k + 1, q + nq, by omega, by go_num, rfl, eqS_succ k S T HE.out ‹_›⟩
          case measure => simp [intOf]; omega
      · have hkn : k = n := by omega
        have HK : Hid (k = n) := hkn
        clear hkn
        go_wp2
        go_ret
        exact ⟨⟨q, rfl⟩, ret_bool (by rw [← HK.out, HE.out]; simp)⟩
  · have hb : ((n : Int) != (m : Int)) = true := by simp; omega
    go_enter Tryz.func119, Tryz.ntmps119
    go_wp2
    go_ret
    exact ⟨⟨0, rfl⟩, ret_bool (by simp [hne])⟩
end Go.Proofs.YtakifcobofkheabGreatDoor

/-
  What NodeSame of the program answers at two places, and slices.Equal at two lists of numbers.
-/
namespace Go.Proofs.YtakifcobofkheabGreatDoor
open Go.RowKit
set_option linter.unusedVariables false

set_option maxHeartbeats 400000 in
theorem intsEqual_any (a a' : Option Addr) (n c m c' : Nat) (Z Y : Nat → Int) (w : World) (hS : IsInts w a n Z) (hT : IsInts w a' m Y) (hn : n ≤ maxLen) (hm : m ≤ maxLen) :
    Calls Tryz.prog 120 #[.slice a n c, .slice a' m c'] w fun e w' => (∃ q, w' = w.drewN q) ∧ e = .returned (.bool (decide (n = m) && eqZ n Z Y)) := by
  unfold maxLen at hn hm
  by_cases hne : n = m
  · subst hne
    have hb : ((n : Int) != (n : Int)) = false := by simp
    go_enter Tryz.func120, Tryz.ntmps120
    go_wp2
    go_loopw [13] (fun i wr => ∃ k q : Nat, k ≤ n ∧ i = .int .i64 k ∧ wr = w.drewN q ∧ eqZ k Z Y = true) (fun i _ => n - (intOf i).toNat)
    case atStart => exact ⟨0, 0, Nat.zero_le _, rfl, rfl, rfl⟩
    case round =>
      obtain ⟨k, q, hk, rfl, rfl, heq⟩ := hrel
      have HE : Hid (eqZ k Z Y = true) := heq
      clear heq
      by_cases hlt : k < n
      · obtain ⟨b, off, rfl, hlt2, hc⟩ := hS.at hlt
        obtain ⟨b', off', rfl, hlt2', hc'⟩ := hT.at hlt
        have h1 := hc k hlt
        have h2 := hc' k hlt
        have hlti : (k : Int) < (n : Int) := by omega
        clear hc hc'
        by_cases hzy : Z k = Y k
        · have hzb : (Z k != Y k) = false := by simp [hzy]
          have HZ : Hid (Z k = Y k) := hzy
          clear hzy
          go_wp2
          go_quiet (fail)
          go_wp2
          go_roundw
          case rel => exact ⟨k + 1, q + nq, by omega, by go_num, rfl, eqZ_succ k Z Y HE.out HZ.out⟩
          case measure => simp [intOf]; omega
        · have hzb : (Z k != Y k) = true := by simp [hzy]
          have HZ : Hid (¬ Z k = Y k) := hzy
          clear hzy
          go_wp2
          go_quiet (fail)
          go_wp2
          go_ret
          exact ⟨⟨q + nq, by simp⟩, ret_bool (by rw [← eqZ_not n k Z Y hlt HZ.out]; simp)⟩
      · have hkn : k = n := by omega
        have HK : Hid (k = n) := hkn
        clear hkn
        go_wp2
        go_ret
        exact ⟨⟨q, rfl⟩, ret_bool (by rw [← HK.out, HE.out]; simp)⟩
  · have hb : ((n : Int) != (m : Int)) = true := by simp; omega
    go_enter Tryz.func120, Tryz.ntmps120
    go_wp2
    go_ret
    exact ⟨⟨0, rfl⟩, ret_bool (by simp [hne])⟩

set_option maxHeartbeats 1000000 in
theorem implNodeSame_any (d d' : Nd) (l l' : Loc) (w : World) (hI : NdIn w d l) (hI' : NdIn w d' l') (hf : d.Fits) (hf' : d'.Fits) :
    Calls Tryz.prog 100 #[ndV d l, ndV d' l'] w fun e w' => Below w.heap.size w w' ∧ e = .returned (.bool (d.same d')) := by
  have hn := hf.nn
  have hn' := hf'.nn
  have hk := hf.kn
  have hk' := hf'.kn
  unfold ndV
  cases b1 : (d.kind == d'.kind) with
  | false =>
    have H : Hid (false = d.same d') := same_kind (by simpa using b1)
    go_enter Tryz.func100, Tryz.ntmps100
    go_wp2_with fail
    go_ret
    exact ⟨((Below.refl _ _).alloc (Nat.le_refl _) _).alloc (by simp) _, ret_bool H.out⟩
  | true =>
    cases b2 : (d.text.toList == d'.text.toList) with
    | false =>
      have H : Hid (false = d.same d') := same_text (by rw [b2]; rfl)
      go_enter Tryz.func100, Tryz.ntmps100
      go_wp2_with fail
      go_ret
      exact ⟨((Below.refl _ _).alloc (Nat.le_refl _) _).alloc (by simp) _, ret_bool H.out⟩
    | true =>
      cases b3 : (d.turn == d'.turn) with
      | false =>
        have H : Hid (false = d.same d') := same_turn (by simpa using b3)
        go_enter Tryz.func100, Tryz.ntmps100
        go_wp2_with fail
        go_ret
        exact ⟨((Below.refl _ _).alloc (Nat.le_refl _) _).alloc (by simp) _, ret_bool H.out⟩
      | true =>
        have HK : Hid ((d.kind != d'.kind) = false ∧ (!d.text.toList == d'.text.toList) = false ∧ (d.turn != d'.turn) = false) := ⟨by simpa using b1, by rw [b2]; rfl, by simpa using b3⟩
        go_enter Tryz.func100, Tryz.ntmps100
        go_wp2_with fail
        refine at_world (F := New2 w _ _ _ _) (new2 w _ _ _ _) ?_
        rintro W ⟨hp, hp', hb, hs⟩
        have hI1 := hI.below (Nat.le_refl _) hb
        have hI1' := hI'.below (Nat.le_refl _) hb
        refine (slicesEqual_any l.nA l'.nA d.nn l.nc d'.nn l'.nc d.names d'.names W hI1.1 hI1'.1 hn hn').mono ?_
        rintro e w1 ⟨⟨q, rfl⟩, rfl⟩
        have p3 : W.cell? ⟨w.heap.size, 3, none⟩ = some (.slice l.kA d.kn l.kc) := hp.cell 3
        have q3 : W.cell? ⟨w.heap.size + 1, 3, none⟩ = some (.slice l'.kA d'.kn l'.kc) := hp'.cell 3
        have HI : Hid (IsInts W l.kA d.kn d.kids ∧ IsInts W l'.kA d'.kn d'.kids) := ⟨hI1.2, hI1'.2⟩
        have HB : Hid (Below w.heap.size w W) := hb
        clear hI1 hI1' hI hI' hp hp' hb hs hf hf'
        cases hq1 : (decide (d.nn = d'.nn) && eqS d.nn d.names d'.names) with
        | false =>
          have HQ : Hid ((decide (d.nn = d'.nn) && eqS d.nn d.names d'.names) = false) := hq1
          clear hq1
          go_wp2
          go_ret
          exact ⟨below_drewN HB.out _, ret_bool (same_names HQ.out)⟩
        | true =>
          have HQ : Hid ((decide (d.nn = d'.nn) && eqS d.nn d.names d'.names) = true) := hq1
          clear hq1
          go_wp2_with fail
          refine (intsEqual_any l.kA l'.kA d.kn l.kc d'.kn l'.kc d.kids d'.kids (W.drewN q) (HI.out.1.below (Nat.le_refl _) (below_drewN (Below.refl _ _) _)) (HI.out.2.below (Nat.le_refl _) (below_drewN (Below.refl _ _) _)) hk hk').mono ?_
          rintro e w1 ⟨⟨q', rfl⟩, rfl⟩
          have HZ : Hid ((decide (d.kn = d'.kn) && eqZ d.kn d.kids d'.kids) = d.same d') := by
            show _ = _
            unfold Nd.same
            rw [b1, b2, b3, HQ.out]; simp
          rw [HZ.out]
          go_wp2
          go_ret
          exact ⟨below_drewN HB.out _, rfl⟩
end Go.Proofs.YtakifcobofkheabGreatDoor

/-
  What lettersAlone and NameOk of the program answer at every text; they do not turn the world.
-/
namespace Go.Proofs.YtakifcobofkheabGreatDoor
open Go.RowKit
set_option linter.unusedVariables false

/-- Letters alone. -/
def lettersOk (s : ByteArray) : Bool := s.data.toList.all letter

set_option maxHeartbeats 400000 in
theorem lettersAlone_any (s : ByteArray) (w : World) (hs : s.size ≤ maxLen) :
    Calls Tryz.prog 106 #[.string s] w fun e w' => e = .returned (.bool (lettersOk s)) ∧ w' = w := by
  unfold maxLen at hs
  go_enter Tryz.func106, Tryz.ntmps106
  go_wp2
  go_loop [6] (fun i => ∃ k : Nat, k ≤ s.size ∧ i = .int .i64 k ∧ (s.data.toList.take k).all letter = true) (fun i => s.size - (intOf i).toNat)
  case atStart => exact ⟨0, Nat.zero_le _, rfl, rfl⟩
  case round =>
    obtain ⟨k, hk, rfl, ha⟩ := hrel
    have HA : Hid ((s.data.toList.take k).all letter = true) := ha
    clear ha
    by_cases hlt : k < s.size
    · go_wp2
      · go_ret
        exact ⟨ret_bool (not_all s k hlt (letter_no ‹_›)).symm, rfl⟩
      · go_round
        case rel => exact ⟨k + 1, by omega, by go_num, all_snoc s k hlt HA (letter_yes (by omega) (by omega))⟩
        case measure => simp [intOf]; omega
      · go_ret
        exact ⟨ret_bool (not_all s k hlt (letter_no (Or.inl ‹_›))).symm, rfl⟩
    · go_wp2
      go_ret
      refine ⟨ret_bool ?_, rfl⟩
      have h := HA.out
      rw [List.take_of_length_le (by simp; omega)] at h
      exact h.symm

theorem nameOk_mid (s : ByteArray) (h1 : 1 ≤ s.size) (h4 : s.size ≤ 4) : lettersOk s = nameOk s.data.toList := by
  have e : s.data.toList.length = s.size := by simp
  unfold lettersOk nameOk
  rw [decide_eq_true (show 1 ≤ s.data.toList.length by omega), decide_eq_true (show s.data.toList.length ≤ 4 by omega)]; simp

set_option maxHeartbeats 400000 in
theorem implNameOk_any (s : ByteArray) (w : World) (hs : s.size ≤ maxLen) :
    Calls Tryz.prog 81 #[.string s] w fun e w' => e = .returned (.bool (nameOk s.data.toList)) ∧ w' = w := by
  have hs' := hs
  unfold maxLen at hs'
  by_cases h1 : s.size < 1
  · have hb : decide ((1 : Int) ≤ s.size) = false := by simp; omega
    go_enter Tryz.func81, Tryz.ntmps81
    go_wp2
    go_ret
    exact ⟨ret_bool (nameOk_long s (Or.inl h1)), rfl⟩
  · have hb : decide ((1 : Int) ≤ s.size) = true := by simp; omega
    by_cases h4 : 4 < s.size
    · have hb4 : decide ((s.size : Int) ≤ 4) = false := by simp; omega
      go_enter Tryz.func81, Tryz.ntmps81
      go_wp2
      go_ret
      exact ⟨ret_bool (nameOk_long s (Or.inr h4)), rfl⟩
    · have hb4 : decide ((s.size : Int) ≤ 4) = true := by simp; omega
      go_enter Tryz.func81, Tryz.ntmps81
      go_wp2_with (go_at_call 106; refine (lettersAlone_any _ _ hs).mono ?_; rintro e w' ⟨rfl, rfl⟩)
      go_ret
      exact ⟨ret_bool (nameOk_mid s (by omega) (by omega)), rfl⟩
end Go.Proofs.YtakifcobofkheabGreatDoor

/-
  What the small parts of TreeOk of the program answer: turns, texts, names, places.
-/
namespace Go.Proofs.YtakifcobofkheabGreatDoor
open Go.RowKit
set_option linter.unusedVariables false

theorem less_total : ∀ a b : List UInt8, (!Op.bytesLess a b) = (Op.bytesLess b a || b == a)
  | [], [] => rfl
  | [], b :: y => by simp [Op.bytesLess]
  | a :: x, [] => by simp [Op.bytesLess]
  | a :: x, b :: y => by
    have ih := less_total x y
    simp only [Op.bytesLess]
    have e1 : (b :: y == a :: x) = (b == a && y == x) := by simp [List.cons_beq_cons]
    rw [e1]
    rcases Nat.lt_trichotomy a.toNat b.toNat with h | h | h
    · have h1 : a < b := UInt8.lt_iff_toNat_lt.2 h
      have h2 : ¬ b < a := fun hh => by have := UInt8.lt_iff_toNat_lt.1 hh; omega
      have h3 : (b == a) = false := by simp; intro hh; subst hh; omega
      rw [decide_eq_true h1, decide_eq_false h2, h3]; rfl
    · have h1 : a = b := UInt8.toNat_inj.1 h
      subst h1
      have h2 : ¬ a < a := fun hh => by have := UInt8.lt_iff_toNat_lt.1 hh; omega
      rw [decide_eq_false h2]
      simpa using ih
    · have h1 : b < a := UInt8.lt_iff_toNat_lt.2 h
      have h2 : ¬ a < b := fun hh => by have := UInt8.lt_iff_toNat_lt.1 hh; omega
      have h3 : (a == b) = false := by simp; intro hh; subst hh; omega
      rw [decide_eq_true h1, decide_eq_false h2, h3]; rfl

/-- A turn up to a last one. -/
def turnIn (z y : Int) : Bool := decide (1 ≤ z) && decide (z ≤ y)

theorem turnOk_any (z y : Int) (w : World) : Calls Tryz.prog 77 #[.int .i64 z, .int .i64 y] w fun e w' => e = .returned (.bool (turnIn z y)) ∧ w' = w := by
  by_cases h : 1 ≤ z
  · have hb : decide (1 ≤ z) = true := by simp; omega
    have HE : Hid (decide (z ≤ y) = turnIn z y) := by show _ = _; unfold turnIn; rw [hb]; rfl
    go_enter Tryz.func77, Tryz.ntmps77
    go_wp2
    go_ret
    exact ⟨ret_bool HE.out, rfl⟩
  · have hb : decide (1 ≤ z) = false := by simp; omega
    have HE : Hid (false = turnIn z y) := by show _ = _; unfold turnIn; rw [hb]; rfl
    go_enter Tryz.func77, Tryz.ntmps77
    go_wp2
    go_ret
    exact ⟨ret_bool HE.out, rfl⟩

theorem implTextOk_any (s : ByteArray) (w : World) (hs : s.size ≤ maxLen) :
    Calls Tryz.prog 121 #[.string s] w fun e w' => e = .returned (.bool (textOk s)) ∧ w' = w := by
  have hs' := hs
  unfold maxLen at hs'
  by_cases h : s.size ≤ 6
  · have hb : decide ((s.size : Int) ≤ 6) = true := by simp; omega
    have HE : Hid (s.data.toList.all letter = textOk s) := by show _ = _; unfold textOk; rw [decide_eq_true h, Bool.and_true]
    go_enter Tryz.func121, Tryz.ntmps121
    go_wp2_with (go_at_call 106; refine (lettersAlone_any _ _ hs).mono ?_; rintro e w' ⟨rfl, rfl⟩)
    go_ret
    exact ⟨ret_bool HE.out, rfl⟩
  · have hb : decide ((s.size : Int) ≤ 6) = false := by simp; omega
    have HE : Hid (false = textOk s) := by show _ = _; unfold textOk; rw [decide_eq_false h, Bool.and_false]
    go_enter Tryz.func121, Tryz.ntmps121
    go_wp2
    go_ret
    exact ⟨ret_bool HE.out, rfl⟩

set_option maxHeartbeats 1000000 in
theorem implNamesOk_any (a : Option Addr) (n c : Nat) (S : Nat → ByteArray) (w : World) (hS : IsStrs w a n S) (hm : Small n S) (hn : n ≤ maxLen) :
    Calls Tryz.prog 122 #[.slice a n c] w fun e w' => (∃ q, w' = w.drewN q) ∧ e = .returned (.bool (dirNames S n)) := by
  unfold maxLen at hn
  go_enter Tryz.func122, Tryz.ntmps122
  go_wp2
  go_loopw [7] (fun i wr => ∃ k q : Nat, k ≤ n ∧ i = .int .i64 k ∧ wr = w.drewN q ∧ dirNames S k = true) (fun i _ => n - (intOf i).toNat)
  case atStart => exact ⟨0, 0, Nat.zero_le _, rfl, rfl, rfl⟩
  case round =>
    obtain ⟨k, q, hk, rfl, hwr, heq⟩ := hrel
    have HE : Hid (dirNames S k = true ∧ wr = w.drewN q) := ⟨heq, hwr⟩
    have hSr : IsStrs wr a n S := by rw [hwr]; exact hS.below (Nat.le_refl _) (below_drewN (Below.refl _ _) _)
    clear heq hwr
    by_cases hlt : k < n
    · obtain ⟨b, off, rfl, hlt2, hc⟩ := hSr.at hlt
      have h1 := hc k hlt
      have hlti : (k : Int) < (n : Int) := by omega
      have hmk := hm k hlt
      have hcall : Hid (Calls Tryz.prog 81 #[.string (S k)] wr fun e w' => e = .returned (.bool (nameOk (S k).data.toList)) ∧ w' = wr) := implNameOk_any (S k) _ hmk
      cases hnm : nameOk (S k).data.toList with
      | false =>
        rw [hnm] at hcall
        have HN : Hid (nameOk (S k).data.toList = false) := hnm
        clear hc hnm
        go_wp2_with (go_at_call 81; refine hcall.out.mono ?_; rintro e w' ⟨rfl, rfl⟩)
        go_ret
        exact ⟨⟨q, HE.out.2⟩, ret_bool (dirNames_bad S k n hlt (by rw [HN.out]; rfl))⟩
      | true =>
        rw [hnm] at hcall
        have HN : Hid (nameOk (S k).data.toList = true) := hnm
        clear hnm
        by_cases hk0 : k = 0
        · subst hk0
          clear hc
          rw [Nat.add_zero] at h1
          go_wp2_with (go_at_call 81; refine hcall.out.mono ?_; rintro e w' ⟨rfl, rfl⟩)
          go_roundw
          case rel => exact ⟨1, q, by omega, by go_num, HE.out.2, dirNames_one S HN.out⟩
          case measure => simp [intOf]; omega
        · have h2 : wr.cell? ⟨b, off + (k - 1), none⟩ = some (.string (S (k - 1))) := hc (k - 1) (by omega)
          have hk0' : decide (0 < k) = true := by simp; omega
          have hk1 : ((k - 1 : Nat) : Int) < (n : Int) := by omega
          have hwr : IntKind.i64.wrap ((k : Int) - 1) = ((k - 1 : Nat) : Int) := by rw [IntKind.wrap_i64]; omega
          clear hc
          cases hle : lessEq (S k) (S (k - 1)) with
          | true =>
            have hle' : (!Op.bytesLess (S (k - 1)).toList (S k).toList) = true := (less_total _ _).trans hle
            have HL : Hid (lessEq (S k) (S (k - 1)) = true) := hle
            clear hle
            go_wp2_with (go_at_call 81; refine hcall.out.mono ?_; rintro e w' ⟨rfl, rfl⟩)
            go_ret
            exact ⟨⟨q, HE.out.2⟩, ret_bool (dirNames_bad S k n hlt (by rw [HN.out, HL.out]; simp; omega))⟩
          | false =>
            have hle' : (!Op.bytesLess (S (k - 1)).toList (S k).toList) = false := (less_total _ _).trans hle
            have HL : Hid (lessEq (S k) (S (k - 1)) = false) := hle
            clear hle
            go_wp2_with (go_at_call 81; refine hcall.out.mono ?_; rintro e w' ⟨rfl, rfl⟩)
            go_roundw
            case rel => exact ⟨k + 1, q, by omega, by go_num, HE.out.2, dirNames_succ S k HE.out.1 (by rw [HN.out, HL.out]; simp)⟩
            case measure => simp [intOf]; omega
    · have hkn : k = n := by omega
      have HK : Hid (k = n) := hkn
      clear hkn
      go_wp2
      go_ret
      exact ⟨⟨q, HE.out.2⟩, ret_bool (by rw [← HK.out, HE.out.1])⟩

set_option maxHeartbeats 1000000 in
theorem implKidsOk_any (a : Option Addr) (n c : Nat) (now : Int) (D : Nat → Nd) (L : Nat → Loc) (kA : Option Addr) (kn kc : Nat) (Z : Nat → Int) (w : World) (hS : IsNds w a n D L) (hI : IsInts w kA kn Z) (hkn : kn ≤ maxLen) (hZ : ∀ i, i < kn → In64 (Z i)) (hn : n ≤ maxLen) :
    Calls Tryz.prog 103 #[trV a n c now, .slice kA kn kc] w fun e w' => Below w.heap.size w w' ∧ e = .returned (.bool (kidsOk n D Z kn)) := by
  unfold maxLen at hkn hn
  unfold trV
  go_enter Tryz.func103, Tryz.ntmps103
  go_wp2
  go_loopw [9] (fun i wr => ∃ k : Nat, k ≤ kn ∧ i = .int .i64 k ∧ RefsIn w a n c now wr ∧ kidsOk n D Z k = true) (fun i _ => kn - (intOf i).toNat)
  case atStart => exact ⟨0, Nat.zero_le _, rfl, ⟨(new1 w _ _).b0, (new1 w _ _).bel⟩, rfl⟩
  case round =>
    obtain ⟨k, hk, rfl, hin, heq⟩ := hrel
    have t0 : wr.cell? ⟨w.heap.size, 0, none⟩ = some (.slice a n c) := hin.t.cell 0
    have hSr := hS.below (Nat.le_refl _) hin.bel
    have hIr := hI.below (Nat.le_refl _) hin.bel
    have HE : Hid (kidsOk n D Z k = true ∧ RefsIn w a n c now wr) := ⟨heq, hin⟩
    clear heq hin
    by_cases hlt : k < kn
    · obtain ⟨b, off, rfl, hlt2, hc⟩ := hIr.at hlt
      have h1 := hc k hlt
      have hlti : (k : Int) < (kn : Int) := by omega
      clear hc
      have hz := hZ k hlt
      unfold In64 at hz
      have bad : kidOk n D (Z k) = false → Hid (kidsOk n D Z kn = false) := fun h => kidsOk_bad hlt h
      by_cases hz1 : Z k < 1
      · have H : Hid (kidsOk n D Z kn = false) := bad (by unfold kidOk; rw [decide_eq_false (show ¬ 1 ≤ Z k by omega)]; rfl)
        clear bad
        go_wp2_with fail
        go_ret
        exact ⟨HE.out.2.bel, ret_bool (by rw [H.out])⟩
      · by_cases hz2 : (n : Int) ≤ Z k
        · have H : Hid (kidsOk n D Z kn = false) := bad (by unfold kidOk; rw [decide_eq_false (show ¬ Z k < n by omega)]; simp)
          clear bad
          go_wp2_with fail
          go_ret
          exact ⟨HE.out.2.bel, ret_bool (by rw [H.out])⟩
        · obtain ⟨j, hj⟩ : ∃ j : Nat, Z k = j := ⟨(Z k).toNat, by omega⟩
          have hjn : j < n := by omega
          obtain ⟨b', off', ha, hlt2', hc'⟩ := hSr.at hjn
          have g0 := (hc' j hjn).1
          have hko : kidOk n D (Z k) = ((D j).kind != 0) := by
            unfold kidOk; rw [decide_eq_true (show 1 ≤ Z k by omega), decide_eq_true (show Z k < n by omega), hj]; simp
          clear hc' hSr
          rw [ha] at t0
          rw [hj] at h1 hz1 hz2 hz
          cases hkd : ((D j).kind == 0) with
          | true =>
            have H : Hid (kidsOk n D Z kn = false) := bad (by rw [hko]; simp only [bne, hkd]; rfl)
            clear bad hko
            go_wp2_with fail
            go_ret
            exact ⟨HE.out.2.bel, ret_bool (by rw [H.out])⟩
          | false =>
            have H : Hid (kidOk n D (Z k) = true) := hko.trans (by simp only [bne, hkd]; rfl)
            clear bad hko
            go_wp2_with fail
            go_roundw
            case rel => exact ⟨k + 1, by omega, by go_num, HE.out.2, kidsOk_succ HE.out.1 H.out⟩
            case measure => simp [intOf]; omega
    · have hke : k = kn := by omega
      have HK : Hid (kidsOk n D Z kn = true) := by have := HE.out.1; rw [hke] at this; exact this
      clear hke hSr hIr
      go_wp2
      go_ret
      exact ⟨HE.out.2.bel, ret_bool (by rw [HK.out])⟩
end Go.Proofs.YtakifcobofkheabGreatDoor

/-
  What placeOk of the program answers: whether a place is right by itself.
-/
namespace Go.Proofs.YtakifcobofkheabGreatDoor
open Go.RowKit
set_option linter.unusedVariables false

/-- The empty place. -/
def nd0 : Nd := ⟨0, ByteArray.empty, 0, fun _ => ByteArray.empty, 0, fun _ => 0, 0⟩
def loc0 : Loc := ⟨none, 0, none, 0⟩
theorem nd0_fits : nd0.Fits := ⟨⟨by decide, by decide⟩, ⟨by decide, by decide⟩, by unfold nd0 maxLen; simp, fun i hi => by unfold nd0 at hi; simp at hi, by unfold nd0 maxLen; simp, by unfold nd0 maxLen; simp, fun i hi => by unfold nd0 at hi; simp at hi⟩
theorem nd0_in (w : World) : NdIn w nd0 loc0 := ⟨Or.inl rfl, Or.inl rfl⟩

theorem same_free (d : Nd) (h : d.kind = 0) : d.same nd0 = freeOk d := by
  unfold Nd.same freeOk nd0
  rw [h]
  by_cases hn : d.nn = 0
  · by_cases hk : d.kn = 0
    · rw [hn, hk]; simp [eqS, eqZ]
    · simp [hk]
  · simp [hn]

/-- What a file has. -/
def fileIs (d : Nd) : Bool := textOk d.text && decide (d.nn = 0) && decide (d.kn = 0)
/-- What a directory has. -/
def dirIs (d : Nd) : Bool := (d.text.toList == []) && dirNames d.names d.nn && decide (d.kn = d.nn)

theorem fileOk_eq (now : Int) (d : Nd) : fileOk now d = (fileIs d && turnIn d.turn now) := by
  unfold fileOk fileIs turnIn; simp only [Bool.and_assoc]

theorem dirOk_eq (n : Nat) (D : Nat → Nd) (now : Int) (d : Nd) : dirOk n D now d = (dirIs d && kidsOk n D d.kids d.kn && turnIn d.turn now) := by
  unfold dirOk dirIs turnIn
  cases (d.text.toList == []) <;> cases dirNames d.names d.nn <;> cases kidsOk n D d.kids d.kn <;> cases decide (d.kn = d.nn) <;> simp

set_option maxHeartbeats 1000000 in
theorem implFileOk_any (d : Nd) (l : Loc) (w : World) (hf : d.Fits) :
    Calls Tryz.prog 101 #[ndV d l] w fun e w' => Below w.heap.size w w' ∧ e = .returned (.bool (fileIs d)) := by
  have hkn := hf.kn
  have hnn := hf.nn
  unfold maxLen at hkn hnn
  unfold ndV
  go_enter Tryz.func101, Tryz.ntmps101
  go_wp2_with fail
  refine (implTextOk_any d.text _ hf.text).mono ?_
  rintro e w1 ⟨rfl, rfl⟩
  cases htx : textOk d.text with
  | false =>
    have HT : Hid (textOk d.text = false) := htx
    clear htx
    go_wp2_with fail
    go_ret
    exact ⟨(Below.refl _ _).alloc (Nat.le_refl _) _, ret_bool (by unfold fileIs; rw [HT.out]; rfl)⟩
  | true =>
    have HT : Hid (textOk d.text = true) := htx
    clear htx
    go_wp2_with fail
    all_goals
      go_ret
      refine ⟨(Below.refl _ _).alloc (Nat.le_refl _) _, ret_bool ?_⟩
      unfold fileIs
      rw [HT.out]
      by_cases h1 : d.nn = 0 <;> by_cases h2 : d.kn = 0 <;> simp_all

set_option maxHeartbeats 1000000 in
theorem implDirOk_any (d : Nd) (l : Loc) (w : World) (hI : NdIn w d l) (hf : d.Fits) :
    Calls Tryz.prog 102 #[ndV d l] w fun e w' => Below w.heap.size w w' ∧ e = .returned (.bool (dirIs d)) := by
  have hkn := hf.kn
  have hnn := hf.nn
  unfold maxLen at hkn hnn
  unfold ndV
  cases ht : (d.text.toList == []) with
  | false =>
    have HT : Hid ((d.text.toList == []) = false) := ht
    go_enter Tryz.func102, Tryz.ntmps102
    go_wp2_with fail
    go_ret
    exact ⟨(Below.refl _ _).alloc (Nat.le_refl _) _, ret_bool (by unfold dirIs; rw [HT.out]; rfl)⟩
  | true =>
    have HT : Hid ((d.text.toList == []) = true) := ht
    go_enter Tryz.func102, Tryz.ntmps102
    go_wp2_with fail
    refine at_world (F := New1 w _ _) (new1 w _ _) ?_
    rintro W ⟨hp, hb, hs⟩
    refine (implNamesOk_any l.nA d.nn l.nc d.names W (hI.1.below (Nat.le_refl _) hb) hf.names hf.nn).mono ?_
    rintro e w1 ⟨⟨q, rfl⟩, rfl⟩
    have p2 : W.cell? ⟨w.heap.size, 2, none⟩ = some (.slice l.nA d.nn l.nc) := hp.cell 2
    have p3 : W.cell? ⟨w.heap.size, 3, none⟩ = some (.slice l.kA d.kn l.kc) := hp.cell 3
    have HB : Hid (Below w.heap.size w W) := hb
    clear hp hb hs ht
    cases hnm : dirNames d.names d.nn with
    | false =>
      have HN : Hid (dirNames d.names d.nn = false) := hnm
      clear hnm
      go_wp2_with fail
      go_ret
      exact ⟨below_drewN HB.out _, ret_bool (by unfold dirIs; rw [HN.out]; simp)⟩
    | true =>
      have HN : Hid (dirNames d.names d.nn = true) := hnm
      clear hnm
      go_wp2_with fail
      all_goals
        go_ret
        refine ⟨below_drewN HB.out _, ret_bool ?_⟩
        unfold dirIs; rw [HN.out, HT.out]
        by_cases h : d.kn = d.nn
        · simp [h]
        · rw [decide_eq_false h]; simp; omega

set_option maxHeartbeats 1000000 in
theorem placeOk_any (a : Option Addr) (n c : Nat) (now : Int) (D : Nat → Nd) (L : Nat → Loc) (d : Nd) (l : Loc) (w : World) (hS : IsNds w a n D L) (hI : NdIn w d l) (hf : d.Fits) (hn : n ≤ maxLen) :
    Calls Tryz.prog 78 #[trV a n c now, ndV d l] w fun e w' => Below w.heap.size w w' ∧ e = .returned (.bool (ndOk n D now d)) := by
  unfold trV ndV
  by_cases h0 : d.kind = 0
  · have H : Hid (d.same nd0 = ndOk n D now d) := (same_free d h0).trans (if_pos h0).symm
    have b0 : (d.kind == 0) = true := by simp [h0]
    clear h0
    go_enter Tryz.func78, Tryz.ntmps78
    go_wp2_with fail
    refine at_world (F := New2 w _ _ _ _) (new2 w _ _ _ _) ?_
    rintro W ⟨hp, hp', hb, hs⟩
    refine (implNodeSame_any d nd0 l loc0 W (hI.below (Nat.le_refl _) hb) (nd0_in _) hf nd0_fits).mono ?_
    rintro e w1 ⟨hb1, rfl⟩
    have HB : Hid (Below w.heap.size w w1) := hb.trans (hb1.mono (by omega))
    clear hp hp' hb hs hb1
    rw [H.out]
    go_wp2
    go_ret
    exact ⟨HB.out, rfl⟩
  · have n0 : (d.kind == 0) = false := by simp [h0]
    by_cases h1 : d.kind = 1
    · have H : Hid (ndOk n D now d = (fileIs d && turnIn d.turn now)) := ((if_neg h0).trans (if_pos h1)).trans (fileOk_eq now d)
      have b1 : (d.kind == 1) = true := by simp [h1]
      clear h0 h1
      go_enter Tryz.func78, Tryz.ntmps78
      go_wp2_with fail
      refine at_world (F := New2 w _ _ _ _) (new2 w _ _ _ _) ?_
      rintro W ⟨hp, hp', hb, hs⟩
      refine (implFileOk_any d l W hf).mono ?_
      rintro e w1 ⟨hb1, rfl⟩
      have p1 : w1.cell? ⟨w.heap.size, 1, none⟩ = some (.int .i64 now) := (hp.below hb1 (by omega)).cell 1
      have d4 : w1.cell? ⟨w.heap.size + 1, 4, none⟩ = some (.int .i64 d.turn) := (hp'.below hb1 (by omega)).cell 4
      have HB : Hid (Below w.heap.size w w1) := hb.trans (hb1.mono (by omega))
      clear hp hp' hb hs hb1
      cases hq : fileIs d with
      | false =>
        have HQ : Hid (false = ndOk n D now d) := by show _ = _; rw [H.out, hq]; rfl
        clear hq
        go_wp2
        go_ret
        exact ⟨HB.out, ret_bool HQ.out⟩
      | true =>
        have HQ : Hid (turnIn d.turn now = ndOk n D now d) := by show _ = _; rw [H.out, hq]; rfl
        clear hq
        go_wp2_with (go_at_call 77; refine (turnOk_any _ _ _).mono ?_; rintro e w' ⟨rfl, rfl⟩)
        go_ret
        exact ⟨HB.out, ret_bool HQ.out⟩
    · have n1 : (d.kind == 1) = false := by simp [h1]
      by_cases h2 : d.kind = 2
      · have H : Hid (ndOk n D now d = (dirIs d && kidsOk n D d.kids d.kn && turnIn d.turn now)) := ((if_neg h0).trans ((if_neg h1).trans (if_pos h2))).trans (dirOk_eq n D now d)
        have b2 : (d.kind == 2) = true := by simp [h2]
        clear h0 h1 h2
        go_enter Tryz.func78, Tryz.ntmps78
        go_wp2_with fail
        refine at_world (F := New2 w _ _ _ _) (new2 w _ _ _ _) ?_
        rintro W ⟨hp, hp', hb, hs⟩
        refine (implDirOk_any d l W (hI.below (Nat.le_refl _) hb) hf).mono ?_
        rintro e w1 ⟨hb1, rfl⟩
        have hp1 := hp.below hb1 (by omega)
        have hp1' := hp'.below hb1 (by omega)
        have p0 : w1.cell? ⟨w.heap.size, 0, none⟩ = some (.slice a n c) := hp1.cell 0
        have p1 : w1.cell? ⟨w.heap.size, 1, none⟩ = some (.int .i64 now) := hp1.cell 1
        have d3 : w1.cell? ⟨w.heap.size + 1, 3, none⟩ = some (.slice l.kA d.kn l.kc) := hp1'.cell 3
        have hwl := hp1'.lt
        have HB : Hid (Below w.heap.size w w1 ∧ Blk w1 w.heap.size _ _ ∧ Blk w1 (w.heap.size + 1) _ _) := ⟨hb.trans (hb1.mono (by omega)), hp1, hp1'⟩
        clear hp hp' hb hs hb1 hp1 hp1'
        cases hq : dirIs d with
        | false =>
          have HQ : Hid (false = ndOk n D now d) := by show _ = _; rw [H.out, hq]; rfl
          clear hq
          go_wp2
          go_ret
          exact ⟨HB.out.1, ret_bool HQ.out⟩
        | true =>
          have HQ1 : Hid (ndOk n D now d = (kidsOk n D d.kids d.kn && turnIn d.turn now)) := by show _ = _; rw [H.out, hq]; rfl
          clear hq
          go_wp2_with fail
          refine (implKidsOk_any a n c now D L l.kA d.kn l.kc d.kids w1 (hS.below (Nat.le_refl _) HB.out.1) (hI.2.below (Nat.le_refl _) HB.out.1) hf.kn hf.kids hn).mono ?_
          rintro e w2 ⟨hb2, rfl⟩
          have p1' : w2.cell? ⟨w.heap.size, 1, none⟩ = some (.int .i64 now) := (HB.out.2.1.below hb2 (by omega)).cell 1
          have d4 : w2.cell? ⟨w.heap.size + 1, 4, none⟩ = some (.int .i64 d.turn) := (HB.out.2.2.below hb2 (by omega)).cell 4
          have HB2 : Hid (Below w.heap.size w w2) := HB.out.1.trans (hb2.mono (by omega))
          clear hb2 p0 p1 d3
          cases hq : kidsOk n D d.kids d.kn with
          | false =>
            have HQ : Hid (false = ndOk n D now d) := by show _ = _; rw [HQ1.out, hq]; rfl
            clear hq
            go_wp2
            go_ret
            exact ⟨HB2.out, ret_bool HQ.out⟩
          | true =>
            have HQ : Hid (turnIn d.turn now = ndOk n D now d) := by show _ = _; rw [HQ1.out, hq]; rfl
            clear hq
            go_wp2_with (go_at_call 77; refine (turnOk_any _ _ _).mono ?_; rintro e w' ⟨rfl, rfl⟩)
            go_ret
            exact ⟨HB2.out, ret_bool HQ.out⟩
      · have n2 : (d.kind == 2) = false := by simp [h2]
        have H : Hid (false = ndOk n D now d) := ((if_neg h0).trans ((if_neg h1).trans (if_neg h2))).symm
        clear h0 h1 h2
        go_enter Tryz.func78, Tryz.ntmps78
        go_wp2_with fail
        go_ret
        exact ⟨((Below.refl _ _).alloc (Nat.le_refl _) _).alloc (by simp) _, ret_bool H.out⟩
end Go.Proofs.YtakifcobofkheabGreatDoor

/-
  When what is kept is right: plain facts.
-/
namespace Go.Proofs.YtakifcobofkheabGreatDoor
open Go.RowKit
set_option linter.unusedVariables false

/-- A place that there is. -/
def liveIn (n : Nat) (Z : Nat → Bool) (z : Int) : Bool := decide (0 ≤ z) && decide (z < n) && Z z.toNat
/-- .. and that is not the root. -/
def kidIn (n : Nat) (Z : Nat → Bool) (z : Int) : Bool := decide (1 ≤ z) && decide (z < n) && Z z.toNat
def kidsIn (n : Nat) (Z : Nat → Bool) (K : Nat → Int) (k : Nat) : Bool := (List.range k).all fun i => kidIn n Z (K i)

theorem kidsIn_succ {n : Nat} {Z : Nat → Bool} {K : Nat → Int} {k : Nat} (h : kidsIn n Z K k = true) (hk : kidIn n Z (K k) = true) : kidsIn n Z K (k + 1) = true := by
  unfold kidsIn at *
  rw [List.range_succ, List.all_append, h]; simpa using hk

theorem kidsIn_bad {n : Nat} {Z : Nat → Bool} {K : Nat → Int} {k m : Nat} (hk : k < m) (h : kidIn n Z (K k) = false) : kidsIn n Z K m = false := by
  rw [Bool.eq_false_iff]
  intro ha
  have := List.all_eq_true.1 ha k (by simpa using hk)
  rw [h] at this; cases this

/-- What was turned may be there. -/
def nodeIn (d : Dp) (o : Int) (x : Nd) : Bool := if x.kind = 1 then fileIs x && decide (0 < o) else if x.kind = 2 then dirIs x && kidsIn d.ln d.live x.kids x.kn else false
def turnedIn (d : Dp) (x : Nd) : Bool := decide (d.since < x.turn) && decide (x.turn ≤ d.date)
def itIn (d : Dp) (o : Int) (x : Nd) : Bool := liveIn d.ln d.live o && turnedIn d x && nodeIn d o x
/-- The first k are right, and in order. -/
def stepIn (d : Dp) (i : Nat) : Bool := itIn d (d.ino i) (d.nd i) && (i == 0 || decide (d.ino (i - 1) < d.ino i))
def itsIn (d : Dp) (k : Nat) : Bool := (List.range k).all (stepIn d)
def headIn (d : Dp) : Bool := decide (0 ≤ d.since) && decide (d.since ≤ d.date) && (decide (1 ≤ d.date) && decide (d.date ≤ 1000)) && (decide (1 ≤ d.ln) && decide (d.ln ≤ 10)) && d.live 0
def Dp.ok (d : Dp) : Bool := headIn d && itsIn d d.m

theorem itsIn_succ {d : Dp} {k : Nat} (h : itsIn d k = true) (hk : stepIn d k = true) : itsIn d (k + 1) = true := by
  unfold itsIn at *
  rw [List.range_succ, List.all_append, h]; simpa using hk

theorem ok_bad {d : Dp} {k : Nat} (hk : k < d.m) (h : stepIn d k = false) : false = d.ok := by
  have : itsIn d d.m = false := by
    rw [Bool.eq_false_iff]
    intro ha
    have := List.all_eq_true.1 ha k (by simpa using hk)
    rw [h] at this; cases this
  unfold Dp.ok; rw [this]; simp

theorem ok_head {d : Dp} (h : headIn d = false) : false = d.ok := by unfold Dp.ok; rw [h]; rfl

theorem step_item {d : Dp} {k : Nat} (h : itIn d (d.ino k) (d.nd k) = false) : stepIn d k = false := by unfold stepIn; rw [h]; rfl
theorem step_zero {d : Dp} (h : itIn d (d.ino 0) (d.nd 0) = true) : stepIn d 0 = true := by unfold stepIn; rw [h]; rfl
theorem step_low {d : Dp} {k : Nat} (hk : k ≠ 0) (h : d.ino k ≤ d.ino (k - 1)) : stepIn d k = false := by
  unfold stepIn; rw [decide_eq_false (show ¬ d.ino (k - 1) < d.ino k by omega)]; simp [hk]
theorem step_more {d : Dp} {k : Nat} (h : itIn d (d.ino k) (d.nd k) = true) (h' : d.ino (k - 1) < d.ino k) : stepIn d k = true := by
  unfold stepIn; rw [h, decide_eq_true h']; simp

/-- The bits of truth values. -/
def bvv (Z : Nat → Bool) : Nat → Nat | 0 => 0 | k + 1 => bvv Z k + if Z k then 2 ^ k else 0

theorem bvv_lt (Z : Nat → Bool) : ∀ k, bvv Z k < 2 ^ k
  | 0 => by simp [bvv]
  | k + 1 => by
    have := bvv_lt Z k
    rw [bvv, Nat.pow_succ]
    split <;> omega

theorem bvv_test (Z : Nat → Bool) (i : Nat) : ∀ k, (bvv Z k).testBit i = (decide (i < k) && Z i)
  | 0 => by simp [bvv]
  | k + 1 => by
    have hl := bvv_lt Z k
    have ih := bvv_test Z i k
    rw [bvv]
    cases hz : Z k with
    | false =>
      simp only [Bool.false_eq_true, if_false, Nat.add_zero]
      rw [ih]
      by_cases e : i = k
      · subst e; simp [hz]
      · by_cases e2 : i < k
        · simp [e2, show i < k + 1 by omega]
        · simp [e2, show ¬ i < k + 1 by omega]
    | true =>
      simp only [if_true]
      rw [Nat.add_comm]
      by_cases e : i = k
      · subst e
        rw [Nat.testBit_two_pow_add_eq, ih]
        simp [hz]
      · by_cases e2 : i < k
        · rw [Nat.testBit_two_pow_add_gt e2, ih]
          simp [e2, show i < k + 1 by omega]
        · have h1 : 2 ^ k + bvv Z k < 2 ^ i := by
            have : 2 ^ (k + 1) ≤ 2 ^ i := Nat.pow_le_pow_right (by omega) (by omega)
            rw [Nat.pow_succ] at this
            omega
          rw [Nat.testBit_lt_two_pow h1]
          simp [show ¬ i < k + 1 by omega]
end Go.Proofs.YtakifcobofkheabGreatDoor

/-
  Two things kept, made one: what it is, and what is held while it is made. Plain facts.
-/
namespace Go.Proofs.YtakifcobofkheabGreatDoor
open Go.RowKit Go.Deep
set_option linter.unusedVariables false
set_option linter.unusedSimpArgs false

theorem OD.sameAt2 {W W' : World} {B k : Nat} {Z : Nat → Bool} {m : Nat} {O : Nat → Int} {D : Nat → Nd} {L : Nat → Loc} {lv iv : Value} (h : OD W B k Z m O D L lv iv) (hw : ∀ d b, d < 2 + 2 * m → (valD lv iv D L d).ownBlock = some b → W'.heap[b]? = W.heap[b]?) : OD W' B k Z m O D L lv iv :=
  ⟨⟨fun d hl => owns_same (h.rows.own d hl) fun b hb => hw d b hl hb, h.rows.apart⟩⟩

/-- The number of a place among those that were turned: the last one, if there are several. -/
def ixOf (O : Nat → Int) : Nat → Int → Option Nat
  | 0, _ => none
  | k + 1, z => if z = O k then some k else ixOf O k z

theorem ixOf_some {O : Nat → Int} {z : Int} : ∀ {m i : Nat}, ixOf O m z = some i → i < m ∧ O i = z
  | 0, i, h => by cases h
  | m + 1, i, h => by
    unfold ixOf at h
    split at h
    · rename_i e; cases h; exact ⟨by omega, e.symm⟩
    · have := ixOf_some h; exact ⟨by omega, this.2⟩

theorem ixOf_none {O : Nat → Int} {z : Int} : ∀ {m : Nat}, ixOf O m z = none → ∀ i, i < m → O i ≠ z
  | 0, _, i, hi => by omega
  | m + 1, h, i, hi => by
    unfold ixOf at h
    split at h
    · cases h
    · rename_i e
      by_cases hm : i = m
      · subst hm; exact fun e' => e e'.symm
      · exact ixOf_none h i (by omega)

/-- Where numbers ascend there is one. -/
theorem ixOf_one {O : Nat → Int} {z : Int} {m i : Nat} (hinj : ∀ i j, i < m → j < m → O i = O j → i = j) (hi : i < m) (h : O i = z) : ixOf O m z = some i := by
  cases e : ixOf O m z with
  | none => exact absurd h (ixOf_none e i hi)
  | some j =>
    obtain ⟨h1, h2⟩ := ixOf_some e
    rw [hinj j i h1 hi (h2.trans h.symm)]

theorem learn_ix (f : Int → Option Value) (O : Nat → Int) (E : Nat → Nd) (L : Nat → Loc) (z : Int) : ∀ m, learn f O E L m z = match ixOf O m z with | some i => some (ndV (E i) (L i)) | none => f z
  | 0 => rfl
  | m + 1 => by
    unfold learn ixOf
    split
    · rfl
    · exact learn_ix f O E L z m

/-- What is kept of a place by the two: of the second, else, if it is there, of the first. -/
def thenNd (a b : Dp) (z : Int) : Option Nd :=
  match ixOf b.ino b.m z with
  | some k => some (b.nd k)
  | none => if b.live z.toNat then (ixOf a.ino a.m z).map a.nd else none

def thenSel (a b : Dp) (k : Nat) : List Nat := (List.range k).filter fun i => (thenNd a b (i : Int)).isSome
theorem thenSel_yes {a b : Dp} {k : Nat} (h : (thenNd a b (k : Int)).isSome = true) : thenSel a b (k + 1) = thenSel a b k ++ [k] := by simp [thenSel, List.range_succ, List.filter_append, h]
theorem thenSel_no {a b : Dp} {k : Nat} (h : (thenNd a b (k : Int)).isSome = false) : thenSel a b (k + 1) = thenSel a b k := by simp [thenSel, List.range_succ, List.filter_append, h]
theorem thenSel_len (a b : Dp) (k : Nat) : (thenSel a b k).length ≤ k := by
  have := List.length_filter_le (fun i => (thenNd a b ((i : Nat) : Int)).isSome) (List.range k)
  simpa [thenSel] using this

/-- The one. -/
def thenDp (a b : Dp) : Dp := ⟨a.since, b.date, b.ln, b.live, (thenSel a b b.ln).length, fun i => ((thenSel a b b.ln).getD i 0 : Nat), fun i => ((thenNd a b ((thenSel a b b.ln).getD i 0 : Nat)).getD ⟨0, ByteArray.empty, 0, fun _ => ByteArray.empty, 0, fun _ => 0, 0⟩)⟩

/-- They can be made one. -/
def thenOk (a b : Dp) : Bool := a.ok && b.ok && (a.date == b.since) && (thenDp a b).ok

/-- What it answers. -/
def ThenPost (w : World) (a b : Dp) (e : Ending) (w' : World) : Prop :=
  Below w.heap.size w w' ∧ ((thenOk a b = false ∧ e = .returned (.tuple #[.agg #[.int .i64 0, .int .i64 0, .slice none 0 0, .slice none 0 0], .bool false])) ∨
    (thenOk a b = true ∧ ∃ l, e = .returned (.tuple #[dpV (thenDp a b) l, .bool true]) ∧ OwnDp w' w.heap.size (thenDp a b) l))

/-- Of something that is ok: numbers ascend, and each is there. -/
theorem ok_asc {d : Dp} (h : d.ok = true) : ∀ j i, i < j → j < d.m → d.ino i < d.ino j
  | 0, i, hi, _ => by omega
  | j + 1, i, hi, hj => by
    unfold Dp.ok at h
    rw [Bool.and_eq_true] at h
    have hs := List.all_eq_true.1 h.2 (j + 1) (by simpa using hj)
    unfold stepIn at hs
    simp at hs
    by_cases e : i = j
    · subst e; exact hs.2
    · have := ok_asc (d := d) (by unfold Dp.ok; rw [Bool.and_eq_true]; exact h) j i (by omega) (by omega)
      omega

theorem ok_inj {d : Dp} (h : d.ok = true) : ∀ i j, i < d.m → j < d.m → d.ino i = d.ino j → i = j := fun i j hi hj e => by
  rcases Nat.lt_trichotomy i j with g | g | g
  · have := ok_asc h j i g hj; omega
  · exact g
  · have := ok_asc h i j g hi; omega

theorem ok_live {d : Dp} (h : d.ok = true) {i : Nat} (hi : i < d.m) : 0 ≤ d.ino i ∧ d.ino i < d.ln ∧ d.live (d.ino i).toNat = true := by
  unfold Dp.ok at h
  rw [Bool.and_eq_true] at h
  have hs := List.all_eq_true.1 h.2 i (by simpa using hi)
  unfold stepIn itIn liveIn at hs
  simp only [Bool.and_eq_true, decide_eq_true_eq] at hs
  exact ⟨hs.1.1.1.1.1, hs.1.1.1.1.2, hs.1.1.1.2⟩

/-- What is held while it is made: X are blocks that are kept as they were in W0. -/
structure GOf (w W0 : World) (B : Nat) (X : Nat → Prop) (since date : Int) (n : Nat) (Z : Nat → Bool) (V : Nat) (la : Option Addr) (lc m : Nat) (ia : Option Addr) (ic : Nat) (O : Nat → Int) (E : Nat → Nd) (M : Nat → Loc) (W : World) : Prop where
  v : Blk W V #[.int .i64 since, .int .i64 date, .slice la n lc, .slice ia m ic] 64
  bel : Below w.heap.size w W
  kept : ∀ b, X b → W.heap[b]? = W0.heap[b]?
  lt : ∀ b, X b → b < W.heap.size
  nv : ¬ X V
  far : w.heap.size ≤ V
  base : w.heap.size ≤ B
  od : OD W B n Z m O E M (.slice la n lc) (.slice ia m ic)
  off : ∀ d b, d < 2 + 2 * m → (valD (.slice la n lc) (.slice ia m ic) E M d).ownBlock = some b → ¬ X b ∧ b ≠ V

section
variable {w W0 : World} {B : Nat} {X : Nat → Prop} {since date : Int} {n : Nat} {Z : Nat → Bool} {V : Nat} {la : Option Addr} {lc m : Nat} {ia : Option Addr} {ic : Nat} {O : Nat → Int} {E : Nat → Nd} {M : Nat → Loc} {W W1 W' : World}

theorem GOf.below (h : GOf w W0 B X since date n Z V la lc m ia ic O E M W) (hb : Below W.heap.size W W') : GOf w W0 B X since date n Z V la lc m ia ic O E M W' :=
  ⟨h.v.below hb h.v.lt, h.bel.trans (hb.mono h.bel.size), fun b hX => (hb.block b (h.lt b hX)).trans (h.kept b hX), fun b hX => Nat.lt_of_lt_of_le (h.lt b hX) hb.size, h.nv, h.far, h.base, h.od.below hb, h.off⟩

/-- One place more, stored. -/
theorem GOf.item (h : GOf w W0 B X since date n Z V la lc m ia ic O E M W) {x : Nd} {o : Int} {l : Loc} (hN : NewNn W x l W1) (hB : B ≤ W.heap.size) {b c' : Nat} (hg : W1.grownBy W' (Value.slice ia m ic).ownBlock)
    (hown : W'.ownsRow B 100 6 (.slice (some ⟨b, 0, none⟩) (m + 1) c') (m + 1) (rowsI O E M m ++ it6 o x l)) (hb : (Value.slice ia m ic).ownBlock = some b ∨ W1.heap.size ≤ b) :
    GOf w W0 B X since date n Z V la lc (m + 1) (some ⟨b, 0, none⟩) c' (fun i => if i = m then o else O i) (fun i => if i = m then x else E i) (fun i => if i = m then l else M i) (W'.setCell ⟨V, 3, none⟩ (.slice (some ⟨b, 0, none⟩) (m + 1) c')) := by
  have h1 := h.below hN.bel
  have hfar := h.far
  have hbase := h.base
  have hsz := hN.bel.size
  have hof : ∀ j, (Value.slice ia m ic).ownBlock = some j → B ≤ j ∧ j < W.heap.size ∧ ¬ X j ∧ j ≠ V := fun j e => ⟨(owns_block h.od.ownI e).1, (owns_block h.od.ownI e).2, h.off 1 j (by omega) (by simpa [valD] using e)⟩
  have hVl := h.v.lt
  have hbel : Below w.heap.size w W' := h1.bel.grown hg h1.bel.size (fun j e => by have := (hof j e).1; omega)
  have hbV : b ≠ V := fun e => by
    rcases hb with h2 | h2
    · exact (hof b h2).2.2.2 e
    · omega
  have hbX : ¬ X b := fun e => by
    rcases hb with h2 | h2
    · exact (hof b h2).2.2.1 e
    · have := h.lt b e; omega
  have hoff : ∀ d b', d < 2 + 2 * (m + 1) → (valD (.slice la n lc) (.slice (some ⟨b, 0, none⟩) (m + 1) c') (fun i => if i = m then x else E i) (fun i => if i = m then l else M i) d).ownBlock = some b' → ¬ X b' ∧ b' ≠ V := fun d b' hd hv => by
    by_cases e1 : d = 1
    · subst e1
      have e : b = b' := by simpa [valD, Value.ownBlock] using hv
      exact e ▸ ⟨hbX, hbV⟩
    · by_cases e0 : d = 0
      · subst e0
        exact h.off 0 b' (by omega) (by simpa [valD] using hv)
      · unfold valD at hv
        rw [if_neg e0, if_neg e1] at hv
        by_cases hm : (d - 2) / 2 = m
        · simp only [hm, if_true] at hv
          have hfr : W.heap.size ≤ b' := by
            split at hv
            · exact (owns_block hN.names hv).1
            · exact (owns_block hN.kids hv).1
          exact ⟨fun e => by have := h.lt b' e; omega, by omega⟩
        · simp only [hm, if_false] at hv
          exact h.off d b' (by omega) (by unfold valD; rw [if_neg e0, if_neg e1]; exact hv)
  have hod := h.od.item (W' := W') hN hB hg hown (fun b' e => by simp [Value.ownBlock] at e; rw [← e]; exact hb)
  refine ⟨(blk_grown h1.v hg (fun e => (hof V e).2.2.2 rfl)).set 3 _, bel_put hbel _ hfar, fun b' hX => ?_, fun b' hX => ?_, h.nv, hfar, hbase, ?_, hoff⟩
  · have hXV : b' ≠ V := fun e => h.nv (e ▸ hX)
    exact (blk_setCell_other _ _ _ _ (show b' ≠ V from hXV)).trans ((hg.block b' (h1.lt b' hX) (fun e => (hof b' e.symm).2.2.1 hX)).trans (h1.kept b' hX))
  · have := h1.lt b' hX
    have h3 := hg.size
    simp
    omega
  · exact hod.sameAt2 fun d b' hd hv => blk_setCell_other _ _ _ _ (by show b' ≠ V; exact (hoff d b' hd hv).2)
end
end Go.Proofs.YtakifcobofkheabGreatDoor

/-
  What turnedSince yields to whoever ranges over it: the places that were turned, in order; all of them, or the first ones, where a round has said that it wants no more.
-/
namespace Go.Proofs.YtakifcobofkheabGreatDoor
open Go.RowKit Go.Shelf
set_option linter.unusedVariables false
set_option linter.unusedSimpArgs false
attribute [local go_sem] Oper.semAt_some

/-- Those of the first k that were turned since. -/
def selT (D : Nat → Nd) (since : Int) (k : Nat) : List Nat := (List.range k).filter fun i => decide (since < (D i).turn)
theorem selT_yes {D : Nat → Nd} {since : Int} {k : Nat} (h : since < (D k).turn) : selT D since (k + 1) = selT D since k ++ [k] := by simp [selT, List.range_succ, List.filter_append, h]
theorem selT_no {D : Nat → Nd} {since : Int} {k : Nat} (h : ¬ since < (D k).turn) : selT D since (k + 1) = selT D since k := by simp [selT, List.range_succ, List.filter_append, h]
theorem selT_pre (D : Nat → Nd) (since : Int) {k n : Nat} (h : k ≤ n) : selT D since k <+: selT D since n := by
  induction h with
  | refl => exact List.prefix_refl _
  | step h ih =>
    rename_i m
    by_cases hm : since < (D m).turn
    · rw [selT_yes hm]; exact ih.trans (List.prefix_append _ _)
    · rw [selT_no hm]; exact ih

/-- What a round keeps: the blocks that the function reads. -/
def KeepsTwo (S b : Nat) (W W' : World) : Prop := W'.heap[S]? = W.heap[S]? ∧ W'.heap[b]? = W.heap[b]?

end Go.Proofs.YtakifcobofkheabGreatDoor

/-
  A statement whose order is drawn, within a round of a range over a function: it is walked as anywhere else. Plain laws.
-/
namespace Go.Proofs.YtakifcobofkheabGreatDoor
open Go.RowKit
set_option linter.unusedVariables false

section
variable {P : Program} {md : Region.Mode} {Q : Exit → Act → World → Prop} {ops : Array Oper} {l n : Nat}

def noDefer (o : Oper) : Bool := match o.op with | .defer _ => false | _ => true

theorem oper_round {o : Oper} {a : Act} {w : World} {K : Act → World → Prop} (hd : noDefer o = true) (h : o.wp P a w K Q) : o.wpIn (Fence.wide.inRound l) n P a w K Q := by
  have hd' : ∀ c, o.op ≠ .defer c := fun c e => by simp [noDefer, e] at hd
  unfold Oper.wpIn
  refine ⟨fun _ _ => trivial, ?_⟩
  rw [Oper.semAt_eq _ _ _ hd']
  unfold Oper.wp at h
  generalize (execOp a.eval o).run P w = r at *
  cases r with
  | ok x w' =>
    cases x with
    | value v => exact h
    | skip => exact h
    | defer d => exact h
    | enter f args => exact ⟨fun e => by simp [Fence.wide] at e, CallsIn.inRound l (callsIn_wide.2 h)⟩
    | row row args => exact ⟨fun e => by simp [Fence.wide] at e, fun c cs _ => let ⟨v, w', r, s⟩ := h c cs; ⟨v, w', r, stepsIn_wide.2 s⟩⟩
    | _ => exact absurd h (by simp [Oper.upon])
  | halt x w' =>
    cases x <;> first | exact h | exact absurd h (by simp [Oper.upon])

theorem wpAnyIn_of_any (hd : ∀ o ∈ ops.toList, noDefer o = true) (hQ : ¬ LetsOut Q) : ∀ (fuel : Nat) (listed : Array Bool) (a : Act) (w : World), wpAny P md ops Q fuel listed a w → wpAnyIn (Fence.wide.inRound l) n P md ops Q fuel listed a w
  | 0, _, _, _, h => h
  | fuel + 1, listed, a, w, h => ⟨h.1, fun i hi => by
    have h1 := h.2 i hi
    unfold wpOp at h1
    unfold wpOpIn
    cases ho : ops[i]? with
    | none => simp only [ho] at h1 ⊢; exact wpAnyIn_of_any hd hQ fuel _ a w h1
    | some o =>
      have hdo : noDefer o = true := hd o (by have := Array.mem_of_getElem? ho; simpa using this)
      simp only [ho] at h1 ⊢
      by_cases hw : Region.wanted o (yielded ops a.tmps) = true
      · rw [if_pos hw] at h1 ⊢
        rcases h1 with h1 | ⟨_, h1⟩
        · exact Oper.wpIn_mono (fun a w h => wpAnyIn_of_any hd hQ fuel _ a w h) (oper_round hdo h1)
        · exact absurd h1 hQ
      · rw [if_neg hw] at h1 ⊢
        exact ⟨fun _ _ => trivial, wpAnyIn_of_any hd hQ fuel _ _ w h1⟩⟩

theorem wpIn_region_peel {id : Nat} {a : Act} {w : World} (S : World → Prop) (o : Oper) (hm : P.follows .mixedOrders = true) (hd : (ops.toList.all noDefer) = true) (hQ : ¬ LetsOut Q) (hb : ops.back? = some o) (hok : peelOk .any ops.pop o = true)
    (hS : S w.drew) (h : S w.drew → wpAnyH P .any ops.pop (Peel P o Q) S ops.pop.size (Array.replicate ops.pop.size false) a w.drew) : (Code.region id ops true).wpIn (Fence.wide.inRound l) n P Q a w := by
  refine wpIn_region_any hm (wpAnyIn_of_any (List.all_eq_true.1 hd) hQ _ _ _ _ ?_)
  have hp := push_pop hb
  have := wpAny_peel (Q := Q) (P := P) (peelOk_spec hok) ops.pop.size (Array.replicate ops.pop.size false) a w.drew ⟨by simp, fun j oj hj hl e he hbn => by
    rw [Array.getD_eq_getD_getElem?, Array.getElem?_replicate] at hl
    split at hl <;> cases hl⟩ (wpAny_of_held _ _ _ _ (h hS))
  have e1 : (Array.replicate ops.pop.size false).push false = Array.replicate ops.size false := by
    rw [← hp]; simp [Array.replicate_succ]
  have e2 : ops.pop.size + 1 = ops.size := by rw [← hp]; simp
  rw [hp, e1, e2] at this
  exact this
end
end Go.Proofs.YtakifcobofkheabGreatDoor

/-
  What DumpOf of the program holds between two rounds. Plain facts.
-/
namespace Go.Proofs.YtakifcobofkheabGreatDoor
open Go.RowKit Go.Deep Go.Shelf
set_option linter.unusedVariables false
set_option linter.unusedSimpArgs false

theorem OD.sameAt {W W' : World} {B k : Nat} {Z : Nat → Bool} {m : Nat} {O : Nat → Int} {D : Nat → Nd} {L : Nat → Loc} {lv iv : Value} (h : OD W B k Z m O D L lv iv) (hw : ∀ d b, d < 2 + 2 * m → (valD lv iv D L d).ownBlock = some b → W'.heap[b]? = W.heap[b]?) : OD W' B k Z m O D L lv iv :=
  ⟨⟨fun d hl => owns_same (h.rows.own d hl) fun b hb => hw d b hl hb, h.rows.apart⟩⟩

theorem owns_cells {W : World} {B : Nat} {e : TypeId} {size k : Nat} {v : Value} {xs : List Value} (h : W.ownsRow B e size v k xs) : ∀ (j : Nat) (o : Obj), v.ownBlock = some j → W.heap[j]? = some o → o.isCells = true := by
  intro j o ej hj
  rcases h.2 with ⟨rfl, _⟩ | ⟨g, cap, cur, rfl, _, hgb, _⟩
  · simp [Value.ownBlock] at ej
  · obtain rfl : g = j := by simpa [Value.ownBlock] using ej
    rw [hgb] at hj; cases hj; rfl

/-- What is known between two rounds: X are blocks of the caller's that are no rows. -/
structure IOf (w : World) (X : Nat → Prop) (a : Option Addr) (n c : Nat) (now since : Int) (Z : Nat → Bool) (V : Nat) (la : Option Addr) (lc m : Nat) (ia : Option Addr) (ic : Nat) (O : Nat → Int) (E : Nat → Nd) (M : Nat → Loc) (W : World) : Prop where
  p : Blk W w.heap.size #[.slice a n c, .int .i64 now] 44
  r : Blk W (w.heap.size + 1) #[.int .i64 0, .int .i64 0, .slice none 0 0, .slice none 0 0] 64
  v : Blk W V #[.int .i64 since, .int .i64 now, .slice la n lc, .slice ia m ic] 64
  bel : Below w.heap.size w W
  far : w.heap.size + 2 ≤ V
  od : OD W (w.heap.size + 2) n Z m O E M (.slice la n lc) (.slice ia m ic)
  off : ∀ d b, d < 2 + 2 * m → (valD (.slice la n lc) (.slice ia m ic) E M d).ownBlock = some b → ¬ X b ∧ b ≠ V
  lt : ∀ b, X b → b < W.heap.size

section
variable {w : World} {X : Nat → Prop} {a : Option Addr} {n c : Nat} {now since : Int} {Z : Nat → Bool} {V : Nat} {la : Option Addr} {lc m : Nat} {ia : Option Addr} {ic : Nat} {O : Nat → Int} {E : Nat → Nd} {M : Nat → Loc} {W W1 W' : World}

theorem IOf.below (h : IOf w X a n c now since Z V la lc m ia ic O E M W) (hb : Below W.heap.size W W') : IOf w X a n c now since Z V la lc m ia ic O E M W' :=
  ⟨h.p.below hb h.p.lt, h.r.below hb h.r.lt, h.v.below hb h.v.lt, h.bel.trans (hb.mono (by have := h.p.lt; omega)), h.far, h.od.below hb, h.off, fun b hX => Nat.lt_of_lt_of_le (h.lt b hX) hb.size⟩

theorem IOf.more {Y : Nat → Prop} (h : IOf w X a n c now since Z V la lc m ia ic O E M W) (hY : ∀ b, Y b → (X b ∨ W.heap.size ≤ b) ∧ b < W'.heap.size) (hb : Below W.heap.size W W') : IOf w Y a n c now since Z V la lc m ia ic O E M W' :=
  ⟨h.p.below hb h.p.lt, h.r.below hb h.r.lt, h.v.below hb h.v.lt, h.bel.trans (hb.mono (by have := h.p.lt; omega)), h.far, h.od.below hb, fun d b hd hv => ⟨fun hy => by
    rcases (hY b hy).1 with e | e
    · exact (h.off d b hd hv).1 e
    · have := (owns_block (h.od.rows.own d hd) hv).2; omega, (h.off d b hd hv).2⟩, fun b hy => (hY b hy).2⟩

/-- Blocks that are no cells may turn. -/
theorem IOf.turned {row : Option Nat} {B : Nat} (h : IOf w X a n c now since Z V la lc m ia ic O E M W) (hg : W.grownBy W' row) (hB : w.heap.size ≤ B) (hr : ∀ r, row = some r → B ≤ r ∧ ∃ o : Obj, W.heap[r]? = some o ∧ o.isCells = false) : IOf w X a n c now since Z V la lc m ia ic O E M W' := by
  have kb : ∀ {b : Nat} {cs : Array Value} {t : TypeId}, Blk W b cs t → Blk W' b cs t := fun {b cs t} hb => blk_grown hb hg (fun e => by
    obtain ⟨_, o, ho, hc⟩ := hr b e
    rw [hb] at ho
    cases ho
    cases hc)
  refine ⟨kb h.p, kb h.r, kb h.v, h.bel.grown hg h.bel.size (fun k e => by have := (hr k e).1; omega), h.far, h.od.sameAt (fun d b hd hv => hg.block b (owns_block (h.od.rows.own d hd) hv).2 (fun e => ?_)), h.off, fun b hX => Nat.lt_of_lt_of_le (h.lt b hX) hg.size⟩
  obtain ⟨_, o, ho, hc⟩ := hr b e.symm
  have := owns_cells (h.od.rows.own d hd) b o hv ho
  rw [this] at hc
  cases hc

/-- One place that was turned more, stored. -/
theorem IOf.item (h : IOf w X a n c now since Z V la lc m ia ic O E M W) {x : Nd} {o : Int} {l : Loc} (hN : NewNn W x l W1) {b c' : Nat} (hg : W1.grownBy W' (Value.slice ia m ic).ownBlock)
    (hown : W'.ownsRow (w.heap.size + 2) 100 6 (.slice (some ⟨b, 0, none⟩) (m + 1) c') (m + 1) (rowsI O E M m ++ it6 o x l)) (hb : (Value.slice ia m ic).ownBlock = some b ∨ W1.heap.size ≤ b) :
    IOf w X a n c now since Z V la lc (m + 1) (some ⟨b, 0, none⟩) c' (fun i => if i = m then o else O i) (fun i => if i = m then x else E i) (fun i => if i = m then l else M i) (W'.setCell ⟨V, 3, none⟩ (.slice (some ⟨b, 0, none⟩) (m + 1) c')) := by
  have h1 := h.below hN.bel
  have hfar := h.far
  have hsz := hN.bel.size
  have hof : ∀ j, (Value.slice ia m ic).ownBlock = some j → w.heap.size + 2 ≤ j ∧ j < W.heap.size ∧ ¬ X j ∧ j ≠ V := fun j e => ⟨(owns_block h.od.ownI e).1, (owns_block h.od.ownI e).2, h.off 1 j (by omega) (by simpa [valD] using e)⟩
  have hne : ∀ j, j ≤ w.heap.size + 1 ∨ j = V → (Value.slice ia m ic).ownBlock ≠ some j := fun j hj e => by
    obtain ⟨h2, _, _, h3⟩ := hof j e
    rcases hj with h4 | h4
    · omega
    · exact h3 h4
  have hVl := h.v.lt
  have hbel : Below w.heap.size w W' := h1.bel.grown hg (by have := h1.bel.size; omega) (fun j e => by have := (hof j e).1; omega)
  have hbV : b ≠ V := fun e => by
    rcases hb with h2 | h2
    · exact (hof b h2).2.2.2 e
    · omega
  have hbX : ¬ X b := fun e => by
    rcases hb with h2 | h2
    · exact (hof b h2).2.2.1 e
    · have := h.lt b e; omega
  have hoff : ∀ d b', d < 2 + 2 * (m + 1) → (valD (.slice la n lc) (.slice (some ⟨b, 0, none⟩) (m + 1) c') (fun i => if i = m then x else E i) (fun i => if i = m then l else M i) d).ownBlock = some b' → ¬ X b' ∧ b' ≠ V := fun d b' hd hv => by
    by_cases e1 : d = 1
    · subst e1
      have e : b = b' := by simpa [valD, Value.ownBlock] using hv
      exact e ▸ ⟨hbX, hbV⟩
    · by_cases e0 : d = 0
      · subst e0
        exact h.off 0 b' (by omega) (by simpa [valD] using hv)
      · unfold valD at hv
        rw [if_neg e0, if_neg e1] at hv
        by_cases hm : (d - 2) / 2 = m
        · simp only [hm, if_true] at hv
          have hfr : W.heap.size ≤ b' := by
            split at hv
            · exact (owns_block hN.names hv).1
            · exact (owns_block hN.kids hv).1
          exact ⟨fun e => by have := h.lt b' e; omega, by omega⟩
        · simp only [hm, if_false] at hv
          exact h.off d b' (by omega) (by unfold valD; rw [if_neg e0, if_neg e1]; exact hv)
  have hod := h.od.item (W' := W') hN (by have := h.p.lt; omega) hg hown (fun b' e => by simp [Value.ownBlock] at e; rw [← e]; exact hb)
  refine ⟨(blk_grown h1.p hg (hne _ (by omega))).off _ (by omega), (blk_grown h1.r hg (hne _ (by omega))).off _ (by omega), (blk_grown h1.v hg (hne _ (Or.inr rfl))).set 3 _, bel_put hbel _ (by omega), hfar, ?_, hoff, fun b' hX => ?_⟩
  · exact hod.sameAt fun d b' hd hv => blk_setCell_other _ _ _ _ (by show b' ≠ V; exact (hoff d b' hd hv).2)
  · have := h.lt b' hX
    have h3 := hg.size
    simp
    omega

/-- What the step leaves of other blocks. -/
theorem IOf.keep (h : IOf w X a n c now since Z V la lc m ia ic O E M W) {x : Nd} {l : Loc} (hN : NewNn W x l W1) {v : Value} (hg : W1.grownBy W' (Value.slice ia m ic).ownBlock) {s : Nat} (hs : X s ∨ s < w.heap.size) (hsV : s ≠ V) (hsl : s < W.heap.size) : (W'.setCell ⟨V, 3, none⟩ v).heap[s]? = W.heap[s]? := by
  have h2 := hN.bel.size
  refine (blk_setCell_other _ _ _ _ (show s ≠ V from hsV)).trans ((hg.block s (by omega) (fun e => ?_)).trans (hN.bel.block s hsl))
  have h3 := h.off 1 s (by omega) (by simpa [valD] using e.symm)
  have h4 := (owns_block h.od.ownI e.symm).1
  rcases hs with h5 | h5
  · exact h3.1 h5
  · omega

theorem keeps_bel {W W' : World} (hb : Below W.heap.size W W') : KeepsOthers W W' := ⟨hb.size, fun k o hk _ => (hb.block k (Array.getElem?_eq_some_iff.1 hk).1).trans hk⟩

theorem IOf.others (h : IOf w X a n c now since Z V la lc m ia ic O E M W) {x : Nd} {l : Loc} (hN : NewNn W x l W1) {v : Value} (hg : W1.grownBy W' (Value.slice ia m ic).ownBlock) : KeepsOthers W (W'.setCell ⟨V, 3, none⟩ v) :=
  ((keeps_bel hN.bel).trans (KeepsOthers.of_grownBy hg fun j o ej hj => owns_cells (owns_same h.od.ownI (w' := W1) (fun b hb => hN.bel.block b (owns_block h.od.ownI hb).2)) j o ej hj)).trans (KeepsOthers.setCell _ _ _)
end

theorem rowd_below {W W' : World} {b n : Nat} {t : TypeId} {f : Nat → Value} (h : W.rowIs b t n f) (hb : Below W.heap.size W W') : W'.rowIs b t n f := by
  obtain ⟨c, h1, h2⟩ := h
  exact ⟨c, (hb.block b (Array.getElem?_eq_some_iff.1 h1).1).trans h1, h2⟩

theorem row_owns {W : World} {B b n : Nat} {Z : Nat → Bool} (h : W.rowIs b 4 n (fun i => .bool (Z i))) (hB : B ≤ b) (hn : n ≤ maxLen) : W.ownsRow B 4 1 (.slice (some ⟨b, 0, none⟩) n n) n (boolv n Z) := by
  obtain ⟨cur, h1, h2, h3⟩ := h
  refine ⟨by rw [boolv_len]; omega, Or.inr ⟨b, n, cur, rfl, hB, h1, Nat.le_refl _, hn, by omega, ?_⟩⟩
  apply List.ext_getElem?
  intro i
  rw [List.getElem?_take]
  by_cases hi : i < n
  · rw [if_pos (by omega), Array.getElem?_toList, h3 i hi]
    simp [boolv, hi]
  · rw [if_neg (by omega)]
    simp [boolv, hi]

/-- At the start: nothing was turned yet. -/
theorem IOf.start {w w1 W : World} {a : Option Addr} {n c : Nat} {now since : Int} {Z : Nat → Bool} {V b2 : Nat} {D : Nat → Nd} {L : Nat → Loc} (h : Blk w1 w.heap.size #[.slice a n c, .int .i64 now] 44 ∧ Blk w1 (w.heap.size + 1) #[.int .i64 0, .int .i64 0, .slice none 0 0, .slice none 0 0] 64 ∧ Below w.heap.size w w1)
    (hb : Below w1.heap.size w1 W) (hv : Blk W V #[.int .i64 0, .int .i64 0, .slice none 0 0, .slice none 0 0] 64) (hrow : W.rowIs b2 4 n (fun i => .bool (Z i))) (hV : w1.heap.size ≤ V) (hb2 : w1.heap.size ≤ b2) (hn : n ≤ maxLen) :
    IOf w (fun _ => False) a n c now since Z V (some ⟨b2, 0, none⟩) n 0 none 0 (fun _ => 0) D L ((((W.setCell ⟨V, 0, none⟩ (.int .i64 since)).setCell ⟨V, 1, none⟩ (.int .i64 now)).setCell ⟨V, 2, none⟩ (.slice (some ⟨b2, 0, none⟩) n n)).setCell ⟨V, 3, none⟩ (.slice none 0 0)) := by
  have hne : b2 ≠ V := fun e => by
    obtain ⟨cur, k1, _, _⟩ := hrow
    rw [e] at k1
    have k2 := k1.symm.trans hv
    simp at k2
  obtain ⟨h1, h2, h3⟩ := h
  have l2 := h2.lt
  have hB : Below w.heap.size w W := h3.trans (hb.mono (by omega))
  have hown := row_owns (B := w.heap.size + 2) hrow (by omega) hn
  have hvs : ∀ d, d < 2 + 2 * 0 → d = 0 ∨ d = 1 := fun d hd => by omega
  have hod : OD W (w.heap.size + 2) n Z 0 (fun _ => 0) D L (.slice (some ⟨b2, 0, none⟩) n n) (.slice none 0 0) := ⟨⟨fun d hd => by
    rcases hvs d hd with rfl | rfl
    · exact hown
    · exact World.ownsRow_nil _ _ _ _, fun d d' hd hd' hne b e e' => by
    rcases hvs d hd with rfl | rfl
    · rcases hvs d' hd' with rfl | rfl
      · exact hne rfl
      · simp [valD, Value.ownBlock] at e'
    · simp [valD, Value.ownBlock] at e⟩⟩
  have hoff : ∀ d b, d < 2 + 2 * 0 → (valD (.slice (some ⟨b2, 0, none⟩) n n) (.slice none 0 0) D L d).ownBlock = some b → ¬ False ∧ b ≠ V := fun d b hd e => ⟨id, by
    rcases hvs d hd with rfl | rfl
    · have e' : b2 = b := by simpa [valD, Value.ownBlock] using e
      exact e' ▸ hne
    · simp [valD, Value.ownBlock] at e⟩
  have off : ∀ {j : Nat} {cs : Array Value} {t : TypeId}, Blk W j cs t → j ≠ V → Blk ((((W.setCell ⟨V, 0, none⟩ (.int .i64 since)).setCell ⟨V, 1, none⟩ (.int .i64 now)).setCell ⟨V, 2, none⟩ (.slice (some ⟨b2, 0, none⟩) n n)).setCell ⟨V, 3, none⟩ (.slice none 0 0)) j cs t := fun hj hV => (((hj.off _ hV).off _ hV).off _ hV).off _ hV
  refine ⟨off (h1.below hb h1.lt) (by have := h1.lt; omega), off (h2.below hb h2.lt) (by omega), (((hv.set 0 _).set 1 _).set 2 _).set 3 _, bel_put (bel_put (bel_put (bel_put hB _ (by omega)) _ (by omega)) _ (by omega)) _ (by omega), by omega, ?_, hoff, fun b hX => hX.elim⟩
  refine hod.sameAt fun d b hd e => ?_
  have hbV := (hoff d b hd e).2
  exact (blk_setCell_other _ _ _ _ (show b ≠ V from hbV)).trans ((blk_setCell_other _ _ _ _ (show b ≠ V from hbV)).trans ((blk_setCell_other _ _ _ _ (show b ≠ V from hbV)).trans (blk_setCell_other _ _ _ _ (show b ≠ V from hbV))))

theorem IOf.fresh {w w1 U : World} {a : Option Addr} {n c : Nat} {now since : Int} {Z : Nat → Bool} {b2 : Nat} {D : Nat → Nd} {L : Nat → Loc} (h : Blk w1 w.heap.size #[.slice a n c, .int .i64 now] 44 ∧ Blk w1 (w.heap.size + 1) #[.int .i64 0, .int .i64 0, .slice none 0 0, .slice none 0 0] 64 ∧ Below w.heap.size w w1)
    (hb : Below w1.heap.size w1 U) (hrow : U.rowIs b2 4 n (fun i => .bool (Z i))) (hb2 : w1.heap.size ≤ b2) (hn : n ≤ maxLen) :
    IOf w (fun _ => False) a n c now since Z U.heap.size (some ⟨b2, 0, none⟩) n 0 none 0 (fun _ => 0) D L (U.alloc (.cells #[.int .i64 since, .int .i64 now, .slice (some ⟨b2, 0, none⟩) n n, .slice none 0 0] 64)) := by
  have hb' := hb.alloc hb.size (.cells #[.int .i64 0, .int .i64 0, .slice none 0 0, .slice none 0 0] 64)
  have hU : Below U.heap.size U (U.alloc (.cells #[.int .i64 0, .int .i64 0, .slice none 0 0, .slice none 0 0] 64)) := (Below.refl _ _).alloc (Nat.le_refl _) _
  have := IOf.start (since := since) (D := D) (L := L) h hb' (Blk.new U _ _) (rowd_below hrow hU) hb.size hb2 hn
  simpa [go_sem] using this

/-- A place that is yielded. -/
abbrev Pl (D : Nat → Nd) (n : Nat) (since : Int) := { x : Nat // x < n ∧ since < (D x).turn }

/-- Between two rounds, these places having come. -/
def RndI (w : World) (a : Option Addr) (n c : Nat) (now since : Int) (D : Nat → Nd) (V b2 S : Nat) (pre : List (Pl D n since)) (W : World) : Prop :=
  ∃ ia ic O E M, IOf w (fun j => j = S) a n c now since (fun i => (D i).kind != 0) V (some ⟨b2, 0, none⟩) n pre.length ia ic O E M W ∧ ∀ i, i < pre.length → O i = ((pre.map (·.1)).getD i 0 : Nat) ∧ E i = D ((pre.map (·.1)).getD i 0)

theorem rndI_own {w : World} {a : Option Addr} {n c : Nat} {now since : Int} {D : Nat → Nd} {V b2 S B : Nat} (hB : w.heap.size ≤ B) : OwnFrom B (RndI w a n c now since D V b2 S) := by
  rintro pre A A' row ⟨ia, ic, O, E, M, h, hs⟩ hg hr
  exact ⟨ia, ic, O, E, M, h.turned hg hB hr, hs⟩

theorem own_ne {W : World} {B e t : Nat} {size k : Nat} {v : Value} {xs : List Value} {j : Nat} {cs : Array Value} (h : W.ownsRow B e size v k xs) (hb : Blk W j cs t) (hne : e ≠ t) : v.ownBlock ≠ some j := fun ej => by
  rcases h.2 with ⟨rfl, _⟩ | ⟨g, cap, cur, rfl, _, hgb, _⟩
  · simp [Value.ownBlock] at ej
  · obtain rfl : g = j := by simpa [Value.ownBlock] using ej
    rw [hb] at hgb
    simp at hgb
    exact hne hgb.2.symm

/-- What a round leaves. -/
theorem rnd_step {w : World} {a : Option Addr} {n c : Nat} {now since : Int} {D : Nat → Nd} {V b2 S B b0 : Nat} {pre : List (Pl D n since)} {x : Pl D n since} {ia : Option Addr} {ic : Nat} {O : Nat → Int} {E : Nat → Nd} {M : Nat → Loc} {W W1 W' : World}
    (h : IOf w (fun j => j = S) a n c now since (fun i => (D i).kind != 0) V (some ⟨b2, 0, none⟩) n pre.length ia ic O E M W) (hsel : ∀ i, i < pre.length → O i = ((pre.map (·.1)).getD i 0 : Nat) ∧ E i = D ((pre.map (·.1)).getD i 0))
    {l : Loc} (hN : NewNn W (D x.1) l W1) {g c' : Nat} (hg : W1.grownBy W' (Value.slice ia pre.length ic).ownBlock)
    (hown : W'.ownsRow (w.heap.size + 2) 100 6 (.slice (some ⟨g, 0, none⟩) (pre.length + 1) c') (pre.length + 1) (rowsI O E M pre.length ++ it6 (x.1 : Nat) (D x.1) l)) (hb : (Value.slice ia pre.length ic).ownBlock = some g ∨ W1.heap.size ≤ g) (hSV : S ≠ V) (hb0 : b0 < w.heap.size) :
    KeepsFrom B W (W'.setCell ⟨V, 3, none⟩ (.slice (some ⟨g, 0, none⟩) (pre.length + 1) c')) ∧ KeepsTwo S b0 W (W'.setCell ⟨V, 3, none⟩ (.slice (some ⟨g, 0, none⟩) (pre.length + 1) c')) ∧ RndI w a n c now since D V b2 S (pre ++ [x]) (W'.setCell ⟨V, 3, none⟩ (.slice (some ⟨g, 0, none⟩) (pre.length + 1) c')) := by
  have hfar := h.far
  have hsz := h.bel.size
  refine ⟨(h.others hN hg).from _, ⟨h.keep hN hg (Or.inl rfl) hSV (h.lt S rfl), h.keep hN hg (Or.inr hb0) (by omega) (by omega)⟩, some ⟨g, 0, none⟩, c', (fun i => if i = pre.length then ((x.1 : Nat) : Int) else O i), (fun i => if i = pre.length then D x.1 else E i), (fun i => if i = pre.length then l else M i), ?_, ?_⟩
  · rw [List.length_append]
    exact h.item hN hg hown hb
  · intro i hi
    rw [List.map_append]
    simp only [List.length_append, List.length_singleton] at hi
    by_cases e : i = pre.length
    · have e2 : (pre.map (·.1) ++ [x].map (·.1)).getD i 0 = x.1 := by rw [List.getD_eq_getElem?_getD, List.getElem?_append_right (by rw [List.length_map]; omega), List.length_map, e]; simp
      rw [e2]
      exact ⟨if_pos e, if_pos e⟩
    · have hi' : i < pre.length := by omega
      have := hsel i hi'
      have e2 : (pre.map (·.1) ++ [x].map (·.1)).getD i 0 = (pre.map (·.1)).getD i 0 := by rw [List.getD_eq_getElem?_getD, List.getD_eq_getElem?_getD, List.getElem?_append_left (by rw [List.length_map]; exact hi')]
      rw [e2]
      exact ⟨(if_neg e).trans this.1, (if_neg e).trans this.2⟩

/-- At the call's end. -/
theorem rnd_done {w : World} {X : Nat → Prop} {a : Option Addr} {n c : Nat} {now since : Int} {Z : Nat → Bool} {V : Nat} {la : Option Addr} {lc m : Nat} {ia : Option Addr} {ic : Nat} {O : Nat → Int} {E : Nat → Nd} {M : Nat → Loc} {U : World} {K : Nat} (h : IOf w X a n c now since Z V la lc m ia ic O E M U) (hK : U.heap[K]? = some (.deferred (some []))) (hl : w.heap.size + 2 ≤ K) :
    let U4 := (((U.setCell ⟨w.heap.size + 1, 0, none⟩ (.int .i64 since)).setCell ⟨w.heap.size + 1, 1, none⟩ (.int .i64 now)).setCell ⟨w.heap.size + 1, 2, none⟩ (.slice la n lc)).setCell ⟨w.heap.size + 1, 3, none⟩ (.slice ia m ic)
    U4.heap[K]? = some (.deferred (some [])) ∧ Blk (U4.putObj K (.deferred none)) (w.heap.size + 1) #[.int .i64 since, .int .i64 now, .slice la n lc, .slice ia m ic] 64 ∧ Below w.heap.size w (U4.putObj K (.deferred none)) ∧ OD (U4.putObj K (.deferred none)) w.heap.size n Z m O E M (.slice la n lc) (.slice ia m ic) := by
  intro U4
  have hset : ∀ b, b ≠ w.heap.size + 1 → U4.heap[b]? = U.heap[b]? := fun b hb => (blk_setCell_other _ _ _ _ (show b ≠ w.heap.size + 1 from hb)).trans ((blk_setCell_other _ _ _ _ (show b ≠ w.heap.size + 1 from hb)).trans ((blk_setCell_other _ _ _ _ (show b ≠ w.heap.size + 1 from hb)).trans (blk_setCell_other _ _ _ _ (show b ≠ w.heap.size + 1 from hb))))
  have hK4 : U4.heap[K]? = some (.deferred (some [])) := (hset K (by omega)).trans hK
  have hr : Blk U4 (w.heap.size + 1) #[.int .i64 since, .int .i64 now, .slice la n lc, .slice ia m ic] 64 := (((h.r.set 0 _).set 1 _).set 2 _).set 3 _
  have hb4 : Below w.heap.size w U4 := bel_put (bel_put (bel_put (bel_put h.bel _ (by omega)) _ (by omega)) _ (by omega)) _ (by omega)
  have hg := grownBy_putObj' U4 K (.deferred none)
  refine ⟨hK4, blk_grown hr hg (fun e => by simp at e; omega), hb4.grown hg hb4.size (fun k e => by cases e; omega), ?_⟩
  refine (h.od.lower (by omega)).sameAt fun d b hd hv => ?_
  have h1 := owns_block (h.od.rows.own d hd) hv
  have hbK : b ≠ K := fun e => by
    have := owns_cells (h.od.rows.own d hd) b _ hv (e ▸ hK)
    cases this
  exact (World.putObj_heap_other hbK).trans (hset b (by omega))

theorem sel_same {n : Nat} {D : Nat → Nd} {now since : Int} (hg : TreeGood n D now) (h0 : 0 ≤ since) : selT D since n = selTo D since n := by
  unfold selT selTo
  apply List.filter_congr
  intro i hi
  have hi' : i < n := by simpa using hi
  have hn := hg.nodes i hi'
  unfold turnedB
  by_cases hk : (D i).kind = 0
  · unfold ndOk at hn
    rw [if_pos hk] at hn
    have ht : (D i).turn = 0 := by
      unfold freeOk at hn
      simp at hn
      exact hn.2
    simp [hk, ht]
    omega
  · simp [hk]
end Go.Proofs.YtakifcobofkheabGreatDoor

/-
  What l6Item of the specification answers, and a copy of truth values by slices.Clone.
-/
namespace Go.Proofs.YtakifcobofkheabGreatDoor
open Go.RowKit Go.Deep
set_option linter.unusedVariables false
set_option linter.unusedSimpArgs false

theorem wp_cutq3 {X Y Z : Type} (F : X → Y → Z → World → Prop) {P : Program} {c : Code} {Q : Exit → Act → World → Prop} {a : Act} {w : World} (A : X → Y → Z → Act)
    (leaf : (∀ x y z W, F x y z W → Q .normal (A x y z) W) → c.wp P Q a w) (k : ∀ x y z W, F x y z W → Q .normal (A x y z) W) : c.wp P Q a w := leaf k

/-- At the start: the truth values alone. -/
theorem GOf.start {w W0 W : World} {X : Nat → Prop} {since date : Int} {n : Nat} {Z : Nat → Bool} {V g c' : Nat} {O : Nat → Int} {E : Nat → Nd} {M : Nat → Loc} (hbw : Below w.heap.size w W0) (hX : ∀ j, X j → j < W0.heap.size) (hb : Below W0.heap.size W0 W) (hV : W0.heap.size ≤ V)
    (hv : Blk W V #[.int .i64 since, .int .i64 date, .slice (some ⟨g, 0, none⟩) n c', .slice none 0 0] 64) (hown : W.ownsRow W0.heap.size 4 1 (.slice (some ⟨g, 0, none⟩) n c') n (boolv n Z)) :
    GOf w W0 W0.heap.size X since date n Z V (some ⟨g, 0, none⟩) c' 0 none 0 O E M W := by
  have hne : g ≠ V := fun e => own_ne hown hv (by decide) (by rw [e]; rfl)
  have hgl : W0.heap.size ≤ g := (owns_block hown rfl).1
  have hvs : ∀ d, d < 2 + 2 * 0 → d = 0 ∨ d = 1 := fun d hd => by omega
  refine ⟨hv, hbw.trans (hb.mono hbw.size), fun b hx => hb.block b (hX b hx), fun b hx => Nat.lt_of_lt_of_le (hX b hx) hb.size, fun hx => by have := hX V hx; omega, by have := hbw.size; omega, hbw.size, ⟨⟨fun d hd => ?_, fun d d' hd hd' hn b e e' => ?_⟩⟩, fun d b hd e => ?_⟩
  · rcases hvs d hd with rfl | rfl
    · exact hown
    · exact World.ownsRow_nil _ _ _ _
  · rcases hvs d hd with rfl | rfl
    · rcases hvs d' hd' with rfl | rfl
      · exact hn rfl
      · simp [valD, Value.ownBlock] at e'
    · simp [valD, Value.ownBlock] at e
  · rcases hvs d hd with rfl | rfl
    · have e' : g = b := by simpa [valD, Value.ownBlock] using e
      exact e' ▸ ⟨fun hx => by have := hX g hx; omega, hne⟩
    · simp [valD, Value.ownBlock] at e

theorem GOf.start4 {w W0 U : World} {X : Nat → Prop} {since date : Int} {n : Nat} {Z : Nat → Bool} {V g c' : Nat} {O : Nat → Int} {E : Nat → Nd} {M : Nat → Loc} (hbw : Below w.heap.size w W0) (hX : ∀ j, X j → j < W0.heap.size) (hb : Below W0.heap.size W0 U) (hV : W0.heap.size ≤ V)
    (hv : Blk U V #[.int .i64 0, .int .i64 0, .slice none 0 0, .slice none 0 0] 64) (hown : U.ownsRow W0.heap.size 4 1 (.slice (some ⟨g, 0, none⟩) n c') n (boolv n Z)) :
    GOf w W0 W0.heap.size X since date n Z V (some ⟨g, 0, none⟩) c' 0 none 0 O E M ((((U.setCell ⟨V, 0, none⟩ (.int .i64 since)).setCell ⟨V, 1, none⟩ (.int .i64 date)).setCell ⟨V, 2, none⟩ (.slice (some ⟨g, 0, none⟩) n c')).setCell ⟨V, 3, none⟩ (.slice none 0 0)) := by
  have hne : g ≠ V := fun e => own_ne hown hv (by decide) (by rw [e]; rfl)
  refine GOf.start hbw hX (bel_put (bel_put (bel_put (bel_put hb _ hV) _ hV) _ hV) _ hV) hV ((((hv.set 0 _).set 1 _).set 2 _).set 3 _) (owns_same hown fun b e => ?_)
  have e' : g = b := by simpa [Value.ownBlock] using e
  have hbV : b ≠ V := e' ▸ hne
  exact (blk_setCell_other _ _ _ _ (show b ≠ V from hbV)).trans ((blk_setCell_other _ _ _ _ (show b ≠ V from hbV)).trans ((blk_setCell_other _ _ _ _ (show b ≠ V from hbV)).trans (blk_setCell_other _ _ _ _ (show b ≠ V from hbV))))

theorem GOf.start1 {w W0 U : World} {X : Nat → Prop} {since date : Int} {n : Nat} {Z : Nat → Bool} {g c' : Nat} {O : Nat → Int} {E : Nat → Nd} {M : Nat → Loc} (hbw : Below w.heap.size w W0) (hX : ∀ j, X j → j < W0.heap.size) (hb : Below W0.heap.size W0 U)
    (hown : U.ownsRow W0.heap.size 4 1 (.slice (some ⟨g, 0, none⟩) n c') n (boolv n Z)) :
    GOf w W0 W0.heap.size X since date n Z U.heap.size (some ⟨g, 0, none⟩) c' 0 none 0 O E M (U.alloc (.cells #[.int .i64 since, .int .i64 date, .slice (some ⟨g, 0, none⟩) n c', .slice none 0 0] 64)) :=
  GOf.start hbw hX (hb.alloc hb.size _) hb.size (Blk.new U _ _) (hown.alloc _)

theorem bools_shape {W : World} {B : Nat} {v : Value} {n : Nat} {xs : List Value} (h : W.ownsRow B 4 1 v n xs) (hn : 1 ≤ n) : ∃ g c, v = .slice (some ⟨g, 0, none⟩) n c := by
  rcases h.2 with ⟨_, h0⟩ | ⟨g, cap, _, rfl, _⟩
  · omega
  · exact ⟨g, cap, rfl⟩

theorem bools_src {W : World} {a : Option Addr} {n : Nat} {Z : Nat → Bool} (h : IsBools W a n Z) (hn : 1 ≤ n) (c : Nat) : Src W 1 (.slice a n c) n (boolv n Z) := by
  obtain ⟨b, off, rfl, hbl, hc⟩ := h.at (show 0 < n by omega)
  refine ⟨by rw [boolv_len]; omega, fun u hu => by unfold boolv at hu; obtain ⟨i, _, rfl⟩ := List.mem_map.1 hu; rfl, Or.inr ⟨⟨b, off, none⟩, c, rfl, fun j u hu => ?_⟩⟩
  have hj : j < n := by
    rcases Nat.lt_or_ge j n with e | e
    · exact e
    · rw [List.getElem?_eq_none (by rw [boolv_len]; omega)] at hu; cases hu
  rw [addr_add, hc j hj]
  simp [boolv, hj] at hu
  rw [hu]

theorem ok_head1 {d : Dp} (h : d.ok = true) : 1 ≤ d.ln ∧ d.ln ≤ 10 := by
  unfold Dp.ok headIn at h
  simp at h
  omega

theorem thenOk_a {a b : Dp} (h : a.ok = false) : thenOk a b = false := by unfold thenOk; rw [h]; rfl
theorem thenOk_b {a b : Dp} (h : b.ok = false) : thenOk a b = false := by unfold thenOk; rw [h]; simp
theorem thenOk_d {a b : Dp} (h : a.date ≠ b.since) : thenOk a b = false := by unfold thenOk; simp [h]
theorem thenOk_is {a b : Dp} (h1 : a.ok = true) (h2 : b.ok = true) (h3 : a.date = b.since) : thenOk a b = (thenDp a b).ok := by unfold thenOk; rw [h1, h2, h3]; simp

theorem m_small {d : Dp} (h : d.ok = true) : d.m ≤ 10 := by
  rcases Nat.lt_or_ge 10 d.m with hg | hg
  · exfalso
    have key : ∀ i, i < d.m → (i : Int) ≤ d.ino i := fun i => by
      induction i with
      | zero => intro hi; exact (ok_live h hi).1
      | succ i ih => intro hi; have h1 := ih (by omega); have h2 := ok_asc h (i + 1) i (by omega) hi; omega
    have h1 := key 10 hg
    have h2 := (ok_live h hg).2.1
    have h3 := (ok_head1 h).2
    omega
  · exact hg

/-- A number, or -1. -/
def ixI : Option Nat → Int | some i => (i : Int) | none => -1

/-- What is known within l6Item. -/
structure D6In (w : World) (d : Dp) (l : DLoc) (W : World) : Prop where
  p : Blk W w.heap.size #[.int .i64 d.since, .int .i64 d.date, .slice l.lA d.ln l.lc, .slice l.iA d.m l.ic] 64
  bel : Below w.heap.size w W

set_option maxHeartbeats 1000000 in
theorem l6Item_any (d : Dp) (l : DLoc) (z : Int) (w : World) (hI : DpIn w d l) (hm : d.m ≤ maxLen) (hinj : ∀ i j, i < d.m → j < d.m → d.ino i = d.ino j → i = j) :
    Calls Tryz.prog 87 #[dpV d l, .int .i64 z] w fun e w' => Below w.heap.size w w' ∧ e = .returned (.int .i64 (ixI (ixOf d.ino d.m z))) := by
  unfold maxLen at hm
  unfold dpV
  go_enter Tryz.func87, Tryz.ntmps87
  go_wp2
  go_loopw [5] (fun i wr => ∃ k : Nat, k ≤ d.m ∧ i = .int .i64 k ∧ D6In w d l wr ∧ ∀ j, j < k → d.ino j ≠ z) (fun i _ => d.m - (intOf i).toNat)
  case atStart => exact ⟨0, Nat.zero_le _, rfl, ⟨(new1 w _ _).b0, (new1 w _ _).bel⟩, fun j hj => by omega⟩
  case round =>
    obtain ⟨k, hk, rfl, hin, hne⟩ := hrel
    have p3 : wr.cell? ⟨w.heap.size, 3, none⟩ = some (.slice l.iA d.m l.ic) := hin.p.cell 3
    have HIN : Hid (D6In w d l wr ∧ ∀ j, j < k → d.ino j ≠ z) := ⟨hin, hne⟩
    by_cases hlt : k < d.m
    · obtain ⟨b, off, hA, hbl, hc⟩ := (hI.items.below (Nat.le_refl _) hin.bel).at hlt
      obtain ⟨c0, _⟩ := hc k hlt
      rw [hA] at p3
      have hlti : (k : Int) < (d.m : Int) := by omega
      clear hc hA hin hne
      by_cases hz : d.ino k = z
      · have hzb : (d.ino k == z) = true := by simp [hz]
        have HZ : Hid (ixOf d.ino d.m z = some k) := ixOf_one hinj hlt hz
        clear hz
        go_wp2
        go_ret
        exact ⟨HIN.out.1.bel, by rw [HZ.out]; rfl⟩
      · have hzb : (d.ino k == z) = false := by simp [hz]
        have HZ : Hid (d.ino k ≠ z) := hz
        clear hz
        go_wp2
        go_roundw
        case rel => exact ⟨k + 1, by omega, by go_num, HIN.out.1, fun j hj => by
          by_cases e : j = k
          · subst e; exact HZ.out
          · exact HIN.out.2 j (by omega)⟩
        case measure => simp [intOf]; omega
    · have hke : k = d.m := by omega
      have HZ : Hid (ixOf d.ino d.m z = none) := by
        show _ = _
        cases e : ixOf d.ino d.m z with
        | none => rfl
        | some i => exact absurd (ixOf_some e).2 (HIN.out.2 i (by have := (ixOf_some e).1; omega))
      clear hin hne hke
      go_wp2
      go_ret
      exact ⟨HIN.out.1.bel, by rw [HZ.out]; rfl⟩

end Go.Proofs.YtakifcobofkheabGreatDoor

/-
  What NodeSame of the specification answers at two places.
-/
namespace Go.Proofs.YtakifcobofkheabGreatDoor
open Go.RowKit
set_option linter.unusedVariables false
end Go.Proofs.YtakifcobofkheabGreatDoor

/-
  What DumpSame of the specification answers.
-/
namespace Go.Proofs.YtakifcobofkheabGreatDoor
open Go.RowKit
set_option linter.unusedVariables false

/-- What is known within DumpSame. -/
structure DSIn (w : World) (d e : Dp) (l k : DLoc) (t : TypeId) (W : World) : Prop where
  p : Blk W w.heap.size #[.int .i64 d.since, .int .i64 d.date, .slice l.lA d.ln l.lc, .slice l.iA d.m l.ic] t
  p' : Blk W (w.heap.size + 1) #[.int .i64 e.since, .int .i64 e.date, .slice k.lA e.ln k.lc, .slice k.iA e.m k.ic] t
  bel : Below w.heap.size w W

theorem DSIn.below {w : World} {d e : Dp} {l k : DLoc} {t : TypeId} {W W' : World} (h : DSIn w d e l k t W) (hb : Below W.heap.size W W') : DSIn w d e l k t W' :=
  ⟨h.p.below hb h.p.lt, h.p'.below hb h.p'.lt, h.bel.trans (hb.mono (by have := h.p.lt; omega))⟩

theorem DSIn.drew {w : World} {d e : Dp} {l k : DLoc} {t : TypeId} {W : World} (h : DSIn w d e l k t W) (q : Nat) : DSIn w d e l k t (W.drewN q) := h.below (below_drewN (Below.refl _ _) q)

theorem same_since {d e : Dp} (h : (d.since == e.since) = false) : false = d.same e := by unfold Dp.same; rw [h]; rfl
theorem same_date {d e : Dp} (h : (d.date == e.date) = false) : false = d.same e := by unfold Dp.same; rw [h]; simp
theorem same_ln {d e : Dp} (h : ¬ d.ln = e.ln) : false = d.same e := by unfold Dp.same; simp [h]
theorem same_m {d e : Dp} (h : ¬ d.m = e.m) : false = d.same e := by unfold Dp.same; simp [h]
theorem same_live {d e : Dp} (h : false = eqB d.ln d.live e.live) : false = d.same e := by unfold Dp.same; rw [← h]; simp
theorem same_items {d e : Dp} (h : false = sameIts d.m d.ino e.ino d.nd e.nd) : false = d.same e := by unfold Dp.same; rw [← h]; simp
theorem same_all {d e : Dp} (h1 : (d.since == e.since) = true) (h2 : (d.date == e.date) = true) (h3 : d.ln = e.ln) (h4 : eqB d.ln d.live e.live = true) (h5 : d.m = e.m) (h6 : sameIts d.m d.ino e.ino d.nd e.nd = true) : true = d.same e := by
  unfold Dp.same; rw [h1, h2, h4, h6]; simp [h3, h5]

end Go.Proofs.YtakifcobofkheabGreatDoor

/-
  What DumpOk of the specification answers.
-/
namespace Go.Proofs.YtakifcobofkheabGreatDoor
open Go.RowKit
set_option linter.unusedVariables false

/-- What is known within l5Kids and l5Item: what is kept in one block, more cells in the next. -/
structure DKIn (w : World) (d : Dp) (l : DLoc) (cs : Array Value) (t : TypeId) (W : World) : Prop where
  p : Blk W w.heap.size #[.int .i64 d.since, .int .i64 d.date, .slice l.lA d.ln l.lc, .slice l.iA d.m l.ic] 64
  x : Blk W (w.heap.size + 1) cs t
  bel : Below w.heap.size w W

theorem DKIn.below {w : World} {d : Dp} {l : DLoc} {cs : Array Value} {t : TypeId} {W W' : World} (h : DKIn w d l cs t W) (hb : Below W.heap.size W W') : DKIn w d l cs t W' :=
  ⟨h.p.below hb h.p.lt, h.x.below hb h.x.lt, h.bel.trans (hb.mono (by have := h.p.lt; omega))⟩
theorem DKIn.drew {w : World} {d : Dp} {l : DLoc} {cs : Array Value} {t : TypeId} {W : World} (h : DKIn w d l cs t W) (q : Nat) : DKIn w d l cs t (W.drewN q) := h.below (below_drewN (Below.refl _ _) q)

set_option maxHeartbeats 2000000 in
theorem l5Kids_any (d : Dp) (l : DLoc) (x : Nd) (lo : Loc) (w : World) (hD : DpIn w d l) (hI : NdIn w x lo) (hfd : d.Fits) (hf : x.Fits) :
    Calls Tryz.prog 110 #[dpV d l, ndV x lo] w fun e w' => Below w.heap.size w w' ∧ e = .returned (.bool (kidsIn d.ln d.live x.kids x.kn && decide (x.kn = x.nn))) := by
  have hkn := hf.kn
  have hnn := hf.nn
  have hln := hfd.ln
  unfold maxLen at hkn hnn hln
  unfold dpV ndV
  go_enter Tryz.func110, Tryz.ntmps110
  go_wp2
  go_loopw [5] (fun i wr => ∃ k : Nat, k ≤ x.kn ∧ i = .int .i64 k ∧ DKIn w d l #[.int .i64 x.kind, .string x.text, .slice lo.nA x.nn lo.nc, .slice lo.kA x.kn lo.kc, .int .i64 x.turn] 28 wr ∧ kidsIn d.ln d.live x.kids k = true) (fun i _ => x.kn - (intOf i).toNat)
  case atStart =>
    have h := new2 w #[.int .i64 d.since, .int .i64 d.date, .slice l.lA d.ln l.lc, .slice l.iA d.m l.ic] 64 #[.int .i64 x.kind, .string x.text, .slice lo.nA x.nn lo.nc, .slice lo.kA x.kn lo.kc, .int .i64 x.turn] 28
    exact ⟨0, Nat.zero_le _, rfl, ⟨h.b0, h.b1, h.bel⟩, rfl⟩
  case round =>
    obtain ⟨k, hk, rfl, hin, heq⟩ := hrel
    have t2 : wr.cell? ⟨w.heap.size, 2, none⟩ = some (.slice l.lA d.ln l.lc) := hin.p.cell 2
    have d2 : wr.cell? ⟨w.heap.size + 1, 2, none⟩ = some (.slice lo.nA x.nn lo.nc) := hin.x.cell 2
    have d3 : wr.cell? ⟨w.heap.size + 1, 3, none⟩ = some (.slice lo.kA x.kn lo.kc) := hin.x.cell 3
    have hLr := hD.live.below (Nat.le_refl _) hin.bel
    have hIr := hI.2.below (Nat.le_refl _) hin.bel
    have HE : Hid (kidsIn d.ln d.live x.kids k = true ∧ DKIn w d l _ 28 wr) := ⟨heq, hin⟩
    clear heq hin
    by_cases hlt : k < x.kn
    · obtain ⟨b, off, hka, hlt2, hc⟩ := hIr.at hlt
      rw [hka] at d3
      have h1 := hc k hlt
      have hlti : (k : Int) < (x.kn : Int) := by omega
      have HKA : Hid _ := hka
      clear hc hka
      have hz := hf.kids k hlt
      unfold In64 at hz
      have bad : kidIn d.ln d.live (x.kids k) = false → Hid (kidsIn d.ln d.live x.kids x.kn = false) := fun h => kidsIn_bad hlt h
      by_cases hz1 : x.kids k < 1
      · have H : Hid (kidsIn d.ln d.live x.kids x.kn = false) := bad (by unfold kidIn; rw [decide_eq_false (show ¬ 1 ≤ x.kids k by omega)]; rfl)
        have hb1 : decide (x.kids k < 1) = true := by simp; omega
        clear bad
        go_wp2_with fail
        go_quiet (fail)
        go_wp2
        go_ret
        exact ⟨(HE.out.2.drew _).bel, ret_bool (by rw [H.out]; rfl)⟩
      · have hb1 : decide (x.kids k < 1) = false := by simp; omega
        by_cases hz2 : (d.ln : Int) ≤ x.kids k
        · have H : Hid (kidsIn d.ln d.live x.kids x.kn = false) := bad (by unfold kidIn; rw [decide_eq_false (show ¬ x.kids k < d.ln by omega)]; simp)
          have hb2 : decide ((d.ln : Int) ≤ x.kids k) = true := by simp; omega
          clear bad
          go_wp2_with fail
          go_quiet (fail)
          go_wp2
          go_ret
          exact ⟨(HE.out.2.drew _).bel, ret_bool (by rw [H.out]; rfl)⟩
        · obtain ⟨j, hj⟩ : ∃ j : Nat, x.kids k = j := ⟨(x.kids k).toNat, by omega⟩
          have hjn : j < d.ln := by omega
          obtain ⟨b', off', ha, hlt2', hc'⟩ := hLr.at hjn
          have g0 := hc' j hjn
          have hko : kidIn d.ln d.live (x.kids k) = d.live j := by
            unfold kidIn; rw [decide_eq_true (show 1 ≤ x.kids k by omega), decide_eq_true (show x.kids k < d.ln by omega), hj]; simp
          clear hc'
          rw [ha] at t2
          have HLA : Hid _ := ha
          clear ha hb1
          rw [hj] at h1 hz1 hz2 hz
          have hb1 : decide ((j : Int) < 1) = false := by simp; omega
          have hb2 : decide ((d.ln : Int) ≤ (j : Int)) = false := by simp; omega
          have hjl : (j : Int) < (d.ln : Int) := by omega
          cases hkd : d.live j with
          | false =>
            have H : Hid (kidsIn d.ln d.live x.kids x.kn = false) := bad (by rw [hko, hkd])
            rw [hkd] at g0
            clear bad hko hkd hj
            go_wp2_with fail
            go_quiet (fail)
            go_wp2
            go_ret
            exact ⟨(HE.out.2.drew _).bel, ret_bool (by rw [H.out]; rfl)⟩
          | true =>
            have H : Hid (kidIn d.ln d.live (x.kids k) = true) := by show _ = _; rw [hko, hkd]
            rw [hkd] at g0
            clear bad hko hkd hj
            go_wp2_with fail
            go_quiet (fail)
            go_wp2
            go_roundw
            case rel => exact ⟨k + 1, by omega, by go_num, HE.out.2.drew _, kidsIn_succ HE.out.1 H.out⟩
            case measure => simp [intOf]; omega
    · have hke : k = x.kn := by omega
      have HK : Hid (kidsIn d.ln d.live x.kids x.kn = true) := by have := HE.out.1; rw [hke] at this; exact this
      clear hke hLr hIr
      go_wp2
      go_ret
      refine ⟨HE.out.2.bel, ret_bool ?_⟩
      rw [HK.out, Bool.true_and]
      by_cases h : x.kn = x.nn
      · simp [h]
      · rw [decide_eq_false h]
        simp
        omega
end Go.Proofs.YtakifcobofkheabGreatDoor

/-
  What l5Item and DumpOk of the specification answer.
-/
namespace Go.Proofs.YtakifcobofkheabGreatDoor
open Go.RowKit
set_option linter.unusedVariables false

theorem it_dead {d : Dp} {o : Int} {x : Nd} (h : liveIn d.ln d.live o = false) : false = itIn d o x := by unfold itIn; rw [h]; rfl
theorem it_turn {d : Dp} {o : Int} {x : Nd} (h : turnedIn d x = false) : false = itIn d o x := by unfold itIn; rw [h]; simp
theorem it_node {d : Dp} {o : Int} {x : Nd} (h1 : liveIn d.ln d.live o = true) (h2 : turnedIn d x = true) : nodeIn d o x = itIn d o x := by unfold itIn; rw [h1, h2]; rfl

/-- The cells of a place that was turned. -/
def itC (o : Int) (x : Nd) (lo : Loc) : Array Value := #[.int .i64 o, .int .i64 x.kind, .string x.text, .slice lo.nA x.nn lo.nc, .slice lo.kA x.kn lo.kc, .int .i64 x.turn]

set_option maxHeartbeats 4000000 in
theorem l5Item_any (d : Dp) (l : DLoc) (o : Int) (x : Nd) (lo : Loc) (w : World) (hD : DpIn w d l) (hI : NdIn w x lo) (hfd : d.Fits) (hf : x.Fits) :
    Calls Tryz.prog 86 #[dpV d l, itV o x lo] w fun e w' => Below w.heap.size w w' ∧ e = .returned (.bool (itIn d o x)) := by
  have hkn := hf.kn
  have hnn := hf.nn
  have hln := hfd.ln
  unfold maxLen at hkn hnn hln
  unfold dpV itV
  have hend : ∀ (c0 c1 : Array Value) (t0 t1 : TypeId), Below w.heap.size w ((w.alloc (.cells c0 t0)).alloc (.cells c1 t1)) := fun c0 c1 t0 t1 => ((Below.refl _ _).alloc (Nat.le_refl _) _).alloc (by simp) _
  have HEND : Hid _ := hend
  clear hend
  by_cases h1 : o < 0
  · have hb1 : decide (o < 0) = true := by simp; omega
    have HX : Hid (false = itIn d o x) := it_dead (by unfold liveIn; rw [decide_eq_false (show ¬ 0 ≤ o by omega)]; rfl)
    go_enter Tryz.func86, Tryz.ntmps86
    go_wp2_with fail
    go_ret
    exact ⟨HEND.out _ _ _ _, ret_bool HX.out⟩
  have hb1 : decide (o < 0) = false := by simp; omega
  by_cases h2 : (d.ln : Int) ≤ o
  · have hb2 : decide ((d.ln : Int) ≤ o) = true := by simp; omega
    have HX : Hid (false = itIn d o x) := it_dead (by unfold liveIn; rw [decide_eq_false (show ¬ o < d.ln by omega)]; simp)
    go_enter Tryz.func86, Tryz.ntmps86
    go_wp2_with fail
    go_ret
    exact ⟨HEND.out _ _ _ _, ret_bool HX.out⟩
  have hb2 : decide ((d.ln : Int) ≤ o) = false := by simp; omega
  obtain ⟨j, rfl⟩ : ∃ j : Nat, o = j := ⟨o.toNat, by omega⟩
  have hjn : j < d.ln := by omega
  have hjl : (j : Int) < (d.ln : Int) := by omega
  obtain ⟨b, off, hA, hlt2, hc⟩ := hD.live.at hjn
  have g0 := hc j hjn
  have hbne : b ≠ w.heap.size := by omega
  have hbne' : b ≠ w.heap.size + 1 := by omega
  have hblt' : b < w.heap.size + 1 := by omega
  have HLA : Hid (l.lA = some ⟨b, off, none⟩) := hA
  rw [hA]
  clear hc hA
  cases hlv : d.live j with
  | false =>
    have HX : Hid (false = itIn d j x) := it_dead (by unfold liveIn; simp [hlv])
    rw [hlv] at g0
    clear hlv
    go_enter Tryz.func86, Tryz.ntmps86
    go_wp2_with fail
    go_ret
    exact ⟨HEND.out _ _ _ _, ret_bool HX.out⟩
  | true =>
  have HL : Hid (liveIn d.ln d.live (j : Int) = true) := by show _ = _; unfold liveIn; simp [hlv]; omega
  rw [hlv] at g0
  clear hlv
  by_cases h3 : x.turn ≤ d.since
  · have hb3 : decide (x.turn ≤ d.since) = true := by simp; omega
    have HX : Hid (false = itIn d j x) := it_turn (by unfold turnedIn; rw [decide_eq_false (show ¬ d.since < x.turn by omega)]; rfl)
    go_enter Tryz.func86, Tryz.ntmps86
    go_wp2_with fail
    go_ret
    exact ⟨HEND.out _ _ _ _, ret_bool HX.out⟩
  have hb3 : decide (x.turn ≤ d.since) = false := by simp; omega
  by_cases h4 : d.date < x.turn
  · have hb4 : decide (d.date < x.turn) = true := by simp; omega
    have HX : Hid (false = itIn d j x) := it_turn (by unfold turnedIn; rw [decide_eq_false (show ¬ x.turn ≤ d.date by omega)]; simp)
    go_enter Tryz.func86, Tryz.ntmps86
    go_wp2_with fail
    go_ret
    exact ⟨HEND.out _ _ _ _, ret_bool HX.out⟩
  have hb4 : decide (d.date < x.turn) = false := by simp; omega
  have HN : Hid (nodeIn d j x = itIn d j x) := it_node HL.out (by unfold turnedIn; rw [decide_eq_true (show d.since < x.turn by omega), decide_eq_true (show x.turn ≤ d.date by omega)]; rfl)
  clear HL
  by_cases k1 : x.kind = 1
  · have c1 : (x.kind == 1) = true := by simp [k1]
    have H : Hid ((fileIs x && decide ((0 : Int) < j)) = itIn d j x) := by show _ = _; rw [← HN.out]; unfold nodeIn; rw [if_pos k1]
    clear k1 HN
    go_enter Tryz.func86, Tryz.ntmps86
    go_wp2_with fail
    refine (l2Text_any x.text _ hf.text).mono ?_
    rintro e w1 ⟨rfl, rfl⟩
    cases htx : textOk x.text with
    | false =>
      have HT : Hid (textOk x.text = false) := htx
      clear htx
      go_wp2_with fail
      go_ret
      exact ⟨HEND.out _ _ _ _, ret_bool (by rw [← H.out]; unfold fileIs; rw [HT.out]; rfl)⟩
    | true =>
      have HT : Hid (textOk x.text = true) := htx
      clear htx
      have HF : Hid ((decide (x.nn = 0) && decide (x.kn = 0) && decide ((0 : Int) < j)) = itIn d j x) := by show _ = _; rw [← H.out]; unfold fileIs; rw [HT.out]; rfl
      clear H HT
      by_cases e1 : x.nn = 0
      · by_cases e2 : x.kn = 0
        · have a1 : ((x.nn : Int) == 0) = true := by simp [e1]
          have a2 : ((x.kn : Int) == 0) = true := by simp [e2]
          have HG : Hid (decide ((0 : Int) < j) = itIn d j x) := by show _ = _; rw [← HF.out, decide_eq_true e1, decide_eq_true e2]; rfl
          clear e1 e2 HF
          go_wp2_with fail
          all_goals
            go_ret
            exact ⟨HEND.out _ _ _ _, ret_bool (by rw [← HG.out]; (first | rfl | (simp [*]; done) | (simp; omega)))⟩
        · have a1 : ((x.nn : Int) == 0) = true := by simp [e1]
          have a2 : ((x.kn : Int) == 0) = false := by simp; omega
          have HG : Hid (false = itIn d j x) := by show _ = _; rw [← HF.out, decide_eq_false e2]; simp
          clear e1 e2 HF
          go_wp2_with fail
          go_ret
          exact ⟨HEND.out _ _ _ _, ret_bool HG.out⟩
      · have a1 : ((x.nn : Int) == 0) = false := by simp; omega
        have HG : Hid (false = itIn d j x) := by show _ = _; rw [← HF.out, decide_eq_false e1]; simp
        clear e1 HF
        go_wp2_with fail
        go_ret
        exact ⟨HEND.out _ _ _ _, ret_bool HG.out⟩
  · have c1 : (x.kind == 1) = false := by simp [k1]
    by_cases k2 : x.kind = 2
    · have c2 : (x.kind == 2) = true := by simp [k2]
      have H : Hid ((dirIs x && kidsIn d.ln d.live x.kids x.kn) = itIn d j x) := by show _ = _; rw [← HN.out]; unfold nodeIn; rw [if_neg k1, if_pos k2]
      clear k1 k2 HN
      cases ht : (x.text.toList == []) with
      | false =>
        have HX : Hid (false = itIn d j x) := by show _ = _; rw [← H.out]; unfold dirIs; rw [ht]; rfl
        go_enter Tryz.func86, Tryz.ntmps86
        go_wp2_with fail
        go_ret
        exact ⟨HEND.out _ _ _ _, ret_bool HX.out⟩
      | true =>
        have H2 : Hid ((dirNames x.names x.nn && decide (x.kn = x.nn) && kidsIn d.ln d.live x.kids x.kn) = itIn d j x) := by show _ = _; rw [← H.out]; unfold dirIs; rw [ht]; rfl
        clear H
        go_enter Tryz.func86, Tryz.ntmps86
        go_wp2_with fail
        refine at_world (F := New2 w _ _ _ _) (new2 w _ _ _ _) ?_
        rintro W ⟨hp, hx, hb, hs⟩
        refine (l2Names_any lo.nA x.nn lo.nc x.names W (hI.1.below (Nat.le_refl _) hb) hf.names hf.nn).mono ?_
        rintro e w1 ⟨⟨q, rfl⟩, rfl⟩
        have HB : Hid (Below w.heap.size w W) := hb
        have p0 : W.cell? ⟨w.heap.size, 0, none⟩ = some (.int .i64 d.since) := hp.cell 0
        have p1 : W.cell? ⟨w.heap.size, 1, none⟩ = some (.int .i64 d.date) := hp.cell 1
        have p2 : W.cell? ⟨w.heap.size, 2, none⟩ = some (.slice (some ⟨b, off, none⟩) d.ln l.lc) := hp.cell 2
        have p3 : W.cell? ⟨w.heap.size, 3, none⟩ = some (.slice l.iA d.m l.ic) := hp.cell 3
        have x1 : W.cell? ⟨w.heap.size + 1, 1, none⟩ = some (.int .i64 x.kind) := hx.cell 1
        have x2 : W.cell? ⟨w.heap.size + 1, 2, none⟩ = some (.string x.text) := hx.cell 2
        have x3 : W.cell? ⟨w.heap.size + 1, 3, none⟩ = some (.slice lo.nA x.nn lo.nc) := hx.cell 3
        have x4 : W.cell? ⟨w.heap.size + 1, 4, none⟩ = some (.slice lo.kA x.kn lo.kc) := hx.cell 4
        have x5 : W.cell? ⟨w.heap.size + 1, 5, none⟩ = some (.int .i64 x.turn) := hx.cell 5
        clear hp hx hb
        cases hnm : dirNames x.names x.nn with
        | false =>
          have HX : Hid (false = itIn d j x) := by show _ = _; rw [← H2.out, hnm]; rfl
          clear hnm
          go_wp2_with fail
          go_ret
          exact ⟨below_drewN HB.out _, ret_bool HX.out⟩
        | true =>
          have HX : Hid ((kidsIn d.ln d.live x.kids x.kn && decide (x.kn = x.nn)) = itIn d j x) := by show _ = _; rw [← H2.out, hnm]; simp [Bool.and_comm]
          clear hnm H2
          go_wp2_with fail
          have hbq := below_drewN HB.out q
          have hk5 := l5Kids_any d l x lo (W.drewN q) (hD.below (Nat.le_refl _) hbq) (hI.below (Nat.le_refl _) hbq) hfd hf
          unfold dpV at hk5
          rw [HLA.out] at hk5
          refine hk5.mono ?_
          rintro e w2 ⟨hb2, rfl⟩
          have HB2 : Hid (Below w.heap.size w w2) := hbq.trans (hb2.mono hbq.size)
          clear hb2 hbq hk5 p0 p1 p2 p3 x1 x2 x3 x4 x5
          rw [HX.out]
          go_wp2
          go_ret
          exact ⟨HB2.out, rfl⟩
    · have c2 : (x.kind == 2) = false := by simp [k2]
      have HX : Hid (false = itIn d j x) := by show _ = _; rw [← HN.out]; unfold nodeIn; rw [if_neg k1, if_neg k2]
      clear k1 k2 HN
      go_enter Tryz.func86, Tryz.ntmps86
      go_wp2_with fail
      go_ret
      exact ⟨HEND.out _ _ _ _, ret_bool HX.out⟩
end Go.Proofs.YtakifcobofkheabGreatDoor

/-
  What DumpOk of the specification answers.
-/
namespace Go.Proofs.YtakifcobofkheabGreatDoor
open Go.RowKit
set_option linter.unusedVariables false

/-- What is known within DumpOk. -/
structure D1In (w : World) (d : Dp) (l : DLoc) (t : TypeId) (W : World) : Prop where
  p : Blk W w.heap.size #[.int .i64 d.since, .int .i64 d.date, .slice l.lA d.ln l.lc, .slice l.iA d.m l.ic] t
  bel : Below w.heap.size w W

theorem D1In.below {w : World} {d : Dp} {l : DLoc} {t : TypeId} {W W' : World} (h : D1In w d l t W) (hb : Below W.heap.size W W') : D1In w d l t W' :=
  ⟨h.p.below hb h.p.lt, h.bel.trans (hb.mono (by have := h.p.lt; omega))⟩
theorem D1In.drew {w : World} {d : Dp} {l : DLoc} {t : TypeId} {W : World} (h : D1In w d l t W) (q : Nat) : D1In w d l t (W.drewN q) := h.below (below_drewN (Below.refl _ _) q)

theorem head_1 {d : Dp} (h : d.since < 0) : false = d.ok := ok_head (by unfold headIn; rw [decide_eq_false (show ¬ 0 ≤ d.since by omega)]; rfl)
theorem head_2 {d : Dp} (h : d.date < d.since) : false = d.ok := ok_head (by unfold headIn; rw [decide_eq_false (show ¬ d.since ≤ d.date by omega)]; simp)
theorem head_3 {d : Dp} (h : d.date < 1) : false = d.ok := ok_head (by unfold headIn; rw [decide_eq_false (show ¬ 1 ≤ d.date by omega)]; simp)
theorem head_4 {d : Dp} (h : 1000 < d.date) : false = d.ok := ok_head (by unfold headIn; rw [decide_eq_false (show ¬ d.date ≤ 1000 by omega)]; simp)
theorem head_5 {d : Dp} (h : d.ln < 1) : false = d.ok := ok_head (by unfold headIn; rw [decide_eq_false (show ¬ 1 ≤ d.ln by omega)]; simp)
theorem head_6 {d : Dp} (h : 10 < d.ln) : false = d.ok := ok_head (by unfold headIn; rw [decide_eq_false (show ¬ d.ln ≤ 10 by omega)]; simp)
theorem head_7 {d : Dp} (h : d.live 0 = false) : false = d.ok := ok_head (by unfold headIn; rw [h]; simp)
theorem head_yes {d : Dp} (h1 : ¬ d.since < 0) (h2 : ¬ d.date < d.since) (h3 : ¬ d.date < 1) (h4 : ¬ 1000 < d.date) (h5 : ¬ d.ln < 1) (h6 : ¬ 10 < d.ln) (h7 : d.live 0 = true) : headIn d = true := by
  unfold headIn
  rw [decide_eq_true (show 0 ≤ d.since by omega), decide_eq_true (show d.since ≤ d.date by omega), decide_eq_true (show 1 ≤ d.date by omega), decide_eq_true (show d.date ≤ 1000 by omega), decide_eq_true (show 1 ≤ d.ln by omega), decide_eq_true (show d.ln ≤ 10 by omega), h7]
  rfl

set_option maxHeartbeats 4000000 in
theorem specDumpOk_any (d : Dp) (l : DLoc) (w : World) (hD : DpIn w d l) (hfd : d.Fits) :
    Calls Tryz.prog 67 #[dpV d l] w fun e w' => Below w.heap.size w w' ∧ e = .returned (.bool d.ok) := by
  have hln := hfd.ln
  have hm := hfd.m
  unfold maxLen at hln hm
  unfold dpV
  have HEND : Hid (∀ (c0 : Array Value) (t0 : TypeId), Below w.heap.size w (w.alloc (.cells c0 t0))) := fun c0 t0 => (Below.refl _ _).alloc (Nat.le_refl _) _
  by_cases h1 : d.since < 0
  · have hb1 : decide (d.since < 0) = true := by simp; omega
    have HX : Hid (false = d.ok) := head_1 h1
    go_enter Tryz.func67, Tryz.ntmps67
    go_wp2_with fail
    go_ret
    exact ⟨HEND.out _ _, ret_bool HX.out⟩
  have hb1 : decide (d.since < 0) = false := by simp; omega
  by_cases h2 : d.date < d.since
  · have hb2 : decide (d.date < d.since) = true := by simp; omega
    have HX : Hid (false = d.ok) := head_2 h2
    go_enter Tryz.func67, Tryz.ntmps67
    go_wp2_with fail
    go_ret
    exact ⟨HEND.out _ _, ret_bool HX.out⟩
  have hb2 : decide (d.date < d.since) = false := by simp; omega
  by_cases h3 : d.date < 1
  · have hb3 : decide (d.date < 1) = true := by simp; omega
    have HX : Hid (false = d.ok) := head_3 h3
    go_enter Tryz.func67, Tryz.ntmps67
    go_wp2_with fail
    go_ret
    exact ⟨HEND.out _ _, ret_bool HX.out⟩
  have hb3 : decide (d.date < 1) = false := by simp; omega
  by_cases h4 : 1000 < d.date
  · have hb4 : decide (1000 < d.date) = true := by simp; omega
    have HX : Hid (false = d.ok) := head_4 h4
    go_enter Tryz.func67, Tryz.ntmps67
    go_wp2_with fail
    go_ret
    exact ⟨HEND.out _ _, ret_bool HX.out⟩
  have hb4 : decide (1000 < d.date) = false := by simp; omega
  by_cases h5 : d.ln < 1
  · have hb5 : decide ((d.ln : Int) < 1) = true := by simp; omega
    have HX : Hid (false = d.ok) := head_5 h5
    clear h5
    go_enter Tryz.func67, Tryz.ntmps67
    go_wp2_with fail
    go_ret
    exact ⟨HEND.out _ _, ret_bool HX.out⟩
  have hb5 : decide ((d.ln : Int) < 1) = false := by simp; omega
  by_cases h6 : 10 < d.ln
  · have hb6 : decide ((10 : Int) < (d.ln : Int)) = true := by simp; omega
    have HX : Hid (false = d.ok) := head_6 h6
    go_enter Tryz.func67, Tryz.ntmps67
    go_wp2_with fail
    go_ret
    exact ⟨HEND.out _ _, ret_bool HX.out⟩
  have hb6 : decide ((10 : Int) < (d.ln : Int)) = false := by simp; omega
  have h0n : 0 < d.ln := by omega
  have h0i : (0 : Int) < (d.ln : Int) := by omega
  obtain ⟨b, off, hA, hlt2, hc⟩ := hD.live.at h0n
  have g0 := hc 0 h0n
  rw [Nat.add_zero] at g0
  have hbne : b ≠ w.heap.size := by omega
  have HLA : Hid (l.lA = some ⟨b, off, none⟩) := hA
  rw [hA]
  clear hc hA
  cases h7 : d.live 0 with
  | false =>
    have HX : Hid (false = d.ok) := head_7 h7
    rw [h7] at g0
    clear h7
    go_enter Tryz.func67, Tryz.ntmps67
    go_wp2_with fail
    go_ret
    exact ⟨HEND.out _ _, ret_bool HX.out⟩
  | true =>
  have HH : Hid (headIn d = true) := head_yes h1 h2 h3 h4 h5 h6 h7
  rw [h7] at g0
  clear h7
  go_enter Tryz.func67, Tryz.ntmps67
  go_wp2_with fail
  go_loopw [3] (fun i wr => ∃ k : Nat, k ≤ d.m ∧ i = .int .i64 k ∧ D1In w d l 64 wr ∧ itsIn d k = true) (fun i _ => d.m - (intOf i).toNat)
  case atStart =>
    have h := new1 w #[.int .i64 d.since, .int .i64 d.date, .slice l.lA d.ln l.lc, .slice l.iA d.m l.ic] 64
    rw [HLA.out] at h
    exact ⟨0, Nat.zero_le _, rfl, ⟨by rw [HLA.out]; exact h.b0, h.bel⟩, rfl⟩
  case round =>
    obtain ⟨k, hk, rfl, hin, heq⟩ := hrel
    have t0 : wr.cell? ⟨w.heap.size, 0, none⟩ = some (.int .i64 d.since) := hin.p.cell 0
    have t1 : wr.cell? ⟨w.heap.size, 1, none⟩ = some (.int .i64 d.date) := hin.p.cell 1
    have t2 : wr.cell? ⟨w.heap.size, 2, none⟩ = some (.slice l.lA d.ln l.lc) := hin.p.cell 2
    have t3 : wr.cell? ⟨w.heap.size, 3, none⟩ = some (.slice l.iA d.m l.ic) := hin.p.cell 3
    have hwl := hin.p.lt
    by_cases hlt : k < d.m
    · obtain ⟨b', off', hA', hlt2', hc'⟩ := (hD.items.below (Nat.le_refl _) hin.bel).at hlt
      obtain ⟨c0, c1, c2, c3, c4, c5, hN⟩ := hc' k hlt
      have hDr := hD.below (Nat.le_refl _) hin.bel
      have hIA : Hid (l.iA = some ⟨b', off', none⟩) := hA'
      have T0 := Lat.cell (B := wr.heap.size) t0 hwl
      have T1 := Lat.cell (B := wr.heap.size) t1 hwl
      have T2 := Lat.cell (B := wr.heap.size) t2 hwl
      have T3 := Lat.cell (B := wr.heap.size) t3 hwl
      rw [hA'] at t3 T3
      have hlti : (k : Int) < (d.m : Int) := by omega
      have C0 := Lat.cell (B := wr.heap.size) c0 hlt2'
      have C1 := Lat.cell (B := wr.heap.size) c1 hlt2'
      have C2 := Lat.cell (B := wr.heap.size) c2 hlt2'
      have C3 := Lat.cell (B := wr.heap.size) c3 hlt2'
      have C4 := Lat.cell (B := wr.heap.size) c4 hlt2'
      have C5 := Lat.cell (B := wr.heap.size) c5 hlt2'
      have hcall0 : ∀ q : Lat wr.heap.size wr, Calls Tryz.prog 86 #[dpV d l, itV (d.ino k) (d.nd k) (l.L k)] q.val fun r w'' => r = .returned (.bool (itIn d (d.ino k) (d.nd k))) ∧ ∃ m : Lat wr.heap.size wr, w'' = m.val := fun q =>
        Calls.lat_of (l5Item_any d l (d.ino k) (d.nd k) (l.L k) q.val (hDr.below (Nat.le_refl _) q.bel) (hN.below (Nat.le_refl _) q.bel) hfd (hfd.nds k hlt)) (fun e w' h => ⟨h.2, h.1.mono q.bel.size⟩)
      unfold dpV at hcall0
      rw [hA'] at hcall0
      have HIN : Hid (D1In w d l 64 wr ∧ itsIn d k = true) := ⟨hin, heq⟩
      cases hq : itIn d (d.ino k) (d.nd k) with
      | false =>
        rw [hq] at hcall0
        have hcall : Hid _ := hcall0
        have HQ : Hid (false = d.ok) := ok_bad hlt (step_item hq)
        clear hq hcall0 hc' c0 c1 c2 c3 c4 c5 hN hDr hin heq hA'
        go_wp2_with fail
        refine wp_region_lat (B := wr.heap.size) (w0 := wr) (by kernel_rfl) (by kernel_rfl) (Below.refl _ _) ?_
        repeat (go_big_quiet_step (exact hcall.out _))
        refine wpQuiet_nil ?_
        rintro _ ⟨nq, rfl⟩
        have HB : Hid (Below w.heap.size w nq.val) := (HIN.out.1.below nq.bel).bel
        clear hcall C0 C1 C2 C3 C4 C5 T0 T1 T2 T3 t0 t1 t2 t3
        go_wp2
        go_ret
        exact ⟨HB.out, ret_bool HQ.out⟩
      | true =>
        rw [hq] at hcall0
        have hcall : Hid _ := hcall0
        have HI : Hid (itIn d (d.ino k) (d.nd k) = true) := hq
        clear hq hcall0 hDr hin heq hN
        by_cases hk0 : k = 0
        · subst hk0
          have hz : decide ((0 : Int) < ((0 : Nat) : Int)) = false := by decide
          have HS : Hid (stepIn d 0 = true) := step_zero HI.out
          clear hc' c0 c1 c2 c3 c4 c5 hA' HI
          simp only [Nat.zero_mul, Nat.add_zero] at C0 C1 C2 C3 C4 C5
          go_wp2_with fail
          refine wp_region_lat (B := wr.heap.size) (w0 := wr) (by kernel_rfl) (by kernel_rfl) (Below.refl _ _) ?_
          repeat (go_big_quiet_step (exact hcall.out _))
          refine wpQuiet_nil ?_
          rintro _ ⟨nq, rfl⟩
          have HB : Hid (D1In w d l 64 nq.val) := HIN.out.1.below nq.bel
          clear hcall C0 C1 C2 C3 C4 C5 T0 T1 T2 T3 t0 t1 t2 t3
          go_wp2
          go_roundw
          case rel => exact ⟨1, by omega, by go_num, HB.out, itsIn_succ HIN.out.2 HS.out⟩
          case measure => simp [intOf]; omega
        · have hz : decide ((0 : Int) < (k : Int)) = true := by simp; omega
          have hz' : decide (0 < k) = true := by simp; omega
          have e0 := (hc' (k - 1) (by omega)).1
          have E0 := Lat.cell (B := wr.heap.size) e0 hlt2'
          have hk1 : ((k - 1 : Nat) : Int) < (d.m : Int) := by omega
          have hwr : IntKind.i64.wrap ((k : Int) - 1) = ((k - 1 : Nat) : Int) := by rw [IntKind.wrap_i64]; omega
          by_cases hle : d.ino k ≤ d.ino (k - 1)
          · have hb8 : decide (d.ino k ≤ d.ino (k - 1)) = true := by simp; omega
            have HQ : Hid (false = d.ok) := ok_bad hlt (step_low hk0 hle)
            clear hc' c0 c1 c2 c3 c4 c5 hA' HI e0 hk0
            go_wp2_with fail
            refine wp_region_lat (B := wr.heap.size) (w0 := wr) (by kernel_rfl) (by kernel_rfl) (Below.refl _ _) ?_
            repeat (go_big_quiet_step (exact hcall.out _))
            refine wpQuiet_nil ?_
            rintro _ ⟨nq, rfl⟩
            have HB : Hid (Below w.heap.size w nq.val) := (HIN.out.1.below nq.bel).bel
            clear hcall C0 C1 C2 C3 C4 C5 E0 T0 T1 T2 T3 t0 t1 t2 t3
            go_wp2
            go_ret
            exact ⟨HB.out, ret_bool HQ.out⟩
          · have hb8 : decide (d.ino k ≤ d.ino (k - 1)) = false := by simp; omega
            have HS : Hid (stepIn d k = true) := step_more HI.out (by omega)
            clear hc' c0 c1 c2 c3 c4 c5 hA' HI e0 hk0
            go_wp2_with fail
            refine wp_region_lat (B := wr.heap.size) (w0 := wr) (by kernel_rfl) (by kernel_rfl) (Below.refl _ _) ?_
            repeat (go_big_quiet_step (exact hcall.out _))
            refine wpQuiet_nil ?_
            rintro _ ⟨nq, rfl⟩
            have HB : Hid (D1In w d l 64 nq.val) := HIN.out.1.below nq.bel
            clear hcall C0 C1 C2 C3 C4 C5 E0 T0 T1 T2 T3 t0 t1 t2 t3
            go_wp2
            go_roundw
            case rel => exact ⟨k + 1, by omega, by go_num, HB.out, itsIn_succ HIN.out.2 HS.out⟩
            case measure => simp [intOf]; omega
    · obtain rfl : k = d.m := by omega
      have HK : Hid (true = d.ok ∧ Below w.heap.size w wr) := ⟨by unfold Dp.ok; rw [HH.out, heq]; rfl, hin.bel⟩
      clear hin heq
      go_wp2
      go_ret
      exact ⟨HK.out.2, ret_bool HK.out.1⟩
end Go.Proofs.YtakifcobofkheabGreatDoor

/-
  What BackThen of the specification answers.
-/
namespace Go.Proofs.YtakifcobofkheabGreatDoor
open Go.RowKit Go.Deep
set_option linter.unusedVariables false
set_option linter.unusedSimpArgs false
set_option linter.unnecessarySimpa false

theorem wp_cutqT {X Y Z U : Type} (F : X → Y → Z → U → World → Prop) {P : Program} {c : Code} {Q : Exit → Act → World → Prop} {a : Act} {w : World} (A : X → Y → Z → U → Act)
    (leaf : (∀ x y z u W, F x y z u W → Q .normal (A x y z u) W) → c.wp P Q a w) (k : ∀ x y z u W, F x y z u W → Q .normal (A x y z u) W) : c.wp P Q a w := leaf k

/-- What is known ahead of the making: the two in their boxes, the answer's cell. -/
structure Th (w : World) (a b : Dp) (la lb : DLoc) (W : World) : Prop where
  p : Blk W w.heap.size #[.int .i64 a.since, .int .i64 a.date, .slice la.lA a.ln la.lc, .slice la.iA a.m la.ic] 64
  q : Blk W (w.heap.size + 1) #[.int .i64 b.since, .int .i64 b.date, .slice lb.lA b.ln lb.lc, .slice lb.iA b.m lb.ic] 64
  r : Blk W (w.heap.size + 1 + 1) #[.int .i64 0, .int .i64 0, .slice none 0 0, .slice none 0 0] 64
  bel : Below w.heap.size w W

theorem Th.below {w : World} {a b : Dp} {la lb : DLoc} {W W' : World} (h : Th w a b la lb W) (hb : Below W.heap.size W W') : Th w a b la lb W' := ⟨h.p.below hb h.p.lt, h.q.below hb h.q.lt, h.r.below hb h.r.lt, h.bel.trans (hb.mono h.bel.size)⟩

theorem Th.cells {w : World} {a b : Dp} {la lb : DLoc} {W : World} (h : Th w a b la lb W) : (W.cell? ⟨w.heap.size, 0, none⟩ = some (.int .i64 a.since) ∧ W.cell? ⟨w.heap.size, 1, none⟩ = some (.int .i64 a.date) ∧ W.cell? ⟨w.heap.size, 2, none⟩ = some (.slice la.lA a.ln la.lc) ∧ W.cell? ⟨w.heap.size, 3, none⟩ = some (.slice la.iA a.m la.ic)) ∧
    (W.cell? ⟨w.heap.size + 1, 0, none⟩ = some (.int .i64 b.since) ∧ W.cell? ⟨w.heap.size + 1, 1, none⟩ = some (.int .i64 b.date) ∧ W.cell? ⟨w.heap.size + 1, 2, none⟩ = some (.slice lb.lA b.ln lb.lc) ∧ W.cell? ⟨w.heap.size + 1, 3, none⟩ = some (.slice lb.iA b.m lb.ic)) ∧
    (W.cell? ⟨w.heap.size + 1 + 1, 0, none⟩ = some (.int .i64 0) ∧ W.cell? ⟨w.heap.size + 1 + 1, 1, none⟩ = some (.int .i64 0) ∧ W.cell? ⟨w.heap.size + 1 + 1, 2, none⟩ = some (.slice none 0 0) ∧ W.cell? ⟨w.heap.size + 1 + 1, 3, none⟩ = some (.slice none 0 0)) :=
  ⟨⟨h.p.cell 0, h.p.cell 1, h.p.cell 2, h.p.cell 3⟩, ⟨h.q.cell 0, h.q.cell 1, h.q.cell 2, h.q.cell 3⟩, h.r.cell 0, h.r.cell 1, h.r.cell 2, h.r.cell 3⟩

/-- Nothing is answered. -/
theorem Th.no {w : World} {a b : Dp} {la lb : DLoc} {W : World} (h : Th w a b la lb W) : Blk ((((W.setCell ⟨w.heap.size + 1 + 1, 0, none⟩ (.int .i64 0)).setCell ⟨w.heap.size + 1 + 1, 1, none⟩ (.int .i64 0)).setCell ⟨w.heap.size + 1 + 1, 2, none⟩ (.slice none 0 0)).setCell ⟨w.heap.size + 1 + 1, 3, none⟩ (.slice none 0 0)) (w.heap.size + 1 + 1) #[.int .i64 0, .int .i64 0, .slice none 0 0, .slice none 0 0] 64 ∧ Below w.heap.size w ((((W.setCell ⟨w.heap.size + 1 + 1, 0, none⟩ (.int .i64 0)).setCell ⟨w.heap.size + 1 + 1, 1, none⟩ (.int .i64 0)).setCell ⟨w.heap.size + 1 + 1, 2, none⟩ (.slice none 0 0)).setCell ⟨w.heap.size + 1 + 1, 3, none⟩ (.slice none 0 0)) :=
  ⟨(((h.r.set 0 _).set 1 _).set 2 _).set 3 _, bel_put (bel_put (bel_put (bel_put h.bel _ (by omega)) _ (by omega)) _ (by omega)) _ (by omega)⟩

/-- The blocks that are kept. -/
def ThX (w : World) (j : Nat) : Prop := j = w.heap.size ∨ j = w.heap.size + 1 ∨ j = w.heap.size + 1 + 1

theorem Th.of {w W0 : World} {a b : Dp} {la lb : DLoc} (h : Th w a b la lb W0) {B : Nat} {since date : Int} {n : Nat} {Z : Nat → Bool} {V : Nat} {lA : Option Addr} {lc m : Nat} {ia : Option Addr} {ic : Nat} {O : Nat → Int} {E : Nat → Nd} {M : Nat → Loc} {W : World} (g : GOf w W0 B (ThX w) since date n Z V lA lc m ia ic O E M W) : Th w a b la lb W :=
  ⟨h.p.of_block (g.kept _ (Or.inl rfl)), h.q.of_block (g.kept _ (Or.inr (Or.inl rfl))), h.r.of_block (g.kept _ (Or.inr (Or.inr rfl))), g.bel⟩

/-- The places that have come are the ones. -/
def ThSel (a b : Dp) (k m : Nat) (O : Nat → Int) (E : Nat → Nd) : Prop := m = (thenSel a b k).length ∧ ∀ i, i < m → O i = ((thenSel a b k).getD i 0 : Nat) ∧ thenNd a b ((thenSel a b k).getD i 0 : Nat) = some (E i)

theorem ThSel.no {a b : Dp} {k m : Nat} {O : Nat → Int} {E : Nat → Nd} (h : ThSel a b k m O E) (hk : thenNd a b (k : Int) = none) : ThSel a b (k + 1) m O E := by
  have e := thenSel_no (a := a) (b := b) (k := k) (by rw [hk]; rfl)
  exact ⟨by rw [e]; exact h.1, by rw [e]; exact h.2⟩

theorem ThSel.yes {a b : Dp} {k m : Nat} {O : Nat → Int} {E : Nat → Nd} (h : ThSel a b k m O E) {x : Nd} (hk : thenNd a b (k : Int) = some x) : ThSel a b (k + 1) (m + 1) (fun i => if i = m then (k : Int) else O i) (fun i => if i = m then x else E i) := by
  have e := thenSel_yes (a := a) (b := b) (k := k) (by rw [hk]; rfl)
  have hl := h.1
  refine ⟨by rw [e]; simp [hl], fun i hi => ?_⟩
  rw [e]
  by_cases ei : i = m
  · subst ei
    have e2 : (thenSel a b k ++ [k]).getD i 0 = k := by rw [List.getD_eq_getElem?_getD, List.getElem?_append_right (by omega), show i - (thenSel a b k).length = 0 by omega]; rfl
    rw [e2]
    exact ⟨if_pos rfl, by rw [hk]; simp⟩
  · have hi' : i < m := by omega
    have e2 : (thenSel a b k ++ [k]).getD i 0 = (thenSel a b k).getD i 0 := by rw [List.getD_eq_getElem?_getD, List.getD_eq_getElem?_getD, List.getElem?_append_left (by omega)]
    rw [e2]
    obtain ⟨h1, h2⟩ := h.2 i hi'
    exact ⟨(if_neg ei).trans h1, by rw [h2]; simp [ei]⟩

/-- At the end it is the one. -/
theorem ThSel.own {a b : Dp} {W : World} {B m : Nat} {lA : Option Addr} {lc : Nat} {ia : Option Addr} {ic : Nat} {O : Nat → Int} {E : Nat → Nd} {M : Nat → Loc} (h : ThSel a b b.ln m O E) (hod : OD W B b.ln b.live m O E M (.slice lA b.ln lc) (.slice ia m ic)) : m = (thenDp a b).m ∧ OwnDp W B (thenDp a b) ⟨lA, lc, ia, ic, M⟩ := by
  have hm : m = (thenDp a b).m := h.1
  refine ⟨hm, ?_⟩
  subst hm
  exact hod.ext fun i hi => ⟨((h.2 i hi).1).symm, by
    have h2 := (h.2 i hi).2
    show (thenNd a b ((thenSel a b b.ln).getD i 0 : Nat)).getD _ = E i
    rw [h2]; rfl⟩

theorem dp_of_small {d : Dp} (h : d.size ≤ 1048576) : ∀ i, i < d.m → (d.nd i).nn ≤ 1048576 ∧ (d.nd i).kn ≤ 1048576 ∧ (d.nd i).text.size ≤ 1048576 ∧ ∀ j, j < (d.nd i).nn → ((d.nd i).names j).size ≤ 1048576 := fun i hi => by
  have h1 := size_le_sizeTo d.nd d.m i hi
  unfold Dp.size at h
  unfold Nd.size at h1
  exact ⟨by omega, by omega, by omega, fun j hj => by have := size_le_sumTo (d.nd i).names (d.nd i).nn j hj; omega⟩

/-- The bounds of the one. -/
theorem then_fits {a b : Dp} (ha : a.Fits) (hb : b.Fits) (hl : b.ln ≤ 10) : (thenDp a b).Fits := by
  have hlen := thenSel_len a b b.ln
  have hnd : ∀ i, i < (thenSel a b b.ln).length → ∃ x, thenNd a b ((thenSel a b b.ln).getD i 0 : Nat) = some x ∧ x.Fits := fun i hi => by
    have hm : (thenSel a b b.ln).getD i 0 ∈ thenSel a b b.ln := by
      rw [List.getD_eq_getElem?_getD, List.getElem?_eq_getElem hi]
      exact List.getElem_mem hi
    have hs := (List.mem_filter.1 hm).2
    cases e : thenNd a b ((thenSel a b b.ln).getD i 0 : Nat) with
    | none => rw [e] at hs; cases hs
    | some x =>
      refine ⟨x, rfl, ?_⟩
      unfold thenNd at e
      split at e
      · rename_i k hk; cases e; exact hb.nds k (ixOf_some hk).1
      · split at e
        · cases e2 : ixOf a.ino a.m ((thenSel a b b.ln).getD i 0 : Nat) with
          | none => rw [e2] at e; cases e
          | some k => rw [e2] at e; cases e; exact ha.nds k (ixOf_some e2).1
        · cases e
  refine ⟨ha.since, hb.date, hb.ln, by show (thenSel a b b.ln).length ≤ maxLen; unfold maxLen; omega, fun i hi => ?_, fun i hi => ?_⟩
  · have hm : (thenSel a b b.ln).getD i 0 ∈ thenSel a b b.ln := by
      have hi' : i < (thenSel a b b.ln).length := hi
      rw [List.getD_eq_getElem?_getD, List.getElem?_eq_getElem hi']
      exact List.getElem_mem hi'
    have h1 : (thenSel a b b.ln).getD i 0 < b.ln := List.mem_range.1 (List.mem_filter.1 hm).1
    show In64 (((thenSel a b b.ln).getD i 0 : Nat) : Int)
    unfold In64
    omega
  · obtain ⟨x, h1, h2⟩ := hnd i hi
    show ((thenNd a b ((thenSel a b b.ln).getD i 0 : Nat)).getD _).Fits
    rw [h1]
    exact h2

end Go.Proofs.YtakifcobofkheabGreatDoor

/-
  What BackThen answers, in one word for both.
-/
namespace Go.Proofs.YtakifcobofkheabGreatDoor
open Go.RowKit Go.Deep
set_option linter.unusedVariables false
set_option linter.unusedSimpArgs false

theorem ok_kn {d : Dp} (h : d.ok = true) {i : Nat} (hi : i < d.m) : (d.nd i).kn = (d.nd i).nn := by
  unfold Dp.ok at h
  rw [Bool.and_eq_true] at h
  have hs := List.all_eq_true.1 h.2 i (by simpa using hi)
  unfold stepIn itIn at hs
  simp only [Bool.and_eq_true] at hs
  have hn := hs.1.2
  unfold nodeIn at hn
  split at hn
  · unfold fileIs at hn
    simp only [Bool.and_eq_true, decide_eq_true_eq] at hn
    omega
  · split at hn
    · unfold dirIs at hn
      simp only [Bool.and_eq_true, decide_eq_true_eq] at hn
      omega
    · cases hn

theorem thenNd_from {a b : Dp} {z : Int} {x : Nd} (e : thenNd a b z = some x) : (∃ j, j < b.m ∧ x = b.nd j) ∨ ∃ j, j < a.m ∧ x = a.nd j := by
  unfold thenNd at e
  split at e
  · rename_i k hk; cases e; exact Or.inl ⟨k, (ixOf_some hk).1, rfl⟩
  · split at e
    · cases e2 : ixOf a.ino a.m z with
      | none => rw [e2] at e; cases e
      | some k => rw [e2] at e; cases e; exact Or.inr ⟨k, (ixOf_some e2).1, rfl⟩
    · cases e

theorem nd_sum {d : Dp} (h : d.size ≤ 1048576) {i : Nat} (hi : i < d.m) : (d.nd i).nn + (d.nd i).kn ≤ 1048576 := by
  have h1 := size_le_sizeTo d.nd d.m i hi
  unfold Dp.size at h
  unfold Nd.size at h1
  omega

theorem then_sum {a b : Dp} (hsa : a.size ≤ 1048576) (hsb : b.size ≤ 1048576) {i : Nat} (hi : i < (thenDp a b).m) : ((thenDp a b).nd i).nn + ((thenDp a b).nd i).kn ≤ 1048576 := by
  have hi' : i < (thenSel a b b.ln).length := hi
  have hm : (thenSel a b b.ln).getD i 0 ∈ thenSel a b b.ln := by
    rw [List.getD_eq_getElem?_getD, List.getElem?_eq_getElem hi']
    exact List.getElem_mem hi'
  have hs := (List.mem_filter.1 hm).2
  cases e : thenNd a b ((thenSel a b b.ln).getD i 0 : Nat) with
  | none => rw [e] at hs; cases hs
  | some x =>
    have e1 : (thenDp a b).nd i = x := by
      show (thenNd a b ((thenSel a b b.ln).getD i 0 : Nat)).getD _ = x
      rw [e]; rfl
    rw [e1]
    rcases thenNd_from e with ⟨j, hj, rfl⟩ | ⟨j, hj, rfl⟩
    · exact nd_sum hsb hj
    · exact nd_sum hsa hj

theorem kap_le3 (D : Nat → Nd) (k0 : Nat) : ∀ m, (∀ i, i < m → (D i).nn + (D i).kn ≤ 1048576) → kap D k0 m ≤ k0 + m * 1048580
  | 0, _ => by simp [kap]
  | m + 1, h => by
    have h1 := kap_le3 D k0 m (fun i hi => h i (by omega))
    have h2 := h m (by omega)
    rw [kap]
    omega

theorem then_small {a b : Dp} (hfa : a.Fits) (hfb : b.Fits) (hsa : a.size ≤ 1048576) (hsb : b.size ≤ 1048576) (h : (thenDp a b).ok = true) : DpSmall (thenDp a b) := by
  have hl : (thenDp a b).ln ≤ 10 := (ok_head1 h).2
  have hm := m_small h
  have hk := kap_le3 (thenDp a b).nd (1 + (thenDp a b).ln) (thenDp a b).m (fun i hi => then_sum hsa hsb hi)
  refine ⟨then_fits hfa hfb hl, hl, hm, by omega, fun i hi => ?_⟩
  have h1 := then_sum hsa hsb hi
  have h2 := ok_kn h hi
  omega

theorem then_ans (a b : Dp) (hfa : a.Fits) (hfb : b.Fits) (hsa : a.size ≤ 1048576) (hsb : b.size ≤ 1048576) : ∃ (d : Dp) (ok : Bool), DpSmall d ∧ ∀ w e w', ThenPost w a b e w' → Below w.heap.size w w' ∧ ∃ l, e = .returned (.tuple #[dpV d l, .bool ok]) ∧ OwnDp w' w.heap.size d l := by
  cases hok : thenOk a b with
  | true =>
    have h2 : (thenDp a b).ok = true := by unfold thenOk at hok; simp only [Bool.and_eq_true] at hok; exact hok.2
    refine ⟨thenDp a b, true, then_small hfa hfb hsa hsb h2, fun w e w' h => ⟨h.1, ?_⟩⟩
    rcases h.2 with ⟨hno, _⟩ | ⟨_, l, he, hod⟩
    · rw [hok] at hno; cases hno
    · exact ⟨l, he, hod⟩
  | false =>
    refine ⟨dpNone, false, dpNone_small, fun w e w' h => ⟨h.1, ?_⟩⟩
    rcases h.2 with ⟨_, he⟩ | ⟨hyes, _⟩
    · exact ⟨⟨none, 0, none, 0, fun _ => ⟨none, 0, none, 0⟩⟩, he, OD.start _ _ _ _ _ _⟩
    · rw [hok] at hyes; cases hyes
end Go.Proofs.YtakifcobofkheabGreatDoor

/-
  What is kept, as the laws hand it about, in the words of the trees.
-/
namespace Go.Proofs.YtakifcobofkheabGreatDoor
open Go.RowKit Go.Deep
set_option linter.unusedVariables false
set_option linter.unusedSimpArgs false

def pC (d : Dp) (l : DLoc) : Array Value := #[.int .i64 d.since, .int .i64 d.date, .slice l.lA d.ln l.lc, .slice l.iA d.m l.ic]
theorem pC_cells {W : World} {b : Nat} {d : Dp} {l : DLoc} {t : TypeId} (h : Blk W b (pC d l) t) :
    W.cell? ⟨b, 0, none⟩ = some (.int .i64 d.since) ∧ W.cell? ⟨b, 1, none⟩ = some (.int .i64 d.date) ∧ W.cell? ⟨b, 2, none⟩ = some (.slice l.lA d.ln l.lc) ∧ W.cell? ⟨b, 3, none⟩ = some (.slice l.iA d.m l.ic) := ⟨h.cell 0, h.cell 1, h.cell 2, h.cell 3⟩

def TopDp (d : Dp) (l : DLoc) (H : Nat) : Prop := ∀ dd q, dd < 2 + 2 * d.m → (valD (.slice l.lA d.ln l.lc) (.slice l.iA d.m l.ic) d.nd l.L dd).ownBlock = some q → q < H
def MarkedDp (W : World) (B : Nat) (d : Dp) (l : DLoc) (k0 : Nat) : Prop := OD W B d.ln (markB k0) d.m (markO d.nd (k0 + d.ln) d.ino d.m) (markD d.nd (k0 + d.ln) d.m) l.L (.slice l.lA d.ln l.lc) (.slice l.iA d.m l.ic)
def kDp (d : Dp) (k0 : Nat) : Nat := kap d.nd (k0 + d.ln) d.m

theorem OwnDp.top {W : World} {B : Nat} {d : Dp} {l : DLoc} (h : OwnDp W B d l) : TopDp d l W.heap.size := fun dd q hd e => (owns_block (h.rows.own dd hd) e).2
theorem OwnDp.below {W W' : World} {B : Nat} {d : Dp} {l : DLoc} (h : OwnDp W B d l) (hb : Below W.heap.size W W') : OwnDp W' B d l := OD.below h hb
theorem OwnDp.far {W W' : World} {B B0 H0 : Nat} {d : Dp} {l : DLoc} (h : OwnDp W B d l) (hf : Fr B0 H0 W W') (hH : H0 ≤ B) : OwnDp W' B d l := OD.same h fun b hb hl => hf.far b (by omega) hl
theorem OwnDp.lower {W : World} {B B' : Nat} {d : Dp} {l : DLoc} (h : OwnDp W B d l) (hB : B' ≤ B) : OwnDp W B' d l := OD.lower h hB
theorem OwnDp.put {W : World} {B V i : Nat} {d : Dp} {l : DLoc} (h : OwnDp W B d l) (v : Value) (hV : V < B) : OwnDp (W.setCell ⟨V, i, none⟩ v) B d l := OD.off h v hV
theorem OwnDp.tIn {W : World} {B : Nat} {d : Dp} {l : DLoc} (h : OwnDp W B d l) : DpIn W d l := OwnDp.dpIn h
theorem MarkedDp.below {W W' : World} {B : Nat} {d : Dp} {l : DLoc} {k0 : Nat} (h : MarkedDp W B d l k0) (hb : Below W.heap.size W W') : MarkedDp W' B d l k0 := OD.below h hb

theorem kap_le5 (D : Nat → Nd) (k0 : Nat) : ∀ m, kap D k0 m ≤ k0 + 4 * m + sizeTo D m
  | 0 => by simp [kap, sizeTo]
  | m + 1 => by
    have h1 := kap_le5 D k0 m
    rw [kap, sizeTo_succ]
    unfold Nd.size
    omega

theorem kDp_le {d : Dp} (h : d.size ≤ 1048576) (k0 : Nat) : kDp d k0 ≤ k0 + 4194304 := by
  have h1 := kap_le5 d.nd (k0 + d.ln) d.m
  unfold Dp.size at h
  unfold kDp
  omega

theorem kDp_ge (d : Dp) (k0 : Nat) : k0 ≤ kDp d k0 := by
  have := kap_ge d.nd (k0 + d.ln) d.m
  unfold kDp
  omega

theorem szDp (d : Dp) (l : DLoc) (left : Int) (w : World) (hI : DpIn w d l) (hf : d.Fits) (h0 : 0 ≤ left) (h1 : left ≤ 1048576) :
    Calls Tryz.prog 27 #[dpV d l, .int .i64 left] w fun e w' => Below w.heap.size w w' ∧ ∃ r : Int, e = .returned (.int .i64 r) ∧ r ≤ left ∧ (0 ≤ r → r + d.size ≤ left) := szDump_any d l left w hI hf h0 h1

theorem toDp (d : Dp) (l : DLoc) (w : World) (hI : DpIn w d l) (hs : d.size ≤ 1048576) :
    Calls Tryz.prog 31 #[dpV d l] w fun e w' => ∃ l', e = .returned (dpV d l') ∧ Below w.heap.size w w' ∧ OwnDp w' w.heap.size d l' := toDump_own d l w hI hs

theorem eqDp (d e : Dp) (l k : DLoc) (w : World) (hI : DpIn w d l) (hI' : DpIn w e k) (hf : d.Fits) (hf' : e.Fits) :
    Calls Tryz.prog 35 #[dpV d l, dpV e k] w fun r w' => Below w.heap.size w w' ∧ r = .returned (.bool (d.same e)) := eqDump_any d e l k w hI hI' hf hf'

/-- The bounds that an answer keeps. -/
def SmDp (d : Dp) : Prop := DpSmall d ∧ d.size ≤ 1048576
end Go.Proofs.YtakifcobofkheabGreatDoor

/-
  What is held while a tree is made place by place, in memory of its own.
-/
namespace Go.Proofs.YtakifcobofkheabGreatDoor
open Go.RowKit Go.Deep
set_option linter.unusedVariables false
set_option linter.unusedSimpArgs false

/-- The tree in block V, which was there in W0; all of its lists are new since W0, and all else is as it was. -/
structure GT (W0 : World) (V : Nat) (now : Int) (k : Nat) (a : Option Addr) (c : Nat) (E : Nat → Nd) (M : Nat → Loc) (W : World) : Prop where
  v : Blk W V #[.slice a k c, .int .i64 now] 44
  gr : W0.grownBy W (some V)
  vl : V < W0.heap.size
  ot : OT W W0.heap.size 0 (fun _ => false) k (fun _ => 0) E M (.slice none 0 0) (.slice a k c)

theorem OT.grown {W W' : World} {B k m : Nat} {Z : Nat → Bool} {O : Nat → Int} {D : Nat → Nd} {L : Nat → Loc} {lv iv : Value} (h : OT W B k Z m O D L lv iv) {V : Nat} (hg : W.grownBy W' (some V)) (hV : V < B) : OT W' B k Z m O D L lv iv :=
  h.same fun b hB hb => hg.block b hb (fun e => by have := Option.some.inj e; omega)

theorem GT.start {W0 : World} {V : Nat} {now : Int} (h : Blk W0 V #[.slice none 0 0, .int .i64 now] 44) (E : Nat → Nd) (M : Nat → Loc) : GT W0 V now 0 none 0 E M W0 :=
  ⟨h, grown_refl _ _, h.lt, OT.start _ _ _ _ _ _⟩

theorem GT.below {W0 : World} {V : Nat} {now : Int} {k : Nat} {a : Option Addr} {c : Nat} {E : Nat → Nd} {M : Nat → Loc} {W W' : World} (h : GT W0 V now k a c E M W) (hb : Below W.heap.size W W') : GT W0 V now k a c E M W' :=
  ⟨h.v.below hb h.v.lt, grown_trans h.gr (grown_of_below hb _), h.vl, h.ot.below hb⟩

theorem GT.size {W0 : World} {V : Nat} {now : Int} {k : Nat} {a : Option Addr} {c : Nat} {E : Nat → Nd} {M : Nat → Loc} {W : World} (h : GT W0 V now k a c E M W) : W0.heap.size ≤ W.heap.size := h.gr.size

theorem GT.keep {W0 : World} {V : Nat} {now : Int} {k : Nat} {a : Option Addr} {c : Nat} {E : Nat → Nd} {M : Nat → Loc} {W : World} (h : GT W0 V now k a c E M W) {b : Nat} (hb : b < W0.heap.size) (hV : b ≠ V) : W.heap[b]? = W0.heap[b]? := h.gr.block b hb (fun e => hV (Option.some.inj e))

theorem GT.own {W0 : World} {V : Nat} {now : Int} {k : Nat} {a : Option Addr} {c : Nat} {E : Nat → Nd} {M : Nat → Loc} {W : World} (h : GT W0 V now k a c E M W) : ∀ q, (Value.slice a k c).ownBlock = some q → W0.heap.size ≤ q ∧ q < W.heap.size := fun q e => owns_block h.ot.ownI e

/-- A place more: of it all is new, and the list of places has grown. -/
theorem OT.more {W W1 W' : World} {B k : Nat} {a : Option Addr} {c : Nat} {E : Nat → Nd} {M : Nat → Loc} (h : OT W B 0 (fun _ => false) k (fun _ => 0) E M (.slice none 0 0) (.slice a k c)) {x : Nd} {l : Loc} (hN : NewNn W x l W1) (hB : B ≤ W.heap.size) {b c' : Nat} (hg : W1.grownBy W' (Value.slice a k c).ownBlock)
    (hown : W'.ownsRow B 28 5 (.slice (some ⟨b, 0, none⟩) (k + 1) c') (k + 1) (rowsT (fun _ => 0) E M k ++ nt5 0 x l)) (hb : (Value.slice a k c).ownBlock = some b ∨ W1.heap.size ≤ b) :
    OT W' B 0 (fun _ => false) (k + 1) (fun _ => 0) (fun i => if i = k then x else E i) (fun i => if i = k then l else M i) (.slice none 0 0) (.slice (some ⟨b, 0, none⟩) (k + 1) c') :=
  (h.item (o := 0) (iv' := .slice (some ⟨b, 0, none⟩) (k + 1) c') hN hB hg hown fun q hq => by
    have e : b = q := by simpa [Value.ownBlock] using hq
    subst e; exact hb).ext fun i hi => ⟨rfl, rfl⟩

theorem GT.item {W0 : World} {V : Nat} {now : Int} {k : Nat} {a : Option Addr} {c : Nat} {E : Nat → Nd} {M : Nat → Loc} {W W1 W' : World} (h : GT W0 V now k a c E M W) {x : Nd} {l : Loc} (hN : NewNn W x l W1) {b c' : Nat} (hg : W1.grownBy W' (Value.slice a k c).ownBlock)
    (hown : W'.ownsRow W0.heap.size 28 5 (.slice (some ⟨b, 0, none⟩) (k + 1) c') (k + 1) (rowsT (fun _ => 0) E M k ++ nt5 0 x l)) (hb : (Value.slice a k c).ownBlock = some b ∨ W1.heap.size ≤ b) :
    GT W0 V now (k + 1) (some ⟨b, 0, none⟩) c' (fun i => if i = k then x else E i) (fun i => if i = k then l else M i) (W'.setCell ⟨V, 0, none⟩ (.slice (some ⟨b, 0, none⟩) (k + 1) c')) := by
  have h1 := h.below hN.bel
  have hvl := h.vl
  have hne : (Value.slice a k c).ownBlock ≠ some V := fun e => by have := h.own _ e; omega
  have hg' : W0.grownBy W' (some V) := ⟨hg.os.trans h1.gr.os, hg.tape.trans h1.gr.tape, hg.output.trans h1.gr.output, Nat.le_trans h1.gr.size hg.size, fun q hq hqV => (hg.block q (Nat.lt_of_lt_of_le hq h1.gr.size) (fun e => by have := h.own _ e.symm; omega)).trans (h1.gr.block q hq hqV)⟩
  refine ⟨(h1.v.of_block (hg.block V h1.v.lt (fun e => hne e.symm))).set 0 _, ⟨hg'.os, hg'.tape, hg'.output, by have := hg'.size; simpa [World.setCell] using this, fun q hq hqV => (blk_setCell_other _ _ _ _ (show q ≠ V from fun e => hqV (by rw [e]))).trans (hg'.block q hq hqV)⟩, hvl, ?_⟩
  exact (h.ot.more hN h.size hg hown hb).off _ hvl

/-- A free place is new memory at once. -/
theorem new_zero (W : World) : NewNn W ndZero ⟨none, 0, none, 0⟩ W :=
  ⟨Below.refl _ _, World.ownsRow_nil _ _ _ _, World.ownsRow_nil _ _ _ _, fun b e => by simp [Value.ownBlock] at e⟩

theorem src_node (W : World) (d : Nd) (l : Loc) : Src (W.alloc (.cells #[.int .i64 d.kind, .string d.text, .slice l.nA d.nn l.nc, .slice l.kA d.kn l.kc, .int .i64 d.turn] 28)) 5 (.slice (some ⟨W.heap.size, 0, none⟩) 1 1) 1 (nt5 0 d l) :=
  ⟨rfl, nt5_one 0 d l, Or.inr ⟨⟨W.heap.size, 0, none⟩, 1, rfl, fun j u hu => by
    rw [addr_add, Nat.zero_add]
    have := (Blk.new W #[.int .i64 d.kind, .string d.text, .slice l.nA d.nn l.nc, .slice l.kA d.kn l.kc, .int .i64 d.turn] 28).cell j
    rw [this]
    simpa [nt5] using hu⟩⟩

theorem src_free (W : World) : Src (W.alloc (.cells #[.int .i64 0, .string ByteArray.empty, .slice none 0 0, .slice none 0 0, .int .i64 0] 28)) 5 (.slice (some ⟨W.heap.size, 0, none⟩) 1 1) 1 (nt5 0 ndZero ⟨none, 0, none, 0⟩) := src_node W ndZero ⟨none, 0, none, 0⟩
end Go.Proofs.YtakifcobofkheabGreatDoor

/-
  A tree that is brought back from what was kept: each of its places, and how it ends. Plain facts.
-/
namespace Go.Proofs.YtakifcobofkheabGreatDoor
open Go.RowKit Go.Deep
set_option linter.unusedVariables false
set_option linter.unusedSimpArgs false

/-- A place that is brought back, if it is known. -/
def oneNd (n : Nat) (D : Nat → Nd) (d : Dp) (i : Nat) : Option Nd :=
  if d.live i then
    match ixOf d.ino d.m (i : Int) with
    | some k => some (d.nd k)
    | none => if i < n ∧ (D i).kind ≠ 0 then some (D i) else none
  else some ndZero

/-- The places. -/
def oneD (n : Nat) (D : Nat → Nd) (d : Dp) (i : Nat) : Nd := (oneNd n D d i).getD ndZero

/-- From how many places of the tree that there was. -/
def fromN (n : Nat) (d : Dp) : Nat := if d.since = 0 then 0 else n

/-- How it ends. -/
noncomputable def backCode (n : Nat) (D : Nat → Nd) (now : Int) (d : Dp) : Int :=
  open Classical in
  if d.ok = false ∨ (0 < d.since ∧ ¬ TreeGood n D now) then 3
  else if 0 < d.since ∧ now ≠ d.since then 1
  else if (∃ i, i < d.ln ∧ oneNd (fromN n d) D d i = none) ∨ ¬ TreeGood d.ln (oneD (fromN n d) D d) d.date then 2
  else 0

theorem code_form {n : Nat} {D : Nat → Nd} {now : Int} {d : Dp} (h : d.ok = false ∨ (0 < d.since ∧ ¬ TreeGood n D now)) : backCode n D now d = 3 := by
  unfold backCode; rw [if_pos h]

theorem code_other {n : Nat} {D : Nat → Nd} {now : Int} {d : Dp} (h : d.ok = true) (h1 : 0 < d.since) (hg : TreeGood n D now) (h2 : now ≠ d.since) : backCode n D now d = 1 := by
  unfold backCode
  rw [if_neg (by rintro (e | ⟨_, e⟩); (rw [h] at e; cases e); exact e hg), if_pos ⟨h1, h2⟩]

theorem code_bad {n : Nat} {D : Nat → Nd} {now : Int} {d : Dp} (h : d.ok = true) (h1 : 0 < d.since → TreeGood n D now ∧ now = d.since) (hb : (∃ i, i < d.ln ∧ oneNd (fromN n d) D d i = none) ∨ ¬ TreeGood d.ln (oneD (fromN n d) D d) d.date) : backCode n D now d = 2 := by
  unfold backCode
  rw [if_neg (by rintro (e | ⟨e1, e⟩); (rw [h] at e; cases e); exact e (h1 e1).1), if_neg (fun e => e.2 (h1 e.1).2), if_pos hb]

theorem code_fine {n : Nat} {D : Nat → Nd} {now : Int} {d : Dp} (h : d.ok = true) (h1 : 0 < d.since → TreeGood n D now ∧ now = d.since) (hk : ∀ i, i < d.ln → oneNd (fromN n d) D d i ≠ none) (hg : TreeGood d.ln (oneD (fromN n d) D d) d.date) : backCode n D now d = 0 := by
  unfold backCode
  rw [if_neg (by rintro (e | ⟨e1, e⟩); (rw [h] at e; cases e); exact e (h1 e1).1), if_neg (fun e => e.2 (h1 e.1).2), if_neg (by rintro (⟨i, hi, e⟩ | e); exact hk i hi e; exact e hg)]

theorem code_cases (n : Nat) (D : Nat → Nd) (now : Int) (d : Dp) : backCode n D now d = 0 ∨ backCode n D now d = 1 ∨ backCode n D now d = 2 ∨ backCode n D now d = 3 := by
  unfold backCode
  split
  · simp
  · split
    · simp
    · split
      · simp
      · simp

/-- What is known where it ends well. -/
theorem code_zero {n : Nat} {D : Nat → Nd} {now : Int} {d : Dp} (h : backCode n D now d = 0) : d.ok = true ∧ (0 < d.since → TreeGood n D now ∧ now = d.since) ∧ (∀ i, i < d.ln → oneNd (fromN n d) D d i ≠ none) ∧ TreeGood d.ln (oneD (fromN n d) D d) d.date := by
  unfold backCode at h
  split at h
  · omega
  · rename_i h1
    split at h
    · omega
    · rename_i h2
      split at h
      · omega
      · rename_i h3
        refine ⟨?_, fun e => ⟨?_, ?_⟩, fun i hi e => h3 (Or.inl ⟨i, hi, e⟩), ?_⟩
        · cases e : d.ok with
          | true => rfl
          | false => exact absurd (Or.inl e) h1
        · by_cases g : TreeGood n D now
          · exact g
          · exact absurd (Or.inr ⟨e, g⟩) h1
        · by_cases g : now = d.since
          · exact g
          · exact absurd ⟨e, g⟩ h2
        · by_cases g : TreeGood d.ln (oneD (fromN n d) D d) d.date
          · exact g
          · exact absurd (Or.inr g) h3

/-- Where a place comes from. -/
theorem oneD_from (n : Nat) (D : Nat → Nd) (d : Dp) (i : Nat) : oneD n D d i = ndZero ∨ (∃ k, k < d.m ∧ oneD n D d i = d.nd k) ∨ (i < n ∧ oneD n D d i = D i) := by
  unfold oneD oneNd
  split
  · split
    · rename_i k hk; exact Or.inr (Or.inl ⟨k, (ixOf_some hk).1, rfl⟩)
    · split
      · rename_i h; exact Or.inr (Or.inr ⟨h.1, rfl⟩)
      · exact Or.inl rfl
  · exact Or.inl rfl

theorem oneD_fits {n : Nat} {D : Nat → Nd} {d : Dp} (hf : FitAll n D) (hfd : d.Fits) (k : Nat) : FitAll k (oneD n D d) := fun i _ => by
  rcases oneD_from n D d i with e | ⟨j, hj, e⟩ | ⟨hi, e⟩
  · rw [e]; exact ndZero_fits
  · rw [e]; exact hfd.nds j hj
  · rw [e]; exact hf i hi

theorem fromN_le (n : Nat) (d : Dp) : fromN n d ≤ n := by unfold fromN; split <;> omega

/-- They count no more than what they come of. -/
theorem oneD_size {n : Nat} {D : Nat → Nd} {d : Dp} (hok : d.ok = true) : ∀ k, k ≤ d.ln → ∃ c, c ≤ d.m ∧ (∀ j, j < d.m → (d.ino j < (k : Int) ↔ j < c)) ∧ sizeTo (oneD n D d) k ≤ sizeTo D (min k n) + sizeTo d.nd c := by
  intro k
  induction k with
  | zero => exact fun _ => ⟨0, Nat.zero_le _, fun j hj => by have := (ok_live hok hj).1; constructor <;> intro h <;> omega, by simp [sizeTo]⟩
  | succ k ih =>
    intro hk
    obtain ⟨c, hc, hin, hs⟩ := ih (by omega)
    have hmono : sizeTo D (min k n) ≤ sizeTo D (min (k + 1) n) := sizeTo_mono D (by omega)
    by_cases hcm : c < d.m ∧ d.ino c = (k : Int)
    · obtain ⟨hcm, hck⟩ := hcm
      refine ⟨c + 1, by omega, fun j hj => ⟨fun h => ?_, fun h => ?_⟩, ?_⟩
      · rcases Nat.lt_or_ge c j with g | g
        · have := ok_asc hok j c g hj; omega
        · omega
      · by_cases e : j = c
        · subst e; omega
        · have := (hin j hj).2 (by omega); omega
      · rw [sizeTo_succ, sizeTo_succ]
        have hone : (oneD n D d k).size ≤ (d.nd c).size := by
          have hl := (ok_live hok hcm).2.2
          rw [hck] at hl
          unfold oneD oneNd
          rw [if_pos (by simpa using hl), ixOf_one (ok_inj hok) hcm hck]
          exact Nat.le_refl _
        omega
    · have hne : ∀ j, j < d.m → d.ino j ≠ (k : Int) := fun j hj e => by
        have h1 : ¬ j < c := fun h => by have := (hin j hj).2 h; omega
        have h2 : c < d.m := by omega
        have h3 : d.ino c ≤ d.ino j := by
          by_cases e2 : c = j
          · subst e2; exact Int.le_refl _
          · have := ok_asc hok j c (by omega) hj; omega
        have h4 : ¬ d.ino c < (k : Int) := fun h => by have := (hin c h2).1 h; omega
        exact hcm ⟨h2, by omega⟩
      refine ⟨c, hc, fun j hj => ⟨fun h => (hin j hj).1 (by have := hne j hj; omega), fun h => by have := (hin j hj).2 h; omega⟩, ?_⟩
      rw [sizeTo_succ]
      have hone : (oneD n D d k).size = 0 ∨ (k < n ∧ (oneD n D d k).size = (D k).size) := by
        rcases oneD_from n D d k with e | ⟨j, hj, e⟩ | ⟨hi, e⟩
        · rw [e]; exact Or.inl rfl
        · cases hx : ixOf d.ino d.m (k : Int) with
          | some q => exact absurd (ixOf_some hx).2 (hne q (ixOf_some hx).1)
          | none =>
            unfold oneD oneNd
            rw [hx]
            split
            · show (Option.getD (if k < n ∧ (D k).kind ≠ 0 then some (D k) else none) ndZero).size = 0 ∨ _
              split
              · rename_i h; exact Or.inr ⟨h.1, by simp [h]⟩
              · exact Or.inl rfl
            · exact Or.inl rfl
        · rw [e]; exact Or.inr ⟨hi, rfl⟩
      rcases hone with e | ⟨hkn, e⟩
      · omega
      · have e1 : min (k + 1) n = k + 1 := by omega
        have e2 : min k n = k := by omega
        rw [e1, sizeTo_succ]
        rw [e2] at hs
        omega

theorem one_small {n : Nat} {D : Nat → Nd} {d : Dp} (hok : d.ok = true) : sizeTo (oneD n D d) d.ln ≤ sizeTo D n + sizeTo d.nd d.m := by
  obtain ⟨c, hc, _, hs⟩ := oneD_size (n := n) (D := D) hok d.ln (Nat.le_refl _)
  have h1 := sizeTo_mono D (show min d.ln n ≤ n by omega)
  have h2 := sizeTo_mono d.nd hc
  omega

end Go.Proofs.YtakifcobofkheabGreatDoor

/-
  What is held while a tree is made place by place, in memory of its own.
-/
namespace Go.Proofs.YtakifcobofkheabGreatDoor
open Go.RowKit Go.Deep
set_option linter.unusedVariables false
set_option linter.unusedSimpArgs false

/-- The boxes of a tree and of what was kept, and the answer's. -/
structure On (w : World) (a : Option Addr) (n c : Nat) (now : Int) (d : Dp) (l : DLoc) (W : World) : Prop where
  p : Blk W w.heap.size #[.slice a n c, .int .i64 now] 44
  q : Blk W (w.heap.size + 1) #[.int .i64 d.since, .int .i64 d.date, .slice l.lA d.ln l.lc, .slice l.iA d.m l.ic] 64
  r : Blk W (w.heap.size + 1 + 1) #[.slice none 0 0, .int .i64 0] 44
  bel : Below w.heap.size w W

theorem On.below {w : World} {a : Option Addr} {n c : Nat} {now : Int} {d : Dp} {l : DLoc} {W W' : World} (h : On w a n c now d l W) (hb : Below W.heap.size W W') : On w a n c now d l W' := ⟨h.p.below hb h.p.lt, h.q.below hb h.q.lt, h.r.below hb h.r.lt, h.bel.trans (hb.mono h.bel.size)⟩

theorem On.cells {w : World} {a : Option Addr} {n c : Nat} {now : Int} {d : Dp} {l : DLoc} {W : World} (h : On w a n c now d l W) : (W.cell? ⟨w.heap.size, 0, none⟩ = some (.slice a n c) ∧ W.cell? ⟨w.heap.size, 1, none⟩ = some (.int .i64 now)) ∧
    (W.cell? ⟨w.heap.size + 1, 0, none⟩ = some (.int .i64 d.since) ∧ W.cell? ⟨w.heap.size + 1, 1, none⟩ = some (.int .i64 d.date) ∧ W.cell? ⟨w.heap.size + 1, 2, none⟩ = some (.slice l.lA d.ln l.lc) ∧ W.cell? ⟨w.heap.size + 1, 3, none⟩ = some (.slice l.iA d.m l.ic)) ∧
    W.cell? ⟨w.heap.size + 1 + 1, 0, none⟩ = some (.slice none 0 0) ∧ W.cell? ⟨w.heap.size + 1 + 1, 1, none⟩ = some (.int .i64 0) :=
  ⟨⟨h.p.cell 0, h.p.cell 1⟩, ⟨h.q.cell 0, h.q.cell 1, h.q.cell 2, h.q.cell 3⟩, h.r.cell 0, h.r.cell 1⟩

theorem On.of {w W0 : World} {a : Option Addr} {n c : Nat} {now : Int} {d : Dp} {l : DLoc} (h : On w a n c now d l W0) {V : Nat} {t : Int} {k : Nat} {b : Option Addr} {bc : Nat} {E : Nat → Nd} {M : Nat → Loc} {W : World} (g : GT W0 V t k b bc E M W) (hV : w.heap.size + 1 + 1 < V) : On w a n c now d l W :=
  ⟨h.p.of_block (g.keep h.p.lt (by omega)), h.q.of_block (g.keep h.q.lt (by omega)), h.r.of_block (g.keep h.r.lt (by omega)), h.bel.grown g.gr (by have := h.bel.size; omega) (fun j e => by have := Option.some.inj e; omega)⟩

theorem on3 (w : World) (a : Option Addr) (n c : Nat) (now : Int) (d : Dp) (l : DLoc) :
    On w a n c now d l (((w.alloc (.cells #[.slice a n c, .int .i64 now] 44)).alloc (.cells #[.int .i64 d.since, .int .i64 d.date, .slice l.lA d.ln l.lc, .slice l.iA d.m l.ic] 64)).alloc (.cells #[.slice none 0 0, .int .i64 0] 44)) := by
  obtain ⟨h0, h1, h2, hb, _⟩ := new3 w #[.slice a n c, .int .i64 now] 44 #[.int .i64 d.since, .int .i64 d.date, .slice l.lA d.ln l.lc, .slice l.iA d.m l.ic] 64 #[.slice none 0 0, .int .i64 0] 44
  exact ⟨h0, h1, h2, hb⟩

/-- What is known in l6One ahead of its loop. -/
structure On4 (w : World) (a : Option Addr) (n c : Nat) (now : Int) (d : Dp) (l : DLoc) (W : World) : Prop where
  on : On w a n c now d l W
  v : Blk W (w.heap.size + 1 + 1 + 1) #[.slice none 0 0, .int .i64 d.date] 44
  size : W.heap.size = w.heap.size + 4

theorem on4 (w : World) (a : Option Addr) (n c : Nat) (now : Int) (d : Dp) (l : DLoc) :
    On4 w a n c now d l ((((w.alloc (.cells #[.slice a n c, .int .i64 now] 44)).alloc (.cells #[.int .i64 d.since, .int .i64 d.date, .slice l.lA d.ln l.lc, .slice l.iA d.m l.ic] 64)).alloc (.cells #[.slice none 0 0, .int .i64 0] 44)).alloc (.cells #[.slice none 0 0, .int .i64 d.date] 44)) := by
  have h := on3 w a n c now d l
  refine ⟨h.below ((Below.refl _ _).alloc (Nat.le_refl _) _), ?_, by simp⟩
  have := Blk.new (((w.alloc (.cells #[.slice a n c, .int .i64 now] 44)).alloc (.cells #[.int .i64 d.since, .int .i64 d.date, .slice l.lA d.ln l.lc, .slice l.iA d.m l.ic] 64)).alloc (.cells #[.slice none 0 0, .int .i64 0] 44)) #[.slice none 0 0, .int .i64 d.date] 44
  simpa using this
end Go.Proofs.YtakifcobofkheabGreatDoor

/-
  What BackOne answers, in one word for both.
-/
namespace Go.Proofs.YtakifcobofkheabGreatDoor
open Go.RowKit Go.Deep
set_option linter.unusedVariables false
set_option linter.unusedSimpArgs false

/-- What it answers. -/
def BackPost (w : World) (n : Nat) (D : Nat → Nd) (now : Int) (d : Dp) (e : Ending) (w' : World) : Prop :=
  Below w.heap.size w w' ∧ ((backCode n D now d ≠ 0 ∧ e = .returned (.tuple #[.agg #[.slice none 0 0, .int .i64 0], .int .i64 (backCode n D now d)])) ∨
    (backCode n D now d = 0 ∧ ∃ b c M, e = .returned (.tuple #[.agg #[.slice b d.ln c, .int .i64 d.date], .int .i64 0]) ∧ OT w' w.heap.size 0 (fun _ => false) d.ln (fun _ => 0) (oneD (fromN n d) D d) M (.slice none 0 0) (.slice b d.ln c)))

/-- It ends with a code, of nothing. -/
theorem On.fail {w : World} {a : Option Addr} {n c : Nat} {now : Int} {d : Dp} {l : DLoc} {W : World} (h : On w a n c now d l W) {D : Nat → Nd} {z : Int} (hz : backCode n D now d = z) (h0 : z ≠ 0) :
    Blk ((W.setCell ⟨w.heap.size + 1 + 1, 0, none⟩ (.slice none 0 0)).setCell ⟨w.heap.size + 1 + 1, 1, none⟩ (.int .i64 0)) (w.heap.size + 1 + 1) #[.slice none 0 0, .int .i64 0] 44 ∧
      BackPost w n D now d (.returned (.tuple #[.agg #[.slice none 0 0, .int .i64 0], .int .i64 z])) ((W.setCell ⟨w.heap.size + 1 + 1, 0, none⟩ (.slice none 0 0)).setCell ⟨w.heap.size + 1 + 1, 1, none⟩ (.int .i64 0)) :=
  ⟨(h.r.set 0 _).set 1 _, bel_put (bel_put h.bel _ (by omega)) _ (by omega), Or.inl ⟨by rw [hz]; exact h0, by rw [hz]⟩⟩

theorem On.fine {w : World} {a : Option Addr} {n c : Nat} {now : Int} {d : Dp} {l : DLoc} {W : World} (h : On w a n c now d l W) {D : Nat → Nd} (hz : backCode n D now d = 0) {B : Nat} (hB : w.heap.size + 3 ≤ B) {b : Option Addr} {bc : Nat} {M : Nat → Loc} (hot : OT W B 0 (fun _ => false) d.ln (fun _ => 0) (oneD (fromN n d) D d) M (.slice none 0 0) (.slice b d.ln bc)) :
    Blk ((W.setCell ⟨w.heap.size + 1 + 1, 0, none⟩ (.slice b d.ln bc)).setCell ⟨w.heap.size + 1 + 1, 1, none⟩ (.int .i64 d.date)) (w.heap.size + 1 + 1) #[.slice b d.ln bc, .int .i64 d.date] 44 ∧
      BackPost w n D now d (.returned (.tuple #[.agg #[.slice b d.ln bc, .int .i64 d.date], .int .i64 0])) ((W.setCell ⟨w.heap.size + 1 + 1, 0, none⟩ (.slice b d.ln bc)).setCell ⟨w.heap.size + 1 + 1, 1, none⟩ (.int .i64 d.date)) :=
  ⟨(h.r.set 0 _).set 1 _, bel_put (bel_put h.bel _ (by omega)) _ (by omega), Or.inr ⟨hz, b, bc, M, rfl, OT.lower ((hot.off _ (by omega)).off _ (by omega)) (by omega)⟩⟩

/-- .. with a block more behind. -/
theorem On.failA {w : World} {a : Option Addr} {n c : Nat} {now : Int} {d : Dp} {l : DLoc} {W : World} (h : On w a n c now d l W) {D : Nat → Nd} {z : Int} (hz : backCode n D now d = z) (h0 : z ≠ 0) (o : Obj) :
    Blk (((W.setCell ⟨w.heap.size + 1 + 1, 0, none⟩ (.slice none 0 0)).setCell ⟨w.heap.size + 1 + 1, 1, none⟩ (.int .i64 0)).alloc o) (w.heap.size + 1 + 1) #[.slice none 0 0, .int .i64 0] 44 ∧
      BackPost w n D now d (.returned (.tuple #[.agg #[.slice none 0 0, .int .i64 0], .int .i64 z])) (((W.setCell ⟨w.heap.size + 1 + 1, 0, none⟩ (.slice none 0 0)).setCell ⟨w.heap.size + 1 + 1, 1, none⟩ (.int .i64 0)).alloc o) := by
  obtain ⟨h1, h2, h3⟩ := h.fail (D := D) hz h0
  exact ⟨h1.alloc o, h2.alloc h2.size o, h3.imp id fun ⟨e, _⟩ => absurd (hz.symm.trans e) h0⟩

theorem On.fineA {w : World} {a : Option Addr} {n c : Nat} {now : Int} {d : Dp} {l : DLoc} {W : World} (h : On w a n c now d l W) {D : Nat → Nd} (hz : backCode n D now d = 0) {B : Nat} (hB : w.heap.size + 3 ≤ B) {b : Option Addr} {bc : Nat} {M : Nat → Loc} (hot : OT W B 0 (fun _ => false) d.ln (fun _ => 0) (oneD (fromN n d) D d) M (.slice none 0 0) (.slice b d.ln bc)) (o : Obj) :
    Blk (((W.setCell ⟨w.heap.size + 1 + 1, 0, none⟩ (.slice b d.ln bc)).setCell ⟨w.heap.size + 1 + 1, 1, none⟩ (.int .i64 d.date)).alloc o) (w.heap.size + 1 + 1) #[.slice b d.ln bc, .int .i64 d.date] 44 ∧
      BackPost w n D now d (.returned (.tuple #[.agg #[.slice b d.ln bc, .int .i64 d.date], .int .i64 0])) (((W.setCell ⟨w.heap.size + 1 + 1, 0, none⟩ (.slice b d.ln bc)).setCell ⟨w.heap.size + 1 + 1, 1, none⟩ (.int .i64 d.date)).alloc o) := by
  obtain ⟨h1, h2, _⟩ := h.fine (D := D) hz hB hot
  exact ⟨h1.alloc o, h2.alloc h2.size o, Or.inr ⟨hz, b, bc, M, rfl, OT.below (OT.lower ((hot.off _ (by omega)).off _ (by omega)) (by omega)) ((Below.refl _ _).alloc (Nat.le_refl _) _)⟩⟩

theorem ok_since {d : Dp} (h : d.ok = true) : 0 ≤ d.since := by
  unfold Dp.ok headIn at h
  simp at h
  omega

theorem fromN_some {n : Nat} {d : Dp} (h : 0 < d.since) : fromN n d = n := by unfold fromN; rw [if_neg (by omega)]
theorem fromN_none {n : Nat} {d : Dp} (h : d.since = 0) : fromN n d = 0 := by unfold fromN; rw [if_pos h]
end Go.Proofs.YtakifcobofkheabGreatDoor

/-
  What l6One of the specification answers: a tree that is brought back, place by place.
-/
namespace Go.Proofs.YtakifcobofkheabGreatDoor
open Go.RowKit Go.Deep
set_option linter.unusedVariables false
set_option linter.unusedSimpArgs false
set_option linter.unnecessarySimpa false

/-- What it answers. -/
def OnePost (w : World) (n : Nat) (D : Nat → Nd) (d : Dp) (e : Ending) (w' : World) : Prop :=
  Below w.heap.size w w' ∧ (((∃ i, i < d.ln ∧ oneNd n D d i = none) ∧ e = .returned (.tuple #[.agg #[.slice none 0 0, .int .i64 0], .bool false])) ∨
    ((∀ i, i < d.ln → oneNd n D d i ≠ none) ∧ ∃ r : Bool, (r = true ↔ TreeGood d.ln (oneD n D d) d.date) ∧ ∃ b c M, e = .returned (.tuple #[.agg #[.slice b d.ln c, .int .i64 d.date], .bool r]) ∧ OT w' w.heap.size 0 (fun _ => false) d.ln (fun _ => 0) (oneD n D d) M (.slice none 0 0) (.slice b d.ln c)))

/-- What has come is what is to come. -/
theorem one_ext {n : Nat} {D : Nat → Nd} {d : Dp} {k : Nat} {E : Nat → Nd} {x : Nd} (h : ∀ i, i < k → oneNd n D d i = some (E i)) (hx : oneNd n D d k = some x) : ∀ i, i < k + 1 → oneNd n D d i = some ((fun i => if i = k then x else E i) i) := fun i hi => by
  by_cases e : i = k
  · subst e; simp [hx]
  · simp only [e, if_false]; exact h i (by omega)

theorem one_done {n : Nat} {D : Nat → Nd} {d : Dp} {k : Nat} {E : Nat → Nd} (h : ∀ i, i < k → oneNd n D d i = some (E i)) : ∀ i, i < k → oneD n D d i = E i := fun i hi => by unfold oneD; rw [h i hi]; rfl

set_option maxRecDepth 100000 in
set_option maxHeartbeats 8000000 in
theorem l6One_any (a : Option Addr) (n c : Nat) (now : Int) (D : Nat → Nd) (L : Nat → Loc) (d : Dp) (l : DLoc) (w : World) (hS : IsNds w a n D L) (hD : DpIn w d l) (hok : d.ok = true) (hn : n ≤ 10) (hf : FitAll n D) (hfd : d.Fits) (hsz : sizeTo D n + sizeTo d.nd d.m ≤ 1048576) :
    Calls Tryz.prog 68 #[trV a n c now, dpV d l] w (OnePost w n D d) := by
  unfold trV dpV
  obtain ⟨y0, hy, hy0, hy1, hy2⟩ := info_parts infoNode
  obtain ⟨hln1, hln10⟩ := ok_head1 hok
  have hm10 := m_small hok
  have hmx : d.m ≤ maxLen := hfd.m
  have htS := tr_small (show sizeTo D n ≤ 1048576 by omega)
  have htd := tr_small (show sizeTo d.nd d.m ≤ 1048576 by omega)
  have HSZ : Hid (sizeTo (oneD n D d) d.ln ≤ 1048576 ∧ FitAll d.ln (oneD n D d)) := ⟨by have := one_small (n := n) (D := D) hok; omega, oneD_fits hf hfd _⟩
  go_enter Tryz.func68, Tryz.ntmps68
  go_wp2_with fail
  refine wp_world (F := On4 w a n c now d l) (on4 w a n c now d l) ?_
  rintro W0 hO
  have HO : Hid (On4 w a n c now d l W0) := hO
  have hs0 : w.heap.size + 4 ≤ W0.heap.size := by have := hO.size; omega
  have HG : Hid (GT W0 (w.heap.size + 1 + 1 + 1) d.date 0 none 0 (fun _ => ndZero) (fun _ => ⟨none, 0, none, 0⟩) W0) := GT.start hO.v _ _
  clear hO
  go_loopw [7] (fun i wr => ∃ (k : Nat) (b : Option Addr) (bc : Nat) (E : Nat → Nd) (M : Nat → Loc), k ≤ d.ln ∧ i = .int .i64 k ∧ GT W0 (w.heap.size + 1 + 1 + 1) d.date k b bc E M wr ∧ ∀ i, i < k → oneNd n D d i = some (E i)) (fun i _ => d.ln - (intOf i).toNat)
  case atStart => exact ⟨0, none, 0, _, _, Nat.zero_le _, rfl, HG.out, fun i hi => absurd hi (Nat.not_lt_zero _)⟩
  case round =>
    obtain ⟨k, b, bc, E, M, hk, rfl, hin, hsel⟩ := hrel
    have HIN : Hid (GT W0 (w.heap.size + 1 + 1 + 1) d.date k b bc E M wr ∧ ∀ i, i < k → oneNd n D d i = some (E i)) := ⟨hin, hsel⟩
    have HT : Hid (On w a n c now d l wr) := HO.out.on.of hin (by omega)
    have hsw : w.heap.size + 4 ≤ wr.heap.size := by have := hin.size; omega
    clear hin hsel
    obtain ⟨⟨p0, p1⟩, ⟨q0, q1, q2, q3⟩, r0, r1⟩ := HT.out.cells
    have v0 : wr.cell? ⟨w.heap.size + 1 + 1 + 1, 0, none⟩ = some (.slice b k bc) := HIN.out.1.v.cell 0
    have v1 : wr.cell? ⟨w.heap.size + 1 + 1 + 1, 1, none⟩ = some (.int .i64 d.date) := HIN.out.1.v.cell 1
    by_cases hlt : k < d.ln
    · have hlti : (k : Int) < (d.ln : Int) := by omega
      go_wp2_with fail
      refine (l6Item_any d l k wr (hD.below (Nat.le_refl _) HT.out.bel) hmx (ok_inj hok)).mono ?_
      rintro e W4 ⟨hb4, rfl⟩
      have H4 : Hid (On w a n c now d l W4 ∧ GT W0 (w.heap.size + 1 + 1 + 1) d.date k b bc E M W4) := ⟨HT.out.below hb4, HIN.out.1.below hb4⟩
      have hs4 : w.heap.size + 4 ≤ W4.heap.size := by have := hb4.size; omega
      clear hb4 p0 p1 q0 q1 q2 q3 r0 r1 v0 v1
      obtain ⟨⟨p0, p1⟩, ⟨q0, q1, q2, q3⟩, r0, r1⟩ := H4.out.1.cells
      have v0 : W4.cell? ⟨w.heap.size + 1 + 1 + 1, 0, none⟩ = some (.slice b k bc) := H4.out.2.v.cell 0
      have v1 : W4.cell? ⟨w.heap.size + 1 + 1 + 1, 1, none⟩ = some (.int .i64 d.date) := H4.out.2.v.cell 1
      have f0 := H4.out.2.v.frozen 0
      obtain ⟨bL, oL, hL, hLl, hLc⟩ := (hD.live.below (Nat.le_refl _) H4.out.1.bel).at hlt
      have hL0 := hLc k hlt
      rw [hL] at q2
      clear hL hLc
      generalize hzb : ixI (ixOf d.ino d.m (k : Int)) = zb
      have HZB : Hid _ := hzb
      clear hzb
      cases hlv : d.live k with
      | false =>
        rw [hlv] at hL0
        have HX : Hid (oneNd n D d k = some ndZero) := by show _ = _; unfold oneNd; rw [hlv]; rfl
        clear hlv
        go_wp2_with (at_builtin; go_must (refine wpList_append_src (by rfl) _ _ 42 rfl W0.heap.size 28 y0 (.agg #[.int .i64 0, .string ByteArray.empty, .slice none 0 0, .slice none 0 0, .int .i64 0]) 5 80 Tryz.underlying42 hy hy0 hy1 hy2 rfl (by decide) (.slice b k bc) k (rowsT (fun _ => 0) E M k) (by rfl) (H4.out.2.ot.ownI.alloc _) _ 1 _ (by rfl) (src_free W4) (by unfold maxLen; omega) (by omega) (by have := H4.out.2.size; simp; omega) ?_))
        intro vI W7 hown hgrow hnil hat
        rcases hown.2 with ⟨_, h0⟩ | ⟨gI, cI, cur, hvI, _, _, _⟩
        · omega
        subst hvI
        have hbI : (Value.slice b k bc).ownBlock = some gI ∨ (W4.alloc (.cells #[.int .i64 0, .string ByteArray.empty, .slice none 0 0, .slice none 0 0, .int .i64 0] 28)).heap.size ≤ gI := by
          rcases hat with e | e
          · exact Or.inl e.symm
          · right
            have e' : gI = (W4.alloc (.cells #[.int .i64 0, .string ByteArray.empty, .slice none 0 0, .slice none 0 0, .int .i64 0] 28)).heap.size := by simpa [Value.ownBlock] using e
            omega
        have hN6 := (new_zero W4).alloc (.cells #[.int .i64 0, .string ByteArray.empty, .slice none 0 0, .slice none 0 0, .int .i64 0] 28)
        have H8 : Hid _ := H4.out.2.item hN6 hgrow hown hbI
        have hneV : (Value.slice b k bc).ownBlock ≠ some (w.heap.size + 1 + 1 + 1) := fun e => by have := H4.out.2.own _ e; omega
        have hV7 := blk_grown (H4.out.2.v.alloc _) hgrow hneV
        have v07 : W7.cell? ⟨w.heap.size + 1 + 1 + 1, 0, none⟩ = some (.slice b k bc) := hV7.cell 0
        have f07 := hV7.frozen 0
        clear hown hgrow hnil hat hbI hV7 hN6 hneV p0 p1 q0 q1 q2 q3 r0 r1 v0 v1 f0
        go_wp2_with fail
        go_roundw
        case rel => exact ⟨k + 1, some ⟨gI, 0, none⟩, cI, _, _, by omega, by go_num, H8.out, one_ext HIN.out.2 HX.out⟩
        case measure => simp [intOf]; omega
      | true =>
        rw [hlv] at hL0
        have HLV : Hid (d.live k = true) := hlv
        clear hlv
        cases hob : ixOf d.ino d.m (k : Int) with
        | some j =>
          have hz := HZB.out
          rw [hob] at hz
          subst hz
          have hj : j < d.m := (ixOf_some hob).1
          have HX : Hid (oneNd n D d k = some (d.nd j)) := by show _ = _; unfold oneNd; rw [HLV.out, hob]; rfl
          have hj0 : (0 : Int) ≤ ixI (some j) := by show (0 : Int) ≤ (j : Int); omega
          clear hob HZB
          simp only [ixI] at hj0 ⊢
          go_wp2_with fail
          have HW : Hid (∃ bI oI, bI < w.heap.size ∧ ∀ W', Below W4.heap.size W4 W' → (W'.cell? ⟨w.heap.size + 1 + 1 + 1, 0, none⟩ = some (.slice b k bc) ∧ W'.cell? ⟨w.heap.size + 1, 3, none⟩ = some (.slice (some ⟨bI, oI, none⟩) d.m l.ic) ∧ W'.cell? ⟨bI, oI + j * 6 + 1, none⟩ = some (.int .i64 (d.nd j).kind) ∧ W'.cell? ⟨bI, oI + j * 6 + 1 + 1, none⟩ = some (.string (d.nd j).text) ∧ W'.cell? ⟨bI, oI + j * 6 + 1 + 2, none⟩ = some (.slice (l.L j).nA (d.nd j).nn (l.L j).nc) ∧ W'.cell? ⟨bI, oI + j * 6 + 1 + 3, none⟩ = some (.slice (l.L j).kA (d.nd j).kn (l.L j).kc) ∧ W'.cell? ⟨bI, oI + j * 6 + 1 + 4, none⟩ = some (.int .i64 (d.nd j).turn)) ∧ NdIn W' (d.nd j) (l.L j)) := by
            show ∃ _, _
            obtain ⟨bI, oI, hQ, hbl, _⟩ := hD.items.at hj
            refine ⟨bI, oI, by omega, fun W' hW => ?_⟩
            have hcc := (H4.out.1.below hW).cells
            have hv3 : W'.cell? ⟨w.heap.size + 1 + 1 + 1, 0, none⟩ = some (.slice b k bc) := (H4.out.2.below hW).v.cell 0
            obtain ⟨bI', oI', hQ', _, hc'⟩ := ((hD.items.below (Nat.le_refl _) H4.out.1.bel).below (Nat.le_refl _) hW).at hj
            obtain ⟨d0, d1, d2, d3, d4, d5, d6⟩ := hc' j hj
            rw [hQ] at hQ'
            cases hQ'
            refine ⟨⟨hv3, ?_, d1, d2, d3, d4, d5⟩, d6⟩
            rw [← hQ]
            exact hcc.2.1.2.2.2
          obtain ⟨bI, oI, hbIl, hSt⟩ := HW.out
          have HSt : Hid _ := hSt
          have hsm := htd j hj
          have hji : (j : Int) < (d.m : Int) := by omega
          clear p0 p1 q0 q1 q2 q3 r0 r1 v0 v1 f0 hSt HW hL0
          have hd5 : Below W4.heap.size W4 W4.drew := below_drewN (Below.refl _ _) 1
          refine wp_region_noPanic ?_
          refine wp_region_peel2 (fun W' => W'.cell? ⟨w.heap.size + 1 + 1 + 1, 0, none⟩ = some (.slice b k bc) ∧ W'.cell? ⟨w.heap.size + 1, 3, none⟩ = some (.slice (some ⟨bI, oI, none⟩) d.m l.ic) ∧ W'.cell? ⟨bI, oI + j * 6 + 1, none⟩ = some (.int .i64 (d.nd j).kind) ∧ W'.cell? ⟨bI, oI + j * 6 + 1 + 1, none⟩ = some (.string (d.nd j).text) ∧ W'.cell? ⟨bI, oI + j * 6 + 1 + 2, none⟩ = some (.slice (l.L j).nA (d.nd j).nn (l.L j).nc) ∧ W'.cell? ⟨bI, oI + j * 6 + 1 + 3, none⟩ = some (.slice (l.L j).kA (d.nd j).kn (l.L j).kc) ∧ W'.cell? ⟨bI, oI + j * 6 + 1 + 4, none⟩ = some (.int .i64 (d.nd j).turn)) _ _ (by kernel_rfl) rfl rfl (by kernel_rfl) (by kernel_rfl) ?_ (fun hHeld => ?_)
          · exact (HSt.out _ hd5).1
          simp only [List.pop_toArray, List.dropLast, List.size_toArray, List.length_cons, List.length_nil, Nat.reduceAdd, Nat.reduceSub, List.getElem_toArray, List.getElem_cons_succ, List.getElem_cons_zero]
          refine peel_take (i := 0) (oi := ?oi0x) (v := ?v0x) (fun _ _ _ _ _ h => h) hHeld ?hi0x (by kernel_rfl) (by kernel_rfl) (by kernel_rfl) ?hw0x ?hy0x ?rest0x
          case hi0x =>
            simp only [List.getElem?_toArray, List.getElem?_cons_zero]
            rfl
          case hw0x => rfl
          case hy0x =>
            intro w hSw
            obtain ⟨s0, s1, s2, s3, s4, s5, s6⟩ := hSw
            go_simp
            try with_reducible rfl
          try simp only [Act.put, List.setIfInBounds_toArray, List.set_cons_zero, List.set_cons_succ]
          refine peel_take (i := 1) (oi := ?oi1x) (v := ?v1x) (fun _ _ _ _ _ h => h) hHeld ?hi1x (by kernel_rfl) (by kernel_rfl) (by kernel_rfl) ?hw1x ?hy1x ?rest1x
          case hi1x =>
            simp only [List.getElem?_toArray, List.getElem?_cons_succ, List.getElem?_cons_zero]
            rfl
          case hw1x => rfl
          case hy1x =>
            intro w hSw
            obtain ⟨s0, s1, s2, s3, s4, s5, s6⟩ := hSw
            go_simp
            try with_reducible rfl
          try simp only [Act.put, List.setIfInBounds_toArray, List.set_cons_zero, List.set_cons_succ]
          refine peel_take (i := 2) (oi := ?oi2x) (v := ?v2x) (fun _ _ _ _ _ h => h) hHeld ?hi2x (by kernel_rfl) (by kernel_rfl) (by kernel_rfl) ?hw2x ?hy2x ?rest2x
          case hi2x =>
            simp only [List.getElem?_toArray, List.getElem?_cons_succ, List.getElem?_cons_zero]
            rfl
          case hw2x => rfl
          case hy2x =>
            intro w hSw
            obtain ⟨s0, s1, s2, s3, s4, s5, s6⟩ := hSw
            go_simp
            try with_reducible rfl
          try simp only [Act.put, List.setIfInBounds_toArray, List.set_cons_zero, List.set_cons_succ]
          refine peel_take (i := 3) (oi := ?oi3x) (v := ?v3x) (fun _ _ _ _ _ h => h) hHeld ?hi3x (by kernel_rfl) (by kernel_rfl) (by kernel_rfl) ?hw3x ?hy3x ?rest3x
          case hi3x =>
            simp only [List.getElem?_toArray, List.getElem?_cons_succ, List.getElem?_cons_zero]
            rfl
          case hw3x => rfl
          case hy3x =>
            intro w hSw
            obtain ⟨s0, s1, s2, s3, s4, s5, s6⟩ := hSw
            go_simp
            try with_reducible rfl
          try simp only [Act.put, List.setIfInBounds_toArray, List.set_cons_zero, List.set_cons_succ]
          refine peel_take (i := 4) (oi := ?oi4x) (v := ?v4x) (fun _ _ _ _ _ h => h) hHeld ?hi4x (by kernel_rfl) (by kernel_rfl) (by kernel_rfl) ?hw4x ?hy4x ?rest4x
          case hi4x =>
            simp only [List.getElem?_toArray, List.getElem?_cons_succ, List.getElem?_cons_zero]
            rfl
          case hw4x => rfl
          case hy4x =>
            intro w hSw
            obtain ⟨s0, s1, s2, s3, s4, s5, s6⟩ := hSw
            go_simp
            try with_reducible rfl
          try simp only [Act.put, List.setIfInBounds_toArray, List.set_cons_zero, List.set_cons_succ]
          refine peel_take (i := 5) (oi := ?oi5x) (v := ?v5x) (fun _ _ _ _ _ h => h) hHeld ?hi5x (by kernel_rfl) (by kernel_rfl) (by kernel_rfl) ?hw5x ?hy5x ?rest5x
          case hi5x =>
            simp only [List.getElem?_toArray, List.getElem?_cons_succ, List.getElem?_cons_zero]
            rfl
          case hw5x => rfl
          case hy5x =>
            intro w hSw
            obtain ⟨s0, s1, s2, s3, s4, s5, s6⟩ := hSw
            go_simp
            try with_reducible rfl
          try simp only [Act.put, List.setIfInBounds_toArray, List.set_cons_zero, List.set_cons_succ]
          refine peel_take (i := 6) (oi := ?oi6x) (v := ?v6x) (fun _ _ _ _ _ h => h) hHeld ?hi6x (by kernel_rfl) (by kernel_rfl) (by kernel_rfl) ?hw6x ?hy6x ?rest6x
          case hi6x =>
            simp only [List.getElem?_toArray, List.getElem?_cons_succ, List.getElem?_cons_zero]
            rfl
          case hw6x => rfl
          case hy6x =>
            intro w hSw
            obtain ⟨s0, s1, s2, s3, s4, s5, s6⟩ := hSw
            go_simp
            try with_reducible rfl
          try simp only [Act.put, List.setIfInBounds_toArray, List.set_cons_zero, List.set_cons_succ]
          refine peel_take (i := 7) (oi := ?oi7x) (v := ?v7x) (fun _ _ _ _ _ h => h) hHeld ?hi7x (by kernel_rfl) (by kernel_rfl) (by kernel_rfl) ?hw7x ?hy7x ?rest7x
          case hi7x =>
            simp only [List.getElem?_toArray, List.getElem?_cons_succ, List.getElem?_cons_zero]
            rfl
          case hw7x => rfl
          case hy7x =>
            intro w hSw
            obtain ⟨s0, s1, s2, s3, s4, s5, s6⟩ := hSw
            go_simp
            try with_reducible rfl
          try simp only [Act.put, List.setIfInBounds_toArray, List.set_cons_zero, List.set_cons_succ]
          refine wpAnyH_ready (rs := [8]) (by kernel_rfl) (by simp) ?_
          refine AllReadyH.cons (o := ?o8x) ?ho8x (fun K hK => ?st8x) AllReadyH.nil
          case ho8x =>
            simp only [List.getElem?_toArray, List.getElem?_cons_succ, List.getElem?_cons_zero]
            rfl
          go_simp
          refine (l2Copy_any (d.nd j) (l.L j) W4.drew (HSt.out _ hd5).2 hsm.1 hsm.2.1).mono ?_
          rintro e W6 ⟨l5, rfl, hN5⟩
          unfold ndV
          have hb6 : Below W4.heap.size W4 W6 := hd5.trans hN5.bel
          refine hK.out _ _ (HSt.out W6 hb6).1 (fun hHeld => ?re8x)
          clear hK K
          try simp only [Act.put, List.setIfInBounds_toArray, List.set_cons_zero, List.set_cons_succ]
          refine wpAnyH_ready (rs := [9]) (by kernel_rfl) (by simp) ?_
          refine AllReadyH.cons (o := ?o9x) ?ho9x (fun K hK => ?st9x) AllReadyH.nil
          case ho9x =>
            simp only [List.getElem?_toArray, List.getElem?_cons_succ, List.getElem?_cons_zero]
            rfl
          go_simp
          have hb7 : Below W4.heap.size W4 (W6.alloc (.cells #[.int .i64 (d.nd j).kind, .string (d.nd j).text, .slice l5.nA (d.nd j).nn l5.nc, .slice l5.kA (d.nd j).kn l5.kc, .int .i64 (d.nd j).turn] 28)) := hb6.alloc hb6.size _
          refine hK.out _ _ (HSt.out _ hb7).1 (fun hHeld => ?re9x)
          clear hK K
          try simp only [Act.put, List.setIfInBounds_toArray, List.set_cons_zero, List.set_cons_succ]
          refine wpAnyH_ready (rs := [10]) (by kernel_rfl) (by simp) ?_
          refine AllReadyH.cons (o := ?o10x) ?ho10x (fun K hK => ?st10x) AllReadyH.nil
          case ho10x =>
            simp only [List.getElem?_toArray, List.getElem?_cons_succ, List.getElem?_cons_zero]
            rfl
          have hD6 := H4.out.2.below hb7
          have hN6 := hN5.new.alloc (.cells #[.int .i64 (d.nd j).kind, .string (d.nd j).text, .slice l5.nA (d.nd j).nn l5.nc, .slice l5.kA (d.nd j).kn l5.kc, .int .i64 (d.nd j).turn] 28)
          have hneV : (Value.slice b k bc).ownBlock ≠ some (w.heap.size + 1 + 1 + 1) := fun e => by have := H4.out.2.own _ e; omega
          have hbo5 : ∀ q, (Value.slice b k bc).ownBlock = some q → W0.heap.size ≤ q := fun q e => (H4.out.2.own q e).1
          refine step_of (by rfl) (wp_append_src (.tmp 40) (.tmp 48) 42 rfl W0.heap.size 28 y0 (.agg #[.int .i64 0, .string ByteArray.empty, .slice none 0 0, .slice none 0 0, .int .i64 0]) 5 80 Tryz.underlying42 hy hy0 hy1 hy2 rfl (by decide) (.slice b k bc) k _ (by rfl) hD6.ot.ownI _ 1 _ (by rfl) (src_node W6 (d.nd j) l5) (by unfold maxLen; omega) (by omega) (by have := hb7.size; have := H4.out.2.size; omega) ?_)
          intro vI W7 hown hgrow hnil hat
          rcases hown.2 with ⟨_, h0⟩ | ⟨gI, cI, cur, hvI, _, _, _⟩
          · omega
          subst hvI
          have hbI : (Value.slice b k bc).ownBlock = some gI ∨ (W6.alloc (.cells #[.int .i64 (d.nd j).kind, .string (d.nd j).text, .slice l5.nA (d.nd j).nn l5.nc, .slice l5.kA (d.nd j).kn l5.kc, .int .i64 (d.nd j).turn] 28)).heap.size ≤ gI := by
            rcases hat with e | e
            · exact Or.inl e.symm
            · right
              have e' : gI = (W6.alloc (.cells #[.int .i64 (d.nd j).kind, .string (d.nd j).text, .slice l5.nA (d.nd j).nn l5.nc, .slice l5.kA (d.nd j).kn l5.kc, .int .i64 (d.nd j).turn] 28)).heap.size := by simpa [Value.ownBlock] using e
              omega
          have hV7 := blk_grown hD6.v hgrow hneV
          have hHeld7 : W7.cell? ⟨w.heap.size + 1 + 1 + 1, 0, none⟩ = some (.slice b k bc) ∧ W7.cell? ⟨w.heap.size + 1, 3, none⟩ = some (.slice (some ⟨bI, oI, none⟩) d.m l.ic) ∧ W7.cell? ⟨bI, oI + j * 6 + 1, none⟩ = some (.int .i64 (d.nd j).kind) ∧ W7.cell? ⟨bI, oI + j * 6 + 1 + 1, none⟩ = some (.string (d.nd j).text) ∧ W7.cell? ⟨bI, oI + j * 6 + 1 + 2, none⟩ = some (.slice (l.L j).nA (d.nd j).nn (l.L j).nc) ∧ W7.cell? ⟨bI, oI + j * 6 + 1 + 3, none⟩ = some (.slice (l.L j).kA (d.nd j).kn (l.L j).kc) ∧ W7.cell? ⟨bI, oI + j * 6 + 1 + 4, none⟩ = some (.int .i64 (d.nd j).turn) := by
            obtain ⟨e0, e1, e2, e3, e4, e5, e6⟩ := (HSt.out _ hb7).1
            have hlow : ∀ q o v, q < W0.heap.size → (W6.alloc (.cells #[.int .i64 (d.nd j).kind, .string (d.nd j).text, .slice l5.nA (d.nd j).nn l5.nc, .slice l5.kA (d.nd j).kn l5.kc, .int .i64 (d.nd j).turn] 28)).cell? ⟨q, o, none⟩ = some v → W7.cell? ⟨q, o, none⟩ = some v := fun q o v hq h => hgrow.cell h (fun e => by have := hbo5 q e.symm; omega)
            exact ⟨hV7.cell 0, hlow _ _ _ (by omega) e1, hlow _ _ _ (by omega) e2, hlow _ _ _ (by omega) e3, hlow _ _ _ (by omega) e4, hlow _ _ _ (by omega) e5, hlow _ _ _ (by omega) e6⟩
          have H8 : Hid _ := (H4.out.2.below hd5).item hN6 hgrow hown hbI
          have v07 : W7.cell? ⟨w.heap.size + 1 + 1 + 1, 0, none⟩ = some (.slice b k bc) := hV7.cell 0
          have f07 := hV7.frozen 0
          refine hK.out _ _ hHeld7 (fun hHeld => ?re10x)
          clear hK K
          try simp only [Act.put, List.setIfInBounds_toArray, List.set_cons_zero, List.set_cons_succ]
          refine wpAnyH_done (by kernel_rfl) ?_ _
          show Oper.wp _ _ _ _ _ _
          clear hown hgrow hnil hat hbI hV7 hHeld7 hN6 hD6 hN5 HSt hneV hHeld hd5 hb6 hb7 hsm hbo5
          go_simp
          show Oper.wp _ _ _ _ _ _
          go_simp
          refine NoPanic.normal ?_
          go_wp2_with fail
          go_roundw
          case rel => exact ⟨k + 1, some ⟨gI, 0, none⟩, cI, _, _, by omega, by go_num, H8.out, one_ext HIN.out.2 HX.out⟩
          case measure => simp [intOf]; omega
        | none =>
          have hz := HZB.out
          rw [hob] at hz
          subst hz
          simp only [ixI]
          by_cases hfr : k < n ∧ (D k).kind ≠ 0
          · obtain ⟨hkn, hkk⟩ := hfr
            have HX : Hid (oneNd n D d k = some (D k)) := by show _ = _; unfold oneNd; rw [HLV.out, hob]; simp [hkn, hkk]
            have hkni : (k : Int) < (n : Int) := by omega
            have hkb : ((D k).kind != 0) = true := by simp [hkk]
            obtain ⟨bT, oT, hT, hTl, hTc⟩ := (hS.below (Nat.le_refl _) H4.out.1.bel).at hkn
            have hT0 := (hTc k hkn).1
            have HTA : Hid (a = some ⟨bT, oT, none⟩) := hT
            rw [hT] at p0
            clear hob HZB hkk hT hTc
            go_wp2_with fail
            have HW : Hid (bT < w.heap.size ∧ ∀ W', Below W4.heap.size W4 W' → (W'.cell? ⟨w.heap.size + 1 + 1 + 1, 0, none⟩ = some (.slice b k bc) ∧ W'.cell? ⟨w.heap.size, 0, none⟩ = some (.slice (some ⟨bT, oT, none⟩) n c) ∧ W'.cell? ⟨bT, oT + k * 5, none⟩ = some (.int .i64 (D k).kind) ∧ W'.cell? ⟨bT, oT + k * 5 + 1, none⟩ = some (.string (D k).text) ∧ W'.cell? ⟨bT, oT + k * 5 + 2, none⟩ = some (.slice (L k).nA (D k).nn (L k).nc) ∧ W'.cell? ⟨bT, oT + k * 5 + 3, none⟩ = some (.slice (L k).kA (D k).kn (L k).kc) ∧ W'.cell? ⟨bT, oT + k * 5 + 4, none⟩ = some (.int .i64 (D k).turn)) ∧ NdIn W' (D k) (L k)) := by
              show _ ∧ _
              obtain ⟨bI, oI, hQ, hbl, _⟩ := hS.at hkn
              have hQT := HTA.out
              rw [hQ] at hQT
              obtain ⟨rfl, rfl⟩ : bI = bT ∧ oI = oT := by cases hQT; exact ⟨rfl, rfl⟩
              refine ⟨by omega, fun W' hW => ?_⟩
              have hcc := (H4.out.1.below hW).cells
              have hv3 : W'.cell? ⟨w.heap.size + 1 + 1 + 1, 0, none⟩ = some (.slice b k bc) := (H4.out.2.below hW).v.cell 0
              obtain ⟨bI', oI', hQ', _, hc'⟩ := ((hS.below (Nat.le_refl _) H4.out.1.bel).below (Nat.le_refl _) hW).at hkn
              obtain ⟨d1, d2, d3, d4, d5, d6⟩ := hc' k hkn
              rw [hQ] at hQ'
              cases hQ'
              refine ⟨⟨hv3, ?_, d1, d2, d3, d4, d5⟩, d6⟩
              rw [← hQ]
              exact hcc.1.1
            obtain ⟨hbIl, hSt⟩ := HW.out
            have HSt : Hid _ := hSt
            have hsm := htS k hkn

            clear p0 p1 q0 q1 q2 q3 r0 r1 v0 v1 f0 hSt HW hL0 hT0
            have hd5 : Below W4.heap.size W4 W4.drew := below_drewN (Below.refl _ _) 1
            refine wp_region_noPanic ?_
            refine wp_region_peel2 (fun W' => W'.cell? ⟨w.heap.size + 1 + 1 + 1, 0, none⟩ = some (.slice b k bc) ∧ W'.cell? ⟨w.heap.size, 0, none⟩ = some (.slice (some ⟨bT, oT, none⟩) n c) ∧ W'.cell? ⟨bT, oT + k * 5, none⟩ = some (.int .i64 (D k).kind) ∧ W'.cell? ⟨bT, oT + k * 5 + 1, none⟩ = some (.string (D k).text) ∧ W'.cell? ⟨bT, oT + k * 5 + 2, none⟩ = some (.slice (L k).nA (D k).nn (L k).nc) ∧ W'.cell? ⟨bT, oT + k * 5 + 3, none⟩ = some (.slice (L k).kA (D k).kn (L k).kc) ∧ W'.cell? ⟨bT, oT + k * 5 + 4, none⟩ = some (.int .i64 (D k).turn)) _ _ (by kernel_rfl) rfl rfl (by kernel_rfl) (by kernel_rfl) ?_ (fun hHeld => ?_)
            · exact (HSt.out _ hd5).1
            simp only [List.pop_toArray, List.dropLast, List.size_toArray, List.length_cons, List.length_nil, Nat.reduceAdd, Nat.reduceSub, List.getElem_toArray, List.getElem_cons_succ, List.getElem_cons_zero]
            refine peel_take (i := 0) (oi := ?oi0y) (v := ?v0y) (fun _ _ _ _ _ h => h) hHeld ?hi0y (by kernel_rfl) (by kernel_rfl) (by kernel_rfl) ?hw0y ?hy0y ?rest0y
            case hi0y =>
              simp only [List.getElem?_toArray, List.getElem?_cons_zero]
              rfl
            case hw0y => rfl
            case hy0y =>
              intro w hSw
              obtain ⟨s0, s1, s2, s3, s4, s5, s6⟩ := hSw
              go_simp
              try with_reducible rfl
            try simp only [Act.put, List.setIfInBounds_toArray, List.set_cons_zero, List.set_cons_succ]
            refine peel_take (i := 1) (oi := ?oi1y) (v := ?v1y) (fun _ _ _ _ _ h => h) hHeld ?hi1y (by kernel_rfl) (by kernel_rfl) (by kernel_rfl) ?hw1y ?hy1y ?rest1y
            case hi1y =>
              simp only [List.getElem?_toArray, List.getElem?_cons_succ, List.getElem?_cons_zero]
              rfl
            case hw1y => rfl
            case hy1y =>
              intro w hSw
              obtain ⟨s0, s1, s2, s3, s4, s5, s6⟩ := hSw
              go_simp
              try with_reducible rfl
            try simp only [Act.put, List.setIfInBounds_toArray, List.set_cons_zero, List.set_cons_succ]
            refine peel_take (i := 2) (oi := ?oi2y) (v := ?v2y) (fun _ _ _ _ _ h => h) hHeld ?hi2y (by kernel_rfl) (by kernel_rfl) (by kernel_rfl) ?hw2y ?hy2y ?rest2y
            case hi2y =>
              simp only [List.getElem?_toArray, List.getElem?_cons_succ, List.getElem?_cons_zero]
              rfl
            case hw2y => rfl
            case hy2y =>
              intro w hSw
              obtain ⟨s0, s1, s2, s3, s4, s5, s6⟩ := hSw
              go_simp
              try with_reducible rfl
            try simp only [Act.put, List.setIfInBounds_toArray, List.set_cons_zero, List.set_cons_succ]
            refine peel_take (i := 3) (oi := ?oi3y) (v := ?v3y) (fun _ _ _ _ _ h => h) hHeld ?hi3y (by kernel_rfl) (by kernel_rfl) (by kernel_rfl) ?hw3y ?hy3y ?rest3y
            case hi3y =>
              simp only [List.getElem?_toArray, List.getElem?_cons_succ, List.getElem?_cons_zero]
              rfl
            case hw3y => rfl
            case hy3y =>
              intro w hSw
              obtain ⟨s0, s1, s2, s3, s4, s5, s6⟩ := hSw
              go_simp
              try with_reducible rfl
            try simp only [Act.put, List.setIfInBounds_toArray, List.set_cons_zero, List.set_cons_succ]
            refine peel_take (i := 4) (oi := ?oi4y) (v := ?v4y) (fun _ _ _ _ _ h => h) hHeld ?hi4y (by kernel_rfl) (by kernel_rfl) (by kernel_rfl) ?hw4y ?hy4y ?rest4y
            case hi4y =>
              simp only [List.getElem?_toArray, List.getElem?_cons_succ, List.getElem?_cons_zero]
              rfl
            case hw4y => rfl
            case hy4y =>
              intro w hSw
              obtain ⟨s0, s1, s2, s3, s4, s5, s6⟩ := hSw
              go_simp
              try with_reducible rfl
            try simp only [Act.put, List.setIfInBounds_toArray, List.set_cons_zero, List.set_cons_succ]
            refine peel_take (i := 5) (oi := ?oi5y) (v := ?v5y) (fun _ _ _ _ _ h => h) hHeld ?hi5y (by kernel_rfl) (by kernel_rfl) (by kernel_rfl) ?hw5y ?hy5y ?rest5y
            case hi5y =>
              simp only [List.getElem?_toArray, List.getElem?_cons_succ, List.getElem?_cons_zero]
              rfl
            case hw5y => rfl
            case hy5y =>
              intro w hSw
              obtain ⟨s0, s1, s2, s3, s4, s5, s6⟩ := hSw
              go_simp
              try with_reducible rfl
            try simp only [Act.put, List.setIfInBounds_toArray, List.set_cons_zero, List.set_cons_succ]
            refine peel_take (i := 6) (oi := ?oi6y) (v := ?v6y) (fun _ _ _ _ _ h => h) hHeld ?hi6y (by kernel_rfl) (by kernel_rfl) (by kernel_rfl) ?hw6y ?hy6y ?rest6y
            case hi6y =>
              simp only [List.getElem?_toArray, List.getElem?_cons_succ, List.getElem?_cons_zero]
              rfl
            case hw6y => rfl
            case hy6y =>
              intro w hSw
              obtain ⟨s0, s1, s2, s3, s4, s5, s6⟩ := hSw
              go_simp
              try with_reducible rfl
            try simp only [Act.put, List.setIfInBounds_toArray, List.set_cons_zero, List.set_cons_succ]
            refine wpAnyH_ready (rs := [7]) (by kernel_rfl) (by simp) ?_
            refine AllReadyH.cons (o := ?o7y) ?ho7y (fun K hK => ?st7y) AllReadyH.nil
            case ho7y =>
              simp only [List.getElem?_toArray, List.getElem?_cons_succ, List.getElem?_cons_zero]
              rfl
            go_simp
            refine (l2Copy_any (D k) (L k) W4.drew (HSt.out _ hd5).2 hsm.1 hsm.2.1).mono ?_
            rintro e W6 ⟨l5, rfl, hN5⟩
            unfold ndV
            have hb6 : Below W4.heap.size W4 W6 := hd5.trans hN5.bel
            refine hK.out _ _ (HSt.out W6 hb6).1 (fun hHeld => ?re7y)
            clear hK K
            try simp only [Act.put, List.setIfInBounds_toArray, List.set_cons_zero, List.set_cons_succ]
            refine wpAnyH_ready (rs := [8]) (by kernel_rfl) (by simp) ?_
            refine AllReadyH.cons (o := ?o8y) ?ho8y (fun K hK => ?st8y) AllReadyH.nil
            case ho8y =>
              simp only [List.getElem?_toArray, List.getElem?_cons_succ, List.getElem?_cons_zero]
              rfl
            go_simp
            have hb7 : Below W4.heap.size W4 (W6.alloc (.cells #[.int .i64 (D k).kind, .string (D k).text, .slice l5.nA (D k).nn l5.nc, .slice l5.kA (D k).kn l5.kc, .int .i64 (D k).turn] 28)) := hb6.alloc hb6.size _
            refine hK.out _ _ (HSt.out _ hb7).1 (fun hHeld => ?re8y)
            clear hK K
            try simp only [Act.put, List.setIfInBounds_toArray, List.set_cons_zero, List.set_cons_succ]
            refine wpAnyH_ready (rs := [9]) (by kernel_rfl) (by simp) ?_
            refine AllReadyH.cons (o := ?o9y) ?ho9y (fun K hK => ?st9y) AllReadyH.nil
            case ho9y =>
              simp only [List.getElem?_toArray, List.getElem?_cons_succ, List.getElem?_cons_zero]
              rfl
            have hD6 := H4.out.2.below hb7
            have hN6 := hN5.new.alloc (.cells #[.int .i64 (D k).kind, .string (D k).text, .slice l5.nA (D k).nn l5.nc, .slice l5.kA (D k).kn l5.kc, .int .i64 (D k).turn] 28)
            have hneV : (Value.slice b k bc).ownBlock ≠ some (w.heap.size + 1 + 1 + 1) := fun e => by have := H4.out.2.own _ e; omega
            have hbo5 : ∀ q, (Value.slice b k bc).ownBlock = some q → W0.heap.size ≤ q := fun q e => (H4.out.2.own q e).1
            refine step_of (by rfl) (wp_append_src (.tmp 67) (.tmp 74) 42 rfl W0.heap.size 28 y0 (.agg #[.int .i64 0, .string ByteArray.empty, .slice none 0 0, .slice none 0 0, .int .i64 0]) 5 80 Tryz.underlying42 hy hy0 hy1 hy2 rfl (by decide) (.slice b k bc) k _ (by rfl) hD6.ot.ownI _ 1 _ (by rfl) (src_node W6 (D k) l5) (by unfold maxLen; omega) (by omega) (by have := hb7.size; have := H4.out.2.size; omega) ?_)
            intro vI W7 hown hgrow hnil hat
            rcases hown.2 with ⟨_, h0⟩ | ⟨gI, cI, cur, hvI, _, _, _⟩
            · omega
            subst hvI
            have hbI : (Value.slice b k bc).ownBlock = some gI ∨ (W6.alloc (.cells #[.int .i64 (D k).kind, .string (D k).text, .slice l5.nA (D k).nn l5.nc, .slice l5.kA (D k).kn l5.kc, .int .i64 (D k).turn] 28)).heap.size ≤ gI := by
              rcases hat with e | e
              · exact Or.inl e.symm
              · right
                have e' : gI = (W6.alloc (.cells #[.int .i64 (D k).kind, .string (D k).text, .slice l5.nA (D k).nn l5.nc, .slice l5.kA (D k).kn l5.kc, .int .i64 (D k).turn] 28)).heap.size := by simpa [Value.ownBlock] using e
                omega
            have hV7 := blk_grown hD6.v hgrow hneV
            have hHeld7 : W7.cell? ⟨w.heap.size + 1 + 1 + 1, 0, none⟩ = some (.slice b k bc) ∧ W7.cell? ⟨w.heap.size, 0, none⟩ = some (.slice (some ⟨bT, oT, none⟩) n c) ∧ W7.cell? ⟨bT, oT + k * 5, none⟩ = some (.int .i64 (D k).kind) ∧ W7.cell? ⟨bT, oT + k * 5 + 1, none⟩ = some (.string (D k).text) ∧ W7.cell? ⟨bT, oT + k * 5 + 2, none⟩ = some (.slice (L k).nA (D k).nn (L k).nc) ∧ W7.cell? ⟨bT, oT + k * 5 + 3, none⟩ = some (.slice (L k).kA (D k).kn (L k).kc) ∧ W7.cell? ⟨bT, oT + k * 5 + 4, none⟩ = some (.int .i64 (D k).turn) := by
              obtain ⟨e0, e1, e2, e3, e4, e5, e6⟩ := (HSt.out _ hb7).1
              have hlow : ∀ q o v, q < W0.heap.size → (W6.alloc (.cells #[.int .i64 (D k).kind, .string (D k).text, .slice l5.nA (D k).nn l5.nc, .slice l5.kA (D k).kn l5.kc, .int .i64 (D k).turn] 28)).cell? ⟨q, o, none⟩ = some v → W7.cell? ⟨q, o, none⟩ = some v := fun q o v hq h => hgrow.cell h (fun e => by have := hbo5 q e.symm; omega)
              exact ⟨hV7.cell 0, hlow _ _ _ (by omega) e1, hlow _ _ _ (by omega) e2, hlow _ _ _ (by omega) e3, hlow _ _ _ (by omega) e4, hlow _ _ _ (by omega) e5, hlow _ _ _ (by omega) e6⟩
            have H8 : Hid _ := (H4.out.2.below hd5).item hN6 hgrow hown hbI
            have v07 : W7.cell? ⟨w.heap.size + 1 + 1 + 1, 0, none⟩ = some (.slice b k bc) := hV7.cell 0
            have f07 := hV7.frozen 0
            refine hK.out _ _ hHeld7 (fun hHeld => ?re9y)
            clear hK K
            try simp only [Act.put, List.setIfInBounds_toArray, List.set_cons_zero, List.set_cons_succ]
            refine wpAnyH_done (by kernel_rfl) ?_ _
            show Oper.wp _ _ _ _ _ _
            clear hown hgrow hnil hat hbI hV7 hHeld7 hN6 hD6 hN5 HSt hneV hHeld hd5 hb6 hb7 hsm hbo5
            go_simp
            show Oper.wp _ _ _ _ _ _
            go_simp
            refine NoPanic.normal ?_
            go_wp2_with fail
            go_roundw
            case rel => exact ⟨k + 1, some ⟨gI, 0, none⟩, cI, _, _, by omega, by go_num, H8.out, one_ext HIN.out.2 HX.out⟩
            case measure => simp [intOf]; omega
          · have HX : Hid (oneNd n D d k = none) := by show _ = _; unfold oneNd; rw [HLV.out, hob]; simp only [if_true]; exact if_neg hfr
            have HE : Hid (OnePost w n D d (.returned (.tuple #[.agg #[.slice none 0 0, .int .i64 0], .bool false])) ((W4.setCell ⟨w.heap.size + 1 + 1, 0, none⟩ (.slice none 0 0)).setCell ⟨w.heap.size + 1 + 1, 1, none⟩ (.int .i64 0))) := ⟨bel_put (bel_put H4.out.1.bel _ (by omega)) _ (by omega), Or.inl ⟨⟨k, hlt, HX.out⟩, rfl⟩⟩
            have e0 := H4.out.1.r.frozen 0
            have e1 := H4.out.1.r.frozen 1
            have HR : Hid (Blk ((W4.setCell ⟨w.heap.size + 1 + 1, 0, none⟩ (.slice none 0 0)).setCell ⟨w.heap.size + 1 + 1, 1, none⟩ (.int .i64 0)) (w.heap.size + 1 + 1) #[.slice none 0 0, .int .i64 0] 44) := (H4.out.1.r.set 0 _).set 1 _
            by_cases hkn : k < n
            · have hk0 : (D k).kind = 0 := by
                rcases Classical.em ((D k).kind = 0) with g | g
                · exact g
                · exact absurd ⟨hkn, g⟩ hfr
              have hkb : ((D k).kind != 0) = false := by simp [hk0]
              have HK0 : Hid ((D k).kind = 0) := hk0
              clear hk0
              have hkni : (k : Int) < (n : Int) := by omega
              obtain ⟨bT, oT, hT, hTl, hTc⟩ := (hS.below (Nat.le_refl _) H4.out.1.bel).at hkn
              have hT0 := (hTc k hkn).1
              rw [hT] at p0
              clear hob HZB hfr hT hTc
              go_wp2_with fail
              refine end_world (F := fun U => Blk U (w.heap.size + 1 + 1) #[.slice none 0 0, .int .i64 0] 44 ∧ OnePost w n D d (.returned (.tuple #[.agg #[.slice none 0 0, .int .i64 0], .bool false])) U) ⟨HR.out, HE.out⟩ ?_
              rintro U ⟨hr, hE⟩
              have e0 : U.cell? ⟨w.heap.size + 1 + 1, 0, none⟩ = some (.slice none 0 0) := hr.cell 0
              have e1 : U.cell? ⟨w.heap.size + 1 + 1, 1, none⟩ = some (.int .i64 0) := hr.cell 1
              exact bodyPost_ret (v := .tuple #[.agg #[.slice none 0 0, .int .i64 0], .bool false]) (by simp [results, Tryz.results68, go_sem, e0, e1]) rfl hE
            · have hkni : ¬ (k : Int) < (n : Int) := by omega
              clear hob HZB hfr
              go_wp2_with fail
              refine end_world (F := fun U => Blk U (w.heap.size + 1 + 1) #[.slice none 0 0, .int .i64 0] 44 ∧ OnePost w n D d (.returned (.tuple #[.agg #[.slice none 0 0, .int .i64 0], .bool false])) U) ⟨HR.out, HE.out⟩ ?_
              rintro U ⟨hr, hE⟩
              have e0 : U.cell? ⟨w.heap.size + 1 + 1, 0, none⟩ = some (.slice none 0 0) := hr.cell 0
              have e1 : U.cell? ⟨w.heap.size + 1 + 1, 1, none⟩ = some (.int .i64 0) := hr.cell 1
              exact bodyPost_ret (v := .tuple #[.agg #[.slice none 0 0, .int .i64 0], .bool false]) (by simp [results, Tryz.results68, go_sem, e0, e1]) rfl hE
    · obtain rfl : k = d.ln := by omega
      have hE := one_done HIN.out.2
      have HOT : Hid (OT wr W0.heap.size 0 (fun _ => false) d.ln (fun _ => 0) (oneD n D d) M (.slice none 0 0) (.slice b d.ln bc)) := HIN.out.1.ot.ext fun i hi => ⟨(hE i hi), rfl⟩
      have HKN : Hid (∀ i, i < d.ln → oneNd n D d i ≠ none) := fun i hi e => by have := HIN.out.2 i hi; rw [e] at this; cases this
      have HSt : Hid (∀ W', Below wr.heap.size wr W' → W'.cell? ⟨w.heap.size + 1 + 1 + 1, 0, none⟩ = some (.slice b d.ln bc) ∧ W'.cell? ⟨w.heap.size + 1 + 1 + 1, 1, none⟩ = some (.int .i64 d.date)) := fun W' hW => ⟨(HIN.out.1.below hW).v.cell 0, (HIN.out.1.below hW).v.cell 1⟩
      clear hE
      go_wp2_with fail
      clear p0 p1 q0 q1 q2 q3 r0 r1 v0 v1
      refine wp_region_noPanic ?_
      have hd5 : Below wr.heap.size wr wr.drew := below_drewN (Below.refl _ _) 1
      refine wp_region_peel (fun W' => W'.cell? ⟨w.heap.size + 1 + 1 + 1, 0, none⟩ = some (.slice b d.ln bc) ∧ W'.cell? ⟨w.heap.size + 1 + 1 + 1, 1, none⟩ = some (.int .i64 d.date)) _ (by kernel_rfl) rfl (by kernel_rfl) ?_ (fun hHeld => ?_)
      · exact HSt.out _ hd5
      simp only [List.pop_toArray, List.dropLast, List.size_toArray, List.length_cons, List.length_nil, Nat.reduceAdd, Nat.reduceSub, List.getElem_toArray, List.getElem_cons_succ, List.getElem_cons_zero]
      refine peel_take (i := 0) (oi := ?oi0z) (v := ?v0z) (fun _ _ _ _ _ h => h) hHeld ?hi0z (by kernel_rfl) (by kernel_rfl) (by kernel_rfl) ?hw0z ?hy0z ?rest0z
      case hi0z =>
        simp only [List.getElem?_toArray, List.getElem?_cons_zero]
        rfl
      case hw0z => rfl
      case hy0z =>
        intro w hSw
        obtain ⟨s0, s1⟩ := hSw
        go_simp
        try with_reducible rfl
      try simp only [Act.put, List.setIfInBounds_toArray, List.set_cons_zero, List.set_cons_succ]
      refine peel_take (i := 1) (oi := ?oi1z) (v := ?v1z) (fun _ _ _ _ _ h => h) hHeld ?hi1z (by kernel_rfl) (by kernel_rfl) (by kernel_rfl) ?hw1z ?hy1z ?rest1z
      case hi1z =>
        simp only [List.getElem?_toArray, List.getElem?_cons_succ, List.getElem?_cons_zero]
        rfl
      case hw1z => rfl
      case hy1z =>
        intro w hSw
        obtain ⟨s0, s1⟩ := hSw
        go_simp
        try with_reducible rfl
      try simp only [Act.put, List.setIfInBounds_toArray, List.set_cons_zero, List.set_cons_succ]
      refine wpAnyH_ready (rs := [2]) (by kernel_rfl) (by simp) ?_
      refine AllReadyH.cons (o := ?o2z) ?ho2z (fun K hK => ?st2z) AllReadyH.nil
      case ho2z =>
        simp only [List.getElem?_toArray, List.getElem?_cons_succ, List.getElem?_cons_zero]
        rfl
      go_simp
      refine (specTreeOk_any b d.ln bc d.date (oneD n D d) M wr.drew (OT.nds (HOT.out.below hd5)) HSZ.out.2 (by unfold maxLen; omega) HSZ.out.1).mono ?_
      rintro e W6 ⟨hb6', r, rfl, hr⟩
      have hb6 : Below wr.heap.size wr W6 := hd5.trans hb6'
      have HR : Hid (r = true ↔ TreeGood d.ln (oneD n D d) d.date) := hr
      refine hK.out _ _ (HSt.out W6 hb6) (fun hHeld => ?re2z)
      clear hK K hr hb6'
      try simp only [Act.put, List.setIfInBounds_toArray, List.set_cons_zero, List.set_cons_succ]
      refine wpAnyH_ready (rs := [3]) (by kernel_rfl) (by simp) ?_
      refine AllReadyH.cons (o := ?o3z) ?ho3z (fun K hK => ?st3z) AllReadyH.nil
      case ho3z =>
        simp only [List.getElem?_toArray, List.getElem?_cons_succ, List.getElem?_cons_zero]
        rfl
      have H6 : Hid (On w a n c now d l W6 ∧ OT W6 W0.heap.size 0 (fun _ => false) d.ln (fun _ => 0) (oneD n D d) M (.slice none 0 0) (.slice b d.ln bc)) := ⟨HT.out.below hb6, HOT.out.below hb6⟩
      have r0 : W6.cell? ⟨w.heap.size + 1 + 1, 0, none⟩ = some (.slice none 0 0) := H6.out.1.r.cell 0
      have r1 : W6.cell? ⟨w.heap.size + 1 + 1, 1, none⟩ = some (.int .i64 0) := H6.out.1.r.cell 1
      have e0 := H6.out.1.r.frozen 0
      have e1 := H6.out.1.r.frozen 1
      have HB6 : Hid (Below wr.heap.size wr W6) := hb6
      have hU : ∀ U, U = (W6.setCell ⟨w.heap.size + 1 + 1, 0, none⟩ (.slice b d.ln bc)).setCell ⟨w.heap.size + 1 + 1, 1, none⟩ (.int .i64 d.date) → (U.cell? ⟨w.heap.size + 1 + 1 + 1, 0, none⟩ = some (.slice b d.ln bc) ∧ U.cell? ⟨w.heap.size + 1 + 1 + 1, 1, none⟩ = some (.int .i64 d.date)) ∧ Blk U (w.heap.size + 1 + 1) #[.slice b d.ln bc, .int .i64 d.date] 44 ∧ OnePost w n D d (.returned (.tuple #[.agg #[.slice b d.ln bc, .int .i64 d.date], .bool r])) U := fun U e => by
        subst e
        refine ⟨⟨?_, ?_⟩, (H6.out.1.r.set 0 _).set 1 _, bel_put (bel_put H6.out.1.bel _ (by omega)) _ (by omega), Or.inr ⟨HKN.out, r, HR.out, b, bc, M, rfl, ?_⟩⟩
        · exact (((HIN.out.1.below HB6.out).v.off _ (by omega)).off _ (by omega)).cell 0
        · exact (((HIN.out.1.below HB6.out).v.off _ (by omega)).off _ (by omega)).cell 1
        · exact OT.lower ((H6.out.2.off _ (by omega)).off _ (by omega)) (by omega)
      have HU : Hid _ := hU
      clear hU hb6
      go_simp
      refine hK.out _ _ (HU.out _ rfl).1 (fun hHeld => ?re3z)
      clear hK K
      try simp only [Act.put, List.setIfInBounds_toArray, List.set_cons_zero, List.set_cons_succ]
      refine wpAnyH_done (by kernel_rfl) ?_ _
      show Oper.wp _ _ _ _ _ _
      clear hHeld hd5 r0 r1 e0 e1
      go_simp
      refine NoPanic.normal ?_
      go_wp2_with fail
      refine end_world (F := fun U => Blk U (w.heap.size + 1 + 1) #[.slice b d.ln bc, .int .i64 d.date] 44 ∧ OnePost w n D d (.returned (.tuple #[.agg #[.slice b d.ln bc, .int .i64 d.date], .bool r])) U) (HU.out _ rfl).2 ?_
      rintro U ⟨hr, hE⟩
      have e0 : U.cell? ⟨w.heap.size + 1 + 1, 0, none⟩ = some (.slice b d.ln bc) := hr.cell 0
      have e1 : U.cell? ⟨w.heap.size + 1 + 1, 1, none⟩ = some (.int .i64 d.date) := hr.cell 1
      exact bodyPost_ret (v := .tuple #[.agg #[.slice b d.ln bc, .int .i64 d.date], .bool r]) (by simp [results, Tryz.results68, go_sem, e0, e1]) rfl hE

end Go.Proofs.YtakifcobofkheabGreatDoor

/-
  What BackOne of the specification answers.
-/
namespace Go.Proofs.YtakifcobofkheabGreatDoor
open Go.RowKit Go.Deep
set_option linter.unusedVariables false
set_option linter.unusedSimpArgs false
set_option linter.unnecessarySimpa false

set_option maxRecDepth 100000 in
set_option maxHeartbeats 8000000 in
theorem specBackOne_any (a : Option Addr) (n c : Nat) (now : Int) (D : Nat → Nd) (L : Nat → Loc) (d : Dp) (l : DLoc) (w : World) (hS : IsNds w a n D L) (hD : DpIn w d l) (hn : n ≤ maxLen) (hf : FitAll n D) (hfd : d.Fits) (hsz : sizeTo D n + sizeTo d.nd d.m ≤ 1048576) :
    Calls Tryz.prog 52 #[trV a n c now, dpV d l] w (BackPost w n D now d) := by
  unfold trV dpV
  go_enter Tryz.func52, Tryz.ntmps52
  go_wp2_with fail
  refine at_world (F := fun W => On w a n c now d l W ∧ w.heap.size + 3 ≤ W.heap.size) ⟨on3 w a n c now d l, by simp⟩ ?_
  rintro W ⟨hO, hsW⟩
  refine (specDumpOk_any d l W (hD.below (Nat.le_refl _) hO.bel) hfd).mono ?_
  rintro e w1 ⟨hb1, rfl⟩
  have H1 : Hid (On w a n c now d l w1) := hO.below hb1
  have hs1 : w.heap.size + 3 ≤ w1.heap.size := by have := hb1.size; omega
  clear hb1 hO hsW
  obtain ⟨⟨p0, p1⟩, ⟨q0, q1, q2, q3⟩, r0, r1⟩ := H1.out.cells
  have g0 := H1.out.r.frozen 0
  have g1 := H1.out.r.frozen 1
  cases hok : d.ok with
  | false =>
    have HE : Hid _ := H1.out.fail (D := D) (code_form (Or.inl hok)) (by decide)
    clear hok
    go_wp2_with fail
    refine end_world (F := fun U => Blk U (w.heap.size + 1 + 1) #[.slice none 0 0, .int .i64 0] 44 ∧ BackPost w n D now d (.returned (.tuple #[.agg #[.slice none 0 0, .int .i64 0], .int .i64 3])) U) HE.out ?_
    clear HE
    rintro U ⟨hr, hE⟩
    have e0 : U.cell? ⟨w.heap.size + 1 + 1, 0, none⟩ = some (.slice none 0 0) := hr.cell 0
    have e1 : U.cell? ⟨w.heap.size + 1 + 1, 1, none⟩ = some (.int .i64 0) := hr.cell 1
    exact bodyPost_ret (v := .tuple #[.agg #[.slice none 0 0, .int .i64 0], .int .i64 3]) (by simp [results, Tryz.results52, go_sem, e0, e1]) rfl hE
  | true =>
    have HOK : Hid (0 ≤ d.since) := ok_since hok
    by_cases hsi : 0 < d.since
    · go_wp2_with fail
      refine (specTreeOk_any a n c now D L w1 (hS.below (Nat.le_refl _) H1.out.bel) hf hn (by omega)).mono ?_
      rintro e w2 ⟨hb2, r, rfl, hr⟩
      have H2 : Hid (On w a n c now d l w2) := H1.out.below hb2
      have hs2 : w.heap.size + 3 ≤ w2.heap.size := by have := hb2.size; omega
      clear hb2
      clear p0 p1 q0 q1 q2 q3 r0 r1 g0 g1
      obtain ⟨⟨p0, p1⟩, ⟨q0, q1, q2, q3⟩, r0, r1⟩ := H2.out.cells
      have g0 := H2.out.r.frozen 0
      have g1 := H2.out.r.frozen 1
      have n0 : w.heap.size < w2.heap.size := by omega
      have n1 : w.heap.size + 1 < w2.heap.size := by omega
      have n2 : w.heap.size + 1 + 1 < w2.heap.size := by omega
      have m0 : w.heap.size ≠ w2.heap.size := by omega
      have m1 : w.heap.size + 1 ≠ w2.heap.size := by omega
      have m2 : w.heap.size + 1 + 1 ≠ w2.heap.size := by omega
      cases r with
      | false =>
        have HE : Hid _ := H2.out.fail (D := D) (code_form (Or.inr ⟨hsi, fun h => by have := hr.2 h; cases this⟩)) (by decide)
        clear hr
        go_wp2_with fail
        refine end_world (F := fun U => Blk U (w.heap.size + 1 + 1) #[.slice none 0 0, .int .i64 0] 44 ∧ BackPost w n D now d (.returned (.tuple #[.agg #[.slice none 0 0, .int .i64 0], .int .i64 3])) U) HE.out ?_
        clear HE
        rintro U ⟨hr, hE⟩
        have e0 : U.cell? ⟨w.heap.size + 1 + 1, 0, none⟩ = some (.slice none 0 0) := hr.cell 0
        have e1 : U.cell? ⟨w.heap.size + 1 + 1, 1, none⟩ = some (.int .i64 0) := hr.cell 1
        exact bodyPost_ret (v := .tuple #[.agg #[.slice none 0 0, .int .i64 0], .int .i64 3]) (by simp [results, Tryz.results52, go_sem, e0, e1]) rfl hE
      | true =>
        have HG : Hid (TreeGood n D now) := hr.1 rfl
        clear hr
        have hsb : (d.since == 0) = false := by simp; omega
        by_cases hnow : now = d.since
        · have hnb : (now != d.since) = false := by simp [hnow]
          have HFR : Hid (0 < d.since → TreeGood n D now ∧ now = d.since) := fun _ => ⟨HG.out, hnow⟩
          have HFN : Hid (fromN n d = n) := fromN_some hsi
          clear hnow
          go_wp2_with fail
          refine at_world (F := fun U => On w a n c now d l U ∧ w.heap.size + 3 ≤ U.heap.size) ⟨H2.out.below ((Below.refl _ _).alloc (Nat.le_refl _) _), by simp; omega⟩ ?_
          rintro U1 ⟨hU1, hsU1⟩
          have HU1 : Hid (On w a n c now d l U1) := hU1
          have HSZ3 : Hid (w.heap.size + 3 ≤ U1.heap.size) := hsU1
          clear hU1 p0 p1 q0 q1 q2 q3 r0 r1 g0 g1 n0 n1 n2 m0 m1 m2
          refine (l6One_any a n c now D L d l U1 (hS.below (Nat.le_refl _) HU1.out.bel) (hD.below (Nat.le_refl _) HU1.out.bel) hok (by have := HG.out.few; omega) hf hfd (by omega)).mono ?_
          rintro e w3 ⟨hb3, hcase⟩
          have H3 : Hid (On w a n c now d l w3) := HU1.out.below hb3
          have hs3 : w.heap.size + 3 ≤ w3.heap.size := by have := hb3.size; have := HSZ3.out; omega
          have HB3 : Hid (w.heap.size + 3 ≤ U1.heap.size) := HSZ3.out
          clear hb3
          obtain ⟨⟨p0, p1⟩, ⟨q0, q1, q2, q3⟩, r0, r1⟩ := H3.out.cells
          have g0 := H3.out.r.frozen 0
          have g1 := H3.out.r.frozen 1
          have n0 : w.heap.size < w3.heap.size := by omega
          have n1 : w.heap.size + 1 < w3.heap.size := by omega
          have n2 : w.heap.size + 1 + 1 < w3.heap.size := by omega
          have m0 : w.heap.size ≠ w3.heap.size := by omega
          have m1 : w.heap.size + 1 ≠ w3.heap.size := by omega
          have m2 : w.heap.size + 1 + 1 ≠ w3.heap.size := by omega
          rcases hcase with ⟨hbad, rfl⟩ | ⟨hkn, r, hr, b, bc, M, rfl, hot⟩
          · have HBD : Hid (∃ i, i < d.ln ∧ oneNd (fromN n d) D d i = none) := by show _; rw [HFN.out]; exact hbad
            have HE : Hid _ := H3.out.failA (D := D) (code_bad hok HFR.out (Or.inl HBD.out)) (by decide) (.cells #[.slice none 0 0, .int .i64 0] 44)
            clear hbad
            go_wp2_with fail
            refine end_world (F := fun U => Blk U (w.heap.size + 1 + 1) #[.slice none 0 0, .int .i64 0] 44 ∧ BackPost w n D now d (.returned (.tuple #[.agg #[.slice none 0 0, .int .i64 0], .int .i64 2])) U) HE.out ?_
            clear HE
            rintro U ⟨hr, hE⟩
            have e0 : U.cell? ⟨w.heap.size + 1 + 1, 0, none⟩ = some (.slice none 0 0) := hr.cell 0
            have e1 : U.cell? ⟨w.heap.size + 1 + 1, 1, none⟩ = some (.int .i64 0) := hr.cell 1
            exact bodyPost_ret (v := .tuple #[.agg #[.slice none 0 0, .int .i64 0], .int .i64 2]) (by simp [results, Tryz.results52, go_sem, e0, e1]) rfl hE
          · cases r with
            | false =>
              have HBD : Hid (¬ TreeGood d.ln (oneD (fromN n d) D d) d.date) := by show _; rw [HFN.out]; exact fun h => by have := hr.2 h; cases this
              have HE : Hid _ := H3.out.failA (D := D) (code_bad hok HFR.out (Or.inr HBD.out)) (by decide) (.cells #[.slice b d.ln bc, .int .i64 d.date] 44)
              clear hr hkn hot
              go_wp2_with fail
              refine end_world (F := fun U => Blk U (w.heap.size + 1 + 1) #[.slice none 0 0, .int .i64 0] 44 ∧ BackPost w n D now d (.returned (.tuple #[.agg #[.slice none 0 0, .int .i64 0], .int .i64 2])) U) HE.out ?_
              clear HE
              rintro U ⟨hr, hE⟩
              have e0 : U.cell? ⟨w.heap.size + 1 + 1, 0, none⟩ = some (.slice none 0 0) := hr.cell 0
              have e1 : U.cell? ⟨w.heap.size + 1 + 1, 1, none⟩ = some (.int .i64 0) := hr.cell 1
              exact bodyPost_ret (v := .tuple #[.agg #[.slice none 0 0, .int .i64 0], .int .i64 2]) (by simp [results, Tryz.results52, go_sem, e0, e1]) rfl hE
            | true =>
              have HKN : Hid ((∀ i, i < d.ln → oneNd (fromN n d) D d i ≠ none) ∧ TreeGood d.ln (oneD (fromN n d) D d) d.date) := by show _ ∧ _; rw [HFN.out]; exact ⟨hkn, hr.1 rfl⟩
              have HOT : Hid (OT w3 U1.heap.size 0 (fun _ => false) d.ln (fun _ => 0) (oneD (fromN n d) D d) M (.slice none 0 0) (.slice b d.ln bc)) := by show OT _ _ _ _ _ _ _ _ _ _; rw [HFN.out]; exact hot
              have HE : Hid _ := H3.out.fineA (D := D) (code_fine hok HFR.out HKN.out.1 HKN.out.2) HB3.out HOT.out (.cells #[.slice b d.ln bc, .int .i64 d.date] 44)
              clear hr hkn hot
              go_wp2_with fail
              refine end_world (F := fun U => Blk U (w.heap.size + 1 + 1) #[.slice b d.ln bc, .int .i64 d.date] 44 ∧ BackPost w n D now d (.returned (.tuple #[.agg #[.slice b d.ln bc, .int .i64 d.date], .int .i64 0])) U) HE.out ?_
              clear HE
              rintro U ⟨hr, hE⟩
              have e0 : U.cell? ⟨w.heap.size + 1 + 1, 0, none⟩ = some (.slice b d.ln bc) := hr.cell 0
              have e1 : U.cell? ⟨w.heap.size + 1 + 1, 1, none⟩ = some (.int .i64 d.date) := hr.cell 1
              exact bodyPost_ret (v := .tuple #[.agg #[.slice b d.ln bc, .int .i64 d.date], .int .i64 0]) (by simp [results, Tryz.results52, go_sem, e0, e1]) rfl hE
        · have hnb : (now != d.since) = true := by simp [hnow]
          have HE : Hid _ := H2.out.failA (D := D) (code_other hok hsi HG.out hnow) (by decide) (.cells #[.slice a n c, .int .i64 now] 44)
          clear hnow
          go_wp2_with fail
          refine end_world (F := fun U => Blk U (w.heap.size + 1 + 1) #[.slice none 0 0, .int .i64 0] 44 ∧ BackPost w n D now d (.returned (.tuple #[.agg #[.slice none 0 0, .int .i64 0], .int .i64 1])) U) HE.out ?_
          clear HE
          rintro U ⟨hr, hE⟩
          have e0 : U.cell? ⟨w.heap.size + 1 + 1, 0, none⟩ = some (.slice none 0 0) := hr.cell 0
          have e1 : U.cell? ⟨w.heap.size + 1 + 1, 1, none⟩ = some (.int .i64 0) := hr.cell 1
          exact bodyPost_ret (v := .tuple #[.agg #[.slice none 0 0, .int .i64 0], .int .i64 1]) (by simp [results, Tryz.results52, go_sem, e0, e1]) rfl hE
    · have hs0 : d.since = 0 := by have := HOK.out; omega
      have HFN : Hid (fromN n d = 0) := fromN_none hs0
      have HFR : Hid (0 < d.since → TreeGood n D now ∧ now = d.since) := fun h => absurd h hsi
      have hsb : (d.since == 0) = true := by simp [hs0]
      have n0 : w.heap.size < w1.heap.size := by omega
      have n1 : w.heap.size + 1 < w1.heap.size := by omega
      have n2 : w.heap.size + 1 + 1 < w1.heap.size := by omega
      have m0 : w.heap.size ≠ w1.heap.size := by omega
      have m1 : w.heap.size + 1 ≠ w1.heap.size := by omega
      have m2 : w.heap.size + 1 + 1 ≠ w1.heap.size := by omega
      clear hs0
      go_wp2_with fail
      refine at_world (F := fun U => On w a n c now d l U ∧ w.heap.size + 3 ≤ U.heap.size) ⟨H1.out.below ((Below.refl _ _).alloc (Nat.le_refl _) _), by simp; omega⟩ ?_
      rintro U1 ⟨hU1, hsU1⟩
      have HU1 : Hid (On w a n c now d l U1) := hU1
      have HSZ3 : Hid (w.heap.size + 3 ≤ U1.heap.size) := hsU1
      clear hU1 p0 p1 q0 q1 q2 q3 r0 r1 g0 g1 n0 n1 n2 m0 m1 m2
      refine (l6One_any none 0 0 0 D L d l U1 (Or.inl rfl) (hD.below (Nat.le_refl _) HU1.out.bel) hok (by omega) (fun i hi => absurd hi (Nat.not_lt_zero _)) hfd (by have : sizeTo D 0 = 0 := rfl; omega)).mono ?_
      rintro e w3 ⟨hb3, hcase⟩
      have H3 : Hid (On w a n c now d l w3) := HU1.out.below hb3
      have hs3 : w.heap.size + 3 ≤ w3.heap.size := by have := hb3.size; have := HSZ3.out; omega
      have HB3 : Hid (w.heap.size + 3 ≤ U1.heap.size) := HSZ3.out
      clear hb3
      obtain ⟨⟨p0, p1⟩, ⟨q0, q1, q2, q3⟩, r0, r1⟩ := H3.out.cells
      have g0 := H3.out.r.frozen 0
      have g1 := H3.out.r.frozen 1
      have n0 : w.heap.size < w3.heap.size := by omega
      have n1 : w.heap.size + 1 < w3.heap.size := by omega
      have n2 : w.heap.size + 1 + 1 < w3.heap.size := by omega
      have m0 : w.heap.size ≠ w3.heap.size := by omega
      have m1 : w.heap.size + 1 ≠ w3.heap.size := by omega
      have m2 : w.heap.size + 1 + 1 ≠ w3.heap.size := by omega
      rcases hcase with ⟨hbad, rfl⟩ | ⟨hkn, r, hr, b, bc, M, rfl, hot⟩
      · have HBD : Hid (∃ i, i < d.ln ∧ oneNd (fromN n d) D d i = none) := by show _; rw [HFN.out]; exact hbad
        have HE : Hid _ := H3.out.failA (D := D) (code_bad hok HFR.out (Or.inl HBD.out)) (by decide) (.cells #[.slice none 0 0, .int .i64 0] 44)
        clear hbad
        go_wp2_with fail
        refine end_world (F := fun U => Blk U (w.heap.size + 1 + 1) #[.slice none 0 0, .int .i64 0] 44 ∧ BackPost w n D now d (.returned (.tuple #[.agg #[.slice none 0 0, .int .i64 0], .int .i64 2])) U) HE.out ?_
        clear HE
        rintro U ⟨hr, hE⟩
        have e0 : U.cell? ⟨w.heap.size + 1 + 1, 0, none⟩ = some (.slice none 0 0) := hr.cell 0
        have e1 : U.cell? ⟨w.heap.size + 1 + 1, 1, none⟩ = some (.int .i64 0) := hr.cell 1
        exact bodyPost_ret (v := .tuple #[.agg #[.slice none 0 0, .int .i64 0], .int .i64 2]) (by simp [results, Tryz.results52, go_sem, e0, e1]) rfl hE
      · cases r with
        | false =>
          have HBD : Hid (¬ TreeGood d.ln (oneD (fromN n d) D d) d.date) := by show _; rw [HFN.out]; exact fun h => by have := hr.2 h; cases this
          have HE : Hid _ := H3.out.failA (D := D) (code_bad hok HFR.out (Or.inr HBD.out)) (by decide) (.cells #[.slice b d.ln bc, .int .i64 d.date] 44)
          clear hr hkn hot
          go_wp2_with fail
          refine end_world (F := fun U => Blk U (w.heap.size + 1 + 1) #[.slice none 0 0, .int .i64 0] 44 ∧ BackPost w n D now d (.returned (.tuple #[.agg #[.slice none 0 0, .int .i64 0], .int .i64 2])) U) HE.out ?_
          clear HE
          rintro U ⟨hr, hE⟩
          have e0 : U.cell? ⟨w.heap.size + 1 + 1, 0, none⟩ = some (.slice none 0 0) := hr.cell 0
          have e1 : U.cell? ⟨w.heap.size + 1 + 1, 1, none⟩ = some (.int .i64 0) := hr.cell 1
          exact bodyPost_ret (v := .tuple #[.agg #[.slice none 0 0, .int .i64 0], .int .i64 2]) (by simp [results, Tryz.results52, go_sem, e0, e1]) rfl hE
        | true =>
          have HKN : Hid ((∀ i, i < d.ln → oneNd (fromN n d) D d i ≠ none) ∧ TreeGood d.ln (oneD (fromN n d) D d) d.date) := by show _ ∧ _; rw [HFN.out]; exact ⟨hkn, hr.1 rfl⟩
          have HOT : Hid (OT w3 U1.heap.size 0 (fun _ => false) d.ln (fun _ => 0) (oneD (fromN n d) D d) M (.slice none 0 0) (.slice b d.ln bc)) := by show OT _ _ _ _ _ _ _ _ _ _; rw [HFN.out]; exact hot
          have HE : Hid _ := H3.out.fineA (D := D) (code_fine hok HFR.out HKN.out.1 HKN.out.2) HB3.out HOT.out (.cells #[.slice b d.ln bc, .int .i64 d.date] 44)
          clear hr hkn hot
          go_wp2_with fail
          refine end_world (F := fun U => Blk U (w.heap.size + 1 + 1) #[.slice b d.ln bc, .int .i64 d.date] 44 ∧ BackPost w n D now d (.returned (.tuple #[.agg #[.slice b d.ln bc, .int .i64 d.date], .int .i64 0])) U) HE.out ?_
          clear HE
          rintro U ⟨hr, hE⟩
          have e0 : U.cell? ⟨w.heap.size + 1 + 1, 0, none⟩ = some (.slice b d.ln bc) := hr.cell 0
          have e1 : U.cell? ⟨w.heap.size + 1 + 1, 1, none⟩ = some (.int .i64 d.date) := hr.cell 1
          exact bodyPost_ret (v := .tuple #[.agg #[.slice b d.ln bc, .int .i64 d.date], .int .i64 0]) (by simp [results, Tryz.results52, go_sem, e0, e1]) rfl hE
end Go.Proofs.YtakifcobofkheabGreatDoor

/-
  The bits of a number in which the program keeps which places are not free.
-/
namespace Go.Proofs.YtakifcobofkheabGreatDoor
open Go.RowKit
set_option linter.unusedVariables false

theorem wrap16 {z : Int} (h0 : 0 ≤ z) (h1 : z < 65536) : IntKind.u16.wrap z = z := by
  simp [IntKind.wrap, IntKind.bits, IntKind.signed]
  omega

theorem shl16 {k : Nat} (hk : k ≤ 10) : IntKind.u16.wrap ((2 : Int) ^ k) = ((2 ^ k : Nat) : Int) := by
  have hp : 2 ^ k ≤ 2 ^ 10 := Nat.pow_le_pow_right (by omega) hk
  have h1 : 2 ^ k < 65536 := by omega
  have e : (2 : Int) ^ k = ((2 ^ k : Nat) : Int) := by simp
  rw [e]
  clear e hp
  generalize 2 ^ k = y at h1 ⊢
  exact wrap16 (by omega) (by omega)

theorem or16 {x k : Nat} (hk : k ≤ 10) (hx : x < 2 ^ k) : bits .or .u16 (x : Int) ((2 ^ k : Nat) : Int) = ((x + 2 ^ k : Nat) : Int) := by
  have hp : 2 ^ k ≤ 2 ^ 10 := Nat.pow_le_pow_right (by omega) hk
  have hor : x ||| 2 ^ k = x + 2 ^ k := by
    have := Nat.two_pow_add_eq_or_of_lt hx 1
    rw [Nat.mul_one] at this
    rw [Nat.or_comm, ← this, Nat.add_comm]
  unfold bits
  simp only [show IntKind.u16.bits = 16 from rfl, BitVec.ofInt_natCast, BitVec.toNat_or, BitVec.toNat_ofNat]
  rw [Nat.mod_eq_of_lt (show x < 2 ^ 16 by omega), Nat.mod_eq_of_lt (show 2 ^ k < 2 ^ 16 by omega), hor]
  exact wrap16 (by omega) (by omega)

theorem and16 {y : Nat} (hy : y < 65536) : bits .and .u16 (y : Int) 1 = ((y % 2 : Nat) : Int) := by
  unfold bits
  have h1 : (BitVec.ofInt IntKind.u16.bits 1).toNat = 1 := by decide
  simp only [BitVec.ofInt_natCast, BitVec.toNat_and, BitVec.toNat_ofNat]
  rw [h1, show IntKind.u16.bits = 16 from rfl, Nat.mod_eq_of_lt (show y < 2 ^ 16 by omega), Nat.and_one_is_mod]
  exact wrap16 (by omega) (by omega)

theorem has16 {Z : Nat → Bool} {n j : Nat} (hn : n ≤ 10) : (bits .and .u16 (((bvv Z n : Nat) : Int) / 2 ^ j) 1 == 1) = (decide (j < n) && Z j) := by
  have hlt := bvv_lt Z n
  have hp : 2 ^ n ≤ 2 ^ 10 := Nat.pow_le_pow_right (by omega) hn
  have e1 : (((bvv Z n : Nat) : Int) / 2 ^ j) = ((bvv Z n / 2 ^ j : Nat) : Int) := by simp
  have h2 : bvv Z n / 2 ^ j ≤ bvv Z n := Nat.div_le_self _ _
  rw [e1, and16 (by omega), ← bvv_test Z j n, Nat.testBit_eq_decide_div_mod_eq]
  rcases Nat.mod_two_eq_zero_or_one (bvv Z n / 2 ^ j) with h | h <;> rw [h] <;> rfl

set_option maxHeartbeats 1000000 in
theorem bitsOfList_any (a : Option Addr) (n c : Nat) (Z : Nat → Bool) (w : World) (hS : IsBools w a n Z) (hn : n ≤ 10) :
    Calls Tryz.prog 115 #[.slice a n c] w fun e w' => w' = w ∧ e = .returned (.int .u16 (bvv Z n : Nat)) := by
  go_enter Tryz.func115, Tryz.ntmps115
  go_wp2
  go_loopw [3, 8] (fun v i wr => ∃ k : Nat, k ≤ n ∧ i = .int .i64 k ∧ v = .int .u16 (bvv Z k : Nat) ∧ wr = w) (fun _ i _ => n - (intOf i).toNat)
  case atStart => exact ⟨0, Nat.zero_le _, rfl, rfl, rfl⟩
  case round =>
    obtain ⟨k, hk, rfl, rfl, rfl⟩ := hrel
    by_cases hlt : k < n
    · obtain ⟨b, off, rfl, hlt2, hc⟩ := hS.at hlt
      have g0 := hc k hlt
      have hlti : (k : Int) < (n : Int) := by omega
      clear hc
      cases hz : Z k with
      | false =>
        rw [hz] at g0
        have HE : Hid (bvv Z (k + 1) = bvv Z k) := by show _ = _; rw [bvv, hz]; rfl
        clear hz
        go_wp2
        go_roundw
        case rel => exact ⟨k + 1, by omega, by go_num, by rw [HE.out], trivial⟩
        case measure => simp [intOf]; omega
      | true =>
        rw [hz] at g0
        have HE : Hid (bvv Z (k + 1) = bvv Z k + 2 ^ k) := by show _ = _; rw [bvv, hz]; rfl
        have HS : Hid (IntKind.u16.wrap ((2 : Int) ^ k) = ((2 ^ k : Nat) : Int) ∧ bits .or .u16 ((bvv Z k : Nat) : Int) ((2 ^ k : Nat) : Int) = ((bvv Z k + 2 ^ k : Nat) : Int)) := ⟨shl16 (by omega), or16 (by omega) (bvv_lt Z k)⟩
        clear hz
        go_wp2
        go_roundw
        case rel => exact ⟨k + 1, by omega, by go_num, by rw [HS.out.1, HS.out.2, HE.out], trivial⟩
        case measure => simp [intOf]; omega
    · obtain rfl : k = n := by omega
      go_wp2
      go_ret
      exact ⟨rfl, rfl⟩

set_option maxHeartbeats 1000000 in
theorem has_any (Z : Nat → Bool) (n : Nat) (z : Int) (w : World) (hn : n ≤ 10) (hz : In64 z) :
    Calls Tryz.prog 116 #[.int .u16 (bvv Z n : Nat), .int .i64 z] w fun e w' => w' = w ∧ e = .returned (.bool (liveIn n Z z)) := by
  unfold In64 at hz
  by_cases h0 : 0 ≤ z
  · by_cases h10 : z < 10
    · obtain ⟨j, rfl⟩ : ∃ j : Nat, z = j := ⟨z.toNat, by omega⟩
      have hb0 : decide ((0 : Int) ≤ (j : Int)) = true := by simp
      have hb1 : decide ((j : Int) < 10) = true := by simp; omega
      have H16 : Hid _ := has16 (Z := Z) (n := n) (j := j) hn
      have HX : Hid ((decide (j < n) && Z j) = liveIn n Z j) := by show _ = _; unfold liveIn; simp
      have hj0 : (0 : Int) ≤ (j : Int) := by omega
      go_enter Tryz.func116, Tryz.ntmps116
      go_wp2
      go_ret
      exact ⟨rfl, ret_bool (by rw [← HX.out, ← H16.out])⟩
    · have hb0 : decide ((0 : Int) ≤ z) = true := by simp; omega
      have hb1 : decide (z < 10) = false := by simp; omega
      have HX : Hid (false = liveIn n Z z) := by show _ = _; unfold liveIn; rw [decide_eq_false (show ¬ z < n by omega)]; simp
      go_enter Tryz.func116, Tryz.ntmps116
      go_wp2
      go_ret
      exact ⟨rfl, ret_bool HX.out⟩
  · have hb0 : decide ((0 : Int) ≤ z) = false := by simp; omega
    have HX : Hid (false = liveIn n Z z) := by show _ = _; unfold liveIn; rw [decide_eq_false h0]; rfl
    go_enter Tryz.func116, Tryz.ntmps116
    go_wp2
    go_ret
    exact ⟨rfl, ret_bool HX.out⟩
end Go.Proofs.YtakifcobofkheabGreatDoor

/-
  What DumpOk of the program answers.
-/
namespace Go.Proofs.YtakifcobofkheabGreatDoor
open Go.RowKit
set_option linter.unusedVariables false

theorem kidIn_eq (n : Nat) (Z : Nat → Bool) (z : Int) : kidIn n Z z = (!(z == 0) && liveIn n Z z) := by
  unfold kidIn liveIn
  by_cases h : z = 0
  · subst h; simp
  · by_cases h1 : 1 ≤ z
    · simp [h, h1, show 0 ≤ z by omega]
    · simp [h1, show ¬ 0 ≤ z by omega]

set_option maxHeartbeats 1000000 in
theorem liveKids_any (a : Option Addr) (m c : Nat) (K : Nat → Int) (Z : Nat → Bool) (n : Nat) (w : World) (hS : IsInts w a m K) (hK : ∀ i, i < m → In64 (K i)) (hm : m ≤ maxLen) (hn : n ≤ 10) :
    Calls Tryz.prog 124 #[.slice a m c, .int .u16 (bvv Z n : Nat)] w fun e w' => w' = w ∧ e = .returned (.bool (kidsIn n Z K m)) := by
  unfold maxLen at hm
  go_enter Tryz.func124, Tryz.ntmps124
  go_wp2
  go_loopw [9] (fun i wr => ∃ k : Nat, k ≤ m ∧ i = .int .i64 k ∧ wr = w ∧ kidsIn n Z K k = true) (fun i _ => m - (intOf i).toNat)
  case atStart => exact ⟨0, Nat.zero_le _, rfl, rfl, rfl⟩
  case round =>
    obtain ⟨k, hk, rfl, rfl, heq⟩ := hrel
    have HE : Hid (kidsIn n Z K k = true) := heq
    clear heq
    by_cases hlt : k < m
    · obtain ⟨b, off, rfl, hlt2, hc⟩ := hS.at hlt
      have g0 := hc k hlt
      have hlti : (k : Int) < (m : Int) := by omega
      clear hc
      cases hz : (K k == 0) with
      | true =>
        have HX : Hid (kidsIn n Z K m = false) := kidsIn_bad hlt (by rw [kidIn_eq, hz]; rfl)
        go_wp2_with fail
        go_ret
        exact ⟨rfl, ret_bool HX.out.symm⟩
      | false =>
        have HC : Hid (Calls Tryz.prog 116 #[.int .u16 (bvv Z n : Nat), .int .i64 (K k)] wr fun e w' => w' = wr ∧ e = .returned (.bool (liveIn n Z (K k)))) := has_any Z n (K k) wr hn (hK k hlt)
        have HZ : Hid ((K k == 0) = false) := hz
        go_wp2_with fail
        refine HC.out.mono ?_
        rintro e w' ⟨rfl, rfl⟩
        cases hl : liveIn n Z (K k) with
        | false =>
          have HX : Hid (kidsIn n Z K m = false) := kidsIn_bad hlt (by rw [kidIn_eq, hl]; simp)
          clear hl HC
          go_wp2
          go_ret
          exact ⟨rfl, ret_bool HX.out.symm⟩
        | true =>
          have HX : Hid (kidIn n Z (K k) = true) := by show _ = _; rw [kidIn_eq, hl, HZ.out]; rfl
          clear hl HC
          go_wp2
          go_roundw
          case rel => exact ⟨k + 1, by omega, by go_num, by trivial, kidsIn_succ HE.out HX.out⟩
          case measure => simp [intOf]; omega
    · obtain rfl : k = m := by omega
      go_wp2
      go_ret
      exact ⟨rfl, ret_bool HE.out.symm⟩

set_option maxHeartbeats 2000000 in
theorem itemOk_any (d : Dp) (o : Int) (x : Nd) (lo : Loc) (w : World) (hI : NdIn w x lo) (hf : x.Fits) (hn : d.ln ≤ 10) (ho : 0 ≤ o) :
    Calls Tryz.prog 117 #[itV o x lo, .int .u16 (bvv d.live d.ln : Nat)] w fun e w' => Below w.heap.size w w' ∧ e = .returned (.bool (nodeIn d o x)) := by
  unfold itV
  have HEND : Hid (∀ (c0 : Array Value) (t0 : TypeId), Below w.heap.size w (w.alloc (.cells c0 t0))) := fun c0 t0 => (Below.refl _ _).alloc (Nat.le_refl _) _
  by_cases k1 : x.kind = 1
  · have c1 : (x.kind == 1) = true := by simp [k1]
    have H : Hid ((fileIs x && decide (0 < o)) = nodeIn d o x) := by show _ = _; unfold nodeIn; rw [if_pos k1]
    clear k1
    by_cases h0 : o = 0
    · have hb0 : (o != 0) = false := by simp [h0]
      have HX : Hid (false = nodeIn d o x) := by show _ = _; rw [← H.out, decide_eq_false (show ¬ 0 < o by omega)]; simp
      clear h0
      go_enter Tryz.func117, Tryz.ntmps117
      go_wp2_with fail
      go_ret
      exact ⟨HEND.out _ _, ret_bool HX.out⟩
    · have hb0 : (o != 0) = true := by simp [h0]
      have HX : Hid (fileIs x = nodeIn d o x) := by show _ = _; rw [← H.out, decide_eq_true (show 0 < o by omega)]; simp
      clear h0
      go_enter Tryz.func117, Tryz.ntmps117
      go_wp2_with fail
      refine at_world (F := New1 w _ _) (new1 w _ _) ?_
      rintro W ⟨hp, hb, hs⟩
      refine (implFileOk_any x lo W hf).mono ?_
      rintro e w1 ⟨hb1, rfl⟩
      have HB : Hid (Below w.heap.size w w1) := hb.trans (hb1.mono (by omega))
      clear hp hb hb1
      rw [HX.out]
      go_wp2
      go_ret
      exact ⟨HB.out, rfl⟩
  · have c1 : (x.kind == 1) = false := by simp [k1]
    by_cases k2 : x.kind = 2
    · have c2 : (x.kind == 2) = true := by simp [k2]
      have H : Hid ((dirIs x && kidsIn d.ln d.live x.kids x.kn) = nodeIn d o x) := by show _ = _; unfold nodeIn; rw [if_neg k1, if_pos k2]
      clear k1 k2
      go_enter Tryz.func117, Tryz.ntmps117
      go_wp2_with fail
      refine at_world (F := New1 w _ _) (new1 w _ _) ?_
      rintro W ⟨hp, hb, hs⟩
      refine (implDirOk_any x lo W (hI.below (Nat.le_refl _) hb) hf).mono ?_
      rintro e w1 ⟨hb1, rfl⟩
      have p4 : w1.cell? ⟨w.heap.size, 4, none⟩ = some (.slice lo.kA x.kn lo.kc) := (hp.below hb1 (by omega)).cell 4
      have HB : Hid (Below w.heap.size w w1) := hb.trans (hb1.mono (by omega))
      clear hp hb hb1
      cases hd : dirIs x with
      | false =>
        have HX : Hid (false = nodeIn d o x) := by show _ = _; rw [← H.out, hd]; rfl
        clear hd
        go_wp2_with fail
        go_ret
        exact ⟨HB.out, ret_bool HX.out⟩
      | true =>
        have HX : Hid (kidsIn d.ln d.live x.kids x.kn = nodeIn d o x) := by show _ = _; rw [← H.out, hd]; rfl
        clear hd
        go_wp2_with fail
        refine (liveKids_any lo.kA x.kn lo.kc x.kids d.live d.ln w1 (hI.2.below (Nat.le_refl _) HB.out) hf.kids hf.kn hn).mono ?_
        rintro e w2 ⟨rfl, rfl⟩
        rw [HX.out]
        clear p4
        go_wp2
        go_ret
        exact ⟨HB.out, rfl⟩
    · have c2 : (x.kind == 2) = false := by simp [k2]
      have HX : Hid (false = nodeIn d o x) := by show _ = _; unfold nodeIn; rw [if_neg k1, if_neg k2]
      clear k1 k2
      go_enter Tryz.func117, Tryz.ntmps117
      go_wp2_with fail
      go_ret
      exact ⟨HEND.out _ _, ret_bool HX.out⟩
end Go.Proofs.YtakifcobofkheabGreatDoor
