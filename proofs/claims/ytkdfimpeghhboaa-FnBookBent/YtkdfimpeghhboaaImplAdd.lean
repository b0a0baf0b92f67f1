/-
  What BookAdd of the program answers.
-/
import Derived.Test.YtkdfimpeghhboaaImplBase
import Derived.Test.YtkdfimpeghhboaaSpecAdd
import Derived.Lib.SliceRun
import Derived.Lib.LazyBuf
import Derived.Test.YtkdfimpeghhboaaCut2
namespace Go.Proofs.Ytkdfimpeghhboaa
open Go.RowKit Go.Deep
set_option linter.unusedVariables false
set_option linter.unusedSimpArgs false

set_option maxHeartbeats 4000000 in
theorem entries_any (d : Int → Int) (w : World) :
    Calls Try.prog 23 #[.agg (arrC d)] w fun e w' => ∃ a c, e = .returned (.slice a (entriesTo d 10).length c) ∧ Below w.heap.size w w' ∧ OwnE w' w.heap.size (.slice a (entriesTo d 10).length c) (entriesTo d 10) := by
  obtain ⟨i0, hi, hz0, hz1, hz2⟩ := info_parts infoEnt
  unfold arrC
  go_enter Try.func23, Try.ntmps23
  go_wp2
  go_loopw [3, 7] (fun v i wr => ∃ m : Nat, m ≤ 10 ∧ i = .int .i64 m ∧ OwnE wr w.heap.size v (entriesTo d m) ∧ Below w.heap.size w wr) (fun _ i _ => 10 - (intOf i).toNat)
  case atStart => exact ⟨0, by omega, rfl, OwnE.nil _ _, (Below.refl _ _).alloc (Nat.le_refl _) _⟩
  case round =>
    obtain ⟨m, hm, rfl, ho, hb⟩ := hrel
    have hwr : w.heap.size ≤ wr.heap.size := hb.size
    have hll := entries_len d m
    by_cases hlt : m < 10
    · have hix := index_arr d m hlt
      have hlti : (m : Int) < 10 := by omega
      by_cases hd : 0 < d m
      · have hdd : decide (0 < d m) = true := by simp; omega
        have HN : Hid (entriesTo d (m + 1) = entriesTo d m ++ [⟨m, d m⟩]) := by show _ = _; rw [entriesTo, if_pos hd]
        have HB : Hid (Below w.heap.size w wr) := hb
        clear hd hb
        go_wp2_with (at_builtin; refine wpList_append_own _ rfl _ _ 23 rfl w.heap.size 30 i0 (.agg #[.int .i64 0, .int .i64 0]) 2 16 Try.underlying23 hi hz0 hz1 hz2 rfl (by decide) _ _ _ rfl (ho.alloc _) ⟨_, 0, none⟩ 1 1 (entv [⟨m, d m⟩]) rfl rfl ?c1 ?c2 ?c3 ?c4 ?c5 ?_)
        case c1 => exact entv_cells wr [⟨m, d m⟩]
        case c2 => exact entv_one _
        case c3 => unfold maxLen; omega
        case c4 => omega
        case c5 => simp; omega
        intro v' w1 hown hgrow hnil
        obtain ⟨hO1, hB1, _⟩ := OwnE.app (HB.out.alloc hwr _) (by simp; omega) (ho.alloc _) rfl hown hgrow
        have HO1 : Hid _ := And.intro hO1 hB1
        clear hown hgrow hnil ho hO1 hB1 hix
        go_wp2
        go_roundw
        case rel => exact ⟨m + 1, by omega, by go_num, by rw [HN.out]; exact HO1.out.1, HO1.out.2⟩
        case measure => simp [intOf]; omega
      · have hdd : decide (0 < d m) = false := by simp; omega
        have HN : Hid (entriesTo d (m + 1) = entriesTo d m) := by show _ = _; rw [entriesTo, if_neg hd]
        have HB : Hid (Below w.heap.size w wr ∧ OwnE wr _ _ _) := ⟨hb, ho⟩
        clear hd hb ho
        go_wp2
        go_roundw
        case rel => exact ⟨m + 1, by omega, by go_num, by rw [HN.out]; exact HB.out.2, HB.out.1⟩
        case measure => simp [intOf]; omega
    · obtain rfl : m = 10 := by omega
      obtain ⟨a', c', rfl, _, _⟩ := ho.ens
      go_wp2
      go_ret
      exact ⟨a', c', rfl, hb, ho⟩

theorem slice_arr (L X : Nat) (hL : L < 10) (w : World) : (Instr.sliceAt 41 (.pointer (some ⟨X, 0, none⟩)) (some (.int .i64 (L : Int))) none none).run Try.prog w = .ok (.slice (some ⟨X, L, none⟩) (10 - L) (10 - L)) w := by
  have hal : Try.prog.arrayLen 41 = 10 := by kernel_rfl
  have hel : Try.prog.elem 41 = 3 := by kernel_rfl
  have hsz : (sizeOf 3).run Try.prog w = .ok 1 w := by kernel_rfl
  rw [run_sliceAt_array_l (P := Try.prog) (w := w) (t := 41) (a := ⟨X, 0, none⟩) (ht := by kernel_rfl) (kl := .i64) (l := (L : Int)) (by omega) (by rw [hal]; omega), hal, hel, hsz]
  have e : (Int.toNat (L : Int)) = L := by omega
  simp [slicedAt, e, show ¬ 10 = L by omega, Addr.add, Result.andThen]
  intro h
  exact h.symm

theorem clear_arr {W : World} {X : Nat} {d : Int → Int} {t : TypeId} (h : Blk W X (arrC d) t) (L : Nat) (hL : L < 10) (ty : TypeId) :
    (Builtin.clear_ #[45] ty #[.slice (some ⟨X, L, none⟩) (10 - L) (10 - L)]).run Try.prog W = .ok (.tuple #[]) (W.setCells X L (List.replicate (10 - L) (.int .i64 0))) :=
  Lib.run_clear_slice W 45 3 ty (.int .i64 0) Try.underlying45 (fun w => by kernel_rfl) rfl rfl X L (10 - L) (10 - L) (by omega) (fun j hj => by rw [h.cell, arrC_get d (L + j) (by omega)]; rfl) (fun j hj => h.frozen _)

theorem size_setC (b : Nat) : ∀ (vs : List Value) (o : Nat) (w : World), (w.setCells b o vs).heap.size = w.heap.size
  | [], _, _ => rfl
  | v :: r, o, w => by rw [World.setCells, size_setC b r (o + 1)]; simp [World.setCell]

/-- From one level on none is there any more. -/
def cutD (d : Int → Int) (L : Nat) : Int → Int := fun l => if l < (L : Int) then d l else 0

theorem arr_clear {d : Int → Int} {X : Nat} {t : TypeId} (L : Nat) : ∀ (n L' : Nat) (W : World), L ≤ L' → L' + n = 10 → Blk W X (arrC (fun l => if l < (L : Int) ∨ (L' : Int) ≤ l then d l else 0)) t → Blk (W.setCells X L' (List.replicate n (.int .i64 0))) X (arrC (cutD d L)) t
  | 0, L', W, h0, hn, h => by
    have e : arrC (fun l => if l < (L : Int) ∨ (L' : Int) ≤ l then d l else 0) = arrC (cutD d L) := by
      obtain rfl : L' = 10 := by omega
      simp [arrC, cutD]
    rw [e] at h
    exact h
  | n + 1, L', W, h0, hn, h => by
    refine arr_clear L n (L' + 1) _ (by omega) (by omega) ?_
    have h2 := h.set L' (.int .i64 0)
    rw [arrC_set _ L' (by omega)] at h2
    have e : (fun l => if l = (L' : Int) then 0 else if l < (L : Int) ∨ (L' : Int) ≤ l then d l else 0) = (fun l => if l < (L : Int) ∨ ((L' + 1 : Nat) : Int) ≤ l then d l else 0) := by
      funext l
      by_cases e1 : l = (L' : Int)
      · rw [if_pos e1, if_neg (by omega)]
      · by_cases e2 : l < (L : Int) ∨ (L' : Int) ≤ l
        · rw [if_neg e1, if_pos e2, if_pos (by omega)]
        · rw [if_neg e1, if_neg e2, if_neg (by omega)]
    rw [e] at h2
    exact h2

theorem arr_cleared {W : World} {X : Nat} {d : Int → Int} {t : TypeId} (h : Blk W X (arrC d) t) (L : Nat) (hL : L < 10) : Blk (W.setCells X L (List.replicate (10 - L) (.int .i64 0))) X (arrC (cutD d L)) t := by
  refine arr_clear L (10 - L) L W (Nat.le_refl _) (by omega) ?_
  have e : (fun l => if l < (L : Int) ∨ (L : Int) ≤ l then d l else 0) = d := by
    funext l
    rw [if_pos (by omega)]
  rw [e]
  exact h

set_option maxRecDepth 8000 in
set_option maxHeartbeats 4000000 in
theorem implBookAdd_any (a : Option Addr) (n c : Nat) (E : Nat → En) (lev date : Int) (w : World) (hS : IsEns w a n E) (hn : n ≤ maxLen) :
    Calls Try.prog 15 #[.slice a n c, .int .i64 lev, .int .i64 date] w fun e w' => AddPost w n E lev date e w' := by
  have hn' := hn
  unfold maxLen at hn
  go_enter Try.func15, Try.ntmps15
  go_wp2_with fail
  refine at_world (F := New1 w _ _) (new1 w _ _) ?_
  rintro W ⟨hp, hbW, hs⟩
  refine (implBookOk_any a n c E W (hS.below (Nat.le_refl _) hbW) hn').mono ?_
  rintro e w1 ⟨hb1, rfl⟩
  have hp1 := hp.below hb1 (by omega)
  have hB1 : Below w.heap.size w w1 := hbW.trans (hb1.mono (by omega))
  cases hbk : bookTo E n with
  | false =>
    have HX : Hid (addOk n E lev date = false) := by show _ = _; unfold addOk; rw [hbk]; rfl
    clear hbk
    go_wp2
    go_ret2
    exact addPost_no HX.out hB1 (OwnE.nil _ _)
  | true =>
    have HBK : Hid (bookTo E n = true) := hbk
    have x0 : w1.cell? ⟨w.heap.size, 0, none⟩ = some (.int .i64 lev) := hp1.cell 0
    have x1 : w1.cell? ⟨w.heap.size, 1, none⟩ = some (.int .i64 date) := hp1.cell 1
    clear hbk
    go_wp2_with fail
    refine (entryOk_any ⟨lev, date⟩ w1).mono ?_
    rintro e w2 ⟨hb2, rfl⟩
    have HB2 : Hid (Below w.heap.size w w2) := hB1.trans (hb2.mono hB1.size)
    clear hb1 hb2 hp hp1 hB1 hbW x0 x1 hs
    cases hok : entOk ⟨lev, date⟩ with
    | false =>
      have HX : Hid (addOk n E lev date = false) := by show _ = _; unfold addOk; rw [hok]; simp
      clear hok
      go_wp2
      go_ret2
      exact addPost_no HX.out HB2.out (OwnE.nil _ _)
    | true =>
      obtain ⟨g0, g9, g1, g2⟩ := entOk_iff.1 hok
      obtain ⟨L, rfl⟩ := Int.eq_ofNat_of_zero_le g0
      have g9' : (L : Int) ≤ 9 := g9
      have hL9 : (L : Int) < 10 := by omega
      have hL10 : L < 10 := by omega
      by_cases hd : n = 0 ∨ lastD n E ≤ date
      · have HX : Hid (addOk n E L date = true) := by show _ = _; unfold addOk; rw [HBK.out, hok, decide_eq_true hd]; rfl
        clear hok
        rcases Nat.eq_zero_or_pos n with rfl | hpos
        · have hd0 : 0 < date := by have : (1 : Int) ≤ date := g1; omega
          clear hd g0 g9 g1 g2
          go_wp2_with fail
          refine (implDates_any a 0 c E w2 (hS.below (Nat.le_refl _) HB2.out) hn' HBK.out).mono ?_
          rintro e w3 ⟨hb3, rfl⟩
          have hB3 : Below w.heap.size w w3 := HB2.out.trans (hb3.mono HB2.out.size)
          have hsl := slice_arr L w3.heap.size hL10
          have hnew : Blk (w3.alloc (.cells (arrC (datesTo E 0)) 41)) w3.heap.size (arrC (datesTo E 0)) 41 := Blk.new _ _ _
          have hcl := clear_arr hnew L hL10
          have hk5 := arr_cleared hnew L hL10
          have hb5 : Below w.heap.size w ((w3.alloc (.cells (arrC (datesTo E 0)) 41)).setCells w3.heap.size L (List.replicate (10 - L) (.int .i64 0))) := Go.below_setCells hB3.size _ _ _ (hB3.alloc hB3.size _)
          have hs5 : ((w3.alloc (.cells (arrC (datesTo E 0)) 41)).setCells w3.heap.size L (List.replicate (10 - L) (.int .i64 0))).heap.size = w3.heap.size + 1 := by rw [size_setC]; simp
          generalize hW5 : (w3.alloc (.cells (arrC (datesTo E 0)) 41)).setCells w3.heap.size L (List.replicate (10 - L) (.int .i64 0)) = W5 at hcl hk5 hb5 hs5
          clear hW5 hnew hb3
          have hc5 : W5.cell? ⟨w3.heap.size, L, none⟩ = some (.int .i64 (cutD (datesTo E 0) L L)) := (hk5.cell L).trans (arrC_get _ L hL10)
          have hf5 := hk5.frozen L
          have hk6 : Blk (W5.setCell ⟨w3.heap.size, L, none⟩ (.int .i64 date)) w3.heap.size (arrC (putD (datesTo E 0) L date)) 41 := by
            have h := hk5.set L (.int .i64 date)
            rw [arrC_set _ L hL10] at h
            exact h
          have HB6 : Hid (Below w.heap.size w (W5.setCell ⟨w3.heap.size, L, none⟩ (.int .i64 date))) := bel_put hb5 _ hB3.size
          have t0 : (W5.setCell ⟨w3.heap.size, L, none⟩ (.int .i64 date)).cell? ⟨w3.heap.size, 0, none⟩ = some (.int .i64 (putD (datesTo E 0) L date 0)) := hk6.cell 0
          have t1 : (W5.setCell ⟨w3.heap.size, L, none⟩ (.int .i64 date)).cell? ⟨w3.heap.size, 1, none⟩ = some (.int .i64 (putD (datesTo E 0) L date 1)) := hk6.cell 1
          have t2 : (W5.setCell ⟨w3.heap.size, L, none⟩ (.int .i64 date)).cell? ⟨w3.heap.size, 2, none⟩ = some (.int .i64 (putD (datesTo E 0) L date 2)) := hk6.cell 2
          have t3 : (W5.setCell ⟨w3.heap.size, L, none⟩ (.int .i64 date)).cell? ⟨w3.heap.size, 3, none⟩ = some (.int .i64 (putD (datesTo E 0) L date 3)) := hk6.cell 3
          have t4 : (W5.setCell ⟨w3.heap.size, L, none⟩ (.int .i64 date)).cell? ⟨w3.heap.size, 4, none⟩ = some (.int .i64 (putD (datesTo E 0) L date 4)) := hk6.cell 4
          have t5 : (W5.setCell ⟨w3.heap.size, L, none⟩ (.int .i64 date)).cell? ⟨w3.heap.size, 5, none⟩ = some (.int .i64 (putD (datesTo E 0) L date 5)) := hk6.cell 5
          have t6 : (W5.setCell ⟨w3.heap.size, L, none⟩ (.int .i64 date)).cell? ⟨w3.heap.size, 6, none⟩ = some (.int .i64 (putD (datesTo E 0) L date 6)) := hk6.cell 6
          have t7 : (W5.setCell ⟨w3.heap.size, L, none⟩ (.int .i64 date)).cell? ⟨w3.heap.size, 7, none⟩ = some (.int .i64 (putD (datesTo E 0) L date 7)) := hk6.cell 7
          have t8 : (W5.setCell ⟨w3.heap.size, L, none⟩ (.int .i64 date)).cell? ⟨w3.heap.size, 8, none⟩ = some (.int .i64 (putD (datesTo E 0) L date 8)) := hk6.cell 8
          have t9 : (W5.setCell ⟨w3.heap.size, L, none⟩ (.int .i64 date)).cell? ⟨w3.heap.size, 9, none⟩ = some (.int .i64 (putD (datesTo E 0) L date 9)) := hk6.cell 9
          have HP : Hid (entriesTo (putD (datesTo E 0) L date) 10 = addAns 0 E L date) := by show _ = _; rw [addAns_yes HX.out]; exact entries_put HBK.out hL10 hd0
          clear hk5 hk6 hb5 hd0
          generalize putD (datesTo E 0) L date = D at *
          unfold arrC at *
          go_wp2_with fail
          refine (entries_any D _).mono ?_
          rintro e w7 ⟨a7, c7, rfl, hb7, ho7⟩
          have HF : Hid (Below w.heap.size w w7 ∧ OwnE w7 w.heap.size (.slice a7 (entriesTo D 10).length c7) (entriesTo D 10)) := ⟨HB6.out.trans (hb7.mono HB6.out.size), ho7.lower HB6.out.size⟩
          clear hb7 ho7 t0 t1 t2 t3 t4 t5 t6 t7 t8 t9
          rw [HP.out] at HF ⊢
          go_wp2
          go_ret2
          exact ⟨a7, _, c7, by rw [HX.out]; rfl, HF.out.1, HF.out.2, rfl⟩
        · obtain ⟨j, rfl⟩ : ∃ j, n = j + 1 := ⟨n - 1, by omega⟩
          have hd0 : 0 < date := by have : (1 : Int) ≤ date := g1; omega
          obtain ⟨b, off, rfl, hlt2, hc⟩ := hS.at (show j < j + 1 by omega)
          obtain ⟨c0, c1⟩ := hc j (by omega)
          have c1' : w2.cell? ⟨b, off + j * 2 + 1, none⟩ = some (.int .i64 (E j).date) := (HB2.out.cell (p := ⟨b, off + j * 2 + 1, none⟩) hlt2).trans c1
          have ej : ((j : Int) + 1 - 1) = (j : Int) := by omega
          have hdd : decide (date < (E j).date) = false := by
            have h2 : (E j).date ≤ date := by
              rcases hd with h | h
              · omega
              · simpa [lastD] using h
            simp; omega
          clear hd hc c0 c1 g0 g9 g1 g2
          go_wp2_with fail
          refine (implDates_any _ (j + 1) c E w2 (hS.below (Nat.le_refl _) HB2.out) hn' HBK.out).mono ?_
          rintro e w3 ⟨hb3, rfl⟩
          have hB3 : Below w.heap.size w w3 := HB2.out.trans (hb3.mono HB2.out.size)
          have hsl := slice_arr L w3.heap.size hL10
          clear c1' ej hdd
          have hnew : Blk (w3.alloc (.cells (arrC (datesTo E (j + 1))) 41)) w3.heap.size (arrC (datesTo E (j + 1))) 41 := Blk.new _ _ _
          have hcl := clear_arr hnew L hL10
          have hk5 := arr_cleared hnew L hL10
          have hb5 : Below w.heap.size w ((w3.alloc (.cells (arrC (datesTo E (j + 1))) 41)).setCells w3.heap.size L (List.replicate (10 - L) (.int .i64 0))) := Go.below_setCells hB3.size _ _ _ (hB3.alloc hB3.size _)
          have hs5 : ((w3.alloc (.cells (arrC (datesTo E (j + 1))) 41)).setCells w3.heap.size L (List.replicate (10 - L) (.int .i64 0))).heap.size = w3.heap.size + 1 := by rw [size_setC]; simp
          generalize hW5 : (w3.alloc (.cells (arrC (datesTo E (j + 1))) 41)).setCells w3.heap.size L (List.replicate (10 - L) (.int .i64 0)) = W5 at hcl hk5 hb5 hs5
          clear hW5 hnew hb3
          have hc5 : W5.cell? ⟨w3.heap.size, L, none⟩ = some (.int .i64 (cutD (datesTo E (j + 1)) L L)) := (hk5.cell L).trans (arrC_get _ L hL10)
          have hf5 := hk5.frozen L
          have hk6 : Blk (W5.setCell ⟨w3.heap.size, L, none⟩ (.int .i64 date)) w3.heap.size (arrC (putD (datesTo E (j + 1)) L date)) 41 := by
            have h := hk5.set L (.int .i64 date)
            rw [arrC_set _ L hL10] at h
            exact h
          have HB6 : Hid (Below w.heap.size w (W5.setCell ⟨w3.heap.size, L, none⟩ (.int .i64 date))) := bel_put hb5 _ hB3.size
          have t0 : (W5.setCell ⟨w3.heap.size, L, none⟩ (.int .i64 date)).cell? ⟨w3.heap.size, 0, none⟩ = some (.int .i64 (putD (datesTo E (j + 1)) L date 0)) := hk6.cell 0
          have t1 : (W5.setCell ⟨w3.heap.size, L, none⟩ (.int .i64 date)).cell? ⟨w3.heap.size, 1, none⟩ = some (.int .i64 (putD (datesTo E (j + 1)) L date 1)) := hk6.cell 1
          have t2 : (W5.setCell ⟨w3.heap.size, L, none⟩ (.int .i64 date)).cell? ⟨w3.heap.size, 2, none⟩ = some (.int .i64 (putD (datesTo E (j + 1)) L date 2)) := hk6.cell 2
          have t3 : (W5.setCell ⟨w3.heap.size, L, none⟩ (.int .i64 date)).cell? ⟨w3.heap.size, 3, none⟩ = some (.int .i64 (putD (datesTo E (j + 1)) L date 3)) := hk6.cell 3
          have t4 : (W5.setCell ⟨w3.heap.size, L, none⟩ (.int .i64 date)).cell? ⟨w3.heap.size, 4, none⟩ = some (.int .i64 (putD (datesTo E (j + 1)) L date 4)) := hk6.cell 4
          have t5 : (W5.setCell ⟨w3.heap.size, L, none⟩ (.int .i64 date)).cell? ⟨w3.heap.size, 5, none⟩ = some (.int .i64 (putD (datesTo E (j + 1)) L date 5)) := hk6.cell 5
          have t6 : (W5.setCell ⟨w3.heap.size, L, none⟩ (.int .i64 date)).cell? ⟨w3.heap.size, 6, none⟩ = some (.int .i64 (putD (datesTo E (j + 1)) L date 6)) := hk6.cell 6
          have t7 : (W5.setCell ⟨w3.heap.size, L, none⟩ (.int .i64 date)).cell? ⟨w3.heap.size, 7, none⟩ = some (.int .i64 (putD (datesTo E (j + 1)) L date 7)) := hk6.cell 7
          have t8 : (W5.setCell ⟨w3.heap.size, L, none⟩ (.int .i64 date)).cell? ⟨w3.heap.size, 8, none⟩ = some (.int .i64 (putD (datesTo E (j + 1)) L date 8)) := hk6.cell 8
          have t9 : (W5.setCell ⟨w3.heap.size, L, none⟩ (.int .i64 date)).cell? ⟨w3.heap.size, 9, none⟩ = some (.int .i64 (putD (datesTo E (j + 1)) L date 9)) := hk6.cell 9
          have HP : Hid (entriesTo (putD (datesTo E (j + 1)) L date) 10 = addAns (j + 1) E L date) := by show _ = _; rw [addAns_yes HX.out]; exact entries_put HBK.out hL10 hd0
          clear hk5 hk6 hb5 hd0
          generalize putD (datesTo E (j + 1)) L date = D at *
          unfold arrC at *
          go_wp2_with fail
          refine (entries_any D _).mono ?_
          rintro e w7 ⟨a7, c7, rfl, hb7, ho7⟩
          have HF : Hid (Below w.heap.size w w7 ∧ OwnE w7 w.heap.size (.slice a7 (entriesTo D 10).length c7) (entriesTo D 10)) := ⟨HB6.out.trans (hb7.mono HB6.out.size), ho7.lower HB6.out.size⟩
          clear hb7 ho7 t0 t1 t2 t3 t4 t5 t6 t7 t8 t9
          rw [HP.out] at HF ⊢
          go_wp2
          go_ret2
          exact ⟨a7, _, c7, by rw [HX.out]; rfl, HF.out.1, HF.out.2, rfl⟩
      · have HX : Hid (addOk n E L date = false) := by show _ = _; unfold addOk; rw [decide_eq_false hd]; simp
        obtain ⟨j, rfl⟩ : ∃ j, n = j + 1 := ⟨n - 1, by by_cases e : n = 0; exact absurd (Or.inl e) hd; omega⟩
        obtain ⟨b, off, rfl, hlt2, hc⟩ := hS.at (show j < j + 1 by omega)
        obtain ⟨c0, c1⟩ := hc j (by omega)
        have c1' : w2.cell? ⟨b, off + j * 2 + 1, none⟩ = some (.int .i64 (E j).date) := (HB2.out.cell (p := ⟨b, off + j * 2 + 1, none⟩) hlt2).trans c1
        have ej : ((j : Int) + 1 - 1) = (j : Int) := by omega
        have hdd : decide (date < (E j).date) = true := by
          have h2 : ¬ (E j).date ≤ date := fun h => hd (Or.inr (by simpa [lastD] using h))
          simp; omega
        clear hd hok hc c0 c1 g0 g9 g1 g2
        go_wp2
        go_ret2
        exact addPost_no HX.out HB2.out (OwnE.nil _ _)
end Go.Proofs.Ytkdfimpeghhboaa
