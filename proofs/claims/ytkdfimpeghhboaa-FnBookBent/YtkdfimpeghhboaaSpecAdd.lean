/-
  What BookAdd of the specification answers.
-/
import Derived.Test.YtkdfimpeghhboaaSpecBook
import Derived.Test.YtkdfimpeghhboaaAddMath
namespace Go.Proofs.Ytkdfimpeghhboaa
open Go.RowKit Go.Deep
set_option linter.unusedVariables false
set_option linter.unusedSimpArgs false

/-- What BookAdd gives: a book of one's own and whether it could be. -/
def addAns (n : Nat) (E : Nat → En) (lev date : Int) : List En := if addOk n E lev date = true then addTo n E lev date else []
theorem addAns_no {n : Nat} {E : Nat → En} {lev date : Int} (h : addOk n E lev date = false) : addAns n E lev date = [] := by unfold addAns; rw [h]; rfl
theorem addAns_yes {n : Nat} {E : Nat → En} {lev date : Int} (h : addOk n E lev date = true) : addAns n E lev date = addTo n E lev date := by unfold addAns; rw [if_pos h]

/-- The post of BookAdd. -/
def AddPost (w : World) (n : Nat) (E : Nat → En) (lev date : Int) (e : Ending) (w' : World) : Prop :=
  ∃ a m c, e = .returned (.tuple #[.slice a m c, .bool (addOk n E lev date)]) ∧ Below w.heap.size w w' ∧ OwnE w' w.heap.size (.slice a m c) (addAns n E lev date) ∧ m = (addAns n E lev date).length

theorem addPost_no {w w' : World} {n : Nat} {E : Nat → En} {lev date : Int} {a : Option Addr} (h : addOk n E lev date = false) (hb : Below w.heap.size w w') (ho : OwnE w' w.heap.size (.slice a 0 0) []) :
    AddPost w n E lev date (.returned (.tuple #[.slice a 0 0, .bool false])) w' := ⟨a, 0, 0, by rw [h], hb, by rw [addAns_no h]; exact ho, by rw [addAns_no h]; rfl⟩

set_option maxHeartbeats 4000000 in
theorem specBookAdd_any (a : Option Addr) (n c : Nat) (E : Nat → En) (lev date : Int) (w : World) (hS : IsEns w a n E) (hn : n ≤ maxLen) :
    Calls Try.prog 16 #[.slice a n c, .int .i64 lev, .int .i64 date] w fun e w' => AddPost w n E lev date e w' := by
  have hn' := hn
  unfold maxLen at hn
  obtain ⟨i0, hi, hz0, hz1, hz2⟩ := info_parts infoEnt
  go_enter Try.func16, Try.ntmps16
  go_wp2_with fail
  refine (specBookOk_any a n c E w hS hn').mono ?_
  rintro e w1 ⟨⟨q1, rfl⟩, rfl⟩
  have hsq : (w.drewN q1).heap.size = w.heap.size := rfl
  cases hbk : bookTo E n with
  | false =>
    have HX : Hid (addOk n E lev date = false) := by show _ = _; unfold addOk; rw [hbk]; rfl
    clear hbk
    go_wp2
    go_ret2
    exact addPost_no HX.out ((below_drewN (Below.refl _ _) q1).alloc (by simp) _) (OwnE.empty (w.drewN q1))
  | true =>
    have HBK : Hid (bookTo E n = true) := hbk
    have hfew := book_few hbk
    clear hbk
    go_wp2
    go_loopw [8, 9] (fun v i wr => ∃ k : Nat, k ≤ n ∧ i = .int .i64 k ∧ OwnE wr w.heap.size v (lessTo E lev k) ∧ v ≠ .slice none 0 0 ∧ Below w.heap.size w wr) (fun _ i _ => n - (intOf i).toNat)
    case atStart => exact ⟨0, Nat.zero_le _, rfl, OwnE.empty (w.drewN q1), by simp, (below_drewN (Below.refl _ _) q1).alloc (by simp) _⟩
    case round =>
      obtain ⟨k, hk, rfl, ho, hnn, hb⟩ := hrel
      have hwr : w.heap.size ≤ wr.heap.size := hb.size
      have hll := less_len E lev k
      by_cases hlt : k < n
      · obtain ⟨b, off, rfl, hlt2, hc⟩ := hS.at hlt
        obtain ⟨c0, c1⟩ := hc k hlt
        have hlti : (k : Int) < (n : Int) := by omega
        have c0' : wr.cell? ⟨b, off + k * 2, none⟩ = some (.int .i64 (E k).lev) := (hb.cell (p := ⟨b, off + k * 2, none⟩) hlt2).trans c0
        have c1' : wr.cell? ⟨b, off + k * 2 + 1, none⟩ = some (.int .i64 (E k).date) := (hb.cell (p := ⟨b, off + k * 2 + 1, none⟩) hlt2).trans c1
        clear hc c0 c1
        by_cases hl : (E k).lev < lev
        · have hld : decide ((E k).lev < lev) = true := by simp; omega
          have HN : Hid (lessTo E lev (k + 1) = lessTo E lev k ++ [E k]) := less_yes hl
          have HB : Hid (Below w.heap.size w wr) := hb
          clear hl hb
          go_wp2_with (at_builtin; refine wpList_append_own _ rfl _ _ 23 rfl w.heap.size 30 i0 (.agg #[.int .i64 0, .int .i64 0]) 2 16 Try.underlying23 hi hz0 hz1 hz2 rfl (by decide) _ _ _ rfl (ho.alloc _) ⟨_, 0, none⟩ 1 1 (entv [E k]) rfl rfl ?c1 ?c2 ?c3 ?c4 ?c5 ?_)
          case c1 => exact entv_cells wr [E k]
          case c2 => exact entv_one _
          case c3 => unfold maxLen; omega
          case c4 => omega
          case c5 => simp; omega
          intro v' w1 hown hgrow hnil
          obtain ⟨hO1, hB1, _⟩ := OwnE.app (HB.out.alloc hwr _) (by simp; omega) (ho.alloc _) rfl hown hgrow
          have HO1 : Hid _ := And.intro hO1 hB1
          have hnn' : Hid (v' ≠ .slice none 0 0) := hnil
          clear hown hgrow hnil ho hO1 hB1 hnn
          go_wp2
          go_roundw
          case rel => exact ⟨k + 1, by omega, by go_num, by rw [HN.out]; exact HO1.out.1, hnn'.out, HO1.out.2⟩
          case measure => simp [intOf]; omega
        · have hld : decide ((E k).lev < lev) = false := by simp; omega
          have HN : Hid (lessTo E lev (k + 1) = lessTo E lev k) := less_no hl
          have HB : Hid (Below w.heap.size w wr) := hb
          have HO : Hid _ := And.intro ho hnn
          clear hl hb ho hnn
          go_wp2
          go_roundw
          case rel => exact ⟨k + 1, by omega, by go_num, by rw [HN.out]; exact HO.out.1, HO.out.2, HB.out⟩
          case measure => simp [intOf]; omega
      · obtain rfl : k = n := by omega
        have HB : Hid (Below w.heap.size w wr) := hb
        clear hb
        go_wp2_with (at_builtin; refine wpList_append_own _ rfl _ _ 23 rfl w.heap.size 30 i0 (.agg #[.int .i64 0, .int .i64 0]) 2 16 Try.underlying23 hi hz0 hz1 hz2 rfl (by decide) _ _ _ rfl (ho.alloc _) ⟨_, 0, none⟩ 1 1 (entv [⟨lev, date⟩]) rfl rfl ?d1 ?d2 ?d3 ?d4 ?d5 ?_)
        case d1 => exact entv_cells wr [⟨lev, date⟩]
        case d2 => exact entv_one _
        case d3 => unfold maxLen; omega
        case d4 => omega
        case d5 => simp; omega
        intro v' w1 hown hgrow hnil
        obtain ⟨hO1, hB1, _⟩ := OwnE.app (HB.out.alloc hwr _) (by simp; omega) (ho.alloc _) rfl hown hgrow
        have hA : OwnE w1 w.heap.size v' (addTo k E lev date) := hO1
        obtain ⟨a', c', rfl, hI, hml⟩ := hA.ens
        have HO1 : Hid _ := And.intro hA hB1
        clear hown hgrow hnil ho hO1 hA hnn
        go_wp2_with fail
        refine (specBookOk_any a' _ c' _ w1 hI hml).mono ?_
        rintro e w2 ⟨⟨q2, rfl⟩, rfl⟩
        have hbl : bookTo (fun i => (addTo k E lev date).getD i default) (addTo k E lev date).length = bookL (addTo k E lev date) := rfl
        rw [hbl]
        have HF : Hid (Below w.heap.size w (w1.drewN q2) ∧ OwnE (w1.drewN q2) w.heap.size (.slice a' (addTo k E lev date).length c') (addTo k E lev date)) := ⟨below_drewN hB1 q2, HO1.out.1.below (below_drewN (Below.refl _ _) q2)⟩
        have hlen : (addTo k E lev date).length = (lessTo E lev k).length + 1 := add_len _ _ _ _
        clear hI hB1 hbl HO1 HB hlen
        by_cases hd : k = 0 ∨ lastD k E ≤ date
        · have hab := add_book (lev := lev) HBK.out hd
          cases hok : entOk ⟨lev, date⟩ with
          | false =>
            rw [hab, hok]
            have HX : Hid (addOk k E lev date = false) := by show _ = _; unfold addOk; rw [hok]; simp
            clear hab hok hd
            go_wp2
            go_ret2
            exact addPost_no HX.out (HF.out.1.alloc (HF.out.1.size) _) ((OwnE.empty _).lower HF.out.1.size)
          | true =>
            rw [hab, hok]
            have HX : Hid (addOk k E lev date = true) := by show _ = _; unfold addOk; rw [HBK.out, hok, decide_eq_true hd]; rfl
            clear hab hok
            rcases Nat.eq_zero_or_pos k with rfl | hpos
            · clear hd
              go_wp2
              go_ret2
              exact ⟨a', (addTo _ E lev date).length, c', by rw [HX.out]; rfl, HF.out.1, by rw [addAns_yes HX.out]; exact HF.out.2, by rw [addAns_yes HX.out]⟩
            · obtain ⟨j, rfl⟩ : ∃ j, k = j + 1 := ⟨k - 1, by omega⟩
              obtain ⟨b, off, rfl, hlt2, hc⟩ := hS.at (show j < j + 1 by omega)
              obtain ⟨c0, c1⟩ := hc j (by omega)
              have c1' : (w1.drewN q2).cell? ⟨b, off + j * 2 + 1, none⟩ = some (.int .i64 (E j).date) := (HF.out.1.cell (p := ⟨b, off + j * 2 + 1, none⟩) hlt2).trans c1
              have ej : ((j : Int) + 1 - 1) = (j : Int) := by omega
              have hdd : decide (date < (E j).date) = false := by
                have h2 : (E j).date ≤ date := by
                  rcases hd with h | h
                  · omega
                  · simpa [lastD] using h
                simp; omega
              clear hd hc c0 c1
              go_wp2
              go_ret2
              exact ⟨a', (addTo _ E lev date).length, c', by rw [HX.out]; rfl, HF.out.1, by rw [addAns_yes HX.out]; exact HF.out.2, by rw [addAns_yes HX.out]⟩
        · have HX : Hid (addOk k E lev date = false) := by show _ = _; unfold addOk; rw [decide_eq_false hd]; simp
          obtain ⟨j, rfl⟩ : ∃ j, k = j + 1 := ⟨k - 1, by by_cases e : k = 0; exact absurd (Or.inl e) hd; omega⟩
          cases hq : bookL (addTo (j + 1) E lev date) with
          | false =>
            clear hd hq
            go_wp2
            go_ret2
            exact addPost_no HX.out (HF.out.1.alloc (HF.out.1.size) _) ((OwnE.empty _).lower HF.out.1.size)
          | true =>
            obtain ⟨b, off, rfl, hlt2, hc⟩ := hS.at (show j < j + 1 by omega)
            obtain ⟨c0, c1⟩ := hc j (by omega)
            have c1' : (w1.drewN q2).cell? ⟨b, off + j * 2 + 1, none⟩ = some (.int .i64 (E j).date) := (HF.out.1.cell (p := ⟨b, off + j * 2 + 1, none⟩) hlt2).trans c1
            have ej : ((j : Int) + 1 - 1) = (j : Int) := by omega
            have hdd : decide (date < (E j).date) = true := by
              have h2 : ¬ (E j).date ≤ date := fun h => hd (Or.inr (by simpa [lastD] using h))
              simp; omega
            clear hd hq hc c0 c1
            go_wp2
            go_ret2
            exact addPost_no HX.out (HF.out.1.alloc (HF.out.1.size) _) ((OwnE.empty _).lower HF.out.1.size)
end Go.Proofs.Ytkdfimpeghhboaa
