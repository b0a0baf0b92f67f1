/-
  What the draws of books give: some list of at most eleven entries in memory of its own, a level and a turn within bounds; nothing that was there turns but the reader's own place.
-/
import Derived.Test.YtkdfimpeghhboaaDraw1
import Derived.Test.YtkdfimpeghhboaaSpecAdd
import Derived.Test.YtkdfimpeghhboaaEnts
import Derived.Test.YtkdfimpeghhboaaLawBookAdd
namespace Go.Proofs.Ytkdfimpeghhboaa
open Go.RowKit Go.Deep
set_option linter.unusedVariables false
set_option linter.unusedSimpArgs false

theorem IsRd.bel {W W' : World} {r : Nat} {a : Option Addr} {len cap : Nat} {zs : Nat → Int} {p : Nat} (h : IsRd W r a len cap zs p) (hb : Below W.heap.size W W') : IsRd W' r a len cap zs p :=
  h.kept fun k hk => hb.block k (Nat.lt_of_le_of_lt hk h.lt)

theorem bel_grown {w w' : World} (h : Below w.heap.size w w') (r : Option Nat) : w.grownBy w' r := ⟨h.os, h.tape, h.output, h.size, fun k hk _ => h.block k hk⟩

set_option maxHeartbeats 400000 in
theorem num_any (w : World) (r : Nat) (a : Option Addr) (len cap : Nat) (zs : Nat → Int) (p : Nat) (hR : IsRd w r a len cap zs p) (hp : p ≤ 1000000)
    (b off m c : Nat) (S : Nat → Int) (hb : b ≠ r) (hm : 1 ≤ m) (hm2 : m ≤ 1000) (hc : ∀ i, i < m → w.cell? ⟨b, off + i, none⟩ = some (.int .i64 (S i))) :
    Calls Try.prog 22 #[.pointer (some ⟨r, 0, none⟩), .slice (some ⟨b, off, none⟩) m c] w fun e w' => ∃ i, i < m ∧ e = .returned (.int .i64 (S i)) ∧ w.grownBy w' (some r) ∧ IsRd w' r a len cap zs (p + 1) := by
  go_enter Try.func22, Try.ntmps22
  go_wp2_with fail
  refine (pick_any w r a len cap zs p m hR hp (by omega) (by omega)).mono ?_
  rintro e w1 ⟨x, rfl, hx0, hx1, hg, hR1⟩
  obtain ⟨i, rfl⟩ := Int.eq_ofNat_of_zero_le hx0
  have hi : i < m := by omega
  have hci : w1.cell? ⟨b, off + i, none⟩ = some (.int .i64 (S i)) := hg.cell (hc i hi) (by simp; exact hb)
  have HG : Hid (w.grownBy w1 (some r)) := hg
  have HR : Hid (IsRd w1 r a len cap zs (p + 1)) := hR1
  clear hc hg hR1 hR
  go_wp2
  go_ret
  exact ⟨i, hi, rfl, HG.out, HR.out⟩

theorem num_some (w : World) (r : Nat) (a : Option Addr) (len cap : Nat) (zs : Nat → Int) (p : Nat) (hR : IsRd w r a len cap zs p) (hp : p ≤ 1000000)
    (b off m c : Nat) (S : Nat → Int) (hb : b ≠ r) (hm : 1 ≤ m) (hm2 : m ≤ 1000) (hc : ∀ i, i < m → w.cell? ⟨b, off + i, none⟩ = some (.int .i64 (S i))) :
    Calls Try.prog 22 #[.pointer (some ⟨r, 0, none⟩), .slice (some ⟨b, off, none⟩) m c] w fun e w' => ∃ z : Int, e = .returned (.int .i64 z) ∧ w.grownBy w' (some r) ∧ IsRd w' r a len cap zs (p + 1) :=
  (num_any w r a len cap zs p hR hp b off m c S hb hm hm2 hc).mono fun e w' ⟨i, _, he, h⟩ => ⟨S i, he, h⟩

/-- Numbers as cells. -/
def numv (L : List Int) : List Value := L.map (Value.int .i64)
theorem new_nums (w : World) (L : List Int) : ∀ i, i < L.length → (w.alloc (.cells (numv L).toArray 3)).cell? ⟨w.heap.size, 0 + i, none⟩ = some (.int .i64 (L.getD i 0)) := by
  intro i hi
  simp only [World.cell?, new_block]
  simp [numv, hi]

theorem OwnE.keep {w w' : World} {B r : Nat} {v : Value} {l : List En} (h : OwnE w B v l) (hg : w.grownBy w' (some r)) (hr : r < B) : OwnE w' B v l :=
  eowns_kept h hg (fun b hb e => by have := (eowns_block h hb).1; cases e; omega)

/-- A turn of a row of one's own is written. -/
theorem OwnE.setDate {w : World} {B g c : Nat} {l : List En} (h : OwnE w B (.slice (some ⟨g, 0, none⟩) l.length c) l) (k : Nat) (z : Int) :
    ∃ l' : List En, l'.length = l.length ∧ OwnE (w.setCell ⟨g, k * 2 + 1, none⟩ (.int .i64 z)) B (.slice (some ⟨g, 0, none⟩) l.length c) l' ∧ w.grownBy (w.setCell ⟨g, k * 2 + 1, none⟩ (.int .i64 z)) (some g) := by
  have h2 := World.ownsRow.stored h (k * 2 + 1) (.int .i64 z)
  have e := entv_set2 l.length k (fun i => l.getD i default) z
  rw [enl_self] at e
  refine ⟨enl l.length (fun i => if i = k then ⟨((fun i => l.getD i default) k).lev, z⟩ else (fun i => l.getD i default) i), enl_len _ _, ?_, by simpa [Value.ownBlock, Addr.add] using h2.2⟩
  unfold OwnE
  rw [enl_len, ← e]
  simpa [Addr.add] using h2.1

/-- What a draw of a book leaves. -/
structure BookD (w : World) (r : Nat) (a : Option Addr) (len cap : Nat) (zs : Nat → Int) (p1 : Nat) (v : Value) (W : World) : Prop where
  own : ∃ (l : List En) (a : Option Addr) (c : Nat), v = .slice a l.length c ∧ OwnE W w.heap.size v l ∧ l.length ≤ 11
  grown : w.grownBy W (some r)
  rd : ∃ p, p ≤ p1 ∧ IsRd W r a len cap zs p

set_option maxHeartbeats 4000000 in
theorem l7Book_any (w : World) (r : Nat) (a : Option Addr) (len cap : Nat) (zs : Nat → Int) (p : Nat) (hR : IsRd w r a len cap zs p) (hp : p ≤ 1000) :
    Calls Try.prog 18 #[.pointer (some ⟨r, 0, none⟩)] w fun e w' => ∃ v, e = .returned v ∧ BookD w r a len cap zs (p + 12) v w' := by
  have hrw := hR.lt
  go_enter Try.func18, Try.ntmps18
  go_wp2_with fail
  have ho0 := OwnE.empty w
  have hR0 : IsRd (w.alloc (.cells #[] 30)) r a len cap zs p := hR.bel ((Below.refl _ _).alloc (Nat.le_refl _) _)
  refine (pick_any _ r a len cap zs p 5 hR0 (by omega) (by omega) (by omega)).mono ?_
  rintro e w1 ⟨x, rfl, hx0, hx1, hg1, hR1⟩
  obtain ⟨x, rfl⟩ := Int.eq_ofNat_of_zero_le hx0
  have ho1 := ho0.keep hg1 hrw
  have hG1 : w.grownBy w1 (some r) := grown_trans (grown_alloc w _ _) hg1
  clear hg1 ho0 hR0
  go_wp2
  go_loopw [3, 4, 5] (fun b t i wr => ∃ (q pp : Nat) (tt : Int) (l : List En) (ab : Option Addr) (cb : Nat), i = .int .i64 q ∧ q ≤ 4 ∧ t = .int .i64 tt ∧ 1 ≤ tt ∧ tt + 2 * q ≤ 9 ∧ b = .slice ab l.length cb ∧ l.length ≤ 11 ∧ OwnE wr w.heap.size b l ∧ w.grownBy wr (some r) ∧ IsRd wr r a len cap zs pp ∧ pp + 2 * q ≤ p + 9) (fun _ _ i _ => (intOf i).toNat)
  case atStart => exact ⟨x, p + 1, 1, [], _, _, rfl, by omega, rfl, by omega, by omega, rfl, by simp, ho1, hG1, hR1, by omega⟩
  case round =>
    obtain ⟨q, pp, tt, l, ab, cb, rfl, hq, rfl, ht1, ht2, rfl, hl, ho, hg, hRr, hpp⟩ := hrel
    have HG : Hid (w.grownBy wr (some r)) := hg
    have hrwr : r < wr.heap.size := hRr.lt
    have hwwr : w.heap.size ≤ wr.heap.size := hg.size
    by_cases hq0 : 0 < q
    · have hqi : (0 : Int) < (q : Int) := by omega
      go_wp2_with fail
      refine (pick_any wr r a len cap zs pp 4 hRr (by omega) (by omega) (by omega)).mono ?_
      rintro e w2 ⟨y, rfl, hy0, hy1, hg2, hR2⟩
      have ho2 := ho.keep hg2 hrw
      have HG2 : Hid (w.grownBy w2 (some r)) := grown_trans HG.out hg2
      clear hg hg2 HG ho
      go_wp2_with fail
      obtain ⟨hI, _, hm⟩ := ho2.isEns
      refine (specBookAdd_any _ l.length cb _ y tt w2 hI hm).mono ?_
      rintro e w3 ⟨a3, m3, c3, rfl, hb3, ho3, hm3⟩
      have hfew := addAns_few l.length (fun i => l.getD i default) y tt
      subst hm3
      have hR3 := hR2.bel hb3
      have ho3' := ho3.lower (show w.heap.size ≤ w2.heap.size by have := HG2.out.size; omega)
      have HG3 : Hid (w.grownBy w3 (some r)) := grown_trans HG2.out (bel_grown hb3 _)
      generalize addAns l.length (fun i => l.getD i default) y tt = l3 at *
      clear hb3 ho3 ho2 hI HG2 hR2
      go_wp2_with fail
      refine (pick_any w3 r a len cap zs (pp + 1) 3 hR3 (by omega) (by omega) (by omega)).mono ?_
      rintro e w4 ⟨z, rfl, hz0, hz1, hg4, hR4⟩
      have HO4 : Hid _ := And.intro (ho3'.keep hg4 hrw) (And.intro (grown_trans HG3.out hg4) hR4)
      clear hg4 hR4 ho3' HG3 hR3
      go_wp2
      go_roundw
      case rel => exact ⟨q - 1, pp + 1 + 1, tt + z, l3, a3, c3, by congr 1; omega, by omega, rfl, by omega, by omega, rfl, by omega, HO4.out.1, HO4.out.2.1, HO4.out.2.2, by omega⟩
      case measure => simp [intOf]; omega
    · have hq1 : q = 0 := by omega
      subst hq1
      by_cases hl0 : l.length = 0
      · obtain rfl : l = [] := List.eq_nil_of_length_eq_zero hl0
        have HF : Hid (BookD w r a len cap zs (p + 12) (.slice ab 0 cb) wr) := ⟨⟨[], ab, cb, rfl, ho, hl⟩, hg, pp, by omega, hRr⟩
        clear ho hg hRr HG hl0
        go_wp2
        go_ret
        exact ⟨_, rfl, HF.out⟩
      · have hlp : 0 < l.length := by omega
        have hlb : decide ((0 : Int) < (l.length : Int)) = true := by simp; omega
        clear hl0
        go_wp2_with fail
        refine (pick_any wr r a len cap zs pp 8 hRr (by omega) (by omega) (by omega)).mono ?_
        rintro e w2 ⟨y, rfl, hy0, hy1, hg2, hR2⟩
        have ho2 := ho.keep hg2 hrw
        have HG2 : Hid (w.grownBy w2 (some r)) := grown_trans HG.out hg2
        clear hg hg2 HG ho hRr
        by_cases hy : y = 0
        · have hyb : (y == 0) = true := by simp [hy]
          clear hy
          go_wp2_with fail
          refine (pick_any w2 r a len cap zs (pp + 1) l.length hR2 (by omega) (by omega) (by omega)).mono ?_
          rintro e w3 ⟨k, rfl, hk0, hk1, hg3, hR3⟩
          obtain ⟨k, rfl⟩ := Int.eq_ofNat_of_zero_le hk0
          have ho3 := ho2.keep hg3 hrw
          have HG3 : Hid (w.grownBy w3 (some r)) := grown_trans HG2.out hg3
          have hrw3 : r < w3.heap.size := hR3.lt
          clear hg3 ho2 HG2 hR2
          go_wp2_with fail
          have hR4 := hR3.bel (W' := w3.alloc (.cells #[.int .i64 0, .int .i64 1, .int .i64 1001, .int .i64 9] 3)) ((Below.refl _ _).alloc (Nat.le_refl _) _)
          have hn4 := new_nums w3 [0, 1, 1001, 9]
          refine (num_some _ r a len cap zs (pp + 1 + 1) hR4 (by omega) w3.heap.size 0 4 4 (fun i => [0, 1, 1001, 9].getD i 0) (by omega) (by omega) (by omega) hn4).mono ?_
          rintro e w5 ⟨z, rfl, hg5, hR5⟩
          have ho5 := (ho3.alloc (.cells #[.int .i64 0, .int .i64 1, .int .i64 1001, .int .i64 9] 3)).keep hg5 hrw
          have HG5 : Hid (w.grownBy w5 (some r)) := grown_trans HG3.out (grown_trans (grown_alloc w3 _ _) hg5)
          clear hg5 ho3 HG3 hR4 hn4 hR3
          obtain ⟨g, rfl, hgl⟩ := eowns_addr ho5 hlp
          have hgB : w.heap.size ≤ g := (eowns_block ho5 rfl).1
          obtain ⟨l', hl', ho6, hg6⟩ := ho5.setDate k z
          have hcd := World.ownsRow.cellAt ho5 (k * 2 + 1) (by omega)
          have hfd := World.ownsRow.frozenAt ho5 (k * 2 + 1)
          have hR6 : IsRd (w5.setCell ⟨g, k * 2 + 1, none⟩ (.int .i64 z)) r a len cap zs (pp + 1 + 1 + 1) := hR5.grown hg6 (fun q e => by cases e; omega)
          have HF : Hid (BookD w r a len cap zs (p + 12) (.slice (some ⟨g, 0, none⟩) l.length cb) (w5.setCell ⟨g, k * 2 + 1, none⟩ (.int .i64 z))) :=
            ⟨⟨l', _, _, by rw [hl'], ho6, by omega⟩, grown_own HG5.out hg6 (fun q e => by cases e; omega), pp + 1 + 1 + 1, by omega, hR6⟩
          have hgv := entv_get l k (by omega)
          rw [hgv.2] at hcd
          clear ho5 ho6 hg6 hR5 hR6 HG5 hgv
          go_wp2
          go_ret
          exact ⟨_, rfl, HF.out⟩
        · have hyb : (y == 0) = false := by simp [hy]
          have HF : Hid (BookD w r a len cap zs (p + 12) (.slice ab l.length cb) w2) := ⟨⟨l, ab, cb, rfl, ho2, hl⟩, HG2.out, pp + 1, by omega, hR2⟩
          clear hy ho2 HG2 hR2
          go_wp2
          go_ret
          exact ⟨_, rfl, HF.out⟩

/-- What the draws of books hand out. -/
def OutB (w : World) (v : Value) (W : World) : Prop := ∃ (l : List En) (a : Option Addr) (c : Nat), v = .slice a l.length c ∧ OwnE W (w.heap.size + 1) v l ∧ l.length ≤ 11 ∧ Below w.heap.size w W

theorem OutB.keep {w : World} {v : Value} {W W' : World} (h : OutB w v W) (hg : W.grownBy W' (some w.heap.size)) : OutB w v W' := by
  obtain ⟨l, a, c, hv, ho, hl, hb⟩ := h
  exact ⟨l, a, c, hv, ho.keep hg (by omega), hl, hb.grown hg hb.size (fun g e => by cases e; exact Nat.le_refl _)⟩

theorem OutB.alloc {w : World} {v : Value} {W : World} (h : OutB w v W) (o : Obj) : OutB w v (W.alloc o) := by
  obtain ⟨l, a, c, hv, ho, hl, hb⟩ := h
  exact ⟨l, a, c, hv, ho.alloc o, hl, hb.alloc hb.size o⟩

theorem bookOut {w w1 W : World} {a : Option Addr} {len cap p1 : Nat} {zs : Nat → Int} {v : Value} (hb1 : Below w.heap.size w w1) (h1 : w.heap.size < w1.heap.size) (h : BookD w1 w.heap.size a len cap zs p1 v W) : OutB w v W := by
  obtain ⟨l, a', c', hv, ho, hl⟩ := h.own
  exact ⟨l, a', c', hv, ho.lower (by omega), hl, hb1.grown h.grown hb1.size (fun g e => by cases e; exact Nat.le_refl _)⟩

set_option maxHeartbeats 1000000 in
theorem drawBookOk_any (w : World) (a : Option Addr) (len cap : Nat) (zs : Nat → Int) (hc : IsCode w a len zs) (hlen : len ≤ maxLen) (hcap : len ≤ cap) :
    Calls Try.prog 10 #[.slice a len cap] w fun e w' => ∃ v, e = .returned v ∧ OutB w v w' := by
  go_enter Try.func10, Try.ntmps10
  go_wp2_with fail
  refine (l11Open_any w a len cap zs hlen hcap hc).mono ?_
  rintro e w1 ⟨rfl, hb1, len', hR1⟩
  go_wp2_with fail
  refine (l7Book_any w1 w.heap.size a len' cap zs 0 hR1 (by omega)).mono ?_
  rintro e w2 ⟨v, rfl, hD⟩
  have HO : Hid (OutB w v w2) := bookOut hb1 hR1.lt hD
  clear hD
  go_wp2
  go_ret
  exact ⟨_, rfl, HO.out⟩

set_option maxHeartbeats 1000000 in
theorem drawBookBase_any (w : World) (a : Option Addr) (len cap : Nat) (zs : Nat → Int) (hc : IsCode w a len zs) (hlen : len ≤ maxLen) (hcap : len ≤ cap) :
    Calls Try.prog 8 #[.slice a len cap] w fun e w' => ∃ v lev, e = .returned (.tuple #[v, .int .i64 lev]) ∧ OutB w v w' ∧ -2 ≤ lev ∧ lev ≤ 6 := by
  go_enter Try.func8, Try.ntmps8
  go_wp2_with fail
  refine (l11Open_any w a len cap zs hlen hcap hc).mono ?_
  rintro e w1 ⟨rfl, hb1, len', hR1⟩
  go_wp2_with fail
  refine (l7Book_any w1 w.heap.size a len' cap zs 0 hR1 (by omega)).mono ?_
  rintro e w2 ⟨v, rfl, hD⟩
  obtain ⟨p2, hp2, hR2⟩ := hD.rd
  obtain ⟨l, al, cl, rfl, ho, hl⟩ := hD.own
  have hw1 := hR1.lt
  have HO : Hid (OutB w (.slice al l.length cl) w2) := bookOut hb1 hR1.lt hD
  clear hD hb1 ho
  go_wp2_with fail
  refine (pick_any w2 w.heap.size a len' cap zs p2 6 hR2 (by omega) (by omega) (by omega)).mono ?_
  rintro e w3 ⟨x, rfl, hx0, hx1, hg3, hR3⟩
  go_wp2_with fail
  refine (pick_any w3 w.heap.size a len' cap zs (p2 + 1) 2 hR3 (by omega) (by omega) (by omega)).mono ?_
  rintro e w4 ⟨y, rfl, hy0, hy1, hg4, hR4⟩
  have HO4 : Hid (OutB w (.slice al l.length cl) w4) := (HO.out.keep hg3).keep hg4
  clear hg3 hg4 hR2 hR3 hR4 HO
  go_wp2
  go_ret2
  exact ⟨_, x - y, rfl, HO4.out, by omega, by omega⟩

set_option maxHeartbeats 1000000 in
theorem drawBookAdd_lev (w : World) (a : Option Addr) (len cap : Nat) (zs : Nat → Int) (hc : IsCode w a len zs) (hlen : len ≤ maxLen) (hcap : len ≤ cap) :
    Calls Try.prog 14 #[.slice a len cap] w fun e w' => ∃ v lev date, e = .returned (.tuple #[v, .int .i64 lev, .int .i64 date]) ∧ OutB w v w' ∧ lev ≤ 5 := by
  go_enter Try.func14, Try.ntmps14
  go_wp2_with fail
  refine (l11Open_any w a len cap zs hlen hcap hc).mono ?_
  rintro e w1 ⟨rfl, hb1, len', hR1⟩
  go_wp2_with fail
  refine (l7Book_any w1 w.heap.size a len' cap zs 0 hR1 (by omega)).mono ?_
  rintro e w2 ⟨v, rfl, hD⟩
  obtain ⟨p2, hp2, hR2⟩ := hD.rd
  obtain ⟨l, al, cl, rfl, ho, hl⟩ := hD.own
  have hw1 := hR1.lt
  have HO : Hid (OutB w (.slice al l.length cl) w2) := bookOut hb1 hR1.lt hD
  clear hD hb1 ho
  go_wp2_with fail
  refine (pick_any w2 w.heap.size a len' cap zs p2 6 hR2 (by omega) (by omega) (by omega)).mono ?_
  rintro e w3 ⟨x, rfl, hx0, hx1, hg3, hR3⟩
  go_wp2_with fail
  refine (pick_any w3 w.heap.size a len' cap zs (p2 + 1) 9 hR3 (by omega) (by omega) (by omega)).mono ?_
  rintro e w4 ⟨y, rfl, hy0, hy1, hg4, hR4⟩
  have HO4 : Hid (OutB w (.slice al l.length cl) w4) := (HO.out.keep hg3).keep hg4
  have hlt4 := hR4.lt
  clear hg3 hg4 hR2 hR3 HO
  go_wp2_with fail
  have hR5 := hR4.bel (W' := w4.alloc (.cells #[.int .i64 9, .int .i64 5, .int .i64 1, .int .i64 0, .int .i64 1000, .int .i64 12] 3)) ((Below.refl _ _).alloc (Nat.le_refl _) _)
  have hn5 := new_nums w4 [9, 5, 1, 0, 1000, 12]
  refine (num_some _ w.heap.size a len' cap zs (p2 + 1 + 1) hR5 (by omega) w4.heap.size 0 6 6 (fun i => [9, 5, 1, 0, 1000, 12].getD i 0) (by omega) (by omega) (by omega) hn5).mono ?_
  rintro e w5 ⟨z, rfl, hg5, hR6⟩
  have HO5 : Hid (OutB w (.slice al l.length cl) w5) := (HO4.out.alloc _).keep hg5
  clear hg5 hR4 hR5 hR6 HO4 hn5
  go_wp2
  go_ret3
  exact ⟨_, x - y / 8, z, rfl, HO5.out, by omega⟩

theorem drawBookAdd_any (w : World) (a : Option Addr) (len cap : Nat) (zs : Nat → Int) (hc : IsCode w a len zs) (hlen : len ≤ maxLen) (hcap : len ≤ cap) :
    Calls Try.prog 14 #[.slice a len cap] w fun e w' => ∃ v lev date, e = .returned (.tuple #[v, .int .i64 lev, .int .i64 date]) ∧ OutB w v w' :=
  (drawBookAdd_lev w a len cap zs hc hlen hcap).mono fun e w' ⟨v, lev, date, he, ho, _⟩ => ⟨v, lev, date, he, ho⟩

theorem OutB.lies {w : World} {v : Value} {W : World} (h : OutB w v W) : ∃ (n : Nat) (a : Option Addr) (c : Nat) (E : Nat → En), v = .slice a n c ∧ n ≤ 11 ∧ OwnE W (w.heap.size + 1) (.slice a n c) (enl n E) ∧ Below w.heap.size w W := by
  obtain ⟨l, a, c, rfl, ho, hl, hb⟩ := h
  exact ⟨l.length, a, c, fun i => l.getD i default, rfl, hl, by rw [enl_self]; exact ho, hb⟩

theorem OwnE.reads {w : World} {B n c : Nat} {a : Option Addr} {E : Nat → En} (h : OwnE w B (.slice a n c) (enl n E)) : IsEns w a n E := by
  obtain ⟨hI, hm, _⟩ := h.isEns
  rw [enl_len] at hI
  exact hI.congr fun i hi => enl_getD n E i hi
end Go.Proofs.Ytkdfimpeghhboaa
