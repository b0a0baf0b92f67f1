/-
  FnExactBookAdd, walked.
-/
import Derived.Test.YtihjoiligkljlaaImplAdd
import Derived.Test.YtihjoiligkljlaaEnts
namespace Go.Proofs.Ytihjoiligkljlaa
open Go.RowKit Go.Deep
set_option linter.unusedVariables false

theorem OwnE.isEns {w : World} {B m c : Nat} {a : Option Addr} {l : List En} (h : OwnE w B (.slice a m c) l) : IsEns w a l.length (fun i => l.getD i default) ∧ m = l.length ∧ l.length ≤ maxLen := by
  obtain ⟨a', c', hv, hI, hm⟩ := h.ens
  cases hv
  exact ⟨hI, rfl, hm⟩

theorem enl_self (l : List En) : enl l.length (fun i => l.getD i default) = l := by
  apply List.ext_getElem
  · rw [enl_len]
  · intro i h1 h2
    simp [enl, h2]

theorem addAns_few (n : Nat) (E : Nat → En) (lev date : Int) : (addAns n E lev date).length ≤ 11 := by
  unfold addAns
  split
  · rename_i h
    have hb : bookTo E n = true := by unfold addOk at h; rw [Bool.and_eq_true] at h; exact h.1
    have := book_few hb
    have h2 := less_len E lev n
    rw [add_len]; omega
  · simp

/-- What is known within the law: three books, each in memory of its own. -/
structure AF (w : World) (n xb : Nat) (S1 S2 : Nat) (L X G : List En) (v g : Value) (W : World) : Prop where
  bel : Below w.heap.size w W
  ov : OwnE W w.heap.size v L
  ox : OwnE W S1 (.slice (some ⟨xb, 0, none⟩) n n) X
  og : OwnE W S2 g G
  vS : ∀ b, v.ownBlock = some b → b < S1
  xS : xb < S2
  hS : S1 ≤ xb

theorem AF.below {w : World} {n xb S1 S2 : Nat} {L X G : List En} {v g : Value} {W W' : World} (h : AF w n xb S1 S2 L X G v g W) (hb : Below W.heap.size W W') : AF w n xb S1 S2 L X G v g W' :=
  ⟨h.bel.trans (hb.mono h.bel.size), h.ov.below hb, h.ox.below hb, h.og.below hb, h.vS, h.xS, h.hS⟩

theorem eowns_kept {w w' : World} {B : Nat} {v : Value} {l : List En} {r : Option Nat} (h : OwnE w B v l) (hg : w.grownBy w' r) (hr : ∀ b, v.ownBlock = some b → r ≠ some b) : OwnE w' B v l :=
  eowns_same h fun b hb => hg.block b (eowns_block h hb).2 (fun e => hr b hb e.symm)

theorem AF.markX {w : World} {n xb S1 S2 : Nat} {L X X' G : List En} {v g : Value} {W W' : World} (h : AF w n xb S1 S2 L X G v g W) (hw : w.heap.size ≤ S1) (hg : W.grownBy W' (some xb)) (hx : OwnE W' S1 (.slice (some ⟨xb, 0, none⟩) n n) X') : AF w n xb S1 S2 L X' G v g W' :=
  ⟨h.bel.grown hg h.bel.size (fun b e => by have := h.hS; cases e; omega),
   eowns_kept h.ov hg (fun b hb e => by have := h.vS b hb; have := h.hS; cases e; omega), hx,
   eowns_kept h.og hg (fun b hb e => by have := (eowns_block h.og hb).1; have := h.xS; cases e; omega), h.vS, h.xS, h.hS⟩

theorem AF.markG {w : World} {n xb S1 S2 : Nat} {L X G G' : List En} {v g : Value} {W W' : World} (h : AF w n xb S1 S2 L X G v g W) (hw : w.heap.size ≤ S1) (hg : W.grownBy W' g.ownBlock) (hx : OwnE W' S2 g G') : AF w n xb S1 S2 L X G' v g W' := by
  have h1 := h.xS
  have h2 := h.hS
  refine ⟨h.bel.grown hg h.bel.size (fun b e => by have := (eowns_block h.og e).1; omega),
   eowns_kept h.ov hg (fun b hb e => by have := h.vS b hb; have := (eowns_block h.og e).1; omega),
   eowns_kept h.ox hg (fun b hb e => by
     have h3 : xb = b := by simpa [Value.ownBlock] using hb
     have := (eowns_block h.og e).1
     omega), hx, h.vS, h.xS, h.hS⟩

theorem eqOwn {w : World} {B B' m m' c c' : Nat} {a a' : Option Addr} {l : List En} (h : OwnE w B (.slice a m c) l) (h' : OwnE w B' (.slice a' m' c') l) :
    Calls Try.prog 11 #[.slice a m c, .slice a' m' c'] w fun e w' => Below w.heap.size w w' ∧ e = .returned (.bool true) := by
  obtain ⟨hI, rfl, hm⟩ := h.isEns
  obtain ⟨hI', rfl, _⟩ := h'.isEns
  exact (eqEntryS_any a a' _ c _ c' _ _ w hI hI' hm hm).mono fun e w' ⟨hb, he⟩ => ⟨hb, by rw [he, eqEs_self _ _ _ (fun _ _ => rfl)]; simp⟩

theorem marks_lie {w : World} {B m c k : Nat} {a : Option Addr} (h : OwnE w B (.slice a m c) (enl m (marksE k))) : IsEns w a m (marksE k) := by
  obtain ⟨hI, hm, _⟩ := h.isEns
  rw [enl_len] at hI
  exact hI.congr fun i hi => enl_getD m _ i hi

set_option maxHeartbeats 4000000 in
theorem lawBookAdd (a : Option Addr) (n c : Nat) (E : Nat → En) (lev date : Int) (w : World) (hS : IsEns w a n E) (hn : n ≤ maxLen) (hlev : In64 lev) (hdate : In64 date) :
    Calls Try.prog 5 #[.slice a n c, .int .i64 lev, .int .i64 date] w fun e w' => e = .returned (.bool true) ∧ Below w.heap.size w w' := by
  clear hlev hdate
  go_enter Try.func5, Try.ntmps5
  go_wp2_with fail
  refine (szEntryS_any a n c _ w hn (by omega) (by omega)).mono ?_
  rintro e w1 ⟨hw1, r, rfl, hr1, hr2⟩
  subst hw1
  by_cases hr3 : r < 0
  · have hr3' : decide (r < 0) = true := by simp; omega
    clear hr2
    go_wp2
    go_ret
    exact ⟨rfl, Below.refl _ _⟩
  · have hr3' : decide (r < 0) = false := by simp; omega
    have hsz : n ≤ 1048576 := by have := hr2 (by omega); omega
    clear hr2
    have HT : Hid (∀ W, Below w.heap.size w W → Calls Try.prog 9 #[.slice a n c] W fun e w' => e = .returned (.slice (some ⟨W.heap.size, 0, none⟩) n n) ∧ Below W.heap.size W w' ∧ OwnE w' W.heap.size (.slice (some ⟨W.heap.size, 0, none⟩) n n) (enl n E)) := fun W hW =>
      toEntryS_any a n c E W (hS.below (Nat.le_refl _) hW) hsz
    go_wp2_with fail
    refine (HT.out w (Below.refl _ _)).mono ?_
    rintro e w2 ⟨rfl, hb2, ho2⟩
    go_wp2_with fail
    refine (specBookAdd_any _ n n E lev date w2 ho2.lies hn).mono ?_
    rintro e w3 ⟨a0, m0, c0, rfl, hb3, ho3, hm0⟩
    subst hm0
    have hB3 : Below w.heap.size w w3 := hb2.trans (hb3.mono hb2.size)
    have hv3 : OwnE w3 w.heap.size (.slice a0 (addAns n E lev date).length c0) (addAns n E lev date) := ho3.lower hb2.size
    clear hb2 ho2 hb3 ho3
    go_wp2_with fail
    refine (HT.out w3 hB3).mono ?_
    rintro e w4 ⟨rfl, hb4, ho4⟩
    have hB4 : Below w.heap.size w w4 := hB3.trans (hb4.mono hB3.size)
    have hv4 := hv3.below hb4
    have hvS : ∀ b, (Value.slice a0 (addAns n E lev date).length c0).ownBlock = some b → b < w3.heap.size := fun b hb => (eowns_block hv3 hb).2
    have hxS : w3.heap.size < w4.heap.size := (eowns_block ho4 rfl).2
    go_wp2_with fail
    refine (implBookAdd_any _ n n E lev date w4 ho4.lies hn).mono ?_
    rintro e w5 ⟨ag, mg, cg, rfl, hb5, ho5, hmg⟩
    subst hmg
    have H5 : Hid (AF w n w3.heap.size w3.heap.size w4.heap.size (addAns n E lev date) (enl n E) (addAns n E lev date) (.slice a0 (addAns n E lev date).length c0) (.slice ag (addAns n E lev date).length cg) w5) :=
      ⟨hB4.trans (hb5.mono hB4.size), hv4.below hb5, ho4.below hb5, ho5, hvS, hxS, Nat.le_refl _⟩
    have hw3 : w.heap.size ≤ w3.heap.size := hB3.size
    have hfew := addAns_few n E lev date
    have hne : (addOk n E lev date != addOk n E lev date) = false := by simp
    generalize w3.heap.size = S1 at *
    generalize w4.heap.size = S2 at *
    clear hB3 hv3 hb4 ho4 hB4 hv4 hvS hxS hb5 ho5
    generalize hok' : addOk n E lev date = ok at *
    have HOK : Hid (addOk n E lev date = ok) := hok'
    clear hok'
    go_wp2_with fail
    refine (eqOwn H5.out.og H5.out.ov).mono ?_
    rintro e w6 ⟨hb6, rfl⟩
    have H6 : Hid _ := H5.out.below hb6
    clear H5 hb6
    go_wp2_with fail
    refine (HT.out w6 H6.out.bel).mono ?_
    rintro e w7 ⟨rfl, hb7, ho7⟩
    have H7 : Hid _ := H6.out.below hb7
    clear H6 hb7
    go_wp2_with fail
    refine (eqOwn H7.out.ox ho7).mono ?_
    rintro e w8 ⟨hb8, rfl⟩
    have H8 : Hid _ := H7.out.below hb8
    clear H7 hb8 ho7
    go_wp2_with fail
    have hx8 : w8.ownsRow S1 46 2 (.slice (some ⟨S1, 0, none⟩) n n) n (entv (enl n E)) := by
      have h := H8.out.ox
      unfold OwnE at h
      rw [enl_len] at h
      exact h
    refine (markEntryS_own _ n n 1 S1 E w8 hx8 hsz (by omega)).mono ?_
    rintro e w9 ⟨rfl, hx9, hg9⟩
    have hk9 : decide (((1 + 2 * n : Nat) : Int) < 0) = false := by simp; omega
    have H9 : Hid _ := H8.out.markX hw3 hg9 (show OwnE w9 S1 (.slice (some ⟨S1, 0, none⟩) n n) (enl n (marksE 1)) by unfold OwnE; rw [enl_len]; exact hx9)
    clear H8 hx8 hx9 hg9
    go_wp2_with fail
    refine (eqOwn H9.out.og H9.out.ov).mono ?_
    rintro e w10 ⟨hb10, rfl⟩
    have H10 : Hid _ := H9.out.below hb10
    clear H9 hb10
    go_wp2_with fail
    have hg10 : w10.ownsRow S2 46 2 (.slice ag (addAns n E lev date).length cg) (addAns n E lev date).length (entv (enl (addAns n E lev date).length (fun i => (addAns n E lev date).getD i default))) := by
      rw [enl_self]
      exact H10.out.og
    refine (markEntryS_own _ (addAns n E lev date).length cg 1 S2 _ w10 hg10 (by omega) (by omega)).mono ?_
    rintro e w11 ⟨rfl, hg11, hgr11⟩
    have H11 : Hid _ := H10.out.markG hw3 hgr11 (show OwnE w11 S2 (.slice ag (addAns n E lev date).length cg) (enl (addAns n E lev date).length (marksE 1)) by unfold OwnE; rw [enl_len]; exact hg11)
    clear H10 hg10 hg11 hgr11
    go_wp2_with fail
    refine (heldEntryS_any ag (addAns n E lev date).length cg 1 w11 (marks_lie H11.out.og) (by omega) (by omega)).mono ?_
    rintro e w12 ⟨rfl, rfl⟩
    have hk12 : decide (((1 + 2 * (addAns n E lev date).length : Nat) : Int) < 0) = false := by simp; omega
    have hn12 : (((1 + 2 * (addAns n E lev date).length : Nat) : Int) != ((1 + 2 * (addAns n E lev date).length : Nat) : Int)) = false := by simp
    go_wp2_with fail
    refine (HT.out w12 H11.out.bel).mono ?_
    rintro e w13 ⟨rfl, hb13, ho13⟩
    have H13 : Hid _ := H11.out.below hb13
    clear H11 hb13
    go_wp2_with fail
    refine (implBookAdd_any _ n n E lev date w13 ho13.lies hn).mono ?_
    rintro e w14 ⟨ah, mh, ch, rfl, hb14, ho14, hmh⟩
    subst hmh
    have H14 : Hid _ := H13.out.below hb14
    clear H13 hb14 ho13
    rw [HOK.out]
    go_wp2_with fail
    refine (eqOwn ho14 H14.out.ov).mono ?_
    rintro e w15 ⟨hb15, rfl⟩
    have H15 : Hid _ := H14.out.below hb15
    clear H14 hb15 ho14
    go_wp2_with fail
    refine (heldEntryS_any ag (addAns n E lev date).length cg 1 w15 (marks_lie H15.out.og) (by omega) (by omega)).mono ?_
    rintro e w16 ⟨rfl, rfl⟩
    have HB : Hid (Below w.heap.size w w16) := H15.out.bel
    clear H15
    go_wp2_with fail
    go_ret
    exact ⟨rfl, HB.out⟩
end Go.Proofs.Ytihjoiligkljlaa
