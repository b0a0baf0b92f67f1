/-
  FnExactTapeCut, walked.
-/
import Derived.Test.YtbhdfiliighfcaaSpecCutV
import Derived.Test.YtbhdfiliighfcaaImplCutV
import Derived.Test.YtbhdfiliighfcaaVos
namespace Go.Proofs.Ytbhdfiliighfcaa
open Go.RowKit Go.Deep
set_option linter.unusedVariables false

/-- What is known within the law: the specification's list and the program's, each in memory of its own. -/
structure VF (w : World) (S2 n c0 cg : Nat) (a0 ag : Option Addr) (Z Y : Nat → Vo) (W : World) : Prop where
  bel : Below w.heap.size w W
  ov : OwnV W w.heap.size (.slice a0 n c0) n Z
  og : OwnV W S2 (.slice ag n cg) n Y
  vS : ∀ b, (Value.slice a0 n c0).ownBlock = some b → b < S2

theorem VF.below {w : World} {S2 n c0 cg : Nat} {a0 ag : Option Addr} {Z Y : Nat → Vo} {W W' : World} (h : VF w S2 n c0 cg a0 ag Z Y W) (hb : Below W.heap.size W W') : VF w S2 n c0 cg a0 ag Z Y W' :=
  ⟨h.bel.trans (hb.mono h.bel.size), h.ov.below hb, h.og.below hb, h.vS⟩

theorem VF.mark {w : World} {S2 n c0 cg : Nat} {a0 ag : Option Addr} {Z Y Y' : Nat → Vo} {W W' : World} (h : VF w S2 n c0 cg a0 ag Z Y W) (hg : W.grownBy W' (Value.slice ag n cg).ownBlock) (ho : OwnV W' S2 (.slice ag n cg) n Y') (hw : w.heap.size ≤ S2) : VF w S2 n c0 cg a0 ag Z Y' W' :=
  ⟨h.bel.grown hg h.bel.size (fun b e => by have := (vowns_block h.og e).1; omega),
   vowns_same h.ov (fun b hb => hg.block b (vowns_block h.ov hb).2 (fun e => by have := h.vS b hb; have := (vowns_block h.og e.symm).1; omega)), ho, h.vS⟩

theorem eqVols2 {w : World} {B B' n c c' : Nat} {a a' : Option Addr} {Z : Nat → Vo} (h : OwnV w B (.slice a n c) n Z) (h' : OwnV w B' (.slice a' n c') n Z) :
    Calls Try.prog 14 #[.slice a n c, .slice a' n c'] w fun e w' => Below w.heap.size w w' ∧ e = .returned (.bool true) := by
  obtain ⟨x, y, e1, hI, hm⟩ := h.lies
  obtain ⟨x', y', e2, hI', _⟩ := h'.lies
  cases e1; cases e2
  exact (eqVolS_any a a' n c n c' Z Z w hI hI' hm hm).mono fun e w' ⟨hb, he⟩ => ⟨hb, by rw [he, eqVs_self n Z Z (fun _ _ => rfl)]; simp⟩

theorem OwnV.isVos {w : World} {B n c : Nat} {a : Option Addr} {Z : Nat → Vo} (h : OwnV w B (.slice a n c) n Z) : IsVos w a n Z := by
  obtain ⟨x, y, e1, hI, hm⟩ := h.lies
  cases e1
  exact hI

set_option maxHeartbeats 4000000 in
theorem lawTapeCut (s : ByteArray) (z : Int) (w : World) (hs : s.size ≤ maxLen) (hz : In64 z) :
    Calls Try.prog 5 #[.string s, .int .i64 z] w fun e w' => e = .returned (.bool true) ∧ Below w.heap.size w w' := by
  have hsm := hs
  unfold maxLen at hs
  have hfew := cutN_few s z
  by_cases hbig : (1048576 : Int) < s.size
  · have hb : decide ((1048576 : Int) < s.size) = true := by simp; omega
    clear hbig
    go_enter Try.func5, Try.ntmps5
    go_wp2
    go_ret
    exact ⟨rfl, Below.refl _ _⟩
  · have hb : decide ((1048576 : Int) < s.size) = false := by simp; omega
    clear hbig
    have HI : Hid (∀ W, Calls Try.prog 13 #[.string s, .int .i64 z] W fun e w' => ∃ a c, e = .returned (.tuple #[.slice a (cutN s z) c, .bool (cutOk s z)]) ∧ Below W.heap.size W w' ∧ OwnV w' W.heap.size (.slice a (cutN s z) c) (cutN s z) (piece s z.toNat (ofN s.size z.toNat))) := fun W => implTapeCut_any s z W hsm hz
    have HS : Hid (∀ W, Calls Try.prog 12 #[.string s, .int .i64 z] W fun e w' => ∃ a c, e = .returned (.tuple #[.slice a (cutN s z) c, .bool (cutOk s z)]) ∧ Below W.heap.size W w' ∧ OwnV w' W.heap.size (.slice a (cutN s z) c) (cutN s z) (piece s z.toNat (ofN s.size z.toNat))) := fun W => specTapeCut_any s z W hsm hz
    generalize cutN s z = n at *
    generalize cutOk s z = ok at *
    generalize piece s z.toNat (ofN s.size z.toNat) = Z at *
    have hne : (ok != ok) = false := by simp
    clear hz
    go_enter Try.func5, Try.ntmps5
    go_wp2_with fail
    refine (HS.out w).mono ?_
    rintro e w1 ⟨a0, c0, rfl, hb1, ho1⟩
    have hvS : ∀ b, (Value.slice a0 n c0).ownBlock = some b → b < w1.heap.size := fun b hb => (vowns_block ho1 hb).2
    go_wp2_with fail
    refine (HI.out w1).mono ?_
    rintro e w2 ⟨ag, cg, rfl, hb2, ho2⟩
    have H2 : Hid (VF w w1.heap.size n c0 cg a0 ag Z Z w2) := ⟨hb1.trans (hb2.mono hb1.size), ho1.below hb2, ho2, hvS⟩
    have hw1 : w.heap.size ≤ w1.heap.size := hb1.size
    generalize w1.heap.size = S2 at *
    clear hb1 ho1 hb2 ho2 hvS
    go_wp2_with fail
    refine (eqVols2 H2.out.og H2.out.ov).mono ?_
    rintro e w3 ⟨hb3, rfl⟩
    have H3 : Hid _ := H2.out.below hb3
    clear H2 hb3
    go_wp2_with fail
    refine (markVolS_own ag n cg 1 S2 Z w3 H3.out.og (by omega) (by omega) (by omega)).mono ?_
    rintro e w4 ⟨rfl, ho4, hg4⟩
    have H4 : Hid _ := H3.out.mark hg4 ho4 hw1
    clear H3 ho4 hg4
    go_wp2_with fail
    refine (heldVolS_any ag n cg 1 w4 H4.out.og.isVos (by omega) (by omega) (by omega)).mono ?_
    rintro e w5 ⟨rfl, hb5⟩
    have H5 : Hid _ := H4.out.below hb5
    have hk5 : decide (((1 + 4 * n : Nat) : Int) < 0) = false := by simp; omega
    have hn5 : (((1 + 4 * n : Nat) : Int) != ((1 + 4 * n : Nat) : Int)) = false := by simp
    clear H4 hb5
    go_wp2_with fail
    refine (HI.out w5).mono ?_
    rintro e w6 ⟨ah, ch, rfl, hb6, ho6⟩
    have H6 : Hid _ := H5.out.below hb6
    clear H5 hb6
    go_wp2_with fail
    refine (eqVols2 ho6 H6.out.ov).mono ?_
    rintro e w7 ⟨hb7, rfl⟩
    have H7 : Hid _ := H6.out.below hb7
    clear H6 hb7 ho6
    go_wp2_with fail
    refine (heldVolS_any ag n cg 1 w7 H7.out.og.isVos (by omega) (by omega) (by omega)).mono ?_
    rintro e w8 ⟨rfl, hb8⟩
    have HB : Hid (Below w.heap.size w w8) := (H7.out.below hb8).bel
    clear H7 hb8
    go_wp2_with fail
    go_ret
    exact ⟨rfl, HB.out⟩
end Go.Proofs.Ytbhdfiliighfcaa
