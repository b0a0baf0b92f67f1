/-
  For all that was kept, FnExactBookChain answers true: BookChain of the program answers as BookChain of the specification, its answer owns its memory, also behind another call, and what was kept reads afterwards as it read before. No condition.
-/
import Derived.Test.YtokalajliphcdaaExBookChainB2
import Derived.Test.YtokalajliphcdaaRows
import Derived.ProofKit
import Derived.OpenShut
import Derived.ShutString
import Derived.ChangeOld
import Derived.WalkSmall

/-
  FnExactBookChain, walked.
-/
namespace Go.Proofs.Ytokalajliphcdaa
open Go.RowKit Go.Deep
set_option linter.unusedVariables false

theorem natv_intv0 (l : List Nat) : natv l = intv0 l.length (fun i => ((l.getD i 0 : Nat) : Int)) := by
  apply List.ext_getElem
  · simp [natv, intv0]
  · intro i h1 h2
    have hi : i < l.length := by simpa [natv] using h1
    simp [natv, intv0, hi]

theorem own_ints {w : World} {B n c : Nat} {a : Option Addr} {Z : Nat → Int} (h : w.ownsRow B 3 1 (.slice a n c) n (intv0 n Z)) : IsInts w a n Z ∧ n ≤ maxLen := by
  rcases h.2 with ⟨h0, hz⟩ | ⟨g, cap, cur, hv, hB, hg, hn, hm, hsz, htake⟩
  · cases h0
    exact ⟨Or.inl rfl, by unfold maxLen; omega⟩
  · cases hv
    refine ⟨Or.inr ⟨g, 0, rfl, (Array.getElem?_eq_some_iff.1 hg).1, fun i hi => ?_⟩, by omega⟩
    have h2 : (intv0 n Z)[i]? = some (.int .i64 (Z i)) := by simp [intv0, hi]
    rw [← htake, Nat.mul_one, List.getElem?_take_of_lt hi] at h2
    simp only [World.cell?, hg]
    simpa using h2

/-- What is known within the law: the specification's list and the program's, each in memory of its own. -/
structure CF (w : World) (S1 S2 m c0 cg : Nat) (a0 ag : Option Addr) (Z Y : Nat → Int) (W : World) : Prop where
  bel : Below w.heap.size w W
  ov : W.ownsRow w.heap.size 3 1 (.slice a0 m c0) m (intv0 m Z)
  og : W.ownsRow S2 3 1 (.slice ag m cg) m (intv0 m Y)
  vS : ∀ b, (Value.slice a0 m c0).ownBlock = some b → b < S1
  hS : S1 ≤ S2

theorem CF.below {w : World} {S1 S2 m c0 cg : Nat} {a0 ag : Option Addr} {Z Y : Nat → Int} {W W' : World} (h : CF w S1 S2 m c0 cg a0 ag Z Y W) (hb : Below W.heap.size W W') : CF w S1 S2 m c0 cg a0 ag Z Y W' :=
  ⟨h.bel.trans (hb.mono h.bel.size), eowns_same h.ov (fun b e => hb.block b (eowns_block h.ov e).2), eowns_same h.og (fun b e => hb.block b (eowns_block h.og e).2), h.vS, h.hS⟩

theorem CF.drew {w : World} {S1 S2 m c0 cg : Nat} {a0 ag : Option Addr} {Z Y : Nat → Int} {W : World} (h : CF w S1 S2 m c0 cg a0 ag Z Y W) (q : Nat) : CF w S1 S2 m c0 cg a0 ag Z Y (W.drewN q) := h.below (below_drewN (Below.refl _ _) q)

theorem CF.fr {w : World} {S1 S2 m c0 cg xb H : Nat} {a0 ag : Option Addr} {Z Y : Nat → Int} {W W' : World} (h : CF w S1 S2 m c0 cg a0 ag Z Y W) (hf : Fr xb H W W') (hx : S1 ≤ xb) (hH : H ≤ S2) (hw : w.heap.size ≤ xb) : CF w S1 S2 m c0 cg a0 ag Z Y W' :=
  ⟨h.bel.trans (hf.bel.mono hw), eowns_same h.ov (fun b e => hf.bel.block b (by have := h.vS b e; omega)), eowns_same h.og (fun b e => hf.far b (by have := (eowns_block h.og e).1; omega) (eowns_block h.og e).2), h.vS, h.hS⟩

theorem CF.mark {w : World} {S1 S2 m c0 cg : Nat} {a0 ag : Option Addr} {Z Y Y' : Nat → Int} {W W' : World} (h : CF w S1 S2 m c0 cg a0 ag Z Y W) (hg : W.grownBy W' (Value.slice ag m cg).ownBlock) (ho : W'.ownsRow S2 3 1 (.slice ag m cg) m (intv0 m Y')) (hw : w.heap.size ≤ S2) : CF w S1 S2 m c0 cg a0 ag Z Y' W' :=
  ⟨h.bel.grown hg h.bel.size (fun b e => by have := (eowns_block h.og e).1; omega),
   eowns_same h.ov (fun b hb => hg.block b (eowns_block h.ov hb).2 (fun e => by have := h.vS b hb; have := (eowns_block h.og e.symm).1; have := h.hS; omega)), ho, h.vS, h.hS⟩

theorem eqInts2 {w : World} {B B' m c c' : Nat} {a a' : Option Addr} {Z : Nat → Int} (h : w.ownsRow B 3 1 (.slice a m c) m (intv0 m Z)) (h' : w.ownsRow B' 3 1 (.slice a' m c') m (intv0 m Z)) :
    Calls Try.prog 9 #[.slice a m c, .slice a' m c'] w fun e w' => (∃ q, w' = w.drewN q) ∧ e = .returned (.bool true) := by
  obtain ⟨hI, hm⟩ := own_ints h
  obtain ⟨hI', _⟩ := own_ints h'
  exact (eqIntS_any a a' m c m c' Z Z w hI hI' hm hm).mono fun e w' ⟨hb, he⟩ => ⟨hb, by rw [he]; congr 2; simp [eqZ]⟩

theorem ownN_ints {w : World} {B : Nat} {v : Value} {l : List Nat} (h : OwnN w B v l) : ∃ a c, v = .slice a l.length c ∧ w.ownsRow B 3 1 (.slice a l.length c) l.length (intv0 l.length (fun i => ((l.getD i 0 : Nat) : Int))) := by
  unfold OwnN at h
  rw [natv_intv0] at h
  rcases h.2 with ⟨h0, hz⟩ | ⟨g, cap, cur, h0, _⟩
  · exact ⟨none, 0, by rw [h0, hz], by rw [hz] at h ⊢; rwa [h0] at h⟩
  · exact ⟨_, _, h0, by rwa [h0] at h⟩

set_option maxHeartbeats 4000000 in
theorem lawBookChain (a : Option Addr) (n c : Nat) (V : Nat → Int) (D : Nat → Dp) (L : Nat → DLoc) (w : World) (hS : IsRecs w a n V D L) (hf : FitRecs n V D) (hn : n ≤ maxLen) :
    Calls Try.prog 4 #[.slice a n c] w fun e w' => e = .returned (.bool true) ∧ Below w.heap.size w w' := by
  go_enter Try.func4, Try.ntmps4
  go_wp2_with fail
  refine (szRecS_any a n c V D L _ w hS hf hn (by omega) (by omega)).mono ?_
  rintro e w1 ⟨hb1, r, rfl, hr1, hr2⟩
  by_cases hr3 : r < 0
  · have hr3' : decide (r < 0) = true := by simp; omega
    have HB : Hid (Below w.heap.size w w1) := hb1
    clear hr2 hb1
    go_wp2
    go_ret
    exact ⟨rfl, HB.out⟩
  · have hr3' : decide (r < 0) = false := by simp; omega
    have hsz : n + recsTo D n ≤ 1048576 := by have := hr2 (by omega); omega
    clear hr2
    have HT : Hid (∀ W, Below w.heap.size w W → Calls Try.prog 16 #[.slice a n c] W fun e w' => e = .returned (.slice (some ⟨W.heap.size, 0, none⟩) n n) ∧ Below W.heap.size W w' ∧ ∃ L' H, RecRow w' W.heap.size n n V D L' H) := fun W hW =>
      toRecS_own a n c V D L W (hS.below (Nat.le_refl _) hW) (by omega) (by omega)
    have HF : Hid (FitRecs n V D) := hf
    clear hf hS
    go_wp2_with fail
    refine (HT.out w1 hb1).mono ?_
    rintro e w2 ⟨rfl, hb2, L2, H2, hR2⟩
    go_wp2_with fail
    refine (specBookChain_any _ n n V D L2 w2 hR2.recs hn).mono ?_
    rintro e w3 ⟨g0, m, c0, rfl, hb3, ho3⟩
    have hB3 : Below w.heap.size w w3 := hb1.trans ((hb2.trans (hb3.mono hb2.size)).mono hb1.size)
    have hv3 : OwnN w3 w.heap.size (.slice (some ⟨g0, 0, none⟩) m c0) (chainOf n V) := ho3.lower (Nat.le_trans hb1.size hb2.size)
    obtain rfl : m = (chainOf n V).length := hv3.reads.2.1
    clear hb1 hb2 hR2 hb3 ho3
    go_wp2_with fail
    refine (HT.out w3 hB3).mono ?_
    rintro e w4 ⟨rfl, hb4, L4, H4, hR4⟩
    have hB4 : Below w.heap.size w w4 := hB3.trans (hb4.mono hB3.size)
    have hv4 := hv3.below hb4
    have hvS : ∀ b, (Value.slice (some ⟨g0, 0, none⟩) (chainOf n V).length c0).ownBlock = some b → b < w3.heap.size := fun b hb => (eowns_block hv3 hb).2
    have hxS : w3.heap.size < w4.heap.size := Nat.lt_of_lt_of_le hR4.low (Nat.le_trans (hR4.mono (Nat.zero_le _) (Nat.le_refl _)) hR4.top)
    have hH4 : H4 n ≤ w4.heap.size := hR4.top
    go_wp2_with fail
    refine (implBookChain_any _ n n V D L4 w4 hR4.recs hn).mono ?_
    rintro e w5 ⟨ag, mg, cg, rfl, hb5, ho5⟩
    obtain rfl : mg = (chainOf n V).length := ho5.reads.2.1
    have hv5 := hv4.below hb5
    unfold OwnN at hv5 ho5
    rw [natv_intv0] at hv5 ho5
    have hlen : (chainOf n V).length ≤ 20 := by
      unfold chainOf
      split
      · have := chain_len V n n; omega
      · simp
    have H5 : Hid (CF w w3.heap.size w4.heap.size (chainOf n V).length c0 cg (some ⟨g0, 0, none⟩) ag (fun i => (((chainOf n V).getD i 0 : Nat) : Int)) (fun i => (((chainOf n V).getD i 0 : Nat) : Int)) w5) :=
      ⟨hB4.trans (hb5.mono hB4.size), hv5, ho5, hvS, by omega⟩
    have HC : Hid (∀ W B v, OwnN W B v (chainOf n V) → ∃ a c, v = .slice a (chainOf n V).length c ∧ W.ownsRow B 3 1 (.slice a (chainOf n V).length c) (chainOf n V).length (intv0 (chainOf n V).length (fun i => (((chainOf n V).getD i 0 : Nat) : Int)))) := fun W B v h => ownN_ints h
    have HR5 : Hid (RecRow w5 w3.heap.size n n V D L4 H4) := hR4.below hb5
    have hw3 : w.heap.size ≤ w3.heap.size := hB3.size
    generalize (fun i => (((chainOf n V).getD i 0 : Nat) : Int)) = Z at *
    generalize (chainOf n V).length = m at *
    generalize w3.heap.size = S1 at *
    generalize w4.heap.size = S2 at *
    clear hB3 hv3 hb4 hR4 hB4 hv4 hvS hb5 ho5 hv5
    go_wp2_with fail
    refine (eqInts2 H5.out.og H5.out.ov).mono ?_
    rintro e w6 ⟨⟨q6, rfl⟩, rfl⟩
    have H6 : Hid _ := H5.out.drew q6
    have HR6 : Hid _ := HR5.out.below (below_drewN (Below.refl _ _) q6)
    clear H5 HR5
    go_wp2_with fail
    refine (HT.out _ H6.out.bel).mono ?_
    rintro e w7 ⟨rfl, hb7, L7, H7', hR7⟩
    have H7 : Hid _ := H6.out.below hb7
    have HR7 : Hid _ := HR6.out.below hb7
    clear H6 HR6 hb7
    go_wp2_with fail
    refine (eqRecS_any _ _ n n n n V V D D L4 L7 w7 HR7.out.recs hR7.recs HF.out HF.out hn hn).mono ?_
    rintro e w8 ⟨hb8, rfl⟩
    have hsame : (decide (n = n) && sameRecs n V V D D) = true := by rw [sameRecs_self]; simp
    rw [hsame]
    have H8 : Hid _ := H7.out.below hb8
    have HR8 : Hid _ := HR7.out.below hb8
    clear H7 HR7 hb8 hR7 hsame
    go_wp2_with fail
    refine (markRecS_own S1 n n 1 D L4 H4 w8 HR8.out.toMk (by omega) (by omega) (by omega) (by omega)).mono ?_
    rintro e w9 ⟨⟨k, rfl, hk1, hk2⟩, hf9⟩
    have hk9 : decide ((k : Int) < 0) = false := by simp
    have H9 : Hid _ := H8.out.fr hf9 (Nat.le_refl _) hH4 hw3
    clear H8 HR8 hf9
    go_wp2_with fail
    refine (eqInts2 H9.out.og H9.out.ov).mono ?_
    rintro e w10 ⟨⟨q10, rfl⟩, rfl⟩
    have H10 : Hid _ := H9.out.drew q10
    clear H9
    go_wp2_with fail
    refine (markIntS_own ag m cg 1 S2 Z _ H10.out.og (by omega) (by omega)).mono ?_
    rintro e w11 ⟨rfl, hg11, hgr11⟩
    have H11 : Hid _ := H10.out.mark hgr11 hg11 (by omega)
    clear H10 hg11 hgr11
    go_wp2_with fail
    refine (heldIntS_own ag m cg 1 w11 (own_ints H11.out.og).1 (by omega) (by omega)).mono ?_
    rintro e w12 ⟨rfl, rfl⟩
    have hk12 : decide (((1 + m : Nat) : Int) < 0) = false := by simp; omega
    have hn12 : (((1 + m : Nat) : Int) != ((1 + m : Nat) : Int)) = false := by simp
    go_wp2_with fail
    refine (HT.out w12 H11.out.bel).mono ?_
    rintro e w13 ⟨rfl, hb13, L13, H13', hR13⟩
    have H13 : Hid _ := H11.out.below hb13
    clear H11 hb13
    go_wp2_with fail
    refine (implBookChain_any _ n n V D L13 w13 hR13.recs hn).mono ?_
    rintro e w14 ⟨ah, mh, ch, rfl, hb14, ho14⟩
    have H14 : Hid _ := H13.out.below hb14
    obtain ⟨ah', ch', hv, ho14'⟩ := HC.out _ _ _ ho14
    cases hv
    clear H13 hb14 hR13 ho14
    go_wp2_with fail
    refine (eqInts2 ho14' H14.out.ov).mono ?_
    rintro e w15 ⟨⟨q15, rfl⟩, rfl⟩
    have H15 : Hid _ := H14.out.drew q15
    clear H14 ho14'
    go_wp2_with fail
    refine (heldIntS_own ag m cg 1 _ (own_ints H15.out.og).1 (by omega) (by omega)).mono ?_
    rintro e w16 ⟨rfl, rfl⟩
    have HB : Hid (Below w.heap.size w _) := H15.out.bel
    clear H15
    go_wp2_with fail
    go_ret
    exact ⟨rfl, HB.out⟩
end Go.Proofs.Ytokalajliphcdaa

/-
  FnExactBookChain as it is stated.
-/
namespace Go.Proofs.Ytokalajliphcdaa.fnExactBookChain
open Go.ChangeShapes Go.WideShapes Go.ChangeAt Go.RowKit Go.Joins
open Go.ChangeMaps (open_string)
set_option linter.unusedVariables false

set_option maxRecDepth 100000 in
theorem lifted (os : Os) (started : os.Started) (H : Type) (enc : TypeId × Value → H) :
    ReturnsInHanded {} Try.checked os 4 .any (Rows.fnExactBookChainSpec.pre6 enc Try.prog Try.f4 Rows.fnExactBookChainRow.domain false) (Rows.fnExactBookChainSpec.post enc Try.prog Try.f4 false true false false) := by
  refine returnsInHanded_of_change (C := Try.checked) own started (by kernel_rfl) Try.func4
    (ChangeSpec.witness6 (enc := enc) (C := Try.checked) false ⟨#[], #[.slice none 0 0], []⟩ 8 (by kernel_rfl) (by kernel_rfl) (by kernel_rfl) (by kernel_rfl)) ?_
  intro W base args ds gs before hval0 hW hcnd _
  have hval : ∀ (j : Nat) t v, Try.f4.params[j]? = some t → args[j]? = some v → Value.okWide Try.prog W .any base t v := hval0
  have hW' := hW
  obtain ⟨p, q, hA0, hV, rfl, hfz, hnd⟩ := hW
  have hA : DataW.TrodAll enc Try.prog W 0 (fun _ => true) true Try.f4.params.toList args.toList ds p := hA0
  rw [Try.params4] at hA hval
  obtain ⟨v0, vs0, d0, ds0, p0, q0, hargs, rfl, rfl, h0, r0⟩ := trodAll_cons hA
  obtain ⟨rfl, rfl, rfl⟩ := trodAll_nil r0
  obtain rfl : args = #[v0] := by cases args; simp_all
  obtain ⟨rfl, rfl⟩ := trodVars_none hV
  have k0 := h0
  have lt0 : ∀ x ∈ p0, x.block < W.heap.size := by obtain ⟨m, hm⟩ := k0; exact DataW.trod_lt m _ _ _ hm
  obtain ⟨a0, n0, c0, rfl⟩ := okWide_slice Try.underlying33 (hval 0 33 v0 rfl rfl)
  obtain ⟨V0, D0, L0, hS0, hf0, hn0⟩ := openRecs h0
  clear hA0 hval0
  refine (lawBookChain a0 n0 c0 V0 D0 L0 W hS0 hf0 hn0).mono fun e W' ⟨he, bel⟩ => ?_
  subst he
  exact ⟨_, rfl, _, _, _, [], _, [], hW', trodAll_mk1 (shut_bool Try.underlying4 _), (trodAll_cons_mk (Below.trod laidOut (by kernel_rfl) (of_decide_eq_true (by kernel_rfl)) k0 bel lt0) trodAll_mk0), rfl, bel.frame _, fun h => by cases h⟩

theorem over : Rows.fnExactBookChainRow.holds Try.pinned (OpenSpec.ofChange Rows.fnExactBookChainSpec) :=
  OpenClaim.holds_of_wide 4 Try.f4 rfl rfl rfl rfl rfl rfl rfl ⟨rfl, rfl, rfl, rfl, rfl⟩ rfl rfl rfl rfl rfl (by kernel_rfl) Try.func4 (by kernel_rfl)
    (of_decide_eq_true (by kernel_rfl)) (by unfold Func.isWrapper; first | (rw [if_pos (by decide +kernel)]; kernel_rfl) | (rw [if_neg (by decide +kernel)]; exact ⟨rfl, rfl⟩))
    (fun os started H enc _ => lifted os started H enc)
end Go.Proofs.Ytokalajliphcdaa.fnExactBookChain

/-
  For all that was kept, FnExactBookChain answers true: BookChain of the program answers as BookChain of the specification, its answer owns its memory, also behind another call, and what was kept reads afterwards as it read before. No condition.
-/
namespace Go.Proofs.Ytokalajliphcdaa
theorem fnExactBookChain_holds : Rows.FnExactBookChainSaid := fnExactBookChain.over
end Go.Proofs.Ytokalajliphcdaa
