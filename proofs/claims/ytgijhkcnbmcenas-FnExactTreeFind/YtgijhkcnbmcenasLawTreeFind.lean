/-
  FnExactTreeFind, walked: if TreeFind of the program answers as that of the specification, the law answers true.
-/
import Derived.Test.YtgijhkcnbmcenasImplTreeFind
import Derived.Test.YtgijhkcnbmcenasLawTreeSame
import Derived.Test.YtgijhkcnbmcenasStrs
namespace Go.Proofs.Ytgijhkcnbmcenas
open Go.RowKit
set_option linter.unusedVariables false

/-- What is known within the law. -/
structure OneT (w : World) (a : Option Addr) (n c : Nat) (now : Int) (W : World) : Prop where
  p : Blk W w.heap.size #[.slice a n c, .int .i64 now] 24
  bel : Below w.heap.size w W

theorem OneT.below {w : World} {a : Option Addr} {n c : Nat} {now : Int} {W W' : World} (h : OneT w a n c now W) (hb : Below W.heap.size W W') : OneT w a n c now W' :=
  ⟨h.p.below hb h.p.lt, h.bel.trans (hb.mono (by have := h.p.lt; omega))⟩
theorem OneT.drew {w : World} {a : Option Addr} {n c : Nat} {now : Int} {W : World} (h : OneT w a n c now W) (q : Nat) : OneT w a n c now (W.drewN q) := h.below (below_drewN (Below.refl _ _) q)
theorem OneT.cells {w : World} {a : Option Addr} {n c : Nat} {now : Int} {W : World} (h : OneT w a n c now W) : W.cell? ⟨w.heap.size, 0, none⟩ = some (.slice a n c) ∧ W.cell? ⟨w.heap.size, 1, none⟩ = some (.int .i64 now) := ⟨h.p.cell 0, h.p.cell 1⟩

theorem toTree_one {w : World} {a : Option Addr} {n c : Nat} {now : Int} {W : World} (h : OneT w a n c now W) (D : Nat → Nd) (L : Nat → Loc) (hS : IsNds w a n D L) (hk : n ≤ 1048576) (hsz : sizeTo D n ≤ 1048576) :
    Calls Try.prog 10 #[trV a n c now] W fun r w' => ∃ b, r = .returned (trV (some ⟨b, 0, none⟩) n n now) ∧ OneT w a n c now w' ∧ Nds w' b n D ∧ Below W.heap.size W w' :=
  (toTree_any a n c now D L W (hS.below (Nat.le_refl _) h.bel) hk (small_of_size hsz)).mono fun r w' ⟨b, hr, hb, _, L', hrow⟩ => ⟨b, hr, h.below hb, ⟨L', hrow.nds⟩, hb⟩

theorem toStrs_one {w : World} {a : Option Addr} {n c : Nat} {now : Int} {W : World} (h : OneT w a n c now W) (pa : Option Addr) (m pc : Nat) (S : Nat → ByteArray) (hP : IsStrs w pa m S) (hm : m ≤ 1048576) :
    Calls Try.prog 24 #[.slice pa m pc] W fun r w' => ∃ b, r = .returned (.slice (some ⟨b, 0, none⟩) m m) ∧ OneT w a n c now w' ∧ IsStrs w' (some ⟨b, 0, none⟩) m S ∧ Below W.heap.size W w' :=
  (toStringS_at pa m pc S W (hP.below (Nat.le_refl _) h.bel) hm).mono fun r w' ⟨b, hr, _, _, hb, hI⟩ => ⟨b, hr, h.below hb, hI, hb⟩

/-- What is known behind the program's call. -/
structure OneX (w : World) (a : Option Addr) (n c : Nat) (now : Int) (D : Nat → Nd) (m : Nat) (S : Nat → ByteArray) (b1 b2 bx : Nat) (W : World) : Prop where
  one : OneT w a n c now W
  x : Nds W b1 n D
  y : IsStrs W (some ⟨b2, 0, none⟩) m S
  bx : Blk W bx #[.slice (some ⟨b1, 0, none⟩) n n, .int .i64 now] 29

theorem OneX.below {w : World} {a : Option Addr} {n c : Nat} {now : Int} {D : Nat → Nd} {m : Nat} {S : Nat → ByteArray} {b1 b2 bx : Nat} {W W' : World} (h : OneX w a n c now D m S b1 b2 bx W) (hb : Below W.heap.size W W') : OneX w a n c now D m S b1 b2 bx W' :=
  ⟨h.one.below hb, h.x.below hb, h.y.below (Nat.le_refl _) hb, h.bx.below hb h.bx.lt⟩
theorem OneX.drew {w : World} {a : Option Addr} {n c : Nat} {now : Int} {D : Nat → Nd} {m : Nat} {S : Nat → ByteArray} {b1 b2 bx : Nat} {W : World} (h : OneX w a n c now D m S b1 b2 bx W) (q : Nat) : OneX w a n c now D m S b1 b2 bx (W.drewN q) := h.below (below_drewN (Below.refl _ _) q)
theorem OneX.cells {w : World} {a : Option Addr} {n c : Nat} {now : Int} {D : Nat → Nd} {m : Nat} {S : Nat → ByteArray} {b1 b2 bx : Nat} {W : World} (h : OneX w a n c now D m S b1 b2 bx W) : W.cell? ⟨bx, 0, none⟩ = some (.slice (some ⟨b1, 0, none⟩) n n) ∧ W.cell? ⟨bx, 1, none⟩ = some (.int .i64 now) := ⟨h.bx.cell 0, h.bx.cell 1⟩

set_option maxHeartbeats 4000000 in
theorem lawTreeFind (himpl : ImplTreeFind) (a : Option Addr) (n c : Nat) (now : Int) (D : Nat → Nd) (L : Nat → Loc) (pa : Option Addr) (m pc : Nat) (S : Nat → ByteArray) (w : World) (hS : IsNds w a n D L) (hP : IsStrs w pa m S) (hf : FitAll n D) (hn : n ≤ maxLen) (hnow : In64 now) (hm : m ≤ maxLen) (hsm : Small m S) :
    Calls Try.prog 7 #[trV a n c now, .slice pa m pc] w fun e w' => e = .returned (.bool true) ∧ Below w.heap.size w w' := by
  unfold trV
  go_enter Try.func7, Try.ntmps7
  go_wp2_with fail
  refine at_world (F := New1 w _ _) (new1 w _ _) ?_
  rintro W ⟨hp, hb, hs⟩
  have hN : OneT w a n c now W := ⟨hp, hb⟩
  clear hp hb hs
  refine (szTree_any a n c now D L _ W (hS.below (Nat.le_refl _) hN.bel) hf hn (by omega) (by omega)).mono ?_
  rintro e w1 ⟨hb1, r, rfl, hr1, hr2⟩
  have hN1 := hN.below hb1
  clear hb1 hN
  by_cases hr3 : r < 0
  · have hr3' : decide (r < 0) = true := by simp; omega
    have HB : Hid (Below w.heap.size w w1) := hN1.bel
    clear hN1 hr2
    go_wp2
    go_ret
    exact ⟨rfl, HB.out⟩
  · have hr3' : decide (r < 0) = false := by simp; omega
    have hsz1 := hr2 (by omega)
    have HB : Hid (OneT w a n c now w1) := hN1
    clear hN1 hr2
    go_wp2_with fail
    refine (szStringS_any pa m pc S _ w1 (hP.below (Nat.le_refl _) HB.out.bel) hsm hm (by omega) (by omega)).mono ?_
    rintro e w2 ⟨rfl, r', rfl, hr1', hr2'⟩
    by_cases hr4 : r' < 0
    · have hr4' : decide (r' < 0) = true := by simp; omega
      clear hr2'
      go_wp2
      go_ret
      exact ⟨rfl, HB.out.bel⟩
    · have hr4' : decide (r' < 0) = false := by simp; omega
      have hsz2 := hr2' (by omega)
      have HS : Hid (n ≤ 1048576 ∧ sizeTo D n ≤ 1048576 ∧ m ≤ 1048576) := ⟨by omega, by omega, by omega⟩
      obtain ⟨u0, u1⟩ := HB.out.cells
      clear hr2' hsz1 hsz2
      have HTA : Hid (∀ W, OneT w a n c now W → Calls Try.prog 10 #[trV a n c now] W fun r w' => ∃ b, r = .returned (trV (some ⟨b, 0, none⟩) n n now) ∧ OneT w a n c now w' ∧ Nds w' b n D ∧ Below W.heap.size W w') := fun W h => toTree_one h D L hS HS.out.1 HS.out.2.1
      have HTB : Hid (∀ W, OneT w a n c now W → Calls Try.prog 24 #[.slice pa m pc] W fun r w' => ∃ b, r = .returned (.slice (some ⟨b, 0, none⟩) m m) ∧ OneT w a n c now w' ∧ IsStrs w' (some ⟨b, 0, none⟩) m S ∧ Below W.heap.size W w') := fun W h => toStrs_one h pa m pc S hP HS.out.2.2
      go_wp2_with fail
      refine (HTA.out w1 HB.out).mono ?_
      rintro e wA ⟨bA, rfl, hNA, hIA, hbA⟩
      unfold trV
      clear u0 u1
      go_wp2_with fail
      refine (HTB.out wA hNA).mono ?_
      rintro e wB ⟨bB, rfl, hNB, hIB, hbB⟩
      go_wp2_with fail
      obtain ⟨LA, hLA⟩ := hIA.below hbB
      refine (specTreeFind_any _ n n now D LA _ m m S wB hLA hIB hf hn HS.out.2.1 hm hsm).mono ?_
      rintro e W ⟨hbC, r0, rfl, hfa⟩
      have HF : Hid (OneT w a n c now W) := hNB.below hbC
      have HFA : Hid (FindAre n D now m S r0) := hfa
      clear HB hNA hIA hbA hNB hIB hbB hLA hbC hfa
      obtain ⟨A0, A1⟩ := HF.out.cells
      go_wp2_with fail
      refine (HTA.out W HF.out).mono ?_
      rintro e w3 ⟨b1, rfl, hN3, hI3, hb3⟩
      unfold trV
      have hl3' : w.heap.size < w3.heap.size := hN3.p.lt
      obtain ⟨A0, A1⟩ := hN3.cells
      have HF3 : Hid (OneT w a n c now w3 ∧ Nds w3 b1 n D) := ⟨hN3, hI3⟩
      clear hN3 hI3 hb3 HF
      go_wp2_with fail
      refine at_world (F := New1 w3 _ _) (new1 w3 _ _) ?_
      rintro W4 ⟨hx, hb4, hs4⟩
      refine (HTB.out W4 (HF3.out.1.below hb4)).mono ?_
      rintro e w5 ⟨b2, rfl, hN5, hI5, hb5⟩
      have hx5 := hx.below hb5 (by omega)
      have HF5 : Hid (OneX w a n c now D m S b1 b2 w3.heap.size w5) := ⟨hN5, (HF3.out.2.below hb4).below hb5, hI5, hx5⟩
      clear hN5 hI5 hb5 HF3 hx hb4 hs4 hx5 A0 A1
      obtain ⟨x0, x1⟩ := HF5.out.cells
      obtain ⟨A0, A1⟩ := HF5.out.one.cells
      go_wp2_with fail
      obtain ⟨L1, hL1⟩ := HF5.out.x
      refine (himpl _ n n now D L1 _ m m S w5 hL1 HF5.out.y hf hn HS.out.2.1 hnow hm hsm).mono ?_
      rintro e w7 ⟨hb7, r1, rfl, hfa⟩
      have hre : r1 = r0 := hfa.one HFA.out
      subst hre
      have hne : (r1 != r1) = false := by simp
      have HF7 : Hid (OneX w a n c now D m S b1 b2 w3.heap.size w7) := HF5.out.below hb7
      clear hb7 HF5 x0 x1 hL1 hfa HFA A0 A1
      obtain ⟨A0, A1⟩ := HF7.out.one.cells
      obtain ⟨x0, x1⟩ := HF7.out.cells
      go_wp2_with fail
      apply wp_cut1 (X := Nat) (fun bA W => OneX w a n c now D m S b1 b2 w3.heap.size W)
      · intro key
        have KEY : Hid _ := key
        clear key
        go_region_with (first
          | (go_at_call 10
             refine (HTA.out (w7.drewN 1) (HF7.out.one.drew 1)).mono ?_
             rintro e wA ⟨bA, rfl, hNA, hIA, hbA⟩
             unfold trV
             have hXA := (HF7.out.drew 1).below hbA
             obtain ⟨X0, X1⟩ := hXA.cells)
          | (go_at_call 12
             obtain ⟨LA, hLA⟩ := hXA.x
             obtain ⟨LB, hLB⟩ := hIA
             refine (eqTree_any _ _ n n n n now now D D LA LB wA hLA hLB hf hf hn hn).mono ?_
             rintro e wC ⟨hbC, rfl⟩
             rw [treeSame_self]))
        all_goals exact KEY.out bA wC (hXA.below hbC)
      · intro bA W8 hF
        have HF : Hid (OneX w a n c now D m S b1 b2 w3.heap.size W8) := hF
        clear hF HF7 A0 A1 x0 x1
        go_wp2_with fail
        refine (HTB.out W8 HF.out.one).mono ?_
        rintro e wB2 ⟨bB2, rfl, hNB2, hIB2, hbB2⟩
        go_wp2_with fail
        refine (eqStringS_any _ _ m m m m S S wB2 (HF.out.y.below (Nat.le_refl _) hbB2) hIB2 hm hm).mono ?_
        rintro e wD ⟨⟨q, rfl⟩, rfl⟩
        have heq : (decide (m = m) && eqS m S S) = true := by rw [eqS_self m S S (fun _ _ => rfl)]; simp
        rw [heq]
        have HE : Hid (Below w.heap.size w wB2) := hNB2.bel
        clear hNB2 hIB2 hbB2 HF heq
        go_wp2
        go_ret
        exact ⟨rfl, below_drewN HE.out _⟩
end Go.Proofs.Ytgijhkcnbmcenas
