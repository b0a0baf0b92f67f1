/-
  FnExactTreeSame, walked: if TreeSame of the program answers as that of the specification, the law answers true.
-/
import Derived.Test.YtgijhkcnbmcenasSpecTreeSame
import Derived.Test.YtgijhkcnbmcenasTreeSmall
import Derived.Test.YtgijhkcnbmcenasCut2
import Derived.Deep.RegionWith
import Derived.BigRegion
namespace Go.Proofs.Ytgijhkcnbmcenas
open Go.RowKit
set_option linter.unusedVariables false

/-- What TreeSame of the program has to keep. -/
def ImplTreeSame : Prop := ∀ (a a' : Option Addr) (n c m c' : Nat) (now now' : Int) (D E : Nat → Nd) (L M : Nat → Loc) (w : World), IsNds w a n D L → IsNds w a' m E M → FitAll n D → FitAll m E → n ≤ maxLen → m ≤ maxLen →
    Calls Try.prog 19 #[trV a n c now, trV a' m c' now'] w fun e w' => Below w.heap.size w w' ∧ e = .returned (.bool (treeSame n m D E now now'))

theorem treeSame_self (n : Nat) (D : Nat → Nd) (now : Int) : (decide (n = n) && sameAll n D D && (now == now)) = true := by rw [sameAll_self]; simp

theorem TSIn.drew {w : World} {a a' : Option Addr} {n c m c' : Nat} {now now' : Int} {t : TypeId} {W : World} (h : TSIn w a a' n c m c' now now' t W) (q : Nat) : TSIn w a a' n c m c' now now' t (W.drewN q) := h.below (below_drewN (Below.refl _ _) q)

theorem TSIn.cells {w : World} {a a' : Option Addr} {n c m c' : Nat} {now now' : Int} {t : TypeId} {W : World} (h : TSIn w a a' n c m c' now now' t W) :
    W.cell? ⟨w.heap.size, 0, none⟩ = some (.slice a n c) ∧ W.cell? ⟨w.heap.size, 1, none⟩ = some (.int .i64 now) ∧ W.cell? ⟨w.heap.size + 1, 0, none⟩ = some (.slice a' m c') ∧ W.cell? ⟨w.heap.size + 1, 1, none⟩ = some (.int .i64 now') :=
  ⟨h.p.cell 0, h.p.cell 1, h.p'.cell 0, h.p'.cell 1⟩

/-- A list of places lies there. -/
def Nds (W : World) (b n : Nat) (D : Nat → Nd) : Prop := ∃ L, IsNds W (some ⟨b, 0, none⟩) n D L

theorem Nds.below {W W' : World} {b n : Nat} {D : Nat → Nd} (h : Nds W b n D) (hb : Below W.heap.size W W') : Nds W' b n D := let ⟨L, hL⟩ := h; ⟨L, hL.below (Nat.le_refl _) hb⟩

/-- What is known behind the program's call. -/
structure TwoT (w : World) (a a' : Option Addr) (n c m c' : Nat) (now now' : Int) (D E : Nat → Nd) (b1 b2 bx bY : Nat) (W : World) : Prop where
  two : TSIn w a a' n c m c' now now' 24 W
  x : Nds W b1 n D
  y : Nds W b2 m E
  bx : Blk W bx #[.slice (some ⟨b1, 0, none⟩) n n, .int .i64 now] 29
  bY : Blk W bY #[.slice (some ⟨b2, 0, none⟩) m m, .int .i64 now'] 29

theorem TwoT.below {w : World} {a a' : Option Addr} {n c m c' : Nat} {now now' : Int} {D E : Nat → Nd} {b1 b2 bx bY : Nat} {W W' : World} (h : TwoT w a a' n c m c' now now' D E b1 b2 bx bY W) (hb : Below W.heap.size W W') : TwoT w a a' n c m c' now now' D E b1 b2 bx bY W' :=
  ⟨h.two.below hb, h.x.below hb, h.y.below hb, h.bx.below hb h.bx.lt, h.bY.below hb h.bY.lt⟩

theorem TwoT.drew {w : World} {a a' : Option Addr} {n c m c' : Nat} {now now' : Int} {D E : Nat → Nd} {b1 b2 bx bY : Nat} {W : World} (h : TwoT w a a' n c m c' now now' D E b1 b2 bx bY W) (q : Nat) : TwoT w a a' n c m c' now now' D E b1 b2 bx bY (W.drewN q) := h.below (below_drewN (Below.refl _ _) q)

theorem TwoT.cells {w : World} {a a' : Option Addr} {n c m c' : Nat} {now now' : Int} {D E : Nat → Nd} {b1 b2 bx bY : Nat} {W : World} (h : TwoT w a a' n c m c' now now' D E b1 b2 bx bY W) :
    W.cell? ⟨bx, 0, none⟩ = some (.slice (some ⟨b1, 0, none⟩) n n) ∧ W.cell? ⟨bx, 1, none⟩ = some (.int .i64 now) ∧ W.cell? ⟨bY, 0, none⟩ = some (.slice (some ⟨b2, 0, none⟩) m m) ∧ W.cell? ⟨bY, 1, none⟩ = some (.int .i64 now') :=
  ⟨h.bx.cell 0, h.bx.cell 1, h.bY.cell 0, h.bY.cell 1⟩

/-- A copy of one of the two, taken within the law. -/
theorem toTree_in {w : World} {a a' : Option Addr} {n c m c' : Nat} {now now' : Int} {W : World} (h : TSIn w a a' n c m c' now now' 24 W) (e : Option Addr) (k ck : Nat) (z : Int) (F : Nat → Nd) (O : Nat → Loc) (hS : IsNds w e k F O) (hk : k ≤ 1048576) (hsz : sizeTo F k ≤ 1048576) :
    Calls Try.prog 10 #[trV e k ck z] W fun r w' => ∃ b, r = .returned (trV (some ⟨b, 0, none⟩) k k z) ∧ TSIn w a a' n c m c' now now' 24 w' ∧ Nds w' b k F ∧ Below W.heap.size W w' :=
  (toTree_any e k ck z F O W (hS.below (Nat.le_refl _) h.bel) hk (small_of_size hsz)).mono fun r w' ⟨b, hr, hb, _, L', hrow⟩ => ⟨b, hr, h.below hb, ⟨L', hrow.nds⟩, hb⟩

set_option maxHeartbeats 4000000 in
theorem lawTreeSame (himpl : ImplTreeSame) (a a' : Option Addr) (n c m c' : Nat) (now now' : Int) (D E : Nat → Nd) (L M : Nat → Loc) (w : World) (hS : IsNds w a n D L) (hT : IsNds w a' m E M) (hf : FitAll n D) (hf' : FitAll m E) (hn : n ≤ maxLen) (hm : m ≤ maxLen) :
    Calls Try.prog 5 #[trV a n c now, trV a' m c' now'] w fun e w' => e = .returned (.bool true) ∧ Below w.heap.size w w' := by
  unfold trV
  go_enter Try.func5, Try.ntmps5
  go_wp2_with fail
  refine at_world (F := New2 w _ _ _ _) (new2 w _ _ _ _) ?_
  rintro W ⟨hp, hp', hb, hs⟩
  have hN : TSIn w a a' n c m c' now now' 24 W := ⟨hp, hp', hb⟩
  clear hp hp' hb hs
  refine (szTree_any a n c now D L _ W (hS.below (Nat.le_refl _) hN.bel) hf hn (by omega) (by omega)).mono ?_
  rintro e w1 ⟨hb1, r, rfl, hr1, hr2⟩
  have hN1 := hN.below hb1
  clear hb1 hN
  by_cases hr3 : r < 0
  · have hr3' : decide (r < 0) = true := by simp; omega
    have HB : Hid (Below w.heap.size w w1) := hN1.bel
    clear hN1 hr2
    go_wp2
    go_ret
    exact ⟨rfl, HB.out⟩
  · have hr3' : decide (r < 0) = false := by simp; omega
    have hsz1 := hr2 (by omega)
    obtain ⟨u0, u1, s0, s1⟩ := hN1.cells
    have HB : Hid (TSIn w a a' n c m c' now now' 24 w1) := hN1
    clear hN1 hr2
    go_wp2_with fail
    refine (szTree_any a' m c' now' E M _ w1 (hT.below (Nat.le_refl _) HB.out.bel) hf' hm (by omega) (by omega)).mono ?_
    rintro e w2 ⟨hb2, r', rfl, hr1', hr2'⟩
    have hN2 := HB.out.below hb2
    clear hb2 HB s0 s1 u0 u1
    by_cases hr4 : r' < 0
    · have hr4' : decide (r' < 0) = true := by simp; omega
      have HB : Hid (Below w.heap.size w w2) := hN2.bel
      clear hN2 hr2'
      go_wp2
      go_ret
      exact ⟨rfl, HB.out⟩
    · have hr4' : decide (r' < 0) = false := by simp; omega
      have hsz2 := hr2' (by omega)
      have HS : Hid (n ≤ 1048576 ∧ sizeTo D n ≤ 1048576 ∧ m ≤ 1048576 ∧ sizeTo E m ≤ 1048576) := ⟨by omega, by omega, by omega, by omega⟩
      obtain ⟨u0, u1, s0, s1⟩ := hN2.cells
      have HB : Hid (TSIn w a a' n c m c' now now' 24 w2) := hN2
      clear hN2 hr2' hsz1 hsz2
      have HTA : Hid (∀ W, TSIn w a a' n c m c' now now' 24 W → Calls Try.prog 10 #[trV a n c now] W fun r w' => ∃ b, r = .returned (trV (some ⟨b, 0, none⟩) n n now) ∧ TSIn w a a' n c m c' now now' 24 w' ∧ Nds w' b n D ∧ Below W.heap.size W w') := fun W h => toTree_in h a n c now D L hS HS.out.1 HS.out.2.1
      have HTB : Hid (∀ W, TSIn w a a' n c m c' now now' 24 W → Calls Try.prog 10 #[trV a' m c' now'] W fun r w' => ∃ b, r = .returned (trV (some ⟨b, 0, none⟩) m m now') ∧ TSIn w a a' n c m c' now now' 24 w' ∧ Nds w' b m E ∧ Below W.heap.size W w') := fun W h => toTree_in h a' m c' now' E M hT HS.out.2.2.1 HS.out.2.2.2
      go_wp2_with fail
      apply wp_cut2 (X := Nat) (Y := Nat) (fun bA bB W => TSIn w a a' n c m c' now now' 24 W)
      · intro key
        have KEY : Hid _ := key
        clear key
        go_region_with (first
          | (go_at_call 10
             first
             | (refine (HTB.out wA hNA).mono ?_
                rintro e wB ⟨bB, rfl, hNB, hIB, hbB⟩
                unfold trV
                obtain ⟨B0, B1, B2, B3⟩ := hNB.cells)
             | (refine (HTA.out (w2.drewN 1) (HB.out.drew 1)).mono ?_
                rintro e wA ⟨bA, rfl, hNA, hIA, hbA⟩
                unfold trV
                obtain ⟨A0, A1, A2, A3⟩ := hNA.cells))
          | (go_at_call 18
             obtain ⟨LA, hLA⟩ := hIA.below hbB
             obtain ⟨LB, hLB⟩ := hIB
             refine (specTreeSame_any _ _ n n m m now now' D E LA LB wB hLA hLB hf hf' hn hm).mono ?_
             rintro e wC ⟨hbC, rfl⟩))
        all_goals exact KEY.out bA bB wC (hNB.below hbC)
      · intro bA bB W hF
        obtain ⟨A0, A1, A2, A3⟩ := hF.cells
        have HF : Hid (TSIn w a a' n c m c' now now' 24 W) := hF
        clear hF u0 u1 s0 s1 HB
        go_wp2_with fail
        refine (HTA.out W HF.out).mono ?_
        rintro e w3 ⟨b1, rfl, hN3, hI3, hb3⟩
        unfold trV
        have hl3 := hN3.p'.lt
        have hl3' : w.heap.size < w3.heap.size := by omega
        obtain ⟨A0, A1, A2, A3⟩ := hN3.cells
        have HF3 : Hid (TSIn w a a' n c m c' now now' 24 w3 ∧ Nds w3 b1 n D) := ⟨hN3, hI3⟩
        clear hN3 hI3 hb3 HF
        go_wp2_with fail
        refine at_world (F := New1 w3 _ _) (new1 w3 _ _) ?_
        rintro W4 ⟨hx, hb4, hs4⟩
        refine (HTB.out W4 (HF3.out.1.below hb4)).mono ?_
        rintro e w5 ⟨b2, rfl, hN5, hI5, hb5⟩
        unfold trV
        have hx5 := hx.below hb5 (by omega)
        have hl5 : w3.heap.size < w5.heap.size := hx5.lt
        have x0 : w5.cell? ⟨w3.heap.size, 0, none⟩ = some (.slice (some ⟨b1, 0, none⟩) n n) := hx5.cell 0
        have x1 : w5.cell? ⟨w3.heap.size, 1, none⟩ = some (.int .i64 now) := hx5.cell 1
        have HF5 : Hid (TSIn w a a' n c m c' now now' 24 w5 ∧ Nds w5 b1 n D ∧ Nds w5 b2 m E ∧ Blk w5 w3.heap.size _ _) := ⟨hN5, (HF3.out.2.below hb4).below hb5, hI5, hx5⟩
        clear hN5 hI5 hb5 HF3 hx hb4 hs4 hx5 A0 A1 A2 A3
        go_wp2_with fail
        refine at_world (F := New1 w5 _ _) (new1 w5 _ _) ?_
        rintro W6 ⟨hy, hb6, hs6⟩
        obtain ⟨L1, hL1⟩ := HF5.out.2.1.below hb6
        obtain ⟨L2, hL2⟩ := HF5.out.2.2.1.below hb6
        refine (himpl _ _ n n m m now now' D E L1 L2 W6 hL1 hL2 hf hf' hn hm).mono ?_
        rintro e w7 ⟨hb7, rfl⟩
        have hne : (treeSame n m D E now now' != treeSame n m D E now now') = false := by simp
        have hb57 : Below w5.heap.size w5 w7 := hb6.trans (hb7.mono (by omega))
        have hy7 := hy.below hb7 (by omega)
        have HF7 : Hid (TwoT w a a' n c m c' now now' D E b1 b2 w3.heap.size w5.heap.size w7) := ⟨HF5.out.1.below hb57, HF5.out.2.1.below hb57, HF5.out.2.2.1.below hb57, HF5.out.2.2.2.below hb57 hl5, hy7⟩
        clear hy hb6 hs6 hb7 hb57 hy7 HF5 x0 x1 hL1 hL2
        obtain ⟨A0, A1, A2, A3⟩ := HF7.out.two.cells
        obtain ⟨x0, x1, y0, y1⟩ := HF7.out.cells
        go_wp2_with fail
        apply wp_cut1 (X := Nat) (fun bA W => TwoT w a a' n c m c' now now' D E b1 b2 w3.heap.size w5.heap.size W)
        · intro key
          have KEY : Hid _ := key
          clear key
          go_region_with (first
            | (go_at_call 10
               refine (HTA.out (w7.drewN 1) (HF7.out.two.drew 1)).mono ?_
               rintro e wA ⟨bA, rfl, hNA, hIA, hbA⟩
               unfold trV
               have hXA := (HF7.out.drew 1).below hbA
               obtain ⟨X0, X1, Y0, Y1⟩ := hXA.cells)
            | (go_at_call 12
               obtain ⟨LA, hLA⟩ := hXA.x
               obtain ⟨LB, hLB⟩ := hIA
               refine (eqTree_any _ _ n n n n now now D D LA LB wA hLA hLB hf hf hn hn).mono ?_
               rintro e wC ⟨hbC, rfl⟩
               rw [treeSame_self]))
          all_goals exact KEY.out bA wC (hXA.below hbC)
        · intro bA W8 hF
          obtain ⟨A0, A1, A2, A3⟩ := hF.two.cells
          obtain ⟨x0, x1, y0, y1⟩ := hF.cells
          have HF : Hid (TwoT w a a' n c m c' now now' D E b1 b2 w3.heap.size w5.heap.size W8) := hF
          clear hF HF7
          go_wp2_with fail
          apply wp_cut1 (X := Nat) (fun bA W => Below w.heap.size w W)
          · intro key
            have KEY : Hid _ := key
            clear key
            go_region_with (first
              | (go_at_call 10
                 refine (HTB.out (W8.drewN 1) (HF.out.two.drew 1)).mono ?_
                 rintro e wB ⟨bB, rfl, hNB, hIB, hbB⟩
                 unfold trV
                 have hXB := (HF.out.drew 1).below hbB
                 obtain ⟨X0, X1, Y0, Y1⟩ := hXB.cells)
              | (go_at_call 12
                 obtain ⟨LA, hLA⟩ := hXB.y
                 obtain ⟨LB, hLB⟩ := hIB
                 refine (eqTree_any _ _ m m m m now' now' E E LA LB wB hLA hLB hf' hf' hm hm).mono ?_
                 rintro e wD ⟨hbD, rfl⟩
                 rw [treeSame_self]))
            all_goals exact KEY.out bB wD (hXB.below hbD).two.bel
          · intro bB W9 hF
            have HF9 : Hid (Below w.heap.size w W9) := hF
            clear hF HF
            go_wp2
            go_ret
            exact ⟨rfl, HF9.out⟩
end Go.Proofs.Ytgijhkcnbmcenas
