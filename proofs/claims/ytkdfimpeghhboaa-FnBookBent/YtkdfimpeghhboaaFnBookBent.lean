/-
  For every code, FnBookBent answers true: a drawn book is none with a level twice, a level that is none, or a turn that is none at its end, and is one without any one of its entries; and the code reads afterwards as it read before. No condition.
-/
import Derived.Test.YtkdfimpeghhboaaOpenCode
import Derived.Test.YtkdfimpeghhboaaDrawBook
import Derived.Test.YtkdfimpeghhboaaBentBook
import Derived.Test.YtkdfimpeghhboaaEntApp
import Derived.Test.YtkdfimpeghhboaaCut4
namespace Go.Proofs.Ytkdfimpeghhboaa.fnBookBent
open Go.ChangeShapes Go.WideShapes Go.ChangeAt Go.RowKit
set_option linter.unusedVariables false

theorem own_cap {w : World} {B n c : Nat} {a : Option Addr} {l : List En} (h : OwnE w B (.slice a n c) l) : n ≤ c ∧ c ≤ maxLen := by
  rcases h.2 with ⟨h0, _⟩ | ⟨g, cap, cur, hv, hB, hg, hn, hm, _⟩
  · cases h0; exact ⟨Nat.le_refl _, by unfold maxLen; omega⟩
  · cases hv
    obtain ⟨_, hm', _⟩ := h.isEns
    exact ⟨by omega, hm⟩

theorem rgB_out {wr W : World} {v : Value} {L : List En} (h : RgB wr W v L) : ∃ (a : Option Addr) (c n : Nat) (F : Nat → En), v = .slice a n c ∧ IsEns W a n F ∧ n ≤ maxLen ∧ bookTo F n = bookTo (fun q => L.getD q default) L.length := by
  obtain ⟨a, c, hv, hI, hm⟩ := h.own.ens
  exact ⟨a, c, L.length, _, hv, hI, hm, rfl⟩

set_option maxHeartbeats 4000000 in
theorem walk (a : Option Addr) (len cap : Nat) (zs : Nat → Int) (w : World) (hc : IsCode w a len zs) (hlen : len ≤ maxLen) (hcap : len ≤ cap) :
    Calls Try.prog 7 #[.slice a len cap] w fun e w' => e = .returned (.bool true) ∧ Below w.heap.size w w' := by
  have l1 := hlen
  unfold maxLen at l1
  by_cases hbig : (1048576 : Int) < len
  · go_enter Try.func7, Try.ntmps7
    go_wp2
    go_ret
    exact ⟨rfl, Below.refl _ _⟩
  · have hb1 : decide ((1048576 : Int) < len) = false := by simp; omega
    go_enter Try.func7, Try.ntmps7
    go_wp2_with fail
    refine (drawBookOk_any w a len cap zs hc hlen hcap).mono ?_
    rintro e w1 ⟨v, rfl, hO1⟩
    obtain ⟨n, al, cl, E, rfl, hl, ho1, hB1⟩ := hO1.lies
    have hI1 := ho1.reads
    have hm : n ≤ maxLen := by unfold maxLen; omega
    have hcp := own_cap ho1
    have HB1 : Hid (Below w.heap.size w w1) := hB1
    have hge1 : w.heap.size ≤ w1.heap.size := hB1.size
    clear hB1 hO1 ho1 hc
    have hfe : (bookTo E n != bookTo E n) = false := by simp
    go_wp2_with fail
    refine (implBookOk_any al n cl E w1 hI1 hm).mono ?_
    rintro e w2 ⟨hb2, rfl⟩
    have hI2 := hI1.below (Nat.le_refl _) hb2
    have HB2 : Hid (Below w.heap.size w w2) := HB1.out.trans (hb2.mono hge1)
    clear hI1 hb2 HB1 hge1
    go_wp2_with fail
    refine (specBookOk_any al n cl E w2 hI2 hm).mono ?_
    rintro e w3 ⟨⟨q3, rfl⟩, rfl⟩
    have hI3 := hI2.below (Nat.le_refl _) (below_drewN (Below.refl _ _) q3)
    have HB3 : Hid (Below w.heap.size w (w2.drewN q3)) := below_drewN HB2.out q3
    clear hI2 HB2
    go_wp2_with fail
    refine (specBookOk_any al n cl E _ hI3 hm).mono ?_
    rintro e w4 ⟨⟨q4, rfl⟩, rfl⟩
    have hI := hI3.below (Nat.le_refl _) (below_drewN (Below.refl _ _) q4)
    have HB : Hid (Below w.heap.size w ((w2.drewN q3).drewN q4)) := below_drewN HB3.out q4
    clear hI3 HB3
    generalize (w2.drewN q3).drewN q4 = W at *
    by_cases hgo : bookTo E n = true ∧ n ≠ 0
    · obtain ⟨hbk, hn0⟩ := hgo
      obtain ⟨j, rfl⟩ : ∃ j, n = j + 1 := ⟨n - 1, by omega⟩
      rw [hbk]
      have HBK : Hid (bookTo E (j + 1) = true) := hbk
      clear hbk hn0 hfe
      obtain ⟨b, off, rfl, hlt2, hcc⟩ := hI.at (show j < j + 1 by omega)
      have hk0 : ((j : Int) + 1 == 0) = false := by simp; omega
      have ej : ((j : Int) + 1 - 1) = (j : Int) := by omega
      have HC : Hid _ := hcc
      obtain ⟨c0, c1⟩ := hcc j (by omega)
      clear hcc
      go_wp2_with fail
      have hj0 : (0 : Int) ≤ (j : Int) := by omega
      have hj1 : (j : Int) < ((j + 1 : Nat) : Int) := by omega
      have hj2 : (j : Int) < (j : Int) + 1 := by omega
      have hL1 : (enl (j + 1) E).length ≤ 1000 := by rw [enl_len]; omega
      have HP : Hid (∀ W', Below W.heap.size W W' → ∀ q u, (entv (enl (j + 1) E))[q]? = some u → W'.cell? ((⟨b, off, none⟩ : Addr).add q) = some u) := fun W' hb => by
        have h := pieceB (W := W') (fun i hi => ⟨(hb.cell (p := ⟨b, off + i * 2, none⟩) hlt2).trans (HC.out i hi).1, (hb.cell (p := ⟨b, off + i * 2 + 1, none⟩) hlt2).trans (HC.out i hi).2⟩) 0 (j + 1) (by omega)
        simpa using h
      apply wp_cut4 (X := Value) (Y := Value) (Z := Value) (U := Value) (fun q37 v39 q44 v45 W' => RgB W W' v45 (enl (j + 1) E ++ [(E j)]))
      · intro key
        have KEY : Hid _ := key
        clear key
        go_region_held3 (fun W' => W'.cell? ⟨b, off + j * 2, none⟩ = some (.int .i64 (E j).lev) ∧ W'.cell? ⟨b, off + j * 2 + 1, none⟩ = some (.int .i64 (E j).date)) (go_keep) (first
          | (refine appB (M := [(E j)]) (m := 1) (by rfl) _ _ (by rfl) (by first | exact hA5.alloc _ | exact hA5) rfl (by first | exact freshB _ (E j) | exact keptB (newB2 W (E j)) hg5 (by simp [Value.ownBlock]) | exact keptB (newB3 W (E j)) hg5 (by simp [Value.ownBlock])) (by rw [List.nil_append]; exact hL1) (by omega) (by rfl) (by rfl) ?_
             intro v6 w6 hA6 hg6
             have k1 : w6.cell? ⟨b, off + j * 2, none⟩ = some (.int .i64 (E j).lev) := (hA6.bel.cell (p := ⟨b, off + j * 2, none⟩) hlt2).trans c0
             have k2 : w6.cell? ⟨b, off + j * 2 + 1, none⟩ = some (.int .i64 (E j).date) := (hA6.bel.cell (p := ⟨b, off + j * 2 + 1, none⟩) hlt2).trans c1)
          | (refine appB (M := enl (j + 1) E) (by rfl) _ _ (by rfl) (by first | exact rgB1 W | exact rgB2 W (E j) | exact rgB3 W (E j)) (enl_len _ _) (HP.out _ (by first | exact (rgB1 W).bel | exact (rgB2 W (E j)).bel | exact (rgB3 W (E j)).bel)) (by simp) (by omega) (by rfl) (by rfl) ?_
             intro v5 w5 hA5 hg5
             have k3 : w5.cell? ⟨b, off + j * 2, none⟩ = some (.int .i64 (E j).lev) := (hA5.bel.cell (p := ⟨b, off + j * 2, none⟩) hlt2).trans c0
             have k4 : w5.cell? ⟨b, off + j * 2 + 1, none⟩ = some (.int .i64 (E j).date) := (hA5.bel.cell (p := ⟨b, off + j * 2 + 1, none⟩) hlt2).trans c1))
        all_goals first
          | (generalize hq37 : (Value.slice (some ⟨World.heap W |>.size, 0, none⟩) 0 0) = q37
             generalize hq44 : (Value.slice (some ⟨w5.heap.size, 0, none⟩) 1 1) = q44
             exact KEY.out q37 v5 q44 v6 w6 hA6)
          | exact KEY.out _ v5 _ v6 w6 hA6
      · intro q37 v39 q44 v45 W1 hR
        obtain ⟨a5, c5, rfl, hI5, hm5⟩ := hR.own.ens
        rw [List.length_append, enl_len] at hI5 hm5
        have e5 : (enl (j + 1) E ++ [E j]).length = j + 2 := by rw [List.length_append, enl_len]; rfl
        rw [e5]
        have hF5 : bookTo (fun i => (enl (j + 1) E ++ [E j]).getD i default) (j + 2) = false := bent_twice
        have hI5' : IsEns W1 a5 (j + 2) (fun i => (enl (j + 1) E ++ [E j]).getD i default) := by simpa using hI5
        have H1 : Hid (Below W.heap.size W W1 ∧ ∃ F5, IsEns W1 a5 (j + 2) F5 ∧ bookTo F5 (j + 2) = false) := ⟨hR.bel, _, hI5', hF5⟩
        have hlt21 : b < W1.heap.size := by have := hR.bel.size; omega
        have hcc1 : ∀ i, i < j + 1 → W1.cell? ⟨b, off + i * 2, none⟩ = some (.int .i64 (E i).lev) ∧ W1.cell? ⟨b, off + i * 2 + 1, none⟩ = some (.int .i64 (E i).date) := fun i hi => ⟨(hR.bel.cell (p := ⟨b, off + i * 2, none⟩) hlt2).trans (HC.out i hi).1, (hR.bel.cell (p := ⟨b, off + i * 2 + 1, none⟩) hlt2).trans (HC.out i hi).2⟩
        have HC1 : Hid _ := hcc1
        obtain ⟨d0, d1⟩ := hcc1 j (by omega)
        clear hcc1 hI5 hI5' hF5 hm5 hR e5 HP c0 c1
        have HP1 : Hid (∀ W', Below W1.heap.size W1 W' → ∀ q u, (entv (enl (j + 1) E))[q]? = some u → W'.cell? ((⟨b, off, none⟩ : Addr).add q) = some u) := fun W' hb => by
          have h := pieceB (W := W') (fun i hi => ⟨(hb.cell (p := ⟨b, off + i * 2, none⟩) hlt21).trans (HC1.out i hi).1, (hb.cell (p := ⟨b, off + i * 2 + 1, none⟩) hlt21).trans (HC1.out i hi).2⟩) 0 (j + 1) (by omega)
          simpa using h
        go_wp2_with fail
        apply wp_cut4 (X := Value) (Y := Value) (Z := Value) (U := Value) (fun q37 v39 q44 v45 W' => RgB W1 W' v45 (enl (j + 1) E ++ [⟨10, (E j).date⟩]))
        · intro key
          have KEY : Hid _ := key
          clear key
          go_region_held3 (fun W' => W'.cell? ⟨b, off + j * 2, none⟩ = some (.int .i64 (E j).lev) ∧ W'.cell? ⟨b, off + j * 2 + 1, none⟩ = some (.int .i64 (E j).date)) (go_keep) (first
            | (refine appB (M := [⟨10, (E j).date⟩]) (m := 1) (by rfl) _ _ (by rfl) (by first | exact hA5.alloc _ | exact hA5) rfl (by first | exact freshB _ ⟨10, (E j).date⟩ | exact keptB (newB2 W1 ⟨10, (E j).date⟩) hg5 (by simp [Value.ownBlock]) | exact keptB (newB3 W1 ⟨10, (E j).date⟩) hg5 (by simp [Value.ownBlock])) (by rw [List.nil_append]; exact hL1) (by omega) (by rfl) (by rfl) ?_
               intro v6 w6 hA6 hg6
               have k1 : w6.cell? ⟨b, off + j * 2, none⟩ = some (.int .i64 (E j).lev) := (hA6.bel.cell (p := ⟨b, off + j * 2, none⟩) hlt21).trans d0
               have k2 : w6.cell? ⟨b, off + j * 2 + 1, none⟩ = some (.int .i64 (E j).date) := (hA6.bel.cell (p := ⟨b, off + j * 2 + 1, none⟩) hlt21).trans d1)
            | (refine appB (M := enl (j + 1) E) (by rfl) _ _ (by rfl) (by first | exact rgB1 W1 | exact rgB2 W1 ⟨10, (E j).date⟩ | exact rgB3 W1 ⟨10, (E j).date⟩) (enl_len _ _) (HP1.out _ (by first | exact (rgB1 W1).bel | exact (rgB2 W1 ⟨10, (E j).date⟩).bel | exact (rgB3 W1 ⟨10, (E j).date⟩).bel)) (by simp) (by omega) (by rfl) (by rfl) ?_
               intro v5 w5 hA5 hg5
               have k3 : w5.cell? ⟨b, off + j * 2, none⟩ = some (.int .i64 (E j).lev) := (hA5.bel.cell (p := ⟨b, off + j * 2, none⟩) hlt21).trans d0
               have k4 : w5.cell? ⟨b, off + j * 2 + 1, none⟩ = some (.int .i64 (E j).date) := (hA5.bel.cell (p := ⟨b, off + j * 2 + 1, none⟩) hlt21).trans d1))
          all_goals first
            | (generalize hq37 : (Value.slice (some ⟨World.heap W1 |>.size, 0, none⟩) 0 0) = q37
               generalize hq44 : (Value.slice (some ⟨w5.heap.size, 0, none⟩) 1 1) = q44
               exact KEY.out q37 v5 q44 v6 w6 hA6)
            | exact KEY.out _ v5 _ v6 w6 hA6
        · intro q46 v48 q55 v56 W2 hR
          obtain ⟨a6, c6, rfl, hI6, hm6⟩ := hR.own.ens
          rw [List.length_append, enl_len] at hI6 hm6
          have e6 : (enl (j + 1) E ++ [(⟨10, (E j).date⟩ : En)]).length = j + 2 := by rw [List.length_append, enl_len]; rfl
          rw [e6]
          have hF6 : bookTo (fun i => (enl (j + 1) E ++ [(⟨10, (E j).date⟩ : En)]).getD i default) (j + 2) = false := bent_level
          have hI6' : IsEns W2 a6 (j + 2) (fun i => (enl (j + 1) E ++ [(⟨10, (E j).date⟩ : En)]).getD i default) := by simpa using hI6
          have hs2 := hR.bel.size
          have H2 : Hid (Below W.heap.size W W2 ∧ (∃ F5, IsEns W2 a5 (j + 2) F5 ∧ bookTo F5 (j + 2) = false) ∧ (∃ F6, IsEns W2 a6 (j + 2) F6 ∧ bookTo F6 (j + 2) = false)) := by
            obtain ⟨h1, F5, h5, g5⟩ := H1.out
            exact ⟨h1.trans (hR.bel.mono h1.size), ⟨F5, h5.below (Nat.le_refl _) hR.bel, g5⟩, _, hI6', hF6⟩
          have hcc2 : ∀ i, i < j + 1 → W2.cell? ⟨b, off + i * 2, none⟩ = some (.int .i64 (E i).lev) ∧ W2.cell? ⟨b, off + i * 2 + 1, none⟩ = some (.int .i64 (E i).date) := fun i hi => ⟨(hR.bel.cell (p := ⟨b, off + i * 2, none⟩) hlt21).trans (HC1.out i hi).1, (hR.bel.cell (p := ⟨b, off + i * 2 + 1, none⟩) hlt21).trans (HC1.out i hi).2⟩
          have hlt22 : b < W2.heap.size := by omega
          have HC2 : Hid _ := hcc2
          clear hcc2 hI6 hI6' hF6 hm6 hR e6 HP1 d0 d1 H1 HC1 hs2
          obtain ⟨i0, hi0, hz0, hz1, hz2⟩ := info_parts infoEnt
          have hpc : ∀ q u, (entv (enl (j + 1) E))[q]? = some u → (W2.alloc (.cells #[] 30)).cell? ((⟨b, off, none⟩ : Addr).add q) = some u := by
            have hb : Below W2.heap.size W2 (W2.alloc (.cells #[] 30)) := (Below.refl _ _).alloc (Nat.le_refl _) _
            have h := pieceB (W := W2.alloc (.cells #[] 30)) (fun i hi => ⟨(hb.cell (p := ⟨b, off + i * 2, none⟩) hlt22).trans (HC2.out i hi).1, (hb.cell (p := ⟨b, off + i * 2 + 1, none⟩) hlt22).trans (HC2.out i hi).2⟩) 0 (j + 1) (by omega)
            simpa using h
          have HPC : Hid _ := hpc
          clear hpc
          go_wp2_with (at_builtin; refine wpList_append_own _ rfl _ _ 23 rfl W2.heap.size 30 i0 (.agg #[.int .i64 0, .int .i64 0]) 2 16 Try.underlying23 hi0 hz0 hz1 hz2 rfl (by decide) _ _ _ rfl (OwnE.empty W2) ⟨b, off, none⟩ (j + 1) cl (entv (enl (j + 1) E)) rfl (by rw [entv_len, enl_len]) HPC.out (entv_one _) ?c3 ?c4 ?c5 ?_)
          case c3 => unfold maxLen; simp; omega
          case c4 => simp; omega
          case c5 => simp
          intro v7 W3 hown hgrow hnil
          obtain ⟨hO3, hB3, _⟩ := OwnE.app ((Below.refl W2.heap.size W2).alloc (Nat.le_refl _) _) (by simp) (OwnE.empty W2) (by rw [enl_len]; simp) hown hgrow
          rw [List.nil_append] at hO3
          have hr7 : W3.ownsRow W2.heap.size 30 2 v7 (j + 1) (entv (enl (j + 1) E)) := by
            unfold OwnE at hO3
            rw [enl_len] at hO3
            exact hO3
          obtain ⟨a7, c7, hv7, _, _⟩ := hO3.ens
          rw [enl_len] at hv7
          subst hv7
          obtain ⟨g, rfl, hgl⟩ := eowns_addr hr7 (by omega)
          have hgB : W2.heap.size ≤ g := (eowns_block hr7 rfl).1
          have hgc := hr7.cellAt (j * 2 + 1) (by omega)
          rw [entv_enl, if_pos (by omega), if_neg (by omega), show (j * 2 + 1) / 2 = j by omega] at hgc
          have hgf := hr7.frozenAt (j * 2 + 1)
          have hst := hr7.stored (j * 2 + 1) (.int .i64 0)
          rw [entv_set2] at hst
          have h4 : OwnE (W3.setCell ⟨g, j * 2 + 1, none⟩ (.int .i64 0)) W2.heap.size (.slice (some ⟨g, 0, none⟩) (j + 1) c7) (enl (j + 1) (fun i => if i = j then (⟨(E j).lev, 0⟩ : En) else E i)) := by
            unfold OwnE
            rw [enl_len]
            exact hst.1
          have hB4 : Below W2.heap.size W2 (W3.setCell ⟨g, j * 2 + 1, none⟩ (.int .i64 0)) := bel_put hB3 _ hgB
          have hI7 := h4.reads
          have H4 : Hid (Below W.heap.size W (W3.setCell ⟨g, j * 2 + 1, none⟩ (.int .i64 0)) ∧ (∃ F5, IsEns (W3.setCell ⟨g, j * 2 + 1, none⟩ (.int .i64 0)) a5 (j + 2) F5 ∧ bookTo F5 (j + 2) = false) ∧ (∃ F6, IsEns (W3.setCell ⟨g, j * 2 + 1, none⟩ (.int .i64 0)) a6 (j + 2) F6 ∧ bookTo F6 (j + 2) = false) ∧ (∃ F7, IsEns (W3.setCell ⟨g, j * 2 + 1, none⟩ (.int .i64 0)) (some ⟨g, 0, none⟩) (j + 1) F7 ∧ bookTo F7 (j + 1) = false) ∧ IsEns (W3.setCell ⟨g, j * 2 + 1, none⟩ (.int .i64 0)) (some ⟨b, off, none⟩) (j + 1) E) := by
            obtain ⟨h1, ⟨F5, h5, g5⟩, F6, h6, g6⟩ := H2.out
            exact ⟨h1.trans (hB4.mono h1.size), ⟨F5, h5.below (Nat.le_refl _) hB4, g5⟩, ⟨F6, h6.below (Nat.le_refl _) hB4, g6⟩, ⟨_, hI7, bent_turn⟩, IsEns.below (w := W2) (Or.inr ⟨b, off, rfl, hlt22, HC2.out⟩) (Nat.le_refl _) hB4⟩
          clear hown hgrow hnil hO3 hr7 hst h4 hI7 hB4 hB3 H2 HC2 HPC hlt2 hlt21 hlt22 hI HC
          go_wp2
          generalize W3.setCell ⟨g, j * 2 + 1, none⟩ (.int .i64 0) = W4 at *
          clear hgc hgf hgl hgB
          obtain ⟨hcp1, hcp2⟩ := hcp
          unfold maxLen at hcp2
          go_loopw [8] (fun i wr => ∃ k : Nat, k ≤ j + 1 ∧ i = .int .i64 k ∧ Below W4.heap.size W4 wr) (fun i _ => j + 1 - (intOf i).toNat)
          case atStart => exact ⟨0, Nat.zero_le _, rfl, Below.refl _ _⟩
          case round =>
            obtain ⟨k, hk, rfl, hbr⟩ := hrel
            have HBr : Hid (Below W4.heap.size W4 wr) := hbr
            by_cases hlt : k < j + 1
            · have hle : (k : Int) ≤ (j : Int) := by omega
              have hkc : (k : Int) ≤ (cl : Int) := by omega
              have hk0' : (0 : Int) ≤ (k : Int) := by omega
              have hk1 : (k : Int) + 1 ≤ (j : Int) + 1 := by omega
              have hIb := (H4.out.2.2.2.2).below (Nat.le_refl _) hbr
              obtain ⟨b', off', hbe, hltb, hcb⟩ := hIb.at hlt
              cases hbe
              have hP1 : Hid (∀ W', Below wr.heap.size wr W' → ∀ q u, (entv (enl k E))[q]? = some u → W'.cell? ((⟨b, off, none⟩ : Addr).add q) = some u) := fun W' hb => by
                have h := pieceB (W := W') (fun i hi => ⟨(hb.cell (p := ⟨b, off + i * 2, none⟩) hltb).trans (hcb i hi).1, (hb.cell (p := ⟨b, off + i * 2 + 1, none⟩) hltb).trans (hcb i hi).2⟩) 0 k (by omega)
                simpa using h
              have hP2 : Hid (∀ W', Below wr.heap.size wr W' → ∀ q u, (entv (enl (j - k) (fun i => E (k + 1 + i))))[q]? = some u → W'.cell? ((⟨b, off + (k + 1) * 2, none⟩ : Addr).add q) = some u) := fun W' hb =>
                pieceB (W := W') (fun i hi => ⟨(hb.cell (p := ⟨b, off + i * 2, none⟩) hltb).trans (hcb i hi).1, (hb.cell (p := ⟨b, off + i * 2 + 1, none⟩) hltb).trans (hcb i hi).2⟩) (k + 1) (j - k) (by omega)
              have c00 := (hcb k hlt).1
              clear hIb hcb hbr
              have HO : Hid (bookTo (fun q => (outL k (j + 1) E).getD q default) (outL k (j + 1) E).length = true) := out_book HBK.out hlt
              have ek : ((k + 1 : Nat) : Int) = (k : Int) + 1 := by omega
              have hwk : IntKind.i64.wrap ((k : Int) + 1) = (k : Int) + 1 := wrap_i64 _ (by omega) (by omega)
              have hsA : ∀ w, (Instr.sliceAt 23 (.slice (some ⟨b, off, none⟩) (j + 1) cl) none (some (.int .i64 (k : Int))) none).run Try.prog w = .ok (.slice (some ⟨b, off, none⟩) k cl) w := slice_head b off (j + 1) cl k (by omega)
              by_cases hce : cl = k + 1
              · obtain rfl : k = j := by omega
                subst hce
                have hsB : ∀ w, (Instr.sliceAt 23 (.slice (some ⟨b, off, none⟩) (k + 1) (k + 1)) (some (.int .i64 ((k : Int) + 1))) none none).run Try.prog w = .ok (.slice (some ⟨b, off, none⟩) 0 0) w := fun w => by rw [← ek]; exact slice_none b off (k + 1) w
                have hlist : enl k E ++ [] = outL k (k + 1) E := by unfold outL; rw [show k + 1 - 1 - k = 0 by omega]; rfl
                have hout : Hid (bookTo (fun q => ([] ++ enl k E ++ []).getD q default) ([] ++ enl k E ++ []).length = true) := by show _ = _; rw [List.nil_append, hlist]; exact HO.out
                clear hlist ek
                go_wp2_with fail
                go_region_held3 (fun W' => W'.cell? ⟨b, off + k * 2, none⟩ = some (.int .i64 (E k).lev)) (go_keep) (first
                  | (go_at_call 12
                     refine (implBookOk_any a6' n6 c6' F6 w6 hI6' hm6).mono ?_
                     rintro e w9 ⟨hb9, rfl⟩
                     rw [HF6.out]
                     have k9 : w9.cell? ⟨b, off + k * 2, none⟩ = some (.int .i64 (E k).lev) := (hb9.cell (p := ⟨b, off + k * 2, none⟩) (by have := HA6.out.size; show b < w6.heap.size; omega)).trans k1)
                  | (refine appB (M := []) (m := 0) (by rfl) (.tmp 73) (.tmp 77) (by rfl) (by exact hA5) rfl (fun q u hu => by simp [entv] at hu) (by rw [List.nil_append, enl_len]; omega) (by omega) (by rfl) (by rfl) ?_
                     intro v6 w6 hA6 hg6
                     obtain ⟨a6', c6', n6, F6, rfl, hI6', hm6, hF6⟩ := rgB_out hA6
                     have HF6 : Hid (bookTo F6 n6 = true) := hF6.trans hout.out
                     have HA6 : Hid (Below wr.heap.size wr w6) := hA6.bel
                     clear hF6
                     have k1 : w6.cell? ⟨b, off + k * 2, none⟩ = some (.int .i64 (E k).lev) := (hA6.bel.cell (p := ⟨b, off + k * 2, none⟩) hltb).trans c00)
                  | (refine appB (M := enl k E) (m := k) (by rfl) (.tmp 69) (.tmp 72) (by rfl) (by exact rgB1 wr) (enl_len _ _) (hP1.out _ (by exact (rgB1 wr).bel)) (by simp) (by omega) (by rfl) (by rfl) ?_
                     intro v5 w5 hA5 hg5
                     have k3 : w5.cell? ⟨b, off + k * 2, none⟩ = some (.int .i64 (E k).lev) := (hA5.bel.cell (p := ⟨b, off + k * 2, none⟩) hltb).trans c00))
                all_goals
                  have HF : Hid (Below W4.heap.size W4 w9) := HBr.out.trans ((HA6.out.trans (hb9.mono HA6.out.size)).mono HBr.out.size)
                  clear hA6 hI6' hA5 hg5 hg6 k1 k3 k9 hb9 hP1 hP2 c00 hout HO hsA hsB HA6 HF6
                  go_wp2
                  go_roundw
                  case rel => exact ⟨k + 1, by omega, by go_num, HF.out⟩
                  case measure => simp [intOf] <;> omega
              · have hsB : ∀ w, (Instr.sliceAt 23 (.slice (some ⟨b, off, none⟩) (j + 1) cl) (some (.int .i64 ((k : Int) + 1))) none none).run Try.prog w = .ok (.slice (some ⟨b, off + (k + 1) * 2, none⟩) (j - k) (cl - (k + 1))) w := fun w => by
                  rw [← ek]
                  have h := slice_tail b off (j + 1) cl (k + 1) (by omega) hce w
                  rw [show j + 1 - (k + 1) = j - k by omega] at h
                  exact h
                have hlist : enl k E ++ enl (j - k) (fun i => E (k + 1 + i)) = outL k (j + 1) E := by unfold outL; rw [show j + 1 - 1 - k = j - k by omega]
                have hout : Hid (bookTo (fun q => ([] ++ enl k E ++ enl (j - k) (fun i => E (k + 1 + i))).getD q default) ([] ++ enl k E ++ enl (j - k) (fun i => E (k + 1 + i))).length = true) := by show _ = _; rw [List.nil_append, hlist]; exact HO.out
                clear hlist ek hce
                go_wp2_with fail
                go_region_held3 (fun W' => W'.cell? ⟨b, off + k * 2, none⟩ = some (.int .i64 (E k).lev)) (go_keep) (first
                  | (go_at_call 12
                     refine (implBookOk_any a6' n6 c6' F6 w6 hI6' hm6).mono ?_
                     rintro e w9 ⟨hb9, rfl⟩
                     rw [HF6.out]
                     have k9 : w9.cell? ⟨b, off + k * 2, none⟩ = some (.int .i64 (E k).lev) := (hb9.cell (p := ⟨b, off + k * 2, none⟩) (by have := HA6.out.size; show b < w6.heap.size; omega)).trans k1)
                  | (refine appB (M := enl (j - k) (fun i => E (k + 1 + i))) (m := j - k) (by rfl) (.tmp 73) (.tmp 77) (by rfl) (by exact hA5) (enl_len _ _) (hP2.out _ (by exact hA5.bel)) (by rw [List.nil_append, enl_len]; omega) (by omega) (by rfl) (by rfl) ?_
                     intro v6 w6 hA6 hg6
                     obtain ⟨a6', c6', n6, F6, rfl, hI6', hm6, hF6⟩ := rgB_out hA6
                     have HF6 : Hid (bookTo F6 n6 = true) := hF6.trans hout.out
                     have HA6 : Hid (Below wr.heap.size wr w6) := hA6.bel
                     clear hF6
                     have k1 : w6.cell? ⟨b, off + k * 2, none⟩ = some (.int .i64 (E k).lev) := (hA6.bel.cell (p := ⟨b, off + k * 2, none⟩) hltb).trans c00)
                  | (refine appB (M := enl k E) (m := k) (by rfl) (.tmp 69) (.tmp 72) (by rfl) (by exact rgB1 wr) (enl_len _ _) (hP1.out _ (by exact (rgB1 wr).bel)) (by simp) (by omega) (by rfl) (by rfl) ?_
                     intro v5 w5 hA5 hg5
                     have k3 : w5.cell? ⟨b, off + k * 2, none⟩ = some (.int .i64 (E k).lev) := (hA5.bel.cell (p := ⟨b, off + k * 2, none⟩) hltb).trans c00))
                all_goals
                  have HF : Hid (Below W4.heap.size W4 w9) := HBr.out.trans ((HA6.out.trans (hb9.mono HA6.out.size)).mono HBr.out.size)
                  clear hA6 hI6' hA5 hg5 hg6 k1 k3 k9 hb9 hP1 hP2 c00 hout HO hsA hsB HA6 HF6
                  go_wp2
                  go_roundw
                  case rel => exact ⟨k + 1, by omega, by go_num, HF.out⟩
                  case measure => simp [intOf] <;> omega
            · obtain rfl : k = j + 1 := by omega
              obtain ⟨h1, ⟨F5, h5, g5⟩, ⟨F6, h6, g6⟩, ⟨F7, h7, g7⟩, _⟩ := H4.out
              have hm2 : j + 2 ≤ maxLen := by unfold maxLen; omega
              have hm1 : j + 1 ≤ maxLen := by unfold maxLen; omega
              have i5 := h5.below (Nat.le_refl _) hbr
              have i6 := h6.below (Nat.le_refl _) hbr
              have i7 := h7.below (Nat.le_refl _) hbr
              have hjn : decide (((j + 1 : Nat) : Int) ≤ (j : Int)) = false := decide_eq_false (by omega)
              have hjn2 : decide ((j : Int) + 1 ≤ (j : Int)) = false := decide_eq_false (by omega)
              have HB0 : Hid (Below w.heap.size w wr) := HB.out.trans ((h1.trans (hbr.mono h1.size)).mono HB.out.size)
              clear h5 h6 h7 h1 hbr H4 HBr
              go_wp2_with fail
              refine (implBookOk_any a5 (j + 2) c5 F5 wr i5 hm2).mono ?_
              rintro e w8 ⟨hb8, rfl⟩
              rw [g5]
              have i6' := i6.below (Nat.le_refl _) hb8
              have i7' := i7.below (Nat.le_refl _) hb8
              have HB8 : Hid (Below w.heap.size w w8) := HB0.out.trans (hb8.mono HB0.out.size)
              clear i5 i6 i7 hb8 HB0
              go_wp2_with fail
              refine (implBookOk_any a6 (j + 2) c6 F6 w8 i6' hm2).mono ?_
              rintro e w9 ⟨hb9, rfl⟩
              rw [g6]
              have i7 := i7'.below (Nat.le_refl _) hb9
              have HB9 : Hid (Below w.heap.size w w9) := HB8.out.trans (hb9.mono HB8.out.size)
              clear i6' i7' hb9 HB8
              go_wp2_with fail
              refine (implBookOk_any (some ⟨g, 0, none⟩) (j + 1) c7 F7 w9 i7 hm1).mono ?_
              rintro e w10 ⟨hb10, rfl⟩
              rw [g7]
              have HF : Hid (Below w.heap.size w w10) := HB9.out.trans (hb10.mono HB9.out.size)
              clear i7 hb10 HB9
              go_wp2
              go_ret
              exact ⟨rfl, HF.out⟩
    · have HN : Hid (¬ (bookTo E n = true ∧ n ≠ 0)) := hgo
      clear hgo
      have hee : (bookTo E n == bookTo E n) = true := by simp
      have fin : ∀ (b1 b2 : Bool), True := fun _ _ => trivial
      clear fin
      cases hbk : bookTo E n with
      | false =>
        go_wp2_with fail
        refine (implBookOk_any al n cl E W hI hm).mono ?_
        rintro e w5 ⟨hb5, rfl⟩
        have hI5 := hI.below (Nat.le_refl _) hb5
        have HB5 : Hid (Below w.heap.size w w5) := HB.out.trans (hb5.mono HB.out.size)
        clear hI hb5 HB
        rw [hbk]
        go_wp2_with fail
        refine (specBookOk_any al n cl E w5 hI5 hm).mono ?_
        rintro e w6 ⟨⟨q6, rfl⟩, rfl⟩
        rw [hbk]
        have HF : Hid (Below w.heap.size w (w5.drewN q6)) := below_drewN HB5.out q6
        clear hI5 HB5
        go_wp2
        go_ret
        exact ⟨rfl, HF.out⟩
      | true =>
        have hn0 : n = 0 := Classical.byContradiction fun h => HN.out ⟨hbk, h⟩
        subst hn0
        go_wp2_with fail
        refine (implBookOk_any al 0 cl E W hI hm).mono ?_
        rintro e w5 ⟨hb5, rfl⟩
        have hI5 := hI.below (Nat.le_refl _) hb5
        have HB5 : Hid (Below w.heap.size w w5) := HB.out.trans (hb5.mono HB.out.size)
        clear hI hb5 HB
        rw [hbk]
        go_wp2_with fail
        refine (specBookOk_any al 0 cl E w5 hI5 hm).mono ?_
        rintro e w6 ⟨⟨q6, rfl⟩, rfl⟩
        rw [hbk]
        have HF : Hid (Below w.heap.size w (w5.drewN q6)) := below_drewN HB5.out q6
        clear hI5 HB5
        go_wp2
        go_ret
        exact ⟨rfl, HF.out⟩

set_option maxRecDepth 100000 in
theorem lifted (os : Os) (started : os.Started) (H : Type) (enc : TypeId × Value → H) :
    ReturnsInHanded {} Try.checked os 7 .any (Rows.fnBookBentSpec.pre6 enc Try.prog Try.f7 Rows.fnBookBentRow.domain false) (Rows.fnBookBentSpec.post enc Try.prog Try.f7 false true false false) := by
  refine returnsInHanded_of_change (C := Try.checked) own started (by kernel_rfl) Try.func7
    (ChangeSpec.witness6 (enc := enc) (C := Try.checked) false ⟨#[], #[.slice none 0 0], []⟩ 8 (by kernel_rfl) (by kernel_rfl) (by kernel_rfl) (by kernel_rfl)) ?_
  intro W base args ds gs before hval0 hW hcnd _
  have hval : ∀ (j : Nat) t v, Try.f7.params[j]? = some t → args[j]? = some v → Value.okWide Try.prog W .any base t v := hval0
  have hW' := hW
  obtain ⟨p, q, hA0, hV, rfl, hfz, hnd⟩ := hW
  have hA : DataW.TrodAll enc Try.prog W 0 (fun _ => true) true Try.f7.params.toList args.toList ds p := hA0
  rw [Try.params7] at hA hval
  obtain ⟨v0, vs0, d0, ds0, p0, q0, hargs, rfl, rfl, h0, r0⟩ := trodAll_cons hA
  obtain ⟨rfl, rfl, rfl⟩ := trodAll_nil r0
  obtain rfl : args = #[v0] := by cases args; simp_all
  obtain ⟨rfl, rfl⟩ := trodVars_none hV
  obtain ⟨a0, len0, cap0, rfl⟩ := okWide_slice Try.underlying22 (hval 0 22 v0 rfl rfl)
  have k0 := h0
  have lt0 : ∀ x ∈ p0, x.block < W.heap.size := by obtain ⟨m, hm⟩ := k0; exact DataW.trod_lt m _ _ _ hm
  obtain ⟨zs0, hC0, hl0, hp0⟩ := openCode h0
  clear hA0 hval0
  refine (walk a0 len0 cap0 zs0 W hC0 hl0 hp0).mono fun e W' ⟨he, bel⟩ => ?_
  subst he
  exact ⟨_, rfl, _, _, _, [], _, [], hW', trodAll_mk1 (shut_bool Try.underlying4 _), (trodAll_cons_mk (Below.trod laidOut (by kernel_rfl) (of_decide_eq_true (by kernel_rfl)) k0 bel lt0) trodAll_mk0), rfl, bel.frame _, fun h => by cases h⟩

theorem over : Rows.fnBookBentRow.holds Try.pinned (OpenSpec.ofChange Rows.fnBookBentSpec) :=
  OpenClaim.holds_of_wide 7 Try.f7 rfl rfl rfl rfl rfl rfl rfl ⟨rfl, rfl, rfl, rfl, rfl⟩ rfl rfl rfl rfl rfl (by kernel_rfl) Try.func7 (by kernel_rfl)
    (of_decide_eq_true (by kernel_rfl)) (by unfold Func.isWrapper; first | (rw [if_pos (by decide +kernel)]; kernel_rfl) | (rw [if_neg (by decide +kernel)]; exact ⟨rfl, rfl⟩))
    (fun os started H enc _ => lifted os started H enc)
end Go.Proofs.Ytkdfimpeghhboaa.fnBookBent

namespace Go.Proofs.Ytkdfimpeghhboaa
theorem fnBookBent_holds : Rows.FnBookBentSaid := fnBookBent.over
end Go.Proofs.Ytkdfimpeghhboaa
