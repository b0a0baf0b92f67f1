/-
  For every code, FnTree answers true: a drawn tree is ok just if the specification says so, new trees are as the specification's, and a drawn tree that is ok is none with a name more that leads nowhere, or with a file more that has no name, and is one with both, or with a free place more; and the code reads afterwards as it read before. No condition.
-/
import Derived.Test.YtlikmphjocjmeaaFnTreeB3

/-
  For every code, FnTree answers true: a drawn tree is ok just if the specification says so, new trees are as the specification's, and a drawn tree that is ok is none with a name more that leads nowhere, or with a file more that has no name, and is one with both, or with a free place more; and the code reads afterwards as it read before. No condition.
-/
namespace Go.Proofs.Ytlikmphjocjmeaa.fnTree
open Go.ChangeShapes Go.WideShapes Go.ChangeAt Go.RowKit Go.Deep
set_option linter.unusedVariables false

set_option maxRecDepth 100000 in
set_option maxHeartbeats 16000000 in
theorem walk (a0 : Option Addr) (len0 cap0 : Nat) (zs0 : Nat → Int) (w : World) (hC : IsCode w a0 len0 zs0) (hl : len0 ≤ maxLen) (hp : len0 ≤ cap0) :
    Calls Try.prog 3 #[.slice a0 len0 cap0] w fun e w' => e = .returned (.bool true) ∧ Below w.heap.size w w' := by
  have hl' := hl
  unfold maxLen at hl'
  obtain ⟨i0, hi, hz0, hz1, hz2⟩ := info_parts infoStr
  obtain ⟨j0, hj0, hy0, hy1, hy2⟩ := info_parts infoNode
  obtain ⟨m0, hm, hx0, hx1, hx2⟩ := info_parts infoInt
  by_cases hbig : (1048576 : Int) < len0
  · go_enter Try.func3, Try.ntmps3
    go_wp2
    go_ret
    exact ⟨rfl, Below.refl _ _⟩
  · go_enter Try.func3, Try.ntmps3
    go_wp2_with fail
    refine (drawTreeOk_any w a0 len0 cap0 zs0 hC hl hp).mono ?_
    rintro e w1 ⟨g, c, n, D, L, now, rfl, hd⟩
    unfold trV
    have HFair : Hid (Fair n D) := hd.fair
    have hn11 := hd.fair.few
    have hn1 := hd.fair.some
    have HC : Hid (IsCode (w1.alloc (.cells #[.slice (some ⟨g, 0, none⟩) n c, .int .i64 now] 25)) a0 len0 zs0) := (hC.below hd.bel).alloc _
    have HT : Hid (InT w w1.heap.size g c n D L now (w1.alloc (.cells #[.slice (some ⟨g, 0, none⟩) n c, .int .i64 now] 25))) := InT.start hd
    clear hd hC
    go_wp2_with fail
    obtain ⟨T, hT⟩ : ∃ T, T = w1.heap.size := ⟨_, rfl⟩
    rw [← hT] at HT ⊢
    clear hT
    refine (drawTreeNew_any _ a0 len0 cap0 zs0 HC.out hl hp).mono ?_
    rintro e W5 ⟨z, rfl, hzl, hzu, hb2⟩
    have HT5 : Hid (InT w T g c n D L now W5) := HT.out.below hb2
    clear HT HC hb2 w1
    have hz5 : -1 ≤ z ∧ z ≤ 1001 := ⟨hzl, hzu⟩
    have HT : Hid (InT w T g c n D L now W5) := HT5.out
    clear HT5
    have t0 : W5.cell? ⟨T, 0, none⟩ = some (.slice (some ⟨g, 0, none⟩) n c) := HT.out.t.cell 0
    have t1 : W5.cell? ⟨T, 1, none⟩ = some (.int .i64 now) := HT.out.t.cell 1
    have hTl : T < W5.heap.size := HT.out.t.lt
    obtain ⟨ok, hok⟩ : ∃ ok : Bool, (ok = true ↔ TreeGood n D now) := by
      by_cases hg : TreeGood n D now
      · exact ⟨true, fun _ => hg, fun _ => rfl⟩
      · exact ⟨false, fun h => (by cases h), fun h => absurd h hg⟩
    have HOk : Hid _ := hok
    clear hok
    have HOkI : Hid (∀ w', Below W5.heap.size W5 w' → Calls Try.prog 7 #[.agg #[.slice (some ⟨g, 0, none⟩) n c, .int .i64 now]] w' fun e w2 => ∃ u, e = .returned u ∧ (u = .bool ok ∧ Below w'.heap.size w' w2)) := fun w' hb =>
      (implTreeOk (some ⟨g, 0, none⟩) n c now D L w' (HT.out.below hb).drawn.nds HFair.out.fits HFair.out.len HFair.out.size HT.out.in64).mono fun e w2 ⟨h1, r, h2, h3⟩ => ⟨.bool r, h2, by rw [Bool.eq_iff_iff.2 (h3.trans HOk.out.symm)], h1⟩
    have HOkS : Hid (∀ w', Below W5.heap.size W5 w' → Calls Try.prog 8 #[.agg #[.slice (some ⟨g, 0, none⟩) n c, .int .i64 now]] w' fun e w2 => ∃ u, e = .returned u ∧ (u = .bool ok ∧ Below w'.heap.size w' w2)) := fun w' hb =>
      (specTreeOk_any (some ⟨g, 0, none⟩) n c now D L w' (HT.out.below hb).drawn.nds HFair.out.fits HFair.out.len HFair.out.size).mono fun e w2 ⟨h1, r, h2, h3⟩ => ⟨.bool r, h2, by rw [Bool.eq_iff_iff.2 (h3.trans HOk.out.symm)], h1⟩
    go_wp2_with fail
    refine wp_region_act fun aR hA => ?_
    have e3 : aR.eval (.tmp 3) = .pointer (some ⟨T, 0, none⟩) := by rw [hA]; rfl
    have e4 : aR.eval (.tmp 4) = .int .i64 z := by rw [hA]; rfl
    have hsz : 50 < aR.tmps.size := by rw [hA]; simp
    have HA' : Hid _ := hA
    clear hA
    have f18 : vf5 (.agg #[.slice (some ⟨g, 0, none⟩) n c, .int .i64 now]) ok z 18 = (.agg #[.slice (some ⟨g, 0, none⟩) n c, .int .i64 now]) := by simp [vf5]
    have f19 : vf5 (.agg #[.slice (some ⟨g, 0, none⟩) n c, .int .i64 now]) ok z 19 = (.bool ok) := by simp [vf5]
    have f20 : vf5 (.agg #[.slice (some ⟨g, 0, none⟩) n c, .int .i64 now]) ok z 20 = (.agg #[.slice (some ⟨g, 0, none⟩) n c, .int .i64 now]) := by simp [vf5]
    have f21 : vf5 (.agg #[.slice (some ⟨g, 0, none⟩) n c, .int .i64 now]) ok z 21 = (.bool ok) := by simp [vf5]
    have f22 : vf5 (.agg #[.slice (some ⟨g, 0, none⟩) n c, .int .i64 now]) ok z 22 = (.bool false) := by simp [vf5]
    have f23 : vf5 (.agg #[.slice (some ⟨g, 0, none⟩) n c, .int .i64 now]) ok z 23 = (.bool false) := by simp [vf5]
    have f24 : vf5 (.agg #[.slice (some ⟨g, 0, none⟩) n c, .int .i64 now]) ok z 24 = (.int .i64 z) := by simp [vf5]
    have f26 : vf5 (.agg #[.slice (some ⟨g, 0, none⟩) n c, .int .i64 now]) ok z 26 = (.int .i64 z) := by simp [vf5]
    have f28 : vf5 (.agg #[.slice (some ⟨g, 0, none⟩) n c, .int .i64 now]) ok z 28 = (.bool true) := by simp [vf5]
    have f29 : vf5 (.agg #[.slice (some ⟨g, 0, none⟩) n c, .int .i64 now]) ok z 29 = (.bool false) := by simp [vf5]
    have f30 : vf5 (.agg #[.slice (some ⟨g, 0, none⟩) n c, .int .i64 now]) ok z 30 = (.bool false) := by simp [vf5]
    have f31 : vf5 (.agg #[.slice (some ⟨g, 0, none⟩) n c, .int .i64 now]) ok z 31 = (.bool false) := by simp [vf5]
    have f32 : vf5 (.agg #[.slice (some ⟨g, 0, none⟩) n c, .int .i64 now]) ok z 32 = (.int .i64 z) := by simp [vf5]
    have f34 : vf5 (.agg #[.slice (some ⟨g, 0, none⟩) n c, .int .i64 now]) ok z 34 = (.bool (decide (1 ≤ z ∧ z ≤ 1000))) := by simp [vf5]
    have f35 : vf5 (.agg #[.slice (some ⟨g, 0, none⟩) n c, .int .i64 now]) ok z 35 = (.int .i64 z) := by simp [vf5]
    have f36 : vf5 (.agg #[.slice (some ⟨g, 0, none⟩) n c, .int .i64 now]) ok z 36 = (.bool (decide (1 ≤ z))) := by simp [vf5]
    have f37 : vf5 (.agg #[.slice (some ⟨g, 0, none⟩) n c, .int .i64 now]) ok z 37 = (.bool (decide (1 ≤ z))) := by simp [vf5]
    have f40 : vf5 (.agg #[.slice (some ⟨g, 0, none⟩) n c, .int .i64 now]) ok z 40 = (.bool (decide (1 ≤ z ∧ z ≤ 1000))) := by simp [vf5]
    have f41 : vf5 (.agg #[.slice (some ⟨g, 0, none⟩) n c, .int .i64 now]) ok z 41 = (.bool false) := by simp [vf5]
    have f42 : vf5 (.agg #[.slice (some ⟨g, 0, none⟩) n c, .int .i64 now]) ok z 42 = (.bool false) := by simp [vf5]
    refine wp_region_guard (a0 := aR) [18, 19, 20, 21, 22, 23, 24, 25, 26, 27, 28, 29, 30, 31, 32, 33, 34, 35, 36, 37, 38, 39, 40, 41, 42] (RG W5 z (vf5 (.agg #[.slice (some ⟨g, 0, none⟩) n c, .int .i64 now]) ok z) [(0, 18), (1, 19), (2, 20), (3, 21), (4, 22), (5, 23), (6, 24), (8, 26), (10, 28), (11, 29), (12, 30), (13, 31), (14, 32), (16, 34), (17, 35), (18, 36), (19, 37), (20, 38), (21, 39), (22, 40), (23, 41), (24, 42)] [(7, 25), (9, 27), (15, 33)]) (by kernel_rfl) (by kernel_rfl) (fun v => ⟨below_drewN (Below.refl _ _) 1, by simp, by simp⟩) ⟨?_, ?_, ?_, ?_, ?_, ?_, ?_, ?_, ?_, ?_, ?_, ?_, ?_, ?_, ?_, ?_, ?_, ?_, ?_, ?_, ?_, ?_, ?_, ?_, ?_, trivial⟩ ?_
    · intro L' v w' h hd hJ K hK
      exact OG.yesW (wanted_none rfl) (ow_loadT ((upd_eval_out aR _ v 3 (by decide)).trans e3) ((hJ.bel.cell hTl).trans t0) ((hJ.bel.cell hTl).trans t1) (hK _ _ _ (upd_put _ _ _ 18 _ (by decide)) (hJ.val (k := 0) (d := 18) (x := (.agg #[.slice (some ⟨g, 0, none⟩) n c, .int .i64 now])) f18.symm (by decide) (by decide) (by decide))))
    · intro L' v w' h hd hJ K hK
      have d0 : L' 0 = true := by first | exact hd _ (List.Mem.head _) rfl | exact hd _ (List.Mem.tail _ (List.Mem.head _)) rfl | exact hd _ (List.Mem.tail _ (List.Mem.tail _ (List.Mem.head _))) rfl | exact hd _ (List.Mem.tail _ (List.Mem.tail _ (List.Mem.tail _ (List.Mem.head _)))) rfl
      exact OG.yesW (wanted_none rfl) (ow_callA ((upd_eval_in aR _ v 18 (by decide) (by omega)).trans ((hJ.vals (0, 18) (by decide) d0).trans f18)) (cf_tOk _ _) (HOkI.out w' hJ.bel) (fun u w2 hA => by
        obtain ⟨rfl, hb⟩ := hA
        exact hK _ _ _ (upd_put _ _ _ 19 _ (by decide)) ((hJ.below hb).val (k := 1) (d := 19) f19.symm (by decide) (by decide) (by decide))))
    · intro L' v w' h hd hJ K hK
      exact OG.yesW (wanted_none rfl) (ow_loadT ((upd_eval_out aR _ v 3 (by decide)).trans e3) ((hJ.bel.cell hTl).trans t0) ((hJ.bel.cell hTl).trans t1) (hK _ _ _ (upd_put _ _ _ 20 _ (by decide)) (hJ.val (k := 2) (d := 20) (x := (.agg #[.slice (some ⟨g, 0, none⟩) n c, .int .i64 now])) f20.symm (by decide) (by decide) (by decide))))
    · intro L' v w' h hd hJ K hK
      have d2 : L' 2 = true := by first | exact hd _ (List.Mem.head _) rfl | exact hd _ (List.Mem.tail _ (List.Mem.head _)) rfl | exact hd _ (List.Mem.tail _ (List.Mem.tail _ (List.Mem.head _))) rfl | exact hd _ (List.Mem.tail _ (List.Mem.tail _ (List.Mem.tail _ (List.Mem.head _)))) rfl
      exact OG.yesW (wanted_none rfl) (ow_callA ((upd_eval_in aR _ v 20 (by decide) (by omega)).trans ((hJ.vals (2, 20) (by decide) d2).trans f20)) (cf_sOk _ _) (HOkS.out w' hJ.bel) (fun u w2 hA => by
        obtain ⟨rfl, hb⟩ := hA
        exact hK _ _ _ (upd_put _ _ _ 21 _ (by decide)) ((hJ.below hb).val (k := 3) (d := 21) f21.symm (by decide) (by decide) (by decide))))
    · intro L' v w' h hd hJ K hK
      have d1 : L' 1 = true := by first | exact hd _ (List.Mem.head _) rfl | exact hd _ (List.Mem.tail _ (List.Mem.head _)) rfl | exact hd _ (List.Mem.tail _ (List.Mem.tail _ (List.Mem.head _))) rfl | exact hd _ (List.Mem.tail _ (List.Mem.tail _ (List.Mem.tail _ (List.Mem.head _)))) rfl
      have d3 : L' 3 = true := by first | exact hd _ (List.Mem.head _) rfl | exact hd _ (List.Mem.tail _ (List.Mem.head _)) rfl | exact hd _ (List.Mem.tail _ (List.Mem.tail _ (List.Mem.head _))) rfl | exact hd _ (List.Mem.tail _ (List.Mem.tail _ (List.Mem.tail _ (List.Mem.head _)))) rfl
      exact OG.yesW (wanted_none rfl) (ow_neqb ((upd_eval_in aR _ v 19 (by decide) (by omega)).trans ((hJ.vals (1, 19) (by decide) d1).trans f19)) ((upd_eval_in aR _ v 21 (by decide) (by omega)).trans ((hJ.vals (3, 21) (by decide) d3).trans f21)) (hK _ _ _ (upd_put _ _ _ 22 _ (by decide)) (hJ.val (k := 4) (d := 22) (x := (.bool (ok != ok))) (by simp [vf5]) (by decide) (by decide) (by decide))))
    · intro L' v w' h hd hJ K hK
      have d4 : L' 4 = true := by first | exact hd _ (List.Mem.head _) rfl | exact hd _ (List.Mem.tail _ (List.Mem.head _)) rfl | exact hd _ (List.Mem.tail _ (List.Mem.tail _ (List.Mem.head _))) rfl | exact hd _ (List.Mem.tail _ (List.Mem.tail _ (List.Mem.tail _ (List.Mem.head _)))) rfl
      exact OG.yesW (wanted_none rfl) (ow_move ((upd_eval_in aR _ v 22 (by decide) (by omega)).trans ((hJ.vals (4, 22) (by decide) d4).trans f22)) (hK _ _ _ (upd_put _ _ _ 23 _ (by decide)) (hJ.val (k := 5) (d := 23) (x := (.bool false)) f23.symm (by decide) (by decide) (by decide))))
    · intro L' v w' h hd hJ K hK
      have d5 : L' 5 = true := by first | exact hd _ (List.Mem.head _) rfl | exact hd _ (List.Mem.tail _ (List.Mem.head _)) rfl | exact hd _ (List.Mem.tail _ (List.Mem.tail _ (List.Mem.head _))) rfl | exact hd _ (List.Mem.tail _ (List.Mem.tail _ (List.Mem.tail _ (List.Mem.head _)))) rfl
      exact OG.yesW (wanted_yes (j := 5) (d := 23) (b := false) rfl rfl (by decide) (by omega) ((hJ.vals (5, 23) (by decide) d5).trans f23)) (ow_move ((upd_eval_out aR _ v 4 (by decide)).trans e4) (hK _ _ _ (upd_put _ _ _ 24 _ (by decide)) (hJ.val (k := 6) (d := 24) (x := (.int .i64 z)) f24.symm (by decide) (by decide) (by decide))))
    · intro L' v w' h hd hJ K hK
      have d6 : L' 6 = true := by first | exact hd _ (List.Mem.head _) rfl | exact hd _ (List.Mem.tail _ (List.Mem.head _)) rfl | exact hd _ (List.Mem.tail _ (List.Mem.tail _ (List.Mem.head _))) rfl | exact hd _ (List.Mem.tail _ (List.Mem.tail _ (List.Mem.tail _ (List.Mem.head _)))) rfl
      have d5 : L' 5 = true := by first | exact hd _ (List.Mem.head _) rfl | exact hd _ (List.Mem.tail _ (List.Mem.head _)) rfl | exact hd _ (List.Mem.tail _ (List.Mem.tail _ (List.Mem.head _))) rfl | exact hd _ (List.Mem.tail _ (List.Mem.tail _ (List.Mem.tail _ (List.Mem.head _)))) rfl
      exact OG.yesW (wanted_yes (j := 5) (d := 23) (b := false) rfl rfl (by decide) (by omega) ((hJ.vals (5, 23) (by decide) d5).trans f23)) (ow_callA ((upd_eval_in aR _ v 24 (by decide) (by omega)).trans ((hJ.vals (6, 24) (by decide) d6).trans f24)) (cf_tNew _ _) (implNew z w') (fun u w2 hA => by
        obtain ⟨hb, hN⟩ := hA
        exact hK _ _ _ (upd_put _ _ _ 25 _ (by decide)) ((hJ.below hb).new (k := 7) (d := 25) hN (by decide) (by decide) (by decide))))
    · intro L' v w' h hd hJ K hK
      have d5 : L' 5 = true := by first | exact hd _ (List.Mem.head _) rfl | exact hd _ (List.Mem.tail _ (List.Mem.head _)) rfl | exact hd _ (List.Mem.tail _ (List.Mem.tail _ (List.Mem.head _))) rfl | exact hd _ (List.Mem.tail _ (List.Mem.tail _ (List.Mem.tail _ (List.Mem.head _)))) rfl
      exact OG.yesW (wanted_yes (j := 5) (d := 23) (b := false) rfl rfl (by decide) (by omega) ((hJ.vals (5, 23) (by decide) d5).trans f23)) (ow_move ((upd_eval_out aR _ v 4 (by decide)).trans e4) (hK _ _ _ (upd_put _ _ _ 26 _ (by decide)) (hJ.val (k := 8) (d := 26) (x := (.int .i64 z)) f26.symm (by decide) (by decide) (by decide))))
    · intro L' v w' h hd hJ K hK
      have d8 : L' 8 = true := by first | exact hd _ (List.Mem.head _) rfl | exact hd _ (List.Mem.tail _ (List.Mem.head _)) rfl | exact hd _ (List.Mem.tail _ (List.Mem.tail _ (List.Mem.head _))) rfl | exact hd _ (List.Mem.tail _ (List.Mem.tail _ (List.Mem.tail _ (List.Mem.head _)))) rfl
      have d5 : L' 5 = true := by first | exact hd _ (List.Mem.head _) rfl | exact hd _ (List.Mem.tail _ (List.Mem.head _)) rfl | exact hd _ (List.Mem.tail _ (List.Mem.tail _ (List.Mem.head _))) rfl | exact hd _ (List.Mem.tail _ (List.Mem.tail _ (List.Mem.tail _ (List.Mem.head _)))) rfl
      exact OG.yesW (wanted_yes (j := 5) (d := 23) (b := false) rfl rfl (by decide) (by omega) ((hJ.vals (5, 23) (by decide) d5).trans f23)) (ow_callA ((upd_eval_in aR _ v 26 (by decide) (by omega)).trans ((hJ.vals (8, 26) (by decide) d8).trans f26)) (cf_sNew _ _) (specNew z w') (fun u w2 hA => by
        obtain ⟨hb, hN⟩ := hA
        exact hK _ _ _ (upd_put _ _ _ 27 _ (by decide)) ((hJ.below hb).new (k := 9) (d := 27) hN (by decide) (by decide) (by decide))))
    · intro L' v w' h hd hJ K hK
      have d7 : L' 7 = true := by first | exact hd _ (List.Mem.head _) rfl | exact hd _ (List.Mem.tail _ (List.Mem.head _)) rfl | exact hd _ (List.Mem.tail _ (List.Mem.tail _ (List.Mem.head _))) rfl | exact hd _ (List.Mem.tail _ (List.Mem.tail _ (List.Mem.tail _ (List.Mem.head _)))) rfl
      have d9 : L' 9 = true := by first | exact hd _ (List.Mem.head _) rfl | exact hd _ (List.Mem.tail _ (List.Mem.head _)) rfl | exact hd _ (List.Mem.tail _ (List.Mem.tail _ (List.Mem.head _))) rfl | exact hd _ (List.Mem.tail _ (List.Mem.tail _ (List.Mem.tail _ (List.Mem.head _)))) rfl
      have d5 : L' 5 = true := by first | exact hd _ (List.Mem.head _) rfl | exact hd _ (List.Mem.tail _ (List.Mem.head _)) rfl | exact hd _ (List.Mem.tail _ (List.Mem.tail _ (List.Mem.head _))) rfl | exact hd _ (List.Mem.tail _ (List.Mem.tail _ (List.Mem.tail _ (List.Mem.head _)))) rfl
      exact OG.yesW (wanted_yes (j := 5) (d := 23) (b := false) rfl rfl (by decide) (by omega) ((hJ.vals (5, 23) (by decide) d5).trans f23)) (ow_callB (upd_eval_in aR _ v 25 (by decide) (by omega)) (upd_eval_in aR _ v 27 (by decide) (by omega)) (cf_tSame _ _ _) (newSame hz5 ((hJ.news (7, 25) (by decide) d7)) ((hJ.news (9, 27) (by decide) d9))) (fun u w2 hA => by
        obtain ⟨rfl, hb⟩ := hA
        exact hK _ _ _ (upd_put _ _ _ 28 _ (by decide)) ((hJ.below hb).val (k := 10) (d := 28) f28.symm (by decide) (by decide) (by decide))))
    · intro L' v w' h hd hJ K hK
      have d10 : L' 10 = true := by first | exact hd _ (List.Mem.head _) rfl | exact hd _ (List.Mem.tail _ (List.Mem.head _)) rfl | exact hd _ (List.Mem.tail _ (List.Mem.tail _ (List.Mem.head _))) rfl | exact hd _ (List.Mem.tail _ (List.Mem.tail _ (List.Mem.tail _ (List.Mem.head _)))) rfl
      have d5 : L' 5 = true := by first | exact hd _ (List.Mem.head _) rfl | exact hd _ (List.Mem.tail _ (List.Mem.head _)) rfl | exact hd _ (List.Mem.tail _ (List.Mem.tail _ (List.Mem.head _))) rfl | exact hd _ (List.Mem.tail _ (List.Mem.tail _ (List.Mem.tail _ (List.Mem.head _)))) rfl
      exact OG.yesW (wanted_yes (j := 5) (d := 23) (b := false) rfl rfl (by decide) (by omega) ((hJ.vals (5, 23) (by decide) d5).trans f23)) (ow_notb ((upd_eval_in aR _ v 28 (by decide) (by omega)).trans ((hJ.vals (10, 28) (by decide) d10).trans f28)) (hK _ _ _ (upd_put _ _ _ 29 _ (by decide)) (hJ.val (k := 11) (d := 29) (x := (.bool !true)) (by simp [vf5]) (by decide) (by decide) (by decide))))
    · intro L' v w' h hd hJ K hK
      have d5 : L' 5 = true := by first | exact hd _ (List.Mem.head _) rfl | exact hd _ (List.Mem.tail _ (List.Mem.head _)) rfl | exact hd _ (List.Mem.tail _ (List.Mem.tail _ (List.Mem.head _))) rfl | exact hd _ (List.Mem.tail _ (List.Mem.tail _ (List.Mem.tail _ (List.Mem.head _)))) rfl
      have d11 : L' 11 = true := by first | exact hd _ (List.Mem.head _) rfl | exact hd _ (List.Mem.tail _ (List.Mem.head _)) rfl | exact hd _ (List.Mem.tail _ (List.Mem.tail _ (List.Mem.head _))) rfl | exact hd _ (List.Mem.tail _ (List.Mem.tail _ (List.Mem.tail _ (List.Mem.head _)))) rfl
      exact OG.yesW (wanted_none rfl) (ow_pickT ((upd_eval_in aR _ v 23 (by decide) (by omega)).trans ((hJ.vals (5, 23) (by decide) d5).trans f23)) ((upd_eval_in aR _ v 29 (by decide) (by omega)).trans ((hJ.vals (11, 29) (by decide) d11).trans f29)) (hK _ _ _ (upd_put _ _ _ 30 _ (by decide)) (hJ.val (k := 12) (d := 30) (x := (if false = true then .bool true else .bool false)) (by simp [vf5]) (by decide) (by decide) (by decide))))
    · intro L' v w' h hd hJ K hK
      have d12 : L' 12 = true := by first | exact hd _ (List.Mem.head _) rfl | exact hd _ (List.Mem.tail _ (List.Mem.head _)) rfl | exact hd _ (List.Mem.tail _ (List.Mem.tail _ (List.Mem.head _))) rfl | exact hd _ (List.Mem.tail _ (List.Mem.tail _ (List.Mem.tail _ (List.Mem.head _)))) rfl
      exact OG.yesW (wanted_none rfl) (ow_move ((upd_eval_in aR _ v 30 (by decide) (by omega)).trans ((hJ.vals (12, 30) (by decide) d12).trans f30)) (hK _ _ _ (upd_put _ _ _ 31 _ (by decide)) (hJ.val (k := 13) (d := 31) (x := (.bool false)) f31.symm (by decide) (by decide) (by decide))))
    · intro L' v w' h hd hJ K hK
      have d13 : L' 13 = true := by first | exact hd _ (List.Mem.head _) rfl | exact hd _ (List.Mem.tail _ (List.Mem.head _)) rfl | exact hd _ (List.Mem.tail _ (List.Mem.tail _ (List.Mem.head _))) rfl | exact hd _ (List.Mem.tail _ (List.Mem.tail _ (List.Mem.tail _ (List.Mem.head _)))) rfl
      exact OG.yesW (wanted_yes (j := 13) (d := 31) (b := false) rfl rfl (by decide) (by omega) ((hJ.vals (13, 31) (by decide) d13).trans f31)) (ow_move ((upd_eval_out aR _ v 4 (by decide)).trans e4) (hK _ _ _ (upd_put _ _ _ 32 _ (by decide)) (hJ.val (k := 14) (d := 32) (x := (.int .i64 z)) f32.symm (by decide) (by decide) (by decide))))
    · intro L' v w' h hd hJ K hK
      have d14 : L' 14 = true := by first | exact hd _ (List.Mem.head _) rfl | exact hd _ (List.Mem.tail _ (List.Mem.head _)) rfl | exact hd _ (List.Mem.tail _ (List.Mem.tail _ (List.Mem.head _))) rfl | exact hd _ (List.Mem.tail _ (List.Mem.tail _ (List.Mem.tail _ (List.Mem.head _)))) rfl
      have d13 : L' 13 = true := by first | exact hd _ (List.Mem.head _) rfl | exact hd _ (List.Mem.tail _ (List.Mem.head _)) rfl | exact hd _ (List.Mem.tail _ (List.Mem.tail _ (List.Mem.head _))) rfl | exact hd _ (List.Mem.tail _ (List.Mem.tail _ (List.Mem.tail _ (List.Mem.head _)))) rfl
      exact OG.yesW (wanted_yes (j := 13) (d := 31) (b := false) rfl rfl (by decide) (by omega) ((hJ.vals (13, 31) (by decide) d13).trans f31)) (ow_callA ((upd_eval_in aR _ v 32 (by decide) (by omega)).trans ((hJ.vals (14, 32) (by decide) d14).trans f32)) (cf_tNew _ _) (implNew z w') (fun u w2 hA => by
        obtain ⟨hb, hN⟩ := hA
        exact hK _ _ _ (upd_put _ _ _ 33 _ (by decide)) ((hJ.below hb).new (k := 15) (d := 33) hN (by decide) (by decide) (by decide))))
    · intro L' v w' h hd hJ K hK
      have d15 : L' 15 = true := by first | exact hd _ (List.Mem.head _) rfl | exact hd _ (List.Mem.tail _ (List.Mem.head _)) rfl | exact hd _ (List.Mem.tail _ (List.Mem.tail _ (List.Mem.head _))) rfl | exact hd _ (List.Mem.tail _ (List.Mem.tail _ (List.Mem.tail _ (List.Mem.head _)))) rfl
      have d13 : L' 13 = true := by first | exact hd _ (List.Mem.head _) rfl | exact hd _ (List.Mem.tail _ (List.Mem.head _)) rfl | exact hd _ (List.Mem.tail _ (List.Mem.tail _ (List.Mem.head _))) rfl | exact hd _ (List.Mem.tail _ (List.Mem.tail _ (List.Mem.tail _ (List.Mem.head _)))) rfl
      exact OG.yesW (wanted_yes (j := 13) (d := 31) (b := false) rfl rfl (by decide) (by omega) ((hJ.vals (13, 31) (by decide) d13).trans f31)) (ow_callA (upd_eval_in aR _ v 33 (by decide) (by omega)) (cf_tOk _ _) (newOk hz5 ((hJ.news (15, 33) (by decide) d15))) (fun u w2 hA => by
        obtain ⟨rfl, hb⟩ := hA
        exact hK _ _ _ (upd_put _ _ _ 34 _ (by decide)) ((hJ.below hb).val (k := 16) (d := 34) f34.symm (by decide) (by decide) (by decide))))
    · intro L' v w' h hd hJ K hK
      have d13 : L' 13 = true := by first | exact hd _ (List.Mem.head _) rfl | exact hd _ (List.Mem.tail _ (List.Mem.head _)) rfl | exact hd _ (List.Mem.tail _ (List.Mem.tail _ (List.Mem.head _))) rfl | exact hd _ (List.Mem.tail _ (List.Mem.tail _ (List.Mem.tail _ (List.Mem.head _)))) rfl
      exact OG.yesW (wanted_yes (j := 13) (d := 31) (b := false) rfl rfl (by decide) (by omega) ((hJ.vals (13, 31) (by decide) d13).trans f31)) (ow_move ((upd_eval_out aR _ v 4 (by decide)).trans e4) (hK _ _ _ (upd_put _ _ _ 35 _ (by decide)) (hJ.val (k := 17) (d := 35) (x := (.int .i64 z)) f35.symm (by decide) (by decide) (by decide))))
    · intro L' v w' h hd hJ K hK
      have d17 : L' 17 = true := by first | exact hd _ (List.Mem.head _) rfl | exact hd _ (List.Mem.tail _ (List.Mem.head _)) rfl | exact hd _ (List.Mem.tail _ (List.Mem.tail _ (List.Mem.head _))) rfl | exact hd _ (List.Mem.tail _ (List.Mem.tail _ (List.Mem.tail _ (List.Mem.head _)))) rfl
      have d13 : L' 13 = true := by first | exact hd _ (List.Mem.head _) rfl | exact hd _ (List.Mem.tail _ (List.Mem.head _)) rfl | exact hd _ (List.Mem.tail _ (List.Mem.tail _ (List.Mem.head _))) rfl | exact hd _ (List.Mem.tail _ (List.Mem.tail _ (List.Mem.tail _ (List.Mem.head _)))) rfl
      exact OG.yesW (wanted_yes (j := 13) (d := 31) (b := false) rfl rfl (by decide) (by omega) ((hJ.vals (13, 31) (by decide) d13).trans f31)) (ow_geqc ((upd_eval_in aR _ v 35 (by decide) (by omega)).trans ((hJ.vals (17, 35) (by decide) d17).trans f35)) (hK _ _ _ (upd_put _ _ _ 36 _ (by decide)) (hJ.val (k := 18) (d := 36) (x := (.bool (decide (1 ≤ z)))) f36.symm (by decide) (by decide) (by decide))))
    · intro L' v w' h hd hJ K hK
      have d18 : L' 18 = true := by first | exact hd _ (List.Mem.head _) rfl | exact hd _ (List.Mem.tail _ (List.Mem.head _)) rfl | exact hd _ (List.Mem.tail _ (List.Mem.tail _ (List.Mem.head _))) rfl | exact hd _ (List.Mem.tail _ (List.Mem.tail _ (List.Mem.tail _ (List.Mem.head _)))) rfl
      have d13 : L' 13 = true := by first | exact hd _ (List.Mem.head _) rfl | exact hd _ (List.Mem.tail _ (List.Mem.head _)) rfl | exact hd _ (List.Mem.tail _ (List.Mem.tail _ (List.Mem.head _))) rfl | exact hd _ (List.Mem.tail _ (List.Mem.tail _ (List.Mem.tail _ (List.Mem.head _)))) rfl
      exact OG.yesW (wanted_yes (j := 13) (d := 31) (b := false) rfl rfl (by decide) (by omega) ((hJ.vals (13, 31) (by decide) d13).trans f31)) (ow_move ((upd_eval_in aR _ v 36 (by decide) (by omega)).trans ((hJ.vals (18, 36) (by decide) d18).trans f36)) (hK _ _ _ (upd_put _ _ _ 37 _ (by decide)) (hJ.val (k := 19) (d := 37) (x := (.bool (decide (1 ≤ z)))) f37.symm (by decide) (by decide) (by decide))))
    · intro L' v w' h hd hJ K hK
      have d19 : L' 19 = true := by first | exact hd _ (List.Mem.head _) rfl | exact hd _ (List.Mem.tail _ (List.Mem.head _)) rfl | exact hd _ (List.Mem.tail _ (List.Mem.tail _ (List.Mem.head _))) rfl | exact hd _ (List.Mem.tail _ (List.Mem.tail _ (List.Mem.tail _ (List.Mem.head _)))) rfl
      by_cases h1z : 1 ≤ z
      · exact OG.yesW (wanted_yes (j := 19) (d := 37) (b := true) rfl rfl (by decide) (by omega) ((hJ.vals (19, 37) (by decide) d19).trans (by simp [vf5, h1z]))) (ow_move ((upd_eval_out aR _ v 4 (by decide)).trans e4) (hK _ _ _ (upd_put _ _ _ 38 _ (by decide)) (hJ.val (k := 20) (d := 38) (x := .int .i64 z) (by simp [vf5, h1z]) (by decide) (by decide) (by decide))))
      · exact OG.no (wanted_no (j := 19) (d := 37) (b := true) (b' := false) rfl rfl (by decide) (by omega) ((hJ.vals (19, 37) (by decide) d19).trans (by simp [vf5, h1z])) (by decide)) (hK _ _ _ (upd_put _ _ _ 38 _ (by decide)) (hJ.val (k := 20) (d := 38) (x := undef) (by simp [vf5, h1z]) (by decide) (by decide) (by decide)))
    · intro L' v w' h hd hJ K hK
      have d20 : L' 20 = true := by first | exact hd _ (List.Mem.head _) rfl | exact hd _ (List.Mem.tail _ (List.Mem.head _)) rfl | exact hd _ (List.Mem.tail _ (List.Mem.tail _ (List.Mem.head _))) rfl | exact hd _ (List.Mem.tail _ (List.Mem.tail _ (List.Mem.tail _ (List.Mem.head _)))) rfl
      have d19 : L' 19 = true := by first | exact hd _ (List.Mem.head _) rfl | exact hd _ (List.Mem.tail _ (List.Mem.head _)) rfl | exact hd _ (List.Mem.tail _ (List.Mem.tail _ (List.Mem.head _))) rfl | exact hd _ (List.Mem.tail _ (List.Mem.tail _ (List.Mem.tail _ (List.Mem.head _)))) rfl
      by_cases h1z : 1 ≤ z
      · exact OG.yesW (wanted_yes (j := 19) (d := 37) (b := true) rfl rfl (by decide) (by omega) ((hJ.vals (19, 37) (by decide) d19).trans (by simp [vf5, h1z]))) (ow_leqc (z := z) ((upd_eval_in aR _ v 38 (by decide) (by omega)).trans ((hJ.vals (20, 38) (by decide) d20).trans (by simp [vf5, h1z]))) (hK _ _ _ (upd_put _ _ _ 39 _ (by decide)) (hJ.val (k := 21) (d := 39) (x := .bool (decide (z ≤ 1000))) (by simp [vf5, h1z]) (by decide) (by decide) (by decide))))
      · exact OG.no (wanted_no (j := 19) (d := 37) (b := true) (b' := false) rfl rfl (by decide) (by omega) ((hJ.vals (19, 37) (by decide) d19).trans (by simp [vf5, h1z])) (by decide)) (hK _ _ _ (upd_put _ _ _ 39 _ (by decide)) (hJ.val (k := 21) (d := 39) (x := undef) (by simp [vf5, h1z]) (by decide) (by decide) (by decide)))
    · intro L' v w' h hd hJ K hK
      have d19 : L' 19 = true := by first | exact hd _ (List.Mem.head _) rfl | exact hd _ (List.Mem.tail _ (List.Mem.head _)) rfl | exact hd _ (List.Mem.tail _ (List.Mem.tail _ (List.Mem.head _))) rfl | exact hd _ (List.Mem.tail _ (List.Mem.tail _ (List.Mem.tail _ (List.Mem.head _)))) rfl
      have d21 : L' 21 = true := by first | exact hd _ (List.Mem.head _) rfl | exact hd _ (List.Mem.tail _ (List.Mem.head _)) rfl | exact hd _ (List.Mem.tail _ (List.Mem.tail _ (List.Mem.head _))) rfl | exact hd _ (List.Mem.tail _ (List.Mem.tail _ (List.Mem.tail _ (List.Mem.head _)))) rfl
      have d13 : L' 13 = true := by first | exact hd _ (List.Mem.head _) rfl | exact hd _ (List.Mem.tail _ (List.Mem.head _)) rfl | exact hd _ (List.Mem.tail _ (List.Mem.tail _ (List.Mem.head _))) rfl | exact hd _ (List.Mem.tail _ (List.Mem.tail _ (List.Mem.tail _ (List.Mem.head _)))) rfl
      exact OG.yesW (wanted_yes (j := 13) (d := 31) (b := false) rfl rfl (by decide) (by omega) ((hJ.vals (13, 31) (by decide) d13).trans f31)) (ow_pickF ((upd_eval_in aR _ v 37 (by decide) (by omega)).trans ((hJ.vals (19, 37) (by decide) d19).trans f37)) (upd_eval_in aR _ v 39 (by decide) (by omega)) (hK _ _ _ (upd_put _ _ _ 40 _ (by decide)) (hJ.val (k := 22) (d := 40) (x := (if decide (1 ≤ z) = true then v 39 else .bool false)) (by rw [hJ.vals (21, 39) (by decide) d21]; by_cases h1 : 1 ≤ z <;> by_cases h2 : z ≤ 1000 <;> simp [vf5, h1, h2]) (by decide) (by decide) (by decide))))
    · intro L' v w' h hd hJ K hK
      have d16 : L' 16 = true := by first | exact hd _ (List.Mem.head _) rfl | exact hd _ (List.Mem.tail _ (List.Mem.head _)) rfl | exact hd _ (List.Mem.tail _ (List.Mem.tail _ (List.Mem.head _))) rfl | exact hd _ (List.Mem.tail _ (List.Mem.tail _ (List.Mem.tail _ (List.Mem.head _)))) rfl
      have d22 : L' 22 = true := by first | exact hd _ (List.Mem.head _) rfl | exact hd _ (List.Mem.tail _ (List.Mem.head _)) rfl | exact hd _ (List.Mem.tail _ (List.Mem.tail _ (List.Mem.head _))) rfl | exact hd _ (List.Mem.tail _ (List.Mem.tail _ (List.Mem.tail _ (List.Mem.head _)))) rfl
      have d13 : L' 13 = true := by first | exact hd _ (List.Mem.head _) rfl | exact hd _ (List.Mem.tail _ (List.Mem.head _)) rfl | exact hd _ (List.Mem.tail _ (List.Mem.tail _ (List.Mem.head _))) rfl | exact hd _ (List.Mem.tail _ (List.Mem.tail _ (List.Mem.tail _ (List.Mem.head _)))) rfl
      exact OG.yesW (wanted_yes (j := 13) (d := 31) (b := false) rfl rfl (by decide) (by omega) ((hJ.vals (13, 31) (by decide) d13).trans f31)) (ow_neqb ((upd_eval_in aR _ v 34 (by decide) (by omega)).trans ((hJ.vals (16, 34) (by decide) d16).trans f34)) ((upd_eval_in aR _ v 40 (by decide) (by omega)).trans ((hJ.vals (22, 40) (by decide) d22).trans f40)) (hK _ _ _ (upd_put _ _ _ 41 _ (by decide)) (hJ.val (k := 23) (d := 41) (x := (.bool (decide (1 ≤ z ∧ z ≤ 1000) != decide (1 ≤ z ∧ z ≤ 1000)))) (by simp [vf5]) (by decide) (by decide) (by decide))))
    · intro L' v w' h hd hJ K hK
      have d13 : L' 13 = true := by first | exact hd _ (List.Mem.head _) rfl | exact hd _ (List.Mem.tail _ (List.Mem.head _)) rfl | exact hd _ (List.Mem.tail _ (List.Mem.tail _ (List.Mem.head _))) rfl | exact hd _ (List.Mem.tail _ (List.Mem.tail _ (List.Mem.tail _ (List.Mem.head _)))) rfl
      have d23 : L' 23 = true := by first | exact hd _ (List.Mem.head _) rfl | exact hd _ (List.Mem.tail _ (List.Mem.head _)) rfl | exact hd _ (List.Mem.tail _ (List.Mem.tail _ (List.Mem.head _))) rfl | exact hd _ (List.Mem.tail _ (List.Mem.tail _ (List.Mem.tail _ (List.Mem.head _)))) rfl
      exact OG.yesW (wanted_none rfl) (ow_pickT ((upd_eval_in aR _ v 31 (by decide) (by omega)).trans ((hJ.vals (13, 31) (by decide) d13).trans f31)) ((upd_eval_in aR _ v 41 (by decide) (by omega)).trans ((hJ.vals (23, 41) (by decide) d23).trans f41)) (hK _ _ _ (upd_put _ _ _ 42 _ (by decide)) (hJ.val (k := 24) (d := 42) (x := (if false = true then .bool true else .bool false)) (by simp [vf5]) (by decide) (by decide) (by decide))))
    intro L' v w' hL hJ
    have hv42 : v 42 = .bool false := (hJ.vals (24, 42) (by decide) (hL 24 (by decide))).trans f42
    refine ⟨?_⟩
    rw [HA'.out]
    simp only [upd, List.foldl_cons, List.foldl_nil, List.setIfInBounds_toArray, List.set_cons_zero, List.set_cons_succ, hv42]
    have hB := hJ.bel
    generalize v 18 = y18
    generalize v 19 = y19
    generalize v 20 = y20
    generalize v 21 = y21
    generalize v 22 = y22
    generalize v 23 = y23
    generalize v 24 = y24
    generalize v 25 = y25
    generalize v 26 = y26
    generalize v 27 = y27
    generalize v 28 = y28
    generalize v 29 = y29
    generalize v 30 = y30
    generalize v 31 = y31
    generalize v 32 = y32
    generalize v 33 = y33
    generalize v 34 = y34
    generalize v 35 = y35
    generalize v 36 = y36
    generalize v 37 = y37
    generalize v 38 = y38
    generalize v 39 = y39
    generalize v 40 = y40
    generalize v 41 = y41
    clear hJ hL hv42 HA' hsz e3 e4 t0 t1 hTl HOkI HOkS f18 f19 f20 f21 f22 f23 f24 f26 f28 f29 f30 f31 f32 f34 f35 f36 f37 f40 f41 f42
    have HT' : Hid (InT w T g c n D L now w') := HT.out.below hB
    clear HT hB
    clear W5
    have HT : Hid (InT w T g c n D L now w') := HT'.out
    clear HT'
    have t0 : w'.cell? ⟨T, 0, none⟩ = some (.slice (some ⟨g, 0, none⟩) n c) := HT.out.t.cell 0
    have t1 : w'.cell? ⟨T, 1, none⟩ = some (.int .i64 now) := HT.out.t.cell 1
    go_wp2_with fail
    refine (specTreeOk_any (some ⟨g, 0, none⟩) n c now D L w' HT.out.drawn.nds HFair.out.fits HFair.out.len HFair.out.size).mono ?_
    rintro e W7 ⟨hb4, r, rfl, hr⟩
    obtain rfl : r = ok := Bool.eq_iff_iff.2 (hr.trans HOk.out.symm)
    have HT' : Hid (InT w T g c n D L now W7) := HT.out.below hb4
    clear HT hb4 t0 t1 hr
    clear w'
    have HT : Hid (InT w T g c n D L now W7) := HT'.out
    clear HT'
    have t0 : W7.cell? ⟨T, 0, none⟩ = some (.slice (some ⟨g, 0, none⟩) n c) := HT.out.t.cell 0
    have t1 : W7.cell? ⟨T, 1, none⟩ = some (.int .i64 now) := HT.out.t.cell 1
    cases r with
    | false =>
      have HN : Hid (¬ TreeGood n D now) := fun h => by have := HOk.out.2 h; cases this
      go_wp2_with fail
      refine (implTreeFind (some ⟨g, 0, none⟩) n c now D L none 0 0 (fun _ => ByteArray.empty) W7 HT.out.drawn.nds (Or.inl rfl) HFair.out.fits HFair.out.len HFair.out.size HT.out.in64 (by unfold maxLen; omega) (fun i hi => absurd hi (Nat.not_lt_zero _))).mono ?_
      rintro e W8 ⟨hb5, r5, rfl, hr5⟩
      have e5 : r5 = -1 := hr5.no fun h => HN.out h.1
      subst e5
      have HT' : Hid (InT w T g c n D L now W8) := HT.out.below hb5
      clear HT hb5 t0 t1 hr5
      have t0 : W8.cell? ⟨T, 0, none⟩ = some (.slice (some ⟨g, 0, none⟩) n c) := HT'.out.t.cell 0
      have t1 : W8.cell? ⟨T, 1, none⟩ = some (.int .i64 now) := HT'.out.t.cell 1
      go_wp2_with fail
      refine (implTreeRefs (some ⟨g, 0, none⟩) n c now 0 D L W8 HT'.out.drawn.nds HFair.out.fits HFair.out.len HFair.out.size HT'.out.in64 (by unfold In64; omega)).mono ?_
      rintro e W9 ⟨hb6, r6, rfl, hr6⟩
      have e6 : r6 = 0 := hr6.no fun h => HN.out h.1
      subst e6
      have HE : Hid (Below w.heap.size w W9) := (HT'.out.below hb6).drawn.bel
      clear hb6 hr6
      go_wp2
      go_ret
      exact ⟨by simp, HE.out⟩
    | true =>
      have HG : Hid (TreeGood n D now) := HOk.out.1 rfl
      clear HOk
      by_cases h10 : (10 : Int) ≤ n
      · go_wp2
        go_ret
        exact ⟨rfl, HT.out.drawn.bel⟩
      have hn9 : n < 10 := by omega
      have hd10 : decide ((10 : Int) ≤ (n : Int)) = false := by simp; omega
      go_wp2_with fail
      have hn0n : 0 < n := hn1
      have hO7 := HT.out.drawn.own
      have s2 : W7.cell? ⟨g, 2, none⟩ = some (.slice (L 0).nA (D 0).nn (L 0).nc) := by have := (hO7.cells 0 hn1).2.2.1; simpa using this
      have s3 : W7.cell? ⟨g, 3, none⟩ = some (.slice (L 0).kA (D 0).kn (L 0).kc) := by have := (hO7.cells 0 hn1).2.2.2.1; simpa using this
      have s4 : W7.cell? ⟨g, 4, none⟩ = some (.int .i64 (D 0).turn) := by have := (hO7.cells 0 hn1).2.2.2.2; simpa using this
      have HSrc : Hid (Src W7 1 (.slice (L 0).nA (D 0).nn (L 0).nc) (D 0).nn (strv (lst (D 0).nn (D 0).names))) := ((hO7.lists 0 hn1).1.1).src _
      have HSrk : Hid (Src W7 1 (.slice (L 0).kA (D 0).kn (L 0).kc) (D 0).kn (intv0 (D 0).kn (D 0).kids)) := ((hO7.lists 0 hn1).1.2).src _
      have HOff : Hid (∀ ad m c', Value.slice (L 0).nA (D 0).nn (L 0).nc = .slice (some ad) m c' → ad.block < W7.heap.size) := fun ad m c' e => by
        simp only [Value.slice.injEq] at e
        exact ((hO7.lists 0 hn1).2.1 ad.block ad.off ad.spot e.1).2.2
      have HOfk : Hid (∀ ad m c', Value.slice (L 0).kA (D 0).kn (L 0).kc = .slice (some ad) m c' → ad.block < W7.heap.size) := fun ad m c' e => by
        simp only [Value.slice.injEq] at e
        exact ((hO7.lists 0 hn1).2.2 ad.block ad.off ad.spot e.1).2.2
      have hnn : (D 0).nn ≤ 100 := by have := (HFair.out.each 0 hn1).nn; omega
      have hkn : (D 0).kn ≤ 100 := by have := (HFair.out.each 0 hn1).kn; omega
      have hTl7 : T < W7.heap.size := HT.out.t.lt
      have hgl7 : g < W7.heap.size := hO7.lt
      have hFF : ∀ v v' : Nat → Value, (∀ t ∈ [(8, 67), (18, 77)], v' t.2 = v t.2) → (fun v : Nat → Value => Value.agg #[.int .i64 2, .string ByteArray.empty, v 67, v 77, .int .i64 (D 0).turn]) v' = (fun v : Nat → Value => Value.agg #[.int .i64 2, .string ByteArray.empty, v 67, v 77, .int .i64 (D 0).turn]) v := fun v v' hv => by
        have h1 := hv (8, 67) (by simp)
        have h2 := hv (18, 77) (by simp)
        simp only at h1 h2 ⊢
        rw [h1, h2]
      clear hO7
      refine wp_region_noPanic ?_
      refine wp_region_peel (fun W' => W'.cell? ⟨T, 0, none⟩ = some (.slice (some ⟨g, 0, none⟩) n c) ∧ W'.cell? ⟨g, 2, none⟩ = some (.slice (L 0).nA (D 0).nn (L 0).nc) ∧ W'.cell? ⟨g, 3, none⟩ = some (.slice (L 0).kA (D 0).kn (L 0).kc) ∧ W'.cell? ⟨g, 4, none⟩ = some (.int .i64 (D 0).turn)) _ (by kernel_rfl) rfl (by kernel_rfl) ?_ (fun hHeld => ?_)
      · exact ⟨t0, s2, s3, s4⟩
      simp only [List.pop_toArray, List.dropLast, List.size_toArray, List.length_cons, List.length_nil, Nat.reduceAdd, Nat.reduceSub, List.getElem_toArray, List.getElem_cons_succ, List.getElem_cons_zero]
      refine peel_take (i := 1) (oi := ?oi1) (v := ?v1) (fun _ _ _ _ _ h => h) hHeld ?hi1 (by kernel_rfl) (by kernel_rfl) (by kernel_rfl) ?hw1 ?hy1 ?rest1
      case hi1 =>
        simp only [List.getElem?_toArray, List.getElem?_cons_succ, List.getElem?_cons_zero]
        rfl
      case hw1 => rfl
      case hy1 =>
        intro w hSw
        obtain ⟨s0, s2, s3, s4⟩ := hSw
        go_simp
        try with_reducible rfl
      try simp only [Act.put, List.setIfInBounds_toArray, List.set_cons_zero, List.set_cons_succ]
      refine peel_take (i := 2) (oi := ?oi2) (v := ?v2) (fun _ _ _ _ _ h => h) hHeld ?hi2 (by kernel_rfl) (by kernel_rfl) (by kernel_rfl) ?hw2 ?hy2 ?rest2
      case hi2 =>
        simp only [List.getElem?_toArray, List.getElem?_cons_succ, List.getElem?_cons_zero]
        rfl
      case hw2 => rfl
      case hy2 =>
        intro w hSw
        obtain ⟨s0, s2, s3, s4⟩ := hSw
        go_simp
        try with_reducible rfl
      try simp only [Act.put, List.setIfInBounds_toArray, List.set_cons_zero, List.set_cons_succ]
      refine peel_take (i := 3) (oi := ?oi3) (v := ?v3) (fun _ _ _ _ _ h => h) hHeld ?hi3 (by kernel_rfl) (by kernel_rfl) (by kernel_rfl) ?hw3 ?hy3 ?rest3
      case hi3 =>
        simp only [List.getElem?_toArray, List.getElem?_cons_succ, List.getElem?_cons_zero]
        rfl
      case hw3 => rfl
      case hy3 =>
        intro w hSw
        obtain ⟨s0, s2, s3, s4⟩ := hSw
        go_simp
        try with_reducible rfl
      try simp only [Act.put, List.setIfInBounds_toArray, List.set_cons_zero, List.set_cons_succ]
      refine peel_take (i := 4) (oi := ?oi4) (v := ?v4) (fun _ _ _ _ _ h => h) hHeld ?hi4 (by kernel_rfl) (by kernel_rfl) (by kernel_rfl) ?hw4 ?hy4 ?rest4
      case hi4 =>
        simp only [List.getElem?_toArray, List.getElem?_cons_succ, List.getElem?_cons_zero]
        rfl
      case hw4 => rfl
      case hy4 =>
        intro w hSw
        obtain ⟨s0, s2, s3, s4⟩ := hSw
        go_simp
        try with_reducible rfl
      try simp only [Act.put, List.setIfInBounds_toArray, List.set_cons_zero, List.set_cons_succ]
      refine peel_take (i := 5) (oi := ?oi5) (v := ?v5) (fun _ _ _ _ _ h => h) hHeld ?hi5 (by kernel_rfl) (by kernel_rfl) (by kernel_rfl) ?hw5 ?hy5 ?rest5
      case hi5 =>
        simp only [List.getElem?_toArray, List.getElem?_cons_succ, List.getElem?_cons_zero]
        rfl
      case hw5 => rfl
      case hy5 =>
        intro w hSw
        obtain ⟨s0, s2, s3, s4⟩ := hSw
        go_simp
        try with_reducible rfl
      try simp only [Act.put, List.setIfInBounds_toArray, List.set_cons_zero, List.set_cons_succ]
      refine peel_take (i := 10) (oi := ?oi10) (v := ?v10) (fun _ _ _ _ _ h => h) hHeld ?hi10 (by kernel_rfl) (by kernel_rfl) (by kernel_rfl) ?hw10 ?hy10 ?rest10
      case hi10 =>
        simp only [List.getElem?_toArray, List.getElem?_cons_succ, List.getElem?_cons_zero]
        rfl
      case hw10 => rfl
      case hy10 =>
        intro w hSw
        obtain ⟨s0, s2, s3, s4⟩ := hSw
        go_simp
        try with_reducible rfl
      try simp only [Act.put, List.setIfInBounds_toArray, List.set_cons_zero, List.set_cons_succ]
      refine peel_take (i := 11) (oi := ?oi11) (v := ?v11) (fun _ _ _ _ _ h => h) hHeld ?hi11 (by kernel_rfl) (by kernel_rfl) (by kernel_rfl) ?hw11 ?hy11 ?rest11
      case hi11 =>
        simp only [List.getElem?_toArray, List.getElem?_cons_succ, List.getElem?_cons_zero]
        rfl
      case hw11 => rfl
      case hy11 =>
        intro w hSw
        obtain ⟨s0, s2, s3, s4⟩ := hSw
        go_simp
        try with_reducible rfl
      try simp only [Act.put, List.setIfInBounds_toArray, List.set_cons_zero, List.set_cons_succ]
      refine peel_take (i := 12) (oi := ?oi12) (v := ?v12) (fun _ _ _ _ _ h => h) hHeld ?hi12 (by kernel_rfl) (by kernel_rfl) (by kernel_rfl) ?hw12 ?hy12 ?rest12
      case hi12 =>
        simp only [List.getElem?_toArray, List.getElem?_cons_succ, List.getElem?_cons_zero]
        rfl
      case hw12 => rfl
      case hy12 =>
        intro w hSw
        obtain ⟨s0, s2, s3, s4⟩ := hSw
        go_simp
        try with_reducible rfl
      try simp only [Act.put, List.setIfInBounds_toArray, List.set_cons_zero, List.set_cons_succ]
      refine peel_take (i := 13) (oi := ?oi13) (v := ?v13) (fun _ _ _ _ _ h => h) hHeld ?hi13 (by kernel_rfl) (by kernel_rfl) (by kernel_rfl) ?hw13 ?hy13 ?rest13
      case hi13 =>
        simp only [List.getElem?_toArray, List.getElem?_cons_succ, List.getElem?_cons_zero]
        rfl
      case hw13 => rfl
      case hy13 =>
        intro w hSw
        obtain ⟨s0, s2, s3, s4⟩ := hSw
        go_simp
        try with_reducible rfl
      try simp only [Act.put, List.setIfInBounds_toArray, List.set_cons_zero, List.set_cons_succ]
      refine peel_take (i := 14) (oi := ?oi14) (v := ?v14) (fun _ _ _ _ _ h => h) hHeld ?hi14 (by kernel_rfl) (by kernel_rfl) (by kernel_rfl) ?hw14 ?hy14 ?rest14
      case hi14 =>
        simp only [List.getElem?_toArray, List.getElem?_cons_succ, List.getElem?_cons_zero]
        rfl
      case hw14 => rfl
      case hy14 =>
        intro w hSw
        obtain ⟨s0, s2, s3, s4⟩ := hSw
        go_simp
        try with_reducible rfl
      try simp only [Act.put, List.setIfInBounds_toArray, List.set_cons_zero, List.set_cons_succ]
      refine peel_take (i := 16) (oi := ?oi16) (v := ?v16) (fun _ _ _ _ _ h => h) hHeld ?hi16 (by kernel_rfl) (by kernel_rfl) (by kernel_rfl) ?hw16 ?hy16 ?rest16
      case hi16 =>
        simp only [List.getElem?_toArray, List.getElem?_cons_succ, List.getElem?_cons_zero]
        rfl
      case hw16 => rfl
      case hy16 =>
        intro w hSw
        obtain ⟨s0, s2, s3, s4⟩ := hSw
        go_simp
        try with_reducible rfl
      try simp only [Act.put, List.setIfInBounds_toArray, List.set_cons_zero, List.set_cons_succ]
      refine peel_take (i := 19) (oi := ?oi19) (v := ?v19) (fun _ _ _ _ _ h => h) hHeld ?hi19 (by kernel_rfl) (by kernel_rfl) (by kernel_rfl) ?hw19 ?hy19 ?rest19
      case hi19 =>
        simp only [List.getElem?_toArray, List.getElem?_cons_succ, List.getElem?_cons_zero]
        rfl
      case hw19 => rfl
      case hy19 =>
        intro w hSw
        obtain ⟨s0, s2, s3, s4⟩ := hSw
        go_simp
        try with_reducible rfl
      try simp only [Act.put, List.setIfInBounds_toArray, List.set_cons_zero, List.set_cons_succ]
      refine peel_take (i := 20) (oi := ?oi20) (v := ?v20) (fun _ _ _ _ _ h => h) hHeld ?hi20 (by kernel_rfl) (by kernel_rfl) (by kernel_rfl) ?hw20 ?hy20 ?rest20
      case hi20 =>
        simp only [List.getElem?_toArray, List.getElem?_cons_succ, List.getElem?_cons_zero]
        rfl
      case hw20 => rfl
      case hy20 =>
        intro w hSw
        obtain ⟨s0, s2, s3, s4⟩ := hSw
        go_simp
        try with_reducible rfl
      try simp only [Act.put, List.setIfInBounds_toArray, List.set_cons_zero, List.set_cons_succ]
      refine peel_take (i := 21) (oi := ?oi21) (v := ?v21) (fun _ _ _ _ _ h => h) hHeld ?hi21 (by kernel_rfl) (by kernel_rfl) (by kernel_rfl) ?hw21 ?hy21 ?rest21
      case hi21 =>
        simp only [List.getElem?_toArray, List.getElem?_cons_succ, List.getElem?_cons_zero]
        rfl
      case hw21 => rfl
      case hy21 =>
        intro w hSw
        obtain ⟨s0, s2, s3, s4⟩ := hSw
        go_simp
        try with_reducible rfl
      try simp only [Act.put, List.setIfInBounds_toArray, List.set_cons_zero, List.set_cons_succ]
      refine peel_take (i := 22) (oi := ?oi22) (v := ?v22) (fun _ _ _ _ _ h => h) hHeld ?hi22 (by kernel_rfl) (by kernel_rfl) (by kernel_rfl) ?hw22 ?hy22 ?rest22
      case hi22 =>
        simp only [List.getElem?_toArray, List.getElem?_cons_succ, List.getElem?_cons_zero]
        rfl
      case hw22 => rfl
      case hy22 =>
        intro w hSw
        obtain ⟨s0, s2, s3, s4⟩ := hSw
        go_simp
        try with_reducible rfl
      try simp only [Act.put, List.setIfInBounds_toArray, List.set_cons_zero, List.set_cons_succ]
      refine peel_take (i := 23) (oi := ?oi23) (v := ?v23) (fun _ _ _ _ _ h => h) hHeld ?hi23 (by kernel_rfl) (by kernel_rfl) (by kernel_rfl) ?hw23 ?hy23 ?rest23
      case hi23 =>
        simp only [List.getElem?_toArray, List.getElem?_cons_succ, List.getElem?_cons_zero]
        rfl
      case hw23 => rfl
      case hy23 =>
        intro w hSw
        obtain ⟨s0, s2, s3, s4⟩ := hSw
        go_simp
        try with_reducible rfl
      try simp only [Act.put, List.setIfInBounds_toArray, List.set_cons_zero, List.set_cons_succ]
      refine wpAnyH_act fun aR hA => ?_
      have e64 : aR.eval (.tmp 64) = .slice (L 0).nA (D 0).nn (L 0).nc := by rw [hA]; rfl
      have e73 : aR.eval (.tmp 73) = .slice (L 0).kA (D 0).kn (L 0).kc := by rw [hA]; rfl
      have e75 : aR.eval (.tmp 75) = .int .i64 (n : Int) := by rw [hA]; rfl
      have e82 : aR.eval (.tmp 82) = .int .i64 (D 0).turn := by rw [hA]; rfl
      have hsz : 110 < aR.tmps.size := by rw [hA]; simp
      have HA' : Hid _ := hA
      clear hA
      refine wpAnyH_plain (a0 := aR) [6, 59, 65, 66, 67, 68, 74, 76, 77, 83] (RJX [1, 2, 3, 4, 5, 10, 11, 12, 13, 14, 16, 19, 20, 21, 22, 23] W7 (fun d => if d = 59 then ⟨9, 1, 0, []⟩ else if d = 65 then ⟨9, 1, (D 0).nn, strv (lst (D 0).nn (D 0).names)⟩ else if d = 66 then ⟨9, 1, 1, [.string ⟨#[122, 122, 122]⟩]⟩ else if d = 67 then ⟨9, 1, (D 0).nn + 1, strv (lst (D 0).nn (D 0).names) ++ [.string ⟨#[122, 122, 122]⟩]⟩ else if d = 68 then ⟨3, 1, 0, []⟩ else if d = 74 then ⟨3, 1, (D 0).kn, intv0 (D 0).kn (D 0).kids⟩ else if d = 76 then ⟨3, 1, 1, [.int .i64 (n : Int)]⟩ else ⟨3, 1, (D 0).kn + 1, intv0 (D 0).kn (D 0).kids ++ [.int .i64 (n : Int)]⟩)
        [(59, 0, 6), (65, 6, 8), (66, 7, 8), (67, 8, 99), (68, 9, 15), (74, 15, 18), (76, 17, 18), (77, 18, 99)] [] 24 83 [(8, 67), (18, 77)] (fun v : Nat → Value => Value.agg #[.int .i64 2, .string ByteArray.empty, v 67, v 77, .int .i64 (D 0).turn]) 25 6 #[.int .i64 0, .string ByteArray.empty, .slice none 0 0, .slice none 0 0, .int .i64 0] 36) (by kernel_rfl) (by kernel_rfl) (by rfl) (by decide) (fun v => RJX.start (RJ.start (below_drewN (Below.refl _ _) 1) (by decide) (by decide) (by decide) (by simp)) (by decide) (by decide)) (fun L' v w' h => ⟨(h.rjb.rj.bel.cell hTl7).trans t0, (h.rjb.rj.bel.cell hgl7).trans s2, (h.rjb.rj.bel.cell hgl7).trans s3, (h.rjb.rj.bel.cell hgl7).trans s4⟩) ⟨?_, ?_, ?_, ?_, ?_, ?_, ?_, ?_, ?_, ?_, ?_, ?_, ?_, ?_, ?_, ?_, ?_, ?_, ?_, ?_, ?_, ?_, ?_, ?_, ?_, ?_, trivial⟩ ?_
      · intro L' v w' h hd hJ K hK
        exact ⟨wp_strs0 (hK _ _ _ (upd_put _ _ _ 59 _ (by decide)) (hJ.make (k := 0) (d := 59) h (by decide) (by decide) (by decide) (by decide) (by decide) hFF (by decide) (by decide) (xs := []) (n := 0) (e := 9) (size := 1) rfl rfl (by unfold maxLen; omega)))⟩
      · intro L2 v2 w2 h2 hd2 hJ2
        exact hJ2.gone (k := 1) (by decide) h2
      · intro L2 v2 w2 h2 hd2 hJ2
        exact hJ2.gone (k := 2) (by decide) h2
      · intro L2 v2 w2 h2 hd2 hJ2
        exact hJ2.gone (k := 3) (by decide) h2
      · intro L2 v2 w2 h2 hd2 hJ2
        exact hJ2.gone (k := 4) (by decide) h2
      · intro L2 v2 w2 h2 hd2 hJ2
        exact hJ2.gone (k := 5) (by decide) h2
      · intro L' v w' h hd hJ K hK
        have hdj : L' 0 = true := hd _ (List.Mem.head _) rfl
        have hlive : liveAt [(59, 0, 6), (65, 6, 8), (66, 7, 8), (67, 8, 99), (68, 9, 15), (74, 15, 18), (76, 17, 18), (77, 18, 99)] L' 59 := ⟨0, 6, by decide, hdj, h⟩
        refine ⟨wp_append_src (.tmp 59) (.tmp 64) 33 rfl W7.heap.size 9 i0 (.string ByteArray.empty) 1 16 Try.underlying33 hi hz0 hz1 hz2 rfl (by decide) (v 59) 0 [] (upd_eval_in aR _ v 59 (by decide) (by omega)) (hJ.rjb.rj.rws.own 59 hlive).1 _ (D 0).nn _ ((upd_eval_out aR _ v 64 (by decide)).trans e64) (HSrc.out.of_cells hJ.rjb.rj.bel HOff.out) (by unfold maxLen; omega) (by omega) hJ.rjb.rj.bel.size ?_⟩
        intro v' w2 hown hgrow hnil hat
        exact hK _ _ _ (upd_put _ _ _ 65 _ (by decide)) (hJ.app (k := 6) (d := 65) (s := 59) h (by decide) (by decide) (by decide) (by decide) (by decide) hFF hlive (by decide) hgrow (by decide) (by decide) (by simpa using hown) hat)
      · intro L' v w' h hd hJ K hK
        exact ⟨wp_strs1 (hK _ _ _ (upd_put _ _ _ 66 _ (by decide)) (hJ.make (k := 7) (d := 66) h (by decide) (by decide) (by decide) (by decide) (by decide) hFF (by decide) (by decide) (xs := [.string ⟨#[122, 122, 122]⟩]) (n := 1) (e := 9) (size := 1) rfl rfl (by unfold maxLen; omega)))⟩
      · intro L' v w' h hd hJ K hK
        have hdj : L' 6 = true := hd _ (List.Mem.head _) rfl
        have hdx : L' 7 = true := hd _ (List.Mem.tail _ (List.Mem.head _)) rfl
        have hlive : liveAt [(59, 0, 6), (65, 6, 8), (66, 7, 8), (67, 8, 99), (68, 9, 15), (74, 15, 18), (76, 17, 18), (77, 18, 99)] L' 65 := ⟨6, 8, by decide, hdj, h⟩
        have hlive2 : liveAt [(59, 0, 6), (65, 6, 8), (66, 7, 8), (67, 8, 99), (68, 9, 15), (74, 15, 18), (76, 17, 18), (77, 18, 99)] L' 66 := ⟨7, 8, by decide, hdx, h⟩
        obtain ⟨bx, hbx⟩ := (hJ.rjb.rj.rws.own 66 hlive2).2
        refine ⟨wp_append_src (.tmp 65) (.tmp 66) 33 rfl W7.heap.size 9 i0 (.string ByteArray.empty) 1 16 Try.underlying33 hi hz0 hz1 hz2 rfl (by decide) (v 65) (D 0).nn _ (upd_eval_in aR _ v 65 (by decide) (by omega)) (hJ.rjb.rj.rws.own 65 hlive).1 _ 1 _ (upd_eval_in aR _ v 66 (by decide) (by omega)) (owns_src (hJ.rjb.rj.rws.own 66 hlive2).1 (by simp [Value.oneCell']) hbx) (by unfold maxLen; omega) (by omega) hJ.rjb.rj.bel.size ?_⟩
        intro v' w2 hown hgrow hnil hat
        exact hK _ _ _ (upd_put _ _ _ 67 _ (by decide)) (hJ.app (k := 8) (d := 67) (s := 65) h (by decide) (by decide) (by decide) (by decide) (by decide) hFF hlive (by decide) hgrow (by decide) (by decide) (by simpa using hown) hat)
      · intro L' v w' h hd hJ K hK
        exact ⟨wp_ints0 (hK _ _ _ (upd_put _ _ _ 68 _ (by decide)) (hJ.make (k := 9) (d := 68) h (by decide) (by decide) (by decide) (by decide) (by decide) hFF (by decide) (by decide) (xs := []) (n := 0) (e := 3) (size := 1) rfl rfl (by unfold maxLen; omega)))⟩
      · intro L2 v2 w2 h2 hd2 hJ2
        exact hJ2.gone (k := 10) (by decide) h2
      · intro L2 v2 w2 h2 hd2 hJ2
        exact hJ2.gone (k := 11) (by decide) h2
      · intro L2 v2 w2 h2 hd2 hJ2
        exact hJ2.gone (k := 12) (by decide) h2
      · intro L2 v2 w2 h2 hd2 hJ2
        exact hJ2.gone (k := 13) (by decide) h2
      · intro L2 v2 w2 h2 hd2 hJ2
        exact hJ2.gone (k := 14) (by decide) h2
      · intro L' v w' h hd hJ K hK
        have hdj : L' 9 = true := hd _ (List.Mem.head _) rfl
        have hlive : liveAt [(59, 0, 6), (65, 6, 8), (66, 7, 8), (67, 8, 99), (68, 9, 15), (74, 15, 18), (76, 17, 18), (77, 18, 99)] L' 68 := ⟨9, 15, by decide, hdj, h⟩
        refine ⟨wp_append_src (.tmp 68) (.tmp 73) 34 rfl W7.heap.size 3 m0 (.int .i64 0) 1 8 Try.underlying34 hm hx0 hx1 hx2 rfl (by decide) (v 68) 0 [] (upd_eval_in aR _ v 68 (by decide) (by omega)) (hJ.rjb.rj.rws.own 68 hlive).1 _ (D 0).kn _ ((upd_eval_out aR _ v 73 (by decide)).trans e73) (HSrk.out.of_cells hJ.rjb.rj.bel HOfk.out) (by unfold maxLen; omega) (by omega) hJ.rjb.rj.bel.size ?_⟩
        intro v' w2 hown hgrow hnil hat
        exact hK _ _ _ (upd_put _ _ _ 74 _ (by decide)) (hJ.app (k := 15) (d := 74) (s := 68) h (by decide) (by decide) (by decide) (by decide) (by decide) hFF hlive (by decide) hgrow (by decide) (by decide) (by simpa [intv0] using hown) hat)
      · intro L2 v2 w2 h2 hd2 hJ2
        exact hJ2.gone (k := 16) (by decide) h2
      · intro L' v w' h hd hJ K hK
        exact ⟨wp_ints1 (z := (n : Int)) ((upd_eval_out aR _ v 75 (by decide)).trans e75) (hK _ _ _ (upd_put _ _ _ 76 _ (by decide)) (hJ.make (k := 17) (d := 76) h (by decide) (by decide) (by decide) (by decide) (by decide) hFF (by decide) (by decide) (xs := [.int .i64 (n : Int)]) (n := 1) (e := 3) (size := 1) rfl rfl (by unfold maxLen; omega)))⟩
      · intro L' v w' h hd hJ K hK
        have hdj : L' 15 = true := hd _ (List.Mem.head _) rfl
        have hdx : L' 17 = true := hd _ (List.Mem.tail _ (List.Mem.head _)) rfl
        have hlive : liveAt [(59, 0, 6), (65, 6, 8), (66, 7, 8), (67, 8, 99), (68, 9, 15), (74, 15, 18), (76, 17, 18), (77, 18, 99)] L' 74 := ⟨15, 18, by decide, hdj, h⟩
        have hlive2 : liveAt [(59, 0, 6), (65, 6, 8), (66, 7, 8), (67, 8, 99), (68, 9, 15), (74, 15, 18), (76, 17, 18), (77, 18, 99)] L' 76 := ⟨17, 18, by decide, hdx, h⟩
        obtain ⟨bx, hbx⟩ := (hJ.rjb.rj.rws.own 76 hlive2).2
        refine ⟨wp_append_src (.tmp 74) (.tmp 76) 34 rfl W7.heap.size 3 m0 (.int .i64 0) 1 8 Try.underlying34 hm hx0 hx1 hx2 rfl (by decide) (v 74) (D 0).kn _ (upd_eval_in aR _ v 74 (by decide) (by omega)) (hJ.rjb.rj.rws.own 74 hlive).1 _ 1 _ (upd_eval_in aR _ v 76 (by decide) (by omega)) (owns_src (hJ.rjb.rj.rws.own 76 hlive2).1 (by simp [Value.oneCell']) hbx) (by unfold maxLen; omega) (by omega) hJ.rjb.rj.bel.size ?_⟩
        intro v' w2 hown hgrow hnil hat
        exact hK _ _ _ (upd_put _ _ _ 77 _ (by decide)) (hJ.app (k := 18) (d := 77) (s := 74) h (by decide) (by decide) (by decide) (by decide) (by decide) hFF hlive (by decide) hgrow (by decide) (by decide) (by simpa using hown) hat)
      · intro L2 v2 w2 h2 hd2 hJ2
        exact hJ2.gone (k := 19) (by decide) h2
      · intro L2 v2 w2 h2 hd2 hJ2
        exact hJ2.gone (k := 20) (by decide) h2
      · intro L2 v2 w2 h2 hd2 hJ2
        exact hJ2.gone (k := 21) (by decide) h2
      · intro L2 v2 w2 h2 hd2 hJ2
        exact hJ2.gone (k := 22) (by decide) h2
      · intro L2 v2 w2 h2 hd2 hJ2
        exact hJ2.gone (k := 23) (by decide) h2
      · intro L' v w' h hd hJ K hK
        have hd8 : L' 8 = true := hd _ (List.Mem.head _) rfl
        have hd18 : L' 18 = true := hd _ (List.Mem.tail _ (List.Mem.head _)) rfl
        have hl67 : liveAt [(59, 0, 6), (65, 6, 8), (66, 7, 8), (67, 8, 99), (68, 9, 15), (74, 15, 18), (76, 17, 18), (77, 18, 99)] L' 67 := ⟨8, 99, by decide, hd8, hJ.rjb.rj.none⟩
        have hl77 : liveAt [(59, 0, 6), (65, 6, 8), (66, 7, 8), (67, 8, 99), (68, 9, 15), (74, 15, 18), (76, 17, 18), (77, 18, 99)] L' 77 := ⟨18, 99, by decide, hd18, hJ.rjb.rj.none⟩
        obtain ⟨b67, hb67⟩ := (hJ.rjb.rj.rws.own 67 hl67).2
        obtain ⟨b77, hb77⟩ := (hJ.rjb.rj.rws.own 77 hl77).2
        obtain ⟨c67, hv67, _⟩ := owned_form (hJ.rjb.rj.rws.own 67 hl67).1 hb67
        obtain ⟨c77, hv77, _⟩ := owned_form (hJ.rjb.rj.rws.own 77 hl77).1 hb77
        have hK' := hK _ _ _ (upd_put _ _ _ 83 _ (by decide)) (hJ.build (by intro t ht; simp at ht; rcases ht with rfl | rfl; exact hd8; exact hd18) (by decide) hFF (by decide) (by decide) (by decide) (by decide))
        try dsimp only at hK'
        rw [hv67, hv77] at hK'
        exact ⟨wp_rootM ((upd_eval_in aR _ v 67 (by decide) (by omega)).trans hv67) ((upd_eval_in aR _ v 77 (by decide) (by omega)).trans hv77) ((upd_eval_out aR _ v 82 (by decide)).trans e82) hK'⟩
      · intro L' v w' h hd hJ K hK
        exact ⟨wp_allocNode (hK _ _ _ (upd_put _ _ _ 6 _ (by decide)) (hJ.alloc (by decide) (by decide) (by decide) hFF (by decide) (by decide)))⟩
      intro L' v w' hL hJ
      obtain ⟨_, hv83⟩ := hJ.rjb.built (hL 24 (by decide))
      obtain ⟨R, hv6, hRge, hRb, hRne⟩ := hJ.box (hL 25 (by decide))
      have hl67 : liveAt [(59, 0, 6), (65, 6, 8), (66, 7, 8), (67, 8, 99), (68, 9, 15), (74, 15, 18), (76, 17, 18), (77, 18, 99)] L' 67 := ⟨8, 99, by decide, hL 8 (by decide), hJ.rjb.rj.none⟩
      have hl77 : liveAt [(59, 0, 6), (65, 6, 8), (66, 7, 8), (67, 8, 99), (68, 9, 15), (74, 15, 18), (76, 17, 18), (77, 18, 99)] L' 77 := ⟨18, 99, by decide, hL 18 (by decide), hJ.rjb.rj.none⟩
      have hown := (hJ.rjb.rj.rws.own 67 hl67).1
      have howk := (hJ.rjb.rj.rws.own 77 hl77).1
      obtain ⟨g8, hb67⟩ := (hJ.rjb.rj.rws.own 67 hl67).2
      obtain ⟨g9, hb77⟩ := (hJ.rjb.rj.rws.own 77 hl77).2
      have hR8 : g8 ≠ R := fun e => hRne 67 hl67 (by rw [hb67, e])
      have hR9 : g9 ≠ R := fun e => hRne 77 hl77 (by rw [hb77, e])
      obtain ⟨c8, hv8, hge8, hlt8⟩ := owned_form hown hb67
      obtain ⟨c9, hv9, hge9, hlt9⟩ := owned_form howk hb77
      have hown' : w'.ownsRow W7.heap.size 9 1 (.slice (some ⟨g8, 0, none⟩) ((D 0).nn + 1) c8) ((D 0).nn + 1) (strv (lst ((D 0).nn + 1) (rootM (D 0) n).names)) := by
        have e1 : strv (lst ((D 0).nn + 1) (rootM (D 0) n).names) = strv (lst (D 0).nn (D 0).names) ++ [.string ⟨#[122, 122, 122]⟩] := by
          have := lst_snoc (D 0).nn (D 0).names ⟨#[122, 122, 122]⟩
          rw [show (rootM (D 0) n).names = fun i => if i < (D 0).nn then (D 0).names i else ⟨#[122, 122, 122]⟩ from rfl, ← this, ← strv_append]
          rfl
        have e2 : v 67 = .slice (some ⟨g8, 0, none⟩) ((D 0).nn + 1) c8 := hv8
        rw [e1, ← e2]; exact hown
      have howk' : w'.ownsRow W7.heap.size 3 1 (.slice (some ⟨g9, 0, none⟩) ((D 0).kn + 1) c9) ((D 0).kn + 1) (intv0 ((D 0).kn + 1) (rootM (D 0) n).kids) := by
        have e1 : intv0 ((D 0).kn + 1) (rootM (D 0) n).kids = intv0 (D 0).kn (D 0).kids ++ [.int .i64 (n : Int)] := (intv0_snoc _ _ _).symm
        have e2 : v 77 = .slice (some ⟨g9, 0, none⟩) ((D 0).kn + 1) c9 := hv9
        rw [e1, ← e2]; exact howk
      have hnd : NdIn w' (rootM (D 0) n) ⟨some ⟨g8, 0, none⟩, c8, some ⟨g9, 0, none⟩, c9⟩ := ⟨(ownsRow_strs hown' (by simp [lst_length]) hlt8).congr (fun i hi => lst_getD _ _ _ hi), ownsRow_ints howk' hlt9⟩
      have hbw := HT.out.drawn.bel.size
      have HI : Hid (Below W7.heap.size W7 (((((w'.setCell ⟨R, 0, none⟩ (.int .i64 2)).setCell ⟨R, 1, none⟩ (.string ByteArray.empty)).setCell ⟨R, 2, none⟩ (.slice (some ⟨g8, 0, none⟩) ((D 0).nn + 1) c8)).setCell ⟨R, 3, none⟩ (.slice (some ⟨g9, 0, none⟩) ((D 0).kn + 1) c9)).setCell ⟨R, 4, none⟩ (.int .i64 (D 0).turn)) ∧ InR w R (rootM (D 0) n) g8 c8 g9 c9 (((((w'.setCell ⟨R, 0, none⟩ (.int .i64 2)).setCell ⟨R, 1, none⟩ (.string ByteArray.empty)).setCell ⟨R, 2, none⟩ (.slice (some ⟨g8, 0, none⟩) ((D 0).nn + 1) c8)).setCell ⟨R, 3, none⟩ (.slice (some ⟨g9, 0, none⟩) ((D 0).kn + 1) c9)).setCell ⟨R, 4, none⟩ (.int .i64 (D 0).turn))) :=
        ⟨bel_put (bel_put (bel_put (bel_put (bel_put hJ.rjb.rj.bel _ hRge) _ hRge) _ hRge) _ hRge) _ hRge, ((((hnd.put5 hR8 hR9 _).put5 hR8 hR9 _).put5 hR8 hR9 _).put5 hR8 hR9 _).put5 hR8 hR9 _, ((((hRb.set 0 _).set 1 _).set 2 _).set 3 _).set 4 _, by omega, by omega, by simpa [World.setCell] using hlt8, by simpa [World.setCell] using hlt9⟩
      have q0 := hRb.cell 0
      have q1 := hRb.cell 1
      have q2 := hRb.cell 2
      have q3 := hRb.cell 3
      have q4 := hRb.cell 4
      have qf0 := hRb.frozen 0
      have qf1 := hRb.frozen 1
      have qf2 := hRb.frozen 2
      have qf3 := hRb.frozen 3
      have qf4 := hRb.frozen 4
      have e67 : v 67 = .slice (some ⟨g8, 0, none⟩) ((D 0).nn + 1) c8 := hv8
      have e77 : v 77 = .slice (some ⟨g9, 0, none⟩) ((D 0).kn + 1) c9 := hv9
      try dsimp only at hv83
      rw [e67, e77] at hv83
      refine ⟨?_⟩
      show Oper.wp _ _ _ _ _ _
      rw [HA'.out]
      simp only [upd, List.foldl_cons, List.foldl_nil, List.setIfInBounds_toArray, List.set_cons_zero, List.set_cons_succ, hv83, hv6]
      generalize v 59 = y59
      generalize v 65 = y65
      generalize v 66 = y66
      generalize v 67 = y67
      generalize v 68 = y68
      generalize v 74 = y74
      generalize v 76 = y76
      generalize v 77 = y77
      clear hJ hL hown hown' howk howk' hv8 hv9 e67 e77 hv83 hv6 hRb hRne hnd HSrc HOff HSrk HOfk HA' hsz e64 e73 e75 e82 hl67 hl77 hb67 hb77 hFF hHeld
      go_simp
      refine NoPanic.normal ?_
      revert HI
      generalize (((((w'.setCell ⟨R, 0, none⟩ (.int .i64 2)).setCell ⟨R, 1, none⟩ (.string ByteArray.empty)).setCell ⟨R, 2, none⟩ (.slice (some ⟨g8, 0, none⟩) ((D 0).nn + 1) c8)).setCell ⟨R, 3, none⟩ (.slice (some ⟨g9, 0, none⟩) ((D 0).kn + 1) c9)).setCell ⟨R, 4, none⟩ (.int .i64 (D 0).turn)) = WA
      intro HI
      clear q0 q1 q2 q3 q4 qf0 qf1 qf2 qf3 qf4 hge8 hge9 hlt8 hlt9 hRge hR8 hR9
      clear w'
      have HR : Hid (InR w R (rootM (D 0) n) g8 c8 g9 c9 WA) := HI.out.2
      have HT' : Hid (InT w T g c n D L now WA) := HT.out.below HI.out.1
      clear HI t0 t1 s2 s3 s4 hTl7 hgl7 HT hbw
      clear W7
      have HT : Hid (InT w T g c n D L now WA) := HT'.out
      clear HT'
      have hO := HT.out.drawn.own
      have t0 : WA.cell? ⟨T, 0, none⟩ = some (.slice (some ⟨g, 0, none⟩) n c) := HT.out.t.cell 0
      have t1 : WA.cell? ⟨T, 1, none⟩ = some (.int .i64 now) := HT.out.t.cell 1
      have r0 : WA.cell? ⟨R, 0, none⟩ = some (.int .i64 2) := HR.out.r.cell 0
      have r1 : WA.cell? ⟨R, 1, none⟩ = some (.string ByteArray.empty) := HR.out.r.cell 1
      have r2 : WA.cell? ⟨R, 2, none⟩ = some (.slice (some ⟨g8, 0, none⟩) ((D 0).nn + 1) c8) := HR.out.r.cell 2
      have r3 : WA.cell? ⟨R, 3, none⟩ = some (.slice (some ⟨g9, 0, none⟩) ((D 0).kn + 1) c9) := HR.out.r.cell 3
      have r4 : WA.cell? ⟨R, 4, none⟩ = some (.int .i64 (D 0).turn) := HR.out.r.cell 4
      have hRl : R < WA.heap.size := HR.out.r.lt
      have HSrc : Hid (Src WA 5 (.slice (if c = 1 then some ⟨g, 0, none⟩ else some ⟨g, 5, none⟩) (n - 1) (c - 1)) (n - 1) (rowsOf D L 1 (n - 1))) := src_tail hO hn1
      have hgl : g < WA.heap.size := hO.lt
      have hnc : n ≤ c := hO.room
      have HOff : Hid (∀ ad m c', Value.slice (if c = 1 then some ⟨g, 0, none⟩ else some ⟨g, 5, none⟩) (n - 1) (c - 1) = .slice (some ad) m c' → ad.block < WA.heap.size) := fun ad m c' e => by
        exact src_blk e hgl
      have hTl : T < WA.heap.size := HT.out.t.lt
      have h1n : (1 : Int) ≤ (n : Int) := by omega
      have hFF : ∀ v v' : Nat → Value, (∀ t ∈ [(5, 89)], v' t.2 = v t.2) → (fun v : Nat → Value => Value.agg #[v 89, .int .i64 now]) v' = (fun v : Nat → Value => Value.agg #[v 89, .int .i64 now]) v := fun v v' hv => by
        have h1 := hv (5, 89) (by simp)
        simp only at h1 ⊢
        rw [h1]
      clear hO
      go_wp2_with fail
      refine wp_region_noPanic ?_
      refine wp_region_peel (fun W' => W'.cell? ⟨T, 0, none⟩ = some (.slice (some ⟨g, 0, none⟩) n c) ∧ W'.cell? ⟨T, 1, none⟩ = some (.int .i64 now) ∧ W'.cell? ⟨R, 0, none⟩ = some (.int .i64 2) ∧ W'.cell? ⟨R, 1, none⟩ = some (.string ByteArray.empty) ∧ W'.cell? ⟨R, 2, none⟩ = some (.slice (some ⟨g8, 0, none⟩) ((D 0).nn + 1) c8) ∧ W'.cell? ⟨R, 3, none⟩ = some (.slice (some ⟨g9, 0, none⟩) ((D 0).kn + 1) c9) ∧ W'.cell? ⟨R, 4, none⟩ = some (.int .i64 (D 0).turn)) _ (by kernel_rfl) rfl (by kernel_rfl) ?_ (fun hHeld => ?_)
      · exact ⟨t0, t1, r0, r1, r2, r3, r4⟩
      simp only [List.pop_toArray, List.dropLast, List.size_toArray, List.length_cons, List.length_nil, Nat.reduceAdd, Nat.reduceSub, List.getElem_toArray, List.getElem_cons_succ, List.getElem_cons_zero]
      refine peel_take (i := 0) (oi := ?oi0a) (v := ?v0a) (fun _ _ _ _ _ h => h) hHeld ?hi0a (by kernel_rfl) (by kernel_rfl) (by kernel_rfl) ?hw0a ?hy0a ?rest0a
      case hi0a =>
        simp only [List.getElem?_toArray, List.getElem?_cons_zero]
        rfl
      case hw0a => rfl
      case hy0a =>
        intro w hSw
        obtain ⟨s0, s1, p0, p1, p2, p3, p4⟩ := hSw
        go_simp
        try with_reducible rfl
      try simp only [Act.put, List.setIfInBounds_toArray, List.set_cons_zero, List.set_cons_succ]
      refine peel_take (i := 2) (oi := ?oi2a) (v := ?v2a) (fun _ _ _ _ _ h => h) hHeld ?hi2a (by kernel_rfl) (by kernel_rfl) (by kernel_rfl) ?hw2a ?hy2a ?rest2a
      case hi2a =>
        simp only [List.getElem?_toArray, List.getElem?_cons_succ, List.getElem?_cons_zero]
        rfl
      case hw2a => rfl
      case hy2a =>
        intro w hSw
        obtain ⟨s0, s1, p0, p1, p2, p3, p4⟩ := hSw
        go_simp
        try with_reducible rfl
      try simp only [Act.put, List.setIfInBounds_toArray, List.set_cons_zero, List.set_cons_succ]
      refine peel_take (i := 3) (oi := ?oi3a) (v := ?v3a) (fun _ _ _ _ _ h => h) hHeld ?hi3a (by kernel_rfl) (by kernel_rfl) (by kernel_rfl) ?hw3a ?hy3a ?rest3a
      case hi3a =>
        simp only [List.getElem?_toArray, List.getElem?_cons_succ, List.getElem?_cons_zero]
        rfl
      case hw3a => rfl
      case hy3a =>
        intro w hSw
        obtain ⟨s0, s1, p0, p1, p2, p3, p4⟩ := hSw
        go_simp
        try with_reducible rfl
      try simp only [Act.put, List.setIfInBounds_toArray, List.set_cons_zero, List.set_cons_succ]
      refine peel_take (i := 4) (oi := ?oi4a) (v := ?v4a) (fun _ _ _ _ _ h => h) hHeld ?hi4a (by kernel_rfl) (by kernel_rfl) (by kernel_rfl) ?hw4a ?hy4a ?rest4a
      case hi4a =>
        simp only [List.getElem?_toArray, List.getElem?_cons_succ, List.getElem?_cons_zero]
        rfl
      case hw4a => rfl
      case hy4a =>
        intro w hSw
        obtain ⟨s0, s1, p0, p1, p2, p3, p4⟩ := hSw
        go_simp
        try with_reducible rfl
      try simp only [Act.put, List.setIfInBounds_toArray, List.set_cons_zero, List.set_cons_succ]
      refine peel_take (i := 6) (oi := ?oi6a) (v := ?v6a) (fun _ _ _ _ _ h => h) hHeld ?hi6a (by kernel_rfl) (by kernel_rfl) (by kernel_rfl) ?hw6a ?hy6a ?rest6a
      case hi6a =>
        simp only [List.getElem?_toArray, List.getElem?_cons_succ, List.getElem?_cons_zero]
        rfl
      case hw6a => rfl
      case hy6a =>
        intro w hSw
        obtain ⟨s0, s1, p0, p1, p2, p3, p4⟩ := hSw
        go_simp
        try with_reducible rfl
      try simp only [Act.put, List.setIfInBounds_toArray, List.set_cons_zero, List.set_cons_succ]
      refine peel_take (i := 7) (oi := ?oi7a) (v := ?v7a) (fun _ _ _ _ _ h => h) hHeld ?hi7a (by kernel_rfl) (by kernel_rfl) (by kernel_rfl) ?hw7a ?hy7a ?rest7a
      case hi7a =>
        simp only [List.getElem?_toArray, List.getElem?_cons_succ, List.getElem?_cons_zero]
        rfl
      case hw7a => rfl
      case hy7a =>
        intro w hSw
        obtain ⟨s0, s1, p0, p1, p2, p3, p4⟩ := hSw
        go_simp
        try with_reducible rfl
      try simp only [Act.put, List.setIfInBounds_toArray, List.set_cons_zero, List.set_cons_succ]
      refine wpAnyH_act fun aR hA => ?_
      have eS : aR.eval (.tmp 88) = .slice (if c = 1 then some ⟨g, 0, none⟩ else some ⟨g, 5, none⟩) (n - 1) (c - 1) := by rw [hA]; rfl
      have eN : aR.eval (.tmp 91) = .int .i64 now := by rw [hA]; rfl
      have eR : aR.eval (.tmp 84) = .agg #[.int .i64 2, .string ByteArray.empty, .slice (some ⟨g8, 0, none⟩) ((D 0).nn + 1) c8, .slice (some ⟨g9, 0, none⟩) ((D 0).kn + 1) c9, .int .i64 (D 0).turn] := by rw [hA]; rfl
      have hsz : 130 < aR.tmps.size := by rw [hA]; simp
      have HA' : Hid _ := hA
      clear hA
      refine wpAnyH_plain (a0 := aR) [7, 85, 89, 92] (RJX [0, 2, 3, 4, 6, 7] WA (fun d => if d = 85 then ⟨36, 5, 1, (nd5 (rootM (D 0) n) ⟨some ⟨g8, 0, none⟩, c8, some ⟨g9, 0, none⟩, c9⟩)⟩ else if d = 89 then ⟨36, 5, 1 + (n - 1), (nd5 (rootM (D 0) n) ⟨some ⟨g8, 0, none⟩, c8, some ⟨g9, 0, none⟩, c9⟩) ++ rowsOf D L 1 (n - 1)⟩ else ⟨36, 5, 1 + (n - 1), (nd5 (rootM (D 0) n) ⟨some ⟨g8, 0, none⟩, c8, some ⟨g9, 0, none⟩, c9⟩) ++ rowsOf D L 1 (n - 1)⟩)
        [(85, 1, 5), (89, 5, 99)] [] 8 92 [(5, 89)] (fun v : Nat → Value => Value.agg #[v 89, .int .i64 now]) 9 7 #[.slice none 0 0, .int .i64 0] 25) (by kernel_rfl) (by kernel_rfl) (by rfl) (by decide) (fun v => RJX.start (RJ.start (below_drewN (Below.refl _ _) 1) (by decide) (by decide) (by decide) (by simp)) (by decide) (by decide)) (fun L' v w' h => ⟨(h.rjb.rj.bel.cell hTl).trans t0, (h.rjb.rj.bel.cell hTl).trans t1, (h.rjb.rj.bel.cell hRl).trans r0, (h.rjb.rj.bel.cell hRl).trans r1, (h.rjb.rj.bel.cell hRl).trans r2, (h.rjb.rj.bel.cell hRl).trans r3, (h.rjb.rj.bel.cell hRl).trans r4⟩) ⟨?_, ?_, ?_, ?_, ?_, ?_, ?_, ?_, ?_, ?_, trivial⟩ ?_
      · intro L2 v2 w2 h2 hd2 hJ2
        exact hJ2.gone (k := 0) (by decide) h2
      · intro L' v w' h hd hJ K hK
        exact ⟨wp_nodes1 ((upd_eval_out aR _ v 84 (by decide)).trans eR) (hK _ _ _ (upd_put _ _ _ 85 _ (by decide)) (hJ.make (k := 1) (d := 85) h (by decide) (by decide) (by decide) (by decide) (by decide) hFF (by decide) (by decide) (xs := (nd5 (rootM (D 0) n) ⟨some ⟨g8, 0, none⟩, c8, some ⟨g9, 0, none⟩, c9⟩)) (n := 1) (e := 36) (size := 5) rfl rfl (by unfold maxLen; omega)))⟩
      · intro L2 v2 w2 h2 hd2 hJ2
        exact hJ2.gone (k := 2) (by decide) h2
      · intro L2 v2 w2 h2 hd2 hJ2
        exact hJ2.gone (k := 3) (by decide) h2
      · intro L2 v2 w2 h2 hd2 hJ2
        exact hJ2.gone (k := 4) (by decide) h2
      · intro L' v w' h hd hJ K hK
        have hdj : L' 1 = true := hd _ (List.Mem.head _) rfl
        have hlive : liveAt [(85, 1, 5), (89, 5, 99)] L' 85 := ⟨1, 5, by decide, hdj, h⟩
        refine ⟨wp_append_src (.tmp 85) (.tmp 88) 23 rfl WA.heap.size 36 j0 (.agg #[.int .i64 0, .string ByteArray.empty, .slice none 0 0, .slice none 0 0, .int .i64 0]) 5 80 Try.underlying23 hj0 hy0 hy1 hy2 rfl (by decide) (v 85) 1 (nd5 (rootM (D 0) n) ⟨some ⟨g8, 0, none⟩, c8, some ⟨g9, 0, none⟩, c9⟩) (upd_eval_in aR _ v 85 (by decide) (by omega)) (hJ.rjb.rj.rws.own 85 hlive).1 _ (n - 1) _ ((upd_eval_out aR _ v 88 (by decide)).trans eS) (HSrc.out.of_cells hJ.rjb.rj.bel HOff.out) (by unfold maxLen; omega) (by omega) hJ.rjb.rj.bel.size ?_⟩
        intro v' w2 hown hgrow hnil hat
        exact hK _ _ _ (upd_put _ _ _ 89 _ (by decide)) (hJ.app (k := 5) (d := 89) (s := 85) h (by decide) (by decide) (by decide) (by decide) (by decide) hFF hlive (by decide) hgrow (by decide) (by decide) (by simpa using hown) hat)
      · intro L2 v2 w2 h2 hd2 hJ2
        exact hJ2.gone (k := 6) (by decide) h2
      · intro L2 v2 w2 h2 hd2 hJ2
        exact hJ2.gone (k := 7) (by decide) h2
      · intro L' v w' h hd hJ K hK
        have hdf : L' 5 = true := hd _ (List.Mem.head _) rfl
        have hlf : liveAt [(85, 1, 5), (89, 5, 99)] L' 89 := ⟨5, 99, by decide, hdf, hJ.rjb.rj.none⟩
        obtain ⟨bf, hbf⟩ := (hJ.rjb.rj.rws.own 89 hlf).2
        obtain ⟨cf, hvf, _⟩ := owned_form (hJ.rjb.rj.rws.own 89 hlf).1 hbf
        have hK' := hK _ _ _ (upd_put _ _ _ 92 _ (by decide)) (hJ.build (by intro t ht; simp at ht; rcases ht with rfl; exact hdf) (by decide) hFF (by decide) (by decide) (by decide) (by decide))
        try dsimp only at hK'
        rw [hvf] at hK'
        exact ⟨wp_tree2 ((upd_eval_in aR _ v 89 (by decide) (by omega)).trans hvf) ((upd_eval_out aR _ v 91 (by decide)).trans eN) hK'⟩
      · intro L' v w' h hd hJ K hK
        exact ⟨wp_allocTree (hK _ _ _ (upd_put _ _ _ 7 _ (by decide)) (hJ.alloc (by decide) (by decide) (by decide) hFF (by decide) (by decide)))⟩
      intro L' v w' hL hJ
      obtain ⟨_, hvt⟩ := hJ.rjb.built (hL 8 (by decide))
      obtain ⟨Xa, hvx, hXge, hXb, hXne⟩ := hJ.box (hL 9 (by decide))
      have hlf : liveAt [(85, 1, 5), (89, 5, 99)] L' 89 := ⟨5, 99, by decide, hL 5 (by decide), hJ.rjb.rj.none⟩
      have hown := (hJ.rjb.rj.rws.own 89 hlf).1
      obtain ⟨ga, hbf⟩ := (hJ.rjb.rj.rws.own 89 hlf).2
      have hXg : ga ≠ Xa := fun e => hXne 89 hlf (by rw [hbf, e])
      obtain ⟨ca, hvf', hgge, hglt⟩ := owned_form hown hbf
      have hvf : v 89 = .slice (some ⟨ga, 0, none⟩) n ca := by
        have e : 1 + (n - 1) = n := by omega
        rw [← e]; exact hvf'
      have hrow : w'.ownsRow WA.heap.size 36 5 (.slice (some ⟨ga, 0, none⟩) n ca) n (rowsOf (putNd D 0 (rootM (D 0) n)) (putLoc L 0 ⟨some ⟨g8, 0, none⟩, c8, some ⟨g9, 0, none⟩, c9⟩) 0 n) := by
        have e : 1 + (n - 1) = n := by omega
        have e1 : rowsOf (putNd D 0 (rootM (D 0) n)) (putLoc L 0 ⟨some ⟨g8, 0, none⟩, c8, some ⟨g9, 0, none⟩, c9⟩) 0 n = (nd5 (rootM (D 0) n) ⟨some ⟨g8, 0, none⟩, c8, some ⟨g9, 0, none⟩, c9⟩) ++ rowsOf D L 1 (n - 1) := rows_root hn1 D L
        have h9 : w'.ownsRow WA.heap.size 36 5 (v 89) (1 + (n - 1)) ((nd5 (rootM (D 0) n) ⟨some ⟨g8, 0, none⟩, c8, some ⟨g9, 0, none⟩, c9⟩) ++ rowsOf D L 1 (n - 1)) := hown
        rw [e, hvf] at h9
        rw [e1]; exact h9
      have hbw := HT.out.drawn.bel.size
      have hBf : Below WA.heap.size WA ((w'.setCell ⟨Xa, 0, none⟩ (.slice (some ⟨ga, 0, none⟩) n ca)).setCell ⟨Xa, 1, none⟩ (.int .i64 now)) := bel_put (bel_put hJ.rjb.rj.bel _ hXge) _ hXge
      have HX : Hid (InC w WA Xa ga ca n (putNd D 0 (rootM (D 0) n)) (putLoc L 0 ⟨some ⟨g8, 0, none⟩, c8, some ⟨g9, 0, none⟩, c9⟩) now ((w'.setCell ⟨Xa, 0, none⟩ (.slice (some ⟨ga, 0, none⟩) n ca)).setCell ⟨Xa, 1, none⟩ (.int .i64 now))) :=
        ⟨hBf, (hXb.set 0 _).set 1 _, OwnT.of_row (owns_off (owns_off hrow hXg _) hXg _) hbw (lists_root HT.out.drawn.own HR.out hBf hgge), hXge, hgge, hXg⟩
      have q0 := hXb.cell 0
      have q1 := hXb.cell 1
      have qf0 := hXb.frozen 0
      have qf1 := hXb.frozen 1
      try dsimp only at hvt
      rw [hvf] at hvt
      refine ⟨?_⟩
      show Oper.wp _ _ _ _ _ _
      rw [HA'.out]
      simp only [upd, List.foldl_cons, List.foldl_nil, List.setIfInBounds_toArray, List.set_cons_zero, List.set_cons_succ, hvt, hvx]
      generalize v 85 = y85
      generalize v 89 = y89
      clear hJ hL hown hvf hvf' hvt hvx hXb hXne hrow hBf HSrc HOff HA' hsz eS eN eR hlf hbf hFF hHeld
      generalize Value.slice (if c = 1 then some ⟨g, 0, none⟩ else some ⟨g, 5, none⟩) (n - 1) (c - 1) = ySa
      go_simp
      refine NoPanic.normal ?_
      revert HX
      generalize ((w'.setCell ⟨Xa, 0, none⟩ (.slice (some ⟨ga, 0, none⟩) n ca)).setCell ⟨Xa, 1, none⟩ (.int .i64 now)) = WB
      intro HCa
      clear q0 q1 qf0 qf1 hgge hglt hXge hXg t0 t1 hTl hgl hnc hbw h1n r0 r1 r2 r3 r4 hRl
      clear w'
      have hB := HCa.out.bel
      have HR' : Hid _ := HR.out.below hB
      clear HR
      have HR : Hid _ := HR'.out
      clear HR'
      have HT' : Hid (InT w T g c n D L now WB) := HT.out.below hB
      clear HT
      have HT : Hid (InT w T g c n D L now WB) := HT'.out
      clear HT'
      clear hB
      have hO := HT.out.drawn.own
      have t0 : WB.cell? ⟨T, 0, none⟩ = some (.slice (some ⟨g, 0, none⟩) n c) := HT.out.t.cell 0
      have t1 : WB.cell? ⟨T, 1, none⟩ = some (.int .i64 now) := HT.out.t.cell 1
      have HSrc : Hid (Src WB 5 (.slice (some ⟨g, 0, none⟩) n c) n (rowsOf D L 0 n)) := hO.srcFrom 0 n c (by omega)
      have hgl : g < WB.heap.size := hO.lt
      have hnc : n ≤ c := hO.room
      have HOff : Hid (∀ ad m c', Value.slice (some ⟨g, 0, none⟩) n c = .slice (some ad) m c' → ad.block < WB.heap.size) := fun ad m c' e => by
        cases e; exact hgl
      have hTl : T < WB.heap.size := HT.out.t.lt
      have h1n : (1 : Int) ≤ (n : Int) := by omega
      have hFF : ∀ v v' : Nat → Value, (∀ t ∈ [(6, 99)], v' t.2 = v t.2) → (fun v : Nat → Value => Value.agg #[v 99, .int .i64 now]) v' = (fun v : Nat → Value => Value.agg #[v 99, .int .i64 now]) v := fun v v' hv => by
        have h1 := hv (6, 99) (by simp)
        simp only at h1 ⊢
        rw [h1]
      clear hO
      go_wp2_with fail
      refine wp_region_noPanic ?_
      refine wp_region_peel (fun W' => W'.cell? ⟨T, 0, none⟩ = some (.slice (some ⟨g, 0, none⟩) n c) ∧ W'.cell? ⟨T, 1, none⟩ = some (.int .i64 now)) _ (by kernel_rfl) rfl (by kernel_rfl) ?_ (fun hHeld => ?_)
      · exact ⟨t0, t1⟩
      simp only [List.pop_toArray, List.dropLast, List.size_toArray, List.length_cons, List.length_nil, Nat.reduceAdd, Nat.reduceSub, List.getElem_toArray, List.getElem_cons_succ, List.getElem_cons_zero]
      refine peel_take (i := 1) (oi := ?oi1b) (v := ?v1b) (fun _ _ _ _ _ h => h) hHeld ?hi1b (by kernel_rfl) (by kernel_rfl) (by kernel_rfl) ?hw1b ?hy1b ?rest1b
      case hi1b =>
        simp only [List.getElem?_toArray, List.getElem?_cons_succ, List.getElem?_cons_zero]
        rfl
      case hw1b => rfl
      case hy1b =>
        intro w hSw
        obtain ⟨s0, s1⟩ := hSw
        go_simp
        try with_reducible rfl
      try simp only [Act.put, List.setIfInBounds_toArray, List.set_cons_zero, List.set_cons_succ]
      refine peel_take (i := 2) (oi := ?oi2b) (v := ?v2b) (fun _ _ _ _ _ h => h) hHeld ?hi2b (by kernel_rfl) (by kernel_rfl) (by kernel_rfl) ?hw2b ?hy2b ?rest2b
      case hi2b =>
        simp only [List.getElem?_toArray, List.getElem?_cons_succ, List.getElem?_cons_zero]
        rfl
      case hw2b => rfl
      case hy2b =>
        intro w hSw
        obtain ⟨s0, s1⟩ := hSw
        go_simp
        try with_reducible rfl
      try simp only [Act.put, List.setIfInBounds_toArray, List.set_cons_zero, List.set_cons_succ]
      refine peel_take (i := 4) (oi := ?oi4b) (v := ?v4b) (fun _ _ _ _ _ h => h) hHeld ?hi4b (by kernel_rfl) (by kernel_rfl) (by kernel_rfl) ?hw4b ?hy4b ?rest4b
      case hi4b =>
        simp only [List.getElem?_toArray, List.getElem?_cons_succ, List.getElem?_cons_zero]
        rfl
      case hw4b => rfl
      case hy4b =>
        intro w hSw
        obtain ⟨s0, s1⟩ := hSw
        go_simp
        try with_reducible rfl
      try simp only [Act.put, List.setIfInBounds_toArray, List.set_cons_zero, List.set_cons_succ]
      refine peel_take (i := 7) (oi := ?oi7b) (v := ?v7b) (fun _ _ _ _ _ h => h) hHeld ?hi7b (by kernel_rfl) (by kernel_rfl) (by kernel_rfl) ?hw7b ?hy7b ?rest7b
      case hi7b =>
        simp only [List.getElem?_toArray, List.getElem?_cons_succ, List.getElem?_cons_zero]
        rfl
      case hw7b => rfl
      case hy7b =>
        intro w hSw
        obtain ⟨s0, s1⟩ := hSw
        go_simp
        try with_reducible rfl
      try simp only [Act.put, List.setIfInBounds_toArray, List.set_cons_zero, List.set_cons_succ]
      refine peel_take (i := 8) (oi := ?oi8b) (v := ?v8b) (fun _ _ _ _ _ h => h) hHeld ?hi8b (by kernel_rfl) (by kernel_rfl) (by kernel_rfl) ?hw8b ?hy8b ?rest8b
      case hi8b =>
        simp only [List.getElem?_toArray, List.getElem?_cons_succ, List.getElem?_cons_zero]
        rfl
      case hw8b => rfl
      case hy8b =>
        intro w hSw
        obtain ⟨s0, s1⟩ := hSw
        go_simp
        try with_reducible rfl
      try simp only [Act.put, List.setIfInBounds_toArray, List.set_cons_zero, List.set_cons_succ]
      refine wpAnyH_act fun aR hA => ?_
      have eS : aR.eval (.tmp 95) = .slice (some ⟨g, 0, none⟩) n c := by rw [hA]; rfl
      have eN : aR.eval (.tmp 101) = .int .i64 now := by rw [hA]; rfl
      have eB : aR.eval (.tmp 97) = .agg #[.int .i64 1, .string ByteArray.empty, .slice none 0 0, .slice none 0 0, .int .i64 1] := by rw [hA]; rfl
      have hsz : 130 < aR.tmps.size := by rw [hA]; simp
      have HA' : Hid _ := hA
      clear hA
      refine wpAnyH_plain (a0 := aR) [8, 93, 96, 98, 99, 102] (RJX [1, 2, 4, 7, 8] WB (fun d => if d = 93 then ⟨36, 5, 0, []⟩ else if d = 96 then ⟨36, 5, n, rowsOf D L 0 n⟩ else if d = 98 then ⟨36, 5, 1, (nd5 (leafNd 1 1) loc00)⟩ else ⟨36, 5, n + 1, (rowsOf D L 0 n) ++ (nd5 (leafNd 1 1) loc00)⟩)
        [(93, 0, 3), (96, 3, 6), (98, 5, 6), (99, 6, 99)] [] 9 102 [(6, 99)] (fun v : Nat → Value => Value.agg #[v 99, .int .i64 now]) 10 8 #[.slice none 0 0, .int .i64 0] 25) (by kernel_rfl) (by kernel_rfl) (by rfl) (by decide) (fun v => RJX.start (RJ.start (below_drewN (Below.refl _ _) 1) (by decide) (by decide) (by decide) (by simp)) (by decide) (by decide)) (fun L' v w' h => ⟨(h.rjb.rj.bel.cell hTl).trans t0, (h.rjb.rj.bel.cell hTl).trans t1⟩) ⟨?_, ?_, ?_, ?_, ?_, ?_, ?_, ?_, ?_, ?_, ?_, trivial⟩ ?_
      · intro L' v w' h hd hJ K hK
        exact ⟨wp_nodes0 (hK _ _ _ (upd_put _ _ _ 93 _ (by decide)) (hJ.make (k := 0) (d := 93) h (by decide) (by decide) (by decide) (by decide) (by decide) hFF (by decide) (by decide) (xs := []) (n := 0) (e := 36) (size := 5) rfl rfl (by unfold maxLen; omega)))⟩
      · intro L2 v2 w2 h2 hd2 hJ2
        exact hJ2.gone (k := 1) (by decide) h2
      · intro L2 v2 w2 h2 hd2 hJ2
        exact hJ2.gone (k := 2) (by decide) h2
      · intro L' v w' h hd hJ K hK
        have hdj : L' 0 = true := hd _ (List.Mem.head _) rfl
        have hlive : liveAt [(93, 0, 3), (96, 3, 6), (98, 5, 6), (99, 6, 99)] L' 93 := ⟨0, 3, by decide, hdj, h⟩
        refine ⟨wp_append_src (.tmp 93) (.tmp 95) 23 rfl WB.heap.size 36 j0 (.agg #[.int .i64 0, .string ByteArray.empty, .slice none 0 0, .slice none 0 0, .int .i64 0]) 5 80 Try.underlying23 hj0 hy0 hy1 hy2 rfl (by decide) (v 93) 0 [] (upd_eval_in aR _ v 93 (by decide) (by omega)) (hJ.rjb.rj.rws.own 93 hlive).1 _ n _ ((upd_eval_out aR _ v 95 (by decide)).trans eS) (HSrc.out.of_cells hJ.rjb.rj.bel HOff.out) (by unfold maxLen; omega) (by omega) hJ.rjb.rj.bel.size ?_⟩
        intro v' w2 hown hgrow hnil hat
        exact hK _ _ _ (upd_put _ _ _ 96 _ (by decide)) (hJ.app (k := 3) (d := 96) (s := 93) h (by decide) (by decide) (by decide) (by decide) (by decide) hFF hlive (by decide) hgrow (by decide) (by decide) (by simpa using hown) hat)
      · intro L2 v2 w2 h2 hd2 hJ2
        exact hJ2.gone (k := 4) (by decide) h2
      · intro L' v w' h hd hJ K hK
        exact ⟨wp_nodes1 ((upd_eval_out aR _ v 97 (by decide)).trans eB) (hK _ _ _ (upd_put _ _ _ 98 _ (by decide)) (hJ.make (k := 5) (d := 98) h (by decide) (by decide) (by decide) (by decide) (by decide) hFF (by decide) (by decide) (xs := (nd5 (leafNd 1 1) loc00)) (n := 1) (e := 36) (size := 5) rfl rfl (by unfold maxLen; omega)))⟩
      · intro L' v w' h hd hJ K hK
        have hdj : L' 3 = true := hd _ (List.Mem.head _) rfl
        have hdx : L' 5 = true := hd _ (List.Mem.tail _ (List.Mem.head _)) rfl
        have hlive : liveAt [(93, 0, 3), (96, 3, 6), (98, 5, 6), (99, 6, 99)] L' 96 := ⟨3, 6, by decide, hdj, h⟩
        have hlive2 : liveAt [(93, 0, 3), (96, 3, 6), (98, 5, 6), (99, 6, 99)] L' 98 := ⟨5, 6, by decide, hdx, h⟩
        obtain ⟨bx, hbx⟩ := (hJ.rjb.rj.rws.own 98 hlive2).2
        refine ⟨wp_append_src (.tmp 96) (.tmp 98) 23 rfl WB.heap.size 36 j0 (.agg #[.int .i64 0, .string ByteArray.empty, .slice none 0 0, .slice none 0 0, .int .i64 0]) 5 80 Try.underlying23 hj0 hy0 hy1 hy2 rfl (by decide) (v 96) (n) _ (upd_eval_in aR _ v 96 (by decide) (by omega)) (hJ.rjb.rj.rws.own 96 hlive).1 _ 1 _ (upd_eval_in aR _ v 98 (by decide) (by omega)) (owns_src (hJ.rjb.rj.rws.own 98 hlive2).1 (nd5_one _ _) hbx) (by unfold maxLen; omega) (by omega) hJ.rjb.rj.bel.size ?_⟩
        intro v' w2 hown hgrow hnil hat
        exact hK _ _ _ (upd_put _ _ _ 99 _ (by decide)) (hJ.app (k := 6) (d := 99) (s := 96) h (by decide) (by decide) (by decide) (by decide) (by decide) hFF hlive (by decide) hgrow (by decide) (by decide) (by simpa using hown) hat)
      · intro L2 v2 w2 h2 hd2 hJ2
        exact hJ2.gone (k := 7) (by decide) h2
      · intro L2 v2 w2 h2 hd2 hJ2
        exact hJ2.gone (k := 8) (by decide) h2
      · intro L' v w' h hd hJ K hK
        have hdf : L' 6 = true := hd _ (List.Mem.head _) rfl
        have hlf : liveAt [(93, 0, 3), (96, 3, 6), (98, 5, 6), (99, 6, 99)] L' 99 := ⟨6, 99, by decide, hdf, hJ.rjb.rj.none⟩
        obtain ⟨bf, hbf⟩ := (hJ.rjb.rj.rws.own 99 hlf).2
        obtain ⟨cf, hvf, _⟩ := owned_form (hJ.rjb.rj.rws.own 99 hlf).1 hbf
        have hK' := hK _ _ _ (upd_put _ _ _ 102 _ (by decide)) (hJ.build (by intro t ht; simp at ht; rcases ht with rfl; exact hdf) (by decide) hFF (by decide) (by decide) (by decide) (by decide))
        try dsimp only at hK'
        rw [hvf] at hK'
        exact ⟨wp_tree2 ((upd_eval_in aR _ v 99 (by decide) (by omega)).trans hvf) ((upd_eval_out aR _ v 101 (by decide)).trans eN) hK'⟩
      · intro L' v w' h hd hJ K hK
        exact ⟨wp_allocTree (hK _ _ _ (upd_put _ _ _ 8 _ (by decide)) (hJ.alloc (by decide) (by decide) (by decide) hFF (by decide) (by decide)))⟩
      intro L' v w' hL hJ
      obtain ⟨_, hvt⟩ := hJ.rjb.built (hL 9 (by decide))
      obtain ⟨Xb, hvx, hXge, hXb, hXne⟩ := hJ.box (hL 10 (by decide))
      have hlf : liveAt [(93, 0, 3), (96, 3, 6), (98, 5, 6), (99, 6, 99)] L' 99 := ⟨6, 99, by decide, hL 6 (by decide), hJ.rjb.rj.none⟩
      have hown := (hJ.rjb.rj.rws.own 99 hlf).1
      obtain ⟨gb, hbf⟩ := (hJ.rjb.rj.rws.own 99 hlf).2
      have hXg : gb ≠ Xb := fun e => hXne 99 hlf (by rw [hbf, e])
      obtain ⟨cb, hvf', hgge, hglt⟩ := owned_form hown hbf
      have hvf : v 99 = .slice (some ⟨gb, 0, none⟩) (n + 1) cb := by
        have e : n + 1 = (n + 1) := by omega
        rw [← e]; exact hvf'
      have hrow : w'.ownsRow WB.heap.size 36 5 (.slice (some ⟨gb, 0, none⟩) (n + 1) cb) (n + 1) (rowsOf (filT D n) (padL L n) 0 (n + 1)) := by
        have e : n + 1 = (n + 1) := by omega
        have e1 : rowsOf (filT D n) (padL L n) 0 (n + 1) = (rowsOf D L 0 n) ++ (nd5 (leafNd 1 1) loc00) := rows_file D L
        have h9 : w'.ownsRow WB.heap.size 36 5 (v 99) (n + 1) ((rowsOf D L 0 n) ++ (nd5 (leafNd 1 1) loc00)) := hown
        rw [e, hvf] at h9
        rw [e1]; exact h9
      have hbw := HT.out.drawn.bel.size
      have hBf : Below WB.heap.size WB ((w'.setCell ⟨Xb, 0, none⟩ (.slice (some ⟨gb, 0, none⟩) (n + 1) cb)).setCell ⟨Xb, 1, none⟩ (.int .i64 now)) := bel_put (bel_put hJ.rjb.rj.bel _ hXge) _ hXge
      have HX : Hid (InC w WB Xb gb cb (n + 1) (filT D n) (padL L n) now ((w'.setCell ⟨Xb, 0, none⟩ (.slice (some ⟨gb, 0, none⟩) (n + 1) cb)).setCell ⟨Xb, 1, none⟩ (.int .i64 now))) :=
        ⟨hBf, (hXb.set 0 _).set 1 _, OwnT.of_row (owns_off (owns_off hrow hXg _) hXg _) hbw (lists_file HT.out.drawn.own hBf hgge), hXge, hgge, hXg⟩
      have q0 := hXb.cell 0
      have q1 := hXb.cell 1
      have qf0 := hXb.frozen 0
      have qf1 := hXb.frozen 1
      try dsimp only at hvt
      rw [hvf] at hvt
      refine ⟨?_⟩
      show Oper.wp _ _ _ _ _ _
      rw [HA'.out]
      simp only [upd, List.foldl_cons, List.foldl_nil, List.setIfInBounds_toArray, List.set_cons_zero, List.set_cons_succ, hvt, hvx]
      generalize v 93 = y93
      generalize v 96 = y96
      generalize v 98 = y98
      generalize v 99 = y99
      clear hJ hL hown hvf hvf' hvt hvx hXb hXne hrow hBf HSrc HOff HA' hsz eS eN eB hlf hbf hFF hHeld
      skip
      go_simp
      refine NoPanic.normal ?_
      revert HX
      generalize ((w'.setCell ⟨Xb, 0, none⟩ (.slice (some ⟨gb, 0, none⟩) (n + 1) cb)).setCell ⟨Xb, 1, none⟩ (.int .i64 now)) = WC
      intro HCb
      clear q0 q1 qf0 qf1 hgge hglt hXge hXg t0 t1 hTl hgl hnc hbw h1n 
      clear w'
      have hB := HCb.out.bel
      have HR' : Hid _ := HR.out.below hB
      clear HR
      have HR : Hid _ := HR'.out
      clear HR'
      have HT' : Hid (InT w T g c n D L now WC) := HT.out.below hB
      clear HT
      have HT : Hid (InT w T g c n D L now WC) := HT'.out
      clear HT'
      have HCa' : Hid _ := HCa.out.below hB
      clear HCa
      have HCa : Hid _ := HCa'.out
      clear HCa'
      clear hB
      have hO := HT.out.drawn.own
      have t0 : WC.cell? ⟨T, 0, none⟩ = some (.slice (some ⟨g, 0, none⟩) n c) := HT.out.t.cell 0
      have t1 : WC.cell? ⟨T, 1, none⟩ = some (.int .i64 now) := HT.out.t.cell 1
      have r0 : WC.cell? ⟨R, 0, none⟩ = some (.int .i64 2) := HR.out.r.cell 0
      have r1 : WC.cell? ⟨R, 1, none⟩ = some (.string ByteArray.empty) := HR.out.r.cell 1
      have r2 : WC.cell? ⟨R, 2, none⟩ = some (.slice (some ⟨g8, 0, none⟩) ((D 0).nn + 1) c8) := HR.out.r.cell 2
      have r3 : WC.cell? ⟨R, 3, none⟩ = some (.slice (some ⟨g9, 0, none⟩) ((D 0).kn + 1) c9) := HR.out.r.cell 3
      have r4 : WC.cell? ⟨R, 4, none⟩ = some (.int .i64 (D 0).turn) := HR.out.r.cell 4
      have hRl : R < WC.heap.size := HR.out.r.lt
      have HSrc : Hid (Src WC 5 (.slice (if c = 1 then some ⟨g, 0, none⟩ else some ⟨g, 5, none⟩) (n - 1) (c - 1)) (n - 1) (rowsOf D L 1 (n - 1))) := src_tail hO hn1
      have hgl : g < WC.heap.size := hO.lt
      have hnc : n ≤ c := hO.room
      have HOff : Hid (∀ ad m c', Value.slice (if c = 1 then some ⟨g, 0, none⟩ else some ⟨g, 5, none⟩) (n - 1) (c - 1) = .slice (some ad) m c' → ad.block < WC.heap.size) := fun ad m c' e => by
        exact src_blk e hgl
      have hTl : T < WC.heap.size := HT.out.t.lt
      have h1n : (1 : Int) ≤ (n : Int) := by omega
      have hFF : ∀ v v' : Nat → Value, (∀ t ∈ [(8, 111)], v' t.2 = v t.2) → (fun v : Nat → Value => Value.agg #[v 111, .int .i64 now]) v' = (fun v : Nat → Value => Value.agg #[v 111, .int .i64 now]) v := fun v v' hv => by
        have h1 := hv (8, 111) (by simp)
        simp only at h1 ⊢
        rw [h1]
      clear hO
      go_wp2_with fail
      refine wp_region_noPanic ?_
      refine wp_region_peel (fun W' => W'.cell? ⟨T, 0, none⟩ = some (.slice (some ⟨g, 0, none⟩) n c) ∧ W'.cell? ⟨T, 1, none⟩ = some (.int .i64 now) ∧ W'.cell? ⟨R, 0, none⟩ = some (.int .i64 2) ∧ W'.cell? ⟨R, 1, none⟩ = some (.string ByteArray.empty) ∧ W'.cell? ⟨R, 2, none⟩ = some (.slice (some ⟨g8, 0, none⟩) ((D 0).nn + 1) c8) ∧ W'.cell? ⟨R, 3, none⟩ = some (.slice (some ⟨g9, 0, none⟩) ((D 0).kn + 1) c9) ∧ W'.cell? ⟨R, 4, none⟩ = some (.int .i64 (D 0).turn)) _ (by kernel_rfl) rfl (by kernel_rfl) ?_ (fun hHeld => ?_)
      · exact ⟨t0, t1, r0, r1, r2, r3, r4⟩
      simp only [List.pop_toArray, List.dropLast, List.size_toArray, List.length_cons, List.length_nil, Nat.reduceAdd, Nat.reduceSub, List.getElem_toArray, List.getElem_cons_succ, List.getElem_cons_zero]
      refine peel_take (i := 0) (oi := ?oi0c) (v := ?v0c) (fun _ _ _ _ _ h => h) hHeld ?hi0c (by kernel_rfl) (by kernel_rfl) (by kernel_rfl) ?hw0c ?hy0c ?rest0c
      case hi0c =>
        simp only [List.getElem?_toArray, List.getElem?_cons_zero]
        rfl
      case hw0c => rfl
      case hy0c =>
        intro w hSw
        obtain ⟨s0, s1, p0, p1, p2, p3, p4⟩ := hSw
        go_simp
        try with_reducible rfl
      try simp only [Act.put, List.setIfInBounds_toArray, List.set_cons_zero, List.set_cons_succ]
      refine peel_take (i := 2) (oi := ?oi2c) (v := ?v2c) (fun _ _ _ _ _ h => h) hHeld ?hi2c (by kernel_rfl) (by kernel_rfl) (by kernel_rfl) ?hw2c ?hy2c ?rest2c
      case hi2c =>
        simp only [List.getElem?_toArray, List.getElem?_cons_succ, List.getElem?_cons_zero]
        rfl
      case hw2c => rfl
      case hy2c =>
        intro w hSw
        obtain ⟨s0, s1, p0, p1, p2, p3, p4⟩ := hSw
        go_simp
        try with_reducible rfl
      try simp only [Act.put, List.setIfInBounds_toArray, List.set_cons_zero, List.set_cons_succ]
      refine peel_take (i := 3) (oi := ?oi3c) (v := ?v3c) (fun _ _ _ _ _ h => h) hHeld ?hi3c (by kernel_rfl) (by kernel_rfl) (by kernel_rfl) ?hw3c ?hy3c ?rest3c
      case hi3c =>
        simp only [List.getElem?_toArray, List.getElem?_cons_succ, List.getElem?_cons_zero]
        rfl
      case hw3c => rfl
      case hy3c =>
        intro w hSw
        obtain ⟨s0, s1, p0, p1, p2, p3, p4⟩ := hSw
        go_simp
        try with_reducible rfl
      try simp only [Act.put, List.setIfInBounds_toArray, List.set_cons_zero, List.set_cons_succ]
      refine peel_take (i := 4) (oi := ?oi4c) (v := ?v4c) (fun _ _ _ _ _ h => h) hHeld ?hi4c (by kernel_rfl) (by kernel_rfl) (by kernel_rfl) ?hw4c ?hy4c ?rest4c
      case hi4c =>
        simp only [List.getElem?_toArray, List.getElem?_cons_succ, List.getElem?_cons_zero]
        rfl
      case hw4c => rfl
      case hy4c =>
        intro w hSw
        obtain ⟨s0, s1, p0, p1, p2, p3, p4⟩ := hSw
        go_simp
        try with_reducible rfl
      try simp only [Act.put, List.setIfInBounds_toArray, List.set_cons_zero, List.set_cons_succ]
      refine peel_take (i := 6) (oi := ?oi6c) (v := ?v6c) (fun _ _ _ _ _ h => h) hHeld ?hi6c (by kernel_rfl) (by kernel_rfl) (by kernel_rfl) ?hw6c ?hy6c ?rest6c
      case hi6c =>
        simp only [List.getElem?_toArray, List.getElem?_cons_succ, List.getElem?_cons_zero]
        rfl
      case hw6c => rfl
      case hy6c =>
        intro w hSw
        obtain ⟨s0, s1, p0, p1, p2, p3, p4⟩ := hSw
        go_simp
        try with_reducible rfl
      try simp only [Act.put, List.setIfInBounds_toArray, List.set_cons_zero, List.set_cons_succ]
      refine peel_take (i := 9) (oi := ?oi9c) (v := ?v9c) (fun _ _ _ _ _ h => h) hHeld ?hi9c (by kernel_rfl) (by kernel_rfl) (by kernel_rfl) ?hw9c ?hy9c ?rest9c
      case hi9c =>
        simp only [List.getElem?_toArray, List.getElem?_cons_succ, List.getElem?_cons_zero]
        rfl
      case hw9c => rfl
      case hy9c =>
        intro w hSw
        obtain ⟨s0, s1, p0, p1, p2, p3, p4⟩ := hSw
        go_simp
        try with_reducible rfl
      try simp only [Act.put, List.setIfInBounds_toArray, List.set_cons_zero, List.set_cons_succ]
      refine peel_take (i := 10) (oi := ?oi10c) (v := ?v10c) (fun _ _ _ _ _ h => h) hHeld ?hi10c (by kernel_rfl) (by kernel_rfl) (by kernel_rfl) ?hw10c ?hy10c ?rest10c
      case hi10c =>
        simp only [List.getElem?_toArray, List.getElem?_cons_succ, List.getElem?_cons_zero]
        rfl
      case hw10c => rfl
      case hy10c =>
        intro w hSw
        obtain ⟨s0, s1, p0, p1, p2, p3, p4⟩ := hSw
        go_simp
        try with_reducible rfl
      try simp only [Act.put, List.setIfInBounds_toArray, List.set_cons_zero, List.set_cons_succ]
      refine wpAnyH_act fun aR hA => ?_
      have eS : aR.eval (.tmp 107) = .slice (if c = 1 then some ⟨g, 0, none⟩ else some ⟨g, 5, none⟩) (n - 1) (c - 1) := by rw [hA]; rfl
      have eN : aR.eval (.tmp 113) = .int .i64 now := by rw [hA]; rfl
      have eR : aR.eval (.tmp 103) = .agg #[.int .i64 2, .string ByteArray.empty, .slice (some ⟨g8, 0, none⟩) ((D 0).nn + 1) c8, .slice (some ⟨g9, 0, none⟩) ((D 0).kn + 1) c9, .int .i64 (D 0).turn] := by rw [hA]; rfl
      have eB : aR.eval (.tmp 109) = .agg #[.int .i64 1, .string ByteArray.empty, .slice none 0 0, .slice none 0 0, .int .i64 1] := by rw [hA]; rfl
      have hsz : 130 < aR.tmps.size := by rw [hA]; simp
      have HA' : Hid _ := hA
      clear hA
      refine wpAnyH_plain (a0 := aR) [9, 104, 108, 110, 111, 114] (RJX [0, 2, 3, 4, 6, 9, 10] WC (fun d => if d = 104 then ⟨36, 5, 1, (nd5 (rootM (D 0) n) ⟨some ⟨g8, 0, none⟩, c8, some ⟨g9, 0, none⟩, c9⟩)⟩ else if d = 108 then ⟨36, 5, 1 + (n - 1), (nd5 (rootM (D 0) n) ⟨some ⟨g8, 0, none⟩, c8, some ⟨g9, 0, none⟩, c9⟩) ++ rowsOf D L 1 (n - 1)⟩ else if d = 110 then ⟨36, 5, 1, (nd5 (leafNd 1 1) loc00)⟩ else ⟨36, 5, 1 + (n - 1) + 1, ((nd5 (rootM (D 0) n) ⟨some ⟨g8, 0, none⟩, c8, some ⟨g9, 0, none⟩, c9⟩) ++ rowsOf D L 1 (n - 1)) ++ (nd5 (leafNd 1 1) loc00)⟩)
        [(104, 1, 5), (108, 5, 8), (110, 7, 8), (111, 8, 99)] [] 11 114 [(8, 111)] (fun v : Nat → Value => Value.agg #[v 111, .int .i64 now]) 12 9 #[.slice none 0 0, .int .i64 0] 25) (by kernel_rfl) (by kernel_rfl) (by rfl) (by decide) (fun v => RJX.start (RJ.start (below_drewN (Below.refl _ _) 1) (by decide) (by decide) (by decide) (by simp)) (by decide) (by decide)) (fun L' v w' h => ⟨(h.rjb.rj.bel.cell hTl).trans t0, (h.rjb.rj.bel.cell hTl).trans t1, (h.rjb.rj.bel.cell hRl).trans r0, (h.rjb.rj.bel.cell hRl).trans r1, (h.rjb.rj.bel.cell hRl).trans r2, (h.rjb.rj.bel.cell hRl).trans r3, (h.rjb.rj.bel.cell hRl).trans r4⟩) ⟨?_, ?_, ?_, ?_, ?_, ?_, ?_, ?_, ?_, ?_, ?_, ?_, ?_, trivial⟩ ?_
      · intro L2 v2 w2 h2 hd2 hJ2
        exact hJ2.gone (k := 0) (by decide) h2
      · intro L' v w' h hd hJ K hK
        exact ⟨wp_nodes1 ((upd_eval_out aR _ v 103 (by decide)).trans eR) (hK _ _ _ (upd_put _ _ _ 104 _ (by decide)) (hJ.make (k := 1) (d := 104) h (by decide) (by decide) (by decide) (by decide) (by decide) hFF (by decide) (by decide) (xs := (nd5 (rootM (D 0) n) ⟨some ⟨g8, 0, none⟩, c8, some ⟨g9, 0, none⟩, c9⟩)) (n := 1) (e := 36) (size := 5) rfl rfl (by unfold maxLen; omega)))⟩
      · intro L2 v2 w2 h2 hd2 hJ2
        exact hJ2.gone (k := 2) (by decide) h2
      · intro L2 v2 w2 h2 hd2 hJ2
        exact hJ2.gone (k := 3) (by decide) h2
      · intro L2 v2 w2 h2 hd2 hJ2
        exact hJ2.gone (k := 4) (by decide) h2
      · intro L' v w' h hd hJ K hK
        have hdj : L' 1 = true := hd _ (List.Mem.head _) rfl
        have hlive : liveAt [(104, 1, 5), (108, 5, 8), (110, 7, 8), (111, 8, 99)] L' 104 := ⟨1, 5, by decide, hdj, h⟩
        refine ⟨wp_append_src (.tmp 104) (.tmp 107) 23 rfl WC.heap.size 36 j0 (.agg #[.int .i64 0, .string ByteArray.empty, .slice none 0 0, .slice none 0 0, .int .i64 0]) 5 80 Try.underlying23 hj0 hy0 hy1 hy2 rfl (by decide) (v 104) 1 (nd5 (rootM (D 0) n) ⟨some ⟨g8, 0, none⟩, c8, some ⟨g9, 0, none⟩, c9⟩) (upd_eval_in aR _ v 104 (by decide) (by omega)) (hJ.rjb.rj.rws.own 104 hlive).1 _ (n - 1) _ ((upd_eval_out aR _ v 107 (by decide)).trans eS) (HSrc.out.of_cells hJ.rjb.rj.bel HOff.out) (by unfold maxLen; omega) (by omega) hJ.rjb.rj.bel.size ?_⟩
        intro v' w2 hown hgrow hnil hat
        exact hK _ _ _ (upd_put _ _ _ 108 _ (by decide)) (hJ.app (k := 5) (d := 108) (s := 104) h (by decide) (by decide) (by decide) (by decide) (by decide) hFF hlive (by decide) hgrow (by decide) (by decide) (by simpa using hown) hat)
      · intro L2 v2 w2 h2 hd2 hJ2
        exact hJ2.gone (k := 6) (by decide) h2
      · intro L' v w' h hd hJ K hK
        exact ⟨wp_nodes1 ((upd_eval_out aR _ v 109 (by decide)).trans eB) (hK _ _ _ (upd_put _ _ _ 110 _ (by decide)) (hJ.make (k := 7) (d := 110) h (by decide) (by decide) (by decide) (by decide) (by decide) hFF (by decide) (by decide) (xs := (nd5 (leafNd 1 1) loc00)) (n := 1) (e := 36) (size := 5) rfl rfl (by unfold maxLen; omega)))⟩
      · intro L' v w' h hd hJ K hK
        have hdj : L' 5 = true := hd _ (List.Mem.head _) rfl
        have hdx : L' 7 = true := hd _ (List.Mem.tail _ (List.Mem.head _)) rfl
        have hlive : liveAt [(104, 1, 5), (108, 5, 8), (110, 7, 8), (111, 8, 99)] L' 108 := ⟨5, 8, by decide, hdj, h⟩
        have hlive2 : liveAt [(104, 1, 5), (108, 5, 8), (110, 7, 8), (111, 8, 99)] L' 110 := ⟨7, 8, by decide, hdx, h⟩
        obtain ⟨bx, hbx⟩ := (hJ.rjb.rj.rws.own 110 hlive2).2
        refine ⟨wp_append_src (.tmp 108) (.tmp 110) 23 rfl WC.heap.size 36 j0 (.agg #[.int .i64 0, .string ByteArray.empty, .slice none 0 0, .slice none 0 0, .int .i64 0]) 5 80 Try.underlying23 hj0 hy0 hy1 hy2 rfl (by decide) (v 108) (1 + (n - 1)) _ (upd_eval_in aR _ v 108 (by decide) (by omega)) (hJ.rjb.rj.rws.own 108 hlive).1 _ 1 _ (upd_eval_in aR _ v 110 (by decide) (by omega)) (owns_src (hJ.rjb.rj.rws.own 110 hlive2).1 (nd5_one _ _) hbx) (by unfold maxLen; omega) (by omega) hJ.rjb.rj.bel.size ?_⟩
        intro v' w2 hown hgrow hnil hat
        exact hK _ _ _ (upd_put _ _ _ 111 _ (by decide)) (hJ.app (k := 8) (d := 111) (s := 108) h (by decide) (by decide) (by decide) (by decide) (by decide) hFF hlive (by decide) hgrow (by decide) (by decide) (by simpa using hown) hat)
      · intro L2 v2 w2 h2 hd2 hJ2
        exact hJ2.gone (k := 9) (by decide) h2
      · intro L2 v2 w2 h2 hd2 hJ2
        exact hJ2.gone (k := 10) (by decide) h2
      · intro L' v w' h hd hJ K hK
        have hdf : L' 8 = true := hd _ (List.Mem.head _) rfl
        have hlf : liveAt [(104, 1, 5), (108, 5, 8), (110, 7, 8), (111, 8, 99)] L' 111 := ⟨8, 99, by decide, hdf, hJ.rjb.rj.none⟩
        obtain ⟨bf, hbf⟩ := (hJ.rjb.rj.rws.own 111 hlf).2
        obtain ⟨cf, hvf, _⟩ := owned_form (hJ.rjb.rj.rws.own 111 hlf).1 hbf
        have hK' := hK _ _ _ (upd_put _ _ _ 114 _ (by decide)) (hJ.build (by intro t ht; simp at ht; rcases ht with rfl; exact hdf) (by decide) hFF (by decide) (by decide) (by decide) (by decide))
        try dsimp only at hK'
        rw [hvf] at hK'
        exact ⟨wp_tree2 ((upd_eval_in aR _ v 111 (by decide) (by omega)).trans hvf) ((upd_eval_out aR _ v 113 (by decide)).trans eN) hK'⟩
      · intro L' v w' h hd hJ K hK
        exact ⟨wp_allocTree (hK _ _ _ (upd_put _ _ _ 9 _ (by decide)) (hJ.alloc (by decide) (by decide) (by decide) hFF (by decide) (by decide)))⟩
      intro L' v w' hL hJ
      obtain ⟨_, hvt⟩ := hJ.rjb.built (hL 11 (by decide))
      obtain ⟨Xc, hvx, hXge, hXb, hXne⟩ := hJ.box (hL 12 (by decide))
      have hlf : liveAt [(104, 1, 5), (108, 5, 8), (110, 7, 8), (111, 8, 99)] L' 111 := ⟨8, 99, by decide, hL 8 (by decide), hJ.rjb.rj.none⟩
      have hown := (hJ.rjb.rj.rws.own 111 hlf).1
      obtain ⟨gc, hbf⟩ := (hJ.rjb.rj.rws.own 111 hlf).2
      have hXg : gc ≠ Xc := fun e => hXne 111 hlf (by rw [hbf, e])
      obtain ⟨cc, hvf', hgge, hglt⟩ := owned_form hown hbf
      have hvf : v 111 = .slice (some ⟨gc, 0, none⟩) (n + 1) cc := by
        have e : 1 + (n - 1) + 1 = (n + 1) := by omega
        rw [← e]; exact hvf'
      have hrow : w'.ownsRow WC.heap.size 36 5 (.slice (some ⟨gc, 0, none⟩) (n + 1) cc) (n + 1) (rowsOf (putNd (filT D n) 0 (rootM (D 0) n)) (putLoc (padL L n) 0 ⟨some ⟨g8, 0, none⟩, c8, some ⟨g9, 0, none⟩, c9⟩) 0 (n + 1)) := by
        have e : 1 + (n - 1) + 1 = (n + 1) := by omega
        have e1 : rowsOf (putNd (filT D n) 0 (rootM (D 0) n)) (putLoc (padL L n) 0 ⟨some ⟨g8, 0, none⟩, c8, some ⟨g9, 0, none⟩, c9⟩) 0 (n + 1) = ((nd5 (rootM (D 0) n) ⟨some ⟨g8, 0, none⟩, c8, some ⟨g9, 0, none⟩, c9⟩) ++ rowsOf D L 1 (n - 1)) ++ (nd5 (leafNd 1 1) loc00) := rows_rootfile hn1 D L
        have h9 : w'.ownsRow WC.heap.size 36 5 (v 111) (1 + (n - 1) + 1) (((nd5 (rootM (D 0) n) ⟨some ⟨g8, 0, none⟩, c8, some ⟨g9, 0, none⟩, c9⟩) ++ rowsOf D L 1 (n - 1)) ++ (nd5 (leafNd 1 1) loc00)) := hown
        rw [e, hvf] at h9
        rw [e1]; exact h9
      have hbw := HT.out.drawn.bel.size
      have hBf : Below WC.heap.size WC ((w'.setCell ⟨Xc, 0, none⟩ (.slice (some ⟨gc, 0, none⟩) (n + 1) cc)).setCell ⟨Xc, 1, none⟩ (.int .i64 now)) := bel_put (bel_put hJ.rjb.rj.bel _ hXge) _ hXge
      have HX : Hid (InC w WC Xc gc cc (n + 1) (putNd (filT D n) 0 (rootM (D 0) n)) (putLoc (padL L n) 0 ⟨some ⟨g8, 0, none⟩, c8, some ⟨g9, 0, none⟩, c9⟩) now ((w'.setCell ⟨Xc, 0, none⟩ (.slice (some ⟨gc, 0, none⟩) (n + 1) cc)).setCell ⟨Xc, 1, none⟩ (.int .i64 now))) :=
        ⟨hBf, (hXb.set 0 _).set 1 _, OwnT.of_row (owns_off (owns_off hrow hXg _) hXg _) hbw (lists_rootfile HT.out.drawn.own HR.out hBf hgge), hXge, hgge, hXg⟩
      have q0 := hXb.cell 0
      have q1 := hXb.cell 1
      have qf0 := hXb.frozen 0
      have qf1 := hXb.frozen 1
      try dsimp only at hvt
      rw [hvf] at hvt
      refine ⟨?_⟩
      show Oper.wp _ _ _ _ _ _
      rw [HA'.out]
      simp only [upd, List.foldl_cons, List.foldl_nil, List.setIfInBounds_toArray, List.set_cons_zero, List.set_cons_succ, hvt, hvx]
      generalize v 104 = y104
      generalize v 108 = y108
      generalize v 110 = y110
      generalize v 111 = y111
      clear hJ hL hown hvf hvf' hvt hvx hXb hXne hrow hBf HSrc HOff HA' hsz eS eN eR eB hlf hbf hFF hHeld
      generalize Value.slice (if c = 1 then some ⟨g, 0, none⟩ else some ⟨g, 5, none⟩) (n - 1) (c - 1) = ySc
      go_simp
      refine NoPanic.normal ?_
      revert HX
      generalize ((w'.setCell ⟨Xc, 0, none⟩ (.slice (some ⟨gc, 0, none⟩) (n + 1) cc)).setCell ⟨Xc, 1, none⟩ (.int .i64 now)) = WD
      intro HCc
      clear q0 q1 qf0 qf1 hgge hglt hXge hXg t0 t1 hTl hgl hnc hbw h1n r0 r1 r2 r3 r4 hRl
      clear w'
      have hB := HCc.out.bel
      have HR' : Hid _ := HR.out.below hB
      clear HR
      have HR : Hid _ := HR'.out
      clear HR'
      have HT' : Hid (InT w T g c n D L now WD) := HT.out.below hB
      clear HT
      have HT : Hid (InT w T g c n D L now WD) := HT'.out
      clear HT'
      have HCa' : Hid _ := HCa.out.below hB
      clear HCa
      have HCa : Hid _ := HCa'.out
      clear HCa'
      have HCb' : Hid _ := HCb.out.below hB
      clear HCb
      have HCb : Hid _ := HCb'.out
      clear HCb'
      clear hB
      have hO := HT.out.drawn.own
      have t0 : WD.cell? ⟨T, 0, none⟩ = some (.slice (some ⟨g, 0, none⟩) n c) := HT.out.t.cell 0
      have t1 : WD.cell? ⟨T, 1, none⟩ = some (.int .i64 now) := HT.out.t.cell 1
      have HSrc : Hid (Src WD 5 (.slice (some ⟨g, 0, none⟩) n c) n (rowsOf D L 0 n)) := hO.srcFrom 0 n c (by omega)
      have hgl : g < WD.heap.size := hO.lt
      have hnc : n ≤ c := hO.room
      have HOff : Hid (∀ ad m c', Value.slice (some ⟨g, 0, none⟩) n c = .slice (some ad) m c' → ad.block < WD.heap.size) := fun ad m c' e => by
        cases e; exact hgl
      have hTl : T < WD.heap.size := HT.out.t.lt
      have h1n : (1 : Int) ≤ (n : Int) := by omega
      have hFF : ∀ v v' : Nat → Value, (∀ t ∈ [(6, 121)], v' t.2 = v t.2) → (fun v : Nat → Value => Value.agg #[v 121, .int .i64 now]) v' = (fun v : Nat → Value => Value.agg #[v 121, .int .i64 now]) v := fun v v' hv => by
        have h1 := hv (6, 121) (by simp)
        simp only at h1 ⊢
        rw [h1]
      clear hO
      go_wp2_with fail
      refine wp_region_noPanic ?_
      refine wp_region_peel (fun W' => W'.cell? ⟨T, 0, none⟩ = some (.slice (some ⟨g, 0, none⟩) n c) ∧ W'.cell? ⟨T, 1, none⟩ = some (.int .i64 now)) _ (by kernel_rfl) rfl (by kernel_rfl) ?_ (fun hHeld => ?_)
      · exact ⟨t0, t1⟩
      simp only [List.pop_toArray, List.dropLast, List.size_toArray, List.length_cons, List.length_nil, Nat.reduceAdd, Nat.reduceSub, List.getElem_toArray, List.getElem_cons_succ, List.getElem_cons_zero]
      refine peel_take (i := 1) (oi := ?oi1d) (v := ?v1d) (fun _ _ _ _ _ h => h) hHeld ?hi1d (by kernel_rfl) (by kernel_rfl) (by kernel_rfl) ?hw1d ?hy1d ?rest1d
      case hi1d =>
        simp only [List.getElem?_toArray, List.getElem?_cons_succ, List.getElem?_cons_zero]
        rfl
      case hw1d => rfl
      case hy1d =>
        intro w hSw
        obtain ⟨s0, s1⟩ := hSw
        go_simp
        try with_reducible rfl
      try simp only [Act.put, List.setIfInBounds_toArray, List.set_cons_zero, List.set_cons_succ]
      refine peel_take (i := 2) (oi := ?oi2d) (v := ?v2d) (fun _ _ _ _ _ h => h) hHeld ?hi2d (by kernel_rfl) (by kernel_rfl) (by kernel_rfl) ?hw2d ?hy2d ?rest2d
      case hi2d =>
        simp only [List.getElem?_toArray, List.getElem?_cons_succ, List.getElem?_cons_zero]
        rfl
      case hw2d => rfl
      case hy2d =>
        intro w hSw
        obtain ⟨s0, s1⟩ := hSw
        go_simp
        try with_reducible rfl
      try simp only [Act.put, List.setIfInBounds_toArray, List.set_cons_zero, List.set_cons_succ]
      refine peel_take (i := 4) (oi := ?oi4d) (v := ?v4d) (fun _ _ _ _ _ h => h) hHeld ?hi4d (by kernel_rfl) (by kernel_rfl) (by kernel_rfl) ?hw4d ?hy4d ?rest4d
      case hi4d =>
        simp only [List.getElem?_toArray, List.getElem?_cons_succ, List.getElem?_cons_zero]
        rfl
      case hw4d => rfl
      case hy4d =>
        intro w hSw
        obtain ⟨s0, s1⟩ := hSw
        go_simp
        try with_reducible rfl
      try simp only [Act.put, List.setIfInBounds_toArray, List.set_cons_zero, List.set_cons_succ]
      refine peel_take (i := 7) (oi := ?oi7d) (v := ?v7d) (fun _ _ _ _ _ h => h) hHeld ?hi7d (by kernel_rfl) (by kernel_rfl) (by kernel_rfl) ?hw7d ?hy7d ?rest7d
      case hi7d =>
        simp only [List.getElem?_toArray, List.getElem?_cons_succ, List.getElem?_cons_zero]
        rfl
      case hw7d => rfl
      case hy7d =>
        intro w hSw
        obtain ⟨s0, s1⟩ := hSw
        go_simp
        try with_reducible rfl
      try simp only [Act.put, List.setIfInBounds_toArray, List.set_cons_zero, List.set_cons_succ]
      refine peel_take (i := 8) (oi := ?oi8d) (v := ?v8d) (fun _ _ _ _ _ h => h) hHeld ?hi8d (by kernel_rfl) (by kernel_rfl) (by kernel_rfl) ?hw8d ?hy8d ?rest8d
      case hi8d =>
        simp only [List.getElem?_toArray, List.getElem?_cons_succ, List.getElem?_cons_zero]
        rfl
      case hw8d => rfl
      case hy8d =>
        intro w hSw
        obtain ⟨s0, s1⟩ := hSw
        go_simp
        try with_reducible rfl
      try simp only [Act.put, List.setIfInBounds_toArray, List.set_cons_zero, List.set_cons_succ]
      refine wpAnyH_act fun aR hA => ?_
      have eS : aR.eval (.tmp 117) = .slice (some ⟨g, 0, none⟩) n c := by rw [hA]; rfl
      have eN : aR.eval (.tmp 123) = .int .i64 now := by rw [hA]; rfl
      have eB : aR.eval (.tmp 119) = .agg #[.int .i64 0, .string ByteArray.empty, .slice none 0 0, .slice none 0 0, .int .i64 0] := by rw [hA]; rfl
      have hsz : 130 < aR.tmps.size := by rw [hA]; simp
      have HA' : Hid _ := hA
      clear hA
      refine wpAnyH_plain (a0 := aR) [10, 115, 118, 120, 121, 124] (RJX [1, 2, 4, 7, 8] WD (fun d => if d = 115 then ⟨36, 5, 0, []⟩ else if d = 118 then ⟨36, 5, n, rowsOf D L 0 n⟩ else if d = 120 then ⟨36, 5, 1, (nd5 (leafNd 0 0) loc00)⟩ else ⟨36, 5, n + 1, (rowsOf D L 0 n) ++ (nd5 (leafNd 0 0) loc00)⟩)
        [(115, 0, 3), (118, 3, 6), (120, 5, 6), (121, 6, 99)] [] 9 124 [(6, 121)] (fun v : Nat → Value => Value.agg #[v 121, .int .i64 now]) 10 10 #[.slice none 0 0, .int .i64 0] 25) (by kernel_rfl) (by kernel_rfl) (by rfl) (by decide) (fun v => RJX.start (RJ.start (below_drewN (Below.refl _ _) 1) (by decide) (by decide) (by decide) (by simp)) (by decide) (by decide)) (fun L' v w' h => ⟨(h.rjb.rj.bel.cell hTl).trans t0, (h.rjb.rj.bel.cell hTl).trans t1⟩) ⟨?_, ?_, ?_, ?_, ?_, ?_, ?_, ?_, ?_, ?_, ?_, trivial⟩ ?_
      · intro L' v w' h hd hJ K hK
        exact ⟨wp_nodes0 (hK _ _ _ (upd_put _ _ _ 115 _ (by decide)) (hJ.make (k := 0) (d := 115) h (by decide) (by decide) (by decide) (by decide) (by decide) hFF (by decide) (by decide) (xs := []) (n := 0) (e := 36) (size := 5) rfl rfl (by unfold maxLen; omega)))⟩
      · intro L2 v2 w2 h2 hd2 hJ2
        exact hJ2.gone (k := 1) (by decide) h2
      · intro L2 v2 w2 h2 hd2 hJ2
        exact hJ2.gone (k := 2) (by decide) h2
      · intro L' v w' h hd hJ K hK
        have hdj : L' 0 = true := hd _ (List.Mem.head _) rfl
        have hlive : liveAt [(115, 0, 3), (118, 3, 6), (120, 5, 6), (121, 6, 99)] L' 115 := ⟨0, 3, by decide, hdj, h⟩
        refine ⟨wp_append_src (.tmp 115) (.tmp 117) 23 rfl WD.heap.size 36 j0 (.agg #[.int .i64 0, .string ByteArray.empty, .slice none 0 0, .slice none 0 0, .int .i64 0]) 5 80 Try.underlying23 hj0 hy0 hy1 hy2 rfl (by decide) (v 115) 0 [] (upd_eval_in aR _ v 115 (by decide) (by omega)) (hJ.rjb.rj.rws.own 115 hlive).1 _ n _ ((upd_eval_out aR _ v 117 (by decide)).trans eS) (HSrc.out.of_cells hJ.rjb.rj.bel HOff.out) (by unfold maxLen; omega) (by omega) hJ.rjb.rj.bel.size ?_⟩
        intro v' w2 hown hgrow hnil hat
        exact hK _ _ _ (upd_put _ _ _ 118 _ (by decide)) (hJ.app (k := 3) (d := 118) (s := 115) h (by decide) (by decide) (by decide) (by decide) (by decide) hFF hlive (by decide) hgrow (by decide) (by decide) (by simpa using hown) hat)
      · intro L2 v2 w2 h2 hd2 hJ2
        exact hJ2.gone (k := 4) (by decide) h2
      · intro L' v w' h hd hJ K hK
        exact ⟨wp_nodes1 ((upd_eval_out aR _ v 119 (by decide)).trans eB) (hK _ _ _ (upd_put _ _ _ 120 _ (by decide)) (hJ.make (k := 5) (d := 120) h (by decide) (by decide) (by decide) (by decide) (by decide) hFF (by decide) (by decide) (xs := (nd5 (leafNd 0 0) loc00)) (n := 1) (e := 36) (size := 5) rfl rfl (by unfold maxLen; omega)))⟩
      · intro L' v w' h hd hJ K hK
        have hdj : L' 3 = true := hd _ (List.Mem.head _) rfl
        have hdx : L' 5 = true := hd _ (List.Mem.tail _ (List.Mem.head _)) rfl
        have hlive : liveAt [(115, 0, 3), (118, 3, 6), (120, 5, 6), (121, 6, 99)] L' 118 := ⟨3, 6, by decide, hdj, h⟩
        have hlive2 : liveAt [(115, 0, 3), (118, 3, 6), (120, 5, 6), (121, 6, 99)] L' 120 := ⟨5, 6, by decide, hdx, h⟩
        obtain ⟨bx, hbx⟩ := (hJ.rjb.rj.rws.own 120 hlive2).2
        refine ⟨wp_append_src (.tmp 118) (.tmp 120) 23 rfl WD.heap.size 36 j0 (.agg #[.int .i64 0, .string ByteArray.empty, .slice none 0 0, .slice none 0 0, .int .i64 0]) 5 80 Try.underlying23 hj0 hy0 hy1 hy2 rfl (by decide) (v 118) (n) _ (upd_eval_in aR _ v 118 (by decide) (by omega)) (hJ.rjb.rj.rws.own 118 hlive).1 _ 1 _ (upd_eval_in aR _ v 120 (by decide) (by omega)) (owns_src (hJ.rjb.rj.rws.own 120 hlive2).1 (nd5_one _ _) hbx) (by unfold maxLen; omega) (by omega) hJ.rjb.rj.bel.size ?_⟩
        intro v' w2 hown hgrow hnil hat
        exact hK _ _ _ (upd_put _ _ _ 121 _ (by decide)) (hJ.app (k := 6) (d := 121) (s := 118) h (by decide) (by decide) (by decide) (by decide) (by decide) hFF hlive (by decide) hgrow (by decide) (by decide) (by simpa using hown) hat)
      · intro L2 v2 w2 h2 hd2 hJ2
        exact hJ2.gone (k := 7) (by decide) h2
      · intro L2 v2 w2 h2 hd2 hJ2
        exact hJ2.gone (k := 8) (by decide) h2
      · intro L' v w' h hd hJ K hK
        have hdf : L' 6 = true := hd _ (List.Mem.head _) rfl
        have hlf : liveAt [(115, 0, 3), (118, 3, 6), (120, 5, 6), (121, 6, 99)] L' 121 := ⟨6, 99, by decide, hdf, hJ.rjb.rj.none⟩
        obtain ⟨bf, hbf⟩ := (hJ.rjb.rj.rws.own 121 hlf).2
        obtain ⟨cf, hvf, _⟩ := owned_form (hJ.rjb.rj.rws.own 121 hlf).1 hbf
        have hK' := hK _ _ _ (upd_put _ _ _ 124 _ (by decide)) (hJ.build (by intro t ht; simp at ht; rcases ht with rfl; exact hdf) (by decide) hFF (by decide) (by decide) (by decide) (by decide))
        try dsimp only at hK'
        rw [hvf] at hK'
        exact ⟨wp_tree2 ((upd_eval_in aR _ v 121 (by decide) (by omega)).trans hvf) ((upd_eval_out aR _ v 123 (by decide)).trans eN) hK'⟩
      · intro L' v w' h hd hJ K hK
        exact ⟨wp_allocTree (hK _ _ _ (upd_put _ _ _ 10 _ (by decide)) (hJ.alloc (by decide) (by decide) (by decide) hFF (by decide) (by decide)))⟩
      intro L' v w' hL hJ
      obtain ⟨_, hvt⟩ := hJ.rjb.built (hL 9 (by decide))
      obtain ⟨Xd, hvx, hXge, hXb, hXne⟩ := hJ.box (hL 10 (by decide))
      have hlf : liveAt [(115, 0, 3), (118, 3, 6), (120, 5, 6), (121, 6, 99)] L' 121 := ⟨6, 99, by decide, hL 6 (by decide), hJ.rjb.rj.none⟩
      have hown := (hJ.rjb.rj.rws.own 121 hlf).1
      obtain ⟨gd, hbf⟩ := (hJ.rjb.rj.rws.own 121 hlf).2
      have hXg : gd ≠ Xd := fun e => hXne 121 hlf (by rw [hbf, e])
      obtain ⟨cd, hvf', hgge, hglt⟩ := owned_form hown hbf
      have hvf : v 121 = .slice (some ⟨gd, 0, none⟩) (n + 1) cd := by
        have e : n + 1 = (n + 1) := by omega
        rw [← e]; exact hvf'
      have hrow : w'.ownsRow WD.heap.size 36 5 (.slice (some ⟨gd, 0, none⟩) (n + 1) cd) (n + 1) (rowsOf (padT D n) (padL L n) 0 (n + 1)) := by
        have e : n + 1 = (n + 1) := by omega
        have e1 : rowsOf (padT D n) (padL L n) 0 (n + 1) = (rowsOf D L 0 n) ++ (nd5 (leafNd 0 0) loc00) := rows_free D L
        have h9 : w'.ownsRow WD.heap.size 36 5 (v 121) (n + 1) ((rowsOf D L 0 n) ++ (nd5 (leafNd 0 0) loc00)) := hown
        rw [e, hvf] at h9
        rw [e1]; exact h9
      have hbw := HT.out.drawn.bel.size
      have hBf : Below WD.heap.size WD ((w'.setCell ⟨Xd, 0, none⟩ (.slice (some ⟨gd, 0, none⟩) (n + 1) cd)).setCell ⟨Xd, 1, none⟩ (.int .i64 now)) := bel_put (bel_put hJ.rjb.rj.bel _ hXge) _ hXge
      have HX : Hid (InC w WD Xd gd cd (n + 1) (padT D n) (padL L n) now ((w'.setCell ⟨Xd, 0, none⟩ (.slice (some ⟨gd, 0, none⟩) (n + 1) cd)).setCell ⟨Xd, 1, none⟩ (.int .i64 now))) :=
        ⟨hBf, (hXb.set 0 _).set 1 _, OwnT.of_row (owns_off (owns_off hrow hXg _) hXg _) hbw (lists_free HT.out.drawn.own hBf hgge), hXge, hgge, hXg⟩
      have q0 := hXb.cell 0
      have q1 := hXb.cell 1
      have qf0 := hXb.frozen 0
      have qf1 := hXb.frozen 1
      try dsimp only at hvt
      rw [hvf] at hvt
      refine ⟨?_⟩
      show Oper.wp _ _ _ _ _ _
      rw [HA'.out]
      simp only [upd, List.foldl_cons, List.foldl_nil, List.setIfInBounds_toArray, List.set_cons_zero, List.set_cons_succ, hvt, hvx]
      generalize v 115 = y115
      generalize v 118 = y118
      generalize v 120 = y120
      generalize v 121 = y121
      clear hJ hL hown hvf hvf' hvt hvx hXb hXne hrow hBf HSrc HOff HA' hsz eS eN eB hlf hbf hFF hHeld
      skip
      go_simp
      refine NoPanic.normal ?_
      revert HX
      generalize ((w'.setCell ⟨Xd, 0, none⟩ (.slice (some ⟨gd, 0, none⟩) (n + 1) cd)).setCell ⟨Xd, 1, none⟩ (.int .i64 now)) = WE
      intro HCd
      clear q0 q1 qf0 qf1 hgge hglt hXge hXg t0 t1 hTl hgl hnc hbw h1n 
      clear w'
      have hB := HCd.out.bel
      have HR' : Hid _ := HR.out.below hB
      clear HR
      have HR : Hid _ := HR'.out
      clear HR'
      have HT' : Hid (InT w T g c n D L now WE) := HT.out.below hB
      clear HT
      have HT : Hid (InT w T g c n D L now WE) := HT'.out
      clear HT'
      have HCa' : Hid _ := HCa.out.below hB
      clear HCa
      have HCa : Hid _ := HCa'.out
      clear HCa'
      have HCb' : Hid _ := HCb.out.below hB
      clear HCb
      have HCb : Hid _ := HCb'.out
      clear HCb'
      have HCc' : Hid _ := HCc.out.below hB
      clear HCc
      have HCc : Hid _ := HCc'.out
      clear HCc'
      clear hB
      have xa0 : WE.cell? ⟨Xa, 0, none⟩ = some (.slice (some ⟨ga, 0, none⟩) n ca) := HCa.out.x.cell 0
      have xa1 : WE.cell? ⟨Xa, 1, none⟩ = some (.int .i64 now) := HCa.out.x.cell 1
      have hn10 : n ≤ 10 := by omega
      have HL : Hid (n ≤ maxLen ∧ n + 1 ≤ maxLen ∧ In64 now) := ⟨HT.out.drawn.fair.len, by unfold maxLen; omega, HT.out.in64⟩
      have HFa : Hid (FitAll n (putNd D 0 (rootM (D 0) n)) ∧ sizeTo (putNd D 0 (rootM (D 0) n)) n ≤ 1048576) := fits_rootM HFair.out ⟨by omega, by omega⟩
      have HFb : Hid (Fair (n + 1) (filT D n)) := fil_fair HFair.out hn10
      have HFc : Hid (FitAll (n + 1) (putNd (filT D n) 0 (rootM (D 0) n)) ∧ sizeTo (putNd (filT D n) 0 (rootM (D 0) n)) (n + 1) ≤ 1048576) := by
        have := fits_rootM HFb.out (z := (n : Int)) ⟨by omega, by omega⟩
        rwa [fil_lt D hn1] at this
      have HFd : Hid (Fair (n + 1) (padT D n)) := pad_fair1 HFair.out hn10
      go_wp2_with fail
      refine (implTreeOk (some ⟨ga, 0, none⟩) n ca now _ _ _ HCa.out.own.nds HFa.out.1 HL.out.1 HFa.out.2 HL.out.2.2).mono ?_
      rintro e WF ⟨hB, ok, rfl, hok⟩
      have hok' : ok = false := by
        cases ok with
        | false => rfl
        | true => exact absurd (hok.1 rfl) (none_kid HG.out (Nat.le_refl _))
      subst hok'
      clear hok xa0 xa1
      have HT' : Hid (InT w T g c n D L now WF) := HT.out.below hB
      clear HT
      have HT : Hid (InT w T g c n D L now WF) := HT'.out
      clear HT'
      have HCb' : Hid _ := HCb.out.below hB
      clear HCb
      have HCb : Hid _ := HCb'.out
      clear HCb'
      have HCc' : Hid _ := HCc.out.below hB
      clear HCc
      have HCc : Hid _ := HCc'.out
      clear HCc'
      have HCd' : Hid _ := HCd.out.below hB
      clear HCd
      have HCd : Hid _ := HCd'.out
      clear HCd'
      clear hB
      have xb0 : WF.cell? ⟨Xb, 0, none⟩ = some (.slice (some ⟨gb, 0, none⟩) (n + 1 : Nat) cb) := HCb.out.x.cell 0
      have xb1 : WF.cell? ⟨Xb, 1, none⟩ = some (.int .i64 now) := HCb.out.x.cell 1
      go_wp2_with fail
      refine (implTreeOk (some ⟨gb, 0, none⟩) (n + 1) cb now _ _ _ HCb.out.own.nds HFb.out.fits HL.out.2.1 HFb.out.size HL.out.2.2).mono ?_
      rintro e WG ⟨hB, ok, rfl, hok⟩
      have hok' : ok = false := by
        cases ok with
        | false => rfl
        | true => exact absurd (hok.1 rfl) (fil_not HG.out)
      subst hok'
      clear hok xb0 xb1
      have HT' : Hid (InT w T g c n D L now WG) := HT.out.below hB
      clear HT
      have HT : Hid (InT w T g c n D L now WG) := HT'.out
      clear HT'
      have HCc' : Hid _ := HCc.out.below hB
      clear HCc
      have HCc : Hid _ := HCc'.out
      clear HCc'
      have HCd' : Hid _ := HCd.out.below hB
      clear HCd
      have HCd : Hid _ := HCd'.out
      clear HCd'
      clear hB
      have xc0 : WG.cell? ⟨Xc, 0, none⟩ = some (.slice (some ⟨gc, 0, none⟩) (n + 1 : Nat) cc) := HCc.out.x.cell 0
      have xc1 : WG.cell? ⟨Xc, 1, none⟩ = some (.int .i64 now) := HCc.out.x.cell 1
      go_wp2_with fail
      refine (implTreeOk (some ⟨gc, 0, none⟩) (n + 1) cc now _ _ _ HCc.out.own.nds HFc.out.1 HL.out.2.1 HFc.out.2 HL.out.2.2).mono ?_
      rintro e WH ⟨hB, ok, rfl, hok⟩
      obtain rfl : ok = true := hok.2 (fil_good HG.out hn9 HFair.out)
      clear hok xc0 xc1
      have HT' : Hid (InT w T g c n D L now WH) := HT.out.below hB
      clear HT
      have HT : Hid (InT w T g c n D L now WH) := HT'.out
      clear HT'
      have HCd' : Hid _ := HCd.out.below hB
      clear HCd
      have HCd : Hid _ := HCd'.out
      clear HCd'
      clear hB
      have xd0 : WH.cell? ⟨Xd, 0, none⟩ = some (.slice (some ⟨gd, 0, none⟩) (n + 1 : Nat) cd) := HCd.out.x.cell 0
      have xd1 : WH.cell? ⟨Xd, 1, none⟩ = some (.int .i64 now) := HCd.out.x.cell 1
      go_wp2_with fail
      refine (implTreeOk (some ⟨gd, 0, none⟩) (n + 1) cd now _ _ _ HCd.out.own.nds HFd.out.fits HL.out.2.1 HFd.out.size HL.out.2.2).mono ?_
      rintro e WI ⟨hB, ok, rfl, hok⟩
      obtain rfl : ok = true := hok.2 (pad_good HG.out (by omega) (by omega))
      have HE : Hid (Below w.heap.size w WI) := (HT.out.below hB).drawn.bel
      clear hok xd0 xd1 hB
      go_wp2
      go_ret
      exact ⟨by simp, HE.out⟩

set_option maxRecDepth 100000 in
theorem lifted (os : Os) (started : os.Started) (H : Type) (enc : TypeId × Value → H) :
    ReturnsInHanded {} Try.checked os 3 .any (Rows.fnTreeSpec.pre6 enc Try.prog Try.f3 Rows.fnTreeRow.domain false) (Rows.fnTreeSpec.post enc Try.prog Try.f3 false true false false) := by
  refine returnsInHanded_of_change (C := Try.checked) own started (by kernel_rfl) Try.func3
    (ChangeSpec.witness6 (enc := enc) (C := Try.checked) false ⟨#[], #[.slice none 0 0], []⟩ 8 (by kernel_rfl) (by kernel_rfl) (by kernel_rfl) (by kernel_rfl)) ?_
  intro W base args ds gs before hval0 hW hcnd _
  have hval : ∀ (j : Nat) t v, Try.f3.params[j]? = some t → args[j]? = some v → Value.okWide Try.prog W .any base t v := hval0
  have hW' := hW
  obtain ⟨p, q, hA0, hV, rfl, hfz, hnd⟩ := hW
  have hA : DataW.TrodAll enc Try.prog W 0 (fun _ => true) true Try.f3.params.toList args.toList ds p := hA0
  rw [Try.params3] at hA hval
  obtain ⟨v0, vs0, d0, ds0, p0, q0, hargs, rfl, rfl, h0, r0⟩ := trodAll_cons hA
  obtain ⟨rfl, rfl, rfl⟩ := trodAll_nil r0
  obtain rfl : args = #[v0] := by cases args; simp_all
  obtain ⟨rfl, rfl⟩ := trodVars_none hV
  obtain ⟨a0, len0, cap0, rfl⟩ := okWide_slice Try.underlying22 (hval 0 22 v0 rfl rfl)
  have k0 := h0
  have lt0 : ∀ x ∈ p0, x.block < W.heap.size := by obtain ⟨m, hm⟩ := k0; exact DataW.trod_lt m _ _ _ hm
  obtain ⟨zs0, hC0, hl0, hp0⟩ := openCode h0
  clear hA0 hval0
  refine (walk a0 len0 cap0 zs0 W hC0 hl0 hp0).mono fun e W' ⟨he, bel⟩ => ?_
  subst he
  exact ⟨_, rfl, _, _, _, [], _, [], hW', trodAll_mk1 (shut_bool Try.underlying4 _), (trodAll_cons_mk (Below.trod laidOut (by kernel_rfl) (of_decide_eq_true (by kernel_rfl)) k0 bel lt0) trodAll_mk0), rfl, bel.frame _, fun h => by cases h⟩

theorem over : Rows.fnTreeRow.holds Try.pinned (OpenSpec.ofChange Rows.fnTreeSpec) :=
  OpenClaim.holds_of_wide 3 Try.f3 rfl rfl rfl rfl rfl rfl rfl ⟨rfl, rfl, rfl, rfl, rfl⟩ rfl rfl rfl rfl rfl (by kernel_rfl) Try.func3 (by kernel_rfl)
    (of_decide_eq_true (by kernel_rfl)) (by unfold Func.isWrapper; first | (rw [if_pos (by decide +kernel)]; kernel_rfl) | (rw [if_neg (by decide +kernel)]; exact ⟨rfl, rfl⟩))
    (fun os started H enc _ => lifted os started H enc)
end Go.Proofs.Ytlikmphjocjmeaa.fnTree

namespace Go.Proofs.Ytlikmphjocjmeaa
theorem fnTree_holds : Rows.FnTreeSaid := fnTree.over
end Go.Proofs.Ytlikmphjocjmeaa
