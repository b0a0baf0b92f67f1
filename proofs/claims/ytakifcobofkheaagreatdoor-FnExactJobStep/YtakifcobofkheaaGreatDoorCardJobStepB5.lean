/-
  Texts that the proof needs, laid one behind the other.
-/
import Derived.Test.YtakifcobofkheaaGreatDoorCardJobStepB4
import Derived.RangeFuncNested
import Derived.RangeFuncBound
import Derived.RangeFuncCalls
import Derived.RangeFuncLeaves
import Derived.Shelf.Abstract
import Derived.Shelf.RegionOpen
import Derived.WalkKit
import Derived.OwnWalkIn
import Derived.TacticsInMore
import Derived.LoopNIn
import Derived.LoopIn

/-
  What l2Tree of the specification answers: the same tree in new memory.
-/
namespace Go.Proofs.YtakifcobofkheaaGreatDoor
open Go.RowKit Go.Deep
set_option linter.unusedVariables false
set_option linter.unusedSimpArgs false
set_option linter.unnecessarySimpa false

theorem blk_grownT {w w' : World} {b : Nat} {cs : Array Value} {t : TypeId} {r : Option Nat} (h : Blk w b cs t) (hg : w.grownBy w' r) (hr : r ≠ some b) : Blk w' b cs t := h.of_block (hg.block b h.lt (fun e => hr e.symm))

/-- The boxes. -/
structure Tc (w : World) (a : Option Addr) (n c : Nat) (now : Int) (W : World) : Prop where
  p : Blk W w.heap.size #[.slice a n c, .int .i64 now] 33
  r : Blk W (w.heap.size + 1) #[.slice none 0 0, .int .i64 0] 33
  bel : Below w.heap.size w W

theorem Tc.below {w : World} {a : Option Addr} {n c : Nat} {now : Int} {W W' : World} (h : Tc w a n c now W) (hb : Below W.heap.size W W') : Tc w a n c now W' := ⟨h.p.below hb h.p.lt, h.r.below hb h.r.lt, h.bel.trans (hb.mono h.bel.size)⟩

theorem Tc.of {w W0 : World} {a : Option Addr} {n c : Nat} {now : Int} (h : Tc w a n c now W0) {V : Nat} {t : Int} {k : Nat} {b : Option Addr} {bc : Nat} {E : Nat → Nd} {M : Nat → Loc} {W : World} (g : GT W0 V t k b bc E M W) (hV : w.heap.size + 1 < V) : Tc w a n c now W :=
  ⟨h.p.of_block (g.keep h.p.lt (by omega)), h.r.of_block (g.keep h.r.lt (by omega)), h.bel.grown g.gr (by have := h.bel.size; omega) (fun j e => by have := Option.some.inj e; omega)⟩

set_option maxRecDepth 100000 in
set_option maxHeartbeats 8000000 in
theorem l2Tree_any (a : Option Addr) (n c : Nat) (now : Int) (D : Nat → Nd) (L : Nat → Loc) (w : World) (hS : IsNds w a n D L) (hn : n ≤ 1000) (hsz : sizeTo D n ≤ 1048576) :
    Calls Tryz.prog 65 #[trV a n c now] w fun e w' => ∃ b bc M, e = .returned (.agg #[.slice b n bc, .int .i64 now]) ∧ Below w.heap.size w w' ∧ OT w' w.heap.size 0 (fun _ => false) n (fun _ => 0) D M (.slice none 0 0) (.slice b n bc) := by
  unfold trV
  obtain ⟨y0, hy, hy0, hy1, hy2⟩ := info_parts infoNode
  have htS := tr_small hsz
  go_enter Tryz.func65, Tryz.ntmps65
  go_wp2_with fail
  refine wp_world (F := fun W => Tc w a n c now W ∧ Blk W (w.heap.size + 1 + 1) #[.slice none 0 0, .int .i64 now] 33 ∧ w.heap.size + 3 ≤ W.heap.size) ?_ ?_
  · obtain ⟨h0, h1, h2, hb, hs⟩ := new3 w #[.slice a n c, .int .i64 now] 33 #[.slice none 0 0, .int .i64 0] 33 #[.slice none 0 0, .int .i64 now] 33
    exact ⟨⟨h0, h1, hb⟩, h2, by omega⟩
  rintro W0 ⟨hO, hV, hs0⟩
  have HO : Hid (Tc w a n c now W0) := hO
  have HG : Hid (GT W0 (w.heap.size + 1 + 1) now 0 none 0 (fun _ => ndZero) (fun _ => ⟨none, 0, none, 0⟩) W0) := GT.start hV _ _
  clear hO hV
  go_loopw [4] (fun i wr => ∃ (k : Nat) (b : Option Addr) (bc : Nat) (E : Nat → Nd) (M : Nat → Loc), k ≤ n ∧ i = .int .i64 k ∧ GT W0 (w.heap.size + 1 + 1) now k b bc E M wr ∧ ∀ i, i < k → E i = D i) (fun i _ => n - (intOf i).toNat)
  case atStart => exact ⟨0, none, 0, _, _, Nat.zero_le _, rfl, HG.out, fun i hi => absurd hi (Nat.not_lt_zero _)⟩
  case round =>
    obtain ⟨k, b, bc, E, M, hk, rfl, hin, hsel⟩ := hrel
    have HIN : Hid (GT W0 (w.heap.size + 1 + 1) now k b bc E M wr ∧ ∀ i, i < k → E i = D i) := ⟨hin, hsel⟩
    have HT : Hid (Tc w a n c now wr) := HO.out.of hin (by omega)
    have hsw : w.heap.size + 3 ≤ wr.heap.size := by have := hin.size; omega
    clear hin hsel
    have p0 : wr.cell? ⟨w.heap.size, 0, none⟩ = some (.slice a n c) := HT.out.p.cell 0
    have v0 : wr.cell? ⟨w.heap.size + 1 + 1, 0, none⟩ = some (.slice b k bc) := HIN.out.1.v.cell 0
    have v1 : wr.cell? ⟨w.heap.size + 1 + 1, 1, none⟩ = some (.int .i64 now) := HIN.out.1.v.cell 1
    by_cases hlt : k < n
    · have hlti : (k : Int) < (n : Int) := by omega
      obtain ⟨bT, oT, hT, hTl, hTc⟩ := (hS.below (Nat.le_refl _) HT.out.bel).at hlt
      have HTA : Hid (a = some ⟨bT, oT, none⟩) := hT
      clear hT hTc
      go_wp2_with fail
      have HW : Hid (bT < w.heap.size ∧ ∀ W', Below wr.heap.size wr W' → (W'.cell? ⟨w.heap.size + 1 + 1, 0, none⟩ = some (.slice b k bc) ∧ W'.cell? ⟨w.heap.size, 0, none⟩ = some (.slice (some ⟨bT, oT, none⟩) n c) ∧ W'.cell? ⟨bT, oT + k * 5, none⟩ = some (.int .i64 (D k).kind) ∧ W'.cell? ⟨bT, oT + k * 5 + 1, none⟩ = some (.string (D k).text) ∧ W'.cell? ⟨bT, oT + k * 5 + 2, none⟩ = some (.slice (L k).nA (D k).nn (L k).nc) ∧ W'.cell? ⟨bT, oT + k * 5 + 3, none⟩ = some (.slice (L k).kA (D k).kn (L k).kc) ∧ W'.cell? ⟨bT, oT + k * 5 + 4, none⟩ = some (.int .i64 (D k).turn)) ∧ NdIn W' (D k) (L k)) := by
        show _ ∧ _
        obtain ⟨bI, oI, hQ, hbl, _⟩ := hS.at hlt
        have hQT := HTA.out
        rw [hQ] at hQT
        obtain ⟨rfl, rfl⟩ : bI = bT ∧ oI = oT := by cases hQT; exact ⟨rfl, rfl⟩
        refine ⟨by omega, fun W' hW => ?_⟩
        have hcc : W'.cell? ⟨w.heap.size, 0, none⟩ = some (.slice a n c) := (HT.out.below hW).p.cell 0
        have hv3 : W'.cell? ⟨w.heap.size + 1 + 1, 0, none⟩ = some (.slice b k bc) := (HIN.out.1.below hW).v.cell 0
        obtain ⟨bI', oI', hQ', _, hc'⟩ := ((hS.below (Nat.le_refl _) HT.out.bel).below (Nat.le_refl _) hW).at hlt
        obtain ⟨d1, d2, d3, d4, d5, d6⟩ := hc' k hlt
        rw [hQ] at hQ'
        cases hQ'
        refine ⟨⟨hv3, ?_, d1, d2, d3, d4, d5⟩, d6⟩
        rw [← hQ]
        exact hcc
      obtain ⟨hbIl, hSt⟩ := HW.out
      have HSt : Hid _ := hSt
      have hsm := htS k hlt
      clear p0 v0 v1 hSt HW
      have hd5 : Below wr.heap.size wr wr.drew := below_drewN (Below.refl _ _) 1
      refine wp_region_noPanic ?_
      refine wp_region_peel2 (fun W' => W'.cell? ⟨w.heap.size + 1 + 1, 0, none⟩ = some (.slice b k bc) ∧ W'.cell? ⟨w.heap.size, 0, none⟩ = some (.slice (some ⟨bT, oT, none⟩) n c) ∧ W'.cell? ⟨bT, oT + k * 5, none⟩ = some (.int .i64 (D k).kind) ∧ W'.cell? ⟨bT, oT + k * 5 + 1, none⟩ = some (.string (D k).text) ∧ W'.cell? ⟨bT, oT + k * 5 + 2, none⟩ = some (.slice (L k).nA (D k).nn (L k).nc) ∧ W'.cell? ⟨bT, oT + k * 5 + 3, none⟩ = some (.slice (L k).kA (D k).kn (L k).kc) ∧ W'.cell? ⟨bT, oT + k * 5 + 4, none⟩ = some (.int .i64 (D k).turn)) _ _ (by kernel_rfl) rfl rfl (by kernel_rfl) (by kernel_rfl) ?_ (fun hHeld => ?_)
      · exact (HSt.out _ hd5).1
      simp only [List.pop_toArray, List.dropLast, List.size_toArray, List.length_cons, List.length_nil, Nat.reduceAdd, Nat.reduceSub, List.getElem_toArray, List.getElem_cons_succ, List.getElem_cons_zero]
      refine peel_take (i := 0) (oi := ?oi0y) (v := ?v0y) (fun _ _ _ _ _ h => h) hHeld ?hi0y (by kernel_rfl) (by kernel_rfl) (by kernel_rfl) ?hw0y ?hy0y ?rest0y
      case hi0y =>
        simp only [List.getElem?_toArray, List.getElem?_cons_zero]
        rfl
      case hw0y => rfl
      case hy0y =>
        intro w hSw
        obtain ⟨s0, s1, s2, s3, s4, s5, s6⟩ := hSw
        go_simp
        try with_reducible rfl
      try simp only [Act.put, List.setIfInBounds_toArray, List.set_cons_zero, List.set_cons_succ]
      refine peel_take (i := 1) (oi := ?oi1y) (v := ?v1y) (fun _ _ _ _ _ h => h) hHeld ?hi1y (by kernel_rfl) (by kernel_rfl) (by kernel_rfl) ?hw1y ?hy1y ?rest1y
      case hi1y =>
        simp only [List.getElem?_toArray, List.getElem?_cons_succ, List.getElem?_cons_zero]
        rfl
      case hw1y => rfl
      case hy1y =>
        intro w hSw
        obtain ⟨s0, s1, s2, s3, s4, s5, s6⟩ := hSw
        go_simp
        try with_reducible rfl
      try simp only [Act.put, List.setIfInBounds_toArray, List.set_cons_zero, List.set_cons_succ]
      refine peel_take (i := 2) (oi := ?oi2y) (v := ?v2y) (fun _ _ _ _ _ h => h) hHeld ?hi2y (by kernel_rfl) (by kernel_rfl) (by kernel_rfl) ?hw2y ?hy2y ?rest2y
      case hi2y =>
        simp only [List.getElem?_toArray, List.getElem?_cons_succ, List.getElem?_cons_zero]
        rfl
      case hw2y => rfl
      case hy2y =>
        intro w hSw
        obtain ⟨s0, s1, s2, s3, s4, s5, s6⟩ := hSw
        go_simp
        try with_reducible rfl
      try simp only [Act.put, List.setIfInBounds_toArray, List.set_cons_zero, List.set_cons_succ]
      refine peel_take (i := 3) (oi := ?oi3y) (v := ?v3y) (fun _ _ _ _ _ h => h) hHeld ?hi3y (by kernel_rfl) (by kernel_rfl) (by kernel_rfl) ?hw3y ?hy3y ?rest3y
      case hi3y =>
        simp only [List.getElem?_toArray, List.getElem?_cons_succ, List.getElem?_cons_zero]
        rfl
      case hw3y => rfl
      case hy3y =>
        intro w hSw
        obtain ⟨s0, s1, s2, s3, s4, s5, s6⟩ := hSw
        go_simp
        try with_reducible rfl
      try simp only [Act.put, List.setIfInBounds_toArray, List.set_cons_zero, List.set_cons_succ]
      refine peel_take (i := 4) (oi := ?oi4y) (v := ?v4y) (fun _ _ _ _ _ h => h) hHeld ?hi4y (by kernel_rfl) (by kernel_rfl) (by kernel_rfl) ?hw4y ?hy4y ?rest4y
      case hi4y =>
        simp only [List.getElem?_toArray, List.getElem?_cons_succ, List.getElem?_cons_zero]
        rfl
      case hw4y => rfl
      case hy4y =>
        intro w hSw
        obtain ⟨s0, s1, s2, s3, s4, s5, s6⟩ := hSw
        go_simp
        try with_reducible rfl
      try simp only [Act.put, List.setIfInBounds_toArray, List.set_cons_zero, List.set_cons_succ]
      refine peel_take (i := 5) (oi := ?oi5y) (v := ?v5y) (fun _ _ _ _ _ h => h) hHeld ?hi5y (by kernel_rfl) (by kernel_rfl) (by kernel_rfl) ?hw5y ?hy5y ?rest5y
      case hi5y =>
        simp only [List.getElem?_toArray, List.getElem?_cons_succ, List.getElem?_cons_zero]
        rfl
      case hw5y => rfl
      case hy5y =>
        intro w hSw
        obtain ⟨s0, s1, s2, s3, s4, s5, s6⟩ := hSw
        go_simp
        try with_reducible rfl
      try simp only [Act.put, List.setIfInBounds_toArray, List.set_cons_zero, List.set_cons_succ]
      refine peel_take (i := 6) (oi := ?oi6y) (v := ?v6y) (fun _ _ _ _ _ h => h) hHeld ?hi6y (by kernel_rfl) (by kernel_rfl) (by kernel_rfl) ?hw6y ?hy6y ?rest6y
      case hi6y =>
        simp only [List.getElem?_toArray, List.getElem?_cons_succ, List.getElem?_cons_zero]
        rfl
      case hw6y => rfl
      case hy6y =>
        intro w hSw
        obtain ⟨s0, s1, s2, s3, s4, s5, s6⟩ := hSw
        go_simp
        try with_reducible rfl
      try simp only [Act.put, List.setIfInBounds_toArray, List.set_cons_zero, List.set_cons_succ]
      refine wpAnyH_ready (rs := [7]) (by kernel_rfl) (by simp) ?_
      refine AllReadyH.cons (o := ?o7y) ?ho7y (fun K hK => ?st7y) AllReadyH.nil
      case ho7y =>
        simp only [List.getElem?_toArray, List.getElem?_cons_succ, List.getElem?_cons_zero]
        rfl
      go_simp
      refine (l2Copy_any (D k) (L k) wr.drew (HSt.out _ hd5).2 hsm.1 hsm.2.1).mono ?_
      rintro e W6 ⟨l5, rfl, hN5⟩
      unfold ndV
      have hb6 : Below wr.heap.size wr W6 := hd5.trans hN5.bel
      refine hK.out _ _ (HSt.out W6 hb6).1 (fun hHeld => ?re7y)
      clear hK K
      try simp only [Act.put, List.setIfInBounds_toArray, List.set_cons_zero, List.set_cons_succ]
      refine wpAnyH_ready (rs := [8]) (by kernel_rfl) (by simp) ?_
      refine AllReadyH.cons (o := ?o8y) ?ho8y (fun K hK => ?st8y) AllReadyH.nil
      case ho8y =>
        simp only [List.getElem?_toArray, List.getElem?_cons_succ, List.getElem?_cons_zero]
        rfl
      go_simp
      have hb7 : Below wr.heap.size wr (W6.alloc (.cells #[.int .i64 (D k).kind, .string (D k).text, .slice l5.nA (D k).nn l5.nc, .slice l5.kA (D k).kn l5.kc, .int .i64 (D k).turn] 87)) := hb6.alloc hb6.size _
      refine hK.out _ _ (HSt.out _ hb7).1 (fun hHeld => ?re8y)
      clear hK K
      try simp only [Act.put, List.setIfInBounds_toArray, List.set_cons_zero, List.set_cons_succ]
      refine wpAnyH_ready (rs := [9]) (by kernel_rfl) (by simp) ?_
      refine AllReadyH.cons (o := ?o9y) ?ho9y (fun K hK => ?st9y) AllReadyH.nil
      case ho9y =>
        simp only [List.getElem?_toArray, List.getElem?_cons_succ, List.getElem?_cons_zero]
        rfl
      have hD6 := HIN.out.1.below hb7
      have hN6 := hN5.new.alloc (.cells #[.int .i64 (D k).kind, .string (D k).text, .slice l5.nA (D k).nn l5.nc, .slice l5.kA (D k).kn l5.kc, .int .i64 (D k).turn] 87)
      have hneV : (Value.slice b k bc).ownBlock ≠ some (w.heap.size + 1 + 1) := fun e => by have := HIN.out.1.own _ e; omega
      have hbo5 : ∀ q, (Value.slice b k bc).ownBlock = some q → W0.heap.size ≤ q := fun q e => (HIN.out.1.own q e).1
      refine step_of (by rfl) (wp_append_src (.tmp 16) (.tmp 23) 31 rfl W0.heap.size 87 y0 (.agg #[.int .i64 0, .string ByteArray.empty, .slice none 0 0, .slice none 0 0, .int .i64 0]) 5 80 Tryz.underlying31 hy hy0 hy1 hy2 rfl (by decide) (.slice b k bc) k _ (by rfl) hD6.ot.ownI _ 1 _ (by rfl) (src_node W6 (D k) l5) (by unfold maxLen; omega) (by omega) (by have := hb7.size; have := HIN.out.1.size; omega) ?_)
      intro vI W7 hown hgrow hnil hat
      rcases hown.2 with ⟨_, h0⟩ | ⟨gI, cI, cur, hvI, _, _, _⟩
      · omega
      subst hvI
      have hbI : (Value.slice b k bc).ownBlock = some gI ∨ (W6.alloc (.cells #[.int .i64 (D k).kind, .string (D k).text, .slice l5.nA (D k).nn l5.nc, .slice l5.kA (D k).kn l5.kc, .int .i64 (D k).turn] 87)).heap.size ≤ gI := by
        rcases hat with e | e
        · exact Or.inl e.symm
        · right
          have e' : gI = (W6.alloc (.cells #[.int .i64 (D k).kind, .string (D k).text, .slice l5.nA (D k).nn l5.nc, .slice l5.kA (D k).kn l5.kc, .int .i64 (D k).turn] 87)).heap.size := by simpa [Value.ownBlock] using e
          omega
      have hV7 := blk_grownT hD6.v hgrow hneV
      have hHeld7 : W7.cell? ⟨w.heap.size + 1 + 1, 0, none⟩ = some (.slice b k bc) ∧ W7.cell? ⟨w.heap.size, 0, none⟩ = some (.slice (some ⟨bT, oT, none⟩) n c) ∧ W7.cell? ⟨bT, oT + k * 5, none⟩ = some (.int .i64 (D k).kind) ∧ W7.cell? ⟨bT, oT + k * 5 + 1, none⟩ = some (.string (D k).text) ∧ W7.cell? ⟨bT, oT + k * 5 + 2, none⟩ = some (.slice (L k).nA (D k).nn (L k).nc) ∧ W7.cell? ⟨bT, oT + k * 5 + 3, none⟩ = some (.slice (L k).kA (D k).kn (L k).kc) ∧ W7.cell? ⟨bT, oT + k * 5 + 4, none⟩ = some (.int .i64 (D k).turn) := by
        obtain ⟨e0, e1, e2, e3, e4, e5, e6⟩ := (HSt.out _ hb7).1
        have hlow : ∀ q o v, q < W0.heap.size → (W6.alloc (.cells #[.int .i64 (D k).kind, .string (D k).text, .slice l5.nA (D k).nn l5.nc, .slice l5.kA (D k).kn l5.kc, .int .i64 (D k).turn] 87)).cell? ⟨q, o, none⟩ = some v → W7.cell? ⟨q, o, none⟩ = some v := fun q o v hq h => hgrow.cell h (fun e => by have := hbo5 q e.symm; omega)
        exact ⟨hV7.cell 0, hlow _ _ _ (by omega) e1, hlow _ _ _ (by omega) e2, hlow _ _ _ (by omega) e3, hlow _ _ _ (by omega) e4, hlow _ _ _ (by omega) e5, hlow _ _ _ (by omega) e6⟩
      have H8 : Hid _ := (HIN.out.1.below hd5).item hN6 hgrow hown hbI
      refine hK.out _ _ hHeld7 (fun hHeld => ?re9y)
      clear hK K
      try simp only [Act.put, List.setIfInBounds_toArray, List.set_cons_zero, List.set_cons_succ]
      refine wpAnyH_done (by kernel_rfl) ?_ _
      show Oper.wp _ _ _ _ _ _
      have v07 : W7.cell? ⟨w.heap.size + 1 + 1, 0, none⟩ = some (.slice b k bc) := hV7.cell 0
      have f07 := hV7.frozen 0
      clear hown hgrow hnil hat hbI hV7 hHeld7 hN6 hD6 hN5 HSt hneV hHeld hd5 hb6 hb7 hsm hbo5
      go_simp
      show Oper.wp _ _ _ _ _ _
      go_simp
      refine NoPanic.normal ?_
      go_wp2_with fail
      go_roundw
      case rel => exact ⟨k + 1, some ⟨gI, 0, none⟩, cI, _, _, by omega, by go_num, H8.out, fun i hi => by
        by_cases e : i = k
        · subst e; simp
        · simp only [e, if_false]; exact HIN.out.2 i (by omega)⟩
      case measure => simp [intOf]; omega
    · obtain rfl : k = n := by omega
      have HOT : Hid (OT wr W0.heap.size 0 (fun _ => false) k (fun _ => 0) D M (.slice none 0 0) (.slice b k bc)) := HIN.out.1.ot.ext fun i hi => ⟨(HIN.out.2 i hi).symm, rfl⟩
      have r0 : wr.cell? ⟨w.heap.size + 1, 0, none⟩ = some (.slice none 0 0) := HT.out.r.cell 0
      have r1 : wr.cell? ⟨w.heap.size + 1, 1, none⟩ = some (.int .i64 0) := HT.out.r.cell 1
      have g0 := HT.out.r.frozen 0
      have g1 := HT.out.r.frozen 1
      go_wp2_with fail
      refine end_world (F := fun U => Blk U (w.heap.size + 1) #[.slice b k bc, .int .i64 now] 33 ∧ Below w.heap.size w U ∧ OT U w.heap.size 0 (fun _ => false) k (fun _ => 0) D M (.slice none 0 0) (.slice b k bc)) ⟨(HT.out.r.set 0 _).set 1 _, bel_put (bel_put HT.out.bel _ (by omega)) _ (by omega), OT.lower ((HOT.out.off _ (by omega)).off _ (by omega)) (by omega)⟩ ?_
      rintro U ⟨hr, hB, hot⟩
      have e0 : U.cell? ⟨w.heap.size + 1, 0, none⟩ = some (.slice b k bc) := hr.cell 0
      have e1 : U.cell? ⟨w.heap.size + 1, 1, none⟩ = some (.int .i64 now) := hr.cell 1
      exact bodyPost_ret (v := .agg #[.slice b k bc, .int .i64 now]) (by simp [results, Tryz.results65, go_sem, e0, e1]) rfl ⟨b, bc, M, rfl, hB, hot⟩

theorem l2Tree_own (t : Tr) (l : TLoc) (w : World) (hI : TIn w t l) (hn : t.n ≤ 1000) (hs : t.size ≤ 1048576) :
    Calls Tryz.prog 65 #[tV t l] w fun e w' => ∃ l', e = .returned (tV t l') ∧ Below w.heap.size w w' ∧ OwnTr w' w.heap.size t l' := by
  refine (l2Tree_any l.a t.n l.c t.now t.D l.L w hI hn (by unfold Tr.size at hs; omega)).mono ?_
  rintro e w' ⟨b, bc, M, rfl, hb, ho⟩
  exact ⟨⟨b, bc, M⟩, rfl, hb, ho⟩
end Go.Proofs.YtakifcobofkheaaGreatDoor

/-
  What l5Copy of the specification answers: the same, in new memory.
-/
namespace Go.Proofs.YtakifcobofkheaaGreatDoor
open Go.RowKit Go.Deep
set_option linter.unusedVariables false
set_option linter.unusedSimpArgs false
set_option linter.unnecessarySimpa false

/-- The boxes. -/
structure Dc (w : World) (d : Dp) (l : DLoc) (W : World) : Prop where
  p : Blk W w.heap.size (pC d l) 36
  r : Blk W (w.heap.size + 1) #[.int .i64 0, .int .i64 0, .slice none 0 0, .slice none 0 0] 36
  bel : Below w.heap.size w W

theorem Dc.below {w : World} {d : Dp} {l : DLoc} {W W' : World} (h : Dc w d l W) (hb : Below W.heap.size W W') : Dc w d l W' := ⟨h.p.below hb h.p.lt, h.r.below hb h.r.lt, h.bel.trans (hb.mono h.bel.size)⟩

/-- The blocks that are kept. -/
def DcX (w : World) (j : Nat) : Prop := j = w.heap.size ∨ j = w.heap.size + 1

theorem Dc.of {w W0 : World} {d : Dp} {l : DLoc} (h : Dc w d l W0) {B : Nat} {since date : Int} {n : Nat} {Z : Nat → Bool} {V : Nat} {lA : Option Addr} {lc m : Nat} {ia : Option Addr} {ic : Nat} {O : Nat → Int} {E : Nat → Nd} {M : Nat → Loc} {W : World} (g : GOf w W0 B (DcX w) since date n Z V lA lc m ia ic O E M W) : Dc w d l W :=
  ⟨h.p.of_block (g.kept _ (Or.inl rfl)), h.r.of_block (g.kept _ (Or.inr rfl)), g.bel⟩

set_option maxRecDepth 100000 in
set_option maxHeartbeats 8000000 in
theorem l5Copy_any (d : Dp) (l : DLoc) (w : World) (hD : DpIn w d l) (hok : d.ok = true) (hs : d.size ≤ 1048576) :
    Calls Tryz.prog 75 #[dpV d l] w fun e w' => ∃ l', e = .returned (dpV d l') ∧ Below w.heap.size w w' ∧ OwnDp w' w.heap.size d l' := by
  unfold dpV
  obtain ⟨q0, hq, hq0, hq1, hq2⟩ := info_parts infoBool
  obtain ⟨y0, hy, hy0, hy1, hy2⟩ := info_parts infoItem
  have hln1 := (ok_head1 hok).1
  have hln10 := (ok_head1 hok).2
  have hm10 := m_small hok
  go_enter Tryz.func75, Tryz.ntmps75
  go_wp2_with fail
  refine wp_world (F := fun W => Dc w d l W ∧ w.heap.size + 2 ≤ W.heap.size) ?_ ?_
  · obtain ⟨h0, h1, hb, hs'⟩ := new2 w (pC d l) 36 #[.int .i64 0, .int .i64 0, .slice none 0 0, .slice none 0 0] 36
    exact ⟨⟨h0, h1, hb⟩, by simp⟩
  rintro w2 ⟨hO, hs2⟩
  have H2 : Hid (Dc w d l w2) := hO
  clear hO
  have HX : Hid (∀ j, DcX w j → j < w2.heap.size) := fun j hj => by unfold DcX at hj; omega
  have HSrc : Hid (∀ W', Below w2.heap.size w2 W' → Src W' 1 (.slice l.lA d.ln l.lc) d.ln (boolv d.ln d.live)) := fun W' hW => bools_src ((hD.live.below (Nat.le_refl _) H2.out.bel).below (Nat.le_refl _) hW) hln1 _
  have HSt : Hid (∀ W', Below w2.heap.size w2 W' → W'.cell? ⟨w.heap.size, 0, none⟩ = some (.int .i64 d.since) ∧ W'.cell? ⟨w.heap.size, 1, none⟩ = some (.int .i64 d.date) ∧ W'.cell? ⟨w.heap.size, 2, none⟩ = some (.slice l.lA d.ln l.lc)) := fun W' hW => by
    have h := pC_cells (H2.out.below hW).p
    exact ⟨h.1, h.2.1, h.2.2.1⟩
  apply wp_cutqT (X := Nat) (Y := Nat) (Z := Nat) (U := Nat) (fun V g c' _ W => GOf w w2 w2.heap.size (DcX w) d.since d.date d.ln d.live V (some ⟨g, 0, none⟩) c' 0 none 0 (fun _ => 0) d.nd l.L W)
  · intro key
    have KEY : Hid _ := key
    clear key
    refine wp_region_noPanic ?_
    have hB0 : Below w2.heap.size w2 w2.drew := (Below.refl _ _).drew
    refine wp_region_peel (fun W' => W'.cell? ⟨w.heap.size, 0, none⟩ = some (.int .i64 d.since) ∧ W'.cell? ⟨w.heap.size, 1, none⟩ = some (.int .i64 d.date) ∧ W'.cell? ⟨w.heap.size, 2, none⟩ = some (.slice l.lA d.ln l.lc)) _ (by kernel_rfl) rfl (by kernel_rfl) ?_ (fun hHeld => ?_)
    · exact HSt.out _ hB0
    simp only [List.pop_toArray, List.dropLast, List.size_toArray, List.length_cons, List.length_nil, Nat.reduceAdd, Nat.reduceSub, List.getElem_toArray, List.getElem_cons_succ, List.getElem_cons_zero]
    refine peel_take (i := 0) (oi := ?oi0a) (v := ?v0a) (fun _ _ _ _ _ h => h) hHeld ?hi0a (by kernel_rfl) (by kernel_rfl) (by kernel_rfl) ?hw0a ?hy0a ?rest0a
    case hi0a =>
      simp only [List.getElem?_toArray, List.getElem?_cons_zero]
      rfl
    case hw0a => rfl
    case hy0a =>
      intro w hSw
      obtain ⟨s0, s1, s2⟩ := hSw
      go_simp
      try with_reducible rfl
    try simp only [Act.put, List.setIfInBounds_toArray, List.set_cons_zero, List.set_cons_succ]
    refine peel_take (i := 1) (oi := ?oi1a) (v := ?v1a) (fun _ _ _ _ _ h => h) hHeld ?hi1a (by kernel_rfl) (by kernel_rfl) (by kernel_rfl) ?hw1a ?hy1a ?rest1a
    case hi1a =>
      simp only [List.getElem?_toArray, List.getElem?_cons_succ, List.getElem?_cons_zero]
      rfl
    case hw1a => rfl
    case hy1a =>
      intro w hSw
      obtain ⟨s0, s1, s2⟩ := hSw
      go_simp
      try with_reducible rfl
    try simp only [Act.put, List.setIfInBounds_toArray, List.set_cons_zero, List.set_cons_succ]
    refine peel_take (i := 2) (oi := ?oi2a) (v := ?v2a) (fun _ _ _ _ _ h => h) hHeld ?hi2a (by kernel_rfl) (by kernel_rfl) (by kernel_rfl) ?hw2a ?hy2a ?rest2a
    case hi2a =>
      simp only [List.getElem?_toArray, List.getElem?_cons_succ, List.getElem?_cons_zero]
      rfl
    case hw2a => rfl
    case hy2a =>
      intro w hSw
      obtain ⟨s0, s1, s2⟩ := hSw
      go_simp
      try with_reducible rfl
    try simp only [Act.put, List.setIfInBounds_toArray, List.set_cons_zero, List.set_cons_succ]
    refine peel_take (i := 3) (oi := ?oi3a) (v := ?v3a) (fun _ _ _ _ _ h => h) hHeld ?hi3a (by kernel_rfl) (by kernel_rfl) (by kernel_rfl) ?hw3a ?hy3a ?rest3a
    case hi3a =>
      simp only [List.getElem?_toArray, List.getElem?_cons_succ, List.getElem?_cons_zero]
      rfl
    case hw3a => rfl
    case hy3a =>
      intro w hSw
      obtain ⟨s0, s1, s2⟩ := hSw
      go_simp
      try with_reducible rfl
    try simp only [Act.put, List.setIfInBounds_toArray, List.set_cons_zero, List.set_cons_succ]
    refine peel_take (i := 5) (oi := ?oi5a) (v := ?v5a) (fun _ _ _ _ _ h => h) hHeld ?hi5a (by kernel_rfl) (by kernel_rfl) (by kernel_rfl) ?hw5a ?hy5a ?rest5a
    case hi5a =>
      simp only [List.getElem?_toArray, List.getElem?_cons_succ, List.getElem?_cons_zero]
      rfl
    case hw5a => rfl
    case hy5a =>
      intro w hSw
      obtain ⟨s0, s1, s2⟩ := hSw
      go_simp
      try with_reducible rfl
    try simp only [Act.put, List.setIfInBounds_toArray, List.set_cons_zero, List.set_cons_succ]
    refine peel_take (i := 6) (oi := ?oi6a) (v := ?v6a) (fun _ _ _ _ _ h => h) hHeld ?hi6a (by kernel_rfl) (by kernel_rfl) (by kernel_rfl) ?hw6a ?hy6a ?rest6a
    case hi6a =>
      simp only [List.getElem?_toArray, List.getElem?_cons_succ, List.getElem?_cons_zero]
      rfl
    case hw6a => rfl
    case hy6a =>
      intro w hSw
      obtain ⟨s0, s1, s2⟩ := hSw
      go_simp
      try with_reducible rfl
    try simp only [Act.put, List.setIfInBounds_toArray, List.set_cons_zero, List.set_cons_succ]
    refine wpAnyH_ready (rs := [4, 9]) (by kernel_rfl) (by simp) ?_
    refine AllReadyH.cons (o := ?o4q1a) ?ho4q1a (fun K hK => ?st4q1a) ?more4q1a
    case ho4q1a =>
      simp only [List.getElem?_toArray, List.getElem?_cons_succ, List.getElem?_cons_zero]
      rfl
    case st4q1a =>
      go_simp
      have hBq1a : Below w2.heap.size w2 (w2.drew.alloc (.cells #[] 4)) := hB0.alloc hB0.size _
      have hoq1a : (w2.drew.alloc (.cells #[] 4)).ownsRow w2.heap.size 4 1 (.slice (some ⟨w2.heap.size, 0, none⟩) 0 0) 0 [] := by
        have h := owns_lit (w := w2.drew) hB0.size [] 4 1 0 rfl (by unfold maxLen; omega)
        simpa using h
      refine hK.out _ _ (HSt.out _ hBq1a) (fun hHeld => ?_)
      clear hK K
      try simp only [Act.put, List.setIfInBounds_toArray, List.set_cons_zero, List.set_cons_succ]
      refine wpAnyH_ready (rs := [7, 9]) (by kernel_rfl) (by simp) ?_
      refine AllReadyH.cons (o := ?o7q2a) ?ho7q2a (fun K hK => ?st7q2a) ?more7q2a
      case ho7q2a =>
        simp only [List.getElem?_toArray, List.getElem?_cons_succ, List.getElem?_cons_zero]
        rfl
      case st7q2a =>
        refine step_of (by rfl) (wp_append_src (.tmp 9) (.tmp 11) 25 rfl w2.heap.size 4 q0 (.bool false) 1 1 Tryz.underlying25 hq hq0 hq1 hq2 rfl (by decide) (.slice (some ⟨w2.heap.size, 0, none⟩) 0 0) 0 [] (by rfl) hoq1a _ d.ln (boolv d.ln d.live) (by rfl) (HSrc.out _ hBq1a) (by unfold maxLen; omega) (by omega) hBq1a.size ?_)
        intro vq2a wq2a hoq2a hgrq2a _ _
        rw [Nat.zero_add, List.nil_append] at hoq2a
        obtain ⟨g, c', rfl⟩ := bools_shape hoq2a hln1
        have hBq2a : Below w2.heap.size w2 wq2a := hBq1a.grown hgrq2a hBq1a.size (fun j e => (owns_block hoq1a e).1)
        refine hK.out _ _ (HSt.out _ hBq2a) (fun hHeld => ?_)
        clear hK K
        try simp only [Act.put, List.setIfInBounds_toArray, List.set_cons_zero, List.set_cons_succ]
        refine wpAnyH_ready (rs := [8, 9]) (by kernel_rfl) (by simp) ?_
        refine AllReadyH.cons (o := ?o8q3a) ?ho8q3a (fun K hK => ?st8q3a) ?more8q3a
        case ho8q3a =>
          simp only [List.getElem?_toArray, List.getElem?_cons_succ, List.getElem?_cons_zero]
          rfl
        case st8q3a =>
          go_simp
          refine hK.out _ _ hHeld (fun hHeld => ?_)
          clear hK K
          try simp only [Act.put, List.setIfInBounds_toArray, List.set_cons_zero, List.set_cons_succ]
          refine wpAnyH_ready (rs := [9]) (by kernel_rfl) (by simp) ?_
          refine AllReadyH.cons (o := ?o9q4a) ?ho9q4a (fun K hK => ?st9q4a) AllReadyH.nil
          case ho9q4a =>
            simp only [List.getElem?_toArray, List.getElem?_cons_succ, List.getElem?_cons_zero]
            rfl
          go_simp
          have hBq4a : Below w2.heap.size w2 (wq2a.alloc (.cells #[.int .i64 0, .int .i64 0, .slice none 0 0, .slice none 0 0] 36)) := hBq2a.alloc hBq2a.size _
          have hvq4a : Blk (wq2a.alloc (.cells #[.int .i64 0, .int .i64 0, .slice none 0 0, .slice none 0 0] 36)) (wq2a.heap.size) #[.int .i64 0, .int .i64 0, .slice none 0 0, .slice none 0 0] 36 := by
            have h := Blk.new wq2a #[.int .i64 0, .int .i64 0, .slice none 0 0, .slice none 0 0] 36
            simpa using h
          have hoq4a := hoq2a.alloc (.cells #[.int .i64 0, .int .i64 0, .slice none 0 0, .slice none 0 0] 36)
          have hVq4a : w2.heap.size ≤ wq2a.heap.size := by
            have h := hBq2a.size
            simpa using h
          refine hK.out _ _ (HSt.out _ hBq4a) (fun hHeld => ?_)
          clear hK K
          try simp only [Act.put, List.setIfInBounds_toArray, List.set_cons_zero, List.set_cons_succ]
          refine wpAnyH_done (by kernel_rfl) ?_ _
          have HS : Hid _ := GOf.start1 (w := w) (since := d.since) (date := d.date) (O := fun _ => 0) (E := d.nd) (M := l.L) H2.out.bel HX.out hBq2a hoq2a
          show Oper.wp _ _ _ _ _ _
          go_simp
          generalize hV : wq2a.heap.size = V
          generalize he0 : w2.heap.size = e0
          exact NoPanic.normal (KEY.out V g c' e0 _ (by first | (rw [← hV]; exact HS.out) | (rw [← hV, ← he0]; exact HS.out) | (subst hV; subst he0; exact HS.out)))
        refine AllReadyH.cons (o := ?o9q3b) ?ho9q3b (fun K hK => ?st9q3b) AllReadyH.nil
        case ho9q3b =>
          simp only [List.getElem?_toArray, List.getElem?_cons_succ, List.getElem?_cons_zero]
          rfl
        go_simp
        have hBq3b : Below w2.heap.size w2 (wq2a.alloc (.cells #[.int .i64 0, .int .i64 0, .slice none 0 0, .slice none 0 0] 36)) := hBq2a.alloc hBq2a.size _
        have hvq3b : Blk (wq2a.alloc (.cells #[.int .i64 0, .int .i64 0, .slice none 0 0, .slice none 0 0] 36)) (wq2a.heap.size) #[.int .i64 0, .int .i64 0, .slice none 0 0, .slice none 0 0] 36 := by
          have h := Blk.new wq2a #[.int .i64 0, .int .i64 0, .slice none 0 0, .slice none 0 0] 36
          simpa using h
        have hoq3b := hoq2a.alloc (.cells #[.int .i64 0, .int .i64 0, .slice none 0 0, .slice none 0 0] 36)
        have hVq3b : w2.heap.size ≤ wq2a.heap.size := by
          have h := hBq2a.size
          simpa using h
        refine hK.out _ _ (HSt.out _ hBq3b) (fun hHeld => ?_)
        clear hK K
        try simp only [Act.put, List.setIfInBounds_toArray, List.set_cons_zero, List.set_cons_succ]
        refine wpAnyH_ready (rs := [8]) (by kernel_rfl) (by simp) ?_
        refine AllReadyH.cons (o := ?o8q6a) ?ho8q6a (fun K hK => ?st8q6a) AllReadyH.nil
        case ho8q6a =>
          simp only [List.getElem?_toArray, List.getElem?_cons_succ, List.getElem?_cons_zero]
          rfl
        go_simp
        refine hK.out _ _ hHeld (fun hHeld => ?_)
        clear hK K
        try simp only [Act.put, List.setIfInBounds_toArray, List.set_cons_zero, List.set_cons_succ]
        refine wpAnyH_done (by kernel_rfl) ?_ _
        have HS : Hid _ := GOf.start1 (w := w) (since := d.since) (date := d.date) (O := fun _ => 0) (E := d.nd) (M := l.L) H2.out.bel HX.out hBq2a hoq2a
        show Oper.wp _ _ _ _ _ _
        go_simp
        generalize hV : wq2a.heap.size = V
        generalize he0 : w2.heap.size = e0
        exact NoPanic.normal (KEY.out V g c' e0 _ (by first | (rw [← hV]; exact HS.out) | (rw [← hV, ← he0]; exact HS.out) | (subst hV; subst he0; exact HS.out)))
      refine AllReadyH.cons (o := ?o9q2b) ?ho9q2b (fun K hK => ?st9q2b) AllReadyH.nil
      case ho9q2b =>
        simp only [List.getElem?_toArray, List.getElem?_cons_succ, List.getElem?_cons_zero]
        rfl
      go_simp
      have hBq2b : Below w2.heap.size w2 ((w2.drew.alloc (.cells #[] 4)).alloc (.cells #[.int .i64 0, .int .i64 0, .slice none 0 0, .slice none 0 0] 36)) := hBq1a.alloc hBq1a.size _
      have hvq2b : Blk ((w2.drew.alloc (.cells #[] 4)).alloc (.cells #[.int .i64 0, .int .i64 0, .slice none 0 0, .slice none 0 0] 36)) (w2.heap.size + 1) #[.int .i64 0, .int .i64 0, .slice none 0 0, .slice none 0 0] 36 := by
        have h := Blk.new (w2.drew.alloc (.cells #[] 4)) #[.int .i64 0, .int .i64 0, .slice none 0 0, .slice none 0 0] 36
        simpa using h
      have hoq2b := hoq1a.alloc (.cells #[.int .i64 0, .int .i64 0, .slice none 0 0, .slice none 0 0] 36)
      have hVq2b : w2.heap.size ≤ w2.heap.size + 1 := by
        have h := hBq1a.size
        simpa using h
      refine hK.out _ _ (HSt.out _ hBq2b) (fun hHeld => ?_)
      clear hK K
      try simp only [Act.put, List.setIfInBounds_toArray, List.set_cons_zero, List.set_cons_succ]
      refine wpAnyH_ready (rs := [7]) (by kernel_rfl) (by simp) ?_
      refine AllReadyH.cons (o := ?o7q8a) ?ho7q8a (fun K hK => ?st7q8a) AllReadyH.nil
      case ho7q8a =>
        simp only [List.getElem?_toArray, List.getElem?_cons_succ, List.getElem?_cons_zero]
        rfl
      refine step_of (by rfl) (wp_append_src (.tmp 9) (.tmp 11) 25 rfl w2.heap.size 4 q0 (.bool false) 1 1 Tryz.underlying25 hq hq0 hq1 hq2 rfl (by decide) (.slice (some ⟨w2.heap.size, 0, none⟩) 0 0) 0 [] (by rfl) hoq2b _ d.ln (boolv d.ln d.live) (by rfl) (HSrc.out _ hBq2b) (by unfold maxLen; omega) (by omega) hBq2b.size ?_)
      intro vq8a wq8a hoq8a hgrq8a _ _
      rw [Nat.zero_add, List.nil_append] at hoq8a
      obtain ⟨g, c', rfl⟩ := bools_shape hoq8a hln1
      have hBq8a : Below w2.heap.size w2 wq8a := hBq2b.grown hgrq8a hBq2b.size (fun j e => (owns_block hoq2b e).1)
      have hvq8a : Blk wq8a (w2.heap.size + 1) #[.int .i64 0, .int .i64 0, .slice none 0 0, .slice none 0 0] 36 := blk_grown hvq2b hgrq8a (own_ne hoq2b hvq2b (by decide))
      refine hK.out _ _ (HSt.out _ hBq8a) (fun hHeld => ?_)
      clear hK K
      try simp only [Act.put, List.setIfInBounds_toArray, List.set_cons_zero, List.set_cons_succ]
      refine wpAnyH_ready (rs := [8]) (by kernel_rfl) (by simp) ?_
      refine AllReadyH.cons (o := ?o8q9a) ?ho8q9a (fun K hK => ?st8q9a) AllReadyH.nil
      case ho8q9a =>
        simp only [List.getElem?_toArray, List.getElem?_cons_succ, List.getElem?_cons_zero]
        rfl
      go_simp
      refine hK.out _ _ hHeld (fun hHeld => ?_)
      clear hK K
      try simp only [Act.put, List.setIfInBounds_toArray, List.set_cons_zero, List.set_cons_succ]
      refine wpAnyH_done (by kernel_rfl) ?_ _
      have z0 := hvq8a.cell 0
      have z1 := hvq8a.cell 1
      have z2 := hvq8a.cell 2
      have z3 := hvq8a.cell 3
      have f0 := hvq8a.frozen 0
      have f1 := hvq8a.frozen 1
      have f2 := hvq8a.frozen 2
      have f3 := hvq8a.frozen 3
      simp at z0 z1 z2 z3
      have HS : Hid _ := GOf.start4 (w := w) (since := d.since) (date := d.date) (O := fun _ => 0) (E := d.nd) (M := l.L) H2.out.bel HX.out hBq8a hVq2b hvq8a hoq8a
      show Oper.wp _ _ _ _ _ _
      go_simp
      generalize hV : w2.heap.size + 1 = V
      generalize he0 : w2.heap.size = e0
      exact NoPanic.normal (KEY.out V g c' e0 _ (by first | (rw [← hV]; exact HS.out) | (rw [← hV, ← he0]; exact HS.out) | (subst hV; subst he0; exact HS.out)))
    refine AllReadyH.cons (o := ?o9q1b) ?ho9q1b (fun K hK => ?st9q1b) AllReadyH.nil
    case ho9q1b =>
      simp only [List.getElem?_toArray, List.getElem?_cons_succ, List.getElem?_cons_zero]
      rfl
    go_simp
    have hBq1b : Below w2.heap.size w2 (w2.drew.alloc (.cells #[.int .i64 0, .int .i64 0, .slice none 0 0, .slice none 0 0] 36)) := hB0.alloc hB0.size _
    have hvq1b : Blk (w2.drew.alloc (.cells #[.int .i64 0, .int .i64 0, .slice none 0 0, .slice none 0 0] 36)) (w2.heap.size) #[.int .i64 0, .int .i64 0, .slice none 0 0, .slice none 0 0] 36 := by
      have h := Blk.new w2.drew #[.int .i64 0, .int .i64 0, .slice none 0 0, .slice none 0 0] 36
      simpa using h
    have hVq1b : w2.heap.size ≤ w2.heap.size := by
      have h := hB0.size
      simpa using h
    refine hK.out _ _ (HSt.out _ hBq1b) (fun hHeld => ?_)
    clear hK K
    try simp only [Act.put, List.setIfInBounds_toArray, List.set_cons_zero, List.set_cons_succ]
    refine wpAnyH_ready (rs := [4]) (by kernel_rfl) (by simp) ?_
    refine AllReadyH.cons (o := ?o4q11a) ?ho4q11a (fun K hK => ?st4q11a) AllReadyH.nil
    case ho4q11a =>
      simp only [List.getElem?_toArray, List.getElem?_cons_succ, List.getElem?_cons_zero]
      rfl
    go_simp
    have hBq11a : Below w2.heap.size w2 ((w2.drew.alloc (.cells #[.int .i64 0, .int .i64 0, .slice none 0 0, .slice none 0 0] 36)).alloc (.cells #[] 4)) := hBq1b.alloc hBq1b.size _
    have hoq11a : ((w2.drew.alloc (.cells #[.int .i64 0, .int .i64 0, .slice none 0 0, .slice none 0 0] 36)).alloc (.cells #[] 4)).ownsRow w2.heap.size 4 1 (.slice (some ⟨w2.heap.size + 1, 0, none⟩) 0 0) 0 [] := by
      have h := owns_lit (w := (w2.drew.alloc (.cells #[.int .i64 0, .int .i64 0, .slice none 0 0, .slice none 0 0] 36))) hBq1b.size [] 4 1 0 rfl (by unfold maxLen; omega)
      simpa using h
    have hvq11a : Blk ((w2.drew.alloc (.cells #[.int .i64 0, .int .i64 0, .slice none 0 0, .slice none 0 0] 36)).alloc (.cells #[] 4)) (w2.heap.size) #[.int .i64 0, .int .i64 0, .slice none 0 0, .slice none 0 0] 36 := hvq1b.alloc _
    refine hK.out _ _ (HSt.out _ hBq11a) (fun hHeld => ?_)
    clear hK K
    try simp only [Act.put, List.setIfInBounds_toArray, List.set_cons_zero, List.set_cons_succ]
    refine wpAnyH_ready (rs := [7]) (by kernel_rfl) (by simp) ?_
    refine AllReadyH.cons (o := ?o7q12a) ?ho7q12a (fun K hK => ?st7q12a) AllReadyH.nil
    case ho7q12a =>
      simp only [List.getElem?_toArray, List.getElem?_cons_succ, List.getElem?_cons_zero]
      rfl
    refine step_of (by rfl) (wp_append_src (.tmp 9) (.tmp 11) 25 rfl w2.heap.size 4 q0 (.bool false) 1 1 Tryz.underlying25 hq hq0 hq1 hq2 rfl (by decide) (.slice (some ⟨w2.heap.size + 1, 0, none⟩) 0 0) 0 [] (by rfl) hoq11a _ d.ln (boolv d.ln d.live) (by rfl) (HSrc.out _ hBq11a) (by unfold maxLen; omega) (by omega) hBq11a.size ?_)
    intro vq12a wq12a hoq12a hgrq12a _ _
    rw [Nat.zero_add, List.nil_append] at hoq12a
    obtain ⟨g, c', rfl⟩ := bools_shape hoq12a hln1
    have hBq12a : Below w2.heap.size w2 wq12a := hBq11a.grown hgrq12a hBq11a.size (fun j e => (owns_block hoq11a e).1)
    have hvq12a : Blk wq12a (w2.heap.size) #[.int .i64 0, .int .i64 0, .slice none 0 0, .slice none 0 0] 36 := blk_grown hvq11a hgrq12a (own_ne hoq11a hvq11a (by decide))
    refine hK.out _ _ (HSt.out _ hBq12a) (fun hHeld => ?_)
    clear hK K
    try simp only [Act.put, List.setIfInBounds_toArray, List.set_cons_zero, List.set_cons_succ]
    refine wpAnyH_ready (rs := [8]) (by kernel_rfl) (by simp) ?_
    refine AllReadyH.cons (o := ?o8q13a) ?ho8q13a (fun K hK => ?st8q13a) AllReadyH.nil
    case ho8q13a =>
      simp only [List.getElem?_toArray, List.getElem?_cons_succ, List.getElem?_cons_zero]
      rfl
    go_simp
    refine hK.out _ _ hHeld (fun hHeld => ?_)
    clear hK K
    try simp only [Act.put, List.setIfInBounds_toArray, List.set_cons_zero, List.set_cons_succ]
    refine wpAnyH_done (by kernel_rfl) ?_ _
    have z0 := hvq12a.cell 0
    have z1 := hvq12a.cell 1
    have z2 := hvq12a.cell 2
    have z3 := hvq12a.cell 3
    have f0 := hvq12a.frozen 0
    have f1 := hvq12a.frozen 1
    have f2 := hvq12a.frozen 2
    have f3 := hvq12a.frozen 3
    simp at z0 z1 z2 z3
    have HS : Hid _ := GOf.start4 (w := w) (since := d.since) (date := d.date) (O := fun _ => 0) (E := d.nd) (M := l.L) H2.out.bel HX.out hBq12a hVq1b hvq12a hoq12a
    show Oper.wp _ _ _ _ _ _
    go_simp
    generalize he0 : w2.heap.size + 1 = e0
    generalize hV : w2.heap.size = V
    exact NoPanic.normal (KEY.out V g c' e0 _ (by first | (rw [← hV]; exact HS.out) | (rw [← hV, ← he0]; exact HS.out) | (subst hV; subst he0; exact HS.out)))
  · intro V g c' e0 W3 hG
    have HG : Hid _ := hG
    clear hG HX HSrc HSt
    go_wp2_with fail
    go_loopw [4] (fun i wr => ∃ (k : Nat) (ia : Option Addr) (ic : Nat) (O : Nat → Int) (E : Nat → Nd) (M : Nat → Loc), k ≤ d.m ∧ i = .int .i64 k ∧ GOf w w2 w2.heap.size (DcX w) d.since d.date d.ln d.live V (some ⟨g, 0, none⟩) c' k ia ic O E M wr ∧ ∀ i, i < k → O i = d.ino i ∧ E i = d.nd i) (fun i _ => d.m - (intOf i).toNat)
    case atStart => exact ⟨0, none, 0, _, _, _, Nat.zero_le _, rfl, HG.out, fun i hi => absurd hi (Nat.not_lt_zero _)⟩
    case round =>
      obtain ⟨k, ia, ic, O, E, M, hk, rfl, hin, hsel⟩ := hrel
      have HIN : Hid (GOf w w2 w2.heap.size (DcX w) d.since d.date d.ln d.live V (some ⟨g, 0, none⟩) c' k ia ic O E M wr ∧ ∀ i, i < k → O i = d.ino i ∧ E i = d.nd i) := ⟨hin, hsel⟩
      have HT : Hid (Dc w d l wr) := H2.out.of hin
      clear hin hsel
      obtain ⟨p0, p1, p2, p3⟩ := pC_cells HT.out.p
      by_cases hlt : k < d.m
      · have hlti : (k : Int) < (d.m : Int) := by omega
        go_wp2_with fail
        have HW : Hid (∃ bI oI, bI < w2.heap.size ∧ ∀ W', Below wr.heap.size wr W' → (W'.cell? ⟨V, 3, none⟩ = some (.slice ia k ic) ∧ W'.cell? ⟨w.heap.size, 3, none⟩ = some (.slice (some ⟨bI, oI, none⟩) d.m l.ic) ∧ W'.cell? ⟨bI, oI + k * 6, none⟩ = some (.int .i64 (d.ino k)) ∧ W'.cell? ⟨bI, oI + k * 6 + 1, none⟩ = some (.int .i64 (d.nd k).kind) ∧ W'.cell? ⟨bI, oI + k * 6 + 1 + 1, none⟩ = some (.string (d.nd k).text) ∧ W'.cell? ⟨bI, oI + k * 6 + 1 + 2, none⟩ = some (.slice (l.L k).nA (d.nd k).nn (l.L k).nc) ∧ W'.cell? ⟨bI, oI + k * 6 + 1 + 3, none⟩ = some (.slice (l.L k).kA (d.nd k).kn (l.L k).kc) ∧ W'.cell? ⟨bI, oI + k * 6 + 1 + 4, none⟩ = some (.int .i64 (d.nd k).turn)) ∧ NdIn W' (d.nd k) (l.L k)) := by
          show ∃ _, _
          obtain ⟨bI, oI, hQ, hbl, _⟩ := hD.items.at hlt
          refine ⟨bI, oI, by omega, fun W' hW => ?_⟩
          have hcc := pC_cells (HT.out.below hW).p
          have hv3 : W'.cell? ⟨V, 3, none⟩ = some (.slice ia k ic) := (HIN.out.1.below hW).v.cell 3
          obtain ⟨bI', oI', hQ', _, hc'⟩ := ((hD.items.below (Nat.le_refl _) HT.out.bel).below (Nat.le_refl _) hW).at hlt
          obtain ⟨d0, d1, d2, d3, d4, d5, d6⟩ := hc' k hlt
          rw [hQ] at hQ'
          cases hQ'
          refine ⟨⟨hv3, ?_, d0, d1, d2, d3, d4, d5⟩, d6⟩
          rw [← hQ]
          exact hcc.2.2.2
        obtain ⟨bI, oI, hbIl, hSt⟩ := HW.out
        have HSt : Hid _ := hSt
        have hsm := dp_of_small hs k hlt
        clear p0 p1 p2 p3 hSt HW
        have hd5 : Below wr.heap.size wr wr.drew := below_drewN (Below.refl _ _) 1
        refine wp_region_noPanic ?_
        refine wp_region_peel2 (fun W' => W'.cell? ⟨V, 3, none⟩ = some (.slice ia k ic) ∧ W'.cell? ⟨w.heap.size, 3, none⟩ = some (.slice (some ⟨bI, oI, none⟩) d.m l.ic) ∧ W'.cell? ⟨bI, oI + k * 6, none⟩ = some (.int .i64 (d.ino k)) ∧ W'.cell? ⟨bI, oI + k * 6 + 1, none⟩ = some (.int .i64 (d.nd k).kind) ∧ W'.cell? ⟨bI, oI + k * 6 + 1 + 1, none⟩ = some (.string (d.nd k).text) ∧ W'.cell? ⟨bI, oI + k * 6 + 1 + 2, none⟩ = some (.slice (l.L k).nA (d.nd k).nn (l.L k).nc) ∧ W'.cell? ⟨bI, oI + k * 6 + 1 + 3, none⟩ = some (.slice (l.L k).kA (d.nd k).kn (l.L k).kc) ∧ W'.cell? ⟨bI, oI + k * 6 + 1 + 4, none⟩ = some (.int .i64 (d.nd k).turn)) _ _ (by kernel_rfl) rfl rfl (by kernel_rfl) (by kernel_rfl) ?_ (fun hHeld => ?_)
        · exact (HSt.out _ hd5).1
        simp only [List.pop_toArray, List.dropLast, List.size_toArray, List.length_cons, List.length_nil, Nat.reduceAdd, Nat.reduceSub, List.getElem_toArray, List.getElem_cons_succ, List.getElem_cons_zero]
        refine peel_take (i := 0) (oi := ?oi0x) (v := ?v0x) (fun _ _ _ _ _ h => h) hHeld ?hi0x (by kernel_rfl) (by kernel_rfl) (by kernel_rfl) ?hw0x ?hy0x ?rest0x
        case hi0x =>
          simp only [List.getElem?_toArray, List.getElem?_cons_zero]
          rfl
        case hw0x => rfl
        case hy0x =>
          intro w hSw
          obtain ⟨s0, s1, s2, s3, s4, s5, s6, s7⟩ := hSw
          go_simp
          try with_reducible rfl
        try simp only [Act.put, List.setIfInBounds_toArray, List.set_cons_zero, List.set_cons_succ]
        refine peel_take (i := 1) (oi := ?oi1x) (v := ?v1x) (fun _ _ _ _ _ h => h) hHeld ?hi1x (by kernel_rfl) (by kernel_rfl) (by kernel_rfl) ?hw1x ?hy1x ?rest1x
        case hi1x =>
          simp only [List.getElem?_toArray, List.getElem?_cons_succ, List.getElem?_cons_zero]
          rfl
        case hw1x => rfl
        case hy1x =>
          intro w hSw
          obtain ⟨s0, s1, s2, s3, s4, s5, s6, s7⟩ := hSw
          go_simp
          try with_reducible rfl
        try simp only [Act.put, List.setIfInBounds_toArray, List.set_cons_zero, List.set_cons_succ]
        refine peel_take (i := 2) (oi := ?oi2x) (v := ?v2x) (fun _ _ _ _ _ h => h) hHeld ?hi2x (by kernel_rfl) (by kernel_rfl) (by kernel_rfl) ?hw2x ?hy2x ?rest2x
        case hi2x =>
          simp only [List.getElem?_toArray, List.getElem?_cons_succ, List.getElem?_cons_zero]
          rfl
        case hw2x => rfl
        case hy2x =>
          intro w hSw
          obtain ⟨s0, s1, s2, s3, s4, s5, s6, s7⟩ := hSw
          go_simp
          try with_reducible rfl
        try simp only [Act.put, List.setIfInBounds_toArray, List.set_cons_zero, List.set_cons_succ]
        refine peel_take (i := 3) (oi := ?oi3x) (v := ?v3x) (fun _ _ _ _ _ h => h) hHeld ?hi3x (by kernel_rfl) (by kernel_rfl) (by kernel_rfl) ?hw3x ?hy3x ?rest3x
        case hi3x =>
          simp only [List.getElem?_toArray, List.getElem?_cons_succ, List.getElem?_cons_zero]
          rfl
        case hw3x => rfl
        case hy3x =>
          intro w hSw
          obtain ⟨s0, s1, s2, s3, s4, s5, s6, s7⟩ := hSw
          go_simp
          try with_reducible rfl
        try simp only [Act.put, List.setIfInBounds_toArray, List.set_cons_zero, List.set_cons_succ]
        refine peel_take (i := 4) (oi := ?oi4x) (v := ?v4x) (fun _ _ _ _ _ h => h) hHeld ?hi4x (by kernel_rfl) (by kernel_rfl) (by kernel_rfl) ?hw4x ?hy4x ?rest4x
        case hi4x =>
          simp only [List.getElem?_toArray, List.getElem?_cons_succ, List.getElem?_cons_zero]
          rfl
        case hw4x => rfl
        case hy4x =>
          intro w hSw
          obtain ⟨s0, s1, s2, s3, s4, s5, s6, s7⟩ := hSw
          go_simp
          try with_reducible rfl
        try simp only [Act.put, List.setIfInBounds_toArray, List.set_cons_zero, List.set_cons_succ]
        refine peel_take (i := 5) (oi := ?oi5x) (v := ?v5x) (fun _ _ _ _ _ h => h) hHeld ?hi5x (by kernel_rfl) (by kernel_rfl) (by kernel_rfl) ?hw5x ?hy5x ?rest5x
        case hi5x =>
          simp only [List.getElem?_toArray, List.getElem?_cons_succ, List.getElem?_cons_zero]
          rfl
        case hw5x => rfl
        case hy5x =>
          intro w hSw
          obtain ⟨s0, s1, s2, s3, s4, s5, s6, s7⟩ := hSw
          go_simp
          try with_reducible rfl
        try simp only [Act.put, List.setIfInBounds_toArray, List.set_cons_zero, List.set_cons_succ]
        refine peel_take (i := 6) (oi := ?oi6x) (v := ?v6x) (fun _ _ _ _ _ h => h) hHeld ?hi6x (by kernel_rfl) (by kernel_rfl) (by kernel_rfl) ?hw6x ?hy6x ?rest6x
        case hi6x =>
          simp only [List.getElem?_toArray, List.getElem?_cons_succ, List.getElem?_cons_zero]
          rfl
        case hw6x => rfl
        case hy6x =>
          intro w hSw
          obtain ⟨s0, s1, s2, s3, s4, s5, s6, s7⟩ := hSw
          go_simp
          try with_reducible rfl
        try simp only [Act.put, List.setIfInBounds_toArray, List.set_cons_zero, List.set_cons_succ]
        refine peel_take (i := 7) (oi := ?oi7x) (v := ?v7x) (fun _ _ _ _ _ h => h) hHeld ?hi7x (by kernel_rfl) (by kernel_rfl) (by kernel_rfl) ?hw7x ?hy7x ?rest7x
        case hi7x =>
          simp only [List.getElem?_toArray, List.getElem?_cons_succ, List.getElem?_cons_zero]
          rfl
        case hw7x => rfl
        case hy7x =>
          intro w hSw
          obtain ⟨s0, s1, s2, s3, s4, s5, s6, s7⟩ := hSw
          go_simp
          try with_reducible rfl
        try simp only [Act.put, List.setIfInBounds_toArray, List.set_cons_zero, List.set_cons_succ]
        refine peel_take (i := 8) (oi := ?oi8x) (v := ?v8x) (fun _ _ _ _ _ h => h) hHeld ?hi8x (by kernel_rfl) (by kernel_rfl) (by kernel_rfl) ?hw8x ?hy8x ?rest8x
        case hi8x =>
          simp only [List.getElem?_toArray, List.getElem?_cons_succ, List.getElem?_cons_zero]
          rfl
        case hw8x => rfl
        case hy8x =>
          intro w hSw
          obtain ⟨s0, s1, s2, s3, s4, s5, s6, s7⟩ := hSw
          go_simp
          try with_reducible rfl
        try simp only [Act.put, List.setIfInBounds_toArray, List.set_cons_zero, List.set_cons_succ]
        refine peel_take (i := 9) (oi := ?oi9x) (v := ?v9x) (fun _ _ _ _ _ h => h) hHeld ?hi9x (by kernel_rfl) (by kernel_rfl) (by kernel_rfl) ?hw9x ?hy9x ?rest9x
        case hi9x =>
          simp only [List.getElem?_toArray, List.getElem?_cons_succ, List.getElem?_cons_zero]
          rfl
        case hw9x => rfl
        case hy9x =>
          intro w hSw
          obtain ⟨s0, s1, s2, s3, s4, s5, s6, s7⟩ := hSw
          go_simp
          try with_reducible rfl
        try simp only [Act.put, List.setIfInBounds_toArray, List.set_cons_zero, List.set_cons_succ]
        refine peel_take (i := 10) (oi := ?oi10x) (v := ?v10x) (fun _ _ _ _ _ h => h) hHeld ?hi10x (by kernel_rfl) (by kernel_rfl) (by kernel_rfl) ?hw10x ?hy10x ?rest10x
        case hi10x =>
          simp only [List.getElem?_toArray, List.getElem?_cons_succ, List.getElem?_cons_zero]
          rfl
        case hw10x => rfl
        case hy10x =>
          intro w hSw
          obtain ⟨s0, s1, s2, s3, s4, s5, s6, s7⟩ := hSw
          go_simp
          try with_reducible rfl
        try simp only [Act.put, List.setIfInBounds_toArray, List.set_cons_zero, List.set_cons_succ]
        refine peel_take (i := 11) (oi := ?oi11x) (v := ?v11x) (fun _ _ _ _ _ h => h) hHeld ?hi11x (by kernel_rfl) (by kernel_rfl) (by kernel_rfl) ?hw11x ?hy11x ?rest11x
        case hi11x =>
          simp only [List.getElem?_toArray, List.getElem?_cons_succ, List.getElem?_cons_zero]
          rfl
        case hw11x => rfl
        case hy11x =>
          intro w hSw
          obtain ⟨s0, s1, s2, s3, s4, s5, s6, s7⟩ := hSw
          go_simp
          try with_reducible rfl
        try simp only [Act.put, List.setIfInBounds_toArray, List.set_cons_zero, List.set_cons_succ]
        refine peel_take (i := 12) (oi := ?oi12x) (v := ?v12x) (fun _ _ _ _ _ h => h) hHeld ?hi12x (by kernel_rfl) (by kernel_rfl) (by kernel_rfl) ?hw12x ?hy12x ?rest12x
        case hi12x =>
          simp only [List.getElem?_toArray, List.getElem?_cons_succ, List.getElem?_cons_zero]
          rfl
        case hw12x => rfl
        case hy12x =>
          intro w hSw
          obtain ⟨s0, s1, s2, s3, s4, s5, s6, s7⟩ := hSw
          go_simp
          try with_reducible rfl
        try simp only [Act.put, List.setIfInBounds_toArray, List.set_cons_zero, List.set_cons_succ]
        refine peel_take (i := 13) (oi := ?oi13x) (v := ?v13x) (fun _ _ _ _ _ h => h) hHeld ?hi13x (by kernel_rfl) (by kernel_rfl) (by kernel_rfl) ?hw13x ?hy13x ?rest13x
        case hi13x =>
          simp only [List.getElem?_toArray, List.getElem?_cons_succ, List.getElem?_cons_zero]
          rfl
        case hw13x => rfl
        case hy13x =>
          intro w hSw
          obtain ⟨s0, s1, s2, s3, s4, s5, s6, s7⟩ := hSw
          go_simp
          try with_reducible rfl
        try simp only [Act.put, List.setIfInBounds_toArray, List.set_cons_zero, List.set_cons_succ]
        refine wpAnyH_ready (rs := [14]) (by kernel_rfl) (by simp) ?_
        refine AllReadyH.cons (o := ?o14x) ?ho14x (fun K hK => ?st14x) AllReadyH.nil
        case ho14x =>
          simp only [List.getElem?_toArray, List.getElem?_cons_succ, List.getElem?_cons_zero]
          rfl
        go_simp
        refine (l2Copy_any (d.nd k) (l.L k) wr.drew (HSt.out _ hd5).2 hsm.1 hsm.2.1).mono ?_
        rintro e W6 ⟨l5, rfl, hN5⟩
        unfold ndV
        have hb6 : Below wr.heap.size wr W6 := hd5.trans hN5.bel
        refine hK.out _ _ (HSt.out W6 hb6).1 (fun hHeld => ?re9x)
        clear hK K
        try simp only [Act.put, List.setIfInBounds_toArray, List.set_cons_zero, List.set_cons_succ]
        refine wpAnyH_ready (rs := [15]) (by kernel_rfl) (by simp) ?_
        refine AllReadyH.cons (o := ?o15x) ?ho15x (fun K hK => ?st15x) AllReadyH.nil
        case ho15x =>
          simp only [List.getElem?_toArray, List.getElem?_cons_succ, List.getElem?_cons_zero]
          rfl
        go_simp
        refine hK.out _ _ (HSt.out W6 hb6).1 (fun hHeld => ?re10x)
        clear hK K
        try simp only [Act.put, List.setIfInBounds_toArray, List.set_cons_zero, List.set_cons_succ]
        refine wpAnyH_ready (rs := [16]) (by kernel_rfl) (by simp) ?_
        refine AllReadyH.cons (o := ?o16x) ?ho16x (fun K hK => ?st16x) AllReadyH.nil
        case ho16x =>
          simp only [List.getElem?_toArray, List.getElem?_cons_succ, List.getElem?_cons_zero]
          rfl
        go_simp
        have hb7 : Below wr.heap.size wr (W6.alloc (.cells #[.int .i64 (d.ino k), .int .i64 (d.nd k).kind, .string (d.nd k).text, .slice l5.nA (d.nd k).nn l5.nc, .slice l5.kA (d.nd k).kn l5.kc, .int .i64 (d.nd k).turn] 113)) := hb6.alloc hb6.size _
        refine hK.out _ _ (HSt.out _ hb7).1 (fun hHeld => ?re11x)
        clear hK K
        try simp only [Act.put, List.setIfInBounds_toArray, List.set_cons_zero, List.set_cons_succ]
        refine wpAnyH_ready (rs := [17]) (by kernel_rfl) (by simp) ?_
        refine AllReadyH.cons (o := ?o17x) ?ho17x (fun K hK => ?st17x) AllReadyH.nil
        case ho17x =>
          simp only [List.getElem?_toArray, List.getElem?_cons_succ, List.getElem?_cons_zero]
          rfl
        have hD6 := HIN.out.1.below hb7
        have hN6 := hN5.new.alloc (.cells #[.int .i64 (d.ino k), .int .i64 (d.nd k).kind, .string (d.nd k).text, .slice l5.nA (d.nd k).nn l5.nc, .slice l5.kA (d.nd k).kn l5.kc, .int .i64 (d.nd k).turn] 113)
        have hB5 : w2.heap.size ≤ wr.heap.size := by have h := owns_block HIN.out.1.od.ownL (show (Value.slice (some ⟨g, 0, none⟩) d.ln c').ownBlock = some g from rfl); omega
        have hneV : (Value.slice ia k ic).ownBlock ≠ some V := fun e => (HIN.out.1.off 1 V (by omega) (by simpa [valD] using e)).2 rfl
        have hbo5 : ∀ q, (Value.slice ia k ic).ownBlock = some q → w2.heap.size ≤ q := fun q e => (owns_block HIN.out.1.od.ownI e).1
        refine step_of (by rfl) (wp_append_src (.tmp 22) (.tmp 37) 34 rfl w2.heap.size 113 y0 (.agg #[.int .i64 0, .int .i64 0, .string ByteArray.empty, .slice none 0 0, .slice none 0 0, .int .i64 0]) 6 88 Tryz.underlying34 hy hy0 hy1 hy2 rfl (by decide) (.slice ia k ic) k _ (by rfl) hD6.od.ownI _ 1 _ (by rfl) (src_item W6 (d.ino k) (d.nd k) l5) (by unfold maxLen; omega) (by omega) (by have := hb7.size; omega) ?_)
        intro vI W7 hown hgrow hnil hat
        rcases hown.2 with ⟨_, h0⟩ | ⟨gI, cI, cur, hvI, _, _, _⟩
        · omega
        subst hvI
        have hbI : (Value.slice ia k ic).ownBlock = some gI ∨ (W6.alloc (.cells #[.int .i64 (d.ino k), .int .i64 (d.nd k).kind, .string (d.nd k).text, .slice l5.nA (d.nd k).nn l5.nc, .slice l5.kA (d.nd k).kn l5.kc, .int .i64 (d.nd k).turn] 113)).heap.size ≤ gI := by
          rcases hat with e | e
          · exact Or.inl e.symm
          · right
            have e' : gI = (W6.alloc (.cells #[.int .i64 (d.ino k), .int .i64 (d.nd k).kind, .string (d.nd k).text, .slice l5.nA (d.nd k).nn l5.nc, .slice l5.kA (d.nd k).kn l5.kc, .int .i64 (d.nd k).turn] 113)).heap.size := by simpa [Value.ownBlock] using e
            omega
        have hV7 := blk_grown hD6.v hgrow hneV
        have hHeld7 : W7.cell? ⟨V, 3, none⟩ = some (.slice ia k ic) ∧ W7.cell? ⟨w.heap.size, 3, none⟩ = some (.slice (some ⟨bI, oI, none⟩) d.m l.ic) ∧ W7.cell? ⟨bI, oI + k * 6, none⟩ = some (.int .i64 (d.ino k)) ∧ W7.cell? ⟨bI, oI + k * 6 + 1, none⟩ = some (.int .i64 (d.nd k).kind) ∧ W7.cell? ⟨bI, oI + k * 6 + 1 + 1, none⟩ = some (.string (d.nd k).text) ∧ W7.cell? ⟨bI, oI + k * 6 + 1 + 2, none⟩ = some (.slice (l.L k).nA (d.nd k).nn (l.L k).nc) ∧ W7.cell? ⟨bI, oI + k * 6 + 1 + 3, none⟩ = some (.slice (l.L k).kA (d.nd k).kn (l.L k).kc) ∧ W7.cell? ⟨bI, oI + k * 6 + 1 + 4, none⟩ = some (.int .i64 (d.nd k).turn) := by
          obtain ⟨e0, e1, e2, e3, e4, e5, e6, e7⟩ := (HSt.out _ hb7).1
          have hlow : ∀ q o v, q < w2.heap.size → (W6.alloc (.cells #[.int .i64 (d.ino k), .int .i64 (d.nd k).kind, .string (d.nd k).text, .slice l5.nA (d.nd k).nn l5.nc, .slice l5.kA (d.nd k).kn l5.kc, .int .i64 (d.nd k).turn] 113)).cell? ⟨q, o, none⟩ = some v → W7.cell? ⟨q, o, none⟩ = some v := fun q o v hq h => hgrow.cell h (fun e => by have := hbo5 q e.symm; omega)
          have hwlt := hs2
          exact ⟨hV7.cell 3, hlow _ _ _ (by omega) e1, hlow _ _ _ hbIl e2, hlow _ _ _ hbIl e3, hlow _ _ _ hbIl e4, hlow _ _ _ hbIl e5, hlow _ _ _ hbIl e6, hlow _ _ _ hbIl e7⟩
        have H8 : Hid _ := (HIN.out.1.below hd5).item hN6 (by have := hd5.size; omega) hgrow hown hbI
        have v37 : W7.cell? ⟨V, 3, none⟩ = some (.slice ia k ic) := hV7.cell 3
        have f37 := hV7.frozen 3
        refine hK.out _ _ hHeld7 (fun hHeld => ?re12x)
        clear hK K
        try simp only [Act.put, List.setIfInBounds_toArray, List.set_cons_zero, List.set_cons_succ]
        refine wpAnyH_done (by kernel_rfl) ?_ _
        show Oper.wp _ _ _ _ _ _
        clear hown hgrow hnil hat hbI hV7 hHeld7 hN6 hD6 hN5 HSt hneV hHeld hd5 hb6 hb7 hsm hbo5 hB5
        go_simp
        show Oper.wp _ _ _ _ _ _
        go_simp
        refine NoPanic.normal ?_
        go_wp2_with fail
        go_roundw
        case rel => exact ⟨k + 1, some ⟨gI, 0, none⟩, cI, _, _, _, by omega, by go_num, H8.out, fun i hi => by
          by_cases e : i = k
          · subst e; simp
          · simp only [e, if_false]; exact HIN.out.2 i (by omega)⟩
        case measure => simp [intOf]; omega
      · obtain rfl : k = d.m := by omega
        have HOWN : Hid (OwnDp wr w2.heap.size d ⟨some ⟨g, 0, none⟩, c', ia, ic, M⟩) := HIN.out.1.od.ext fun i hi => ⟨((HIN.out.2 i hi).1).symm, ((HIN.out.2 i hi).2).symm⟩
        have v0 : wr.cell? ⟨V, 0, none⟩ = some (.int .i64 d.since) := HIN.out.1.v.cell 0
        have v1 : wr.cell? ⟨V, 1, none⟩ = some (.int .i64 d.date) := HIN.out.1.v.cell 1
        have v2 : wr.cell? ⟨V, 2, none⟩ = some (.slice (some ⟨g, 0, none⟩) d.ln c') := HIN.out.1.v.cell 2
        have v3 : wr.cell? ⟨V, 3, none⟩ = some (.slice ia d.m ic) := HIN.out.1.v.cell 3
        have r0 : wr.cell? ⟨w.heap.size + 1, 0, none⟩ = some (.int .i64 0) := HT.out.r.cell 0
        have r1 : wr.cell? ⟨w.heap.size + 1, 1, none⟩ = some (.int .i64 0) := HT.out.r.cell 1
        have r2 : wr.cell? ⟨w.heap.size + 1, 2, none⟩ = some (.slice none 0 0) := HT.out.r.cell 2
        have r3 : wr.cell? ⟨w.heap.size + 1, 3, none⟩ = some (.slice none 0 0) := HT.out.r.cell 3
        have g0 := HT.out.r.frozen 0
        have g1 := HT.out.r.frozen 1
        have g2 := HT.out.r.frozen 2
        have g3 := HT.out.r.frozen 3
        have hwl : w.heap.size + 1 < w2.heap.size := by omega
        go_wp2_with fail
        refine end_world (F := fun U => Blk U (w.heap.size + 1) #[.int .i64 d.since, .int .i64 d.date, .slice (some ⟨g, 0, none⟩) d.ln c', .slice ia d.m ic] 36 ∧ Below w.heap.size w U ∧ OwnDp U w2.heap.size d ⟨some ⟨g, 0, none⟩, c', ia, ic, M⟩) ⟨(((HT.out.r.set 0 _).set 1 _).set 2 _).set 3 _, bel_put (bel_put (bel_put (bel_put HT.out.bel _ (by omega)) _ (by omega)) _ (by omega)) _ (by omega), OD.off (OD.off (OD.off (OD.off HOWN.out _ hwl) _ hwl) _ hwl) _ hwl⟩ ?_
        clear p0 p1 p2 p3 r0 r1 r2 r3 g0 g1 g2 g3 v0 v1 v2 v3
        rintro U ⟨hr, hBU, hod⟩
        have r0 : U.cell? ⟨w.heap.size + 1, 0, none⟩ = some (.int .i64 d.since) := hr.cell 0
        have r1 : U.cell? ⟨w.heap.size + 1, 1, none⟩ = some (.int .i64 d.date) := hr.cell 1
        have r2 : U.cell? ⟨w.heap.size + 1, 2, none⟩ = some (.slice (some ⟨g, 0, none⟩) d.ln c') := hr.cell 2
        have r3 : U.cell? ⟨w.heap.size + 1, 3, none⟩ = some (.slice ia d.m ic) := hr.cell 3
        exact bodyPost_ret (v := .agg #[.int .i64 d.since, .int .i64 d.date, .slice (some ⟨g, 0, none⟩) d.ln c', .slice ia d.m ic]) (by simp [results, Tryz.results75, go_sem, r0, r1, r2, r3]) rfl ⟨⟨some ⟨g, 0, none⟩, c', ia, ic, M⟩, rfl, hBU, OD.lower hod (by omega)⟩
end Go.Proofs.YtakifcobofkheaaGreatDoor

/-
  Cuts behind a piece of code, of up to seven letters.
-/
namespace Go.Proofs.YtakifcobofkheaaGreatDoor
open Go.RowKit

theorem wp_cn1 {X : Type} (F : X → World → Prop) {P : Program} {c : Code} {Q : Exit → Act → World → Prop} {a : Act} {w : World} (A : X → Act)
    (leaf : (∀ x W, F x W → Q .normal (A x) W) → c.wp P Q a w) (k : ∀ x W, F x W → Q .normal (A x) W) : c.wp P Q a w := leaf k

theorem wp_cn2 {X Y : Type} (F : X → Y → World → Prop) {P : Program} {c : Code} {Q : Exit → Act → World → Prop} {a : Act} {w : World} (A : X → Y → Act)
    (leaf : (∀ x y W, F x y W → Q .normal (A x y) W) → c.wp P Q a w) (k : ∀ x y W, F x y W → Q .normal (A x y) W) : c.wp P Q a w := leaf k

theorem wp_cn3 {X Y Z : Type} (F : X → Y → Z → World → Prop) {P : Program} {c : Code} {Q : Exit → Act → World → Prop} {a : Act} {w : World} (A : X → Y → Z → Act)
    (leaf : (∀ x y z W, F x y z W → Q .normal (A x y z) W) → c.wp P Q a w) (k : ∀ x y z W, F x y z W → Q .normal (A x y z) W) : c.wp P Q a w := leaf k

theorem wp_cn4 {X Y Z U : Type} (F : X → Y → Z → U → World → Prop) {P : Program} {c : Code} {Q : Exit → Act → World → Prop} {a : Act} {w : World} (A : X → Y → Z → U → Act)
    (leaf : (∀ x y z u W, F x y z u W → Q .normal (A x y z u) W) → c.wp P Q a w) (k : ∀ x y z u W, F x y z u W → Q .normal (A x y z u) W) : c.wp P Q a w := leaf k

theorem wp_cn5 {X Y Z U V : Type} (F : X → Y → Z → U → V → World → Prop) {P : Program} {c : Code} {Q : Exit → Act → World → Prop} {a : Act} {w : World} (A : X → Y → Z → U → V → Act)
    (leaf : (∀ x y z u v W, F x y z u v W → Q .normal (A x y z u v) W) → c.wp P Q a w) (k : ∀ x y z u v W, F x y z u v W → Q .normal (A x y z u v) W) : c.wp P Q a w := leaf k

theorem wp_cn6 {X Y Z U V S : Type} (F : X → Y → Z → U → V → S → World → Prop) {P : Program} {c : Code} {Q : Exit → Act → World → Prop} {a : Act} {w : World} (A : X → Y → Z → U → V → S → Act)
    (leaf : (∀ x y z u v s W, F x y z u v s W → Q .normal (A x y z u v s) W) → c.wp P Q a w) (k : ∀ x y z u v s W, F x y z u v s W → Q .normal (A x y z u v s) W) : c.wp P Q a w := leaf k

theorem wp_cn7 {X Y Z U V S T : Type} (F : X → Y → Z → U → V → S → T → World → Prop) {P : Program} {c : Code} {Q : Exit → Act → World → Prop} {a : Act} {w : World} (A : X → Y → Z → U → V → S → T → Act)
    (leaf : (∀ x y z u v s t W, F x y z u v s t W → Q .normal (A x y z u v s t) W) → c.wp P Q a w) (k : ∀ x y z u v s t W, F x y z u v s t W → Q .normal (A x y z u v s t) W) : c.wp P Q a w := leaf k
end Go.Proofs.YtakifcobofkheaaGreatDoor

/-
  What l9Copy of the specification answers: the same job, in new memory.
-/
namespace Go.Proofs.YtakifcobofkheaaGreatDoor
open Go.RowKit Go.Deep
set_option linter.unusedVariables false
set_option linter.unusedSimpArgs false
set_option linter.unnecessarySimpa false

/-- The boxes. -/
structure Jc (w : World) (j : Jb) (l : JLoc) (W : World) : Prop where
  p : Blk W w.heap.size (jC j l) 38
  r : Blk W (w.heap.size + 1) #[.slice none 0 0, .int .i64 0, .int .i64 0, .int .i64 0, .slice none 0 0, .slice none 0 0, .slice none 0 0] 38
  bel : Below w.heap.size w W

theorem Jc.below {w : World} {j : Jb} {l : JLoc} {W W' : World} (h : Jc w j l W) (hb : Below W.heap.size W W') : Jc w j l W' := ⟨h.p.below hb h.p.lt, h.r.below hb h.r.lt, h.bel.trans (hb.mono h.bel.size)⟩

/-- The variable's cells: a tree, something kept, and the list. -/
def jcs (j : Jb) (k1 : TLoc) (k2 : DLoc) (s : Value) : Array Value := #[.slice k1.a j.t.n k1.c, .int .i64 j.t.now, .int .i64 j.d.since, .int .i64 j.d.date, .slice k2.lA j.d.ln k2.lc, .slice k2.iA j.d.m k2.ic, s]

/-- What is known ahead of the loop. -/
structure Jv (w : World) (j : Jb) (l : JLoc) (k1 : TLoc) (k2 : DLoc) (V : Nat) (W : World) : Prop where
  c : Jc w j l W
  v : Blk W V (jcs j k1 k2 (.slice none 0 0)) 38
  vl : w.heap.size + 2 ≤ V
  t : OwnTr W (w.heap.size + 2) j.t k1
  d : OwnDp W (w.heap.size + 2) j.d k2
  td : ∀ b, BkT j.t k1 b → ¬ BkD j.d k2 b
  tv : ¬ BkT j.t k1 V
  dv : ¬ BkD j.d k2 V

theorem Jc.of {w W0 : World} {j : Jb} {l : JLoc} (h : Jc w j l W0) {V k : Nat} {cs : Value → Array Value} {b : Option Addr} {bc : Nat} {E : Nat → Nd} {M : Nat → Loc} {W : World} (g : GV W0 V 6 38 cs k b bc E M W) (hV : w.heap.size + 2 ≤ V) : Jc w j l W :=
  ⟨h.p.of_block (g.keep h.p.lt (by omega)), h.r.of_block (g.keep h.r.lt (by omega)), h.bel.grown g.gr (by have := h.bel.size; omega) (fun j e => by have := Option.some.inj e; omega)⟩

set_option maxRecDepth 100000 in
set_option maxHeartbeats 8000000 in
theorem l9Copy_any (j : Jb) (l : JLoc) (w : World) (hJ : JIn w j l) (hok : j.d.ok = true) (hn : j.t.n ≤ 10) (hq10 : j.q ≤ 10) (hst : j.t.size ≤ 1048576) (hsd : j.d.size ≤ 1048576) (hse : ∀ i, i < j.q → (j.e i).size ≤ 1048576) :
    Calls Tryz.prog 44 #[jV j l] w fun e w' => ∃ l', e = .returned (jV j l') ∧ Below w.heap.size w w' ∧ OwnJb w' w.heap.size j l' := by
  unfold jV
  obtain ⟨y0, hy, hy0, hy1, hy2⟩ := info_parts infoNode
  go_enter Tryz.func44, Tryz.ntmps44
  go_wp2_with fail
  refine wp_world (F := fun W => Jc w j l W ∧ w.heap.size + 2 ≤ W.heap.size) ?_ ?_
  · obtain ⟨h0, h1, hb, hs'⟩ := new2 w (jC j l) 38 #[.slice none 0 0, .int .i64 0, .int .i64 0, .int .i64 0, .slice none 0 0, .slice none 0 0, .slice none 0 0] 38
    exact ⟨⟨h0, h1, hb⟩, by simp⟩
  rintro w2 ⟨hO, hs2⟩
  have H2 : Hid (Jc w j l w2) := hO
  clear hO
  have HSt : Hid (∀ W', Below w2.heap.size w2 W' → W'.cell? ⟨w.heap.size, 0, none⟩ = some (.slice l.t.a j.t.n l.t.c) ∧ W'.cell? ⟨w.heap.size, 1, none⟩ = some (.int .i64 j.t.now) ∧ W'.cell? ⟨w.heap.size, 2, none⟩ = some (.int .i64 j.d.since) ∧ W'.cell? ⟨w.heap.size, 3, none⟩ = some (.int .i64 j.d.date) ∧ W'.cell? ⟨w.heap.size, 4, none⟩ = some (.slice l.d.lA j.d.ln l.d.lc) ∧ W'.cell? ⟨w.heap.size, 5, none⟩ = some (.slice l.d.iA j.d.m l.d.ic)) := fun W' hW => by
    obtain ⟨p0, p1, p2, p3, p4, p5, p6⟩ := jC_cells (H2.out.below hW).p
    exact ⟨p0, p1, p2, p3, p4, p5⟩
  apply wp_cn3 (X := TLoc) (Y := DLoc) (Z := Nat) (fun k1 k2 V W => Jv w j l k1 k2 V W)
  · intro key
    have KEY : Hid _ := key
    clear key
    refine wp_region_noPanic ?_
    have hB0 : Below w2.heap.size w2 w2.drew := (Below.refl _ _).drew
    refine wp_region_peel (fun W' => W'.cell? ⟨w.heap.size, 0, none⟩ = some (.slice l.t.a j.t.n l.t.c) ∧ W'.cell? ⟨w.heap.size, 1, none⟩ = some (.int .i64 j.t.now) ∧ W'.cell? ⟨w.heap.size, 2, none⟩ = some (.int .i64 j.d.since) ∧ W'.cell? ⟨w.heap.size, 3, none⟩ = some (.int .i64 j.d.date) ∧ W'.cell? ⟨w.heap.size, 4, none⟩ = some (.slice l.d.lA j.d.ln l.d.lc) ∧ W'.cell? ⟨w.heap.size, 5, none⟩ = some (.slice l.d.iA j.d.m l.d.ic)) _ (by kernel_rfl) rfl (by kernel_rfl) ?_ (fun hHeld => ?_)
    · exact HSt.out _ hB0
    simp only [List.pop_toArray, List.dropLast, List.size_toArray, List.length_cons, List.length_nil, Nat.reduceAdd, Nat.reduceSub, List.getElem_toArray, List.getElem_cons_succ, List.getElem_cons_zero]
    refine peel_take (i := 0) (oi := ?oi0a) (v := ?v0a) (fun _ _ _ _ _ h => h) hHeld ?hi0a (by kernel_rfl) (by kernel_rfl) (by kernel_rfl) ?hw0a ?hy0a ?rest0a
    case hi0a =>
      simp only [List.getElem?_toArray, List.getElem?_cons_zero]
      rfl
    case hw0a => rfl
    case hy0a =>
      intro w hSw
      obtain ⟨s0, s1, s2, s3, s4, s5⟩ := hSw
      go_simp
      try with_reducible rfl
    try simp only [Act.put, List.setIfInBounds_toArray, List.set_cons_zero, List.set_cons_succ]
    refine peel_take (i := 1) (oi := ?oi1a) (v := ?v1a) (fun _ _ _ _ _ h => h) hHeld ?hi1a (by kernel_rfl) (by kernel_rfl) (by kernel_rfl) ?hw1a ?hy1a ?rest1a
    case hi1a =>
      simp only [List.getElem?_toArray, List.getElem?_cons_succ, List.getElem?_cons_zero]
      rfl
    case hw1a => rfl
    case hy1a =>
      intro w hSw
      obtain ⟨s0, s1, s2, s3, s4, s5⟩ := hSw
      go_simp
      try with_reducible rfl
    try simp only [Act.put, List.setIfInBounds_toArray, List.set_cons_zero, List.set_cons_succ]
    refine peel_take (i := 3) (oi := ?oi3a) (v := ?v3a) (fun _ _ _ _ _ h => h) hHeld ?hi3a (by kernel_rfl) (by kernel_rfl) (by kernel_rfl) ?hw3a ?hy3a ?rest3a
    case hi3a =>
      simp only [List.getElem?_toArray, List.getElem?_cons_succ, List.getElem?_cons_zero]
      rfl
    case hw3a => rfl
    case hy3a =>
      intro w hSw
      obtain ⟨s0, s1, s2, s3, s4, s5⟩ := hSw
      go_simp
      try with_reducible rfl
    try simp only [Act.put, List.setIfInBounds_toArray, List.set_cons_zero, List.set_cons_succ]
    refine peel_take (i := 4) (oi := ?oi4a) (v := ?v4a) (fun _ _ _ _ _ h => h) hHeld ?hi4a (by kernel_rfl) (by kernel_rfl) (by kernel_rfl) ?hw4a ?hy4a ?rest4a
    case hi4a =>
      simp only [List.getElem?_toArray, List.getElem?_cons_succ, List.getElem?_cons_zero]
      rfl
    case hw4a => rfl
    case hy4a =>
      intro w hSw
      obtain ⟨s0, s1, s2, s3, s4, s5⟩ := hSw
      go_simp
      try with_reducible rfl
    try simp only [Act.put, List.setIfInBounds_toArray, List.set_cons_zero, List.set_cons_succ]
    refine wpAnyH_ready (rs := [2, 7]) (by kernel_rfl) (by simp) ?_
    refine AllReadyH.cons (o := ?o2q1a) ?ho2q1a (fun K hK => ?st2q1a) ?more2q1a
    case ho2q1a =>
      simp only [List.getElem?_toArray, List.getElem?_cons_succ, List.getElem?_cons_zero]
      rfl
    case st2q1a =>
      go_simp
      refine (l2Tree_own j.t l.t _ ((hJ.t.below (Nat.le_refl _) H2.out.bel).below (Nat.le_refl _) hB0) (by omega) hst).mono ?_
      rintro e wq1a ⟨k1, rfl, hbc, ho1q1a⟩
      unfold tV
      have hBq1a : Below w2.heap.size w2 wq1a := hB0.trans (hbc.mono hB0.size)
      have holq1a := ho1q1a.lower hB0.size
      clear hbc
      refine hK.out _ _ (HSt.out _ hBq1a) (fun hHeld => ?_)
      clear hK K
      try simp only [Act.put, List.setIfInBounds_toArray, List.set_cons_zero, List.set_cons_succ]
      refine wpAnyH_ready (rs := [5, 7]) (by kernel_rfl) (by simp) ?_
      refine AllReadyH.cons (o := ?o5q2a) ?ho5q2a (fun K hK => ?st5q2a) ?more5q2a
      case ho5q2a =>
        simp only [List.getElem?_toArray, List.getElem?_cons_succ, List.getElem?_cons_zero]
        rfl
      case st5q2a =>
        go_simp
        have htlq2a : ∀ b, BkT j.t k1 b → b < (wq1a).heap.size := fun b e => (holq1a.blk e).2
        refine (l5Copy_any j.d l.d _ ((hJ.d.below (Nat.le_refl _) H2.out.bel).below (Nat.le_refl _) hBq1a) hok hsd).mono ?_
        rintro e wq2a ⟨k2, rfl, hbc, ho2q2a⟩
        unfold dpV
        have hBq2a : Below w2.heap.size w2 wq2a := hBq1a.trans (hbc.mono hBq1a.size)
        have htq2a := holq1a.below hbc
        have htdq2a : ∀ b, BkT j.t k1 b → ¬ BkD j.d k2 b := fun b e1 e2 => by have h1 := htlq2a b e1; have h2 := (ho2q2a.blk e2).1; omega
        have holq2a := ho2q2a.lower hBq1a.size
        clear hbc
        refine hK.out _ _ (HSt.out _ hBq2a) (fun hHeld => ?_)
        clear hK K
        try simp only [Act.put, List.setIfInBounds_toArray, List.set_cons_zero, List.set_cons_succ]
        refine wpAnyH_ready (rs := [6, 7]) (by kernel_rfl) (by simp) ?_
        refine AllReadyH.cons (o := ?o6q3a) ?ho6q3a (fun K hK => ?st6q3a) ?more6q3a
        case ho6q3a =>
          simp only [List.getElem?_toArray, List.getElem?_cons_succ, List.getElem?_cons_zero]
          rfl
        case st6q3a =>
          go_simp
          refine hK.out _ _ hHeld (fun hHeld => ?_)
          clear hK K
          try simp only [Act.put, List.setIfInBounds_toArray, List.set_cons_zero, List.set_cons_succ]
          refine wpAnyH_ready (rs := [7]) (by kernel_rfl) (by simp) ?_
          refine AllReadyH.cons (o := ?o7q4a) ?ho7q4a (fun K hK => ?st7q4a) AllReadyH.nil
          case ho7q4a =>
            simp only [List.getElem?_toArray, List.getElem?_cons_succ, List.getElem?_cons_zero]
            rfl
          go_simp
          have hBq4a : Below w2.heap.size w2 (wq2a.alloc (.cells #[.slice none 0 0, .int .i64 0, .int .i64 0, .int .i64 0, .slice none 0 0, .slice none 0 0, .slice none 0 0] 38)) := hBq2a.alloc hBq2a.size _
          have hvq4a : Blk (wq2a.alloc (.cells #[.slice none 0 0, .int .i64 0, .int .i64 0, .int .i64 0, .slice none 0 0, .slice none 0 0, .slice none 0 0] 38)) (wq2a.heap.size) #[.slice none 0 0, .int .i64 0, .int .i64 0, .int .i64 0, .slice none 0 0, .slice none 0 0, .slice none 0 0] 38 := by
            have h := Blk.new wq2a #[.slice none 0 0, .int .i64 0, .int .i64 0, .int .i64 0, .slice none 0 0, .slice none 0 0, .slice none 0 0] 38
            simpa using h
          have hVq4a : w2.heap.size ≤ wq2a.heap.size := by
            have h := hBq2a.size
            simpa using h
          have htq4a := htq2a.below ((Below.refl _ _).alloc (Nat.le_refl _) (.cells #[.slice none 0 0, .int .i64 0, .int .i64 0, .int .i64 0, .slice none 0 0, .slice none 0 0, .slice none 0 0] 38))
          have htvq4a : ¬ BkT j.t k1 (wq2a.heap.size) := fun e => by have h := (htq2a.blk e).2; simp at h
          have hdq4a := holq2a.below ((Below.refl _ _).alloc (Nat.le_refl _) (.cells #[.slice none 0 0, .int .i64 0, .int .i64 0, .int .i64 0, .slice none 0 0, .slice none 0 0, .slice none 0 0] 38))
          have hdvq4a : ¬ BkD j.d k2 (wq2a.heap.size) := fun e => by have h := (holq2a.blk e).2; simp at h
          refine hK.out _ _ (HSt.out _ hBq4a) (fun hHeld => ?_)
          clear hK K
          try simp only [Act.put, List.setIfInBounds_toArray, List.set_cons_zero, List.set_cons_succ]
          refine wpAnyH_done (by kernel_rfl) ?_ _
          have HS : Hid (∀ U, U = wq2a.alloc (.cells (jcs j k1 k2 (.slice none 0 0)) 38) → Jv w j l k1 k2 (wq2a.heap.size) U) := fun U e => by
            subst e
            have hb : Below wq2a.heap.size wq2a (wq2a.alloc (.cells (jcs j k1 k2 (.slice none 0 0)) 38)) := (Below.refl _ _).alloc (Nat.le_refl _) _
            exact ⟨H2.out.below (hBq2a.trans (hb.mono hBq2a.size)), Blk.new _ _ _, by have := hVq4a; omega, (htq2a.below hb).lower hs2, (holq2a.below hb).lower hs2, htdq2a, htvq4a, hdvq4a⟩
          show Oper.wp _ _ _ _ _ _
          go_simp
          generalize hV : wq2a.heap.size = V
          exact NoPanic.normal (KEY.out k1 k2 V _ (by rw [← hV]; exact HS.out _ rfl))
        refine AllReadyH.cons (o := ?o7q3b) ?ho7q3b (fun K hK => ?st7q3b) AllReadyH.nil
        case ho7q3b =>
          simp only [List.getElem?_toArray, List.getElem?_cons_succ, List.getElem?_cons_zero]
          rfl
        go_simp
        have hBq3b : Below w2.heap.size w2 (wq2a.alloc (.cells #[.slice none 0 0, .int .i64 0, .int .i64 0, .int .i64 0, .slice none 0 0, .slice none 0 0, .slice none 0 0] 38)) := hBq2a.alloc hBq2a.size _
        have hvq3b : Blk (wq2a.alloc (.cells #[.slice none 0 0, .int .i64 0, .int .i64 0, .int .i64 0, .slice none 0 0, .slice none 0 0, .slice none 0 0] 38)) (wq2a.heap.size) #[.slice none 0 0, .int .i64 0, .int .i64 0, .int .i64 0, .slice none 0 0, .slice none 0 0, .slice none 0 0] 38 := by
          have h := Blk.new wq2a #[.slice none 0 0, .int .i64 0, .int .i64 0, .int .i64 0, .slice none 0 0, .slice none 0 0, .slice none 0 0] 38
          simpa using h
        have hVq3b : w2.heap.size ≤ wq2a.heap.size := by
          have h := hBq2a.size
          simpa using h
        have htq3b := htq2a.below ((Below.refl _ _).alloc (Nat.le_refl _) (.cells #[.slice none 0 0, .int .i64 0, .int .i64 0, .int .i64 0, .slice none 0 0, .slice none 0 0, .slice none 0 0] 38))
        have htvq3b : ¬ BkT j.t k1 (wq2a.heap.size) := fun e => by have h := (htq2a.blk e).2; simp at h
        have hdq3b := holq2a.below ((Below.refl _ _).alloc (Nat.le_refl _) (.cells #[.slice none 0 0, .int .i64 0, .int .i64 0, .int .i64 0, .slice none 0 0, .slice none 0 0, .slice none 0 0] 38))
        have hdvq3b : ¬ BkD j.d k2 (wq2a.heap.size) := fun e => by have h := (holq2a.blk e).2; simp at h
        refine hK.out _ _ (HSt.out _ hBq3b) (fun hHeld => ?_)
        clear hK K
        try simp only [Act.put, List.setIfInBounds_toArray, List.set_cons_zero, List.set_cons_succ]
        refine wpAnyH_ready (rs := [6]) (by kernel_rfl) (by simp) ?_
        refine AllReadyH.cons (o := ?o6q6a) ?ho6q6a (fun K hK => ?st6q6a) AllReadyH.nil
        case ho6q6a =>
          simp only [List.getElem?_toArray, List.getElem?_cons_succ, List.getElem?_cons_zero]
          rfl
        go_simp
        refine hK.out _ _ hHeld (fun hHeld => ?_)
        clear hK K
        try simp only [Act.put, List.setIfInBounds_toArray, List.set_cons_zero, List.set_cons_succ]
        refine wpAnyH_done (by kernel_rfl) ?_ _
        have HS : Hid (∀ U, U = wq2a.alloc (.cells (jcs j k1 k2 (.slice none 0 0)) 38) → Jv w j l k1 k2 (wq2a.heap.size) U) := fun U e => by
          subst e
          have hb : Below wq2a.heap.size wq2a (wq2a.alloc (.cells (jcs j k1 k2 (.slice none 0 0)) 38)) := (Below.refl _ _).alloc (Nat.le_refl _) _
          exact ⟨H2.out.below (hBq2a.trans (hb.mono hBq2a.size)), Blk.new _ _ _, by have := hVq3b; omega, (htq2a.below hb).lower hs2, (holq2a.below hb).lower hs2, htdq2a, htvq3b, hdvq3b⟩
        show Oper.wp _ _ _ _ _ _
        go_simp
        generalize hV : wq2a.heap.size = V
        exact NoPanic.normal (KEY.out k1 k2 V _ (by rw [← hV]; exact HS.out _ rfl))
      refine AllReadyH.cons (o := ?o7q2b) ?ho7q2b (fun K hK => ?st7q2b) AllReadyH.nil
      case ho7q2b =>
        simp only [List.getElem?_toArray, List.getElem?_cons_succ, List.getElem?_cons_zero]
        rfl
      go_simp
      have hBq2b : Below w2.heap.size w2 (wq1a.alloc (.cells #[.slice none 0 0, .int .i64 0, .int .i64 0, .int .i64 0, .slice none 0 0, .slice none 0 0, .slice none 0 0] 38)) := hBq1a.alloc hBq1a.size _
      have hvq2b : Blk (wq1a.alloc (.cells #[.slice none 0 0, .int .i64 0, .int .i64 0, .int .i64 0, .slice none 0 0, .slice none 0 0, .slice none 0 0] 38)) (wq1a.heap.size) #[.slice none 0 0, .int .i64 0, .int .i64 0, .int .i64 0, .slice none 0 0, .slice none 0 0, .slice none 0 0] 38 := by
        have h := Blk.new wq1a #[.slice none 0 0, .int .i64 0, .int .i64 0, .int .i64 0, .slice none 0 0, .slice none 0 0, .slice none 0 0] 38
        simpa using h
      have hVq2b : w2.heap.size ≤ wq1a.heap.size := by
        have h := hBq1a.size
        simpa using h
      have htq2b := holq1a.below ((Below.refl _ _).alloc (Nat.le_refl _) (.cells #[.slice none 0 0, .int .i64 0, .int .i64 0, .int .i64 0, .slice none 0 0, .slice none 0 0, .slice none 0 0] 38))
      have htvq2b : ¬ BkT j.t k1 (wq1a.heap.size) := fun e => by have h := (holq1a.blk e).2; simp at h
      refine hK.out _ _ (HSt.out _ hBq2b) (fun hHeld => ?_)
      clear hK K
      try simp only [Act.put, List.setIfInBounds_toArray, List.set_cons_zero, List.set_cons_succ]
      refine wpAnyH_ready (rs := [5]) (by kernel_rfl) (by simp) ?_
      refine AllReadyH.cons (o := ?o5q8a) ?ho5q8a (fun K hK => ?st5q8a) AllReadyH.nil
      case ho5q8a =>
        simp only [List.getElem?_toArray, List.getElem?_cons_succ, List.getElem?_cons_zero]
        rfl
      go_simp
      have htlq8a : ∀ b, BkT j.t k1 b → b < ((wq1a.alloc (.cells #[.slice none 0 0, .int .i64 0, .int .i64 0, .int .i64 0, .slice none 0 0, .slice none 0 0, .slice none 0 0] 38))).heap.size := fun b e => (htq2b.blk e).2
      refine (l5Copy_any j.d l.d _ ((hJ.d.below (Nat.le_refl _) H2.out.bel).below (Nat.le_refl _) hBq2b) hok hsd).mono ?_
      rintro e wq8a ⟨k2, rfl, hbc, ho2q8a⟩
      unfold dpV
      have hBq8a : Below w2.heap.size w2 wq8a := hBq2b.trans (hbc.mono hBq2b.size)
      have htq8a := htq2b.below hbc
      have htdq8a : ∀ b, BkT j.t k1 b → ¬ BkD j.d k2 b := fun b e1 e2 => by have h1 := htlq8a b e1; have h2 := (ho2q8a.blk e2).1; omega
      have hvq8a : Blk wq8a (wq1a.heap.size) #[.slice none 0 0, .int .i64 0, .int .i64 0, .int .i64 0, .slice none 0 0, .slice none 0 0, .slice none 0 0] 38 := hvq2b.below hbc hvq2b.lt
      have hltq8a : wq1a.heap.size < wq8a.heap.size := hvq8a.lt
      have hdvq8a : ¬ BkD j.d k2 (wq1a.heap.size) := fun e => by have h1 := (ho2q8a.blk e).1; have h2 := hvq2b.lt; omega
      have holq8a := ho2q8a.lower hBq2b.size
      clear hbc
      refine hK.out _ _ (HSt.out _ hBq8a) (fun hHeld => ?_)
      clear hK K
      try simp only [Act.put, List.setIfInBounds_toArray, List.set_cons_zero, List.set_cons_succ]
      refine wpAnyH_ready (rs := [6]) (by kernel_rfl) (by simp) ?_
      refine AllReadyH.cons (o := ?o6q9a) ?ho6q9a (fun K hK => ?st6q9a) AllReadyH.nil
      case ho6q9a =>
        simp only [List.getElem?_toArray, List.getElem?_cons_succ, List.getElem?_cons_zero]
        rfl
      go_simp
      refine hK.out _ _ hHeld (fun hHeld => ?_)
      clear hK K
      try simp only [Act.put, List.setIfInBounds_toArray, List.set_cons_zero, List.set_cons_succ]
      refine wpAnyH_done (by kernel_rfl) ?_ _
      have z0 := hvq8a.cell 0
      have z1 := hvq8a.cell 1
      have z2 := hvq8a.cell 2
      have z3 := hvq8a.cell 3
      have z4 := hvq8a.cell 4
      have z5 := hvq8a.cell 5
      have z6 := hvq8a.cell 6
      have f0 := hvq8a.frozen 0
      have f1 := hvq8a.frozen 1
      have f2 := hvq8a.frozen 2
      have f3 := hvq8a.frozen 3
      have f4 := hvq8a.frozen 4
      have f5 := hvq8a.frozen 5
      have f6 := hvq8a.frozen 6
      simp at z0 z1 z2 z3 z4 z5 z6
      have HS : Hid (∀ U, U = (((((((wq8a.setCell ⟨wq1a.heap.size, 0, none⟩ (.slice k1.a j.t.n k1.c)).setCell ⟨wq1a.heap.size, 1, none⟩ (.int .i64 j.t.now)).setCell ⟨wq1a.heap.size, 2, none⟩ (.int .i64 j.d.since)).setCell ⟨wq1a.heap.size, 3, none⟩ (.int .i64 j.d.date)).setCell ⟨wq1a.heap.size, 4, none⟩ (.slice k2.lA j.d.ln k2.lc)).setCell ⟨wq1a.heap.size, 5, none⟩ (.slice k2.iA j.d.m k2.ic)).setCell ⟨wq1a.heap.size, 6, none⟩ (.slice none 0 0)) → Jv w j l k1 k2 (wq1a.heap.size) U) := fun U e => by
        subst e
        have hk : ∀ b, b ≠ wq1a.heap.size → (((((((wq8a.setCell ⟨wq1a.heap.size, 0, none⟩ (.slice k1.a j.t.n k1.c)).setCell ⟨wq1a.heap.size, 1, none⟩ (.int .i64 j.t.now)).setCell ⟨wq1a.heap.size, 2, none⟩ (.int .i64 j.d.since)).setCell ⟨wq1a.heap.size, 3, none⟩ (.int .i64 j.d.date)).setCell ⟨wq1a.heap.size, 4, none⟩ (.slice k2.lA j.d.ln k2.lc)).setCell ⟨wq1a.heap.size, 5, none⟩ (.slice k2.iA j.d.m k2.ic)).setCell ⟨wq1a.heap.size, 6, none⟩ (.slice none 0 0)).heap[b]? = wq8a.heap[b]? := fun b hb => by
          refine (blk_setCell_other _ _ _ _ (show b ≠ _ from hb)).trans ((blk_setCell_other _ _ _ _ (show b ≠ _ from hb)).trans ((blk_setCell_other _ _ _ _ (show b ≠ _ from hb)).trans ((blk_setCell_other _ _ _ _ (show b ≠ _ from hb)).trans ((blk_setCell_other _ _ _ _ (show b ≠ _ from hb)).trans ((blk_setCell_other _ _ _ _ (show b ≠ _ from hb)).trans (blk_setCell_other _ _ _ _ (show b ≠ _ from hb)))))))
        exact ⟨⟨(H2.out.below hBq8a).p.of_block (hk _ (by have := hVq2b; omega)), (H2.out.below hBq8a).r.of_block (hk _ (by have := hVq2b; omega)), H2.out.bel.trans ((bel_put (bel_put (bel_put (bel_put (bel_put (bel_put (bel_put hBq8a _ hVq2b) _ hVq2b) _ hVq2b) _ hVq2b) _ hVq2b) _ hVq2b) _ hVq2b).mono H2.out.bel.size)⟩, (((((((hvq8a.set 0 _).set 1 _).set 2 _).set 3 _).set 4 _).set 5 _).set 6 _), by have := hVq2b; omega, (htq8a.keep fun b e => hk b (fun e' => htvq2b (e' ▸ e))).lower hs2, (holq8a.keep fun b e => hk b (fun e' => hdvq8a (e' ▸ e))).lower hs2, htdq8a, htvq2b, hdvq8a⟩
      show Oper.wp _ _ _ _ _ _
      go_simp
      generalize hV : wq1a.heap.size = V
      exact NoPanic.normal (KEY.out k1 k2 V _ (by rw [← hV]; exact HS.out _ rfl))
    refine AllReadyH.cons (o := ?o7q1b) ?ho7q1b (fun K hK => ?st7q1b) AllReadyH.nil
    case ho7q1b =>
      simp only [List.getElem?_toArray, List.getElem?_cons_succ, List.getElem?_cons_zero]
      rfl
    go_simp
    have hBq1b : Below w2.heap.size w2 (w2.drew.alloc (.cells #[.slice none 0 0, .int .i64 0, .int .i64 0, .int .i64 0, .slice none 0 0, .slice none 0 0, .slice none 0 0] 38)) := hB0.alloc hB0.size _
    have hvq1b : Blk (w2.drew.alloc (.cells #[.slice none 0 0, .int .i64 0, .int .i64 0, .int .i64 0, .slice none 0 0, .slice none 0 0, .slice none 0 0] 38)) (w2.heap.size) #[.slice none 0 0, .int .i64 0, .int .i64 0, .int .i64 0, .slice none 0 0, .slice none 0 0, .slice none 0 0] 38 := by
      have h := Blk.new w2.drew #[.slice none 0 0, .int .i64 0, .int .i64 0, .int .i64 0, .slice none 0 0, .slice none 0 0, .slice none 0 0] 38
      simpa using h
    have hVq1b : w2.heap.size ≤ w2.heap.size := by
      have h := hB0.size
      simpa using h
    refine hK.out _ _ (HSt.out _ hBq1b) (fun hHeld => ?_)
    clear hK K
    try simp only [Act.put, List.setIfInBounds_toArray, List.set_cons_zero, List.set_cons_succ]
    refine wpAnyH_ready (rs := [2]) (by kernel_rfl) (by simp) ?_
    refine AllReadyH.cons (o := ?o2q11a) ?ho2q11a (fun K hK => ?st2q11a) AllReadyH.nil
    case ho2q11a =>
      simp only [List.getElem?_toArray, List.getElem?_cons_succ, List.getElem?_cons_zero]
      rfl
    go_simp
    refine (l2Tree_own j.t l.t _ ((hJ.t.below (Nat.le_refl _) H2.out.bel).below (Nat.le_refl _) hBq1b) (by omega) hst).mono ?_
    rintro e wq11a ⟨k1, rfl, hbc, ho1q11a⟩
    unfold tV
    have hBq11a : Below w2.heap.size w2 wq11a := hBq1b.trans (hbc.mono hBq1b.size)
    have hvq11a : Blk wq11a (w2.heap.size) #[.slice none 0 0, .int .i64 0, .int .i64 0, .int .i64 0, .slice none 0 0, .slice none 0 0, .slice none 0 0] 38 := hvq1b.below hbc hvq1b.lt
    have hltq11a : w2.heap.size < wq11a.heap.size := hvq11a.lt
    have htvq11a : ¬ BkT j.t k1 (w2.heap.size) := fun e => by have h1 := (ho1q11a.blk e).1; have h2 := hvq1b.lt; omega
    have holq11a := ho1q11a.lower hBq1b.size
    clear hbc
    refine hK.out _ _ (HSt.out _ hBq11a) (fun hHeld => ?_)
    clear hK K
    try simp only [Act.put, List.setIfInBounds_toArray, List.set_cons_zero, List.set_cons_succ]
    refine wpAnyH_ready (rs := [5]) (by kernel_rfl) (by simp) ?_
    refine AllReadyH.cons (o := ?o5q12a) ?ho5q12a (fun K hK => ?st5q12a) AllReadyH.nil
    case ho5q12a =>
      simp only [List.getElem?_toArray, List.getElem?_cons_succ, List.getElem?_cons_zero]
      rfl
    go_simp
    have htlq12a : ∀ b, BkT j.t k1 b → b < (wq11a).heap.size := fun b e => (holq11a.blk e).2
    refine (l5Copy_any j.d l.d _ ((hJ.d.below (Nat.le_refl _) H2.out.bel).below (Nat.le_refl _) hBq11a) hok hsd).mono ?_
    rintro e wq12a ⟨k2, rfl, hbc, ho2q12a⟩
    unfold dpV
    have hBq12a : Below w2.heap.size w2 wq12a := hBq11a.trans (hbc.mono hBq11a.size)
    have htq12a := holq11a.below hbc
    have htdq12a : ∀ b, BkT j.t k1 b → ¬ BkD j.d k2 b := fun b e1 e2 => by have h1 := htlq12a b e1; have h2 := (ho2q12a.blk e2).1; omega
    have hvq12a : Blk wq12a (w2.heap.size) #[.slice none 0 0, .int .i64 0, .int .i64 0, .int .i64 0, .slice none 0 0, .slice none 0 0, .slice none 0 0] 38 := hvq11a.below hbc hvq11a.lt
    have hltq12a : w2.heap.size < wq12a.heap.size := hvq12a.lt
    have hdvq12a : ¬ BkD j.d k2 (w2.heap.size) := fun e => by have h1 := (ho2q12a.blk e).1; have h2 := hvq11a.lt; omega
    have holq12a := ho2q12a.lower hBq11a.size
    clear hbc
    refine hK.out _ _ (HSt.out _ hBq12a) (fun hHeld => ?_)
    clear hK K
    try simp only [Act.put, List.setIfInBounds_toArray, List.set_cons_zero, List.set_cons_succ]
    refine wpAnyH_ready (rs := [6]) (by kernel_rfl) (by simp) ?_
    refine AllReadyH.cons (o := ?o6q13a) ?ho6q13a (fun K hK => ?st6q13a) AllReadyH.nil
    case ho6q13a =>
      simp only [List.getElem?_toArray, List.getElem?_cons_succ, List.getElem?_cons_zero]
      rfl
    go_simp
    refine hK.out _ _ hHeld (fun hHeld => ?_)
    clear hK K
    try simp only [Act.put, List.setIfInBounds_toArray, List.set_cons_zero, List.set_cons_succ]
    refine wpAnyH_done (by kernel_rfl) ?_ _
    have z0 := hvq12a.cell 0
    have z1 := hvq12a.cell 1
    have z2 := hvq12a.cell 2
    have z3 := hvq12a.cell 3
    have z4 := hvq12a.cell 4
    have z5 := hvq12a.cell 5
    have z6 := hvq12a.cell 6
    have f0 := hvq12a.frozen 0
    have f1 := hvq12a.frozen 1
    have f2 := hvq12a.frozen 2
    have f3 := hvq12a.frozen 3
    have f4 := hvq12a.frozen 4
    have f5 := hvq12a.frozen 5
    have f6 := hvq12a.frozen 6
    simp at z0 z1 z2 z3 z4 z5 z6
    have HS : Hid (∀ U, U = (((((((wq12a.setCell ⟨w2.heap.size, 0, none⟩ (.slice k1.a j.t.n k1.c)).setCell ⟨w2.heap.size, 1, none⟩ (.int .i64 j.t.now)).setCell ⟨w2.heap.size, 2, none⟩ (.int .i64 j.d.since)).setCell ⟨w2.heap.size, 3, none⟩ (.int .i64 j.d.date)).setCell ⟨w2.heap.size, 4, none⟩ (.slice k2.lA j.d.ln k2.lc)).setCell ⟨w2.heap.size, 5, none⟩ (.slice k2.iA j.d.m k2.ic)).setCell ⟨w2.heap.size, 6, none⟩ (.slice none 0 0)) → Jv w j l k1 k2 (w2.heap.size) U) := fun U e => by
      subst e
      have hk : ∀ b, b ≠ w2.heap.size → (((((((wq12a.setCell ⟨w2.heap.size, 0, none⟩ (.slice k1.a j.t.n k1.c)).setCell ⟨w2.heap.size, 1, none⟩ (.int .i64 j.t.now)).setCell ⟨w2.heap.size, 2, none⟩ (.int .i64 j.d.since)).setCell ⟨w2.heap.size, 3, none⟩ (.int .i64 j.d.date)).setCell ⟨w2.heap.size, 4, none⟩ (.slice k2.lA j.d.ln k2.lc)).setCell ⟨w2.heap.size, 5, none⟩ (.slice k2.iA j.d.m k2.ic)).setCell ⟨w2.heap.size, 6, none⟩ (.slice none 0 0)).heap[b]? = wq12a.heap[b]? := fun b hb => by
        refine (blk_setCell_other _ _ _ _ (show b ≠ _ from hb)).trans ((blk_setCell_other _ _ _ _ (show b ≠ _ from hb)).trans ((blk_setCell_other _ _ _ _ (show b ≠ _ from hb)).trans ((blk_setCell_other _ _ _ _ (show b ≠ _ from hb)).trans ((blk_setCell_other _ _ _ _ (show b ≠ _ from hb)).trans ((blk_setCell_other _ _ _ _ (show b ≠ _ from hb)).trans (blk_setCell_other _ _ _ _ (show b ≠ _ from hb)))))))
      exact ⟨⟨(H2.out.below hBq12a).p.of_block (hk _ (by have := hVq1b; omega)), (H2.out.below hBq12a).r.of_block (hk _ (by have := hVq1b; omega)), H2.out.bel.trans ((bel_put (bel_put (bel_put (bel_put (bel_put (bel_put (bel_put hBq12a _ hVq1b) _ hVq1b) _ hVq1b) _ hVq1b) _ hVq1b) _ hVq1b) _ hVq1b).mono H2.out.bel.size)⟩, (((((((hvq12a.set 0 _).set 1 _).set 2 _).set 3 _).set 4 _).set 5 _).set 6 _), by have := hVq1b; omega, (htq12a.keep fun b e => hk b (fun e' => htvq11a (e' ▸ e))).lower hs2, (holq12a.keep fun b e => hk b (fun e' => hdvq12a (e' ▸ e))).lower hs2, htdq12a, htvq11a, hdvq12a⟩
    show Oper.wp _ _ _ _ _ _
    go_simp
    generalize hV : w2.heap.size = V
    exact NoPanic.normal (KEY.out k1 k2 V _ (by rw [← hV]; exact HS.out _ rfl))
  · intro k1 k2 V w3 hG
    have HJV : Hid (Jv w j l k1 k2 V w3) := hG
    have hs3 : w.heap.size + 2 ≤ w3.heap.size := by have h1 := hG.v.lt; have h2 := hG.vl; omega
    have hVw := hG.vl
    have HG : Hid (GV w3 V 6 38 (jcs j k1 k2) 0 none 0 (fun _ => ndZero) (fun _ => ⟨none, 0, none, 0⟩) w3) := GV.start hG.v _ _
    clear hG HSt H2
    go_wp2_with fail
    go_loopw [4] (fun i wr => ∃ (k : Nat) (b : Option Addr) (bc : Nat) (E : Nat → Nd) (M : Nat → Loc), k ≤ j.q ∧ i = .int .i64 k ∧ GV w3 V 6 38 (jcs j k1 k2) k b bc E M wr ∧ ∀ i, i < k → E i = j.e i) (fun i _ => j.q - (intOf i).toNat)
    case atStart => exact ⟨0, none, 0, _, _, Nat.zero_le _, rfl, HG.out, fun i hi => absurd hi (Nat.not_lt_zero _)⟩
    case round =>
      obtain ⟨k, b, bc, E, M, hk, rfl, hin, hsel⟩ := hrel
      have HIN : Hid (GV w3 V 6 38 (jcs j k1 k2) k b bc E M wr ∧ ∀ i, i < k → E i = j.e i) := ⟨hin, hsel⟩
      have HT : Hid (Jc w j l wr) := HJV.out.c.of hin hVw
      have hsw : w3.heap.size ≤ wr.heap.size := hin.size
      clear hin hsel
      have p6 : wr.cell? ⟨w.heap.size, 6, none⟩ = some (.slice l.e j.q l.f) := HT.out.p.cell 6
      have v6 : wr.cell? ⟨V, 6, none⟩ = some (.slice b k bc) := HIN.out.1.v.cell 6
      by_cases hlt : k < j.q
      · have hlti : (k : Int) < (j.q : Int) := by omega
        obtain ⟨bT, oT, hT, hTl, hTc⟩ := (hJ.e.below (Nat.le_refl _) HT.out.bel).at hlt
        have HTA : Hid (l.e = some ⟨bT, oT, none⟩) := hT
        clear hT hTc
        go_wp2_with fail
        have HW : Hid (bT < w.heap.size ∧ ∀ W', Below wr.heap.size wr W' → (W'.cell? ⟨V, 6, none⟩ = some (.slice b k bc) ∧ W'.cell? ⟨w.heap.size, 6, none⟩ = some (.slice (some ⟨bT, oT, none⟩) j.q l.f) ∧ W'.cell? ⟨bT, oT + k * 5, none⟩ = some (.int .i64 (j.e k).kind) ∧ W'.cell? ⟨bT, oT + k * 5 + 1, none⟩ = some (.string (j.e k).text) ∧ W'.cell? ⟨bT, oT + k * 5 + 2, none⟩ = some (.slice (l.g k).nA (j.e k).nn (l.g k).nc) ∧ W'.cell? ⟨bT, oT + k * 5 + 3, none⟩ = some (.slice (l.g k).kA (j.e k).kn (l.g k).kc) ∧ W'.cell? ⟨bT, oT + k * 5 + 4, none⟩ = some (.int .i64 (j.e k).turn)) ∧ NdIn W' (j.e k) (l.g k)) := by
          show _ ∧ _
          obtain ⟨bI, oI, hQ, hbl, _⟩ := hJ.e.at hlt
          have hQT := HTA.out
          rw [hQ] at hQT
          obtain ⟨rfl, rfl⟩ : bI = bT ∧ oI = oT := by cases hQT; exact ⟨rfl, rfl⟩
          refine ⟨by omega, fun W' hW => ?_⟩
          have hcc : W'.cell? ⟨w.heap.size, 6, none⟩ = some (.slice l.e j.q l.f) := (HT.out.below hW).p.cell 6
          have hv3 : W'.cell? ⟨V, 6, none⟩ = some (.slice b k bc) := (HIN.out.1.below hW).v.cell 6
          obtain ⟨bI', oI', hQ', _, hc'⟩ := ((hJ.e.below (Nat.le_refl _) HT.out.bel).below (Nat.le_refl _) hW).at hlt
          obtain ⟨d1, d2, d3, d4, d5, d6⟩ := hc' k hlt
          rw [hQ] at hQ'
          cases hQ'
          refine ⟨⟨hv3, ?_, d1, d2, d3, d4, d5⟩, d6⟩
          rw [← hQ]
          exact hcc
        obtain ⟨hbIl, hSt⟩ := HW.out
        have HSt : Hid _ := hSt
        have hsm := hse k hlt
        unfold Nd.size at hsm
        clear p6 v6 hSt HW
        have hd5 : Below wr.heap.size wr wr.drew := below_drewN (Below.refl _ _) 1
        refine wp_region_noPanic ?_
        refine wp_region_peel2 (fun W' => W'.cell? ⟨V, 6, none⟩ = some (.slice b k bc) ∧ W'.cell? ⟨w.heap.size, 6, none⟩ = some (.slice (some ⟨bT, oT, none⟩) j.q l.f) ∧ W'.cell? ⟨bT, oT + k * 5, none⟩ = some (.int .i64 (j.e k).kind) ∧ W'.cell? ⟨bT, oT + k * 5 + 1, none⟩ = some (.string (j.e k).text) ∧ W'.cell? ⟨bT, oT + k * 5 + 2, none⟩ = some (.slice (l.g k).nA (j.e k).nn (l.g k).nc) ∧ W'.cell? ⟨bT, oT + k * 5 + 3, none⟩ = some (.slice (l.g k).kA (j.e k).kn (l.g k).kc) ∧ W'.cell? ⟨bT, oT + k * 5 + 4, none⟩ = some (.int .i64 (j.e k).turn)) _ _ (by kernel_rfl) rfl rfl (by kernel_rfl) (by kernel_rfl) ?_ (fun hHeld => ?_)
        · exact (HSt.out _ hd5).1
        simp only [List.pop_toArray, List.dropLast, List.size_toArray, List.length_cons, List.length_nil, Nat.reduceAdd, Nat.reduceSub, List.getElem_toArray, List.getElem_cons_succ, List.getElem_cons_zero]
        refine peel_take (i := 0) (oi := ?oi0y) (v := ?v0y) (fun _ _ _ _ _ h => h) hHeld ?hi0y (by kernel_rfl) (by kernel_rfl) (by kernel_rfl) ?hw0y ?hy0y ?rest0y
        case hi0y =>
          simp only [List.getElem?_toArray, List.getElem?_cons_zero]
          rfl
        case hw0y => rfl
        case hy0y =>
          intro w hSw
          obtain ⟨s0, s1, s2, s3, s4, s5, s6⟩ := hSw
          go_simp
          try with_reducible rfl
        try simp only [Act.put, List.setIfInBounds_toArray, List.set_cons_zero, List.set_cons_succ]
        refine peel_take (i := 1) (oi := ?oi1y) (v := ?v1y) (fun _ _ _ _ _ h => h) hHeld ?hi1y (by kernel_rfl) (by kernel_rfl) (by kernel_rfl) ?hw1y ?hy1y ?rest1y
        case hi1y =>
          simp only [List.getElem?_toArray, List.getElem?_cons_succ, List.getElem?_cons_zero]
          rfl
        case hw1y => rfl
        case hy1y =>
          intro w hSw
          obtain ⟨s0, s1, s2, s3, s4, s5, s6⟩ := hSw
          go_simp
          try with_reducible rfl
        try simp only [Act.put, List.setIfInBounds_toArray, List.set_cons_zero, List.set_cons_succ]
        refine peel_take (i := 2) (oi := ?oi2y) (v := ?v2y) (fun _ _ _ _ _ h => h) hHeld ?hi2y (by kernel_rfl) (by kernel_rfl) (by kernel_rfl) ?hw2y ?hy2y ?rest2y
        case hi2y =>
          simp only [List.getElem?_toArray, List.getElem?_cons_succ, List.getElem?_cons_zero]
          rfl
        case hw2y => rfl
        case hy2y =>
          intro w hSw
          obtain ⟨s0, s1, s2, s3, s4, s5, s6⟩ := hSw
          go_simp
          try with_reducible rfl
        try simp only [Act.put, List.setIfInBounds_toArray, List.set_cons_zero, List.set_cons_succ]
        refine peel_take (i := 3) (oi := ?oi3y) (v := ?v3y) (fun _ _ _ _ _ h => h) hHeld ?hi3y (by kernel_rfl) (by kernel_rfl) (by kernel_rfl) ?hw3y ?hy3y ?rest3y
        case hi3y =>
          simp only [List.getElem?_toArray, List.getElem?_cons_succ, List.getElem?_cons_zero]
          rfl
        case hw3y => rfl
        case hy3y =>
          intro w hSw
          obtain ⟨s0, s1, s2, s3, s4, s5, s6⟩ := hSw
          go_simp
          try with_reducible rfl
        try simp only [Act.put, List.setIfInBounds_toArray, List.set_cons_zero, List.set_cons_succ]
        refine peel_take (i := 4) (oi := ?oi4y) (v := ?v4y) (fun _ _ _ _ _ h => h) hHeld ?hi4y (by kernel_rfl) (by kernel_rfl) (by kernel_rfl) ?hw4y ?hy4y ?rest4y
        case hi4y =>
          simp only [List.getElem?_toArray, List.getElem?_cons_succ, List.getElem?_cons_zero]
          rfl
        case hw4y => rfl
        case hy4y =>
          intro w hSw
          obtain ⟨s0, s1, s2, s3, s4, s5, s6⟩ := hSw
          go_simp
          try with_reducible rfl
        try simp only [Act.put, List.setIfInBounds_toArray, List.set_cons_zero, List.set_cons_succ]
        refine peel_take (i := 5) (oi := ?oi5y) (v := ?v5y) (fun _ _ _ _ _ h => h) hHeld ?hi5y (by kernel_rfl) (by kernel_rfl) (by kernel_rfl) ?hw5y ?hy5y ?rest5y
        case hi5y =>
          simp only [List.getElem?_toArray, List.getElem?_cons_succ, List.getElem?_cons_zero]
          rfl
        case hw5y => rfl
        case hy5y =>
          intro w hSw
          obtain ⟨s0, s1, s2, s3, s4, s5, s6⟩ := hSw
          go_simp
          try with_reducible rfl
        try simp only [Act.put, List.setIfInBounds_toArray, List.set_cons_zero, List.set_cons_succ]
        refine peel_take (i := 6) (oi := ?oi6y) (v := ?v6y) (fun _ _ _ _ _ h => h) hHeld ?hi6y (by kernel_rfl) (by kernel_rfl) (by kernel_rfl) ?hw6y ?hy6y ?rest6y
        case hi6y =>
          simp only [List.getElem?_toArray, List.getElem?_cons_succ, List.getElem?_cons_zero]
          rfl
        case hw6y => rfl
        case hy6y =>
          intro w hSw
          obtain ⟨s0, s1, s2, s3, s4, s5, s6⟩ := hSw
          go_simp
          try with_reducible rfl
        try simp only [Act.put, List.setIfInBounds_toArray, List.set_cons_zero, List.set_cons_succ]
        refine wpAnyH_ready (rs := [7]) (by kernel_rfl) (by simp) ?_
        refine AllReadyH.cons (o := ?o7y) ?ho7y (fun K hK => ?st7y) AllReadyH.nil
        case ho7y =>
          simp only [List.getElem?_toArray, List.getElem?_cons_succ, List.getElem?_cons_zero]
          rfl
        go_simp
        refine (l2Copy_any (j.e k) (l.g k) wr.drew (HSt.out _ hd5).2 (by omega) (by omega)).mono ?_
        rintro e W6 ⟨l5, rfl, hN5⟩
        unfold ndV
        have hb6 : Below wr.heap.size wr W6 := hd5.trans hN5.bel
        refine hK.out _ _ (HSt.out W6 hb6).1 (fun hHeld => ?re7y)
        clear hK K
        try simp only [Act.put, List.setIfInBounds_toArray, List.set_cons_zero, List.set_cons_succ]
        refine wpAnyH_ready (rs := [8]) (by kernel_rfl) (by simp) ?_
        refine AllReadyH.cons (o := ?o8y) ?ho8y (fun K hK => ?st8y) AllReadyH.nil
        case ho8y =>
          simp only [List.getElem?_toArray, List.getElem?_cons_succ, List.getElem?_cons_zero]
          rfl
        go_simp
        have hb7 : Below wr.heap.size wr (W6.alloc (.cells #[.int .i64 (j.e k).kind, .string (j.e k).text, .slice l5.nA (j.e k).nn l5.nc, .slice l5.kA (j.e k).kn l5.kc, .int .i64 (j.e k).turn] 87)) := hb6.alloc hb6.size _
        refine hK.out _ _ (HSt.out _ hb7).1 (fun hHeld => ?re8y)
        clear hK K
        try simp only [Act.put, List.setIfInBounds_toArray, List.set_cons_zero, List.set_cons_succ]
        refine wpAnyH_ready (rs := [9]) (by kernel_rfl) (by simp) ?_
        refine AllReadyH.cons (o := ?o9y) ?ho9y (fun K hK => ?st9y) AllReadyH.nil
        case ho9y =>
          simp only [List.getElem?_toArray, List.getElem?_cons_succ, List.getElem?_cons_zero]
          rfl
        have hD6 := HIN.out.1.below hb7
        have hN6 := hN5.new.alloc (.cells #[.int .i64 (j.e k).kind, .string (j.e k).text, .slice l5.nA (j.e k).nn l5.nc, .slice l5.kA (j.e k).kn l5.kc, .int .i64 (j.e k).turn] 87)
        have hvl := HIN.out.1.vl
        have hneV : (Value.slice b k bc).ownBlock ≠ some V := fun e => by have := HIN.out.1.own _ e; omega
        have hbo5 : ∀ q, (Value.slice b k bc).ownBlock = some q → w3.heap.size ≤ q := fun q e => (HIN.out.1.own q e).1
        refine step_of (by rfl) (wp_append_src (.tmp 20) (.tmp 27) 31 rfl w3.heap.size 87 y0 (.agg #[.int .i64 0, .string ByteArray.empty, .slice none 0 0, .slice none 0 0, .int .i64 0]) 5 80 Tryz.underlying31 hy hy0 hy1 hy2 rfl (by decide) (.slice b k bc) k _ (by rfl) hD6.ot.ownI _ 1 _ (by rfl) (src_node W6 (j.e k) l5) (by unfold maxLen; omega) (by omega) (by have := hb7.size; have := HIN.out.1.size; omega) ?_)
        intro vI W7 hown hgrow hnil hat
        rcases hown.2 with ⟨_, h0⟩ | ⟨gI, cI, cur, hvI, _, _, _⟩
        · omega
        subst hvI
        have hbI : (Value.slice b k bc).ownBlock = some gI ∨ (W6.alloc (.cells #[.int .i64 (j.e k).kind, .string (j.e k).text, .slice l5.nA (j.e k).nn l5.nc, .slice l5.kA (j.e k).kn l5.kc, .int .i64 (j.e k).turn] 87)).heap.size ≤ gI := by
          rcases hat with e | e
          · exact Or.inl e.symm
          · right
            have e' : gI = (W6.alloc (.cells #[.int .i64 (j.e k).kind, .string (j.e k).text, .slice l5.nA (j.e k).nn l5.nc, .slice l5.kA (j.e k).kn l5.kc, .int .i64 (j.e k).turn] 87)).heap.size := by simpa [Value.ownBlock] using e
            omega
        have hV7 := blk_grownT hD6.v hgrow hneV
        have hHeld7 : W7.cell? ⟨V, 6, none⟩ = some (.slice b k bc) ∧ W7.cell? ⟨w.heap.size, 6, none⟩ = some (.slice (some ⟨bT, oT, none⟩) j.q l.f) ∧ W7.cell? ⟨bT, oT + k * 5, none⟩ = some (.int .i64 (j.e k).kind) ∧ W7.cell? ⟨bT, oT + k * 5 + 1, none⟩ = some (.string (j.e k).text) ∧ W7.cell? ⟨bT, oT + k * 5 + 2, none⟩ = some (.slice (l.g k).nA (j.e k).nn (l.g k).nc) ∧ W7.cell? ⟨bT, oT + k * 5 + 3, none⟩ = some (.slice (l.g k).kA (j.e k).kn (l.g k).kc) ∧ W7.cell? ⟨bT, oT + k * 5 + 4, none⟩ = some (.int .i64 (j.e k).turn) := by
          obtain ⟨e0, e1, e2, e3, e4, e5, e6⟩ := (HSt.out _ hb7).1
          have hlow : ∀ q o v, q < w3.heap.size → (W6.alloc (.cells #[.int .i64 (j.e k).kind, .string (j.e k).text, .slice l5.nA (j.e k).nn l5.nc, .slice l5.kA (j.e k).kn l5.kc, .int .i64 (j.e k).turn] 87)).cell? ⟨q, o, none⟩ = some v → W7.cell? ⟨q, o, none⟩ = some v := fun q o v hq h => hgrow.cell h (fun e => by have := hbo5 q e.symm; omega)
          exact ⟨hV7.cell 6, hlow _ _ _ (by omega) e1, hlow _ _ _ (by omega) e2, hlow _ _ _ (by omega) e3, hlow _ _ _ (by omega) e4, hlow _ _ _ (by omega) e5, hlow _ _ _ (by omega) e6⟩
        have H8 : Hid _ := (HIN.out.1.below hd5).item (f := 6) (fun _ _ => rfl) hN6 hgrow hown hbI
        refine hK.out _ _ hHeld7 (fun hHeld => ?re9y)
        clear hK K
        try simp only [Act.put, List.setIfInBounds_toArray, List.set_cons_zero, List.set_cons_succ]
        refine wpAnyH_done (by kernel_rfl) ?_ _
        show Oper.wp _ _ _ _ _ _
        have v07 : W7.cell? ⟨V, 6, none⟩ = some (.slice b k bc) := hV7.cell 6
        have f07 := hV7.frozen 6
        clear hown hgrow hnil hat hbI hV7 hHeld7 hN6 hD6 hN5 HSt hneV hHeld hd5 hb6 hb7 hsm hbo5
        go_simp
        show Oper.wp _ _ _ _ _ _
        go_simp
        refine NoPanic.normal ?_
        go_wp2_with fail
        go_roundw
        case rel => exact ⟨k + 1, some ⟨gI, 0, none⟩, cI, _, _, by omega, by go_num, H8.out, fun i hi => by
          by_cases e : i = k
          · subst e; simp
          · simp only [e, if_false]; exact HIN.out.2 i (by omega)⟩
        case measure => simp [intOf]; omega
      · obtain rfl : k = j.q := by omega
        have HOT : Hid (OwnJb wr (w.heap.size + 2) j ⟨k1, k2, b, bc, M⟩) := by
          have hE : OwnTr wr w3.heap.size j.dn ⟨b, bc, M⟩ := HIN.out.1.ot.ext fun i hi => ⟨(HIN.out.2 i hi).symm, rfl⟩
          have hEb : ∀ q, BkT j.dn ⟨b, bc, M⟩ q → w3.heap.size ≤ q := fun q e => (hE.blk e).1
          exact ⟨HJV.out.t.grown HIN.out.1.gr HJV.out.tv, HJV.out.d.grown HIN.out.1.gr HJV.out.dv, hE.lower hs3, HJV.out.td, fun q e1 e2 => by have h1 := (HJV.out.t.blk e1).2; have h2 := hEb q e2; omega, fun q e1 e2 => by have h1 := (HJV.out.d.blk e1).2; have h2 := hEb q e2; omega⟩
        have v0 : wr.cell? ⟨V, 0, none⟩ = some (.slice k1.a j.t.n k1.c) := HIN.out.1.v.cell 0
        have v1 : wr.cell? ⟨V, 1, none⟩ = some (.int .i64 j.t.now) := HIN.out.1.v.cell 1
        have v2 : wr.cell? ⟨V, 2, none⟩ = some (.int .i64 j.d.since) := HIN.out.1.v.cell 2
        have v3 : wr.cell? ⟨V, 3, none⟩ = some (.int .i64 j.d.date) := HIN.out.1.v.cell 3
        have v4 : wr.cell? ⟨V, 4, none⟩ = some (.slice k2.lA j.d.ln k2.lc) := HIN.out.1.v.cell 4
        have v5 : wr.cell? ⟨V, 5, none⟩ = some (.slice k2.iA j.d.m k2.ic) := HIN.out.1.v.cell 5
        have r0 : wr.cell? ⟨w.heap.size + 1, 0, none⟩ = some (.slice none 0 0) := HT.out.r.cell 0
        have r1 : wr.cell? ⟨w.heap.size + 1, 1, none⟩ = some (.int .i64 0) := HT.out.r.cell 1
        have r2 : wr.cell? ⟨w.heap.size + 1, 2, none⟩ = some (.int .i64 0) := HT.out.r.cell 2
        have r3 : wr.cell? ⟨w.heap.size + 1, 3, none⟩ = some (.int .i64 0) := HT.out.r.cell 3
        have r4 : wr.cell? ⟨w.heap.size + 1, 4, none⟩ = some (.slice none 0 0) := HT.out.r.cell 4
        have r5 : wr.cell? ⟨w.heap.size + 1, 5, none⟩ = some (.slice none 0 0) := HT.out.r.cell 5
        have r6 : wr.cell? ⟨w.heap.size + 1, 6, none⟩ = some (.slice none 0 0) := HT.out.r.cell 6
        have g0 := HT.out.r.frozen 0
        have g1 := HT.out.r.frozen 1
        have g2 := HT.out.r.frozen 2
        have g3 := HT.out.r.frozen 3
        have g4 := HT.out.r.frozen 4
        have g5 := HT.out.r.frozen 5
        have g6 := HT.out.r.frozen 6
        go_wp2_with fail
        refine end_world (F := fun U => Blk U (w.heap.size + 1) (jC j ⟨k1, k2, b, bc, M⟩) 38 ∧ Below w.heap.size w U ∧ OwnJb U (w.heap.size + 2) j ⟨k1, k2, b, bc, M⟩) ⟨((((((HT.out.r.set 0 _).set 1 _).set 2 _).set 3 _).set 4 _).set 5 _).set 6 _,
          bel_put (bel_put (bel_put (bel_put (bel_put (bel_put (bel_put HT.out.bel _ (by omega)) _ (by omega)) _ (by omega)) _ (by omega)) _ (by omega)) _ (by omega)) _ (by omega),
          ((((((HOT.out.put _ (by omega)).put _ (by omega)).put _ (by omega)).put _ (by omega)).put _ (by omega)).put _ (by omega)).put _ (by omega)⟩ ?_
        clear p6 v6 v0 v1 v2 v3 v4 v5 r0 r1 r2 r3 r4 r5 r6 g0 g1 g2 g3 g4 g5 g6
        rintro U ⟨hr, hB, hO⟩
        obtain ⟨r0, r1, r2, r3, r4, r5, r6⟩ := jC_cells hr
        exact bodyPost_ret (v := .agg #[.slice k1.a j.t.n k1.c, .int .i64 j.t.now, .int .i64 j.d.since, .int .i64 j.d.date, .slice k2.lA j.d.ln k2.lc, .slice k2.iA j.d.m k2.ic, .slice b j.q bc]) (by simp [results, Tryz.results44, go_sem, r0, r1, r2, r3, r4, r5, r6]) rfl ⟨⟨k1, k2, b, bc, M⟩, rfl, hB, hO.lower (by omega)⟩
end Go.Proofs.YtakifcobofkheaaGreatDoor

/-
  What JobNew of the specification answers.
-/
namespace Go.Proofs.YtakifcobofkheaaGreatDoor
open Go.RowKit Go.Deep
set_option linter.unusedVariables false
set_option linter.unusedSimpArgs false
set_option linter.unnecessarySimpa false

/-- A job and a code, in new memory. -/
def JPost (w : World) (j : Jb) (z : Int) (e : Ending) (w' : World) : Prop := Below w.heap.size w w' ∧ ∃ l, e = .returned (.tuple #[jV j l, .int .i64 z]) ∧ OwnJb w' w.heap.size j l
/-- A job. -/
def JPost1 (w : World) (j : Jb) (e : Ending) (w' : World) : Prop := Below w.heap.size w w' ∧ ∃ l, e = .returned (jV j l) ∧ OwnJb w' w.heap.size j l

theorem ownJb_none (W : World) (B : Nat) : OwnJb W B jbNone ⟨⟨none, 0, fun _ => ⟨none, 0, none, 0⟩⟩, ⟨none, 0, none, 0, fun _ => ⟨none, 0, none, 0⟩⟩, none, 0, fun _ => ⟨none, 0, none, 0⟩⟩ := by
  have hT : ∀ b, ¬ BkT trNone ⟨none, 0, fun _ => ⟨none, 0, none, 0⟩⟩ b := by
    rintro b ⟨d, hd, e⟩
    have : d = 0 ∨ d = 1 := by unfold trNone at hd; simp only at hd; omega
    rcases this with rfl | rfl <;> simp [valT, Value.ownBlock] at e
  refine ⟨OT.start _ _ _ _ _ _, OD.start _ _ _ _ _ _, OT.start _ _ _ _ _ _, fun b h1 => absurd h1 (hT b), fun b h1 => absurd h1 (hT b), fun b _ h2 => hT b h2⟩

theorem blk7 {W : World} {b : Nat} {ty : TypeId} {u0 u1 u2 u3 u4 u5 u6 : Value} (h : Blk W b #[u0, u1, u2, u3, u4, u5, u6] ty) (v0 v1 v2 v3 v4 v5 v6 : Value) : Blk (((((((W.setCell ⟨b, 0, none⟩ v0).setCell ⟨b, 1, none⟩ v1).setCell ⟨b, 2, none⟩ v2).setCell ⟨b, 3, none⟩ v3).setCell ⟨b, 4, none⟩ v4).setCell ⟨b, 5, none⟩ v5).setCell ⟨b, 6, none⟩ v6) b #[v0, v1, v2, v3, v4, v5, v6] ty := by
  have h0 : Blk _ b #[v0, u1, u2, u3, u4, u5, u6] ty := h.set 0 v0
  have h1 : Blk _ b #[v0, v1, u2, u3, u4, u5, u6] ty := h0.set 1 v1
  have h2 : Blk _ b #[v0, v1, v2, u3, u4, u5, u6] ty := h1.set 2 v2
  have h3 : Blk _ b #[v0, v1, v2, v3, u4, u5, u6] ty := h2.set 3 v3
  have h4 : Blk _ b #[v0, v1, v2, v3, v4, u5, u6] ty := h3.set 4 v4
  have h5 : Blk _ b #[v0, v1, v2, v3, v4, v5, u6] ty := h4.set 5 v5
  have h6 : Blk _ b #[v0, v1, v2, v3, v4, v5, v6] ty := h5.set 6 v6
  exact h6
theorem bel7 {W w : World} {B b : Nat} (h : Below B w W) (hb : B ≤ b) (v0 v1 v2 v3 v4 v5 v6 : Value) : Below B w (((((((W.setCell ⟨b, 0, none⟩ v0).setCell ⟨b, 1, none⟩ v1).setCell ⟨b, 2, none⟩ v2).setCell ⟨b, 3, none⟩ v3).setCell ⟨b, 4, none⟩ v4).setCell ⟨b, 5, none⟩ v5).setCell ⟨b, 6, none⟩ v6) := bel_put (bel_put (bel_put (bel_put (bel_put (bel_put (bel_put h _ hb) _ hb) _ hb) _ hb) _ hb) _ hb) _ hb
theorem jb7 {W : World} {B b : Nat} {j : Jb} {l : JLoc} (h : OwnJb W B j l) (hb : b < B) (v0 v1 v2 v3 v4 v5 v6 : Value) : OwnJb (((((((W.setCell ⟨b, 0, none⟩ v0).setCell ⟨b, 1, none⟩ v1).setCell ⟨b, 2, none⟩ v2).setCell ⟨b, 3, none⟩ v3).setCell ⟨b, 4, none⟩ v4).setCell ⟨b, 5, none⟩ v5).setCell ⟨b, 6, none⟩ v6) B j l := ((((((h.put v0 hb).put v1 hb).put v2 hb).put v3 hb).put v4 hb).put v5 hb).put v6 hb

/-- The boxes of JobNew's. -/
structure Jn (w : World) (t : Tr) (l : TLoc) (d : Dp) (k : DLoc) (W : World) : Prop where
  p : Blk W w.heap.size (tC t l) 33
  q : Blk W (w.heap.size + 1) (pC d k) 36
  r : Blk W (w.heap.size + 1 + 1) #[.slice none 0 0, .int .i64 0, .int .i64 0, .int .i64 0, .slice none 0 0, .slice none 0 0, .slice none 0 0] 38
  bel : Below w.heap.size w W

theorem Jn.below {w : World} {t : Tr} {l : TLoc} {d : Dp} {k : DLoc} {W W' : World} (h : Jn w t l d k W) (hb : Below W.heap.size W W') : Jn w t l d k W' := ⟨h.p.below hb h.p.lt, h.q.below hb h.q.lt, h.r.below hb h.r.lt, h.bel.trans (hb.mono h.bel.size)⟩

theorem l9From_any (t : Tr) (l : TLoc) (d : Dp) (k : DLoc) (w : World) :
    Calls Tryz.prog 45 #[tV t l, dpV d k] w fun e w' => Below w.heap.size w w' ∧ e = .returned (if d.since = 0 then tV trNone ⟨none, 0, l.L⟩ else tV t l) := by
  unfold tV dpV trNone
  by_cases hsi : d.since = 0
  · rw [if_pos hsi]
    have hb1 : (d.since == 0) = true := by simp [hsi]
    clear hsi
    go_enter Tryz.func45, Tryz.ntmps45
    go_wp2_with fail
    refine end_world (F := fun U => Blk U (w.heap.size + 1 + 1) #[.slice none 0 0, .int .i64 0] 33 ∧ Below w.heap.size w U) ?_ ?_
    · obtain ⟨h0, h1, h2, hb, _⟩ := new3 w (tC t l) 33 (pC d k) 36 #[.slice none 0 0, .int .i64 0] 33
      exact ⟨h2, hb⟩
    rintro U ⟨hr, hB⟩
    have e0 : U.cell? ⟨w.heap.size + 1 + 1, 0, none⟩ = some (.slice none 0 0) := hr.cell 0
    have e1 : U.cell? ⟨w.heap.size + 1 + 1, 1, none⟩ = some (.int .i64 0) := hr.cell 1
    exact bodyPost_ret (v := .agg #[.slice none 0 0, .int .i64 0]) (by simp [results, Tryz.results45, go_sem, e0, e1]) rfl ⟨hB, rfl⟩
    -- exact (((Below.refl _ _).alloc (Nat.le_refl _) _).alloc (by simp) _).alloc (by simp; omega) _
  · rw [if_neg hsi]
    have hb1 : (d.since == 0) = false := by simp [hsi]
    clear hsi
    go_enter Tryz.func45, Tryz.ntmps45
    go_wp2_with fail
    refine end_world (F := fun U => Blk U (w.heap.size + 1 + 1) #[.slice l.a t.n l.c, .int .i64 t.now] 33 ∧ Below w.heap.size w U) ?_ ?_
    · obtain ⟨h0, h1, h2, hb, _⟩ := new3 w (tC t l) 33 (pC d k) 36 #[.slice l.a t.n l.c, .int .i64 t.now] 33
      exact ⟨h2, hb⟩
    rintro U ⟨hr, hB⟩
    have e0 : U.cell? ⟨w.heap.size + 1 + 1, 0, none⟩ = some (.slice l.a t.n l.c) := hr.cell 0
    have e1 : U.cell? ⟨w.heap.size + 1 + 1, 1, none⟩ = some (.int .i64 t.now) := hr.cell 1
    exact bodyPost_ret (v := .agg #[.slice l.a t.n l.c, .int .i64 t.now]) (by simp [results, Tryz.results45, go_sem, e0, e1]) rfl ⟨hB, rfl⟩
    -- exact (((Below.refl _ _).alloc (Nat.le_refl _) _).alloc (by simp) _).alloc (by simp; omega) _

set_option maxRecDepth 100000 in
set_option maxHeartbeats 8000000 in
theorem specJobNew_any (t : Tr) (l : TLoc) (d : Dp) (k : DLoc) (w : World) (hT : TIn w t l) (hD : DpIn w d k) (ft : t.Fits) (fd : d.Fits) (hs : t.size + d.size ≤ 1048576) :
    Calls Tryz.prog 11 #[tV t l, dpV d k] w (JPost w (newAns t d) (backCode t.n t.D t.now d)) := by
  unfold tV dpV
  go_enter Tryz.func11, Tryz.ntmps11
  go_wp2_with fail
  refine at_world (F := fun W => Jn w t l d k W ∧ w.heap.size + 3 ≤ W.heap.size) ?_ ?_
  · obtain ⟨h0, h1, h2, hb, _⟩ := new3 w (tC t l) 33 (pC d k) 36 #[.slice none 0 0, .int .i64 0, .int .i64 0, .int .i64 0, .slice none 0 0, .slice none 0 0, .slice none 0 0] 38
    exact ⟨⟨h0, h1, h2, hb⟩, by simp⟩
  rintro W ⟨hO, hsW⟩
  refine (specBackOne_law t l d k W (hT.below (Nat.le_refl _) hO.bel) (hD.below (Nat.le_refl _) hO.bel) ft fd hs).mono ?_
  intro e w1 hpost
  obtain ⟨hb1, lr, rfl, hown⟩ := back_out t d hpost
  unfold tV
  have H1 : Hid (Jn w t l d k w1) := hO.below hb1
  have hs1 : w.heap.size + 3 ≤ w1.heap.size := by have := hb1.size; omega
  have HX : Hid (TIn w1 (backTr t d) lr) := hown.tIn
  clear hb1 hO hsW hpost hown
  have n0 : w.heap.size < w1.heap.size := by omega
  have m0 : w.heap.size ≠ w1.heap.size := by omega
  have n1 : w.heap.size + 1 < w1.heap.size := by omega
  have m1 : w.heap.size + 1 ≠ w1.heap.size := by omega
  have n2 : w.heap.size + 1 + 1 < w1.heap.size := by omega
  have m2 : w.heap.size + 1 + 1 ≠ w1.heap.size := by omega
  obtain ⟨p0, p1⟩ := tC_cells H1.out.p
  obtain ⟨q0, q1, q2, q3⟩ := pC_cells H1.out.q
  have r0 : w1.cell? ⟨w.heap.size + 1 + 1, 0, none⟩ = some (.slice none 0 0) := H1.out.r.cell 0
  have r1 : w1.cell? ⟨w.heap.size + 1 + 1, 1, none⟩ = some (.int .i64 0) := H1.out.r.cell 1
  have r2 : w1.cell? ⟨w.heap.size + 1 + 1, 2, none⟩ = some (.int .i64 0) := H1.out.r.cell 2
  have r3 : w1.cell? ⟨w.heap.size + 1 + 1, 3, none⟩ = some (.int .i64 0) := H1.out.r.cell 3
  have r4 : w1.cell? ⟨w.heap.size + 1 + 1, 4, none⟩ = some (.slice none 0 0) := H1.out.r.cell 4
  have r5 : w1.cell? ⟨w.heap.size + 1 + 1, 5, none⟩ = some (.slice none 0 0) := H1.out.r.cell 5
  have r6 : w1.cell? ⟨w.heap.size + 1 + 1, 6, none⟩ = some (.slice none 0 0) := H1.out.r.cell 6
  have g0 := H1.out.r.frozen 0
  have g1 := H1.out.r.frozen 1
  have g2 := H1.out.r.frozen 2
  have g3 := H1.out.r.frozen 3
  have g4 := H1.out.r.frozen 4
  have g5 := H1.out.r.frozen 5
  have g6 := H1.out.r.frozen 6
  by_cases hz : backCode t.n t.D t.now d = 0
  · have hzb : (backCode t.n t.D t.now d != 0) = false := by simp [hz]
    have HZ : Hid (backCode t.n t.D t.now d = 0) := hz
    have HTR : Hid (backTr t d = ⟨d.ln, oneD (fromN t.n d) t.D d, d.date⟩) := by show _ = _; unfold backTr; rw [if_pos hz]
    have HSMT : Hid (SmTr (backTr t d)) := back_small t d ft fd hs
    clear hz
    have HT1 : Hid (tV (backTr t d) lr = tV (backTr t d) lr) := rfl
    have HJ2 : Hid (∀ U, U = w1.alloc (.cells #[.slice lr.a (backTr t d).n lr.c, .int .i64 (backTr t d).now] 33) → Jn w t l d k U ∧ TIn U (backTr t d) lr ∧ w.heap.size + 3 ≤ U.heap.size) := fun U e => by
      have hb : Below w1.heap.size w1 U := by rw [e]; exact (Below.refl _ _).alloc (Nat.le_refl _) _
      exact ⟨H1.out.below hb, HX.out.below (Nat.le_refl _) hb, Nat.le_trans hs1 hb.size⟩
    go_wp2_with fail
    refine at_world (F := fun U => Jn w t l d k U ∧ TIn U (backTr t d) lr ∧ w.heap.size + 3 ≤ U.heap.size) (HJ2.out _ rfl) ?_
    clear HJ2 n0 n1 n2 m0 m1 m2 p0 p1 q0 q1 q2 q3 r0 r1 r2 r3 r4 r5 r6 g0 g1 g2 g3 g4 g5 g6 H1 hs1 HX HT1
    rintro W2 ⟨hj2, hx2, hs2⟩
    refine (specTreeOk_any lr.a (backTr t d).n lr.c (backTr t d).now (backTr t d).D lr.L W2 hx2 HSMT.out.fits.nds HSMT.out.fits.n (by have := HSMT.out.size; unfold Tr.size at this; omega)).mono ?_
    rintro e w3 ⟨hb3, r, rfl, hr⟩
    obtain rfl : r = true := hr.2 (by rw [HTR.out]; exact (code_zero HZ.out).2.2.2)
    have H3 : Hid (Jn w t l d k w3) := hj2.below hb3
    have hs3 : w.heap.size + 3 ≤ w3.heap.size := by have := hb3.size; omega
    clear hj2 hx2 hs2 hb3 hr
    obtain ⟨hok, hsn, _, hgd⟩ := code_zero HZ.out
    have HOK : Hid (d.ok = true ∧ (newJb t d).t.n ≤ 10 ∧ (newJb t d).t.size ≤ 1048576) := by
      have hsi := ok_since hok
      refine ⟨hok, ?_, ?_⟩
      · unfold newJb
        by_cases e : d.since = 0
        · rw [if_pos e]; show (0 : Nat) ≤ 10; omega
        · rw [if_neg e]; exact (hsn (by omega)).1.few
      · unfold newJb
        by_cases e : d.since = 0
        · rw [if_pos e]; exact trNone_small.size
        · rw [if_neg e]; show t.size ≤ _; omega
    have HA : Hid (newAns t d = newJb t d) := by show _ = _; unfold newAns; rw [if_pos HZ.out]
    clear hok hsn hgd
    have HSt : Hid (∀ W', Below w3.heap.size w3 W' → W'.cell? ⟨w.heap.size, 0, none⟩ = some (.slice l.a t.n l.c) ∧ W'.cell? ⟨w.heap.size, 1, none⟩ = some (.int .i64 t.now) ∧ W'.cell? ⟨w.heap.size + 1, 0, none⟩ = some (.int .i64 d.since) ∧ W'.cell? ⟨w.heap.size + 1, 1, none⟩ = some (.int .i64 d.date) ∧ W'.cell? ⟨w.heap.size + 1, 2, none⟩ = some (.slice k.lA d.ln k.lc) ∧ W'.cell? ⟨w.heap.size + 1, 3, none⟩ = some (.slice k.iA d.m k.ic)) := fun W' hW => by
      have h := H3.out.below hW
      obtain ⟨p0, p1⟩ := tC_cells h.p
      obtain ⟨q0, q1, q2, q3⟩ := pC_cells h.q
      exact ⟨p0, p1, q0, q1, q2, q3⟩
    go_wp2_with fail
    refine wp_region_noPanic ?_
    have hB0 : Below w3.heap.size w3 w3.drew := (Below.refl _ _).drew
    refine wp_region_peel2 (fun W' => W'.cell? ⟨w.heap.size, 0, none⟩ = some (.slice l.a t.n l.c) ∧ W'.cell? ⟨w.heap.size, 1, none⟩ = some (.int .i64 t.now) ∧ W'.cell? ⟨w.heap.size + 1, 0, none⟩ = some (.int .i64 d.since) ∧ W'.cell? ⟨w.heap.size + 1, 1, none⟩ = some (.int .i64 d.date) ∧ W'.cell? ⟨w.heap.size + 1, 2, none⟩ = some (.slice k.lA d.ln k.lc) ∧ W'.cell? ⟨w.heap.size + 1, 3, none⟩ = some (.slice k.iA d.m k.ic)) _ _ (by kernel_rfl) rfl rfl (by kernel_rfl) (by kernel_rfl) ?_ (fun hHeld => ?_)
    · exact HSt.out _ hB0
    simp only [List.pop_toArray, List.dropLast, List.size_toArray, List.length_cons, List.length_nil, Nat.reduceAdd, Nat.reduceSub, List.getElem_toArray, List.getElem_cons_succ, List.getElem_cons_zero]
    refine peel_take (i := 0) (oi := ?oi0a) (v := ?v0a) (fun _ _ _ _ _ h => h) hHeld ?hi0a (by kernel_rfl) (by kernel_rfl) (by kernel_rfl) ?hw0a ?hy0a ?rest0a
    case hi0a =>
      simp only [List.getElem?_toArray, List.getElem?_cons_zero]
      rfl
    case hw0a => rfl
    case hy0a =>
      intro w hSw
      obtain ⟨s0, s1, s2, s3, s4, s5⟩ := hSw
      go_simp
      try with_reducible rfl
    try simp only [Act.put, List.setIfInBounds_toArray, List.set_cons_zero, List.set_cons_succ]
    refine peel_take (i := 1) (oi := ?oi1a) (v := ?v1a) (fun _ _ _ _ _ h => h) hHeld ?hi1a (by kernel_rfl) (by kernel_rfl) (by kernel_rfl) ?hw1a ?hy1a ?rest1a
    case hi1a =>
      simp only [List.getElem?_toArray, List.getElem?_cons_succ, List.getElem?_cons_zero]
      rfl
    case hw1a => rfl
    case hy1a =>
      intro w hSw
      obtain ⟨s0, s1, s2, s3, s4, s5⟩ := hSw
      go_simp
      try with_reducible rfl
    try simp only [Act.put, List.setIfInBounds_toArray, List.set_cons_zero, List.set_cons_succ]
    refine peel_take (i := 3) (oi := ?oi3a) (v := ?v3a) (fun _ _ _ _ _ h => h) hHeld ?hi3a (by kernel_rfl) (by kernel_rfl) (by kernel_rfl) ?hw3a ?hy3a ?rest3a
    case hi3a =>
      simp only [List.getElem?_toArray, List.getElem?_cons_succ, List.getElem?_cons_zero]
      rfl
    case hw3a => rfl
    case hy3a =>
      intro w hSw
      obtain ⟨s0, s1, s2, s3, s4, s5⟩ := hSw
      go_simp
      try with_reducible rfl
    try simp only [Act.put, List.setIfInBounds_toArray, List.set_cons_zero, List.set_cons_succ]
    refine wpAnyH_ready (rs := [2]) (by kernel_rfl) (by simp) ?_
    refine AllReadyH.cons (o := ?o2a) ?ho2a (fun K hK => ?st2a) AllReadyH.nil
    case ho2a =>
      simp only [List.getElem?_toArray, List.getElem?_cons_succ, List.getElem?_cons_zero]
      rfl
    go_simp
    refine (l9From_any t l d k _).mono ?_
    rintro e w4 ⟨hb4, rfl⟩
    have hB4 : Below w3.heap.size w3 w4 := hB0.trans (hb4.mono hB0.size)
    clear hb4
    refine hK.out _ _ (HSt.out _ hB4) (fun hHeld => ?_)
    clear hK K
    try simp only [Act.put, List.setIfInBounds_toArray, List.set_cons_zero, List.set_cons_succ]
    refine wpAnyH_ready (rs := [4]) (by kernel_rfl) (by simp) ?_
    refine AllReadyH.cons (o := ?o4b) ?ho4b (fun K hK => ?st4b) AllReadyH.nil
    case ho4b =>
      simp only [List.getElem?_toArray, List.getElem?_cons_succ, List.getElem?_cons_zero]
      rfl
    have HV : Hid (∃ lf : TLoc, (if d.since = 0 then tV trNone ⟨none, 0, l.L⟩ else tV t l) = .agg #[.slice lf.a (newJb t d).t.n lf.c, .int .i64 (newJb t d).t.now] ∧ JIn w4 (newJb t d) ⟨lf, k, none, 0, fun _ => ⟨none, 0, none, 0⟩⟩) := by
      have hD4 := (hD.below (Nat.le_refl _) H3.out.bel).below (Nat.le_refl _) hB4
      have hT4 := (hT.below (Nat.le_refl _) H3.out.bel).below (Nat.le_refl _) hB4
      by_cases e : d.since = 0
      · refine ⟨⟨none, 0, l.L⟩, ?_, ?_⟩
        · rw [if_pos e]; unfold newJb; rw [if_pos e]; rfl
        · refine ⟨?_, hD4, Or.inl rfl⟩
          unfold newJb; rw [if_pos e]; exact Or.inl rfl
      · refine ⟨l, ?_, ?_⟩
        · rw [if_neg e]; unfold newJb; rw [if_neg e]; rfl
        · refine ⟨?_, hD4, Or.inl rfl⟩
          unfold newJb; rw [if_neg e]; exact hT4
    obtain ⟨lf, hlf, hJI⟩ := HV.out
    rw [hlf]
    have HJI : Hid _ := hJI
    clear hlf hJI HV
    go_simp
    refine hK.out _ _ (HSt.out _ hB4) (fun hHeld => ?_)
    clear hK K
    try simp only [Act.put, List.setIfInBounds_toArray, List.set_cons_zero, List.set_cons_succ]
    refine wpAnyH_ready (rs := [5]) (by kernel_rfl) (by simp) ?_
    refine AllReadyH.cons (o := ?o5c) ?ho5c (fun K hK => ?st5c) AllReadyH.nil
    case ho5c =>
      simp only [List.getElem?_toArray, List.getElem?_cons_succ, List.getElem?_cons_zero]
      rfl
    go_simp
    refine (l9Copy_any (newJb t d) ⟨lf, k, none, 0, fun _ => ⟨none, 0, none, 0⟩⟩ w4 HJI.out HOK.out.1 HOK.out.2.1 (by unfold newJb; simp) HOK.out.2.2 (by show d.size ≤ _; omega) (fun i hi => absurd hi (Nat.not_lt_zero _))).mono ?_
    rintro e w5 ⟨lj, rfl, hb5, hown⟩
    unfold jV
    have hB5 : Below w3.heap.size w3 w5 := hB4.trans (hb5.mono hB4.size)
    have HJ : Hid (Jn w t l d k w5 ∧ OwnJb w5 (w.heap.size + 3) (newJb t d) lj) := ⟨H3.out.below hB5, hown.lower (by have := hB4.size; omega)⟩
    clear hb5 hown
    refine hK.out _ _ (HSt.out _ hB5) (fun hHeld => ?_)
    clear hK K
    try simp only [Act.put, List.setIfInBounds_toArray, List.set_cons_zero, List.set_cons_succ]
    refine wpAnyH_done (by kernel_rfl) ?_ _
    show Oper.wp _ _ _ _ _ _
    have r0 : w5.cell? ⟨w.heap.size + 1 + 1, 0, none⟩ = some (.slice none 0 0) := HJ.out.1.r.cell 0
    have r1 : w5.cell? ⟨w.heap.size + 1 + 1, 1, none⟩ = some (.int .i64 0) := HJ.out.1.r.cell 1
    have r2 : w5.cell? ⟨w.heap.size + 1 + 1, 2, none⟩ = some (.int .i64 0) := HJ.out.1.r.cell 2
    have r3 : w5.cell? ⟨w.heap.size + 1 + 1, 3, none⟩ = some (.int .i64 0) := HJ.out.1.r.cell 3
    have r4 : w5.cell? ⟨w.heap.size + 1 + 1, 4, none⟩ = some (.slice none 0 0) := HJ.out.1.r.cell 4
    have r5 : w5.cell? ⟨w.heap.size + 1 + 1, 5, none⟩ = some (.slice none 0 0) := HJ.out.1.r.cell 5
    have r6 : w5.cell? ⟨w.heap.size + 1 + 1, 6, none⟩ = some (.slice none 0 0) := HJ.out.1.r.cell 6
    have g0 := HJ.out.1.r.frozen 0
    have g1 := HJ.out.1.r.frozen 1
    have g2 := HJ.out.1.r.frozen 2
    have g3 := HJ.out.1.r.frozen 3
    have g4 := HJ.out.1.r.frozen 4
    have g5 := HJ.out.1.r.frozen 5
    have g6 := HJ.out.1.r.frozen 6
    have HE : Hid (∀ U, U = (((((((w5.setCell ⟨w.heap.size + 1 + 1, 0, none⟩ (.slice lj.t.a (newJb t d).t.n lj.t.c)).setCell ⟨w.heap.size + 1 + 1, 1, none⟩ (.int .i64 (newJb t d).t.now)).setCell ⟨w.heap.size + 1 + 1, 2, none⟩ (.int .i64 (newJb t d).d.since)).setCell ⟨w.heap.size + 1 + 1, 3, none⟩ (.int .i64 (newJb t d).d.date)).setCell ⟨w.heap.size + 1 + 1, 4, none⟩ (.slice lj.d.lA (newJb t d).d.ln lj.d.lc)).setCell ⟨w.heap.size + 1 + 1, 5, none⟩ (.slice lj.d.iA (newJb t d).d.m lj.d.ic)).setCell ⟨w.heap.size + 1 + 1, 6, none⟩ (.slice lj.e (newJb t d).q lj.f)) → Blk U (w.heap.size + 1 + 1) (jC (newJb t d) lj) 38 ∧ JPost w (newAns t d) (backCode t.n t.D t.now d) (.returned (.tuple #[jV (newJb t d) lj, .int .i64 0])) U) := fun U e => by
      subst e
      rw [HA.out, HZ.out]
      exact ⟨blk7 HJ.out.1.r _ _ _ _ _ _ _, bel7 HJ.out.1.bel (by omega) _ _ _ _ _ _ _, lj, rfl, (jb7 HJ.out.2 (by omega) _ _ _ _ _ _ _).lower (by omega)⟩
    clear HSt hHeld hB0 hB4 hB5 HJ
    go_simp
    show Oper.wp _ _ _ _ _ _
    go_simp
    refine NoPanic.normal ?_
    go_wp2_with fail
    refine end_world (F := fun U => Blk U (w.heap.size + 1 + 1) (jC (newJb t d) lj) 38 ∧ JPost w (newAns t d) (backCode t.n t.D t.now d) (.returned (.tuple #[jV (newJb t d) lj, .int .i64 0])) U) (HE.out _ rfl) ?_
    clear HE r0 r1 r2 r3 r4 r5 r6 g0 g1 g2 g3 g4 g5 g6
    rintro U ⟨hr, hE⟩
    obtain ⟨e0, e1, e2, e3, e4, e5, e6⟩ := jC_cells hr
    exact bodyPost_ret (v := .tuple #[jV (newJb t d) lj, .int .i64 0]) (by unfold jV; simp [results, Tryz.results11, go_sem, e0, e1, e2, e3, e4, e5, e6]) rfl hE
  · have hzb : (backCode t.n t.D t.now d != 0) = true := by simp [hz]
    have HA : Hid (newAns t d = jbNone) := by show _ = _; unfold newAns; rw [if_neg hz]
    clear hz
    have HE : Hid (∀ U, U = ((((((((w1.setCell ⟨w.heap.size + 1 + 1, 0, none⟩ (.slice none 0 0)).setCell ⟨w.heap.size + 1 + 1, 1, none⟩ (.int .i64 0)).setCell ⟨w.heap.size + 1 + 1, 2, none⟩ (.int .i64 0)).setCell ⟨w.heap.size + 1 + 1, 3, none⟩ (.int .i64 0)).setCell ⟨w.heap.size + 1 + 1, 4, none⟩ (.slice none 0 0)).setCell ⟨w.heap.size + 1 + 1, 5, none⟩ (.slice none 0 0)).setCell ⟨w.heap.size + 1 + 1, 6, none⟩ (.slice none 0 0)).alloc (.cells #[.slice lr.a (backTr t d).n lr.c, .int .i64 (backTr t d).now] 33)) → Blk U (w.heap.size + 1 + 1) #[.slice none 0 0, .int .i64 0, .int .i64 0, .int .i64 0, .slice none 0 0, .slice none 0 0, .slice none 0 0] 38 ∧ JPost w (newAns t d) (backCode t.n t.D t.now d) (.returned (.tuple #[.agg #[.slice none 0 0, .int .i64 0, .int .i64 0, .int .i64 0, .slice none 0 0, .slice none 0 0, .slice none 0 0], .int .i64 (backCode t.n t.D t.now d)])) U) := fun U e => by
      subst e
      rw [HA.out]
      exact ⟨(blk7 H1.out.r _ _ _ _ _ _ _).alloc _, (bel7 H1.out.bel (by omega) _ _ _ _ _ _ _).alloc (bel7 H1.out.bel (by omega) _ _ _ _ _ _ _).size _, _, rfl, ownJb_none _ _⟩
    go_wp2_with fail
    refine end_world (F := fun U => Blk U (w.heap.size + 1 + 1) #[.slice none 0 0, .int .i64 0, .int .i64 0, .int .i64 0, .slice none 0 0, .slice none 0 0, .slice none 0 0] 38 ∧ JPost w (newAns t d) (backCode t.n t.D t.now d) (.returned (.tuple #[.agg #[.slice none 0 0, .int .i64 0, .int .i64 0, .int .i64 0, .slice none 0 0, .slice none 0 0, .slice none 0 0], .int .i64 (backCode t.n t.D t.now d)])) U) (HE.out _ rfl) ?_
    clear HE
    rintro U ⟨hr, hE⟩
    have e0 : U.cell? ⟨w.heap.size + 1 + 1, 0, none⟩ = some (.slice none 0 0) := hr.cell 0
    have e1 : U.cell? ⟨w.heap.size + 1 + 1, 1, none⟩ = some (.int .i64 0) := hr.cell 1
    have e2 : U.cell? ⟨w.heap.size + 1 + 1, 2, none⟩ = some (.int .i64 0) := hr.cell 2
    have e3 : U.cell? ⟨w.heap.size + 1 + 1, 3, none⟩ = some (.int .i64 0) := hr.cell 3
    have e4 : U.cell? ⟨w.heap.size + 1 + 1, 4, none⟩ = some (.slice none 0 0) := hr.cell 4
    have e5 : U.cell? ⟨w.heap.size + 1 + 1, 5, none⟩ = some (.slice none 0 0) := hr.cell 5
    have e6 : U.cell? ⟨w.heap.size + 1 + 1, 6, none⟩ = some (.slice none 0 0) := hr.cell 6
    exact bodyPost_ret (v := .tuple #[.agg #[.slice none 0 0, .int .i64 0, .int .i64 0, .int .i64 0, .slice none 0 0, .slice none 0 0, .slice none 0 0], .int .i64 (backCode t.n t.D t.now d)]) (by simp [results, Tryz.results11, go_sem, e0, e1, e2, e3, e4, e5, e6]) rfl hE
end Go.Proofs.YtakifcobofkheaaGreatDoor

/-
  What l9Place of the specification answers: a place as it is brought back.
-/
namespace Go.Proofs.YtakifcobofkheaaGreatDoor
open Go.RowKit Go.Deep
set_option linter.unusedVariables false
set_option linter.unusedSimpArgs false
set_option linter.unnecessarySimpa false

theorem blk5 {W1 : World} {b : Nat} {ty : TypeId} {u0 u1 u2 u3 u4 : Value} (h : Blk W1 b #[u0, u1, u2, u3, u4] ty) (v0 v1 v2 v3 v4 : Value) : Blk (((((W1.setCell ⟨b, 0, none⟩ v0).setCell ⟨b, 1, none⟩ v1).setCell ⟨b, 2, none⟩ v2).setCell ⟨b, 3, none⟩ v3).setCell ⟨b, 4, none⟩ v4) b #[v0, v1, v2, v3, v4] ty := by
  have h0 : Blk _ b #[v0, u1, u2, u3, u4] ty := h.set 0 v0
  have h1 : Blk _ b #[v0, v1, u2, u3, u4] ty := h0.set 1 v1
  have h2 : Blk _ b #[v0, v1, v2, u3, u4] ty := h1.set 2 v2
  have h3 : Blk _ b #[v0, v1, v2, v3, u4] ty := h2.set 3 v3
  have h4 : Blk _ b #[v0, v1, v2, v3, v4] ty := h3.set 4 v4
  exact h4
theorem bel5 {W1 w : World} {B b : Nat} (h : Below B w W1) (hb : B ≤ b) (v0 v1 v2 v3 v4 : Value) : Below B w (((((W1.setCell ⟨b, 0, none⟩ v0).setCell ⟨b, 1, none⟩ v1).setCell ⟨b, 2, none⟩ v2).setCell ⟨b, 3, none⟩ v3).setCell ⟨b, 4, none⟩ v4) := bel_put (bel_put (bel_put (bel_put (bel_put h _ hb) _ hb) _ hb) _ hb) _ hb
theorem far5 (W1 : World) (b : Nat) (v0 v1 v2 v3 v4 : Value) {q : Nat} (hq : q ≠ b) : (((((W1.setCell ⟨b, 0, none⟩ v0).setCell ⟨b, 1, none⟩ v1).setCell ⟨b, 2, none⟩ v2).setCell ⟨b, 3, none⟩ v3).setCell ⟨b, 4, none⟩ v4).heap[q]? = W1.heap[q]? :=
  (blk_setCell_other _ _ _ _ (show q ≠ b from hq)).trans ((blk_setCell_other _ _ _ _ (show q ≠ b from hq)).trans ((blk_setCell_other _ _ _ _ (show q ≠ b from hq)).trans ((blk_setCell_other _ _ _ _ (show q ≠ b from hq)).trans (blk_setCell_other _ _ _ _ (show q ≠ b from hq)))))

/-- A new place, stored into a variable. -/
theorem NewNn.fin5 {w W W1 : World} {x : Nd} {l : Loc} (h : NewNn W x l W1) (hb : Below w.heap.size w W) {b : Nat} (hwb : w.heap.size ≤ b) (hbW : b < W.heap.size) (v0 v1 v2 v3 v4 : Value) : NewNn w x l (((((W1.setCell ⟨b, 0, none⟩ v0).setCell ⟨b, 1, none⟩ v1).setCell ⟨b, 2, none⟩ v2).setCell ⟨b, 3, none⟩ v3).setCell ⟨b, 4, none⟩ v4) :=
  ⟨bel5 (hb.trans (h.bel.mono hb.size)) hwb _ _ _ _ _, owns_same (owns_lower h.names hb.size) fun q e => far5 W1 b _ _ _ _ _ (by have := (owns_block h.names e).1; omega), owns_same (owns_lower h.kids hb.size) fun q e => far5 W1 b _ _ _ _ _ (by have := (owns_block h.kids e).1; omega), h.apart⟩
theorem NewNn.none5 {w W1 : World} (hb : Below w.heap.size w W1) {b : Nat} (hwb : w.heap.size ≤ b) (v0 v1 v2 v3 v4 : Value) : NewNn w ndZero ⟨none, 0, none, 0⟩ (((((W1.setCell ⟨b, 0, none⟩ v0).setCell ⟨b, 1, none⟩ v1).setCell ⟨b, 2, none⟩ v2).setCell ⟨b, 3, none⟩ v3).setCell ⟨b, 4, none⟩ v4) :=
  ⟨bel5 hb hwb _ _ _ _ _, World.ownsRow_nil _ _ _ _, World.ownsRow_nil _ _ _ _, fun q e => by simp [Value.ownBlock] at e⟩

/-- The boxes. -/
structure Jp (w : World) (j : Jb) (l : JLoc) (W : World) : Prop where
  p : Blk W w.heap.size (jC j l) 38
  r : Blk W (w.heap.size + 1) #[.int .i64 0, .string ByteArray.empty, .slice none 0 0, .slice none 0 0, .int .i64 0] 87
  bel : Below w.heap.size w W
  size : w.heap.size + 2 ≤ W.heap.size

theorem Jp.below {w : World} {j : Jb} {l : JLoc} {W W' : World} (h : Jp w j l W) (hb : Below W.heap.size W W') : Jp w j l W' := ⟨h.p.below hb h.p.lt, h.r.below hb h.r.lt, h.bel.trans (hb.mono h.bel.size), Nat.le_trans h.size hb.size⟩

/-- What it answers. -/
def PlacePost (w : World) (x : Nd) (e : Ending) (w' : World) : Prop := ∃ l b, e = .returned (.tuple #[ndV x l, .bool b]) ∧ NewNn w x l w'

set_option maxRecDepth 100000 in
set_option maxHeartbeats 8000000 in
theorem l9Place_any (j : Jb) (l : JLoc) (i : Nat) (w : World) (hJ : JIn w j l) (hok : j.d.ok = true) (fj : j.Fits) (hi : i < j.d.ln) (hn : j.t.n ≤ 10) (hs : j.t.size + j.d.size ≤ 1048576) :
    Calls Tryz.prog 60 #[jV j l, .int .i64 (i : Int)] w (PlacePost w (oneD j.t.n j.t.D j.d i)) := by
  have hln := (ok_head1 hok).2
  have htS := tr_small (show sizeTo j.t.D j.t.n ≤ 1048576 by unfold Tr.size at hs; omega)
  have htd := tr_small (show sizeTo j.d.nd j.d.m ≤ 1048576 by unfold Dp.size at hs; omega)
  unfold jV
  go_enter Tryz.func60, Tryz.ntmps60
  go_wp2_with fail
  refine at_world (F := Jp w j l) ?_ ?_
  · obtain ⟨h0, h1, hb, _⟩ := new2 w (jC j l) 38 #[.int .i64 0, .string ByteArray.empty, .slice none 0 0, .slice none 0 0, .int .i64 0] 87
    exact ⟨h0, h1, hb, by simp⟩
  rintro W hP
  refine (l6Item_any j.d l.d (i : Int) W (hJ.d.below (Nat.le_refl _) hP.bel) fj.d.m (ok_inj hok)).mono ?_
  rintro e w1 ⟨hb1, rfl⟩
  have HP : Hid (Jp w j l w1) := hP.below hb1
  clear hP hb1
  obtain ⟨p0, p1, p2, p3, p4, p5, p6⟩ := jC_cells HP.out.p
  have r0 : w1.cell? ⟨w.heap.size + 1, 0, none⟩ = some (.int .i64 0) := HP.out.r.cell 0
  have r1 : w1.cell? ⟨w.heap.size + 1, 1, none⟩ = some (.string ByteArray.empty) := HP.out.r.cell 1
  have r2 : w1.cell? ⟨w.heap.size + 1, 2, none⟩ = some (.slice none 0 0) := HP.out.r.cell 2
  have r3 : w1.cell? ⟨w.heap.size + 1, 3, none⟩ = some (.slice none 0 0) := HP.out.r.cell 3
  have r4 : w1.cell? ⟨w.heap.size + 1, 4, none⟩ = some (.int .i64 0) := HP.out.r.cell 4
  have g0 := HP.out.r.frozen 0
  have g1 := HP.out.r.frozen 1
  have g2 := HP.out.r.frozen 2
  have g3 := HP.out.r.frozen 3
  have g4 := HP.out.r.frozen 4
  generalize hz : ixI (ixOf j.d.ino j.d.m (i : Int)) = z
  have HZ : Hid _ := hz
  clear hz
  obtain ⟨bL, oL, hL, hLl, hLc⟩ := (hJ.d.live.below (Nat.le_refl _) HP.out.bel).at hi
  have hL0 := hLc i hi
  rw [hL] at p4
  have hli : (i : Int) < (j.d.ln : Int) := by omega
  clear hL hLc
  cases hlv : j.d.live i with
  | false =>
    have HO : Hid (oneD j.t.n j.t.D j.d i = ndZero) := by show _ = _; unfold oneD oneNd; rw [hlv]; rfl
    rw [hlv] at hL0
    clear hlv
    have HE : Hid (∀ U, U = (((((w1.setCell ⟨w.heap.size + 1, 0, none⟩ (.int .i64 0)).setCell ⟨w.heap.size + 1, 1, none⟩ (.string ByteArray.empty)).setCell ⟨w.heap.size + 1, 2, none⟩ (.slice none 0 0)).setCell ⟨w.heap.size + 1, 3, none⟩ (.slice none 0 0)).setCell ⟨w.heap.size + 1, 4, none⟩ (.int .i64 0)) → Blk U (w.heap.size + 1) #[.int .i64 0, .string ByteArray.empty, .slice none 0 0, .slice none 0 0, .int .i64 0] 87 ∧ PlacePost w (oneD j.t.n j.t.D j.d i) (.returned (.tuple #[.agg #[.int .i64 0, .string ByteArray.empty, .slice none 0 0, .slice none 0 0, .int .i64 0], .bool true])) U) := fun U e => by
      subst e
      rw [HO.out]
      exact ⟨blk5 HP.out.r _ _ _ _ _, ⟨none, 0, none, 0⟩, true, rfl, NewNn.none5 HP.out.bel (by omega) _ _ _ _ _⟩
    go_wp2_with fail
    refine end_world (F := fun U => Blk U (w.heap.size + 1) #[.int .i64 0, .string ByteArray.empty, .slice none 0 0, .slice none 0 0, .int .i64 0] 87 ∧ PlacePost w (oneD j.t.n j.t.D j.d i) (.returned (.tuple #[.agg #[.int .i64 0, .string ByteArray.empty, .slice none 0 0, .slice none 0 0, .int .i64 0], .bool true])) U) (HE.out _ rfl) ?_
    clear HE
    rintro U ⟨hr, hE⟩
    have e0 : U.cell? ⟨w.heap.size + 1, 0, none⟩ = some (.int .i64 0) := hr.cell 0
    have e1 : U.cell? ⟨w.heap.size + 1, 1, none⟩ = some (.string ByteArray.empty) := hr.cell 1
    have e2 : U.cell? ⟨w.heap.size + 1, 2, none⟩ = some (.slice none 0 0) := hr.cell 2
    have e3 : U.cell? ⟨w.heap.size + 1, 3, none⟩ = some (.slice none 0 0) := hr.cell 3
    have e4 : U.cell? ⟨w.heap.size + 1, 4, none⟩ = some (.int .i64 0) := hr.cell 4
    exact bodyPost_ret (v := .tuple #[.agg #[.int .i64 0, .string ByteArray.empty, .slice none 0 0, .slice none 0 0, .int .i64 0], .bool true]) (by simp [results, Tryz.results60, go_sem, e0, e1, e2, e3, e4]) rfl hE
  | true =>
    rw [hlv] at hL0
    cases hob : ixOf j.d.ino j.d.m (i : Int) with
    | some q =>
      have hz := HZ.out
      rw [hob] at hz
      subst hz
      have hq : q < j.d.m := (ixOf_some hob).1
      have HO : Hid (oneD j.t.n j.t.D j.d i = j.d.nd q) := by show _ = _; unfold oneD oneNd; rw [hlv, hob]; rfl
      have hz0 : (0 : Int) ≤ ixI (some q) := by show (0 : Int) ≤ (q : Int); omega
      have hqi : (q : Int) < (j.d.m : Int) := by omega
      clear hob hlv HZ
      simp only [ixI] at hz0 ⊢
      obtain ⟨bI, oI, hQ, hQl, hQc⟩ := (hJ.d.items.below (Nat.le_refl _) HP.out.bel).at hq
      obtain ⟨d0, d1, d2, d3, d4, d5, d6⟩ := hQc q hq
      have HN : Hid (NdIn w1 (j.d.nd q) (l.d.L q)) := d6
      rw [hQ] at p5
      clear hQ hQc d6
      have hsm := htd q hq
      go_wp2_with fail
      refine (l2Copy_any (j.d.nd q) (l.d.L q) w1 HN.out hsm.1 hsm.2.1).mono ?_
      rintro e W6 ⟨l5, rfl, hN5⟩
      unfold ndV
      have H6 : Hid (Jp w j l W6) := HP.out.below hN5.bel
      have HE : Hid (∀ U, U = (((((W6.setCell ⟨w.heap.size + 1, 0, none⟩ (.int .i64 (j.d.nd q).kind)).setCell ⟨w.heap.size + 1, 1, none⟩ (.string (j.d.nd q).text)).setCell ⟨w.heap.size + 1, 2, none⟩ (.slice l5.nA (j.d.nd q).nn l5.nc)).setCell ⟨w.heap.size + 1, 3, none⟩ (.slice l5.kA (j.d.nd q).kn l5.kc)).setCell ⟨w.heap.size + 1, 4, none⟩ (.int .i64 (j.d.nd q).turn)) → Blk U (w.heap.size + 1) #[.int .i64 (j.d.nd q).kind, .string (j.d.nd q).text, .slice l5.nA (j.d.nd q).nn l5.nc, .slice l5.kA (j.d.nd q).kn l5.kc, .int .i64 (j.d.nd q).turn] 87 ∧ PlacePost w (oneD j.t.n j.t.D j.d i) (.returned (.tuple #[.agg #[.int .i64 (j.d.nd q).kind, .string (j.d.nd q).text, .slice l5.nA (j.d.nd q).nn l5.nc, .slice l5.kA (j.d.nd q).kn l5.kc, .int .i64 (j.d.nd q).turn], .bool true])) U) := fun U e => by
        subst e
        rw [HO.out]
        exact ⟨blk5 H6.out.r _ _ _ _ _, l5, true, rfl, hN5.new.fin5 HP.out.bel (by omega) (by have := HP.out.size; omega) _ _ _ _ _⟩
      clear hN5 p0 p1 p2 p3 p4 p5 p6 r0 r1 r2 r3 r4 g0 g1 g2 g3 g4
      have r0 : W6.cell? ⟨w.heap.size + 1, 0, none⟩ = some (.int .i64 0) := H6.out.r.cell 0
      have r1 : W6.cell? ⟨w.heap.size + 1, 1, none⟩ = some (.string ByteArray.empty) := H6.out.r.cell 1
      have r2 : W6.cell? ⟨w.heap.size + 1, 2, none⟩ = some (.slice none 0 0) := H6.out.r.cell 2
      have r3 : W6.cell? ⟨w.heap.size + 1, 3, none⟩ = some (.slice none 0 0) := H6.out.r.cell 3
      have r4 : W6.cell? ⟨w.heap.size + 1, 4, none⟩ = some (.int .i64 0) := H6.out.r.cell 4
      have g0 := H6.out.r.frozen 0
      have g1 := H6.out.r.frozen 1
      have g2 := H6.out.r.frozen 2
      have g3 := H6.out.r.frozen 3
      have g4 := H6.out.r.frozen 4
      go_wp2_with fail
      refine end_world (F := fun U => Blk U (w.heap.size + 1) #[.int .i64 (j.d.nd q).kind, .string (j.d.nd q).text, .slice l5.nA (j.d.nd q).nn l5.nc, .slice l5.kA (j.d.nd q).kn l5.kc, .int .i64 (j.d.nd q).turn] 87 ∧ PlacePost w (oneD j.t.n j.t.D j.d i) (.returned (.tuple #[.agg #[.int .i64 (j.d.nd q).kind, .string (j.d.nd q).text, .slice l5.nA (j.d.nd q).nn l5.nc, .slice l5.kA (j.d.nd q).kn l5.kc, .int .i64 (j.d.nd q).turn], .bool true])) U) (HE.out _ rfl) ?_
      clear HE r0 r1 r2 r3 r4 g0 g1 g2 g3 g4
      rintro U ⟨hr, hE⟩
      have e0 : U.cell? ⟨w.heap.size + 1, 0, none⟩ = some (.int .i64 (j.d.nd q).kind) := hr.cell 0
      have e1 : U.cell? ⟨w.heap.size + 1, 1, none⟩ = some (.string (j.d.nd q).text) := hr.cell 1
      have e2 : U.cell? ⟨w.heap.size + 1, 2, none⟩ = some (.slice l5.nA (j.d.nd q).nn l5.nc) := hr.cell 2
      have e3 : U.cell? ⟨w.heap.size + 1, 3, none⟩ = some (.slice l5.kA (j.d.nd q).kn l5.kc) := hr.cell 3
      have e4 : U.cell? ⟨w.heap.size + 1, 4, none⟩ = some (.int .i64 (j.d.nd q).turn) := hr.cell 4
      exact bodyPost_ret (v := .tuple #[.agg #[.int .i64 (j.d.nd q).kind, .string (j.d.nd q).text, .slice l5.nA (j.d.nd q).nn l5.nc, .slice l5.kA (j.d.nd q).kn l5.kc, .int .i64 (j.d.nd q).turn], .bool true]) (by simp [results, Tryz.results60, go_sem, e0, e1, e2, e3, e4]) rfl hE
    | none =>
      have hz := HZ.out
      rw [hob] at hz
      subst hz
      have hz0 : decide ((0 : Int) ≤ ixI none) = false := by decide
      by_cases hkn : i < j.t.n ∧ (j.t.D i).kind ≠ 0
      · have HO : Hid (oneD j.t.n j.t.D j.d i = j.t.D i) := by show _ = _; unfold oneD oneNd; rw [hlv, hob]; simp [hkn]
        obtain ⟨hin, hkd⟩ := hkn
        have hni : (i : Int) < (j.t.n : Int) := by omega
        have hkb : ((j.t.D i).kind != 0) = true := by simpa using hkd
        clear hob hlv HZ hkd
        simp only [ixI] at hz0 ⊢
        obtain ⟨bI, oI, hQ, hQl, hQc⟩ := (hJ.t.below (Nat.le_refl _) HP.out.bel).at hin
        obtain ⟨d1, d2, d3, d4, d5, d6⟩ := hQc i hin
        have HN : Hid (NdIn w1 (j.t.D i) (l.t.L i)) := d6
        rw [hQ] at p0
        clear hQ hQc d6
        have hsm := htS i hin
        go_wp2_with fail
        refine (l2Copy_any (j.t.D i) (l.t.L i) w1 HN.out hsm.1 hsm.2.1).mono ?_
        rintro e W6 ⟨l5, rfl, hN5⟩
        unfold ndV
        have H6 : Hid (Jp w j l W6) := HP.out.below hN5.bel
        have HE : Hid (∀ U, U = (((((W6.setCell ⟨w.heap.size + 1, 0, none⟩ (.int .i64 (j.t.D i).kind)).setCell ⟨w.heap.size + 1, 1, none⟩ (.string (j.t.D i).text)).setCell ⟨w.heap.size + 1, 2, none⟩ (.slice l5.nA (j.t.D i).nn l5.nc)).setCell ⟨w.heap.size + 1, 3, none⟩ (.slice l5.kA (j.t.D i).kn l5.kc)).setCell ⟨w.heap.size + 1, 4, none⟩ (.int .i64 (j.t.D i).turn)) → Blk U (w.heap.size + 1) #[.int .i64 (j.t.D i).kind, .string (j.t.D i).text, .slice l5.nA (j.t.D i).nn l5.nc, .slice l5.kA (j.t.D i).kn l5.kc, .int .i64 (j.t.D i).turn] 87 ∧ PlacePost w (oneD j.t.n j.t.D j.d i) (.returned (.tuple #[.agg #[.int .i64 (j.t.D i).kind, .string (j.t.D i).text, .slice l5.nA (j.t.D i).nn l5.nc, .slice l5.kA (j.t.D i).kn l5.kc, .int .i64 (j.t.D i).turn], .bool true])) U) := fun U e => by
          subst e
          rw [HO.out]
          exact ⟨blk5 H6.out.r _ _ _ _ _, l5, true, rfl, hN5.new.fin5 HP.out.bel (by omega) (by have := HP.out.size; omega) _ _ _ _ _⟩
        clear hN5 p0 p1 p2 p3 p4 p5 p6 r0 r1 r2 r3 r4 g0 g1 g2 g3 g4
        have r0 : W6.cell? ⟨w.heap.size + 1, 0, none⟩ = some (.int .i64 0) := H6.out.r.cell 0
        have r1 : W6.cell? ⟨w.heap.size + 1, 1, none⟩ = some (.string ByteArray.empty) := H6.out.r.cell 1
        have r2 : W6.cell? ⟨w.heap.size + 1, 2, none⟩ = some (.slice none 0 0) := H6.out.r.cell 2
        have r3 : W6.cell? ⟨w.heap.size + 1, 3, none⟩ = some (.slice none 0 0) := H6.out.r.cell 3
        have r4 : W6.cell? ⟨w.heap.size + 1, 4, none⟩ = some (.int .i64 0) := H6.out.r.cell 4
        have g0 := H6.out.r.frozen 0
        have g1 := H6.out.r.frozen 1
        have g2 := H6.out.r.frozen 2
        have g3 := H6.out.r.frozen 3
        have g4 := H6.out.r.frozen 4
        go_wp2_with fail
        refine end_world (F := fun U => Blk U (w.heap.size + 1) #[.int .i64 (j.t.D i).kind, .string (j.t.D i).text, .slice l5.nA (j.t.D i).nn l5.nc, .slice l5.kA (j.t.D i).kn l5.kc, .int .i64 (j.t.D i).turn] 87 ∧ PlacePost w (oneD j.t.n j.t.D j.d i) (.returned (.tuple #[.agg #[.int .i64 (j.t.D i).kind, .string (j.t.D i).text, .slice l5.nA (j.t.D i).nn l5.nc, .slice l5.kA (j.t.D i).kn l5.kc, .int .i64 (j.t.D i).turn], .bool true])) U) (HE.out _ rfl) ?_
        clear HE r0 r1 r2 r3 r4 g0 g1 g2 g3 g4
        rintro U ⟨hr, hE⟩
        have e0 : U.cell? ⟨w.heap.size + 1, 0, none⟩ = some (.int .i64 (j.t.D i).kind) := hr.cell 0
        have e1 : U.cell? ⟨w.heap.size + 1, 1, none⟩ = some (.string (j.t.D i).text) := hr.cell 1
        have e2 : U.cell? ⟨w.heap.size + 1, 2, none⟩ = some (.slice l5.nA (j.t.D i).nn l5.nc) := hr.cell 2
        have e3 : U.cell? ⟨w.heap.size + 1, 3, none⟩ = some (.slice l5.kA (j.t.D i).kn l5.kc) := hr.cell 3
        have e4 : U.cell? ⟨w.heap.size + 1, 4, none⟩ = some (.int .i64 (j.t.D i).turn) := hr.cell 4
        exact bodyPost_ret (v := .tuple #[.agg #[.int .i64 (j.t.D i).kind, .string (j.t.D i).text, .slice l5.nA (j.t.D i).nn l5.nc, .slice l5.kA (j.t.D i).kn l5.kc, .int .i64 (j.t.D i).turn], .bool true]) (by simp [results, Tryz.results60, go_sem, e0, e1, e2, e3, e4]) rfl hE
      · have HO : Hid (oneD j.t.n j.t.D j.d i = ndZero) := by
          show _ = _
          unfold oneD oneNd
          rw [hlv, hob]
          simp only [if_true]
          rw [if_neg hkn]
          rfl
        have HE : Hid (∀ U, U = (((((w1.setCell ⟨w.heap.size + 1, 0, none⟩ (.int .i64 0)).setCell ⟨w.heap.size + 1, 1, none⟩ (.string ByteArray.empty)).setCell ⟨w.heap.size + 1, 2, none⟩ (.slice none 0 0)).setCell ⟨w.heap.size + 1, 3, none⟩ (.slice none 0 0)).setCell ⟨w.heap.size + 1, 4, none⟩ (.int .i64 0)) → Blk U (w.heap.size + 1) #[.int .i64 0, .string ByteArray.empty, .slice none 0 0, .slice none 0 0, .int .i64 0] 87 ∧ PlacePost w (oneD j.t.n j.t.D j.d i) (.returned (.tuple #[.agg #[.int .i64 0, .string ByteArray.empty, .slice none 0 0, .slice none 0 0, .int .i64 0], .bool false])) U) := fun U e => by
          subst e
          rw [HO.out]
          exact ⟨blk5 HP.out.r _ _ _ _ _, ⟨none, 0, none, 0⟩, false, rfl, NewNn.none5 HP.out.bel (by omega) _ _ _ _ _⟩
        clear hob hlv HZ
        simp only [ixI] at hz0 ⊢
        by_cases hin : i < j.t.n
        · have hni : (i : Int) < (j.t.n : Int) := by omega
          have hkb : ((j.t.D i).kind != 0) = false := by
            have : (j.t.D i).kind = 0 := Classical.byContradiction fun e => hkn ⟨hin, e⟩
            simp [this]
          clear hkn
          obtain ⟨bI, oI, hQ, hQl, hQc⟩ := (hJ.t.below (Nat.le_refl _) HP.out.bel).at hin
          obtain ⟨d1, d2, d3, d4, d5, d6⟩ := hQc i hin
          rw [hQ] at p0
          clear hQ hQc d6
          go_wp2_with fail
          refine end_world (F := fun U => Blk U (w.heap.size + 1) #[.int .i64 0, .string ByteArray.empty, .slice none 0 0, .slice none 0 0, .int .i64 0] 87 ∧ PlacePost w (oneD j.t.n j.t.D j.d i) (.returned (.tuple #[.agg #[.int .i64 0, .string ByteArray.empty, .slice none 0 0, .slice none 0 0, .int .i64 0], .bool false])) U) (HE.out _ rfl) ?_
          clear HE
          rintro U ⟨hr, hE⟩
          have e0 : U.cell? ⟨w.heap.size + 1, 0, none⟩ = some (.int .i64 0) := hr.cell 0
          have e1 : U.cell? ⟨w.heap.size + 1, 1, none⟩ = some (.string ByteArray.empty) := hr.cell 1
          have e2 : U.cell? ⟨w.heap.size + 1, 2, none⟩ = some (.slice none 0 0) := hr.cell 2
          have e3 : U.cell? ⟨w.heap.size + 1, 3, none⟩ = some (.slice none 0 0) := hr.cell 3
          have e4 : U.cell? ⟨w.heap.size + 1, 4, none⟩ = some (.int .i64 0) := hr.cell 4
          exact bodyPost_ret (v := .tuple #[.agg #[.int .i64 0, .string ByteArray.empty, .slice none 0 0, .slice none 0 0, .int .i64 0], .bool false]) (by simp [results, Tryz.results60, go_sem, e0, e1, e2, e3, e4]) rfl hE
        · have hni : decide ((i : Int) < (j.t.n : Int)) = false := by simp; omega
          clear hkn
          go_wp2_with fail
          refine end_world (F := fun U => Blk U (w.heap.size + 1) #[.int .i64 0, .string ByteArray.empty, .slice none 0 0, .slice none 0 0, .int .i64 0] 87 ∧ PlacePost w (oneD j.t.n j.t.D j.d i) (.returned (.tuple #[.agg #[.int .i64 0, .string ByteArray.empty, .slice none 0 0, .slice none 0 0, .int .i64 0], .bool false])) U) (HE.out _ rfl) ?_
          clear HE
          rintro U ⟨hr, hE⟩
          have e0 : U.cell? ⟨w.heap.size + 1, 0, none⟩ = some (.int .i64 0) := hr.cell 0
          have e1 : U.cell? ⟨w.heap.size + 1, 1, none⟩ = some (.string ByteArray.empty) := hr.cell 1
          have e2 : U.cell? ⟨w.heap.size + 1, 2, none⟩ = some (.slice none 0 0) := hr.cell 2
          have e3 : U.cell? ⟨w.heap.size + 1, 3, none⟩ = some (.slice none 0 0) := hr.cell 3
          have e4 : U.cell? ⟨w.heap.size + 1, 4, none⟩ = some (.int .i64 0) := hr.cell 4
          exact bodyPost_ret (v := .tuple #[.agg #[.int .i64 0, .string ByteArray.empty, .slice none 0 0, .slice none 0 0, .int .i64 0], .bool false]) (by simp [results, Tryz.results60, go_sem, e0, e1, e2, e3, e4]) rfl hE
end Go.Proofs.YtakifcobofkheaaGreatDoor

/-
  What JobOk of the specification answers.
-/
namespace Go.Proofs.YtakifcobofkheaaGreatDoor
open Go.RowKit Go.Deep
set_option linter.unusedVariables false
set_option linter.unusedSimpArgs false
set_option linter.unnecessarySimpa false

/-- The box. -/
structure Jo (w : World) (j : Jb) (l : JLoc) (W : World) : Prop where
  p : Blk W w.heap.size (jC j l) 38
  bel : Below w.heap.size w W
  size : w.heap.size + 1 ≤ W.heap.size

theorem Jo.below {w : World} {j : Jb} {l : JLoc} {W W' : World} (h : Jo w j l W) (hb : Below W.heap.size W W') : Jo w j l W' := ⟨h.p.below hb h.p.lt, h.bel.trans (hb.mono h.bel.size), Nat.le_trans h.size hb.size⟩
theorem jo1 (w : World) (j : Jb) (l : JLoc) : Jo w j l (w.alloc (.cells (jC j l) 38)) := by
  obtain ⟨h0, hb, _⟩ := new1 w (jC j l) 38
  exact ⟨h0, hb, by simp⟩

/-- Whether it is right. -/
def OkPost (w : World) (j : Jb) (e : Ending) (w' : World) : Prop := Below w.heap.size w w' ∧ ∃ r : Bool, e = .returned (.bool r) ∧ (r = true ↔ JobGood j)

theorem NewNn.ndIn {w : World} {x : Nd} {l : Loc} {W : World} (h : NewNn w x l W) : NdIn W x l := ⟨ownd_strs h.names, ownd_ints h.kids⟩

set_option maxRecDepth 100000 in
set_option maxHeartbeats 8000000 in
theorem specJobOk_any (j : Jb) (l : JLoc) (w : World) (hJ : JIn w j l) (fj : j.Fits) (hs : j.t.size + j.d.size ≤ 1048576) :
    Calls Tryz.prog 23 #[jV j l] w (OkPost w j) := by
  have hqm := fj.q
  have hlm := fj.d.ln
  have hnm := fj.t.n
  unfold maxLen at hqm hlm hnm
  unfold jV
  go_enter Tryz.func23, Tryz.ntmps23
  go_wp2_with fail
  refine at_world (F := Jo w j l) (jo1 w j l) ?_
  rintro W hP
  refine (specBackOne_law j.t l.t j.d l.d W (hJ.t.below (Nat.le_refl _) hP.bel) (hJ.d.below (Nat.le_refl _) hP.bel) fj.t fj.d hs).mono ?_
  intro e w1 hpost
  obtain ⟨hb1, lr, rfl, hown⟩ := back_out j.t j.d hpost
  unfold tV
  have hP1 := hP.below hb1
  have hs1 := hP1.size
  have HP : Hid (∀ o, Jo w j l (w1.alloc o)) := fun o => hP1.below ((Below.refl _ _).alloc (Nat.le_refl _) _)
  obtain ⟨p0, p1, p2, p3, p4, p5, p6⟩ := jC_cells hP1.p
  have n0 : w.heap.size < w1.heap.size := by omega
  have m0 : w.heap.size ≠ w1.heap.size := by omega
  clear hP hb1 hpost hown hP1
  by_cases hz : backCode j.t.n j.t.D j.t.now j.d = 0
  · have hzb : (backCode j.t.n j.t.D j.t.now j.d != 0) = false := by simp [hz]
    have HZ : Hid (backCode j.t.n j.t.D j.t.now j.d = 0) := hz
    clear hz
    by_cases hq : j.q ≤ j.d.ln
    · have hqb : decide (j.d.ln < j.q) = false := by simp; omega
      have HQ : Hid (j.q ≤ j.d.ln) := hq
      by_cases hnn : j.d.since = 0 → j.t.n = 0 ∧ j.t.now = 0
      · have HNN : Hid (j.d.since = 0 → j.t.n = 0 ∧ j.t.now = 0) := hnn
        clear hnn
        have key : ∀ (X : Prop), ((j.d.since == 0) = false → X) → ((j.d.since == 0) = true → decide (0 < j.t.n) = false → (j.t.now != 0) = false → X) → X := fun X h1 h2 => by
          by_cases e : j.d.since = 0
          · obtain ⟨e1, e2⟩ := HNN.out e
            exact h2 (by simp [e]) (by simp [e1]) (by simp [e2])
          · exact h1 (by simp [e])
        have HL : Hid (∀ (k : Nat) (wr : World), k < j.q → Jo w j l wr → Calls Tryz.prog 60 #[jV j l, .int .i64 (k : Int)] wr (PlacePost wr (oneD j.t.n j.t.D j.d k))) := fun k wr hk hO => l9Place_any j l k wr (hJ.below (Nat.le_refl _) hO.bel) (code_zero HZ.out).1 fj (by omega) (by
            rcases code_few HZ.out with e | ⟨hg, _⟩
            · have := (HNN.out e).1; omega
            · exact hg.few) hs
        have HG : Hid (∀ r : Bool, (r = true ↔ ∀ i, i < j.q → (oneD j.t.n j.t.D j.d i).same (j.e i) = true) → (r = true ↔ JobGood j)) := fun r hr => hr.trans ⟨fun h => ⟨HZ.out, HQ.out, HNN.out, h⟩, fun h => h.done⟩
        refine key _ (fun hsb => ?_) (fun hsb hnb hwb => ?_)
        · clear key
          go_wp2_with fail
          clear n0 m0 p0 p1 p2 p3 p4 p5 p6
          go_loopw [5] (fun i wr => ∃ k : Nat, k ≤ j.q ∧ i = .int .i64 k ∧ Jo w j l wr ∧ ∀ i, i < k → (oneD j.t.n j.t.D j.d i).same (j.e i) = true) (fun i _ => j.q - (intOf i).toNat)
          case atStart => exact ⟨0, Nat.zero_le _, rfl, HP.out _, fun i hi => absurd hi (Nat.not_lt_zero _)⟩
          case round =>
            obtain ⟨k, hk, rfl, hin, hsm⟩ := hrel
            have HIN : Hid (Jo w j l wr ∧ ∀ i, i < k → (oneD j.t.n j.t.D j.d i).same (j.e i) = true) := ⟨hin, hsm⟩
            clear hin hsm
            obtain ⟨p0, p1, p2, p3, p4, p5, p6⟩ := jC_cells HIN.out.1.p
            by_cases hlt : k < j.q
            · have hlti : (k : Int) < (j.q : Int) := by omega
              go_wp2_with fail
              refine (HL.out k wr hlt HIN.out.1).mono ?_
              rintro e w2 ⟨lx, bx, rfl, hN⟩
              unfold ndV
              have H2 : Hid (Jo w j l w2 ∧ NdIn w2 (oneD j.t.n j.t.D j.d k) lx) := ⟨HIN.out.1.below hN.bel, hN.ndIn⟩
              clear hN p0 p1 p2 p3 p4 p5 p6
              go_wp2_with fail
              refine wp_world (F := fun U => Blk U w2.heap.size #[.int .i64 (oneD j.t.n j.t.D j.d k).kind, .string (oneD j.t.n j.t.D j.d k).text, .slice lx.nA (oneD j.t.n j.t.D j.d k).nn lx.nc, .slice lx.kA (oneD j.t.n j.t.D j.d k).kn lx.kc, .int .i64 (oneD j.t.n j.t.D j.d k).turn] 87 ∧ Jo w j l U ∧ NdIn U (oneD j.t.n j.t.D j.d k) lx) ?_ ?_
              · obtain ⟨h0, hb, _⟩ := new1 w2 #[.int .i64 (oneD j.t.n j.t.D j.d k).kind, .string (oneD j.t.n j.t.D j.d k).text, .slice lx.nA (oneD j.t.n j.t.D j.d k).nn lx.nc, .slice lx.kA (oneD j.t.n j.t.D j.d k).kn lx.kc, .int .i64 (oneD j.t.n j.t.D j.d k).turn] 87
                exact ⟨h0, H2.out.1.below hb, H2.out.2.below (Nat.le_refl _) hb⟩
              rintro U ⟨hx, hU, hNU⟩
              have HU : Hid (Jo w j l U ∧ NdIn U (oneD j.t.n j.t.D j.d k) lx) := ⟨hU, hNU⟩
              have hfx := oneD_fits fj.t.nds fj.d (k + 1) k (by omega)
              have hfe := fj.e k hlt
              obtain ⟨b, off, hA, hlt2, hc⟩ := (hJ.e.below (Nat.le_refl _) HU.out.1.bel).at hlt
              obtain ⟨c0, c1, c2, c3, c4, hNe⟩ := hc k hlt
              have p6 : U.cell? ⟨w.heap.size, 6, none⟩ = some (.slice l.e j.q l.f) := HU.out.1.p.cell 6
              rw [hA] at p6
              have hwl : w.heap.size < U.heap.size := HU.out.1.p.lt
              have hxl : w2.heap.size < U.heap.size := hx.lt
              have x0 : U.cell? ⟨w2.heap.size, 0, none⟩ = some (.int .i64 (oneD j.t.n j.t.D j.d k).kind) := hx.cell 0
              have x1 : U.cell? ⟨w2.heap.size, 1, none⟩ = some (.string (oneD j.t.n j.t.D j.d k).text) := hx.cell 1
              have x2 : U.cell? ⟨w2.heap.size, 2, none⟩ = some (.slice lx.nA (oneD j.t.n j.t.D j.d k).nn lx.nc) := hx.cell 2
              have x3 : U.cell? ⟨w2.heap.size, 3, none⟩ = some (.slice lx.kA (oneD j.t.n j.t.D j.d k).kn lx.kc) := hx.cell 3
              have x4 : U.cell? ⟨w2.heap.size, 4, none⟩ = some (.int .i64 (oneD j.t.n j.t.D j.d k).turn) := hx.cell 4
              have C0 := Lat.cell (B := U.heap.size) c0 hlt2
              have C1 := Lat.cell (B := U.heap.size) c1 hlt2
              have C2 := Lat.cell (B := U.heap.size) c2 hlt2
              have C3 := Lat.cell (B := U.heap.size) c3 hlt2
              have C4 := Lat.cell (B := U.heap.size) c4 hlt2
              have X0 := Lat.cell (B := U.heap.size) x0 hxl
              have X1 := Lat.cell (B := U.heap.size) x1 hxl
              have X2 := Lat.cell (B := U.heap.size) x2 hxl
              have X3 := Lat.cell (B := U.heap.size) x3 hxl
              have X4 := Lat.cell (B := U.heap.size) x4 hxl
              have P6 := Lat.cell (B := U.heap.size) p6 hwl
              have hcall : Hid (∀ q : Lat U.heap.size U, Calls Tryz.prog 61 #[ndV (oneD j.t.n j.t.D j.d k) lx, ndV (j.e k) (l.g k)] q.val fun r w'' => r = .returned (.bool ((oneD j.t.n j.t.D j.d k).same (j.e k))) ∧ ∃ m : Lat U.heap.size U, w'' = m.val) := fun q =>
                Calls.lat_of (specNodeSame_any (oneD j.t.n j.t.D j.d k) (j.e k) lx (l.g k) q.val (HU.out.2.below (Nat.le_refl _) q.bel) (hNe.below (Nat.le_refl _) q.bel) hfx hfe) (fun e w' h => ⟨h.2, h.1.mono q.bel.size⟩)
              clear hx hU hNU hA hc c0 c1 c2 c3 c4 hNe p6 x0 x1 x2 x3 x4 H2 hfx hfe
              go_wp2_with fail
              refine wp_region_lat (B := U.heap.size) (w0 := U) (by kernel_rfl) (by kernel_rfl) (Below.refl _ _) ?_
              repeat (go_big_quiet_step (exact hcall.out _))
              refine wpQuiet_nil ?_
              rintro _ ⟨nq, rfl⟩
              have HB : Hid (Jo w j l nq.val) := HU.out.1.below nq.bel
              clear hcall C0 C1 C2 C3 C4 X0 X1 X2 X3 X4 P6
              cases hsq : (oneD j.t.n j.t.D j.d k).same (j.e k) with
              | false =>
                have HX : Hid (false = true ↔ JobGood j) := ⟨fun h => (by cases h), fun h => (by have := h.done k hlt; rw [hsq] at this; cases this)⟩
                clear hsq
                go_wp2
                go_ret
                exact ⟨HB.out.bel, false, rfl, HX.out⟩
              | true =>
                have HX : Hid ((oneD j.t.n j.t.D j.d k).same (j.e k) = true) := hsq
                clear hsq
                go_wp2
                go_roundw
                case rel => exact ⟨k + 1, by omega, by go_num, HB.out, fun i hi => by
                  by_cases e : i = k
                  · subst e; exact HX.out
                  · exact HIN.out.2 i (by omega)⟩
                case measure => simp [intOf]; omega
            · obtain rfl : k = j.q := by omega
              go_wp2
              go_ret
              exact ⟨HIN.out.1.bel, true, rfl, HG.out true ⟨fun _ => HIN.out.2, fun _ => rfl⟩⟩
        · clear key
          go_wp2_with fail
          clear n0 m0 p0 p1 p2 p3 p4 p5 p6
          go_loopw [5] (fun i wr => ∃ k : Nat, k ≤ j.q ∧ i = .int .i64 k ∧ Jo w j l wr ∧ ∀ i, i < k → (oneD j.t.n j.t.D j.d i).same (j.e i) = true) (fun i _ => j.q - (intOf i).toNat)
          case atStart => exact ⟨0, Nat.zero_le _, rfl, HP.out _, fun i hi => absurd hi (Nat.not_lt_zero _)⟩
          case round =>
            obtain ⟨k, hk, rfl, hin, hsm⟩ := hrel
            have HIN : Hid (Jo w j l wr ∧ ∀ i, i < k → (oneD j.t.n j.t.D j.d i).same (j.e i) = true) := ⟨hin, hsm⟩
            clear hin hsm
            obtain ⟨p0, p1, p2, p3, p4, p5, p6⟩ := jC_cells HIN.out.1.p
            by_cases hlt : k < j.q
            · have hlti : (k : Int) < (j.q : Int) := by omega
              go_wp2_with fail
              refine (HL.out k wr hlt HIN.out.1).mono ?_
              rintro e w2 ⟨lx, bx, rfl, hN⟩
              unfold ndV
              have H2 : Hid (Jo w j l w2 ∧ NdIn w2 (oneD j.t.n j.t.D j.d k) lx) := ⟨HIN.out.1.below hN.bel, hN.ndIn⟩
              clear hN p0 p1 p2 p3 p4 p5 p6
              go_wp2_with fail
              refine wp_world (F := fun U => Blk U w2.heap.size #[.int .i64 (oneD j.t.n j.t.D j.d k).kind, .string (oneD j.t.n j.t.D j.d k).text, .slice lx.nA (oneD j.t.n j.t.D j.d k).nn lx.nc, .slice lx.kA (oneD j.t.n j.t.D j.d k).kn lx.kc, .int .i64 (oneD j.t.n j.t.D j.d k).turn] 87 ∧ Jo w j l U ∧ NdIn U (oneD j.t.n j.t.D j.d k) lx) ?_ ?_
              · obtain ⟨h0, hb, _⟩ := new1 w2 #[.int .i64 (oneD j.t.n j.t.D j.d k).kind, .string (oneD j.t.n j.t.D j.d k).text, .slice lx.nA (oneD j.t.n j.t.D j.d k).nn lx.nc, .slice lx.kA (oneD j.t.n j.t.D j.d k).kn lx.kc, .int .i64 (oneD j.t.n j.t.D j.d k).turn] 87
                exact ⟨h0, H2.out.1.below hb, H2.out.2.below (Nat.le_refl _) hb⟩
              rintro U ⟨hx, hU, hNU⟩
              have HU : Hid (Jo w j l U ∧ NdIn U (oneD j.t.n j.t.D j.d k) lx) := ⟨hU, hNU⟩
              have hfx := oneD_fits fj.t.nds fj.d (k + 1) k (by omega)
              have hfe := fj.e k hlt
              obtain ⟨b, off, hA, hlt2, hc⟩ := (hJ.e.below (Nat.le_refl _) HU.out.1.bel).at hlt
              obtain ⟨c0, c1, c2, c3, c4, hNe⟩ := hc k hlt
              have p6 : U.cell? ⟨w.heap.size, 6, none⟩ = some (.slice l.e j.q l.f) := HU.out.1.p.cell 6
              rw [hA] at p6
              have hwl : w.heap.size < U.heap.size := HU.out.1.p.lt
              have hxl : w2.heap.size < U.heap.size := hx.lt
              have x0 : U.cell? ⟨w2.heap.size, 0, none⟩ = some (.int .i64 (oneD j.t.n j.t.D j.d k).kind) := hx.cell 0
              have x1 : U.cell? ⟨w2.heap.size, 1, none⟩ = some (.string (oneD j.t.n j.t.D j.d k).text) := hx.cell 1
              have x2 : U.cell? ⟨w2.heap.size, 2, none⟩ = some (.slice lx.nA (oneD j.t.n j.t.D j.d k).nn lx.nc) := hx.cell 2
              have x3 : U.cell? ⟨w2.heap.size, 3, none⟩ = some (.slice lx.kA (oneD j.t.n j.t.D j.d k).kn lx.kc) := hx.cell 3
              have x4 : U.cell? ⟨w2.heap.size, 4, none⟩ = some (.int .i64 (oneD j.t.n j.t.D j.d k).turn) := hx.cell 4
              have C0 := Lat.cell (B := U.heap.size) c0 hlt2
              have C1 := Lat.cell (B := U.heap.size) c1 hlt2
              have C2 := Lat.cell (B := U.heap.size) c2 hlt2
              have C3 := Lat.cell (B := U.heap.size) c3 hlt2
              have C4 := Lat.cell (B := U.heap.size) c4 hlt2
              have X0 := Lat.cell (B := U.heap.size) x0 hxl
              have X1 := Lat.cell (B := U.heap.size) x1 hxl
              have X2 := Lat.cell (B := U.heap.size) x2 hxl
              have X3 := Lat.cell (B := U.heap.size) x3 hxl
              have X4 := Lat.cell (B := U.heap.size) x4 hxl
              have P6 := Lat.cell (B := U.heap.size) p6 hwl
              have hcall : Hid (∀ q : Lat U.heap.size U, Calls Tryz.prog 61 #[ndV (oneD j.t.n j.t.D j.d k) lx, ndV (j.e k) (l.g k)] q.val fun r w'' => r = .returned (.bool ((oneD j.t.n j.t.D j.d k).same (j.e k))) ∧ ∃ m : Lat U.heap.size U, w'' = m.val) := fun q =>
                Calls.lat_of (specNodeSame_any (oneD j.t.n j.t.D j.d k) (j.e k) lx (l.g k) q.val (HU.out.2.below (Nat.le_refl _) q.bel) (hNe.below (Nat.le_refl _) q.bel) hfx hfe) (fun e w' h => ⟨h.2, h.1.mono q.bel.size⟩)
              clear hx hU hNU hA hc c0 c1 c2 c3 c4 hNe p6 x0 x1 x2 x3 x4 H2 hfx hfe
              go_wp2_with fail
              refine wp_region_lat (B := U.heap.size) (w0 := U) (by kernel_rfl) (by kernel_rfl) (Below.refl _ _) ?_
              repeat (go_big_quiet_step (exact hcall.out _))
              refine wpQuiet_nil ?_
              rintro _ ⟨nq, rfl⟩
              have HB : Hid (Jo w j l nq.val) := HU.out.1.below nq.bel
              clear hcall C0 C1 C2 C3 C4 X0 X1 X2 X3 X4 P6
              cases hsq : (oneD j.t.n j.t.D j.d k).same (j.e k) with
              | false =>
                have HX : Hid (false = true ↔ JobGood j) := ⟨fun h => (by cases h), fun h => (by have := h.done k hlt; rw [hsq] at this; cases this)⟩
                clear hsq
                go_wp2
                go_ret
                exact ⟨HB.out.bel, false, rfl, HX.out⟩
              | true =>
                have HX : Hid ((oneD j.t.n j.t.D j.d k).same (j.e k) = true) := hsq
                clear hsq
                go_wp2
                go_roundw
                case rel => exact ⟨k + 1, by omega, by go_num, HB.out, fun i hi => by
                  by_cases e : i = k
                  · subst e; exact HX.out
                  · exact HIN.out.2 i (by omega)⟩
                case measure => simp [intOf]; omega
            · obtain rfl : k = j.q := by omega
              go_wp2
              go_ret
              exact ⟨HIN.out.1.bel, true, rfl, HG.out true ⟨fun _ => HIN.out.2, fun _ => rfl⟩⟩
      · have HB : Hid (false = true ↔ JobGood j) := ⟨fun h => (by cases h), fun h => absurd h.none hnn⟩
        have hsi : (j.d.since == 0) = true := by
          have : j.d.since = 0 := Classical.byContradiction fun e => hnn fun e' => absurd e' e
          simp [this]
        by_cases hn0 : j.t.n = 0
        · have hnb : decide (0 < j.t.n) = false := by simp [hn0]
          have hwb : (j.t.now != 0) = true := by
            have : j.t.now ≠ 0 := fun e => hnn fun _ => ⟨hn0, e⟩
            simp [this]
          clear hn0 hnn
          go_wp2
          go_ret
          exact ⟨(HP.out _).bel, false, rfl, HB.out⟩
        · have hnb : decide (0 < j.t.n) = true := by simp; omega
          clear hn0 hnn
          go_wp2
          go_ret
          exact ⟨(HP.out _).bel, false, rfl, HB.out⟩
    · have hqb : decide (j.d.ln < j.q) = true := by simp; omega
      have HB : Hid (false = true ↔ JobGood j) := ⟨fun h => (by cases h), fun h => absurd h.q hq⟩
      clear hq
      go_wp2
      go_ret
      exact ⟨(HP.out _).bel, false, rfl, HB.out⟩
  · have hzb : (backCode j.t.n j.t.D j.t.now j.d != 0) = true := by simp [hz]
    have HB : Hid (false = true ↔ JobGood j) := ⟨fun h => (by cases h), fun h => absurd h.code hz⟩
    clear hz
    go_wp2
    go_ret
    exact ⟨(HP.out _).bel, false, rfl, HB.out⟩
end Go.Proofs.YtakifcobofkheaaGreatDoor

/-
  A job with a place more done, in memory. Plain facts.
-/
namespace Go.Proofs.YtakifcobofkheaaGreatDoor
open Go.RowKit Go.Deep
set_option linter.unusedVariables false
set_option linter.unusedSimpArgs false

/-- A place more, whose lists are owned already. -/
theorem OT.more2 {W W' : World} {B k : Nat} {a : Option Addr} {c : Nat} {E : Nat → Nd} {M : Nat → Loc} (h : OT W B 0 (fun _ => false) k (fun _ => 0) E M (.slice none 0 0) (.slice a k c)) {x : Nd} {l : Loc}
    (hn : W.ownsRow B 9 1 (.slice l.nA x.nn l.nc) x.nn (strv (lst x.nn x.names))) (hk : W.ownsRow B 3 1 (.slice l.kA x.kn l.kc) x.kn (intv0 x.kn x.kids)) (hap : ∀ b, (Value.slice l.nA x.nn l.nc).ownBlock = some b → (Value.slice l.kA x.kn l.kc).ownBlock ≠ some b)
    (hfn : ∀ b, (Value.slice l.nA x.nn l.nc).ownBlock = some b → ¬ BkT ⟨k, E, 0⟩ ⟨a, c, M⟩ b) (hfk : ∀ b, (Value.slice l.kA x.kn l.kc).ownBlock = some b → ¬ BkT ⟨k, E, 0⟩ ⟨a, c, M⟩ b) {b c' : Nat} (hg : W.grownBy W' (Value.slice a k c).ownBlock)
    (hown : W'.ownsRow B 87 5 (.slice (some ⟨b, 0, none⟩) (k + 1) c') (k + 1) (rowsT (fun _ => 0) E M k ++ nt5 0 x l)) (hb : (Value.slice a k c).ownBlock = some b ∨ W.heap.size ≤ b) :
    OT W' B 0 (fun _ => false) (k + 1) (fun _ => 0) (fun i => if i = k then x else E i) (fun i => if i = k then l else M i) (.slice none 0 0) (.slice (some ⟨b, 0, none⟩) (k + 1) c') := by
  have hrow : rowsT (fun _ => 0) (fun i => if i = k then x else E i) (fun i => if i = k then l else M i) (k + 1) = rowsT (fun _ => 0) E M k ++ nt5 0 x l := by
    rw [rowsT, rowsT_ext (O := fun _ => 0) (D := E) (L := M) k (fun i hi => by simp [show i ≠ k by omega])]
    simp
  have hold : ∀ d b', d < 2 + 2 * k → (valT (.slice none 0 0) (.slice a k c) E M d).ownBlock = some b' → BkT ⟨k, E, 0⟩ ⟨a, c, M⟩ b' ∧ b' < W.heap.size := fun d b' hd e => ⟨⟨d, hd, e⟩, (owns_block (h.rows.own d hd) e).2⟩
  have h1B : ∀ b', (Value.slice a k c).ownBlock = some b' → BkT ⟨k, E, 0⟩ ⟨a, c, M⟩ b' := fun b' e => ⟨1, by show 1 < 2 + 2 * k; omega, by simpa [valT] using e⟩
  have e1 : rowT 0 (fun _ => false) (k + 1) (fun _ => 0) (fun i => if i = k then x else E i) (fun i => if i = k then l else M i) 1 = ⟨87, 5, k + 1, rowsT (fun _ => 0) E M k ++ nt5 0 x l⟩ := by unfold rowT; rw [hrow]; simp
  have v1 : valT (.slice none 0 0) (.slice (some ⟨b, 0, none⟩) (k + 1) c') (fun i => if i = k then x else E i) (fun i => if i = k then l else M i) 1 = .slice (some ⟨b, 0, none⟩) (k + 1) c' := by simp [valT]
  have hi2 : (2 + 2 * k - 2) / 2 = k := by omega
  have hi3 : (3 + 2 * k - 2) / 2 = k := by omega
  have e2 : rowT 0 (fun _ => false) (k + 1) (fun _ => 0) (fun i => if i = k then x else E i) (fun i => if i = k then l else M i) (2 + 2 * k) = ⟨9, 1, x.nn, strv (lst x.nn x.names)⟩ := by
    unfold rowT; rw [if_neg (by omega), if_neg (by omega), if_pos (by omega)]; simp [hi2]
  have v2 : valT (.slice none 0 0) (.slice (some ⟨b, 0, none⟩) (k + 1) c') (fun i => if i = k then x else E i) (fun i => if i = k then l else M i) (2 + 2 * k) = .slice l.nA x.nn l.nc := by
    unfold valT; rw [if_neg (by omega), if_neg (by omega), if_pos (by omega)]; simp [hi2]
  have e3 : rowT 0 (fun _ => false) (k + 1) (fun _ => 0) (fun i => if i = k then x else E i) (fun i => if i = k then l else M i) (3 + 2 * k) = ⟨3, 1, x.kn, intv0 x.kn x.kids⟩ := by
    unfold rowT; rw [if_neg (by omega), if_neg (by omega), if_neg (by omega)]; simp [hi3]
  have v3 : valT (.slice none 0 0) (.slice (some ⟨b, 0, none⟩) (k + 1) c') (fun i => if i = k then x else E i) (fun i => if i = k then l else M i) (3 + 2 * k) = .slice l.kA x.kn l.kc := by
    unfold valT; rw [if_neg (by omega), if_neg (by omega), if_neg (by omega)]; simp [hi3]
  have e4 : ∀ d, d < 2 + 2 * k → d ≠ 1 → rowT 0 (fun _ => false) (k + 1) (fun _ => 0) (fun i => if i = k then x else E i) (fun i => if i = k then l else M i) d = rowT 0 (fun _ => false) k (fun _ => 0) E M d := fun d hl hne => by
    unfold rowT
    by_cases e0 : d = 0
    · rw [if_pos e0, if_pos e0]
    · have hi : (d - 2) / 2 ≠ k := by omega
      rw [if_neg e0, if_neg hne, if_neg e0, if_neg hne]; simp [hi]
  have v4 : ∀ d, d < 2 + 2 * k → d ≠ 1 → valT (.slice none 0 0) (.slice (some ⟨b, 0, none⟩) (k + 1) c') (fun i => if i = k then x else E i) (fun i => if i = k then l else M i) d = valT (.slice none 0 0) (.slice a k c) E M d := fun d hl hne => by
    unfold valT
    by_cases e0 : d = 0
    · rw [if_pos e0, if_pos e0]
    · have hi : (d - 2) / 2 ≠ k := by omega
      rw [if_neg e0, if_neg hne, if_neg e0, if_neg hne]; simp [hi]
  have hcase : ∀ d, d < 2 + 2 * (k + 1) → (d < 2 + 2 * k ∧ d ≠ 1) ∨ d = 1 ∨ d = 2 + 2 * k ∨ d = 3 + 2 * k := fun d hl => by omega
  have hne1 : ∀ d b', d < 2 + 2 * k → d ≠ 1 → (valT (.slice none 0 0) (.slice a k c) E M d).ownBlock = some b' → (Value.slice a k c).ownBlock ≠ some b' := fun d b' hl hne e e' => h.rows.apart d 1 hl (by omega) hne b' e (by simpa [valT] using e')
  refine ⟨⟨fun d hl => ?_, fun d1 d2 g1 g2 hne b' p1 p2 => ?_⟩⟩
  · rcases hcase d hl with ⟨h2, h3⟩ | rfl | rfl | rfl
    · rw [e4 d h2 h3, v4 d h2 h3]
      exact owns_kept (h.rows.own d h2) hg fun b' e => hne1 d b' h2 h3 e
    · rw [e1, v1]; exact hown
    · rw [e2, v2]; exact owns_kept hn hg fun b' e e' => hfn b' e (h1B b' e')
    · rw [e3, v3]; exact owns_kept hk hg fun b' e e' => hfk b' e (h1B b' e')
  · have cl : ∀ d, d < 2 + 2 * (k + 1) → (valT (.slice none 0 0) (.slice (some ⟨b, 0, none⟩) (k + 1) c') (fun i => if i = k then x else E i) (fun i => if i = k then l else M i) d).ownBlock = some b' →
        (d < 2 + 2 * k ∧ d ≠ 1 ∧ (valT (.slice none 0 0) (.slice a k c) E M d).ownBlock = some b') ∨ (d = 1 ∧ b = b') ∨ (d = 2 + 2 * k ∧ (Value.slice l.nA x.nn l.nc).ownBlock = some b') ∨ (d = 3 + 2 * k ∧ (Value.slice l.kA x.kn l.kc).ownBlock = some b') := fun d hl hv => by
      rcases hcase d hl with ⟨h2, h3⟩ | rfl | rfl | rfl
      · rw [v4 d h2 h3] at hv
        exact Or.inl ⟨h2, h3, hv⟩
      · rw [v1] at hv
        exact Or.inr (Or.inl ⟨rfl, by simpa [Value.ownBlock] using hv⟩)
      · rw [v2] at hv
        exact Or.inr (Or.inr (Or.inl ⟨rfl, hv⟩))
      · rw [v3] at hv
        exact Or.inr (Or.inr (Or.inr ⟨rfl, hv⟩))
    have hbo : ∀ d, d < 2 + 2 * k → d ≠ 1 → (valT (.slice none 0 0) (.slice a k c) E M d).ownBlock ≠ some b := fun d hl h3 e => by
      rcases hb with e' | e'
      · exact hne1 d b hl h3 e e'
      · have := (hold d b hl e).2; omega
    have hbn : (Value.slice l.nA x.nn l.nc).ownBlock ≠ some b := fun e => by
      rcases hb with e' | e'
      · exact hfn b e (h1B b e')
      · have := (owns_block hn e).2; omega
    have hbk : (Value.slice l.kA x.kn l.kc).ownBlock ≠ some b := fun e => by
      rcases hb with e' | e'
      · exact hfk b e (h1B b e')
      · have := (owns_block hk e).2; omega
    rcases cl d1 g1 p1 with ⟨a1, a2, a3⟩ | ⟨a1, rfl⟩ | ⟨a1, a2⟩ | ⟨a1, a2⟩ <;> rcases cl d2 g2 p2 with ⟨z1, z2, z3⟩ | ⟨z1, z2⟩ | ⟨z1, z2⟩ | ⟨z1, z2⟩
    · exact h.rows.apart d1 d2 a1 z1 hne b' a3 z3
    · exact hbo d1 a1 a2 (by rw [z2]; exact a3)
    · exact hfn b' z2 (hold d1 b' a1 a3).1
    · exact hfk b' z2 (hold d1 b' a1 a3).1
    · exact hbo d2 z1 z2 z3
    · omega
    · exact hbn z2
    · exact hbk z2
    · exact hfn b' a2 (hold d2 b' z1 z3).1
    · exact hbn (by rw [z2]; exact a2)
    · omega
    · exact hap b' a2 z2
    · exact hfk b' a2 (hold d2 b' z1 z3).1
    · exact hbk (by rw [z2]; exact a2)
    · exact hap b' z2 a2
    · omega

/-- What the blocks are then. -/
theorem BkT.more {k : Nat} {a : Option Addr} {c b c' : Nat} {E : Nat → Nd} {M : Nat → Loc} {x : Nd} {l : Loc} {now : Int} {b' : Nat} (h : BkT ⟨k + 1, fun i => if i = k then x else E i, now⟩ ⟨some ⟨b, 0, none⟩, c', fun i => if i = k then l else M i⟩ b') :
    BkT ⟨k, E, 0⟩ ⟨a, c, M⟩ b' ∨ b' = b ∨ (Value.slice l.nA x.nn l.nc).ownBlock = some b' ∨ (Value.slice l.kA x.kn l.kc).ownBlock = some b' := by
  obtain ⟨d, hd, e⟩ := h
  have hd' : d < 2 + 2 * (k + 1) := hd
  unfold valT at e
  by_cases e0 : d = 0
  · rw [if_pos e0] at e; simp [Value.ownBlock] at e
  · by_cases e1 : d = 1
    · rw [if_neg e0, if_pos e1] at e
      exact Or.inr (Or.inl (by simpa [Value.ownBlock] using e.symm))
    · rw [if_neg e0, if_neg e1] at e
      by_cases hm : (d - 2) / 2 = k
      · simp only [hm, if_true] at e
        split at e
        · exact Or.inr (Or.inr (Or.inl e))
        · exact Or.inr (Or.inr (Or.inr e))
      · simp only [hm, if_false] at e
        exact Or.inl ⟨d, by show d < 2 + 2 * k; omega, by unfold valT; rw [if_neg e0, if_neg e1]; exact e⟩

/-- The job with a place more done. -/
def Jb.more (j : Jb) (x : Nd) : Jb := ⟨j.t, j.d, j.q + 1, fun i => if i = j.q then x else j.e i⟩
def JLoc.more (l : JLoc) (q b c' : Nat) (lx : Loc) : JLoc := ⟨l.t, l.d, some ⟨b, 0, none⟩, c', fun i => if i = q then lx else l.g i⟩

theorem OwnJb.more {W W' : World} {B : Nat} {j : Jb} {l : JLoc} (h : OwnJb W B j l) {x : Nd} {lx : Loc}
    (hn : W.ownsRow B 9 1 (.slice lx.nA x.nn lx.nc) x.nn (strv (lst x.nn x.names))) (hk : W.ownsRow B 3 1 (.slice lx.kA x.kn lx.kc) x.kn (intv0 x.kn x.kids)) (hap : ∀ b, (Value.slice lx.nA x.nn lx.nc).ownBlock = some b → (Value.slice lx.kA x.kn lx.kc).ownBlock ≠ some b)
    (hfn : ∀ b, (Value.slice lx.nA x.nn lx.nc).ownBlock = some b → ¬ BkJ j l b) (hfk : ∀ b, (Value.slice lx.kA x.kn lx.kc).ownBlock = some b → ¬ BkJ j l b) {b c' : Nat} (hg : W.grownBy W' (Value.slice l.e j.q l.f).ownBlock)
    (hown : W'.ownsRow B 87 5 (.slice (some ⟨b, 0, none⟩) (j.q + 1) c') (j.q + 1) (rowsT (fun _ => 0) j.e l.g j.q ++ nt5 0 x lx)) (hb : (Value.slice l.e j.q l.f).ownBlock = some b ∨ W.heap.size ≤ b) :
    OwnJb W' B (j.more x) (l.more j.q b c' lx) := by
  have h1B : ∀ b', (Value.slice l.e j.q l.f).ownBlock = some b' → BkT j.dn l.dn b' := fun b' e => ⟨1, by show 1 < 2 + 2 * j.q; omega, by simpa [valT, Jb.dn, JLoc.dn] using e⟩
  have hE : OwnTr W' B (j.more x).dn (l.more j.q b c' lx).dn := OT.more2 h.e hn hk hap (fun q e e' => hfn q e (Or.inr (Or.inr e'))) (fun q e e' => hfk q e (Or.inr (Or.inr e'))) hg hown hb
  have hT : OwnTr W' B j.t l.t := h.t.keep fun q e => hg.block q (h.t.blk e).2 (fun e' => h.te q e (h1B q e'.symm))
  have hD : OwnDp W' B j.d l.d := h.d.keep fun q e => hg.block q (h.d.blk e).2 (fun e' => h.de q e (h1B q e'.symm))
  have hnew : ∀ q, BkT (j.more x).dn (l.more j.q b c' lx).dn q → BkT j.dn l.dn q ∨ q = b ∨ (Value.slice lx.nA x.nn lx.nc).ownBlock = some q ∨ (Value.slice lx.kA x.kn lx.kc).ownBlock = some q := fun q e => BkT.more e
  refine ⟨hT, hD, hE, h.td, fun q e1 e2 => ?_, fun q e1 e2 => ?_⟩
  · rcases hnew q e2 with e | rfl | e | e
    · exact h.te q e1 e
    · rcases hb with e | e
      · exact h.te q e1 (h1B q e)
      · have := (h.t.blk e1).2; omega
    · exact hfn q e (Or.inl e1)
    · exact hfk q e (Or.inl e1)
  · rcases hnew q e2 with e | rfl | e | e
    · exact h.de q e1 e
    · rcases hb with e | e
      · exact h.de q e1 (h1B q e)
      · have := (h.d.blk e1).2; omega
    · exact hfn q e (Or.inr (Or.inl e1))
    · exact hfk q e (Or.inr (Or.inl e1))
end Go.Proofs.YtakifcobofkheaaGreatDoor

/-
  What JobStep, JobLeft and JobTree of the specification answer.
-/
namespace Go.Proofs.YtakifcobofkheaaGreatDoor
open Go.RowKit Go.Deep
set_option linter.unusedVariables false
set_option linter.unusedSimpArgs false
set_option linter.unnecessarySimpa false

/-- The boxes. -/
structure Js (w : World) (j : Jb) (l : JLoc) (W : World) : Prop where
  p : Blk W w.heap.size (jC j l) 38
  r : Blk W (w.heap.size + 1) #[.slice none 0 0, .int .i64 0, .int .i64 0, .int .i64 0, .slice none 0 0, .slice none 0 0, .slice none 0 0] 38
  bel : Below w.heap.size w W
  size : w.heap.size + 2 ≤ W.heap.size

theorem Js.below {w : World} {j : Jb} {l : JLoc} {W W' : World} (h : Js w j l W) (hb : Below W.heap.size W W') : Js w j l W' := ⟨h.p.below hb h.p.lt, h.r.below hb h.r.lt, h.bel.trans (hb.mono h.bel.size), Nat.le_trans h.size hb.size⟩

/-- A new place, as rows of one's own. -/
theorem step_good {j : Jb} (h : JobGood j) : stepAns j = stepJb j := by unfold stepAns; rw [if_pos h]
theorem step_bad {j : Jb} (h : ¬ JobGood j) : stepAns j = jbNone := by unfold stepAns; rw [if_neg h]
theorem step_lt {j : Jb} (h : j.q < j.d.ln) : stepJb j = j.more (oneD j.t.n j.t.D j.d j.q) := by unfold stepJb; rw [if_pos h]; rfl
theorem step_no {j : Jb} (h : ¬ j.q < j.d.ln) : stepJb j = j := by unfold stepJb; rw [if_neg h]

set_option maxRecDepth 100000 in
set_option maxHeartbeats 8000000 in
theorem specJobStep_any (j : Jb) (l : JLoc) (w : World) (hJ : JIn w j l) (fj : j.Fits) (hs : j.size ≤ 1048576) :
    Calls Tryz.prog 26 #[jV j l] w (JPost1 w (stepAns j)) := by
  have hqm := fj.q
  have hlm := fj.d.ln
  unfold maxLen at hqm hlm
  obtain ⟨y0, hy, hy0, hy1, hy2⟩ := info_parts infoNode
  have hsz : j.t.size + j.d.size ≤ 1048576 := by unfold Jb.size at hs; omega
  have hse : ∀ i, i < j.q → (j.e i).size ≤ 1048576 := (Jb.mid hs).es
  unfold jV
  go_enter Tryz.func26, Tryz.ntmps26
  go_wp2_with fail
  refine at_world (F := Js w j l) ?_ ?_
  · obtain ⟨h0, h1, hb, _⟩ := new2 w (jC j l) 38 #[.slice none 0 0, .int .i64 0, .int .i64 0, .int .i64 0, .slice none 0 0, .slice none 0 0, .slice none 0 0] 38
    exact ⟨h0, h1, hb, by simp⟩
  rintro W hP
  refine (specJobOk_any j l W (hJ.below (Nat.le_refl _) hP.bel) fj hsz).mono ?_
  rintro e w1 ⟨hb1, r, rfl, hr⟩
  have HP : Hid (Js w j l w1) := hP.below hb1
  clear hP hb1
  obtain ⟨p0, p1, p2, p3, p4, p5, p6⟩ := jC_cells HP.out.p
  have r0 : w1.cell? ⟨w.heap.size + 1, 0, none⟩ = some (.slice none 0 0) := HP.out.r.cell 0
  have r1 : w1.cell? ⟨w.heap.size + 1, 1, none⟩ = some (.int .i64 0) := HP.out.r.cell 1
  have r2 : w1.cell? ⟨w.heap.size + 1, 2, none⟩ = some (.int .i64 0) := HP.out.r.cell 2
  have r3 : w1.cell? ⟨w.heap.size + 1, 3, none⟩ = some (.int .i64 0) := HP.out.r.cell 3
  have r4 : w1.cell? ⟨w.heap.size + 1, 4, none⟩ = some (.slice none 0 0) := HP.out.r.cell 4
  have r5 : w1.cell? ⟨w.heap.size + 1, 5, none⟩ = some (.slice none 0 0) := HP.out.r.cell 5
  have r6 : w1.cell? ⟨w.heap.size + 1, 6, none⟩ = some (.slice none 0 0) := HP.out.r.cell 6
  have g0 := HP.out.r.frozen 0
  have g1 := HP.out.r.frozen 1
  have g2 := HP.out.r.frozen 2
  have g3 := HP.out.r.frozen 3
  have g4 := HP.out.r.frozen 4
  have g5 := HP.out.r.frozen 5
  have g6 := HP.out.r.frozen 6
  cases r with
  | false =>
    have HA : Hid (stepAns j = jbNone) := step_bad fun h => by have := hr.2 h; cases this
    clear hr
    have HE : Hid (∀ U, U = (((((((w1.setCell ⟨w.heap.size + 1, 0, none⟩ (.slice none 0 0)).setCell ⟨w.heap.size + 1, 1, none⟩ (.int .i64 0)).setCell ⟨w.heap.size + 1, 2, none⟩ (.int .i64 0)).setCell ⟨w.heap.size + 1, 3, none⟩ (.int .i64 0)).setCell ⟨w.heap.size + 1, 4, none⟩ (.slice none 0 0)).setCell ⟨w.heap.size + 1, 5, none⟩ (.slice none 0 0)).setCell ⟨w.heap.size + 1, 6, none⟩ (.slice none 0 0)) → Blk U (w.heap.size + 1) #[.slice none 0 0, .int .i64 0, .int .i64 0, .int .i64 0, .slice none 0 0, .slice none 0 0, .slice none 0 0] 38 ∧ JPost1 w (stepAns j) (.returned (.agg #[.slice none 0 0, .int .i64 0, .int .i64 0, .int .i64 0, .slice none 0 0, .slice none 0 0, .slice none 0 0])) U) := fun U e => by
      subst e
      rw [HA.out]
      exact ⟨blk7 HP.out.r _ _ _ _ _ _ _, bel7 HP.out.bel (by omega) _ _ _ _ _ _ _, _, rfl, ownJb_none _ _⟩
    go_wp2_with fail
    refine end_world (F := fun U => Blk U (w.heap.size + 1) #[.slice none 0 0, .int .i64 0, .int .i64 0, .int .i64 0, .slice none 0 0, .slice none 0 0, .slice none 0 0] 38 ∧ JPost1 w (stepAns j) (.returned (.agg #[.slice none 0 0, .int .i64 0, .int .i64 0, .int .i64 0, .slice none 0 0, .slice none 0 0, .slice none 0 0])) U) (HE.out _ rfl) ?_
    clear HE r0 r1 r2 r3 r4 r5 r6 g0 g1 g2 g3 g4 g5 g6
    rintro U ⟨hr, hE⟩
    have e0 := hr.cell 0
    have e1 := hr.cell 1
    have e2 := hr.cell 2
    have e3 := hr.cell 3
    have e4 := hr.cell 4
    have e5 := hr.cell 5
    have e6 := hr.cell 6
    simp at e0 e1 e2 e3 e4 e5 e6
    exact bodyPost_ret (v := .agg #[.slice none 0 0, .int .i64 0, .int .i64 0, .int .i64 0, .slice none 0 0, .slice none 0 0, .slice none 0 0]) (by simp [results, Tryz.results26, go_sem, e0, e1, e2, e3, e4, e5, e6]) rfl hE
  | true =>
    have HG : Hid (JobGood j) := hr.1 rfl
    clear hr r0 r1 r2 r3 r4 r5 r6 g0 g1 g2 g3 g4 g5 g6
    go_wp2_with fail
    refine (l9Copy_any j l w1 (hJ.below (Nat.le_refl _) HP.out.bel) HG.out.ok HG.out.few (by have := HG.out.q; have := HG.out.ln; omega) (by omega) (by omega) hse).mono ?_
    rintro e w2 ⟨lj, rfl, hb2, hown⟩
    unfold jV
    have H2 : Hid (∀ U, U = w2.alloc (.cells (jC j lj) 38) → Js w j l U ∧ Blk U w2.heap.size (jC j lj) 38 ∧ OwnJb U w1.heap.size j lj ∧ w1.heap.size ≤ w2.heap.size ∧ w2.heap.size < U.heap.size) := fun U e => by
      have hP2 := HP.out.below hb2
      obtain ⟨h0, hb, _⟩ := new1 w2 (jC j lj) 38
      rw [← e] at h0 hb
      exact ⟨hP2.below hb, h0, hown.below hb, hb2.size, h0.lt⟩
    have HPP : Hid _ := jC_cells (HP.out.below hb2).p
    have HPR : Hid (Js w j l w2 ∧ OwnJb w2 w1.heap.size j lj) := ⟨HP.out.below hb2, hown⟩
    have hTop : ∀ b, BkJ j lj b → b < w2.heap.size := fun b e => (hown.blk e).2
    have HTop : Hid (∀ b, BkJ j lj b → b < w2.heap.size) := hTop
    have hs1 := HP.out.size
    have hl12 : w1.heap.size ≤ w2.heap.size := hb2.size
    clear hb2 hown p0 p1 p2 p3 p4 p5 p6 hTop
    obtain ⟨p0, p1, p2, p3, p4, p5, p6⟩ : (w2.cell? ⟨w.heap.size, 0, none⟩ = some (.slice l.t.a j.t.n l.t.c) ∧ w2.cell? ⟨w.heap.size, 1, none⟩ = some (.int .i64 j.t.now) ∧ w2.cell? ⟨w.heap.size, 2, none⟩ = some (.int .i64 j.d.since) ∧ w2.cell? ⟨w.heap.size, 3, none⟩ = some (.int .i64 j.d.date) ∧ w2.cell? ⟨w.heap.size, 4, none⟩ = some (.slice l.d.lA j.d.ln l.d.lc) ∧ w2.cell? ⟨w.heap.size, 5, none⟩ = some (.slice l.d.iA j.d.m l.d.ic) ∧ w2.cell? ⟨w.heap.size, 6, none⟩ = some (.slice l.e j.q l.f)) := HPP.out
    have n0 : w.heap.size < w2.heap.size := by omega
    have m0 : w.heap.size ≠ w2.heap.size := by omega
    by_cases hlt : j.q < j.d.ln
    · have hlti : (j.q : Int) < (j.d.ln : Int) := by omega
      have HL : Hid (∀ W, Js w j l W → Calls Tryz.prog 60 #[jV j l, .int .i64 (j.q : Int)] W (PlacePost W (oneD j.t.n j.t.D j.d j.q))) := fun W h => l9Place_any j l j.q W (hJ.below (Nat.le_refl _) h.bel) HG.out.ok fj hlt HG.out.few hsz
      have HA : Hid (stepAns j = j.more (oneD j.t.n j.t.D j.d j.q)) := (step_good HG.out).trans (step_lt hlt)
      have hq10 : j.q ≤ 10 := by have := HG.out.ln; omega
      go_wp2_with fail
      refine at_world (F := fun U => Js w j l U ∧ Blk U w2.heap.size (jC j lj) 38 ∧ OwnJb U w1.heap.size j lj ∧ w1.heap.size ≤ w2.heap.size ∧ w2.heap.size < U.heap.size) (H2.out _ rfl) ?_
      clear p0 p1 p2 p3 p4 p5 p6 n0 m0
      rintro W3 ⟨hj3, hv3, ho3, hl3, hl4⟩
      refine (HL.out W3 hj3).mono ?_
      rintro e w4 ⟨lx, bx, rfl, hN⟩
      generalize hx : oneD j.t.n j.t.D j.d j.q = x at *
      unfold ndV
      have H4 : Hid (Js w j l w4 ∧ Blk w4 w2.heap.size (jC j lj) 38 ∧ OwnJb w4 w1.heap.size j lj ∧ w1.heap.size ≤ w2.heap.size ∧ w2.heap.size < W3.heap.size ∧ NewNn W3 x lx w4 ∧ W3.heap.size ≤ w4.heap.size) := ⟨hj3.below hN.bel, hv3.below hN.bel hl4, ho3.below hN.bel, hl3, hl4, hN, hN.bel.size⟩
      have hl34 : W3.heap.size ≤ w4.heap.size := hN.bel.size
      clear hj3 hv3 ho3 hN H2 hx
      obtain ⟨v0, v1, v2, v3, v4, v5, v6⟩ := jC_cells H4.out.2.1
      have nv : w2.heap.size < w4.heap.size := by omega
      have mv : w2.heap.size ≠ w4.heap.size := by omega
      have mv2 : w2.heap.size ≠ w4.heap.size + 1 := by omega
      have hba : Below w4.heap.size w4 ((w4.alloc (.cells #[.int .i64 (x).kind, .string (x).text, .slice lx.nA (x).nn lx.nc, .slice lx.kA (x).kn lx.kc, .int .i64 (x).turn] 87)).alloc (.cells #[.int .i64 (x).kind, .string (x).text, .slice lx.nA (x).nn lx.nc, .slice lx.kA (x).kn lx.kc, .int .i64 (x).turn] 87)) := ((Below.refl _ _).alloc (Nat.le_refl _) _).alloc (by simp) _
      have HB4 : Hid _ := hba
      have hU := H4.out.2.2.1.below hba
      have HOI : Hid _ := hU.e.ownI
      have fV := (H4.out.2.1.below hba (by omega)).frozen 6
      have hsrc : Src ((w4.alloc (.cells #[.int .i64 (x).kind, .string (x).text, .slice lx.nA (x).nn lx.nc, .slice lx.kA (x).kn lx.kc, .int .i64 (x).turn] 87)).alloc (.cells #[.int .i64 (x).kind, .string (x).text, .slice lx.nA (x).nn lx.nc, .slice lx.kA (x).kn lx.kc, .int .i64 (x).turn] 87)) 5 (.slice (some ⟨w4.heap.size + 1, 0, none⟩) 1 1) 1 (nt5 0 x lx) := by
        have h := src_node (w4.alloc (.cells #[.int .i64 (x).kind, .string (x).text, .slice lx.nA (x).nn lx.nc, .slice lx.kA (x).kn lx.kc, .int .i64 (x).turn] 87)) x lx
        simpa using h
      have HSRC : Hid _ := hsrc
      clear hba hU hsrc
      go_wp2_with (at_builtin; go_must (refine wpList_append_src (by rfl) _ _ 31 rfl w1.heap.size 87 y0 (.agg #[.int .i64 0, .string ByteArray.empty, .slice none 0 0, .slice none 0 0, .int .i64 0]) 5 80 Tryz.underlying31 hy hy0 hy1 hy2 rfl (by decide) (.slice lj.e j.q lj.f) j.q (rowsT (fun _ => 0) j.e lj.g j.q) (by rfl) HOI.out (.slice (some ⟨w4.heap.size + 1, 0, none⟩) 1 1) 1 _ (by rfl) HSRC.out (by unfold maxLen; omega) (by omega) (by simp; omega) ?_))
      intro vI W7 hown hgrow hnil hat
      rcases hown.2 with ⟨_, h0⟩ | ⟨gI, cI, cur, hvI, _, _, _⟩
      · omega
      subst hvI
      have H8 : Hid (Js w j l W7 ∧ Blk W7 w2.heap.size (jC j lj) 38 ∧ OwnJb W7 w1.heap.size (j.more x) (lj.more j.q gI cI lx) ∧ ¬ BkJ (j.more x) (lj.more j.q gI cI lx) w2.heap.size) := by
        have hU4 := HB4.out
        have hN := H4.out.2.2.2.2.2.1.alloc (.cells #[.int .i64 (x).kind, .string (x).text, .slice lx.nA (x).nn lx.nc, .slice lx.kA (x).kn lx.kc, .int .i64 (x).turn] 87)
        have hN2 := hN.alloc (.cells #[.int .i64 (x).kind, .string (x).text, .slice lx.nA (x).nn lx.nc, .slice lx.kA (x).kn lx.kc, .int .i64 (x).turn] 87)
        have hJU := H4.out.2.2.1.below hU4
        have hbo : ∀ q, (Value.slice lj.e j.q lj.f).ownBlock = some q → w1.heap.size ≤ q ∧ q < w2.heap.size := fun q e => ⟨(owns_block hJU.e.ownI e).1, HTop.out q (Or.inr (Or.inr ⟨1, by show 1 < 2 + 2 * j.q; omega, by simpa [valT, Jb.dn, JLoc.dn] using e⟩))⟩
        have hbI : (Value.slice lj.e j.q lj.f).ownBlock = some gI ∨ ((w4.alloc (.cells #[.int .i64 (x).kind, .string (x).text, .slice lx.nA (x).nn lx.nc, .slice lx.kA (x).kn lx.kc, .int .i64 (x).turn] 87)).alloc (.cells #[.int .i64 (x).kind, .string (x).text, .slice lx.nA (x).nn lx.nc, .slice lx.kA (x).kn lx.kc, .int .i64 (x).turn] 87)).heap.size ≤ gI := by
          rcases hat with e | e
          · exact Or.inl e.symm
          · right
            have e' : gI = ((w4.alloc (.cells #[.int .i64 (x).kind, .string (x).text, .slice lx.nA (x).nn lx.nc, .slice lx.kA (x).kn lx.kc, .int .i64 (x).turn] 87)).alloc (.cells #[.int .i64 (x).kind, .string (x).text, .slice lx.nA (x).nn lx.nc, .slice lx.kA (x).kn lx.kc, .int .i64 (x).turn] 87)).heap.size := by simpa [Value.ownBlock] using e
            omega
        have hJS := H4.out.1.below hU4
        have hsz1 := HP.out.size
        have hVU := H4.out.2.1.below hU4 (by omega)
        have hnb : ∀ q, (Value.slice lx.nA x.nn lx.nc).ownBlock = some q → W3.heap.size ≤ q := fun q e => (owns_block hN2.names e).1
        have hkb : ∀ q, (Value.slice lx.kA x.kn lx.kc).ownBlock = some q → W3.heap.size ≤ q := fun q e => (owns_block hN2.kids e).1
        have hM := hJU.more (owns_lower hN2.names (by omega)) (owns_lower hN2.kids (by omega)) hN2.apart (fun q e e' => by have := HTop.out q e'; have := hnb q e; omega) (fun q e e' => by have := HTop.out q e'; have := hkb q e; omega) hgrow hown hbI
        refine ⟨⟨blk_grownT hJS.p hgrow (fun e => by have := (hbo _ e).1; omega), blk_grownT hJS.r hgrow (fun e => by have := (hbo _ e).1; omega), hJS.bel.grown hgrow hJS.bel.size (fun q e => by have := (hbo q e).1; omega), Nat.le_trans hJS.size hgrow.size⟩, blk_grownT hVU hgrow (fun e => by have := (hbo _ e).2; omega), hM, ?_⟩
        rintro (e | e | e)
        · have := HTop.out _ (Or.inl e); omega
        · have := HTop.out _ (Or.inr (Or.inl e)); omega
        · rcases BkT.more (now := 0) (a := lj.e) (c := lj.f) e with e | e | e | e
          · have := HTop.out _ (Or.inr (Or.inr e)); omega
          · have := hbI
            rcases hbI with e' | e'
            · have := (hbo _ e').2; omega
            · simp at e'; omega
          · have := hnb _ e; omega
          · have := hkb _ e; omega
      clear hown hgrow hnil hat HOI HSRC H4 v0 v1 v2 v3 v4 v5 v6 nv mv mv2 fV HB4
      have H9 : Hid (∀ U, U = W7.setCell ⟨w2.heap.size, 6, none⟩ (.slice (some ⟨gI, 0, none⟩) (j.q + 1) cI) → Js w j l U ∧ OwnJb U w1.heap.size (j.more x) (lj.more j.q gI cI lx)) := fun U e => by
        subst e
        exact ⟨⟨H8.out.1.p.off _ (by omega), H8.out.1.r.off _ (by omega), bel_put H8.out.1.bel _ (by omega), by simpa [World.setCell] using H8.out.1.size⟩, H8.out.2.2.1.keep fun q e => blk_setCell_other _ _ _ _ (show q ≠ w2.heap.size from fun e' => H8.out.2.2.2 (e' ▸ e))⟩
      obtain ⟨v0, v1, v2, v3, v4, v5, v6⟩ := jC_cells H8.out.2.1
      have fV := H8.out.2.1.frozen 6
      have r0 : W7.cell? ⟨w.heap.size + 1, 0, none⟩ = some (.slice none 0 0) := H8.out.1.r.cell 0
      have r1 : W7.cell? ⟨w.heap.size + 1, 1, none⟩ = some (.int .i64 0) := H8.out.1.r.cell 1
      have r2 : W7.cell? ⟨w.heap.size + 1, 2, none⟩ = some (.int .i64 0) := H8.out.1.r.cell 2
      have r3 : W7.cell? ⟨w.heap.size + 1, 3, none⟩ = some (.int .i64 0) := H8.out.1.r.cell 3
      have r4 : W7.cell? ⟨w.heap.size + 1, 4, none⟩ = some (.slice none 0 0) := H8.out.1.r.cell 4
      have r5 : W7.cell? ⟨w.heap.size + 1, 5, none⟩ = some (.slice none 0 0) := H8.out.1.r.cell 5
      have r6 : W7.cell? ⟨w.heap.size + 1, 6, none⟩ = some (.slice none 0 0) := H8.out.1.r.cell 6
      have g0 := H8.out.1.r.frozen 0
      have g1 := H8.out.1.r.frozen 1
      have g2 := H8.out.1.r.frozen 2
      have g3 := H8.out.1.r.frozen 3
      have g4 := H8.out.1.r.frozen 4
      have g5 := H8.out.1.r.frozen 5
      have g6 := H8.out.1.r.frozen 6
      have hnr : w.heap.size + 1 ≠ w2.heap.size := by omega
      have hnr2 : w2.heap.size ≠ w.heap.size + 1 := by omega
      have HE : Hid (∀ U, U = ((((((((W7.setCell ⟨w2.heap.size, 6, none⟩ (.slice (some ⟨gI, 0, none⟩) (j.q + 1) cI)).setCell ⟨w.heap.size + 1, 0, none⟩ (.slice lj.t.a j.t.n lj.t.c)).setCell ⟨w.heap.size + 1, 1, none⟩ (.int .i64 j.t.now)).setCell ⟨w.heap.size + 1, 2, none⟩ (.int .i64 j.d.since)).setCell ⟨w.heap.size + 1, 3, none⟩ (.int .i64 j.d.date)).setCell ⟨w.heap.size + 1, 4, none⟩ (.slice lj.d.lA j.d.ln lj.d.lc)).setCell ⟨w.heap.size + 1, 5, none⟩ (.slice lj.d.iA j.d.m lj.d.ic)).setCell ⟨w.heap.size + 1, 6, none⟩ (.slice (some ⟨gI, 0, none⟩) (j.q + 1) cI)) → Blk U (w.heap.size + 1) (jC (j.more x) (lj.more j.q gI cI lx)) 38 ∧ JPost1 w (stepAns j) (.returned (jV (j.more x) (lj.more j.q gI cI lx))) U) := fun U e => by
        subst e
        rw [HA.out]
        obtain ⟨a1, a2⟩ := H9.out _ rfl
        exact ⟨blk7 a1.r _ _ _ _ _ _ _, bel7 a1.bel (by omega) _ _ _ _ _ _ _, _, rfl, (jb7 a2 (by omega) _ _ _ _ _ _ _).lower (by omega)⟩
      clear H8 H9
      go_wp2_with fail
      refine end_world (F := fun U => Blk U (w.heap.size + 1) (jC (j.more x) (lj.more j.q gI cI lx)) 38 ∧ JPost1 w (stepAns j) (.returned (jV (j.more x) (lj.more j.q gI cI lx))) U) (HE.out _ rfl) ?_
      clear HE v0 v1 v2 v3 v4 v5 v6 fV r0 r1 r2 r3 r4 r5 r6 g0 g1 g2 g3 g4 g5 g6
      rintro U ⟨hr, hE⟩
      obtain ⟨e0, e1, e2, e3, e4, e5, e6⟩ := jC_cells hr
      exact bodyPost_ret (v := jV (j.more x) (lj.more j.q gI cI lx)) (by unfold jV; simp [results, Tryz.results26, go_sem, e0, e1, e2, e3, e4, e5, e6]) rfl hE
    · have hltn : decide (j.q < j.d.ln) = false := by simp; omega
      have HA : Hid (stepAns j = j) := (step_good HG.out).trans (step_no hlt)
      clear hlt
      have n1 : w.heap.size + 1 < w2.heap.size := by omega
      have m1 : w.heap.size + 1 ≠ w2.heap.size := by omega
      have r0 : w2.cell? ⟨w.heap.size + 1, 0, none⟩ = some (.slice none 0 0) := HPR.out.1.r.cell 0
      have r1 : w2.cell? ⟨w.heap.size + 1, 1, none⟩ = some (.int .i64 0) := HPR.out.1.r.cell 1
      have r2 : w2.cell? ⟨w.heap.size + 1, 2, none⟩ = some (.int .i64 0) := HPR.out.1.r.cell 2
      have r3 : w2.cell? ⟨w.heap.size + 1, 3, none⟩ = some (.int .i64 0) := HPR.out.1.r.cell 3
      have r4 : w2.cell? ⟨w.heap.size + 1, 4, none⟩ = some (.slice none 0 0) := HPR.out.1.r.cell 4
      have r5 : w2.cell? ⟨w.heap.size + 1, 5, none⟩ = some (.slice none 0 0) := HPR.out.1.r.cell 5
      have r6 : w2.cell? ⟨w.heap.size + 1, 6, none⟩ = some (.slice none 0 0) := HPR.out.1.r.cell 6
      have g0 := HPR.out.1.r.frozen 0
      have g1 := HPR.out.1.r.frozen 1
      have g2 := HPR.out.1.r.frozen 2
      have g3 := HPR.out.1.r.frozen 3
      have g4 := HPR.out.1.r.frozen 4
      have g5 := HPR.out.1.r.frozen 5
      have g6 := HPR.out.1.r.frozen 6
      have HE : Hid (∀ U, U = ((((((((w2.setCell ⟨w.heap.size + 1, 0, none⟩ (.slice lj.t.a j.t.n lj.t.c)).setCell ⟨w.heap.size + 1, 1, none⟩ (.int .i64 j.t.now)).setCell ⟨w.heap.size + 1, 2, none⟩ (.int .i64 j.d.since)).setCell ⟨w.heap.size + 1, 3, none⟩ (.int .i64 j.d.date)).setCell ⟨w.heap.size + 1, 4, none⟩ (.slice lj.d.lA j.d.ln lj.d.lc)).setCell ⟨w.heap.size + 1, 5, none⟩ (.slice lj.d.iA j.d.m lj.d.ic)).setCell ⟨w.heap.size + 1, 6, none⟩ (.slice lj.e j.q lj.f)).alloc (.cells #[.slice lj.t.a j.t.n lj.t.c, .int .i64 j.t.now, .int .i64 j.d.since, .int .i64 j.d.date, .slice lj.d.lA j.d.ln lj.d.lc, .slice lj.d.iA j.d.m lj.d.ic, .slice lj.e j.q lj.f] 38)) → Blk U (w.heap.size + 1) (jC j lj) 38 ∧ JPost1 w (stepAns j) (.returned (jV j lj)) U) := fun U e => by
        subst e
        rw [HA.out]
        have hb : Below w.heap.size w (((((((w2.setCell ⟨w.heap.size + 1, 0, none⟩ (.slice lj.t.a j.t.n lj.t.c)).setCell ⟨w.heap.size + 1, 1, none⟩ (.int .i64 j.t.now)).setCell ⟨w.heap.size + 1, 2, none⟩ (.int .i64 j.d.since)).setCell ⟨w.heap.size + 1, 3, none⟩ (.int .i64 j.d.date)).setCell ⟨w.heap.size + 1, 4, none⟩ (.slice lj.d.lA j.d.ln lj.d.lc)).setCell ⟨w.heap.size + 1, 5, none⟩ (.slice lj.d.iA j.d.m lj.d.ic)).setCell ⟨w.heap.size + 1, 6, none⟩ (.slice lj.e j.q lj.f)) := bel7 HPR.out.1.bel (by omega) _ _ _ _ _ _ _
        exact ⟨(blk7 HPR.out.1.r _ _ _ _ _ _ _).alloc _, hb.alloc hb.size _, lj, rfl, ((jb7 HPR.out.2 (by omega) _ _ _ _ _ _ _).below ((Below.refl _ _).alloc (Nat.le_refl _) _)).lower (by omega)⟩
      go_wp2_with fail
      refine end_world (F := fun U => Blk U (w.heap.size + 1) (jC j lj) 38 ∧ JPost1 w (stepAns j) (.returned (jV j lj)) U) (HE.out _ rfl) ?_
      clear HE r0 r1 r2 r3 r4 r5 r6 g0 g1 g2 g3 g4 g5 g6
      rintro U ⟨hr, hE⟩
      obtain ⟨e0, e1, e2, e3, e4, e5, e6⟩ := jC_cells hr
      exact bodyPost_ret (v := jV j lj) (by unfold jV; simp [results, Tryz.results26, go_sem, e0, e1, e2, e3, e4, e5, e6]) rfl hE

/-- What JobLeft answers. -/
def LeftPost (w : World) (j : Jb) (e : Ending) (w' : World) : Prop := Below w.heap.size w w' ∧ ∃ r, e = .returned (.int .i64 r) ∧ r = leftAns j

set_option maxHeartbeats 2000000 in
theorem specJobLeft_any (j : Jb) (l : JLoc) (w : World) (hJ : JIn w j l) (fj : j.Fits) (hs : j.size ≤ 1048576) :
    Calls Tryz.prog 28 #[jV j l] w (LeftPost w j) := by
  have hqm := fj.q
  have hlm := fj.d.ln
  unfold maxLen at hqm hlm
  have hsz : j.t.size + j.d.size ≤ 1048576 := by unfold Jb.size at hs; omega
  unfold jV
  go_enter Tryz.func28, Tryz.ntmps28
  go_wp2_with fail
  refine at_world (F := Jo w j l) (jo1 w j l) ?_
  rintro W hP
  refine (specJobOk_any j l W (hJ.below (Nat.le_refl _) hP.bel) fj hsz).mono ?_
  rintro e w1 ⟨hb1, r, rfl, hr⟩
  have HP : Hid (Jo w j l w1) := hP.below hb1
  clear hP hb1
  obtain ⟨p0, p1, p2, p3, p4, p5, p6⟩ := jC_cells HP.out.p
  cases r with
  | false =>
    have HA : Hid (-1 = leftAns j) := by show _ = _; unfold leftAns; rw [if_neg fun h => by have := hr.2 h; cases this]
    clear hr
    go_wp2
    go_ret
    exact ⟨HP.out.bel, -1, rfl, HA.out⟩
  | true =>
    have HA : Hid ((j.d.ln : Int) - (j.q : Int) = leftAns j) := by show _ = _; unfold leftAns; rw [if_pos (hr.1 rfl)]
    have hw : wrap64 ((j.d.ln : Int) - (j.q : Int)) = (j.d.ln : Int) - (j.q : Int) := by unfold wrap64; omega
    clear hr
    go_wp2
    go_ret
    exact ⟨HP.out.bel, _, rfl, HA.out⟩

/-- What JobTree answers. -/
def TreePost (w : World) (j : Jb) (e : Ending) (w' : World) : Prop := Below w.heap.size w w' ∧ ∃ l, e = .returned (.tuple #[tV (treeAns j) l, .int .i64 (treeCode j)]) ∧ OwnTr w' w.heap.size (treeAns j) l

/-- The boxes of JobTree's. -/
structure Jt (w : World) (j : Jb) (l : JLoc) (W : World) : Prop where
  p : Blk W w.heap.size (jC j l) 38
  r : Blk W (w.heap.size + 1) #[.slice none 0 0, .int .i64 0] 33
  bel : Below w.heap.size w W
  size : w.heap.size + 2 ≤ W.heap.size

theorem Jt.below {w : World} {j : Jb} {l : JLoc} {W W' : World} (h : Jt w j l W) (hb : Below W.heap.size W W') : Jt w j l W' := ⟨h.p.below hb h.p.lt, h.r.below hb h.r.lt, h.bel.trans (hb.mono h.bel.size), Nat.le_trans h.size hb.size⟩

set_option maxHeartbeats 4000000 in
theorem specJobTree_any (j : Jb) (l : JLoc) (w : World) (hJ : JIn w j l) (fj : j.Fits) (hs : j.size ≤ 1048576) :
    Calls Tryz.prog 30 #[jV j l] w (TreePost w j) := by
  unfold jV
  go_enter Tryz.func30, Tryz.ntmps30
  go_wp2_with fail
  refine at_world (F := Jt w j l) ?_ ?_
  · obtain ⟨h0, h1, hb, _⟩ := new2 w (jC j l) 38 #[.slice none 0 0, .int .i64 0] 33
    exact ⟨h0, h1, hb, by simp⟩
  rintro W hP
  refine (specJobLeft_any j l W (hJ.below (Nat.le_refl _) hP.bel) fj hs).mono ?_
  rintro e w1 ⟨hb1, _, rfl, rfl⟩
  have HP : Hid (Jt w j l w1) := hP.below hb1
  clear hP hb1
  obtain ⟨p0, p1, p2, p3, p4, p5, p6⟩ := jC_cells HP.out.p
  have r0 : w1.cell? ⟨w.heap.size + 1, 0, none⟩ = some (.slice none 0 0) := HP.out.r.cell 0
  have r1 : w1.cell? ⟨w.heap.size + 1, 1, none⟩ = some (.int .i64 0) := HP.out.r.cell 1
  have g0 := HP.out.r.frozen 0
  have g1 := HP.out.r.frozen 1
  by_cases hz : leftAns j = 0
  · have hzb : (leftAns j != 0) = false := by simp [hz]
    have HG : Hid (JobGood j ∧ j.q = j.d.ln) := left_zero hz
    have HA : Hid (treeAns j = ⟨j.q, j.e, j.d.date⟩ ∧ treeCode j = 0) := by show _ ∧ _; unfold treeAns treeCode; rw [if_pos hz, if_pos hz]; exact ⟨rfl, rfl⟩
    clear hz
    go_wp2_with fail
    refine (l2Tree_own ⟨j.q, j.e, j.d.date⟩ ⟨l.e, l.f, l.g⟩ w1 (hJ.e.below (Nat.le_refl _) HP.out.bel) (by have := HG.out.1.ln; have := HG.out.2; show j.q ≤ 1000; omega) (by unfold Tr.size; show j.q + sizeTo j.e j.q ≤ _; unfold Jb.size at hs; omega)).mono ?_
    rintro e w2 ⟨k, rfl, hb2, ho2⟩
    unfold tV
    have H2 : Hid (Jt w j l w2 ∧ OwnTr w2 w1.heap.size ⟨j.q, j.e, j.d.date⟩ k) := ⟨HP.out.below hb2, ho2⟩
    have hs1 := HP.out.size
    clear hb2 ho2 p0 p1 p2 p3 p4 p5 p6 r0 r1 g0 g1
    have r0 : w2.cell? ⟨w.heap.size + 1, 0, none⟩ = some (.slice none 0 0) := H2.out.1.r.cell 0
    have r1 : w2.cell? ⟨w.heap.size + 1, 1, none⟩ = some (.int .i64 0) := H2.out.1.r.cell 1
    have g0 := H2.out.1.r.frozen 0
    have g1 := H2.out.1.r.frozen 1
    go_wp2_with fail
    refine end_world (F := fun U => Blk U (w.heap.size + 1) #[.slice k.a j.q k.c, .int .i64 j.d.date] 33 ∧ TreePost w j (.returned (.tuple #[.agg #[.slice k.a j.q k.c, .int .i64 j.d.date], .int .i64 0])) U) ⟨(H2.out.1.r.set 0 _).set 1 _, bel_put (bel_put H2.out.1.bel _ (by omega)) _ (by omega), k, by rw [HA.out.1, HA.out.2]; rfl, by rw [HA.out.1]; exact ((H2.out.2.put _ (by omega)).put _ (by omega)).lower (by omega)⟩ ?_
    clear r0 r1 g0 g1
    rintro U ⟨hr, hE⟩
    have e0 : U.cell? ⟨w.heap.size + 1, 0, none⟩ = some (.slice k.a j.q k.c) := hr.cell 0
    have e1 : U.cell? ⟨w.heap.size + 1, 1, none⟩ = some (.int .i64 j.d.date) := hr.cell 1
    exact bodyPost_ret (v := .tuple #[.agg #[.slice k.a j.q k.c, .int .i64 j.d.date], .int .i64 0]) (by simp [results, Tryz.results30, go_sem, e0, e1]) rfl hE
  · have hzb : (leftAns j != 0) = true := by simp [hz]
    have HA : Hid (treeAns j = trNone ∧ treeCode j = 3) := by show _ ∧ _; unfold treeAns treeCode; rw [if_neg hz, if_neg hz]; exact ⟨rfl, rfl⟩
    clear hz
    go_wp2_with fail
    refine end_world (F := fun U => Blk U (w.heap.size + 1) #[.slice none 0 0, .int .i64 0] 33 ∧ TreePost w j (.returned (.tuple #[.agg #[.slice none 0 0, .int .i64 0], .int .i64 3])) U) ⟨(HP.out.r.set 0 _).set 1 _, bel_put (bel_put HP.out.bel _ (by omega)) _ (by omega), ⟨none, 0, fun _ => ⟨none, 0, none, 0⟩⟩, by rw [HA.out.1, HA.out.2]; rfl, by rw [HA.out.1]; exact OT.start _ _ _ _ _ _⟩ ?_
    clear r0 r1 g0 g1
    rintro U ⟨hr, hE⟩
    have e0 : U.cell? ⟨w.heap.size + 1, 0, none⟩ = some (.slice none 0 0) := hr.cell 0
    have e1 : U.cell? ⟨w.heap.size + 1, 1, none⟩ = some (.int .i64 0) := hr.cell 1
    exact bodyPost_ret (v := .tuple #[.agg #[.slice none 0 0, .int .i64 0], .int .i64 3]) (by simp [results, Tryz.results30, go_sem, e0, e1]) rfl hE
end Go.Proofs.YtakifcobofkheaaGreatDoor

/-
  A range over an iterator, where the round is told how what is yielded hangs on what was. Plain laws.
-/
namespace Go.Proofs.YtakifcobofkheaaGreatDoor
open Go.RowKit Go.Deep Go.Shelf
set_option linter.unusedVariables false

/-- J may be said behind a turn of a block of X, and where new blocks have come, which may join X. -/
def AbidesR {β : Type} (J : β → (Nat → Prop) → World → Prop) : Prop :=
  ∀ s (X X' : Nat → Prop) W W' row, J s X W → W.grownBy W' row → (∀ r, row = some r → X r) → (∀ r, X' r → X r ∨ (W.heap.size ≤ r ∧ r < W'.heap.size)) → J s X' W'

structure KeepsR (X : Nat → Prop) (W W' : World) : Prop where
  size : W.heap.size ≤ W'.heap.size
  same : ∀ r, X r → r < W.heap.size → W'.heap[r]? = W.heap[r]?

def SeqR {α : Type} (F : Fence) (n : Nat) (P : Program) (g : Nat) (lb : Array Value) (encs : α → Array Value) (Z : Nat → Prop) (S Sp : List α → Prop) (R : List α → α → Prop) (N : Nat) (w : World) : Prop :=
  ∀ (l : Nat) (J Jx : List α → (Nat → Prop) → World → Prop) (W : World), Below w.heap.size w W → AbidesR J → AbidesR Jx →
    (∀ pre x X W1, J pre X W1 → pre.length < N → R pre x → YieldAt F (n - 1) P l (encs x) W1 fun e W' =>
      (e = .returned (.bool true) ∧ J (pre ++ [x]) X W' ∧ KeepsR (fun r => X r ∨ Z r) W1 W') ∨ (e = .returned (.bool false) ∧ Jx (pre ++ [x]) X W' ∧ KeepsR (fun r => X r ∨ Z r) W1 W')) →
    J [] (fun _ => False) W →
    CallsIn F n P g (#[.func (.yield l) #[] #[]] ++ lb) W fun e W' => (∃ v, e = .returned v) ∧ ((∃ xs X, S xs ∧ J xs X W') ∨ (∃ pre X, Sp pre ∧ Jx pre X W'))

/-- How a round may be left. -/
def rPost {α : Type} (Z : Nat → Prop) (I : List α → (Nat → Prop) → World → Prop) (Ix : Code → List α → (Nat → Prop) → World → Prop) (xs : List α) (X : Nat → Prop) (W : World) : Exit → Act → World → Prop
  | .normal, _, W' => KeepsR (fun r => X r ∨ Z r) W W' ∧ I xs X W'
  | .ret, _, W' => KeepsR (fun r => X r ∨ Z r) W W' ∧ Ix .ret xs X W'
  | .exit id, _, W' => KeepsR (fun r => X r ∨ Z r) W W' ∧ Ix (.exit id) xs X W'
  | .goto t, _, W' => KeepsR (fun r => X r ∨ Z r) W W' ∧ Ix (.goto t) xs X W'
  | _, _, _ => False

section
variable {F : Fence} {n : Nat} {P : Program}

theorem AbidesR.turn {β : Type} {J : β → (Nat → Prop) → World → Prop} (h : AbidesR J) {s : β} {X : Nat → Prop} {W : World} {r : Nat} (hs : J s X W) (hr : X r) (o : Obj) : J s X (W.putObj r o) :=
  h s X X W _ (some r) hs (grownBy_putObj' W r o) (fun k e => by cases e; exact hr) (fun k hk => Or.inl hk)

theorem wpIn_rangeFunc_R {α : Type} {g : Operand} {ps : Array Tmp} {assign body : Code} {Q : Exit → Act → World → Prop} {a : Act} {w : World}
    (hro : F.round = none) (h1 : 1 ≤ n) {gf : Nat} {lb : Array Value} (hg : a.eval g = .func (.func gf) #[] lb) (hFg : F.fn gf) (eg : ∀ args w, (callFunc gf args).run P w = .ok (.enter gf args) w)
    {encs : α → Array Value} {Z : Nat → Prop} {S Sp : List α → Prop} {R : List α → α → Prop} {N : Nat} {w0 : World} (hseq : SeqR F (n - 1) P gf lb encs Z S Sp R N w0) (hZ : ∀ r, Z r → r < w.heap.size) (hb0 : Below w0.heap.size w0 w) (hps : ∀ x, (encs x).size = ps.size)
    (I : List α → (Nat → Prop) → World → Prop) (Ix : Code → List α → (Nat → Prop) → World → Prop) (hI : AbidesR I) (hIx : ∀ c, AbidesR (Ix c)) (h0 : I [] (fun _ => False) w) (Ax : α → (Nat → Prop) → Act → World → Prop) (hAx : ∀ x X a' W l r o', Ax x X a' W → W.heap[l]? = some (.loop r) → Ax x X a' (W.putObj l o'))
    (hassign : ∀ (l : Nat) (pre : List α) (x : α) (X : Nat → Prop) (W : World) (K : Act → World → Prop), I pre X W → (∀ a' W' (X' : Nat → Prop), (∀ r, X r → X' r) → (∀ r, X' r → X r ∨ (W.heap.size ≤ r ∧ r < W'.heap.size)) → KeepsR (fun r => X r ∨ Z r) W W' → I pre X' W' → Ax x X' a' W' → K a' W') → assign.wpIn (F.inRound l) (n - 1 - 1) P (Exit.then K (fun _ _ _ => False)) { tmps := (ps.zip (encs x)).foldl (fun t (p, v) => t.setIfInBounds p v) a.tmps, defers := [] } W)
    (hbody : ∀ (l : Nat) (pre : List α) (x : α) (X : Nat → Prop) (a' : Act) (W : World), (∃ r, W.heap[l]? = some (.loop r)) → I pre X W → Ax x X a' W → pre.length < N → R pre x → body.wpIn (F.inRound l) (n - 1 - 1) P (rPost Z I Ix (pre ++ [x]) X W) a' W)
    (hdone : ∀ (D : Nat) (xs : List α) (X : Nat → Prop) (W : World), w.heap.size ≤ D → X D → S xs → I xs X W → W.heap[D]? = some (.deferred (some [])) → Q .normal { a with defers := { target := .collected D, args := #[] } :: a.defers } W)
    (hstop : ∀ (D : Nat) (c : Code) (pre : List α) (X : Nat → Prop) (W : World), w.heap.size ≤ D → X D → Sp pre → Ix c pre X W → W.heap[D]? = some (.deferred (some [])) → c.wpIn F n P Q { a with defers := { target := .collected D, args := #[] } :: a.defers } W) :
    (Code.rangeFunc g ps assign body).wpIn F n P Q a w := by
  refine wpIn_rangeFunc ?_
  intro fn hfn
  rw [hro]
  obtain ⟨d, hd⟩ : ∃ d, d = w.heap.size := ⟨_, rfl⟩
  obtain ⟨rec, hrec⟩ : ∃ rec : LoopState → Option Code → Loop, rec = fun st pe => { state := st, pending := pe, fn, tmps := a.tmps, params := ps, assign, body, defers := d } := ⟨_, rfl⟩
  obtain ⟨U, hU⟩ : ∃ U, (w.alloc (.deferred (some []))).alloc (.loop (rec .ready none)) = U := ⟨_, rfl⟩
  have hUs : U.heap.size = d + 2 := by rw [← hU, hd]; simp
  have hl : U.heap[d + 1]? = some (.loop (rec .ready none)) := by
    rw [← hU, hd]; have := World.alloc_heap_new (w.alloc (.deferred (some []))) (.loop (rec .ready none)); rwa [World.size_alloc] at this
  have hk : U.heap[d]? = some (.deferred (some [])) := by
    rw [← hU, hd]; exact (blk_alloc_lt _ _ _ (by simp)).trans (World.alloc_heap_new w _)
  have hwU : Below w.heap.size w U := by rw [← hU]; exact ((Below.refl _ w).alloc (Nat.le_refl _) _).alloc (by simp) _
  -- the law's own two blocks
  let T : (Nat → Prop) → Nat → Prop := fun X r => X r ∨ r = d ∨ r = d + 1
  have hIU : I [] (T fun _ => False) U := by
    have s1 := hI [] (fun _ => False) (fun r => r = d) w _ none h0 (World.grownBy_alloc w (.deferred (some [])) none) (fun r e => by cases e) (fun r e => Or.inr (by subst e; simp; omega))
    have s2 := hI [] (fun r => r = d) (T fun _ => False) _ _ none s1 (World.grownBy_alloc _ (.loop (rec .ready none)) none) (fun r e => by cases e) (fun r e => by
      rcases e with e | e | e
      · exact e.elim
      · exact Or.inl e
      · right; subst e; simp; omega)
    rw [← hU]; exact s2
  refine ⟨d + 1, [{ target := .collected d, args := #[] }], U, { target := .fn (.func gf) lb, args := #[.func (.yield (d + 1)) #[] #[]] }, U, gf, #[.func (.yield (d + 1)) #[] #[]] ++ lb, U, ?_, ?_, ?_, ?_, fun _ => h1, ?_⟩
  · rw [← hU, hrec, hd]; exact run_enterLoop_outer _ _ _ _ _
  · simp only [resolve, hg]
    simp [go_sem]
  · intro f' hf'; simp [Target.leads] at hf'; subst hf'; exact hFg
  · simp [invoke, go_sem, eg]
  · have hab : ∀ {I' : List α → (Nat → Prop) → World → Prop} (st : Loop), AbidesR I' → AbidesR (fun pre X W => I' pre (T X) W ∧ W.heap[d + 1]? = some (.loop st) ∧ W.heap[d]? = some (.deferred (some [])) ∧ ¬ X d ∧ ¬ X (d + 1)) := by
      intro I' st hI' s X X' W W' row hs hgr hrow hX
      obtain ⟨h1, h2, h3, h4, h5⟩ := hs
      have q1 := (Array.getElem?_eq_some_iff.1 h2).1
      have q2 := (Array.getElem?_eq_some_iff.1 h3).1
      refine ⟨hI' s (T X) (T X') W W' row h1 hgr (fun r e => Or.inl (hrow r e)) (fun r e => ?_), (hgr.block _ q1 (fun e => h5 (hrow _ e.symm))).trans h2, (hgr.block _ q2 (fun e => h4 (hrow _ e.symm))).trans h3, fun e => ?_, fun e => ?_⟩
      · rcases e with e | e
        · rcases hX r e with e | e
          · exact Or.inl (Or.inl e)
          · exact Or.inr e
        · exact Or.inl (Or.inr e)
      · rcases hX _ e with e | e
        · exact h4 e
        · omega
      · rcases hX _ e with e | e
        · exact h5 e
        · omega
    refine (hseq (d + 1) (fun pre X W => I pre (T X) W ∧ W.heap[d + 1]? = some (.loop (rec .ready none)) ∧ W.heap[d]? = some (.deferred (some [])) ∧ ¬ X d ∧ ¬ X (d + 1))
      (fun pre X W => ∃ c, Ix c pre (T X) W ∧ W.heap[d + 1]? = some (.loop (rec .done (some c))) ∧ W.heap[d]? = some (.deferred (some [])) ∧ ¬ X d ∧ ¬ X (d + 1))
      U (hb0.trans (hwU.mono hb0.size)) (hab _ hI) (fun s X X' W W' row hs hgr hrow hX => by obtain ⟨c, hc⟩ := hs; exact ⟨c, hab _ (hIx c) s X X' W W' row hc hgr hrow hX⟩) ?_ ⟨hIU, hl, hk, id, id⟩).mono ?_
    · rintro pre x X W ⟨hi, hl, hk, hX1, hX2⟩ hlen hRx
      have hlt : d + 1 < W.heap.size := (Array.getElem?_eq_some_iff.1 hl).1
      have hy := run_yield (P := P) (args := encs x) hl (by rw [hrec]; exact hps x)
      rw [hrec] at hy
      refine ⟨fn, _, assign, body, hy, roundIn_of_wpIn hfn (hassign _ pre x (T X) W _ hi ?_)⟩
      clear hy
      obtain ⟨V, hV⟩ : ∃ V, V = W := ⟨_, rfl⟩
      rw [← hV] at hl hk hlt hi ⊢
      clear hV
      intro a' W Y hYs hYn hka hia hax
      have hVk := hlt
      replace hl := (hka.same (d + 1) (Or.inl (Or.inr (Or.inr rfl))) hlt).trans hl
      replace hk := (hka.same d (Or.inl (Or.inr (Or.inl rfl))) (by omega)).trans hk
      replace hlt : d + 1 < W.heap.size := (Array.getElem?_eq_some_iff.1 hl).1
      replace hi := hia
      refine ⟨_, run_beginRound hl (by rw [hrec]), ?_⟩
      obtain ⟨W2, hW2⟩ : ∃ W2, W.putObj (d + 1) (.loop { rec .ready none with state := .busy }) = W2 := ⟨_, rfl⟩
      have hl2 : W2.heap[d + 1]? = some (.loop { rec .ready none with state := .busy }) := by rw [← hW2]; exact World.putObj_heap_same hlt
      have hk2 : W2.heap[d]? = some (.deferred (some [])) := by rw [← hW2]; exact (World.putObj_heap_other (by omega)).trans hk
      have hYl : Y (d + 1) := hYs _ (Or.inr (Or.inr rfl))
      have hYd : Y d := hYs _ (Or.inr (Or.inl rfl))
      have hi2 : I pre Y W2 := by rw [← hW2]; exact hI.turn hi hYl _
      have hs2 : W2.heap.size = W.heap.size := by rw [← hW2]; simp [World.putObj]
      rw [hW2]
      have hax2 : Ax x Y a' W2 := by rw [← hW2]; exact hAx _ _ _ _ _ _ _ hax hl
      have less : ∀ {I' : List α → (Nat → Prop) → World → Prop}, AbidesR I' → ∀ {ys : List α} {U : World}, I' ys Y U → I' ys (T X) U := fun hI' ys U h => hI' ys Y (T X) U U none h (World.grownBy.refl _ _) (fun r e => by cases e) (fun r hr => Or.inl (hYs r hr))
      refine wpIn_mono (hbody _ pre x Y a' W2 ⟨_, hl2⟩ hi2 hax2 hlen hRx) ?_
      have fin : ∀ (jump : Option Code) (W3 : World), KeepsR (fun r => Y r ∨ Z r) W2 W3 →
          (Instr.endRound (d + 1) jump).run P W3 = .ok (.bool jump.isNone) (W3.putObj (d + 1) (.loop (rec (if jump.isNone then .ready else .done) jump))) ∧
          (W3.putObj (d + 1) (.loop (rec (if jump.isNone then .ready else .done) jump))).heap[d + 1]? = some (.loop (rec (if jump.isNone then .ready else .done) jump)) ∧
          (W3.putObj (d + 1) (.loop (rec (if jump.isNone then .ready else .done) jump))).heap[d]? = some (.deferred (some [])) ∧
          KeepsR (fun r => X r ∨ Z r) V (W3.putObj (d + 1) (.loop (rec (if jump.isNone then .ready else .done) jump))) := fun jump W3 hk3 => by
        have hl3 := (hk3.same (d + 1) (Or.inl hYl) (by omega)).trans hl2
        have hd3 := (hk3.same d (Or.inl hYd) (by omega)).trans hk2
        have := run_endRound (P := P) jump hl3
        rw [hrec] at this ⊢
        refine ⟨this, World.putObj_heap_same (Array.getElem?_eq_some_iff.1 hl3).1, (World.putObj_heap_other (by omega)).trans hd3, ⟨?_, fun r hr hlr => ?_⟩⟩
        · have := hk3.size
          have := hka.size
          simp [World.putObj]
          omega
        · have hne : r ≠ d + 1 := by
            rintro rfl
            rcases hr with hr | hr
            · exact hX2 hr
            · have := hZ _ hr; omega
          refine (World.putObj_heap_other hne).trans ((hk3.same r (hr.imp (fun h => hYs r (Or.inl h)) id) (by have := hka.size; omega)).trans (Eq.trans ?_ (hka.same r (hr.imp Or.inl id) hlr)))
          rw [← hW2]
          exact World.putObj_heap_other hne
      rintro e a3 W3 hp
      cases e with
      | normal =>
        obtain ⟨hk3, hi3⟩ := hp
        obtain ⟨hr, hl4, hk4, hk5⟩ := fin none W3 hk3
        exact ⟨_, _, hr, .inl ⟨rfl, ⟨hI.turn (less hI hi3) (Or.inr (Or.inr rfl)) _, hl4, hk4, hX1, hX2⟩, hk5⟩⟩
      | ret =>
        obtain ⟨hk3, hi3⟩ := hp
        obtain ⟨hr, hl4, hk4, hk5⟩ := fin (some .ret) W3 hk3
        exact ⟨_, _, hr, .inr ⟨rfl, ⟨.ret, (hIx _).turn (less (hIx _) hi3) (Or.inr (Or.inr rfl)) _, hl4, hk4, hX1, hX2⟩, hk5⟩⟩
      | exit id =>
        obtain ⟨hk3, hi3⟩ := hp
        obtain ⟨hr, hl4, hk4, hk5⟩ := fin (some (.exit id)) W3 hk3
        exact ⟨_, _, hr, .inr ⟨rfl, ⟨.exit id, (hIx _).turn (less (hIx _) hi3) (Or.inr (Or.inr rfl)) _, hl4, hk4, hX1, hX2⟩, hk5⟩⟩
      | goto t =>
        obtain ⟨hk3, hi3⟩ := hp
        obtain ⟨hr, hl4, hk4, hk5⟩ := fin (some (.goto t)) W3 hk3
        exact ⟨_, _, hr, .inr ⟨rfl, ⟨.goto t, (hIx _).turn (less (hIx _) hi3) (Or.inr (Or.inr rfl)) _, hl4, hk4, hX1, hX2⟩, hk5⟩⟩
      | panic ch => exact hp.elim
      | outgrown => exact hp.elim
    · rintro e W2 ⟨⟨v, rfl⟩, (⟨xs, X, hS, hi, hl, hk, _, _⟩ | ⟨pre, X, hSp, c, hi, hl, hk, _, _⟩)⟩
      · exact ⟨none, _, by have := run_endLoop (P := P) hl (by rw [hrec]; simp); rw [hrec] at this; exact this, hdone d xs (T X) _ (by omega) (Or.inr (Or.inl rfl)) hS (hI.turn hi (Or.inr (Or.inr rfl)) _) ((World.putObj_heap_other (by omega)).trans hk)⟩
      · exact ⟨some c, _, by have := run_endLoop (P := P) hl (by rw [hrec]; simp); rw [hrec] at this; exact this, hstop d c pre (T X) _ (by omega) (Or.inr (Or.inl rfl)) hSp ((hIx c).turn hi (Or.inr (Or.inr rfl)) _) ((World.putObj_heap_other (by omega)).trans hk)⟩
end
end Go.Proofs.YtakifcobofkheaaGreatDoor

/-
  What placesFrom yields: each place of a tree, from one of them on.
-/
namespace Go.Proofs.YtakifcobofkheaaGreatDoor
open Go.RowKit Go.Deep Go.Shelf
set_option linter.unusedVariables false
set_option linter.unusedSimpArgs false
attribute [local go_sem] Oper.semAt_some

def upF (f k : Nat) : List Nat := (List.range k).map (f + ·)
theorem upF_len (f k : Nat) : (upF f k).length = k := by simp [upF]
theorem upF_succ (f k : Nat) : upF f (k + 1) = upF f k ++ [f + k] := by simp [upF, List.range_succ]

set_option maxRecDepth 100000 in
set_option maxHeartbeats 4000000 in
theorem places1_in (q : Nat) (hq : 1 ≤ q) (l T S b off n c f : Nat) (now : Int) (D : Nat → Nd) (L : Nat → Loc) (hn : n ≤ 10) (hfn : f ≤ n) (a : Option Addr) (hA : f < n → a = some ⟨b, off, none⟩) (J : Nat → World → Prop) (Jx : World → Prop)
    (hY : ∀ k W, f + k < n → J k W → YieldAt Fence.wide (q - 1) Tryz.prog l #[.int .i64 ((f + k : Nat) : Int), ndV (D (f + k)) (L (f + k))] W fun e W' =>
      (e = .returned (.bool true) ∧ J (k + 1) W' ∧ W'.heap[T]? = W.heap[T]? ∧ (f < n → W'.heap[b]? = W.heap[b]?)) ∨ (e = .returned (.bool false) ∧ Jx W'))
    (W : World) (hT : W.cell? ⟨T, 0, none⟩ = some (.slice a n c)) (hSs : W.cell? ⟨S, 0, none⟩ = some (.int .i64 (f : Int)))
    (hc : ∀ i, f ≤ i → i < n → W.cell? ⟨b, off + i * 5, none⟩ = some (.int .i64 (D i).kind) ∧ W.cell? ⟨b, off + i * 5 + 1, none⟩ = some (.string (D i).text) ∧
      W.cell? ⟨b, off + i * 5 + 2, none⟩ = some (.slice (L i).nA (D i).nn (L i).nc) ∧ W.cell? ⟨b, off + i * 5 + 3, none⟩ = some (.slice (L i).kA (D i).kn (L i).kc) ∧ W.cell? ⟨b, off + i * 5 + 4, none⟩ = some (.int .i64 (D i).turn)) (h0 : J 0 W) :
    CallsIn Fence.wide q Tryz.prog 95 #[.func (.yield l) #[] #[], .pointer (some ⟨S, 0, none⟩), .pointer (some ⟨T, 0, none⟩)] W fun e W' => (∃ v, e = .returned v) ∧ (J (n - f) W' ∨ Jx W') := by
  have HC : Hid _ := hc
  clear hc
  refine callsIn_of_wp Tryz.func95 rfl trivial ?_ rfl
  simp only [Tryz.ntmps95, List.size_toArray, List.length_cons, List.length_nil, Nat.reduceAdd, Nat.reduceSub, Array.replicate_succ, Array.replicate_zero, List.push_toArray, List.append_toArray, List.nil_append, List.cons_append]
  gi_wp2
  gi_loopw [4] (fun i wr => ∃ k : Nat, f + k ≤ n ∧ i = .int .i64 ((f + k : Nat) : Int) ∧ J k wr ∧ wr.heap[T]? = W.heap[T]? ∧ (f < n → wr.heap[b]? = W.heap[b]?)) (fun i _ => n - (intOf i).toNat)
  case atStart => exact ⟨0, by omega, rfl, h0, rfl, fun _ => rfl⟩
  case round =>
    obtain ⟨k, hk, rfl, hJ, hT', hb⟩ := hrel
    have HJ : Hid (J k wr ∧ wr.heap[T]? = W.heap[T]? ∧ (f < n → wr.heap[b]? = W.heap[b]?)) := ⟨hJ, hT', hb⟩
    have cT : wr.cell? ⟨T, 0, none⟩ = some (.slice a n c) := (World.cell?_of_block (a := ⟨T, 0, none⟩) HJ.out.2.1).trans hT
    clear hJ hT' hb
    by_cases hlt : f + k < n
    · have hfn' : f < n := by omega
      have hA' := hA hfn'
      subst hA'
      have hlti : ((f + k : Nat) : Int) < (n : Int) := by omega
      have hcb : ∀ o, wr.cell? ⟨b, o, none⟩ = W.cell? ⟨b, o, none⟩ := fun o => World.cell?_of_block (a := ⟨b, o, none⟩) (HJ.out.2.2 hfn')
      obtain ⟨e0, e1, e2, e3, e4⟩ := HC.out (f + k) (by omega) hlt
      obtain ⟨fn, tmps, assign, body, hy, hR⟩ := hY k wr hlt HJ.out.1
      generalize hz : f + k = z at *
      have HZ : Hid (f + k = z) := hz
      clear hz
      have c0 := (hcb _).trans e0
      have c1 := (hcb _).trans e1
      have c2 := (hcb _).trans e2
      have c3 := (hcb _).trans e3
      have c4 := (hcb _).trans e4
      clear hcb e0 e1 e2 e3 e4
      dsimp only [ndV] at hy
      gi_wp2
      refine hR.mono ?_
      rintro e' W3 (⟨rfl, hJ3, hk3⟩ | ⟨rfl, hJx3⟩)
      · have HJ3 : Hid (J (k + 1) W3 ∧ W3.heap[T]? = W.heap[T]? ∧ (f < n → W3.heap[b]? = W.heap[b]?)) := ⟨hJ3, hk3.1.trans HJ.out.2.1, fun h => (hk3.2 h).trans (HJ.out.2.2 h)⟩
        clear hJ3 hk3 hy hR c0 c1 c2 c3 c4 cT
        gi_wp2
        go_roundw
        case rel => exact ⟨k + 1, by have := HZ.out; omega, by have := HZ.out; go_num, HJ3.out⟩
        case measure => simp [intOf]; omega
      · have HX : Hid (Jx W3) := hJx3
        clear hJx3 hy hR c0 c1 c2 c3 c4 cT
        gi_wp2
        refine bodyPost_ret (results_none rfl _ _ _) rfl ?_
        exact ⟨⟨_, rfl⟩, .inr HX.out⟩
    · have hkn : k = n - f := by omega
      have hltn : decide (f + k < n) = false := by simp; omega
      have HE : Hid (J (n - f) wr) := hkn ▸ HJ.out.1
      clear hkn
      gi_wp2
      refine bodyPost_end (results_none rfl _ _ _) rfl ?_
      exact ⟨⟨_, rfl⟩, .inl HE.out⟩

set_option maxHeartbeats 1000000 in
/-- placesFrom: the tree and the first place are boxed; the function value holds the boxes. -/
theorem places_in (q : Nat) (a : Option Addr) (n c f : Nat) (now : Int) (w : World) :
    CallsIn Fence.wide q Tryz.prog 64 #[trV a n c now, .int .i64 (f : Int)] w fun e w' => e = .returned (.func (.func 95) #[] #[.pointer (some ⟨w.heap.size + 1, 0, none⟩), .pointer (some ⟨w.heap.size, 0, none⟩)]) ∧ w' = (w.alloc (.cells #[.slice a n c, .int .i64 now] 33)).alloc (.cells #[.int .i64 (f : Int)] 3) := by
  unfold trV
  refine callsIn_of_wp Tryz.func64 rfl trivial ?_ rfl
  simp only [Tryz.ntmps64, List.size_toArray, List.length_cons, List.length_nil, Nat.reduceAdd, Nat.reduceSub, Array.replicate_succ, Array.replicate_zero, List.push_toArray, List.append_toArray, List.nil_append, List.cons_append]
  gi_wp2
  go_ret
  exact ⟨rfl, rfl⟩

theorem places_R (q : Nat) (hq : 1 ≤ q) (T S b off n c f : Nat) (now : Int) (D : Nat → Nd) (L : Nat → Loc) (hn : n ≤ 10) (hfn : f ≤ n) (a : Option Addr) (hA : f < n → a = some ⟨b, off, none⟩) (w0 : World)
    (hT : w0.cell? ⟨T, 0, none⟩ = some (.slice a n c)) (hTl : T < w0.heap.size) (hSs : w0.cell? ⟨S, 0, none⟩ = some (.int .i64 (f : Int))) (hSl : S < w0.heap.size) (hbl : f < n → b < w0.heap.size)
    (hc : ∀ i, i < n → w0.cell? ⟨b, off + i * 5, none⟩ = some (.int .i64 (D i).kind) ∧ w0.cell? ⟨b, off + i * 5 + 1, none⟩ = some (.string (D i).text) ∧
      w0.cell? ⟨b, off + i * 5 + 2, none⟩ = some (.slice (L i).nA (D i).nn (L i).nc) ∧ w0.cell? ⟨b, off + i * 5 + 3, none⟩ = some (.slice (L i).kA (D i).kn (L i).kc) ∧ w0.cell? ⟨b, off + i * 5 + 4, none⟩ = some (.int .i64 (D i).turn)) :
    SeqR Fence.wide q Tryz.prog 95 #[.pointer (some ⟨S, 0, none⟩), .pointer (some ⟨T, 0, none⟩)] (fun x : Nat => #[.int .i64 (x : Int), ndV (D x) (L x)]) (fun r => r = T ∨ (r = b ∧ f < n)) (fun xs => xs = upF f (n - f)) (fun _ => True) (fun pre x => x = f + pre.length ∧ x < n ∧ pre = upF f pre.length) (n - f) w0 := by
  intro l J Jx W hW hJ hJx hY h0
  refine (places1_in q hq l T S b off n c f now D L hn hfn a hA (fun k W => J (upF f k) (fun _ => False) W ∧ T < W.heap.size ∧ (f < n → b < W.heap.size)) (fun W => ∃ p X, Jx p X W) ?_ W ((hW.cell (p := ⟨T, 0, none⟩) hTl).trans hT) ((hW.cell (p := ⟨S, 0, none⟩) hSl).trans hSs) ?_ ⟨h0, Nat.lt_of_lt_of_le hTl hW.size, fun h => Nat.lt_of_lt_of_le (hbl h) hW.size⟩).mono ?_
  · rintro k W1 hk ⟨hp, hp1, hp2⟩
    have hlt : f < n := by omega
    obtain ⟨fn, tmps, assign, body, hy, hR⟩ := hY (upF f k) (f + k) _ W1 hp (by rw [upF_len]; omega) ⟨by rw [upF_len], hk, by rw [upF_len]⟩
    refine ⟨fn, tmps, assign, body, hy, hR.mono ?_⟩
    rintro e W2 (⟨rfl, h1, h2⟩ | ⟨rfl, h1, _⟩)
    · exact Or.inl ⟨rfl, ⟨by rw [upF_succ]; exact h1, Nat.lt_of_lt_of_le hp1 h2.size, fun h => Nat.lt_of_lt_of_le (hp2 h) h2.size⟩, h2.same T (Or.inr (Or.inl rfl)) hp1, fun h => h2.same b (Or.inr (Or.inr ⟨rfl, h⟩)) (hp2 h)⟩
    · exact Or.inr ⟨rfl, _, _, h1⟩
  · intro i hfi hi
    obtain ⟨c0, c1, c2, c3, c4⟩ := hc i hi
    have hbn : ∀ o v, w0.cell? ⟨b, o, none⟩ = some v → W.cell? ⟨b, o, none⟩ = some v := fun o v hv => (hW.cell (p := ⟨b, o, none⟩) (hbl (by omega))).trans hv
    exact ⟨hbn _ _ c0, hbn _ _ c1, hbn _ _ c2, hbn _ _ c3, hbn _ _ c4⟩
  · rintro e W2 ⟨hv, ⟨h1, _⟩ | ⟨p, X, h2⟩⟩
    · exact ⟨hv, Or.inl ⟨_, _, rfl, h1⟩⟩
    · exact ⟨hv, Or.inr ⟨p, X, trivial, h2⟩⟩
end Go.Proofs.YtakifcobofkheaaGreatDoor
