/-
  Texts that the proof needs, laid one behind the other.
-/
import Derived.Test.YtakifcobofkheaaGreatDoorCardJobNewB4

/-
  What l2Tree of the specification answers: the same tree in new memory.
-/
namespace Go.Proofs.YtakifcobofkheaaGreatDoor
open Go.RowKit Go.Deep
set_option linter.unusedVariables false
set_option linter.unusedSimpArgs false
set_option linter.unnecessarySimpa false

theorem blk_grownT {w w' : World} {b : Nat} {cs : Array Value} {t : TypeId} {r : Option Nat} (h : Blk w b cs t) (hg : w.grownBy w' r) (hr : r ≠ some b) : Blk w' b cs t := h.of_block (hg.block b h.lt (fun e => hr e.symm))

/-- The boxes. -/
structure Tc (w : World) (a : Option Addr) (n c : Nat) (now : Int) (W : World) : Prop where
  p : Blk W w.heap.size #[.slice a n c, .int .i64 now] 33
  r : Blk W (w.heap.size + 1) #[.slice none 0 0, .int .i64 0] 33
  bel : Below w.heap.size w W

theorem Tc.below {w : World} {a : Option Addr} {n c : Nat} {now : Int} {W W' : World} (h : Tc w a n c now W) (hb : Below W.heap.size W W') : Tc w a n c now W' := ⟨h.p.below hb h.p.lt, h.r.below hb h.r.lt, h.bel.trans (hb.mono h.bel.size)⟩

theorem Tc.of {w W0 : World} {a : Option Addr} {n c : Nat} {now : Int} (h : Tc w a n c now W0) {V : Nat} {t : Int} {k : Nat} {b : Option Addr} {bc : Nat} {E : Nat → Nd} {M : Nat → Loc} {W : World} (g : GT W0 V t k b bc E M W) (hV : w.heap.size + 1 < V) : Tc w a n c now W :=
  ⟨h.p.of_block (g.keep h.p.lt (by omega)), h.r.of_block (g.keep h.r.lt (by omega)), h.bel.grown g.gr (by have := h.bel.size; omega) (fun j e => by have := Option.some.inj e; omega)⟩

set_option maxRecDepth 100000 in
set_option maxHeartbeats 8000000 in
theorem l2Tree_any (a : Option Addr) (n c : Nat) (now : Int) (D : Nat → Nd) (L : Nat → Loc) (w : World) (hS : IsNds w a n D L) (hn : n ≤ 1000) (hsz : sizeTo D n ≤ 1048576) :
    Calls Tryz.prog 65 #[trV a n c now] w fun e w' => ∃ b bc M, e = .returned (.agg #[.slice b n bc, .int .i64 now]) ∧ Below w.heap.size w w' ∧ OT w' w.heap.size 0 (fun _ => false) n (fun _ => 0) D M (.slice none 0 0) (.slice b n bc) := by
  unfold trV
  obtain ⟨y0, hy, hy0, hy1, hy2⟩ := info_parts infoNode
  have htS := tr_small hsz
  go_enter Tryz.func65, Tryz.ntmps65
  go_wp2_with fail
  refine wp_world (F := fun W => Tc w a n c now W ∧ Blk W (w.heap.size + 1 + 1) #[.slice none 0 0, .int .i64 now] 33 ∧ w.heap.size + 3 ≤ W.heap.size) ?_ ?_
  · obtain ⟨h0, h1, h2, hb, hs⟩ := new3 w #[.slice a n c, .int .i64 now] 33 #[.slice none 0 0, .int .i64 0] 33 #[.slice none 0 0, .int .i64 now] 33
    exact ⟨⟨h0, h1, hb⟩, h2, by omega⟩
  rintro W0 ⟨hO, hV, hs0⟩
  have HO : Hid (Tc w a n c now W0) := hO
  have HG : Hid (GT W0 (w.heap.size + 1 + 1) now 0 none 0 (fun _ => ndZero) (fun _ => ⟨none, 0, none, 0⟩) W0) := GT.start hV _ _
  clear hO hV
  go_loopw [4] (fun i wr => ∃ (k : Nat) (b : Option Addr) (bc : Nat) (E : Nat → Nd) (M : Nat → Loc), k ≤ n ∧ i = .int .i64 k ∧ GT W0 (w.heap.size + 1 + 1) now k b bc E M wr ∧ ∀ i, i < k → E i = D i) (fun i _ => n - (intOf i).toNat)
  case atStart => exact ⟨0, none, 0, _, _, Nat.zero_le _, rfl, HG.out, fun i hi => absurd hi (Nat.not_lt_zero _)⟩
  case round =>
    obtain ⟨k, b, bc, E, M, hk, rfl, hin, hsel⟩ := hrel
    have HIN : Hid (GT W0 (w.heap.size + 1 + 1) now k b bc E M wr ∧ ∀ i, i < k → E i = D i) := ⟨hin, hsel⟩
    have HT : Hid (Tc w a n c now wr) := HO.out.of hin (by omega)
    have hsw : w.heap.size + 3 ≤ wr.heap.size := by have := hin.size; omega
    clear hin hsel
    have p0 : wr.cell? ⟨w.heap.size, 0, none⟩ = some (.slice a n c) := HT.out.p.cell 0
    have v0 : wr.cell? ⟨w.heap.size + 1 + 1, 0, none⟩ = some (.slice b k bc) := HIN.out.1.v.cell 0
    have v1 : wr.cell? ⟨w.heap.size + 1 + 1, 1, none⟩ = some (.int .i64 now) := HIN.out.1.v.cell 1
    by_cases hlt : k < n
    · have hlti : (k : Int) < (n : Int) := by omega
      obtain ⟨bT, oT, hT, hTl, hTc⟩ := (hS.below (Nat.le_refl _) HT.out.bel).at hlt
      have HTA : Hid (a = some ⟨bT, oT, none⟩) := hT
      clear hT hTc
      go_wp2_with fail
      have HW : Hid (bT < w.heap.size ∧ ∀ W', Below wr.heap.size wr W' → (W'.cell? ⟨w.heap.size + 1 + 1, 0, none⟩ = some (.slice b k bc) ∧ W'.cell? ⟨w.heap.size, 0, none⟩ = some (.slice (some ⟨bT, oT, none⟩) n c) ∧ W'.cell? ⟨bT, oT + k * 5, none⟩ = some (.int .i64 (D k).kind) ∧ W'.cell? ⟨bT, oT + k * 5 + 1, none⟩ = some (.string (D k).text) ∧ W'.cell? ⟨bT, oT + k * 5 + 2, none⟩ = some (.slice (L k).nA (D k).nn (L k).nc) ∧ W'.cell? ⟨bT, oT + k * 5 + 3, none⟩ = some (.slice (L k).kA (D k).kn (L k).kc) ∧ W'.cell? ⟨bT, oT + k * 5 + 4, none⟩ = some (.int .i64 (D k).turn)) ∧ NdIn W' (D k) (L k)) := by
        show _ ∧ _
        obtain ⟨bI, oI, hQ, hbl, _⟩ := hS.at hlt
        have hQT := HTA.out
        rw [hQ] at hQT
        obtain ⟨rfl, rfl⟩ : bI = bT ∧ oI = oT := by cases hQT; exact ⟨rfl, rfl⟩
        refine ⟨by omega, fun W' hW => ?_⟩
        have hcc : W'.cell? ⟨w.heap.size, 0, none⟩ = some (.slice a n c) := (HT.out.below hW).p.cell 0
        have hv3 : W'.cell? ⟨w.heap.size + 1 + 1, 0, none⟩ = some (.slice b k bc) := (HIN.out.1.below hW).v.cell 0
        obtain ⟨bI', oI', hQ', _, hc'⟩ := ((hS.below (Nat.le_refl _) HT.out.bel).below (Nat.le_refl _) hW).at hlt
        obtain ⟨d1, d2, d3, d4, d5, d6⟩ := hc' k hlt
        rw [hQ] at hQ'
        cases hQ'
        refine ⟨⟨hv3, ?_, d1, d2, d3, d4, d5⟩, d6⟩
        rw [← hQ]
        exact hcc
      obtain ⟨hbIl, hSt⟩ := HW.out
      have HSt : Hid _ := hSt
      have hsm := htS k hlt
      clear p0 v0 v1 hSt HW
      have hd5 : Below wr.heap.size wr wr.drew := below_drewN (Below.refl _ _) 1
      refine wp_region_noPanic ?_
      refine wp_region_peel2 (fun W' => W'.cell? ⟨w.heap.size + 1 + 1, 0, none⟩ = some (.slice b k bc) ∧ W'.cell? ⟨w.heap.size, 0, none⟩ = some (.slice (some ⟨bT, oT, none⟩) n c) ∧ W'.cell? ⟨bT, oT + k * 5, none⟩ = some (.int .i64 (D k).kind) ∧ W'.cell? ⟨bT, oT + k * 5 + 1, none⟩ = some (.string (D k).text) ∧ W'.cell? ⟨bT, oT + k * 5 + 2, none⟩ = some (.slice (L k).nA (D k).nn (L k).nc) ∧ W'.cell? ⟨bT, oT + k * 5 + 3, none⟩ = some (.slice (L k).kA (D k).kn (L k).kc) ∧ W'.cell? ⟨bT, oT + k * 5 + 4, none⟩ = some (.int .i64 (D k).turn)) _ _ (by kernel_rfl) rfl rfl (by kernel_rfl) (by kernel_rfl) ?_ (fun hHeld => ?_)
      · exact (HSt.out _ hd5).1
      simp only [List.pop_toArray, List.dropLast, List.size_toArray, List.length_cons, List.length_nil, Nat.reduceAdd, Nat.reduceSub, List.getElem_toArray, List.getElem_cons_succ, List.getElem_cons_zero]
      refine peel_take (i := 0) (oi := ?oi0y) (v := ?v0y) (fun _ _ _ _ _ h => h) hHeld ?hi0y (by kernel_rfl) (by kernel_rfl) (by kernel_rfl) ?hw0y ?hy0y ?rest0y
      case hi0y =>
        simp only [List.getElem?_toArray, List.getElem?_cons_zero]
        rfl
      case hw0y => rfl
      case hy0y =>
        intro w hSw
        obtain ⟨s0, s1, s2, s3, s4, s5, s6⟩ := hSw
        go_simp
        try with_reducible rfl
      try simp only [Act.put, List.setIfInBounds_toArray, List.set_cons_zero, List.set_cons_succ]
      refine peel_take (i := 1) (oi := ?oi1y) (v := ?v1y) (fun _ _ _ _ _ h => h) hHeld ?hi1y (by kernel_rfl) (by kernel_rfl) (by kernel_rfl) ?hw1y ?hy1y ?rest1y
      case hi1y =>
        simp only [List.getElem?_toArray, List.getElem?_cons_succ, List.getElem?_cons_zero]
        rfl
      case hw1y => rfl
      case hy1y =>
        intro w hSw
        obtain ⟨s0, s1, s2, s3, s4, s5, s6⟩ := hSw
        go_simp
        try with_reducible rfl
      try simp only [Act.put, List.setIfInBounds_toArray, List.set_cons_zero, List.set_cons_succ]
      refine peel_take (i := 2) (oi := ?oi2y) (v := ?v2y) (fun _ _ _ _ _ h => h) hHeld ?hi2y (by kernel_rfl) (by kernel_rfl) (by kernel_rfl) ?hw2y ?hy2y ?rest2y
      case hi2y =>
        simp only [List.getElem?_toArray, List.getElem?_cons_succ, List.getElem?_cons_zero]
        rfl
      case hw2y => rfl
      case hy2y =>
        intro w hSw
        obtain ⟨s0, s1, s2, s3, s4, s5, s6⟩ := hSw
        go_simp
        try with_reducible rfl
      try simp only [Act.put, List.setIfInBounds_toArray, List.set_cons_zero, List.set_cons_succ]
      refine peel_take (i := 3) (oi := ?oi3y) (v := ?v3y) (fun _ _ _ _ _ h => h) hHeld ?hi3y (by kernel_rfl) (by kernel_rfl) (by kernel_rfl) ?hw3y ?hy3y ?rest3y
      case hi3y =>
        simp only [List.getElem?_toArray, List.getElem?_cons_succ, List.getElem?_cons_zero]
        rfl
      case hw3y => rfl
      case hy3y =>
        intro w hSw
        obtain ⟨s0, s1, s2, s3, s4, s5, s6⟩ := hSw
        go_simp
        try with_reducible rfl
      try simp only [Act.put, List.setIfInBounds_toArray, List.set_cons_zero, List.set_cons_succ]
      refine peel_take (i := 4) (oi := ?oi4y) (v := ?v4y) (fun _ _ _ _ _ h => h) hHeld ?hi4y (by kernel_rfl) (by kernel_rfl) (by kernel_rfl) ?hw4y ?hy4y ?rest4y
      case hi4y =>
        simp only [List.getElem?_toArray, List.getElem?_cons_succ, List.getElem?_cons_zero]
        rfl
      case hw4y => rfl
      case hy4y =>
        intro w hSw
        obtain ⟨s0, s1, s2, s3, s4, s5, s6⟩ := hSw
        go_simp
        try with_reducible rfl
      try simp only [Act.put, List.setIfInBounds_toArray, List.set_cons_zero, List.set_cons_succ]
      refine peel_take (i := 5) (oi := ?oi5y) (v := ?v5y) (fun _ _ _ _ _ h => h) hHeld ?hi5y (by kernel_rfl) (by kernel_rfl) (by kernel_rfl) ?hw5y ?hy5y ?rest5y
      case hi5y =>
        simp only [List.getElem?_toArray, List.getElem?_cons_succ, List.getElem?_cons_zero]
        rfl
      case hw5y => rfl
      case hy5y =>
        intro w hSw
        obtain ⟨s0, s1, s2, s3, s4, s5, s6⟩ := hSw
        go_simp
        try with_reducible rfl
      try simp only [Act.put, List.setIfInBounds_toArray, List.set_cons_zero, List.set_cons_succ]
      refine peel_take (i := 6) (oi := ?oi6y) (v := ?v6y) (fun _ _ _ _ _ h => h) hHeld ?hi6y (by kernel_rfl) (by kernel_rfl) (by kernel_rfl) ?hw6y ?hy6y ?rest6y
      case hi6y =>
        simp only [List.getElem?_toArray, List.getElem?_cons_succ, List.getElem?_cons_zero]
        rfl
      case hw6y => rfl
      case hy6y =>
        intro w hSw
        obtain ⟨s0, s1, s2, s3, s4, s5, s6⟩ := hSw
        go_simp
        try with_reducible rfl
      try simp only [Act.put, List.setIfInBounds_toArray, List.set_cons_zero, List.set_cons_succ]
      refine wpAnyH_ready (rs := [7]) (by kernel_rfl) (by simp) ?_
      refine AllReadyH.cons (o := ?o7y) ?ho7y (fun K hK => ?st7y) AllReadyH.nil
      case ho7y =>
        simp only [List.getElem?_toArray, List.getElem?_cons_succ, List.getElem?_cons_zero]
        rfl
      go_simp
      refine (l2Copy_any (D k) (L k) wr.drew (HSt.out _ hd5).2 hsm.1 hsm.2.1).mono ?_
      rintro e W6 ⟨l5, rfl, hN5⟩
      unfold ndV
      have hb6 : Below wr.heap.size wr W6 := hd5.trans hN5.bel
      refine hK.out _ _ (HSt.out W6 hb6).1 (fun hHeld => ?re7y)
      clear hK K
      try simp only [Act.put, List.setIfInBounds_toArray, List.set_cons_zero, List.set_cons_succ]
      refine wpAnyH_ready (rs := [8]) (by kernel_rfl) (by simp) ?_
      refine AllReadyH.cons (o := ?o8y) ?ho8y (fun K hK => ?st8y) AllReadyH.nil
      case ho8y =>
        simp only [List.getElem?_toArray, List.getElem?_cons_succ, List.getElem?_cons_zero]
        rfl
      go_simp
      have hb7 : Below wr.heap.size wr (W6.alloc (.cells #[.int .i64 (D k).kind, .string (D k).text, .slice l5.nA (D k).nn l5.nc, .slice l5.kA (D k).kn l5.kc, .int .i64 (D k).turn] 87)) := hb6.alloc hb6.size _
      refine hK.out _ _ (HSt.out _ hb7).1 (fun hHeld => ?re8y)
      clear hK K
      try simp only [Act.put, List.setIfInBounds_toArray, List.set_cons_zero, List.set_cons_succ]
      refine wpAnyH_ready (rs := [9]) (by kernel_rfl) (by simp) ?_
      refine AllReadyH.cons (o := ?o9y) ?ho9y (fun K hK => ?st9y) AllReadyH.nil
      case ho9y =>
        simp only [List.getElem?_toArray, List.getElem?_cons_succ, List.getElem?_cons_zero]
        rfl
      have hD6 := HIN.out.1.below hb7
      have hN6 := hN5.new.alloc (.cells #[.int .i64 (D k).kind, .string (D k).text, .slice l5.nA (D k).nn l5.nc, .slice l5.kA (D k).kn l5.kc, .int .i64 (D k).turn] 87)
      have hneV : (Value.slice b k bc).ownBlock ≠ some (w.heap.size + 1 + 1) := fun e => by have := HIN.out.1.own _ e; omega
      have hbo5 : ∀ q, (Value.slice b k bc).ownBlock = some q → W0.heap.size ≤ q := fun q e => (HIN.out.1.own q e).1
      refine step_of (by rfl) (wp_append_src (.tmp 16) (.tmp 23) 31 rfl W0.heap.size 87 y0 (.agg #[.int .i64 0, .string ByteArray.empty, .slice none 0 0, .slice none 0 0, .int .i64 0]) 5 80 Tryz.underlying31 hy hy0 hy1 hy2 rfl (by decide) (.slice b k bc) k _ (by rfl) hD6.ot.ownI _ 1 _ (by rfl) (src_node W6 (D k) l5) (by unfold maxLen; omega) (by omega) (by have := hb7.size; have := HIN.out.1.size; omega) ?_)
      intro vI W7 hown hgrow hnil hat
      rcases hown.2 with ⟨_, h0⟩ | ⟨gI, cI, cur, hvI, _, _, _⟩
      · omega
      subst hvI
      have hbI : (Value.slice b k bc).ownBlock = some gI ∨ (W6.alloc (.cells #[.int .i64 (D k).kind, .string (D k).text, .slice l5.nA (D k).nn l5.nc, .slice l5.kA (D k).kn l5.kc, .int .i64 (D k).turn] 87)).heap.size ≤ gI := by
        rcases hat with e | e
        · exact Or.inl e.symm
        · right
          have e' : gI = (W6.alloc (.cells #[.int .i64 (D k).kind, .string (D k).text, .slice l5.nA (D k).nn l5.nc, .slice l5.kA (D k).kn l5.kc, .int .i64 (D k).turn] 87)).heap.size := by simpa [Value.ownBlock] using e
          omega
      have hV7 := blk_grownT hD6.v hgrow hneV
      have hHeld7 : W7.cell? ⟨w.heap.size + 1 + 1, 0, none⟩ = some (.slice b k bc) ∧ W7.cell? ⟨w.heap.size, 0, none⟩ = some (.slice (some ⟨bT, oT, none⟩) n c) ∧ W7.cell? ⟨bT, oT + k * 5, none⟩ = some (.int .i64 (D k).kind) ∧ W7.cell? ⟨bT, oT + k * 5 + 1, none⟩ = some (.string (D k).text) ∧ W7.cell? ⟨bT, oT + k * 5 + 2, none⟩ = some (.slice (L k).nA (D k).nn (L k).nc) ∧ W7.cell? ⟨bT, oT + k * 5 + 3, none⟩ = some (.slice (L k).kA (D k).kn (L k).kc) ∧ W7.cell? ⟨bT, oT + k * 5 + 4, none⟩ = some (.int .i64 (D k).turn) := by
        obtain ⟨e0, e1, e2, e3, e4, e5, e6⟩ := (HSt.out _ hb7).1
        have hlow : ∀ q o v, q < W0.heap.size → (W6.alloc (.cells #[.int .i64 (D k).kind, .string (D k).text, .slice l5.nA (D k).nn l5.nc, .slice l5.kA (D k).kn l5.kc, .int .i64 (D k).turn] 87)).cell? ⟨q, o, none⟩ = some v → W7.cell? ⟨q, o, none⟩ = some v := fun q o v hq h => hgrow.cell h (fun e => by have := hbo5 q e.symm; omega)
        exact ⟨hV7.cell 0, hlow _ _ _ (by omega) e1, hlow _ _ _ (by omega) e2, hlow _ _ _ (by omega) e3, hlow _ _ _ (by omega) e4, hlow _ _ _ (by omega) e5, hlow _ _ _ (by omega) e6⟩
      have H8 : Hid _ := (HIN.out.1.below hd5).item hN6 hgrow hown hbI
      refine hK.out _ _ hHeld7 (fun hHeld => ?re9y)
      clear hK K
      try simp only [Act.put, List.setIfInBounds_toArray, List.set_cons_zero, List.set_cons_succ]
      refine wpAnyH_done (by kernel_rfl) ?_ _
      show Oper.wp _ _ _ _ _ _
      have v07 : W7.cell? ⟨w.heap.size + 1 + 1, 0, none⟩ = some (.slice b k bc) := hV7.cell 0
      have f07 := hV7.frozen 0
      clear hown hgrow hnil hat hbI hV7 hHeld7 hN6 hD6 hN5 HSt hneV hHeld hd5 hb6 hb7 hsm hbo5
      go_simp
      show Oper.wp _ _ _ _ _ _
      go_simp
      refine NoPanic.normal ?_
      go_wp2_with fail
      go_roundw
      case rel => exact ⟨k + 1, some ⟨gI, 0, none⟩, cI, _, _, by omega, by go_num, H8.out, fun i hi => by
        by_cases e : i = k
        · subst e; simp
        · simp only [e, if_false]; exact HIN.out.2 i (by omega)⟩
      case measure => simp [intOf]; omega
    · obtain rfl : k = n := by omega
      have HOT : Hid (OT wr W0.heap.size 0 (fun _ => false) k (fun _ => 0) D M (.slice none 0 0) (.slice b k bc)) := HIN.out.1.ot.ext fun i hi => ⟨(HIN.out.2 i hi).symm, rfl⟩
      have r0 : wr.cell? ⟨w.heap.size + 1, 0, none⟩ = some (.slice none 0 0) := HT.out.r.cell 0
      have r1 : wr.cell? ⟨w.heap.size + 1, 1, none⟩ = some (.int .i64 0) := HT.out.r.cell 1
      have g0 := HT.out.r.frozen 0
      have g1 := HT.out.r.frozen 1
      go_wp2_with fail
      refine end_world (F := fun U => Blk U (w.heap.size + 1) #[.slice b k bc, .int .i64 now] 33 ∧ Below w.heap.size w U ∧ OT U w.heap.size 0 (fun _ => false) k (fun _ => 0) D M (.slice none 0 0) (.slice b k bc)) ⟨(HT.out.r.set 0 _).set 1 _, bel_put (bel_put HT.out.bel _ (by omega)) _ (by omega), OT.lower ((HOT.out.off _ (by omega)).off _ (by omega)) (by omega)⟩ ?_
      rintro U ⟨hr, hB, hot⟩
      have e0 : U.cell? ⟨w.heap.size + 1, 0, none⟩ = some (.slice b k bc) := hr.cell 0
      have e1 : U.cell? ⟨w.heap.size + 1, 1, none⟩ = some (.int .i64 now) := hr.cell 1
      exact bodyPost_ret (v := .agg #[.slice b k bc, .int .i64 now]) (by simp [results, Tryz.results65, go_sem, e0, e1]) rfl ⟨b, bc, M, rfl, hB, hot⟩

theorem l2Tree_own (t : Tr) (l : TLoc) (w : World) (hI : TIn w t l) (hn : t.n ≤ 1000) (hs : t.size ≤ 1048576) :
    Calls Tryz.prog 65 #[tV t l] w fun e w' => ∃ l', e = .returned (tV t l') ∧ Below w.heap.size w w' ∧ OwnTr w' w.heap.size t l' := by
  refine (l2Tree_any l.a t.n l.c t.now t.D l.L w hI hn (by unfold Tr.size at hs; omega)).mono ?_
  rintro e w' ⟨b, bc, M, rfl, hb, ho⟩
  exact ⟨⟨b, bc, M⟩, rfl, hb, ho⟩
end Go.Proofs.YtakifcobofkheaaGreatDoor

/-
  What l5Copy of the specification answers: the same, in new memory.
-/
namespace Go.Proofs.YtakifcobofkheaaGreatDoor
open Go.RowKit Go.Deep
set_option linter.unusedVariables false
set_option linter.unusedSimpArgs false
set_option linter.unnecessarySimpa false

/-- The boxes. -/
structure Dc (w : World) (d : Dp) (l : DLoc) (W : World) : Prop where
  p : Blk W w.heap.size (pC d l) 36
  r : Blk W (w.heap.size + 1) #[.int .i64 0, .int .i64 0, .slice none 0 0, .slice none 0 0] 36
  bel : Below w.heap.size w W

theorem Dc.below {w : World} {d : Dp} {l : DLoc} {W W' : World} (h : Dc w d l W) (hb : Below W.heap.size W W') : Dc w d l W' := ⟨h.p.below hb h.p.lt, h.r.below hb h.r.lt, h.bel.trans (hb.mono h.bel.size)⟩

/-- The blocks that are kept. -/
def DcX (w : World) (j : Nat) : Prop := j = w.heap.size ∨ j = w.heap.size + 1

theorem Dc.of {w W0 : World} {d : Dp} {l : DLoc} (h : Dc w d l W0) {B : Nat} {since date : Int} {n : Nat} {Z : Nat → Bool} {V : Nat} {lA : Option Addr} {lc m : Nat} {ia : Option Addr} {ic : Nat} {O : Nat → Int} {E : Nat → Nd} {M : Nat → Loc} {W : World} (g : GOf w W0 B (DcX w) since date n Z V lA lc m ia ic O E M W) : Dc w d l W :=
  ⟨h.p.of_block (g.kept _ (Or.inl rfl)), h.r.of_block (g.kept _ (Or.inr rfl)), g.bel⟩

set_option maxRecDepth 100000 in
set_option maxHeartbeats 8000000 in
theorem l5Copy_any (d : Dp) (l : DLoc) (w : World) (hD : DpIn w d l) (hok : d.ok = true) (hs : d.size ≤ 1048576) :
    Calls Tryz.prog 75 #[dpV d l] w fun e w' => ∃ l', e = .returned (dpV d l') ∧ Below w.heap.size w w' ∧ OwnDp w' w.heap.size d l' := by
  unfold dpV
  obtain ⟨q0, hq, hq0, hq1, hq2⟩ := info_parts infoBool
  obtain ⟨y0, hy, hy0, hy1, hy2⟩ := info_parts infoItem
  have hln1 := (ok_head1 hok).1
  have hln10 := (ok_head1 hok).2
  have hm10 := m_small hok
  go_enter Tryz.func75, Tryz.ntmps75
  go_wp2_with fail
  refine wp_world (F := fun W => Dc w d l W ∧ w.heap.size + 2 ≤ W.heap.size) ?_ ?_
  · obtain ⟨h0, h1, hb, hs'⟩ := new2 w (pC d l) 36 #[.int .i64 0, .int .i64 0, .slice none 0 0, .slice none 0 0] 36
    exact ⟨⟨h0, h1, hb⟩, by simp⟩
  rintro w2 ⟨hO, hs2⟩
  have H2 : Hid (Dc w d l w2) := hO
  clear hO
  have HX : Hid (∀ j, DcX w j → j < w2.heap.size) := fun j hj => by unfold DcX at hj; omega
  have HSrc : Hid (∀ W', Below w2.heap.size w2 W' → Src W' 1 (.slice l.lA d.ln l.lc) d.ln (boolv d.ln d.live)) := fun W' hW => bools_src ((hD.live.below (Nat.le_refl _) H2.out.bel).below (Nat.le_refl _) hW) hln1 _
  have HSt : Hid (∀ W', Below w2.heap.size w2 W' → W'.cell? ⟨w.heap.size, 0, none⟩ = some (.int .i64 d.since) ∧ W'.cell? ⟨w.heap.size, 1, none⟩ = some (.int .i64 d.date) ∧ W'.cell? ⟨w.heap.size, 2, none⟩ = some (.slice l.lA d.ln l.lc)) := fun W' hW => by
    have h := pC_cells (H2.out.below hW).p
    exact ⟨h.1, h.2.1, h.2.2.1⟩
  apply wp_cutqT (X := Nat) (Y := Nat) (Z := Nat) (U := Nat) (fun V g c' _ W => GOf w w2 w2.heap.size (DcX w) d.since d.date d.ln d.live V (some ⟨g, 0, none⟩) c' 0 none 0 (fun _ => 0) d.nd l.L W)
  · intro key
    have KEY : Hid _ := key
    clear key
    refine wp_region_noPanic ?_
    have hB0 : Below w2.heap.size w2 w2.drew := (Below.refl _ _).drew
    refine wp_region_peel (fun W' => W'.cell? ⟨w.heap.size, 0, none⟩ = some (.int .i64 d.since) ∧ W'.cell? ⟨w.heap.size, 1, none⟩ = some (.int .i64 d.date) ∧ W'.cell? ⟨w.heap.size, 2, none⟩ = some (.slice l.lA d.ln l.lc)) _ (by kernel_rfl) rfl (by kernel_rfl) ?_ (fun hHeld => ?_)
    · exact HSt.out _ hB0
    simp only [List.pop_toArray, List.dropLast, List.size_toArray, List.length_cons, List.length_nil, Nat.reduceAdd, Nat.reduceSub, List.getElem_toArray, List.getElem_cons_succ, List.getElem_cons_zero]
    refine peel_take (i := 0) (oi := ?oi0a) (v := ?v0a) (fun _ _ _ _ _ h => h) hHeld ?hi0a (by kernel_rfl) (by kernel_rfl) (by kernel_rfl) ?hw0a ?hy0a ?rest0a
    case hi0a =>
      simp only [List.getElem?_toArray, List.getElem?_cons_zero]
      rfl
    case hw0a => rfl
    case hy0a =>
      intro w hSw
      obtain ⟨s0, s1, s2⟩ := hSw
      go_simp
      try with_reducible rfl
    try simp only [Act.put, List.setIfInBounds_toArray, List.set_cons_zero, List.set_cons_succ]
    refine peel_take (i := 1) (oi := ?oi1a) (v := ?v1a) (fun _ _ _ _ _ h => h) hHeld ?hi1a (by kernel_rfl) (by kernel_rfl) (by kernel_rfl) ?hw1a ?hy1a ?rest1a
    case hi1a =>
      simp only [List.getElem?_toArray, List.getElem?_cons_succ, List.getElem?_cons_zero]
      rfl
    case hw1a => rfl
    case hy1a =>
      intro w hSw
      obtain ⟨s0, s1, s2⟩ := hSw
      go_simp
      try with_reducible rfl
    try simp only [Act.put, List.setIfInBounds_toArray, List.set_cons_zero, List.set_cons_succ]
    refine peel_take (i := 2) (oi := ?oi2a) (v := ?v2a) (fun _ _ _ _ _ h => h) hHeld ?hi2a (by kernel_rfl) (by kernel_rfl) (by kernel_rfl) ?hw2a ?hy2a ?rest2a
    case hi2a =>
      simp only [List.getElem?_toArray, List.getElem?_cons_succ, List.getElem?_cons_zero]
      rfl
    case hw2a => rfl
    case hy2a =>
      intro w hSw
      obtain ⟨s0, s1, s2⟩ := hSw
      go_simp
      try with_reducible rfl
    try simp only [Act.put, List.setIfInBounds_toArray, List.set_cons_zero, List.set_cons_succ]
    refine peel_take (i := 3) (oi := ?oi3a) (v := ?v3a) (fun _ _ _ _ _ h => h) hHeld ?hi3a (by kernel_rfl) (by kernel_rfl) (by kernel_rfl) ?hw3a ?hy3a ?rest3a
    case hi3a =>
      simp only [List.getElem?_toArray, List.getElem?_cons_succ, List.getElem?_cons_zero]
      rfl
    case hw3a => rfl
    case hy3a =>
      intro w hSw
      obtain ⟨s0, s1, s2⟩ := hSw
      go_simp
      try with_reducible rfl
    try simp only [Act.put, List.setIfInBounds_toArray, List.set_cons_zero, List.set_cons_succ]
    refine peel_take (i := 5) (oi := ?oi5a) (v := ?v5a) (fun _ _ _ _ _ h => h) hHeld ?hi5a (by kernel_rfl) (by kernel_rfl) (by kernel_rfl) ?hw5a ?hy5a ?rest5a
    case hi5a =>
      simp only [List.getElem?_toArray, List.getElem?_cons_succ, List.getElem?_cons_zero]
      rfl
    case hw5a => rfl
    case hy5a =>
      intro w hSw
      obtain ⟨s0, s1, s2⟩ := hSw
      go_simp
      try with_reducible rfl
    try simp only [Act.put, List.setIfInBounds_toArray, List.set_cons_zero, List.set_cons_succ]
    refine peel_take (i := 6) (oi := ?oi6a) (v := ?v6a) (fun _ _ _ _ _ h => h) hHeld ?hi6a (by kernel_rfl) (by kernel_rfl) (by kernel_rfl) ?hw6a ?hy6a ?rest6a
    case hi6a =>
      simp only [List.getElem?_toArray, List.getElem?_cons_succ, List.getElem?_cons_zero]
      rfl
    case hw6a => rfl
    case hy6a =>
      intro w hSw
      obtain ⟨s0, s1, s2⟩ := hSw
      go_simp
      try with_reducible rfl
    try simp only [Act.put, List.setIfInBounds_toArray, List.set_cons_zero, List.set_cons_succ]
    refine wpAnyH_ready (rs := [4, 9]) (by kernel_rfl) (by simp) ?_
    refine AllReadyH.cons (o := ?o4q1a) ?ho4q1a (fun K hK => ?st4q1a) ?more4q1a
    case ho4q1a =>
      simp only [List.getElem?_toArray, List.getElem?_cons_succ, List.getElem?_cons_zero]
      rfl
    case st4q1a =>
      go_simp
      have hBq1a : Below w2.heap.size w2 (w2.drew.alloc (.cells #[] 4)) := hB0.alloc hB0.size _
      have hoq1a : (w2.drew.alloc (.cells #[] 4)).ownsRow w2.heap.size 4 1 (.slice (some ⟨w2.heap.size, 0, none⟩) 0 0) 0 [] := by
        have h := owns_lit (w := w2.drew) hB0.size [] 4 1 0 rfl (by unfold maxLen; omega)
        simpa using h
      refine hK.out _ _ (HSt.out _ hBq1a) (fun hHeld => ?_)
      clear hK K
      try simp only [Act.put, List.setIfInBounds_toArray, List.set_cons_zero, List.set_cons_succ]
      refine wpAnyH_ready (rs := [7, 9]) (by kernel_rfl) (by simp) ?_
      refine AllReadyH.cons (o := ?o7q2a) ?ho7q2a (fun K hK => ?st7q2a) ?more7q2a
      case ho7q2a =>
        simp only [List.getElem?_toArray, List.getElem?_cons_succ, List.getElem?_cons_zero]
        rfl
      case st7q2a =>
        refine step_of (by rfl) (wp_append_src (.tmp 9) (.tmp 11) 25 rfl w2.heap.size 4 q0 (.bool false) 1 1 Tryz.underlying25 hq hq0 hq1 hq2 rfl (by decide) (.slice (some ⟨w2.heap.size, 0, none⟩) 0 0) 0 [] (by rfl) hoq1a _ d.ln (boolv d.ln d.live) (by rfl) (HSrc.out _ hBq1a) (by unfold maxLen; omega) (by omega) hBq1a.size ?_)
        intro vq2a wq2a hoq2a hgrq2a _ _
        rw [Nat.zero_add, List.nil_append] at hoq2a
        obtain ⟨g, c', rfl⟩ := bools_shape hoq2a hln1
        have hBq2a : Below w2.heap.size w2 wq2a := hBq1a.grown hgrq2a hBq1a.size (fun j e => (owns_block hoq1a e).1)
        refine hK.out _ _ (HSt.out _ hBq2a) (fun hHeld => ?_)
        clear hK K
        try simp only [Act.put, List.setIfInBounds_toArray, List.set_cons_zero, List.set_cons_succ]
        refine wpAnyH_ready (rs := [8, 9]) (by kernel_rfl) (by simp) ?_
        refine AllReadyH.cons (o := ?o8q3a) ?ho8q3a (fun K hK => ?st8q3a) ?more8q3a
        case ho8q3a =>
          simp only [List.getElem?_toArray, List.getElem?_cons_succ, List.getElem?_cons_zero]
          rfl
        case st8q3a =>
          go_simp
          refine hK.out _ _ hHeld (fun hHeld => ?_)
          clear hK K
          try simp only [Act.put, List.setIfInBounds_toArray, List.set_cons_zero, List.set_cons_succ]
          refine wpAnyH_ready (rs := [9]) (by kernel_rfl) (by simp) ?_
          refine AllReadyH.cons (o := ?o9q4a) ?ho9q4a (fun K hK => ?st9q4a) AllReadyH.nil
          case ho9q4a =>
            simp only [List.getElem?_toArray, List.getElem?_cons_succ, List.getElem?_cons_zero]
            rfl
          go_simp
          have hBq4a : Below w2.heap.size w2 (wq2a.alloc (.cells #[.int .i64 0, .int .i64 0, .slice none 0 0, .slice none 0 0] 36)) := hBq2a.alloc hBq2a.size _
          have hvq4a : Blk (wq2a.alloc (.cells #[.int .i64 0, .int .i64 0, .slice none 0 0, .slice none 0 0] 36)) (wq2a.heap.size) #[.int .i64 0, .int .i64 0, .slice none 0 0, .slice none 0 0] 36 := by
            have h := Blk.new wq2a #[.int .i64 0, .int .i64 0, .slice none 0 0, .slice none 0 0] 36
            simpa using h
          have hoq4a := hoq2a.alloc (.cells #[.int .i64 0, .int .i64 0, .slice none 0 0, .slice none 0 0] 36)
          have hVq4a : w2.heap.size ≤ wq2a.heap.size := by
            have h := hBq2a.size
            simpa using h
          refine hK.out _ _ (HSt.out _ hBq4a) (fun hHeld => ?_)
          clear hK K
          try simp only [Act.put, List.setIfInBounds_toArray, List.set_cons_zero, List.set_cons_succ]
          refine wpAnyH_done (by kernel_rfl) ?_ _
          have HS : Hid _ := GOf.start1 (w := w) (since := d.since) (date := d.date) (O := fun _ => 0) (E := d.nd) (M := l.L) H2.out.bel HX.out hBq2a hoq2a
          show Oper.wp _ _ _ _ _ _
          go_simp
          generalize hV : wq2a.heap.size = V
          generalize he0 : w2.heap.size = e0
          exact NoPanic.normal (KEY.out V g c' e0 _ (by first | (rw [← hV]; exact HS.out) | (rw [← hV, ← he0]; exact HS.out) | (subst hV; subst he0; exact HS.out)))
        refine AllReadyH.cons (o := ?o9q3b) ?ho9q3b (fun K hK => ?st9q3b) AllReadyH.nil
        case ho9q3b =>
          simp only [List.getElem?_toArray, List.getElem?_cons_succ, List.getElem?_cons_zero]
          rfl
        go_simp
        have hBq3b : Below w2.heap.size w2 (wq2a.alloc (.cells #[.int .i64 0, .int .i64 0, .slice none 0 0, .slice none 0 0] 36)) := hBq2a.alloc hBq2a.size _
        have hvq3b : Blk (wq2a.alloc (.cells #[.int .i64 0, .int .i64 0, .slice none 0 0, .slice none 0 0] 36)) (wq2a.heap.size) #[.int .i64 0, .int .i64 0, .slice none 0 0, .slice none 0 0] 36 := by
          have h := Blk.new wq2a #[.int .i64 0, .int .i64 0, .slice none 0 0, .slice none 0 0] 36
          simpa using h
        have hoq3b := hoq2a.alloc (.cells #[.int .i64 0, .int .i64 0, .slice none 0 0, .slice none 0 0] 36)
        have hVq3b : w2.heap.size ≤ wq2a.heap.size := by
          have h := hBq2a.size
          simpa using h
        refine hK.out _ _ (HSt.out _ hBq3b) (fun hHeld => ?_)
        clear hK K
        try simp only [Act.put, List.setIfInBounds_toArray, List.set_cons_zero, List.set_cons_succ]
        refine wpAnyH_ready (rs := [8]) (by kernel_rfl) (by simp) ?_
        refine AllReadyH.cons (o := ?o8q6a) ?ho8q6a (fun K hK => ?st8q6a) AllReadyH.nil
        case ho8q6a =>
          simp only [List.getElem?_toArray, List.getElem?_cons_succ, List.getElem?_cons_zero]
          rfl
        go_simp
        refine hK.out _ _ hHeld (fun hHeld => ?_)
        clear hK K
        try simp only [Act.put, List.setIfInBounds_toArray, List.set_cons_zero, List.set_cons_succ]
        refine wpAnyH_done (by kernel_rfl) ?_ _
        have HS : Hid _ := GOf.start1 (w := w) (since := d.since) (date := d.date) (O := fun _ => 0) (E := d.nd) (M := l.L) H2.out.bel HX.out hBq2a hoq2a
        show Oper.wp _ _ _ _ _ _
        go_simp
        generalize hV : wq2a.heap.size = V
        generalize he0 : w2.heap.size = e0
        exact NoPanic.normal (KEY.out V g c' e0 _ (by first | (rw [← hV]; exact HS.out) | (rw [← hV, ← he0]; exact HS.out) | (subst hV; subst he0; exact HS.out)))
      refine AllReadyH.cons (o := ?o9q2b) ?ho9q2b (fun K hK => ?st9q2b) AllReadyH.nil
      case ho9q2b =>
        simp only [List.getElem?_toArray, List.getElem?_cons_succ, List.getElem?_cons_zero]
        rfl
      go_simp
      have hBq2b : Below w2.heap.size w2 ((w2.drew.alloc (.cells #[] 4)).alloc (.cells #[.int .i64 0, .int .i64 0, .slice none 0 0, .slice none 0 0] 36)) := hBq1a.alloc hBq1a.size _
      have hvq2b : Blk ((w2.drew.alloc (.cells #[] 4)).alloc (.cells #[.int .i64 0, .int .i64 0, .slice none 0 0, .slice none 0 0] 36)) (w2.heap.size + 1) #[.int .i64 0, .int .i64 0, .slice none 0 0, .slice none 0 0] 36 := by
        have h := Blk.new (w2.drew.alloc (.cells #[] 4)) #[.int .i64 0, .int .i64 0, .slice none 0 0, .slice none 0 0] 36
        simpa using h
      have hoq2b := hoq1a.alloc (.cells #[.int .i64 0, .int .i64 0, .slice none 0 0, .slice none 0 0] 36)
      have hVq2b : w2.heap.size ≤ w2.heap.size + 1 := by
        have h := hBq1a.size
        simpa using h
      refine hK.out _ _ (HSt.out _ hBq2b) (fun hHeld => ?_)
      clear hK K
      try simp only [Act.put, List.setIfInBounds_toArray, List.set_cons_zero, List.set_cons_succ]
      refine wpAnyH_ready (rs := [7]) (by kernel_rfl) (by simp) ?_
      refine AllReadyH.cons (o := ?o7q8a) ?ho7q8a (fun K hK => ?st7q8a) AllReadyH.nil
      case ho7q8a =>
        simp only [List.getElem?_toArray, List.getElem?_cons_succ, List.getElem?_cons_zero]
        rfl
      refine step_of (by rfl) (wp_append_src (.tmp 9) (.tmp 11) 25 rfl w2.heap.size 4 q0 (.bool false) 1 1 Tryz.underlying25 hq hq0 hq1 hq2 rfl (by decide) (.slice (some ⟨w2.heap.size, 0, none⟩) 0 0) 0 [] (by rfl) hoq2b _ d.ln (boolv d.ln d.live) (by rfl) (HSrc.out _ hBq2b) (by unfold maxLen; omega) (by omega) hBq2b.size ?_)
      intro vq8a wq8a hoq8a hgrq8a _ _
      rw [Nat.zero_add, List.nil_append] at hoq8a
      obtain ⟨g, c', rfl⟩ := bools_shape hoq8a hln1
      have hBq8a : Below w2.heap.size w2 wq8a := hBq2b.grown hgrq8a hBq2b.size (fun j e => (owns_block hoq2b e).1)
      have hvq8a : Blk wq8a (w2.heap.size + 1) #[.int .i64 0, .int .i64 0, .slice none 0 0, .slice none 0 0] 36 := blk_grown hvq2b hgrq8a (own_ne hoq2b hvq2b (by decide))
      refine hK.out _ _ (HSt.out _ hBq8a) (fun hHeld => ?_)
      clear hK K
      try simp only [Act.put, List.setIfInBounds_toArray, List.set_cons_zero, List.set_cons_succ]
      refine wpAnyH_ready (rs := [8]) (by kernel_rfl) (by simp) ?_
      refine AllReadyH.cons (o := ?o8q9a) ?ho8q9a (fun K hK => ?st8q9a) AllReadyH.nil
      case ho8q9a =>
        simp only [List.getElem?_toArray, List.getElem?_cons_succ, List.getElem?_cons_zero]
        rfl
      go_simp
      refine hK.out _ _ hHeld (fun hHeld => ?_)
      clear hK K
      try simp only [Act.put, List.setIfInBounds_toArray, List.set_cons_zero, List.set_cons_succ]
      refine wpAnyH_done (by kernel_rfl) ?_ _
      have z0 := hvq8a.cell 0
      have z1 := hvq8a.cell 1
      have z2 := hvq8a.cell 2
      have z3 := hvq8a.cell 3
      have f0 := hvq8a.frozen 0
      have f1 := hvq8a.frozen 1
      have f2 := hvq8a.frozen 2
      have f3 := hvq8a.frozen 3
      simp at z0 z1 z2 z3
      have HS : Hid _ := GOf.start4 (w := w) (since := d.since) (date := d.date) (O := fun _ => 0) (E := d.nd) (M := l.L) H2.out.bel HX.out hBq8a hVq2b hvq8a hoq8a
      show Oper.wp _ _ _ _ _ _
      go_simp
      generalize hV : w2.heap.size + 1 = V
      generalize he0 : w2.heap.size = e0
      exact NoPanic.normal (KEY.out V g c' e0 _ (by first | (rw [← hV]; exact HS.out) | (rw [← hV, ← he0]; exact HS.out) | (subst hV; subst he0; exact HS.out)))
    refine AllReadyH.cons (o := ?o9q1b) ?ho9q1b (fun K hK => ?st9q1b) AllReadyH.nil
    case ho9q1b =>
      simp only [List.getElem?_toArray, List.getElem?_cons_succ, List.getElem?_cons_zero]
      rfl
    go_simp
    have hBq1b : Below w2.heap.size w2 (w2.drew.alloc (.cells #[.int .i64 0, .int .i64 0, .slice none 0 0, .slice none 0 0] 36)) := hB0.alloc hB0.size _
    have hvq1b : Blk (w2.drew.alloc (.cells #[.int .i64 0, .int .i64 0, .slice none 0 0, .slice none 0 0] 36)) (w2.heap.size) #[.int .i64 0, .int .i64 0, .slice none 0 0, .slice none 0 0] 36 := by
      have h := Blk.new w2.drew #[.int .i64 0, .int .i64 0, .slice none 0 0, .slice none 0 0] 36
      simpa using h
    have hVq1b : w2.heap.size ≤ w2.heap.size := by
      have h := hB0.size
      simpa using h
    refine hK.out _ _ (HSt.out _ hBq1b) (fun hHeld => ?_)
    clear hK K
    try simp only [Act.put, List.setIfInBounds_toArray, List.set_cons_zero, List.set_cons_succ]
    refine wpAnyH_ready (rs := [4]) (by kernel_rfl) (by simp) ?_
    refine AllReadyH.cons (o := ?o4q11a) ?ho4q11a (fun K hK => ?st4q11a) AllReadyH.nil
    case ho4q11a =>
      simp only [List.getElem?_toArray, List.getElem?_cons_succ, List.getElem?_cons_zero]
      rfl
    go_simp
    have hBq11a : Below w2.heap.size w2 ((w2.drew.alloc (.cells #[.int .i64 0, .int .i64 0, .slice none 0 0, .slice none 0 0] 36)).alloc (.cells #[] 4)) := hBq1b.alloc hBq1b.size _
    have hoq11a : ((w2.drew.alloc (.cells #[.int .i64 0, .int .i64 0, .slice none 0 0, .slice none 0 0] 36)).alloc (.cells #[] 4)).ownsRow w2.heap.size 4 1 (.slice (some ⟨w2.heap.size + 1, 0, none⟩) 0 0) 0 [] := by
      have h := owns_lit (w := (w2.drew.alloc (.cells #[.int .i64 0, .int .i64 0, .slice none 0 0, .slice none 0 0] 36))) hBq1b.size [] 4 1 0 rfl (by unfold maxLen; omega)
      simpa using h
    have hvq11a : Blk ((w2.drew.alloc (.cells #[.int .i64 0, .int .i64 0, .slice none 0 0, .slice none 0 0] 36)).alloc (.cells #[] 4)) (w2.heap.size) #[.int .i64 0, .int .i64 0, .slice none 0 0, .slice none 0 0] 36 := hvq1b.alloc _
    refine hK.out _ _ (HSt.out _ hBq11a) (fun hHeld => ?_)
    clear hK K
    try simp only [Act.put, List.setIfInBounds_toArray, List.set_cons_zero, List.set_cons_succ]
    refine wpAnyH_ready (rs := [7]) (by kernel_rfl) (by simp) ?_
    refine AllReadyH.cons (o := ?o7q12a) ?ho7q12a (fun K hK => ?st7q12a) AllReadyH.nil
    case ho7q12a =>
      simp only [List.getElem?_toArray, List.getElem?_cons_succ, List.getElem?_cons_zero]
      rfl
    refine step_of (by rfl) (wp_append_src (.tmp 9) (.tmp 11) 25 rfl w2.heap.size 4 q0 (.bool false) 1 1 Tryz.underlying25 hq hq0 hq1 hq2 rfl (by decide) (.slice (some ⟨w2.heap.size + 1, 0, none⟩) 0 0) 0 [] (by rfl) hoq11a _ d.ln (boolv d.ln d.live) (by rfl) (HSrc.out _ hBq11a) (by unfold maxLen; omega) (by omega) hBq11a.size ?_)
    intro vq12a wq12a hoq12a hgrq12a _ _
    rw [Nat.zero_add, List.nil_append] at hoq12a
    obtain ⟨g, c', rfl⟩ := bools_shape hoq12a hln1
    have hBq12a : Below w2.heap.size w2 wq12a := hBq11a.grown hgrq12a hBq11a.size (fun j e => (owns_block hoq11a e).1)
    have hvq12a : Blk wq12a (w2.heap.size) #[.int .i64 0, .int .i64 0, .slice none 0 0, .slice none 0 0] 36 := blk_grown hvq11a hgrq12a (own_ne hoq11a hvq11a (by decide))
    refine hK.out _ _ (HSt.out _ hBq12a) (fun hHeld => ?_)
    clear hK K
    try simp only [Act.put, List.setIfInBounds_toArray, List.set_cons_zero, List.set_cons_succ]
    refine wpAnyH_ready (rs := [8]) (by kernel_rfl) (by simp) ?_
    refine AllReadyH.cons (o := ?o8q13a) ?ho8q13a (fun K hK => ?st8q13a) AllReadyH.nil
    case ho8q13a =>
      simp only [List.getElem?_toArray, List.getElem?_cons_succ, List.getElem?_cons_zero]
      rfl
    go_simp
    refine hK.out _ _ hHeld (fun hHeld => ?_)
    clear hK K
    try simp only [Act.put, List.setIfInBounds_toArray, List.set_cons_zero, List.set_cons_succ]
    refine wpAnyH_done (by kernel_rfl) ?_ _
    have z0 := hvq12a.cell 0
    have z1 := hvq12a.cell 1
    have z2 := hvq12a.cell 2
    have z3 := hvq12a.cell 3
    have f0 := hvq12a.frozen 0
    have f1 := hvq12a.frozen 1
    have f2 := hvq12a.frozen 2
    have f3 := hvq12a.frozen 3
    simp at z0 z1 z2 z3
    have HS : Hid _ := GOf.start4 (w := w) (since := d.since) (date := d.date) (O := fun _ => 0) (E := d.nd) (M := l.L) H2.out.bel HX.out hBq12a hVq1b hvq12a hoq12a
    show Oper.wp _ _ _ _ _ _
    go_simp
    generalize he0 : w2.heap.size + 1 = e0
    generalize hV : w2.heap.size = V
    exact NoPanic.normal (KEY.out V g c' e0 _ (by first | (rw [← hV]; exact HS.out) | (rw [← hV, ← he0]; exact HS.out) | (subst hV; subst he0; exact HS.out)))
  · intro V g c' e0 W3 hG
    have HG : Hid _ := hG
    clear hG HX HSrc HSt
    go_wp2_with fail
    go_loopw [4] (fun i wr => ∃ (k : Nat) (ia : Option Addr) (ic : Nat) (O : Nat → Int) (E : Nat → Nd) (M : Nat → Loc), k ≤ d.m ∧ i = .int .i64 k ∧ GOf w w2 w2.heap.size (DcX w) d.since d.date d.ln d.live V (some ⟨g, 0, none⟩) c' k ia ic O E M wr ∧ ∀ i, i < k → O i = d.ino i ∧ E i = d.nd i) (fun i _ => d.m - (intOf i).toNat)
    case atStart => exact ⟨0, none, 0, _, _, _, Nat.zero_le _, rfl, HG.out, fun i hi => absurd hi (Nat.not_lt_zero _)⟩
    case round =>
      obtain ⟨k, ia, ic, O, E, M, hk, rfl, hin, hsel⟩ := hrel
      have HIN : Hid (GOf w w2 w2.heap.size (DcX w) d.since d.date d.ln d.live V (some ⟨g, 0, none⟩) c' k ia ic O E M wr ∧ ∀ i, i < k → O i = d.ino i ∧ E i = d.nd i) := ⟨hin, hsel⟩
      have HT : Hid (Dc w d l wr) := H2.out.of hin
      clear hin hsel
      obtain ⟨p0, p1, p2, p3⟩ := pC_cells HT.out.p
      by_cases hlt : k < d.m
      · have hlti : (k : Int) < (d.m : Int) := by omega
        go_wp2_with fail
        have HW : Hid (∃ bI oI, bI < w2.heap.size ∧ ∀ W', Below wr.heap.size wr W' → (W'.cell? ⟨V, 3, none⟩ = some (.slice ia k ic) ∧ W'.cell? ⟨w.heap.size, 3, none⟩ = some (.slice (some ⟨bI, oI, none⟩) d.m l.ic) ∧ W'.cell? ⟨bI, oI + k * 6, none⟩ = some (.int .i64 (d.ino k)) ∧ W'.cell? ⟨bI, oI + k * 6 + 1, none⟩ = some (.int .i64 (d.nd k).kind) ∧ W'.cell? ⟨bI, oI + k * 6 + 1 + 1, none⟩ = some (.string (d.nd k).text) ∧ W'.cell? ⟨bI, oI + k * 6 + 1 + 2, none⟩ = some (.slice (l.L k).nA (d.nd k).nn (l.L k).nc) ∧ W'.cell? ⟨bI, oI + k * 6 + 1 + 3, none⟩ = some (.slice (l.L k).kA (d.nd k).kn (l.L k).kc) ∧ W'.cell? ⟨bI, oI + k * 6 + 1 + 4, none⟩ = some (.int .i64 (d.nd k).turn)) ∧ NdIn W' (d.nd k) (l.L k)) := by
          show ∃ _, _
          obtain ⟨bI, oI, hQ, hbl, _⟩ := hD.items.at hlt
          refine ⟨bI, oI, by omega, fun W' hW => ?_⟩
          have hcc := pC_cells (HT.out.below hW).p
          have hv3 : W'.cell? ⟨V, 3, none⟩ = some (.slice ia k ic) := (HIN.out.1.below hW).v.cell 3
          obtain ⟨bI', oI', hQ', _, hc'⟩ := ((hD.items.below (Nat.le_refl _) HT.out.bel).below (Nat.le_refl _) hW).at hlt
          obtain ⟨d0, d1, d2, d3, d4, d5, d6⟩ := hc' k hlt
          rw [hQ] at hQ'
          cases hQ'
          refine ⟨⟨hv3, ?_, d0, d1, d2, d3, d4, d5⟩, d6⟩
          rw [← hQ]
          exact hcc.2.2.2
        obtain ⟨bI, oI, hbIl, hSt⟩ := HW.out
        have HSt : Hid _ := hSt
        have hsm := dp_of_small hs k hlt
        clear p0 p1 p2 p3 hSt HW
        have hd5 : Below wr.heap.size wr wr.drew := below_drewN (Below.refl _ _) 1
        refine wp_region_noPanic ?_
        refine wp_region_peel2 (fun W' => W'.cell? ⟨V, 3, none⟩ = some (.slice ia k ic) ∧ W'.cell? ⟨w.heap.size, 3, none⟩ = some (.slice (some ⟨bI, oI, none⟩) d.m l.ic) ∧ W'.cell? ⟨bI, oI + k * 6, none⟩ = some (.int .i64 (d.ino k)) ∧ W'.cell? ⟨bI, oI + k * 6 + 1, none⟩ = some (.int .i64 (d.nd k).kind) ∧ W'.cell? ⟨bI, oI + k * 6 + 1 + 1, none⟩ = some (.string (d.nd k).text) ∧ W'.cell? ⟨bI, oI + k * 6 + 1 + 2, none⟩ = some (.slice (l.L k).nA (d.nd k).nn (l.L k).nc) ∧ W'.cell? ⟨bI, oI + k * 6 + 1 + 3, none⟩ = some (.slice (l.L k).kA (d.nd k).kn (l.L k).kc) ∧ W'.cell? ⟨bI, oI + k * 6 + 1 + 4, none⟩ = some (.int .i64 (d.nd k).turn)) _ _ (by kernel_rfl) rfl rfl (by kernel_rfl) (by kernel_rfl) ?_ (fun hHeld => ?_)
        · exact (HSt.out _ hd5).1
        simp only [List.pop_toArray, List.dropLast, List.size_toArray, List.length_cons, List.length_nil, Nat.reduceAdd, Nat.reduceSub, List.getElem_toArray, List.getElem_cons_succ, List.getElem_cons_zero]
        refine peel_take (i := 0) (oi := ?oi0x) (v := ?v0x) (fun _ _ _ _ _ h => h) hHeld ?hi0x (by kernel_rfl) (by kernel_rfl) (by kernel_rfl) ?hw0x ?hy0x ?rest0x
        case hi0x =>
          simp only [List.getElem?_toArray, List.getElem?_cons_zero]
          rfl
        case hw0x => rfl
        case hy0x =>
          intro w hSw
          obtain ⟨s0, s1, s2, s3, s4, s5, s6, s7⟩ := hSw
          go_simp
          try with_reducible rfl
        try simp only [Act.put, List.setIfInBounds_toArray, List.set_cons_zero, List.set_cons_succ]
        refine peel_take (i := 1) (oi := ?oi1x) (v := ?v1x) (fun _ _ _ _ _ h => h) hHeld ?hi1x (by kernel_rfl) (by kernel_rfl) (by kernel_rfl) ?hw1x ?hy1x ?rest1x
        case hi1x =>
          simp only [List.getElem?_toArray, List.getElem?_cons_succ, List.getElem?_cons_zero]
          rfl
        case hw1x => rfl
        case hy1x =>
          intro w hSw
          obtain ⟨s0, s1, s2, s3, s4, s5, s6, s7⟩ := hSw
          go_simp
          try with_reducible rfl
        try simp only [Act.put, List.setIfInBounds_toArray, List.set_cons_zero, List.set_cons_succ]
        refine peel_take (i := 2) (oi := ?oi2x) (v := ?v2x) (fun _ _ _ _ _ h => h) hHeld ?hi2x (by kernel_rfl) (by kernel_rfl) (by kernel_rfl) ?hw2x ?hy2x ?rest2x
        case hi2x =>
          simp only [List.getElem?_toArray, List.getElem?_cons_succ, List.getElem?_cons_zero]
          rfl
        case hw2x => rfl
        case hy2x =>
          intro w hSw
          obtain ⟨s0, s1, s2, s3, s4, s5, s6, s7⟩ := hSw
          go_simp
          try with_reducible rfl
        try simp only [Act.put, List.setIfInBounds_toArray, List.set_cons_zero, List.set_cons_succ]
        refine peel_take (i := 3) (oi := ?oi3x) (v := ?v3x) (fun _ _ _ _ _ h => h) hHeld ?hi3x (by kernel_rfl) (by kernel_rfl) (by kernel_rfl) ?hw3x ?hy3x ?rest3x
        case hi3x =>
          simp only [List.getElem?_toArray, List.getElem?_cons_succ, List.getElem?_cons_zero]
          rfl
        case hw3x => rfl
        case hy3x =>
          intro w hSw
          obtain ⟨s0, s1, s2, s3, s4, s5, s6, s7⟩ := hSw
          go_simp
          try with_reducible rfl
        try simp only [Act.put, List.setIfInBounds_toArray, List.set_cons_zero, List.set_cons_succ]
        refine peel_take (i := 4) (oi := ?oi4x) (v := ?v4x) (fun _ _ _ _ _ h => h) hHeld ?hi4x (by kernel_rfl) (by kernel_rfl) (by kernel_rfl) ?hw4x ?hy4x ?rest4x
        case hi4x =>
          simp only [List.getElem?_toArray, List.getElem?_cons_succ, List.getElem?_cons_zero]
          rfl
        case hw4x => rfl
        case hy4x =>
          intro w hSw
          obtain ⟨s0, s1, s2, s3, s4, s5, s6, s7⟩ := hSw
          go_simp
          try with_reducible rfl
        try simp only [Act.put, List.setIfInBounds_toArray, List.set_cons_zero, List.set_cons_succ]
        refine peel_take (i := 5) (oi := ?oi5x) (v := ?v5x) (fun _ _ _ _ _ h => h) hHeld ?hi5x (by kernel_rfl) (by kernel_rfl) (by kernel_rfl) ?hw5x ?hy5x ?rest5x
        case hi5x =>
          simp only [List.getElem?_toArray, List.getElem?_cons_succ, List.getElem?_cons_zero]
          rfl
        case hw5x => rfl
        case hy5x =>
          intro w hSw
          obtain ⟨s0, s1, s2, s3, s4, s5, s6, s7⟩ := hSw
          go_simp
          try with_reducible rfl
        try simp only [Act.put, List.setIfInBounds_toArray, List.set_cons_zero, List.set_cons_succ]
        refine peel_take (i := 6) (oi := ?oi6x) (v := ?v6x) (fun _ _ _ _ _ h => h) hHeld ?hi6x (by kernel_rfl) (by kernel_rfl) (by kernel_rfl) ?hw6x ?hy6x ?rest6x
        case hi6x =>
          simp only [List.getElem?_toArray, List.getElem?_cons_succ, List.getElem?_cons_zero]
          rfl
        case hw6x => rfl
        case hy6x =>
          intro w hSw
          obtain ⟨s0, s1, s2, s3, s4, s5, s6, s7⟩ := hSw
          go_simp
          try with_reducible rfl
        try simp only [Act.put, List.setIfInBounds_toArray, List.set_cons_zero, List.set_cons_succ]
        refine peel_take (i := 7) (oi := ?oi7x) (v := ?v7x) (fun _ _ _ _ _ h => h) hHeld ?hi7x (by kernel_rfl) (by kernel_rfl) (by kernel_rfl) ?hw7x ?hy7x ?rest7x
        case hi7x =>
          simp only [List.getElem?_toArray, List.getElem?_cons_succ, List.getElem?_cons_zero]
          rfl
        case hw7x => rfl
        case hy7x =>
          intro w hSw
          obtain ⟨s0, s1, s2, s3, s4, s5, s6, s7⟩ := hSw
          go_simp
          try with_reducible rfl
        try simp only [Act.put, List.setIfInBounds_toArray, List.set_cons_zero, List.set_cons_succ]
        refine peel_take (i := 8) (oi := ?oi8x) (v := ?v8x) (fun _ _ _ _ _ h => h) hHeld ?hi8x (by kernel_rfl) (by kernel_rfl) (by kernel_rfl) ?hw8x ?hy8x ?rest8x
        case hi8x =>
          simp only [List.getElem?_toArray, List.getElem?_cons_succ, List.getElem?_cons_zero]
          rfl
        case hw8x => rfl
        case hy8x =>
          intro w hSw
          obtain ⟨s0, s1, s2, s3, s4, s5, s6, s7⟩ := hSw
          go_simp
          try with_reducible rfl
        try simp only [Act.put, List.setIfInBounds_toArray, List.set_cons_zero, List.set_cons_succ]
        refine peel_take (i := 9) (oi := ?oi9x) (v := ?v9x) (fun _ _ _ _ _ h => h) hHeld ?hi9x (by kernel_rfl) (by kernel_rfl) (by kernel_rfl) ?hw9x ?hy9x ?rest9x
        case hi9x =>
          simp only [List.getElem?_toArray, List.getElem?_cons_succ, List.getElem?_cons_zero]
          rfl
        case hw9x => rfl
        case hy9x =>
          intro w hSw
          obtain ⟨s0, s1, s2, s3, s4, s5, s6, s7⟩ := hSw
          go_simp
          try with_reducible rfl
        try simp only [Act.put, List.setIfInBounds_toArray, List.set_cons_zero, List.set_cons_succ]
        refine peel_take (i := 10) (oi := ?oi10x) (v := ?v10x) (fun _ _ _ _ _ h => h) hHeld ?hi10x (by kernel_rfl) (by kernel_rfl) (by kernel_rfl) ?hw10x ?hy10x ?rest10x
        case hi10x =>
          simp only [List.getElem?_toArray, List.getElem?_cons_succ, List.getElem?_cons_zero]
          rfl
        case hw10x => rfl
        case hy10x =>
          intro w hSw
          obtain ⟨s0, s1, s2, s3, s4, s5, s6, s7⟩ := hSw
          go_simp
          try with_reducible rfl
        try simp only [Act.put, List.setIfInBounds_toArray, List.set_cons_zero, List.set_cons_succ]
        refine peel_take (i := 11) (oi := ?oi11x) (v := ?v11x) (fun _ _ _ _ _ h => h) hHeld ?hi11x (by kernel_rfl) (by kernel_rfl) (by kernel_rfl) ?hw11x ?hy11x ?rest11x
        case hi11x =>
          simp only [List.getElem?_toArray, List.getElem?_cons_succ, List.getElem?_cons_zero]
          rfl
        case hw11x => rfl
        case hy11x =>
          intro w hSw
          obtain ⟨s0, s1, s2, s3, s4, s5, s6, s7⟩ := hSw
          go_simp
          try with_reducible rfl
        try simp only [Act.put, List.setIfInBounds_toArray, List.set_cons_zero, List.set_cons_succ]
        refine peel_take (i := 12) (oi := ?oi12x) (v := ?v12x) (fun _ _ _ _ _ h => h) hHeld ?hi12x (by kernel_rfl) (by kernel_rfl) (by kernel_rfl) ?hw12x ?hy12x ?rest12x
        case hi12x =>
          simp only [List.getElem?_toArray, List.getElem?_cons_succ, List.getElem?_cons_zero]
          rfl
        case hw12x => rfl
        case hy12x =>
          intro w hSw
          obtain ⟨s0, s1, s2, s3, s4, s5, s6, s7⟩ := hSw
          go_simp
          try with_reducible rfl
        try simp only [Act.put, List.setIfInBounds_toArray, List.set_cons_zero, List.set_cons_succ]
        refine peel_take (i := 13) (oi := ?oi13x) (v := ?v13x) (fun _ _ _ _ _ h => h) hHeld ?hi13x (by kernel_rfl) (by kernel_rfl) (by kernel_rfl) ?hw13x ?hy13x ?rest13x
        case hi13x =>
          simp only [List.getElem?_toArray, List.getElem?_cons_succ, List.getElem?_cons_zero]
          rfl
        case hw13x => rfl
        case hy13x =>
          intro w hSw
          obtain ⟨s0, s1, s2, s3, s4, s5, s6, s7⟩ := hSw
          go_simp
          try with_reducible rfl
        try simp only [Act.put, List.setIfInBounds_toArray, List.set_cons_zero, List.set_cons_succ]
        refine wpAnyH_ready (rs := [14]) (by kernel_rfl) (by simp) ?_
        refine AllReadyH.cons (o := ?o14x) ?ho14x (fun K hK => ?st14x) AllReadyH.nil
        case ho14x =>
          simp only [List.getElem?_toArray, List.getElem?_cons_succ, List.getElem?_cons_zero]
          rfl
        go_simp
        refine (l2Copy_any (d.nd k) (l.L k) wr.drew (HSt.out _ hd5).2 hsm.1 hsm.2.1).mono ?_
        rintro e W6 ⟨l5, rfl, hN5⟩
        unfold ndV
        have hb6 : Below wr.heap.size wr W6 := hd5.trans hN5.bel
        refine hK.out _ _ (HSt.out W6 hb6).1 (fun hHeld => ?re9x)
        clear hK K
        try simp only [Act.put, List.setIfInBounds_toArray, List.set_cons_zero, List.set_cons_succ]
        refine wpAnyH_ready (rs := [15]) (by kernel_rfl) (by simp) ?_
        refine AllReadyH.cons (o := ?o15x) ?ho15x (fun K hK => ?st15x) AllReadyH.nil
        case ho15x =>
          simp only [List.getElem?_toArray, List.getElem?_cons_succ, List.getElem?_cons_zero]
          rfl
        go_simp
        refine hK.out _ _ (HSt.out W6 hb6).1 (fun hHeld => ?re10x)
        clear hK K
        try simp only [Act.put, List.setIfInBounds_toArray, List.set_cons_zero, List.set_cons_succ]
        refine wpAnyH_ready (rs := [16]) (by kernel_rfl) (by simp) ?_
        refine AllReadyH.cons (o := ?o16x) ?ho16x (fun K hK => ?st16x) AllReadyH.nil
        case ho16x =>
          simp only [List.getElem?_toArray, List.getElem?_cons_succ, List.getElem?_cons_zero]
          rfl
        go_simp
        have hb7 : Below wr.heap.size wr (W6.alloc (.cells #[.int .i64 (d.ino k), .int .i64 (d.nd k).kind, .string (d.nd k).text, .slice l5.nA (d.nd k).nn l5.nc, .slice l5.kA (d.nd k).kn l5.kc, .int .i64 (d.nd k).turn] 113)) := hb6.alloc hb6.size _
        refine hK.out _ _ (HSt.out _ hb7).1 (fun hHeld => ?re11x)
        clear hK K
        try simp only [Act.put, List.setIfInBounds_toArray, List.set_cons_zero, List.set_cons_succ]
        refine wpAnyH_ready (rs := [17]) (by kernel_rfl) (by simp) ?_
        refine AllReadyH.cons (o := ?o17x) ?ho17x (fun K hK => ?st17x) AllReadyH.nil
        case ho17x =>
          simp only [List.getElem?_toArray, List.getElem?_cons_succ, List.getElem?_cons_zero]
          rfl
        have hD6 := HIN.out.1.below hb7
        have hN6 := hN5.new.alloc (.cells #[.int .i64 (d.ino k), .int .i64 (d.nd k).kind, .string (d.nd k).text, .slice l5.nA (d.nd k).nn l5.nc, .slice l5.kA (d.nd k).kn l5.kc, .int .i64 (d.nd k).turn] 113)
        have hB5 : w2.heap.size ≤ wr.heap.size := by have h := owns_block HIN.out.1.od.ownL (show (Value.slice (some ⟨g, 0, none⟩) d.ln c').ownBlock = some g from rfl); omega
        have hneV : (Value.slice ia k ic).ownBlock ≠ some V := fun e => (HIN.out.1.off 1 V (by omega) (by simpa [valD] using e)).2 rfl
        have hbo5 : ∀ q, (Value.slice ia k ic).ownBlock = some q → w2.heap.size ≤ q := fun q e => (owns_block HIN.out.1.od.ownI e).1
        refine step_of (by rfl) (wp_append_src (.tmp 22) (.tmp 37) 34 rfl w2.heap.size 113 y0 (.agg #[.int .i64 0, .int .i64 0, .string ByteArray.empty, .slice none 0 0, .slice none 0 0, .int .i64 0]) 6 88 Tryz.underlying34 hy hy0 hy1 hy2 rfl (by decide) (.slice ia k ic) k _ (by rfl) hD6.od.ownI _ 1 _ (by rfl) (src_item W6 (d.ino k) (d.nd k) l5) (by unfold maxLen; omega) (by omega) (by have := hb7.size; omega) ?_)
        intro vI W7 hown hgrow hnil hat
        rcases hown.2 with ⟨_, h0⟩ | ⟨gI, cI, cur, hvI, _, _, _⟩
        · omega
        subst hvI
        have hbI : (Value.slice ia k ic).ownBlock = some gI ∨ (W6.alloc (.cells #[.int .i64 (d.ino k), .int .i64 (d.nd k).kind, .string (d.nd k).text, .slice l5.nA (d.nd k).nn l5.nc, .slice l5.kA (d.nd k).kn l5.kc, .int .i64 (d.nd k).turn] 113)).heap.size ≤ gI := by
          rcases hat with e | e
          · exact Or.inl e.symm
          · right
            have e' : gI = (W6.alloc (.cells #[.int .i64 (d.ino k), .int .i64 (d.nd k).kind, .string (d.nd k).text, .slice l5.nA (d.nd k).nn l5.nc, .slice l5.kA (d.nd k).kn l5.kc, .int .i64 (d.nd k).turn] 113)).heap.size := by simpa [Value.ownBlock] using e
            omega
        have hV7 := blk_grown hD6.v hgrow hneV
        have hHeld7 : W7.cell? ⟨V, 3, none⟩ = some (.slice ia k ic) ∧ W7.cell? ⟨w.heap.size, 3, none⟩ = some (.slice (some ⟨bI, oI, none⟩) d.m l.ic) ∧ W7.cell? ⟨bI, oI + k * 6, none⟩ = some (.int .i64 (d.ino k)) ∧ W7.cell? ⟨bI, oI + k * 6 + 1, none⟩ = some (.int .i64 (d.nd k).kind) ∧ W7.cell? ⟨bI, oI + k * 6 + 1 + 1, none⟩ = some (.string (d.nd k).text) ∧ W7.cell? ⟨bI, oI + k * 6 + 1 + 2, none⟩ = some (.slice (l.L k).nA (d.nd k).nn (l.L k).nc) ∧ W7.cell? ⟨bI, oI + k * 6 + 1 + 3, none⟩ = some (.slice (l.L k).kA (d.nd k).kn (l.L k).kc) ∧ W7.cell? ⟨bI, oI + k * 6 + 1 + 4, none⟩ = some (.int .i64 (d.nd k).turn) := by
          obtain ⟨e0, e1, e2, e3, e4, e5, e6, e7⟩ := (HSt.out _ hb7).1
          have hlow : ∀ q o v, q < w2.heap.size → (W6.alloc (.cells #[.int .i64 (d.ino k), .int .i64 (d.nd k).kind, .string (d.nd k).text, .slice l5.nA (d.nd k).nn l5.nc, .slice l5.kA (d.nd k).kn l5.kc, .int .i64 (d.nd k).turn] 113)).cell? ⟨q, o, none⟩ = some v → W7.cell? ⟨q, o, none⟩ = some v := fun q o v hq h => hgrow.cell h (fun e => by have := hbo5 q e.symm; omega)
          have hwlt := hs2
          exact ⟨hV7.cell 3, hlow _ _ _ (by omega) e1, hlow _ _ _ hbIl e2, hlow _ _ _ hbIl e3, hlow _ _ _ hbIl e4, hlow _ _ _ hbIl e5, hlow _ _ _ hbIl e6, hlow _ _ _ hbIl e7⟩
        have H8 : Hid _ := (HIN.out.1.below hd5).item hN6 (by have := hd5.size; omega) hgrow hown hbI
        have v37 : W7.cell? ⟨V, 3, none⟩ = some (.slice ia k ic) := hV7.cell 3
        have f37 := hV7.frozen 3
        refine hK.out _ _ hHeld7 (fun hHeld => ?re12x)
        clear hK K
        try simp only [Act.put, List.setIfInBounds_toArray, List.set_cons_zero, List.set_cons_succ]
        refine wpAnyH_done (by kernel_rfl) ?_ _
        show Oper.wp _ _ _ _ _ _
        clear hown hgrow hnil hat hbI hV7 hHeld7 hN6 hD6 hN5 HSt hneV hHeld hd5 hb6 hb7 hsm hbo5 hB5
        go_simp
        show Oper.wp _ _ _ _ _ _
        go_simp
        refine NoPanic.normal ?_
        go_wp2_with fail
        go_roundw
        case rel => exact ⟨k + 1, some ⟨gI, 0, none⟩, cI, _, _, _, by omega, by go_num, H8.out, fun i hi => by
          by_cases e : i = k
          · subst e; simp
          · simp only [e, if_false]; exact HIN.out.2 i (by omega)⟩
        case measure => simp [intOf]; omega
      · obtain rfl : k = d.m := by omega
        have HOWN : Hid (OwnDp wr w2.heap.size d ⟨some ⟨g, 0, none⟩, c', ia, ic, M⟩) := HIN.out.1.od.ext fun i hi => ⟨((HIN.out.2 i hi).1).symm, ((HIN.out.2 i hi).2).symm⟩
        have v0 : wr.cell? ⟨V, 0, none⟩ = some (.int .i64 d.since) := HIN.out.1.v.cell 0
        have v1 : wr.cell? ⟨V, 1, none⟩ = some (.int .i64 d.date) := HIN.out.1.v.cell 1
        have v2 : wr.cell? ⟨V, 2, none⟩ = some (.slice (some ⟨g, 0, none⟩) d.ln c') := HIN.out.1.v.cell 2
        have v3 : wr.cell? ⟨V, 3, none⟩ = some (.slice ia d.m ic) := HIN.out.1.v.cell 3
        have r0 : wr.cell? ⟨w.heap.size + 1, 0, none⟩ = some (.int .i64 0) := HT.out.r.cell 0
        have r1 : wr.cell? ⟨w.heap.size + 1, 1, none⟩ = some (.int .i64 0) := HT.out.r.cell 1
        have r2 : wr.cell? ⟨w.heap.size + 1, 2, none⟩ = some (.slice none 0 0) := HT.out.r.cell 2
        have r3 : wr.cell? ⟨w.heap.size + 1, 3, none⟩ = some (.slice none 0 0) := HT.out.r.cell 3
        have g0 := HT.out.r.frozen 0
        have g1 := HT.out.r.frozen 1
        have g2 := HT.out.r.frozen 2
        have g3 := HT.out.r.frozen 3
        have hwl : w.heap.size + 1 < w2.heap.size := by omega
        go_wp2_with fail
        refine end_world (F := fun U => Blk U (w.heap.size + 1) #[.int .i64 d.since, .int .i64 d.date, .slice (some ⟨g, 0, none⟩) d.ln c', .slice ia d.m ic] 36 ∧ Below w.heap.size w U ∧ OwnDp U w2.heap.size d ⟨some ⟨g, 0, none⟩, c', ia, ic, M⟩) ⟨(((HT.out.r.set 0 _).set 1 _).set 2 _).set 3 _, bel_put (bel_put (bel_put (bel_put HT.out.bel _ (by omega)) _ (by omega)) _ (by omega)) _ (by omega), OD.off (OD.off (OD.off (OD.off HOWN.out _ hwl) _ hwl) _ hwl) _ hwl⟩ ?_
        clear p0 p1 p2 p3 r0 r1 r2 r3 g0 g1 g2 g3 v0 v1 v2 v3
        rintro U ⟨hr, hBU, hod⟩
        have r0 : U.cell? ⟨w.heap.size + 1, 0, none⟩ = some (.int .i64 d.since) := hr.cell 0
        have r1 : U.cell? ⟨w.heap.size + 1, 1, none⟩ = some (.int .i64 d.date) := hr.cell 1
        have r2 : U.cell? ⟨w.heap.size + 1, 2, none⟩ = some (.slice (some ⟨g, 0, none⟩) d.ln c') := hr.cell 2
        have r3 : U.cell? ⟨w.heap.size + 1, 3, none⟩ = some (.slice ia d.m ic) := hr.cell 3
        exact bodyPost_ret (v := .agg #[.int .i64 d.since, .int .i64 d.date, .slice (some ⟨g, 0, none⟩) d.ln c', .slice ia d.m ic]) (by simp [results, Tryz.results75, go_sem, r0, r1, r2, r3]) rfl ⟨⟨some ⟨g, 0, none⟩, c', ia, ic, M⟩, rfl, hBU, OD.lower hod (by omega)⟩
end Go.Proofs.YtakifcobofkheaaGreatDoor

/-
  Cuts behind a piece of code, of up to seven letters.
-/
namespace Go.Proofs.YtakifcobofkheaaGreatDoor
open Go.RowKit

theorem wp_cn1 {X : Type} (F : X → World → Prop) {P : Program} {c : Code} {Q : Exit → Act → World → Prop} {a : Act} {w : World} (A : X → Act)
    (leaf : (∀ x W, F x W → Q .normal (A x) W) → c.wp P Q a w) (k : ∀ x W, F x W → Q .normal (A x) W) : c.wp P Q a w := leaf k

theorem wp_cn2 {X Y : Type} (F : X → Y → World → Prop) {P : Program} {c : Code} {Q : Exit → Act → World → Prop} {a : Act} {w : World} (A : X → Y → Act)
    (leaf : (∀ x y W, F x y W → Q .normal (A x y) W) → c.wp P Q a w) (k : ∀ x y W, F x y W → Q .normal (A x y) W) : c.wp P Q a w := leaf k

theorem wp_cn3 {X Y Z : Type} (F : X → Y → Z → World → Prop) {P : Program} {c : Code} {Q : Exit → Act → World → Prop} {a : Act} {w : World} (A : X → Y → Z → Act)
    (leaf : (∀ x y z W, F x y z W → Q .normal (A x y z) W) → c.wp P Q a w) (k : ∀ x y z W, F x y z W → Q .normal (A x y z) W) : c.wp P Q a w := leaf k

theorem wp_cn4 {X Y Z U : Type} (F : X → Y → Z → U → World → Prop) {P : Program} {c : Code} {Q : Exit → Act → World → Prop} {a : Act} {w : World} (A : X → Y → Z → U → Act)
    (leaf : (∀ x y z u W, F x y z u W → Q .normal (A x y z u) W) → c.wp P Q a w) (k : ∀ x y z u W, F x y z u W → Q .normal (A x y z u) W) : c.wp P Q a w := leaf k

theorem wp_cn5 {X Y Z U V : Type} (F : X → Y → Z → U → V → World → Prop) {P : Program} {c : Code} {Q : Exit → Act → World → Prop} {a : Act} {w : World} (A : X → Y → Z → U → V → Act)
    (leaf : (∀ x y z u v W, F x y z u v W → Q .normal (A x y z u v) W) → c.wp P Q a w) (k : ∀ x y z u v W, F x y z u v W → Q .normal (A x y z u v) W) : c.wp P Q a w := leaf k

theorem wp_cn6 {X Y Z U V S : Type} (F : X → Y → Z → U → V → S → World → Prop) {P : Program} {c : Code} {Q : Exit → Act → World → Prop} {a : Act} {w : World} (A : X → Y → Z → U → V → S → Act)
    (leaf : (∀ x y z u v s W, F x y z u v s W → Q .normal (A x y z u v s) W) → c.wp P Q a w) (k : ∀ x y z u v s W, F x y z u v s W → Q .normal (A x y z u v s) W) : c.wp P Q a w := leaf k

theorem wp_cn7 {X Y Z U V S T : Type} (F : X → Y → Z → U → V → S → T → World → Prop) {P : Program} {c : Code} {Q : Exit → Act → World → Prop} {a : Act} {w : World} (A : X → Y → Z → U → V → S → T → Act)
    (leaf : (∀ x y z u v s t W, F x y z u v s t W → Q .normal (A x y z u v s t) W) → c.wp P Q a w) (k : ∀ x y z u v s t W, F x y z u v s t W → Q .normal (A x y z u v s t) W) : c.wp P Q a w := leaf k
end Go.Proofs.YtakifcobofkheaaGreatDoor

/-
  What l9Copy of the specification answers: the same job, in new memory.
-/
namespace Go.Proofs.YtakifcobofkheaaGreatDoor
open Go.RowKit Go.Deep
set_option linter.unusedVariables false
set_option linter.unusedSimpArgs false
set_option linter.unnecessarySimpa false

/-- The boxes. -/
structure Jc (w : World) (j : Jb) (l : JLoc) (W : World) : Prop where
  p : Blk W w.heap.size (jC j l) 38
  r : Blk W (w.heap.size + 1) #[.slice none 0 0, .int .i64 0, .int .i64 0, .int .i64 0, .slice none 0 0, .slice none 0 0, .slice none 0 0] 38
  bel : Below w.heap.size w W

theorem Jc.below {w : World} {j : Jb} {l : JLoc} {W W' : World} (h : Jc w j l W) (hb : Below W.heap.size W W') : Jc w j l W' := ⟨h.p.below hb h.p.lt, h.r.below hb h.r.lt, h.bel.trans (hb.mono h.bel.size)⟩

/-- The variable's cells: a tree, something kept, and the list. -/
def jcs (j : Jb) (k1 : TLoc) (k2 : DLoc) (s : Value) : Array Value := #[.slice k1.a j.t.n k1.c, .int .i64 j.t.now, .int .i64 j.d.since, .int .i64 j.d.date, .slice k2.lA j.d.ln k2.lc, .slice k2.iA j.d.m k2.ic, s]

/-- What is known ahead of the loop. -/
structure Jv (w : World) (j : Jb) (l : JLoc) (k1 : TLoc) (k2 : DLoc) (V : Nat) (W : World) : Prop where
  c : Jc w j l W
  v : Blk W V (jcs j k1 k2 (.slice none 0 0)) 38
  vl : w.heap.size + 2 ≤ V
  t : OwnTr W (w.heap.size + 2) j.t k1
  d : OwnDp W (w.heap.size + 2) j.d k2
  td : ∀ b, BkT j.t k1 b → ¬ BkD j.d k2 b
  tv : ¬ BkT j.t k1 V
  dv : ¬ BkD j.d k2 V

theorem Jc.of {w W0 : World} {j : Jb} {l : JLoc} (h : Jc w j l W0) {V k : Nat} {cs : Value → Array Value} {b : Option Addr} {bc : Nat} {E : Nat → Nd} {M : Nat → Loc} {W : World} (g : GV W0 V 6 38 cs k b bc E M W) (hV : w.heap.size + 2 ≤ V) : Jc w j l W :=
  ⟨h.p.of_block (g.keep h.p.lt (by omega)), h.r.of_block (g.keep h.r.lt (by omega)), h.bel.grown g.gr (by have := h.bel.size; omega) (fun j e => by have := Option.some.inj e; omega)⟩

set_option maxRecDepth 100000 in
set_option maxHeartbeats 8000000 in
theorem l9Copy_any (j : Jb) (l : JLoc) (w : World) (hJ : JIn w j l) (hok : j.d.ok = true) (hn : j.t.n ≤ 10) (hq10 : j.q ≤ 10) (hst : j.t.size ≤ 1048576) (hsd : j.d.size ≤ 1048576) (hse : ∀ i, i < j.q → (j.e i).size ≤ 1048576) :
    Calls Tryz.prog 44 #[jV j l] w fun e w' => ∃ l', e = .returned (jV j l') ∧ Below w.heap.size w w' ∧ OwnJb w' w.heap.size j l' := by
  unfold jV
  obtain ⟨y0, hy, hy0, hy1, hy2⟩ := info_parts infoNode
  go_enter Tryz.func44, Tryz.ntmps44
  go_wp2_with fail
  refine wp_world (F := fun W => Jc w j l W ∧ w.heap.size + 2 ≤ W.heap.size) ?_ ?_
  · obtain ⟨h0, h1, hb, hs'⟩ := new2 w (jC j l) 38 #[.slice none 0 0, .int .i64 0, .int .i64 0, .int .i64 0, .slice none 0 0, .slice none 0 0, .slice none 0 0] 38
    exact ⟨⟨h0, h1, hb⟩, by simp⟩
  rintro w2 ⟨hO, hs2⟩
  have H2 : Hid (Jc w j l w2) := hO
  clear hO
  have HSt : Hid (∀ W', Below w2.heap.size w2 W' → W'.cell? ⟨w.heap.size, 0, none⟩ = some (.slice l.t.a j.t.n l.t.c) ∧ W'.cell? ⟨w.heap.size, 1, none⟩ = some (.int .i64 j.t.now) ∧ W'.cell? ⟨w.heap.size, 2, none⟩ = some (.int .i64 j.d.since) ∧ W'.cell? ⟨w.heap.size, 3, none⟩ = some (.int .i64 j.d.date) ∧ W'.cell? ⟨w.heap.size, 4, none⟩ = some (.slice l.d.lA j.d.ln l.d.lc) ∧ W'.cell? ⟨w.heap.size, 5, none⟩ = some (.slice l.d.iA j.d.m l.d.ic)) := fun W' hW => by
    obtain ⟨p0, p1, p2, p3, p4, p5, p6⟩ := jC_cells (H2.out.below hW).p
    exact ⟨p0, p1, p2, p3, p4, p5⟩
  apply wp_cn3 (X := TLoc) (Y := DLoc) (Z := Nat) (fun k1 k2 V W => Jv w j l k1 k2 V W)
  · intro key
    have KEY : Hid _ := key
    clear key
    refine wp_region_noPanic ?_
    have hB0 : Below w2.heap.size w2 w2.drew := (Below.refl _ _).drew
    refine wp_region_peel (fun W' => W'.cell? ⟨w.heap.size, 0, none⟩ = some (.slice l.t.a j.t.n l.t.c) ∧ W'.cell? ⟨w.heap.size, 1, none⟩ = some (.int .i64 j.t.now) ∧ W'.cell? ⟨w.heap.size, 2, none⟩ = some (.int .i64 j.d.since) ∧ W'.cell? ⟨w.heap.size, 3, none⟩ = some (.int .i64 j.d.date) ∧ W'.cell? ⟨w.heap.size, 4, none⟩ = some (.slice l.d.lA j.d.ln l.d.lc) ∧ W'.cell? ⟨w.heap.size, 5, none⟩ = some (.slice l.d.iA j.d.m l.d.ic)) _ (by kernel_rfl) rfl (by kernel_rfl) ?_ (fun hHeld => ?_)
    · exact HSt.out _ hB0
    simp only [List.pop_toArray, List.dropLast, List.size_toArray, List.length_cons, List.length_nil, Nat.reduceAdd, Nat.reduceSub, List.getElem_toArray, List.getElem_cons_succ, List.getElem_cons_zero]
    refine peel_take (i := 0) (oi := ?oi0a) (v := ?v0a) (fun _ _ _ _ _ h => h) hHeld ?hi0a (by kernel_rfl) (by kernel_rfl) (by kernel_rfl) ?hw0a ?hy0a ?rest0a
    case hi0a =>
      simp only [List.getElem?_toArray, List.getElem?_cons_zero]
      rfl
    case hw0a => rfl
    case hy0a =>
      intro w hSw
      obtain ⟨s0, s1, s2, s3, s4, s5⟩ := hSw
      go_simp
      try with_reducible rfl
    try simp only [Act.put, List.setIfInBounds_toArray, List.set_cons_zero, List.set_cons_succ]
    refine peel_take (i := 1) (oi := ?oi1a) (v := ?v1a) (fun _ _ _ _ _ h => h) hHeld ?hi1a (by kernel_rfl) (by kernel_rfl) (by kernel_rfl) ?hw1a ?hy1a ?rest1a
    case hi1a =>
      simp only [List.getElem?_toArray, List.getElem?_cons_succ, List.getElem?_cons_zero]
      rfl
    case hw1a => rfl
    case hy1a =>
      intro w hSw
      obtain ⟨s0, s1, s2, s3, s4, s5⟩ := hSw
      go_simp
      try with_reducible rfl
    try simp only [Act.put, List.setIfInBounds_toArray, List.set_cons_zero, List.set_cons_succ]
    refine peel_take (i := 3) (oi := ?oi3a) (v := ?v3a) (fun _ _ _ _ _ h => h) hHeld ?hi3a (by kernel_rfl) (by kernel_rfl) (by kernel_rfl) ?hw3a ?hy3a ?rest3a
    case hi3a =>
      simp only [List.getElem?_toArray, List.getElem?_cons_succ, List.getElem?_cons_zero]
      rfl
    case hw3a => rfl
    case hy3a =>
      intro w hSw
      obtain ⟨s0, s1, s2, s3, s4, s5⟩ := hSw
      go_simp
      try with_reducible rfl
    try simp only [Act.put, List.setIfInBounds_toArray, List.set_cons_zero, List.set_cons_succ]
    refine peel_take (i := 4) (oi := ?oi4a) (v := ?v4a) (fun _ _ _ _ _ h => h) hHeld ?hi4a (by kernel_rfl) (by kernel_rfl) (by kernel_rfl) ?hw4a ?hy4a ?rest4a
    case hi4a =>
      simp only [List.getElem?_toArray, List.getElem?_cons_succ, List.getElem?_cons_zero]
      rfl
    case hw4a => rfl
    case hy4a =>
      intro w hSw
      obtain ⟨s0, s1, s2, s3, s4, s5⟩ := hSw
      go_simp
      try with_reducible rfl
    try simp only [Act.put, List.setIfInBounds_toArray, List.set_cons_zero, List.set_cons_succ]
    refine wpAnyH_ready (rs := [2, 7]) (by kernel_rfl) (by simp) ?_
    refine AllReadyH.cons (o := ?o2q1a) ?ho2q1a (fun K hK => ?st2q1a) ?more2q1a
    case ho2q1a =>
      simp only [List.getElem?_toArray, List.getElem?_cons_succ, List.getElem?_cons_zero]
      rfl
    case st2q1a =>
      go_simp
      refine (l2Tree_own j.t l.t _ ((hJ.t.below (Nat.le_refl _) H2.out.bel).below (Nat.le_refl _) hB0) (by omega) hst).mono ?_
      rintro e wq1a ⟨k1, rfl, hbc, ho1q1a⟩
      unfold tV
      have hBq1a : Below w2.heap.size w2 wq1a := hB0.trans (hbc.mono hB0.size)
      have holq1a := ho1q1a.lower hB0.size
      clear hbc
      refine hK.out _ _ (HSt.out _ hBq1a) (fun hHeld => ?_)
      clear hK K
      try simp only [Act.put, List.setIfInBounds_toArray, List.set_cons_zero, List.set_cons_succ]
      refine wpAnyH_ready (rs := [5, 7]) (by kernel_rfl) (by simp) ?_
      refine AllReadyH.cons (o := ?o5q2a) ?ho5q2a (fun K hK => ?st5q2a) ?more5q2a
      case ho5q2a =>
        simp only [List.getElem?_toArray, List.getElem?_cons_succ, List.getElem?_cons_zero]
        rfl
      case st5q2a =>
        go_simp
        have htlq2a : ∀ b, BkT j.t k1 b → b < (wq1a).heap.size := fun b e => (holq1a.blk e).2
        refine (l5Copy_any j.d l.d _ ((hJ.d.below (Nat.le_refl _) H2.out.bel).below (Nat.le_refl _) hBq1a) hok hsd).mono ?_
        rintro e wq2a ⟨k2, rfl, hbc, ho2q2a⟩
        unfold dpV
        have hBq2a : Below w2.heap.size w2 wq2a := hBq1a.trans (hbc.mono hBq1a.size)
        have htq2a := holq1a.below hbc
        have htdq2a : ∀ b, BkT j.t k1 b → ¬ BkD j.d k2 b := fun b e1 e2 => by have h1 := htlq2a b e1; have h2 := (ho2q2a.blk e2).1; omega
        have holq2a := ho2q2a.lower hBq1a.size
        clear hbc
        refine hK.out _ _ (HSt.out _ hBq2a) (fun hHeld => ?_)
        clear hK K
        try simp only [Act.put, List.setIfInBounds_toArray, List.set_cons_zero, List.set_cons_succ]
        refine wpAnyH_ready (rs := [6, 7]) (by kernel_rfl) (by simp) ?_
        refine AllReadyH.cons (o := ?o6q3a) ?ho6q3a (fun K hK => ?st6q3a) ?more6q3a
        case ho6q3a =>
          simp only [List.getElem?_toArray, List.getElem?_cons_succ, List.getElem?_cons_zero]
          rfl
        case st6q3a =>
          go_simp
          refine hK.out _ _ hHeld (fun hHeld => ?_)
          clear hK K
          try simp only [Act.put, List.setIfInBounds_toArray, List.set_cons_zero, List.set_cons_succ]
          refine wpAnyH_ready (rs := [7]) (by kernel_rfl) (by simp) ?_
          refine AllReadyH.cons (o := ?o7q4a) ?ho7q4a (fun K hK => ?st7q4a) AllReadyH.nil
          case ho7q4a =>
            simp only [List.getElem?_toArray, List.getElem?_cons_succ, List.getElem?_cons_zero]
            rfl
          go_simp
          have hBq4a : Below w2.heap.size w2 (wq2a.alloc (.cells #[.slice none 0 0, .int .i64 0, .int .i64 0, .int .i64 0, .slice none 0 0, .slice none 0 0, .slice none 0 0] 38)) := hBq2a.alloc hBq2a.size _
          have hvq4a : Blk (wq2a.alloc (.cells #[.slice none 0 0, .int .i64 0, .int .i64 0, .int .i64 0, .slice none 0 0, .slice none 0 0, .slice none 0 0] 38)) (wq2a.heap.size) #[.slice none 0 0, .int .i64 0, .int .i64 0, .int .i64 0, .slice none 0 0, .slice none 0 0, .slice none 0 0] 38 := by
            have h := Blk.new wq2a #[.slice none 0 0, .int .i64 0, .int .i64 0, .int .i64 0, .slice none 0 0, .slice none 0 0, .slice none 0 0] 38
            simpa using h
          have hVq4a : w2.heap.size ≤ wq2a.heap.size := by
            have h := hBq2a.size
            simpa using h
          have htq4a := htq2a.below ((Below.refl _ _).alloc (Nat.le_refl _) (.cells #[.slice none 0 0, .int .i64 0, .int .i64 0, .int .i64 0, .slice none 0 0, .slice none 0 0, .slice none 0 0] 38))
          have htvq4a : ¬ BkT j.t k1 (wq2a.heap.size) := fun e => by have h := (htq2a.blk e).2; simp at h
          have hdq4a := holq2a.below ((Below.refl _ _).alloc (Nat.le_refl _) (.cells #[.slice none 0 0, .int .i64 0, .int .i64 0, .int .i64 0, .slice none 0 0, .slice none 0 0, .slice none 0 0] 38))
          have hdvq4a : ¬ BkD j.d k2 (wq2a.heap.size) := fun e => by have h := (holq2a.blk e).2; simp at h
          refine hK.out _ _ (HSt.out _ hBq4a) (fun hHeld => ?_)
          clear hK K
          try simp only [Act.put, List.setIfInBounds_toArray, List.set_cons_zero, List.set_cons_succ]
          refine wpAnyH_done (by kernel_rfl) ?_ _
          have HS : Hid (∀ U, U = wq2a.alloc (.cells (jcs j k1 k2 (.slice none 0 0)) 38) → Jv w j l k1 k2 (wq2a.heap.size) U) := fun U e => by
            subst e
            have hb : Below wq2a.heap.size wq2a (wq2a.alloc (.cells (jcs j k1 k2 (.slice none 0 0)) 38)) := (Below.refl _ _).alloc (Nat.le_refl _) _
            exact ⟨H2.out.below (hBq2a.trans (hb.mono hBq2a.size)), Blk.new _ _ _, by have := hVq4a; omega, (htq2a.below hb).lower hs2, (holq2a.below hb).lower hs2, htdq2a, htvq4a, hdvq4a⟩
          show Oper.wp _ _ _ _ _ _
          go_simp
          generalize hV : wq2a.heap.size = V
          exact NoPanic.normal (KEY.out k1 k2 V _ (by rw [← hV]; exact HS.out _ rfl))
        refine AllReadyH.cons (o := ?o7q3b) ?ho7q3b (fun K hK => ?st7q3b) AllReadyH.nil
        case ho7q3b =>
          simp only [List.getElem?_toArray, List.getElem?_cons_succ, List.getElem?_cons_zero]
          rfl
        go_simp
        have hBq3b : Below w2.heap.size w2 (wq2a.alloc (.cells #[.slice none 0 0, .int .i64 0, .int .i64 0, .int .i64 0, .slice none 0 0, .slice none 0 0, .slice none 0 0] 38)) := hBq2a.alloc hBq2a.size _
        have hvq3b : Blk (wq2a.alloc (.cells #[.slice none 0 0, .int .i64 0, .int .i64 0, .int .i64 0, .slice none 0 0, .slice none 0 0, .slice none 0 0] 38)) (wq2a.heap.size) #[.slice none 0 0, .int .i64 0, .int .i64 0, .int .i64 0, .slice none 0 0, .slice none 0 0, .slice none 0 0] 38 := by
          have h := Blk.new wq2a #[.slice none 0 0, .int .i64 0, .int .i64 0, .int .i64 0, .slice none 0 0, .slice none 0 0, .slice none 0 0] 38
          simpa using h
        have hVq3b : w2.heap.size ≤ wq2a.heap.size := by
          have h := hBq2a.size
          simpa using h
        have htq3b := htq2a.below ((Below.refl _ _).alloc (Nat.le_refl _) (.cells #[.slice none 0 0, .int .i64 0, .int .i64 0, .int .i64 0, .slice none 0 0, .slice none 0 0, .slice none 0 0] 38))
        have htvq3b : ¬ BkT j.t k1 (wq2a.heap.size) := fun e => by have h := (htq2a.blk e).2; simp at h
        have hdq3b := holq2a.below ((Below.refl _ _).alloc (Nat.le_refl _) (.cells #[.slice none 0 0, .int .i64 0, .int .i64 0, .int .i64 0, .slice none 0 0, .slice none 0 0, .slice none 0 0] 38))
        have hdvq3b : ¬ BkD j.d k2 (wq2a.heap.size) := fun e => by have h := (holq2a.blk e).2; simp at h
        refine hK.out _ _ (HSt.out _ hBq3b) (fun hHeld => ?_)
        clear hK K
        try simp only [Act.put, List.setIfInBounds_toArray, List.set_cons_zero, List.set_cons_succ]
        refine wpAnyH_ready (rs := [6]) (by kernel_rfl) (by simp) ?_
        refine AllReadyH.cons (o := ?o6q6a) ?ho6q6a (fun K hK => ?st6q6a) AllReadyH.nil
        case ho6q6a =>
          simp only [List.getElem?_toArray, List.getElem?_cons_succ, List.getElem?_cons_zero]
          rfl
        go_simp
        refine hK.out _ _ hHeld (fun hHeld => ?_)
        clear hK K
        try simp only [Act.put, List.setIfInBounds_toArray, List.set_cons_zero, List.set_cons_succ]
        refine wpAnyH_done (by kernel_rfl) ?_ _
        have HS : Hid (∀ U, U = wq2a.alloc (.cells (jcs j k1 k2 (.slice none 0 0)) 38) → Jv w j l k1 k2 (wq2a.heap.size) U) := fun U e => by
          subst e
          have hb : Below wq2a.heap.size wq2a (wq2a.alloc (.cells (jcs j k1 k2 (.slice none 0 0)) 38)) := (Below.refl _ _).alloc (Nat.le_refl _) _
          exact ⟨H2.out.below (hBq2a.trans (hb.mono hBq2a.size)), Blk.new _ _ _, by have := hVq3b; omega, (htq2a.below hb).lower hs2, (holq2a.below hb).lower hs2, htdq2a, htvq3b, hdvq3b⟩
        show Oper.wp _ _ _ _ _ _
        go_simp
        generalize hV : wq2a.heap.size = V
        exact NoPanic.normal (KEY.out k1 k2 V _ (by rw [← hV]; exact HS.out _ rfl))
      refine AllReadyH.cons (o := ?o7q2b) ?ho7q2b (fun K hK => ?st7q2b) AllReadyH.nil
      case ho7q2b =>
        simp only [List.getElem?_toArray, List.getElem?_cons_succ, List.getElem?_cons_zero]
        rfl
      go_simp
      have hBq2b : Below w2.heap.size w2 (wq1a.alloc (.cells #[.slice none 0 0, .int .i64 0, .int .i64 0, .int .i64 0, .slice none 0 0, .slice none 0 0, .slice none 0 0] 38)) := hBq1a.alloc hBq1a.size _
      have hvq2b : Blk (wq1a.alloc (.cells #[.slice none 0 0, .int .i64 0, .int .i64 0, .int .i64 0, .slice none 0 0, .slice none 0 0, .slice none 0 0] 38)) (wq1a.heap.size) #[.slice none 0 0, .int .i64 0, .int .i64 0, .int .i64 0, .slice none 0 0, .slice none 0 0, .slice none 0 0] 38 := by
        have h := Blk.new wq1a #[.slice none 0 0, .int .i64 0, .int .i64 0, .int .i64 0, .slice none 0 0, .slice none 0 0, .slice none 0 0] 38
        simpa using h
      have hVq2b : w2.heap.size ≤ wq1a.heap.size := by
        have h := hBq1a.size
        simpa using h
      have htq2b := holq1a.below ((Below.refl _ _).alloc (Nat.le_refl _) (.cells #[.slice none 0 0, .int .i64 0, .int .i64 0, .int .i64 0, .slice none 0 0, .slice none 0 0, .slice none 0 0] 38))
      have htvq2b : ¬ BkT j.t k1 (wq1a.heap.size) := fun e => by have h := (holq1a.blk e).2; simp at h
      refine hK.out _ _ (HSt.out _ hBq2b) (fun hHeld => ?_)
      clear hK K
      try simp only [Act.put, List.setIfInBounds_toArray, List.set_cons_zero, List.set_cons_succ]
      refine wpAnyH_ready (rs := [5]) (by kernel_rfl) (by simp) ?_
      refine AllReadyH.cons (o := ?o5q8a) ?ho5q8a (fun K hK => ?st5q8a) AllReadyH.nil
      case ho5q8a =>
        simp only [List.getElem?_toArray, List.getElem?_cons_succ, List.getElem?_cons_zero]
        rfl
      go_simp
      have htlq8a : ∀ b, BkT j.t k1 b → b < ((wq1a.alloc (.cells #[.slice none 0 0, .int .i64 0, .int .i64 0, .int .i64 0, .slice none 0 0, .slice none 0 0, .slice none 0 0] 38))).heap.size := fun b e => (htq2b.blk e).2
      refine (l5Copy_any j.d l.d _ ((hJ.d.below (Nat.le_refl _) H2.out.bel).below (Nat.le_refl _) hBq2b) hok hsd).mono ?_
      rintro e wq8a ⟨k2, rfl, hbc, ho2q8a⟩
      unfold dpV
      have hBq8a : Below w2.heap.size w2 wq8a := hBq2b.trans (hbc.mono hBq2b.size)
      have htq8a := htq2b.below hbc
      have htdq8a : ∀ b, BkT j.t k1 b → ¬ BkD j.d k2 b := fun b e1 e2 => by have h1 := htlq8a b e1; have h2 := (ho2q8a.blk e2).1; omega
      have hvq8a : Blk wq8a (wq1a.heap.size) #[.slice none 0 0, .int .i64 0, .int .i64 0, .int .i64 0, .slice none 0 0, .slice none 0 0, .slice none 0 0] 38 := hvq2b.below hbc hvq2b.lt
      have hltq8a : wq1a.heap.size < wq8a.heap.size := hvq8a.lt
      have hdvq8a : ¬ BkD j.d k2 (wq1a.heap.size) := fun e => by have h1 := (ho2q8a.blk e).1; have h2 := hvq2b.lt; omega
      have holq8a := ho2q8a.lower hBq2b.size
      clear hbc
      refine hK.out _ _ (HSt.out _ hBq8a) (fun hHeld => ?_)
      clear hK K
      try simp only [Act.put, List.setIfInBounds_toArray, List.set_cons_zero, List.set_cons_succ]
      refine wpAnyH_ready (rs := [6]) (by kernel_rfl) (by simp) ?_
      refine AllReadyH.cons (o := ?o6q9a) ?ho6q9a (fun K hK => ?st6q9a) AllReadyH.nil
      case ho6q9a =>
        simp only [List.getElem?_toArray, List.getElem?_cons_succ, List.getElem?_cons_zero]
        rfl
      go_simp
      refine hK.out _ _ hHeld (fun hHeld => ?_)
      clear hK K
      try simp only [Act.put, List.setIfInBounds_toArray, List.set_cons_zero, List.set_cons_succ]
      refine wpAnyH_done (by kernel_rfl) ?_ _
      have z0 := hvq8a.cell 0
      have z1 := hvq8a.cell 1
      have z2 := hvq8a.cell 2
      have z3 := hvq8a.cell 3
      have z4 := hvq8a.cell 4
      have z5 := hvq8a.cell 5
      have z6 := hvq8a.cell 6
      have f0 := hvq8a.frozen 0
      have f1 := hvq8a.frozen 1
      have f2 := hvq8a.frozen 2
      have f3 := hvq8a.frozen 3
      have f4 := hvq8a.frozen 4
      have f5 := hvq8a.frozen 5
      have f6 := hvq8a.frozen 6
      simp at z0 z1 z2 z3 z4 z5 z6
      have HS : Hid (∀ U, U = (((((((wq8a.setCell ⟨wq1a.heap.size, 0, none⟩ (.slice k1.a j.t.n k1.c)).setCell ⟨wq1a.heap.size, 1, none⟩ (.int .i64 j.t.now)).setCell ⟨wq1a.heap.size, 2, none⟩ (.int .i64 j.d.since)).setCell ⟨wq1a.heap.size, 3, none⟩ (.int .i64 j.d.date)).setCell ⟨wq1a.heap.size, 4, none⟩ (.slice k2.lA j.d.ln k2.lc)).setCell ⟨wq1a.heap.size, 5, none⟩ (.slice k2.iA j.d.m k2.ic)).setCell ⟨wq1a.heap.size, 6, none⟩ (.slice none 0 0)) → Jv w j l k1 k2 (wq1a.heap.size) U) := fun U e => by
        subst e
        have hk : ∀ b, b ≠ wq1a.heap.size → (((((((wq8a.setCell ⟨wq1a.heap.size, 0, none⟩ (.slice k1.a j.t.n k1.c)).setCell ⟨wq1a.heap.size, 1, none⟩ (.int .i64 j.t.now)).setCell ⟨wq1a.heap.size, 2, none⟩ (.int .i64 j.d.since)).setCell ⟨wq1a.heap.size, 3, none⟩ (.int .i64 j.d.date)).setCell ⟨wq1a.heap.size, 4, none⟩ (.slice k2.lA j.d.ln k2.lc)).setCell ⟨wq1a.heap.size, 5, none⟩ (.slice k2.iA j.d.m k2.ic)).setCell ⟨wq1a.heap.size, 6, none⟩ (.slice none 0 0)).heap[b]? = wq8a.heap[b]? := fun b hb => by
          refine (blk_setCell_other _ _ _ _ (show b ≠ _ from hb)).trans ((blk_setCell_other _ _ _ _ (show b ≠ _ from hb)).trans ((blk_setCell_other _ _ _ _ (show b ≠ _ from hb)).trans ((blk_setCell_other _ _ _ _ (show b ≠ _ from hb)).trans ((blk_setCell_other _ _ _ _ (show b ≠ _ from hb)).trans ((blk_setCell_other _ _ _ _ (show b ≠ _ from hb)).trans (blk_setCell_other _ _ _ _ (show b ≠ _ from hb)))))))
        exact ⟨⟨(H2.out.below hBq8a).p.of_block (hk _ (by have := hVq2b; omega)), (H2.out.below hBq8a).r.of_block (hk _ (by have := hVq2b; omega)), H2.out.bel.trans ((bel_put (bel_put (bel_put (bel_put (bel_put (bel_put (bel_put hBq8a _ hVq2b) _ hVq2b) _ hVq2b) _ hVq2b) _ hVq2b) _ hVq2b) _ hVq2b).mono H2.out.bel.size)⟩, (((((((hvq8a.set 0 _).set 1 _).set 2 _).set 3 _).set 4 _).set 5 _).set 6 _), by have := hVq2b; omega, (htq8a.keep fun b e => hk b (fun e' => htvq2b (e' ▸ e))).lower hs2, (holq8a.keep fun b e => hk b (fun e' => hdvq8a (e' ▸ e))).lower hs2, htdq8a, htvq2b, hdvq8a⟩
      show Oper.wp _ _ _ _ _ _
      go_simp
      generalize hV : wq1a.heap.size = V
      exact NoPanic.normal (KEY.out k1 k2 V _ (by rw [← hV]; exact HS.out _ rfl))
    refine AllReadyH.cons (o := ?o7q1b) ?ho7q1b (fun K hK => ?st7q1b) AllReadyH.nil
    case ho7q1b =>
      simp only [List.getElem?_toArray, List.getElem?_cons_succ, List.getElem?_cons_zero]
      rfl
    go_simp
    have hBq1b : Below w2.heap.size w2 (w2.drew.alloc (.cells #[.slice none 0 0, .int .i64 0, .int .i64 0, .int .i64 0, .slice none 0 0, .slice none 0 0, .slice none 0 0] 38)) := hB0.alloc hB0.size _
    have hvq1b : Blk (w2.drew.alloc (.cells #[.slice none 0 0, .int .i64 0, .int .i64 0, .int .i64 0, .slice none 0 0, .slice none 0 0, .slice none 0 0] 38)) (w2.heap.size) #[.slice none 0 0, .int .i64 0, .int .i64 0, .int .i64 0, .slice none 0 0, .slice none 0 0, .slice none 0 0] 38 := by
      have h := Blk.new w2.drew #[.slice none 0 0, .int .i64 0, .int .i64 0, .int .i64 0, .slice none 0 0, .slice none 0 0, .slice none 0 0] 38
      simpa using h
    have hVq1b : w2.heap.size ≤ w2.heap.size := by
      have h := hB0.size
      simpa using h
    refine hK.out _ _ (HSt.out _ hBq1b) (fun hHeld => ?_)
    clear hK K
    try simp only [Act.put, List.setIfInBounds_toArray, List.set_cons_zero, List.set_cons_succ]
    refine wpAnyH_ready (rs := [2]) (by kernel_rfl) (by simp) ?_
    refine AllReadyH.cons (o := ?o2q11a) ?ho2q11a (fun K hK => ?st2q11a) AllReadyH.nil
    case ho2q11a =>
      simp only [List.getElem?_toArray, List.getElem?_cons_succ, List.getElem?_cons_zero]
      rfl
    go_simp
    refine (l2Tree_own j.t l.t _ ((hJ.t.below (Nat.le_refl _) H2.out.bel).below (Nat.le_refl _) hBq1b) (by omega) hst).mono ?_
    rintro e wq11a ⟨k1, rfl, hbc, ho1q11a⟩
    unfold tV
    have hBq11a : Below w2.heap.size w2 wq11a := hBq1b.trans (hbc.mono hBq1b.size)
    have hvq11a : Blk wq11a (w2.heap.size) #[.slice none 0 0, .int .i64 0, .int .i64 0, .int .i64 0, .slice none 0 0, .slice none 0 0, .slice none 0 0] 38 := hvq1b.below hbc hvq1b.lt
    have hltq11a : w2.heap.size < wq11a.heap.size := hvq11a.lt
    have htvq11a : ¬ BkT j.t k1 (w2.heap.size) := fun e => by have h1 := (ho1q11a.blk e).1; have h2 := hvq1b.lt; omega
    have holq11a := ho1q11a.lower hBq1b.size
    clear hbc
    refine hK.out _ _ (HSt.out _ hBq11a) (fun hHeld => ?_)
    clear hK K
    try simp only [Act.put, List.setIfInBounds_toArray, List.set_cons_zero, List.set_cons_succ]
    refine wpAnyH_ready (rs := [5]) (by kernel_rfl) (by simp) ?_
    refine AllReadyH.cons (o := ?o5q12a) ?ho5q12a (fun K hK => ?st5q12a) AllReadyH.nil
    case ho5q12a =>
      simp only [List.getElem?_toArray, List.getElem?_cons_succ, List.getElem?_cons_zero]
      rfl
    go_simp
    have htlq12a : ∀ b, BkT j.t k1 b → b < (wq11a).heap.size := fun b e => (holq11a.blk e).2
    refine (l5Copy_any j.d l.d _ ((hJ.d.below (Nat.le_refl _) H2.out.bel).below (Nat.le_refl _) hBq11a) hok hsd).mono ?_
    rintro e wq12a ⟨k2, rfl, hbc, ho2q12a⟩
    unfold dpV
    have hBq12a : Below w2.heap.size w2 wq12a := hBq11a.trans (hbc.mono hBq11a.size)
    have htq12a := holq11a.below hbc
    have htdq12a : ∀ b, BkT j.t k1 b → ¬ BkD j.d k2 b := fun b e1 e2 => by have h1 := htlq12a b e1; have h2 := (ho2q12a.blk e2).1; omega
    have hvq12a : Blk wq12a (w2.heap.size) #[.slice none 0 0, .int .i64 0, .int .i64 0, .int .i64 0, .slice none 0 0, .slice none 0 0, .slice none 0 0] 38 := hvq11a.below hbc hvq11a.lt
    have hltq12a : w2.heap.size < wq12a.heap.size := hvq12a.lt
    have hdvq12a : ¬ BkD j.d k2 (w2.heap.size) := fun e => by have h1 := (ho2q12a.blk e).1; have h2 := hvq11a.lt; omega
    have holq12a := ho2q12a.lower hBq11a.size
    clear hbc
    refine hK.out _ _ (HSt.out _ hBq12a) (fun hHeld => ?_)
    clear hK K
    try simp only [Act.put, List.setIfInBounds_toArray, List.set_cons_zero, List.set_cons_succ]
    refine wpAnyH_ready (rs := [6]) (by kernel_rfl) (by simp) ?_
    refine AllReadyH.cons (o := ?o6q13a) ?ho6q13a (fun K hK => ?st6q13a) AllReadyH.nil
    case ho6q13a =>
      simp only [List.getElem?_toArray, List.getElem?_cons_succ, List.getElem?_cons_zero]
      rfl
    go_simp
    refine hK.out _ _ hHeld (fun hHeld => ?_)
    clear hK K
    try simp only [Act.put, List.setIfInBounds_toArray, List.set_cons_zero, List.set_cons_succ]
    refine wpAnyH_done (by kernel_rfl) ?_ _
    have z0 := hvq12a.cell 0
    have z1 := hvq12a.cell 1
    have z2 := hvq12a.cell 2
    have z3 := hvq12a.cell 3
    have z4 := hvq12a.cell 4
    have z5 := hvq12a.cell 5
    have z6 := hvq12a.cell 6
    have f0 := hvq12a.frozen 0
    have f1 := hvq12a.frozen 1
    have f2 := hvq12a.frozen 2
    have f3 := hvq12a.frozen 3
    have f4 := hvq12a.frozen 4
    have f5 := hvq12a.frozen 5
    have f6 := hvq12a.frozen 6
    simp at z0 z1 z2 z3 z4 z5 z6
    have HS : Hid (∀ U, U = (((((((wq12a.setCell ⟨w2.heap.size, 0, none⟩ (.slice k1.a j.t.n k1.c)).setCell ⟨w2.heap.size, 1, none⟩ (.int .i64 j.t.now)).setCell ⟨w2.heap.size, 2, none⟩ (.int .i64 j.d.since)).setCell ⟨w2.heap.size, 3, none⟩ (.int .i64 j.d.date)).setCell ⟨w2.heap.size, 4, none⟩ (.slice k2.lA j.d.ln k2.lc)).setCell ⟨w2.heap.size, 5, none⟩ (.slice k2.iA j.d.m k2.ic)).setCell ⟨w2.heap.size, 6, none⟩ (.slice none 0 0)) → Jv w j l k1 k2 (w2.heap.size) U) := fun U e => by
      subst e
      have hk : ∀ b, b ≠ w2.heap.size → (((((((wq12a.setCell ⟨w2.heap.size, 0, none⟩ (.slice k1.a j.t.n k1.c)).setCell ⟨w2.heap.size, 1, none⟩ (.int .i64 j.t.now)).setCell ⟨w2.heap.size, 2, none⟩ (.int .i64 j.d.since)).setCell ⟨w2.heap.size, 3, none⟩ (.int .i64 j.d.date)).setCell ⟨w2.heap.size, 4, none⟩ (.slice k2.lA j.d.ln k2.lc)).setCell ⟨w2.heap.size, 5, none⟩ (.slice k2.iA j.d.m k2.ic)).setCell ⟨w2.heap.size, 6, none⟩ (.slice none 0 0)).heap[b]? = wq12a.heap[b]? := fun b hb => by
        refine (blk_setCell_other _ _ _ _ (show b ≠ _ from hb)).trans ((blk_setCell_other _ _ _ _ (show b ≠ _ from hb)).trans ((blk_setCell_other _ _ _ _ (show b ≠ _ from hb)).trans ((blk_setCell_other _ _ _ _ (show b ≠ _ from hb)).trans ((blk_setCell_other _ _ _ _ (show b ≠ _ from hb)).trans ((blk_setCell_other _ _ _ _ (show b ≠ _ from hb)).trans (blk_setCell_other _ _ _ _ (show b ≠ _ from hb)))))))
      exact ⟨⟨(H2.out.below hBq12a).p.of_block (hk _ (by have := hVq1b; omega)), (H2.out.below hBq12a).r.of_block (hk _ (by have := hVq1b; omega)), H2.out.bel.trans ((bel_put (bel_put (bel_put (bel_put (bel_put (bel_put (bel_put hBq12a _ hVq1b) _ hVq1b) _ hVq1b) _ hVq1b) _ hVq1b) _ hVq1b) _ hVq1b).mono H2.out.bel.size)⟩, (((((((hvq12a.set 0 _).set 1 _).set 2 _).set 3 _).set 4 _).set 5 _).set 6 _), by have := hVq1b; omega, (htq12a.keep fun b e => hk b (fun e' => htvq11a (e' ▸ e))).lower hs2, (holq12a.keep fun b e => hk b (fun e' => hdvq12a (e' ▸ e))).lower hs2, htdq12a, htvq11a, hdvq12a⟩
    show Oper.wp _ _ _ _ _ _
    go_simp
    generalize hV : w2.heap.size = V
    exact NoPanic.normal (KEY.out k1 k2 V _ (by rw [← hV]; exact HS.out _ rfl))
  · intro k1 k2 V w3 hG
    have HJV : Hid (Jv w j l k1 k2 V w3) := hG
    have hs3 : w.heap.size + 2 ≤ w3.heap.size := by have h1 := hG.v.lt; have h2 := hG.vl; omega
    have hVw := hG.vl
    have HG : Hid (GV w3 V 6 38 (jcs j k1 k2) 0 none 0 (fun _ => ndZero) (fun _ => ⟨none, 0, none, 0⟩) w3) := GV.start hG.v _ _
    clear hG HSt H2
    go_wp2_with fail
    go_loopw [4] (fun i wr => ∃ (k : Nat) (b : Option Addr) (bc : Nat) (E : Nat → Nd) (M : Nat → Loc), k ≤ j.q ∧ i = .int .i64 k ∧ GV w3 V 6 38 (jcs j k1 k2) k b bc E M wr ∧ ∀ i, i < k → E i = j.e i) (fun i _ => j.q - (intOf i).toNat)
    case atStart => exact ⟨0, none, 0, _, _, Nat.zero_le _, rfl, HG.out, fun i hi => absurd hi (Nat.not_lt_zero _)⟩
    case round =>
      obtain ⟨k, b, bc, E, M, hk, rfl, hin, hsel⟩ := hrel
      have HIN : Hid (GV w3 V 6 38 (jcs j k1 k2) k b bc E M wr ∧ ∀ i, i < k → E i = j.e i) := ⟨hin, hsel⟩
      have HT : Hid (Jc w j l wr) := HJV.out.c.of hin hVw
      have hsw : w3.heap.size ≤ wr.heap.size := hin.size
      clear hin hsel
      have p6 : wr.cell? ⟨w.heap.size, 6, none⟩ = some (.slice l.e j.q l.f) := HT.out.p.cell 6
      have v6 : wr.cell? ⟨V, 6, none⟩ = some (.slice b k bc) := HIN.out.1.v.cell 6
      by_cases hlt : k < j.q
      · have hlti : (k : Int) < (j.q : Int) := by omega
        obtain ⟨bT, oT, hT, hTl, hTc⟩ := (hJ.e.below (Nat.le_refl _) HT.out.bel).at hlt
        have HTA : Hid (l.e = some ⟨bT, oT, none⟩) := hT
        clear hT hTc
        go_wp2_with fail
        have HW : Hid (bT < w.heap.size ∧ ∀ W', Below wr.heap.size wr W' → (W'.cell? ⟨V, 6, none⟩ = some (.slice b k bc) ∧ W'.cell? ⟨w.heap.size, 6, none⟩ = some (.slice (some ⟨bT, oT, none⟩) j.q l.f) ∧ W'.cell? ⟨bT, oT + k * 5, none⟩ = some (.int .i64 (j.e k).kind) ∧ W'.cell? ⟨bT, oT + k * 5 + 1, none⟩ = some (.string (j.e k).text) ∧ W'.cell? ⟨bT, oT + k * 5 + 2, none⟩ = some (.slice (l.g k).nA (j.e k).nn (l.g k).nc) ∧ W'.cell? ⟨bT, oT + k * 5 + 3, none⟩ = some (.slice (l.g k).kA (j.e k).kn (l.g k).kc) ∧ W'.cell? ⟨bT, oT + k * 5 + 4, none⟩ = some (.int .i64 (j.e k).turn)) ∧ NdIn W' (j.e k) (l.g k)) := by
          show _ ∧ _
          obtain ⟨bI, oI, hQ, hbl, _⟩ := hJ.e.at hlt
          have hQT := HTA.out
          rw [hQ] at hQT
          obtain ⟨rfl, rfl⟩ : bI = bT ∧ oI = oT := by cases hQT; exact ⟨rfl, rfl⟩
          refine ⟨by omega, fun W' hW => ?_⟩
          have hcc : W'.cell? ⟨w.heap.size, 6, none⟩ = some (.slice l.e j.q l.f) := (HT.out.below hW).p.cell 6
          have hv3 : W'.cell? ⟨V, 6, none⟩ = some (.slice b k bc) := (HIN.out.1.below hW).v.cell 6
          obtain ⟨bI', oI', hQ', _, hc'⟩ := ((hJ.e.below (Nat.le_refl _) HT.out.bel).below (Nat.le_refl _) hW).at hlt
          obtain ⟨d1, d2, d3, d4, d5, d6⟩ := hc' k hlt
          rw [hQ] at hQ'
          cases hQ'
          refine ⟨⟨hv3, ?_, d1, d2, d3, d4, d5⟩, d6⟩
          rw [← hQ]
          exact hcc
        obtain ⟨hbIl, hSt⟩ := HW.out
        have HSt : Hid _ := hSt
        have hsm := hse k hlt
        unfold Nd.size at hsm
        clear p6 v6 hSt HW
        have hd5 : Below wr.heap.size wr wr.drew := below_drewN (Below.refl _ _) 1
        refine wp_region_noPanic ?_
        refine wp_region_peel2 (fun W' => W'.cell? ⟨V, 6, none⟩ = some (.slice b k bc) ∧ W'.cell? ⟨w.heap.size, 6, none⟩ = some (.slice (some ⟨bT, oT, none⟩) j.q l.f) ∧ W'.cell? ⟨bT, oT + k * 5, none⟩ = some (.int .i64 (j.e k).kind) ∧ W'.cell? ⟨bT, oT + k * 5 + 1, none⟩ = some (.string (j.e k).text) ∧ W'.cell? ⟨bT, oT + k * 5 + 2, none⟩ = some (.slice (l.g k).nA (j.e k).nn (l.g k).nc) ∧ W'.cell? ⟨bT, oT + k * 5 + 3, none⟩ = some (.slice (l.g k).kA (j.e k).kn (l.g k).kc) ∧ W'.cell? ⟨bT, oT + k * 5 + 4, none⟩ = some (.int .i64 (j.e k).turn)) _ _ (by kernel_rfl) rfl rfl (by kernel_rfl) (by kernel_rfl) ?_ (fun hHeld => ?_)
        · exact (HSt.out _ hd5).1
        simp only [List.pop_toArray, List.dropLast, List.size_toArray, List.length_cons, List.length_nil, Nat.reduceAdd, Nat.reduceSub, List.getElem_toArray, List.getElem_cons_succ, List.getElem_cons_zero]
        refine peel_take (i := 0) (oi := ?oi0y) (v := ?v0y) (fun _ _ _ _ _ h => h) hHeld ?hi0y (by kernel_rfl) (by kernel_rfl) (by kernel_rfl) ?hw0y ?hy0y ?rest0y
        case hi0y =>
          simp only [List.getElem?_toArray, List.getElem?_cons_zero]
          rfl
        case hw0y => rfl
        case hy0y =>
          intro w hSw
          obtain ⟨s0, s1, s2, s3, s4, s5, s6⟩ := hSw
          go_simp
          try with_reducible rfl
        try simp only [Act.put, List.setIfInBounds_toArray, List.set_cons_zero, List.set_cons_succ]
        refine peel_take (i := 1) (oi := ?oi1y) (v := ?v1y) (fun _ _ _ _ _ h => h) hHeld ?hi1y (by kernel_rfl) (by kernel_rfl) (by kernel_rfl) ?hw1y ?hy1y ?rest1y
        case hi1y =>
          simp only [List.getElem?_toArray, List.getElem?_cons_succ, List.getElem?_cons_zero]
          rfl
        case hw1y => rfl
        case hy1y =>
          intro w hSw
          obtain ⟨s0, s1, s2, s3, s4, s5, s6⟩ := hSw
          go_simp
          try with_reducible rfl
        try simp only [Act.put, List.setIfInBounds_toArray, List.set_cons_zero, List.set_cons_succ]
        refine peel_take (i := 2) (oi := ?oi2y) (v := ?v2y) (fun _ _ _ _ _ h => h) hHeld ?hi2y (by kernel_rfl) (by kernel_rfl) (by kernel_rfl) ?hw2y ?hy2y ?rest2y
        case hi2y =>
          simp only [List.getElem?_toArray, List.getElem?_cons_succ, List.getElem?_cons_zero]
          rfl
        case hw2y => rfl
        case hy2y =>
          intro w hSw
          obtain ⟨s0, s1, s2, s3, s4, s5, s6⟩ := hSw
          go_simp
          try with_reducible rfl
        try simp only [Act.put, List.setIfInBounds_toArray, List.set_cons_zero, List.set_cons_succ]
        refine peel_take (i := 3) (oi := ?oi3y) (v := ?v3y) (fun _ _ _ _ _ h => h) hHeld ?hi3y (by kernel_rfl) (by kernel_rfl) (by kernel_rfl) ?hw3y ?hy3y ?rest3y
        case hi3y =>
          simp only [List.getElem?_toArray, List.getElem?_cons_succ, List.getElem?_cons_zero]
          rfl
        case hw3y => rfl
        case hy3y =>
          intro w hSw
          obtain ⟨s0, s1, s2, s3, s4, s5, s6⟩ := hSw
          go_simp
          try with_reducible rfl
        try simp only [Act.put, List.setIfInBounds_toArray, List.set_cons_zero, List.set_cons_succ]
        refine peel_take (i := 4) (oi := ?oi4y) (v := ?v4y) (fun _ _ _ _ _ h => h) hHeld ?hi4y (by kernel_rfl) (by kernel_rfl) (by kernel_rfl) ?hw4y ?hy4y ?rest4y
        case hi4y =>
          simp only [List.getElem?_toArray, List.getElem?_cons_succ, List.getElem?_cons_zero]
          rfl
        case hw4y => rfl
        case hy4y =>
          intro w hSw
          obtain ⟨s0, s1, s2, s3, s4, s5, s6⟩ := hSw
          go_simp
          try with_reducible rfl
        try simp only [Act.put, List.setIfInBounds_toArray, List.set_cons_zero, List.set_cons_succ]
        refine peel_take (i := 5) (oi := ?oi5y) (v := ?v5y) (fun _ _ _ _ _ h => h) hHeld ?hi5y (by kernel_rfl) (by kernel_rfl) (by kernel_rfl) ?hw5y ?hy5y ?rest5y
        case hi5y =>
          simp only [List.getElem?_toArray, List.getElem?_cons_succ, List.getElem?_cons_zero]
          rfl
        case hw5y => rfl
        case hy5y =>
          intro w hSw
          obtain ⟨s0, s1, s2, s3, s4, s5, s6⟩ := hSw
          go_simp
          try with_reducible rfl
        try simp only [Act.put, List.setIfInBounds_toArray, List.set_cons_zero, List.set_cons_succ]
        refine peel_take (i := 6) (oi := ?oi6y) (v := ?v6y) (fun _ _ _ _ _ h => h) hHeld ?hi6y (by kernel_rfl) (by kernel_rfl) (by kernel_rfl) ?hw6y ?hy6y ?rest6y
        case hi6y =>
          simp only [List.getElem?_toArray, List.getElem?_cons_succ, List.getElem?_cons_zero]
          rfl
        case hw6y => rfl
        case hy6y =>
          intro w hSw
          obtain ⟨s0, s1, s2, s3, s4, s5, s6⟩ := hSw
          go_simp
          try with_reducible rfl
        try simp only [Act.put, List.setIfInBounds_toArray, List.set_cons_zero, List.set_cons_succ]
        refine wpAnyH_ready (rs := [7]) (by kernel_rfl) (by simp) ?_
        refine AllReadyH.cons (o := ?o7y) ?ho7y (fun K hK => ?st7y) AllReadyH.nil
        case ho7y =>
          simp only [List.getElem?_toArray, List.getElem?_cons_succ, List.getElem?_cons_zero]
          rfl
        go_simp
        refine (l2Copy_any (j.e k) (l.g k) wr.drew (HSt.out _ hd5).2 (by omega) (by omega)).mono ?_
        rintro e W6 ⟨l5, rfl, hN5⟩
        unfold ndV
        have hb6 : Below wr.heap.size wr W6 := hd5.trans hN5.bel
        refine hK.out _ _ (HSt.out W6 hb6).1 (fun hHeld => ?re7y)
        clear hK K
        try simp only [Act.put, List.setIfInBounds_toArray, List.set_cons_zero, List.set_cons_succ]
        refine wpAnyH_ready (rs := [8]) (by kernel_rfl) (by simp) ?_
        refine AllReadyH.cons (o := ?o8y) ?ho8y (fun K hK => ?st8y) AllReadyH.nil
        case ho8y =>
          simp only [List.getElem?_toArray, List.getElem?_cons_succ, List.getElem?_cons_zero]
          rfl
        go_simp
        have hb7 : Below wr.heap.size wr (W6.alloc (.cells #[.int .i64 (j.e k).kind, .string (j.e k).text, .slice l5.nA (j.e k).nn l5.nc, .slice l5.kA (j.e k).kn l5.kc, .int .i64 (j.e k).turn] 87)) := hb6.alloc hb6.size _
        refine hK.out _ _ (HSt.out _ hb7).1 (fun hHeld => ?re8y)
        clear hK K
        try simp only [Act.put, List.setIfInBounds_toArray, List.set_cons_zero, List.set_cons_succ]
        refine wpAnyH_ready (rs := [9]) (by kernel_rfl) (by simp) ?_
        refine AllReadyH.cons (o := ?o9y) ?ho9y (fun K hK => ?st9y) AllReadyH.nil
        case ho9y =>
          simp only [List.getElem?_toArray, List.getElem?_cons_succ, List.getElem?_cons_zero]
          rfl
        have hD6 := HIN.out.1.below hb7
        have hN6 := hN5.new.alloc (.cells #[.int .i64 (j.e k).kind, .string (j.e k).text, .slice l5.nA (j.e k).nn l5.nc, .slice l5.kA (j.e k).kn l5.kc, .int .i64 (j.e k).turn] 87)
        have hvl := HIN.out.1.vl
        have hneV : (Value.slice b k bc).ownBlock ≠ some V := fun e => by have := HIN.out.1.own _ e; omega
        have hbo5 : ∀ q, (Value.slice b k bc).ownBlock = some q → w3.heap.size ≤ q := fun q e => (HIN.out.1.own q e).1
        refine step_of (by rfl) (wp_append_src (.tmp 20) (.tmp 27) 31 rfl w3.heap.size 87 y0 (.agg #[.int .i64 0, .string ByteArray.empty, .slice none 0 0, .slice none 0 0, .int .i64 0]) 5 80 Tryz.underlying31 hy hy0 hy1 hy2 rfl (by decide) (.slice b k bc) k _ (by rfl) hD6.ot.ownI _ 1 _ (by rfl) (src_node W6 (j.e k) l5) (by unfold maxLen; omega) (by omega) (by have := hb7.size; have := HIN.out.1.size; omega) ?_)
        intro vI W7 hown hgrow hnil hat
        rcases hown.2 with ⟨_, h0⟩ | ⟨gI, cI, cur, hvI, _, _, _⟩
        · omega
        subst hvI
        have hbI : (Value.slice b k bc).ownBlock = some gI ∨ (W6.alloc (.cells #[.int .i64 (j.e k).kind, .string (j.e k).text, .slice l5.nA (j.e k).nn l5.nc, .slice l5.kA (j.e k).kn l5.kc, .int .i64 (j.e k).turn] 87)).heap.size ≤ gI := by
          rcases hat with e | e
          · exact Or.inl e.symm
          · right
            have e' : gI = (W6.alloc (.cells #[.int .i64 (j.e k).kind, .string (j.e k).text, .slice l5.nA (j.e k).nn l5.nc, .slice l5.kA (j.e k).kn l5.kc, .int .i64 (j.e k).turn] 87)).heap.size := by simpa [Value.ownBlock] using e
            omega
        have hV7 := blk_grownT hD6.v hgrow hneV
        have hHeld7 : W7.cell? ⟨V, 6, none⟩ = some (.slice b k bc) ∧ W7.cell? ⟨w.heap.size, 6, none⟩ = some (.slice (some ⟨bT, oT, none⟩) j.q l.f) ∧ W7.cell? ⟨bT, oT + k * 5, none⟩ = some (.int .i64 (j.e k).kind) ∧ W7.cell? ⟨bT, oT + k * 5 + 1, none⟩ = some (.string (j.e k).text) ∧ W7.cell? ⟨bT, oT + k * 5 + 2, none⟩ = some (.slice (l.g k).nA (j.e k).nn (l.g k).nc) ∧ W7.cell? ⟨bT, oT + k * 5 + 3, none⟩ = some (.slice (l.g k).kA (j.e k).kn (l.g k).kc) ∧ W7.cell? ⟨bT, oT + k * 5 + 4, none⟩ = some (.int .i64 (j.e k).turn) := by
          obtain ⟨e0, e1, e2, e3, e4, e5, e6⟩ := (HSt.out _ hb7).1
          have hlow : ∀ q o v, q < w3.heap.size → (W6.alloc (.cells #[.int .i64 (j.e k).kind, .string (j.e k).text, .slice l5.nA (j.e k).nn l5.nc, .slice l5.kA (j.e k).kn l5.kc, .int .i64 (j.e k).turn] 87)).cell? ⟨q, o, none⟩ = some v → W7.cell? ⟨q, o, none⟩ = some v := fun q o v hq h => hgrow.cell h (fun e => by have := hbo5 q e.symm; omega)
          exact ⟨hV7.cell 6, hlow _ _ _ (by omega) e1, hlow _ _ _ (by omega) e2, hlow _ _ _ (by omega) e3, hlow _ _ _ (by omega) e4, hlow _ _ _ (by omega) e5, hlow _ _ _ (by omega) e6⟩
        have H8 : Hid _ := (HIN.out.1.below hd5).item (f := 6) (fun _ _ => rfl) hN6 hgrow hown hbI
        refine hK.out _ _ hHeld7 (fun hHeld => ?re9y)
        clear hK K
        try simp only [Act.put, List.setIfInBounds_toArray, List.set_cons_zero, List.set_cons_succ]
        refine wpAnyH_done (by kernel_rfl) ?_ _
        show Oper.wp _ _ _ _ _ _
        have v07 : W7.cell? ⟨V, 6, none⟩ = some (.slice b k bc) := hV7.cell 6
        have f07 := hV7.frozen 6
        clear hown hgrow hnil hat hbI hV7 hHeld7 hN6 hD6 hN5 HSt hneV hHeld hd5 hb6 hb7 hsm hbo5
        go_simp
        show Oper.wp _ _ _ _ _ _
        go_simp
        refine NoPanic.normal ?_
        go_wp2_with fail
        go_roundw
        case rel => exact ⟨k + 1, some ⟨gI, 0, none⟩, cI, _, _, by omega, by go_num, H8.out, fun i hi => by
          by_cases e : i = k
          · subst e; simp
          · simp only [e, if_false]; exact HIN.out.2 i (by omega)⟩
        case measure => simp [intOf]; omega
      · obtain rfl : k = j.q := by omega
        have HOT : Hid (OwnJb wr (w.heap.size + 2) j ⟨k1, k2, b, bc, M⟩) := by
          have hE : OwnTr wr w3.heap.size j.dn ⟨b, bc, M⟩ := HIN.out.1.ot.ext fun i hi => ⟨(HIN.out.2 i hi).symm, rfl⟩
          have hEb : ∀ q, BkT j.dn ⟨b, bc, M⟩ q → w3.heap.size ≤ q := fun q e => (hE.blk e).1
          exact ⟨HJV.out.t.grown HIN.out.1.gr HJV.out.tv, HJV.out.d.grown HIN.out.1.gr HJV.out.dv, hE.lower hs3, HJV.out.td, fun q e1 e2 => by have h1 := (HJV.out.t.blk e1).2; have h2 := hEb q e2; omega, fun q e1 e2 => by have h1 := (HJV.out.d.blk e1).2; have h2 := hEb q e2; omega⟩
        have v0 : wr.cell? ⟨V, 0, none⟩ = some (.slice k1.a j.t.n k1.c) := HIN.out.1.v.cell 0
        have v1 : wr.cell? ⟨V, 1, none⟩ = some (.int .i64 j.t.now) := HIN.out.1.v.cell 1
        have v2 : wr.cell? ⟨V, 2, none⟩ = some (.int .i64 j.d.since) := HIN.out.1.v.cell 2
        have v3 : wr.cell? ⟨V, 3, none⟩ = some (.int .i64 j.d.date) := HIN.out.1.v.cell 3
        have v4 : wr.cell? ⟨V, 4, none⟩ = some (.slice k2.lA j.d.ln k2.lc) := HIN.out.1.v.cell 4
        have v5 : wr.cell? ⟨V, 5, none⟩ = some (.slice k2.iA j.d.m k2.ic) := HIN.out.1.v.cell 5
        have r0 : wr.cell? ⟨w.heap.size + 1, 0, none⟩ = some (.slice none 0 0) := HT.out.r.cell 0
        have r1 : wr.cell? ⟨w.heap.size + 1, 1, none⟩ = some (.int .i64 0) := HT.out.r.cell 1
        have r2 : wr.cell? ⟨w.heap.size + 1, 2, none⟩ = some (.int .i64 0) := HT.out.r.cell 2
        have r3 : wr.cell? ⟨w.heap.size + 1, 3, none⟩ = some (.int .i64 0) := HT.out.r.cell 3
        have r4 : wr.cell? ⟨w.heap.size + 1, 4, none⟩ = some (.slice none 0 0) := HT.out.r.cell 4
        have r5 : wr.cell? ⟨w.heap.size + 1, 5, none⟩ = some (.slice none 0 0) := HT.out.r.cell 5
        have r6 : wr.cell? ⟨w.heap.size + 1, 6, none⟩ = some (.slice none 0 0) := HT.out.r.cell 6
        have g0 := HT.out.r.frozen 0
        have g1 := HT.out.r.frozen 1
        have g2 := HT.out.r.frozen 2
        have g3 := HT.out.r.frozen 3
        have g4 := HT.out.r.frozen 4
        have g5 := HT.out.r.frozen 5
        have g6 := HT.out.r.frozen 6
        go_wp2_with fail
        refine end_world (F := fun U => Blk U (w.heap.size + 1) (jC j ⟨k1, k2, b, bc, M⟩) 38 ∧ Below w.heap.size w U ∧ OwnJb U (w.heap.size + 2) j ⟨k1, k2, b, bc, M⟩) ⟨((((((HT.out.r.set 0 _).set 1 _).set 2 _).set 3 _).set 4 _).set 5 _).set 6 _,
          bel_put (bel_put (bel_put (bel_put (bel_put (bel_put (bel_put HT.out.bel _ (by omega)) _ (by omega)) _ (by omega)) _ (by omega)) _ (by omega)) _ (by omega)) _ (by omega),
          ((((((HOT.out.put _ (by omega)).put _ (by omega)).put _ (by omega)).put _ (by omega)).put _ (by omega)).put _ (by omega)).put _ (by omega)⟩ ?_
        clear p6 v6 v0 v1 v2 v3 v4 v5 r0 r1 r2 r3 r4 r5 r6 g0 g1 g2 g3 g4 g5 g6
        rintro U ⟨hr, hB, hO⟩
        obtain ⟨r0, r1, r2, r3, r4, r5, r6⟩ := jC_cells hr
        exact bodyPost_ret (v := .agg #[.slice k1.a j.t.n k1.c, .int .i64 j.t.now, .int .i64 j.d.since, .int .i64 j.d.date, .slice k2.lA j.d.ln k2.lc, .slice k2.iA j.d.m k2.ic, .slice b j.q bc]) (by simp [results, Tryz.results44, go_sem, r0, r1, r2, r3, r4, r5, r6]) rfl ⟨⟨k1, k2, b, bc, M⟩, rfl, hB, hO.lower (by omega)⟩
end Go.Proofs.YtakifcobofkheaaGreatDoor

/-
  Jobs, as the laws hand them about: counted, copied, held against each other, marked and looked at.
-/
namespace Go.Proofs.YtakifcobofkheaaGreatDoor
open Go.RowKit Go.Deep
set_option linter.unusedVariables false
set_option linter.unusedSimpArgs false

set_option maxHeartbeats 1000000 in
theorem szJb (j : Jb) (l : JLoc) (left : Int) (w : World) (hI : JIn w j l) (hf : j.Fits) (h0 : 0 ≤ left) (h1 : left ≤ 1048576) :
    Calls Tryz.prog 22 #[jV j l, .int .i64 left] w fun e w' => Below w.heap.size w w' ∧ ∃ r : Int, e = .returned (.int .i64 r) ∧ r ≤ left ∧ (0 ≤ r → r + j.size ≤ left) := by
  unfold jV Jb.size
  go_enter Tryz.func22, Tryz.ntmps22
  go_wp2_with fail
  refine at_world (F := New1 w (jC j l) 51) (new1 w _ _) ?_
  rintro W ⟨hp, hb, hs⟩
  refine (szTr j.t l.t left W (hI.t.below (Nat.le_refl _) hb) hf.t h0 h1).mono ?_
  rintro e w1 ⟨hb1, r, rfl, hr1, hr2⟩
  have HP : Hid (Blk w1 w.heap.size (jC j l) 51 ∧ Below w.heap.size w w1) := ⟨hp.below hb1 hp.lt, hb.trans (hb1.mono hb.size)⟩
  clear hp hb hb1 hs
  by_cases hr3 : r < 0
  · have hr3' : decide (r < 0) = true := by simp; omega
    clear hr2
    go_wp2
    go_ret
    exact ⟨HP.out.2, -1, rfl, by omega, fun h => by omega⟩
  · have hr3' : decide (r < 0) = false := by simp; omega
    have hr4 := hr2 (by omega)
    clear hr2
    obtain ⟨p0, p1, p2, p3, p4, p5, p6⟩ := jC_cells HP.out.1
    go_wp2_with fail
    refine (szDp j.d l.d r w1 (hI.d.below (Nat.le_refl _) HP.out.2) hf.d (by omega) (by omega)).mono ?_
    rintro e w2 ⟨hb2, s, rfl, hs1, hs2⟩
    have HQ : Hid (Blk w2 w.heap.size (jC j l) 51 ∧ Below w.heap.size w w2) := ⟨HP.out.1.below hb2 HP.out.1.lt, HP.out.2.trans (hb2.mono HP.out.2.size)⟩
    clear hb2 HP p0 p1 p2 p3 p4 p5 p6
    by_cases hs3 : s < 0
    · have hs3' : decide (s < 0) = true := by simp; omega
      clear hs2
      go_wp2
      go_ret
      exact ⟨HQ.out.2, -1, rfl, by omega, fun h => by omega⟩
    · have hs3' : decide (s < 0) = false := by simp; omega
      have hs4 := hs2 (by omega)
      clear hs2
      obtain ⟨p0, p1, p2, p3, p4, p5, p6⟩ := jC_cells HQ.out.1
      go_wp2_with fail
      refine (szNodeS_any l.e j.q l.f j.e l.g s w2 (hI.e.below (Nat.le_refl _) HQ.out.2) hf.e hf.q (by omega) (by omega)).mono ?_
      rintro e w3 ⟨hb3, t, rfl, ht1, ht2⟩
      have HB : Hid (Below w.heap.size w w3) := HQ.out.2.trans (hb3.mono HQ.out.2.size)
      have HT : Hid (0 ≤ t → t + j.q + sizeTo j.e j.q ≤ s) := ht2
      clear hb3 HQ ht2 p0 p1 p2 p3 p4 p5 p6
      by_cases ht3 : t < 0
      · have ht3' : decide (t < 0) = true := by simp; omega
        go_wp2
        go_ret
        exact ⟨HB.out, -1, rfl, by omega, fun h => by omega⟩
      · have ht3' : decide (t < 0) = false := by simp; omega
        go_wp2
        go_ret
        exact ⟨HB.out, t, rfl, by omega, fun h => by have := HT.out h; omega⟩

set_option maxHeartbeats 1000000 in
theorem eqJb (j k : Jb) (l m : JLoc) (w : World) (hI : JIn w j l) (hI' : JIn w k m) (hf : j.Fits) (hf' : k.Fits) :
    Calls Tryz.prog 15 #[jV j l, jV k m] w fun e w' => Below w.heap.size w w' ∧ e = .returned (.bool (j.same k)) := by
  unfold jV
  have HX : Hid (((j.t.same k.t && j.d.same k.d) && (decide (j.q = k.q) && sameAll j.q j.e k.e)) = j.same k) := rfl
  go_enter Tryz.func15, Tryz.ntmps15
  go_wp2_with fail
  refine at_world (F := New2 w (jC j l) 38 (jC k m) 38) (new2 w _ _ _ _) ?_
  rintro W ⟨hp, hp', hb, hs⟩
  refine (eqTr j.t k.t l.t m.t W (hI.t.below (Nat.le_refl _) hb) (hI'.t.below (Nat.le_refl _) hb) hf.t hf'.t).mono ?_
  rintro e w1 ⟨hb1, rfl⟩
  have HP : Hid (Blk w1 w.heap.size (jC j l) 38 ∧ Blk w1 (w.heap.size + 1) (jC k m) 38 ∧ Below w.heap.size w w1) := ⟨hp.below hb1 hp.lt, hp'.below hb1 hp'.lt, hb.trans (hb1.mono hb.size)⟩
  clear hp hp' hb hb1 hs
  cases hq1 : j.t.same k.t with
  | false =>
    have HQ : Hid (j.t.same k.t = false) := hq1
    clear hq1
    go_wp2
    go_ret
    exact ⟨HP.out.2.2, ret_bool (by rw [← HX.out, HQ.out]; rfl)⟩
  | true =>
    have HQ : Hid (j.t.same k.t = true) := hq1
    clear hq1
    obtain ⟨p0, p1, p2, p3, p4, p5, p6⟩ := jC_cells HP.out.1
    obtain ⟨q0, q1, q2, q3, q4, q5, q6⟩ := jC_cells HP.out.2.1
    go_wp2_with fail
    refine (eqDp j.d k.d l.d m.d w1 (hI.d.below (Nat.le_refl _) HP.out.2.2) (hI'.d.below (Nat.le_refl _) HP.out.2.2) hf.d hf'.d).mono ?_
    rintro e w2 ⟨hb2, rfl⟩
    have HR : Hid (Blk w2 w.heap.size (jC j l) 38 ∧ Blk w2 (w.heap.size + 1) (jC k m) 38 ∧ Below w.heap.size w w2) := ⟨HP.out.1.below hb2 HP.out.1.lt, HP.out.2.1.below hb2 HP.out.2.1.lt, HP.out.2.2.trans (hb2.mono HP.out.2.2.size)⟩
    clear hb2 HP p0 p1 p2 p3 p4 p5 p6 q0 q1 q2 q3 q4 q5 q6
    cases hq2 : j.d.same k.d with
    | false =>
      have HZ : Hid (j.d.same k.d = false) := hq2
      clear hq2
      go_wp2
      go_ret
      exact ⟨HR.out.2.2, ret_bool (by rw [← HX.out, HQ.out, HZ.out]; rfl)⟩
    | true =>
      have HZ : Hid (j.d.same k.d = true) := hq2
      clear hq2
      obtain ⟨p0, p1, p2, p3, p4, p5, p6⟩ := jC_cells HR.out.1
      obtain ⟨q0, q1, q2, q3, q4, q5, q6⟩ := jC_cells HR.out.2.1
      go_wp2_with fail
      refine (eqNodeS_any l.e m.e j.q l.f k.q m.f j.e k.e l.g m.g w2 (hI.e.below (Nat.le_refl _) HR.out.2.2) (hI'.e.below (Nat.le_refl _) HR.out.2.2) hf.e hf'.e hf.q hf'.q).mono ?_
      rintro e w3 ⟨hb3, rfl⟩
      have HB : Hid (Below w.heap.size w w3) := HR.out.2.2.trans (hb3.mono HR.out.2.2.size)
      clear hb3 HR p0 p1 p2 p3 p4 p5 p6 q0 q1 q2 q3 q4 q5 q6
      cases hq3 : (decide (j.q = k.q) && sameAll j.q j.e k.e) with
      | false =>
        have HY : Hid ((decide (j.q = k.q) && sameAll j.q j.e k.e) = false) := hq3
        clear hq3
        go_wp2
        go_ret
        exact ⟨HB.out, ret_bool (by rw [← HX.out, HQ.out, HZ.out, HY.out]; rfl)⟩
      | true =>
        have HY : Hid ((decide (j.q = k.q) && sameAll j.q j.e k.e) = true) := hq3
        clear hq3
        go_wp2
        go_ret
        exact ⟨HB.out, ret_bool (by rw [← HX.out, HQ.out, HZ.out, HY.out]; rfl)⟩

/-- What is known within toJob. -/
structure TJ (w : World) (j : Jb) (l : JLoc) (cs : Array Value) (W : World) : Prop where
  p : Blk W w.heap.size (jC j l) 51
  r : Blk W (w.heap.size + 1) #[.slice none 0 0, .int .i64 0, .int .i64 0, .int .i64 0, .slice none 0 0, .slice none 0 0, .slice none 0 0] 38
  o : Blk W (w.heap.size + 1 + 1) cs 38
  bel : Below w.heap.size w W
  size : w.heap.size + 3 ≤ W.heap.size

theorem TJ.below {w : World} {j : Jb} {l : JLoc} {cs : Array Value} {W W' : World} (h : TJ w j l cs W) (hb : Below W.heap.size W W') : TJ w j l cs W' := ⟨h.p.below hb h.p.lt, h.r.below hb h.r.lt, h.o.below hb h.o.lt, h.bel.trans (hb.mono h.bel.size), Nat.le_trans h.size hb.size⟩
theorem TJ.set {w : World} {j : Jb} {l : JLoc} {cs : Array Value} {W : World} (h : TJ w j l cs W) (i : Nat) (v : Value) : TJ w j l (cs.setIfInBounds i v) (W.setCell ⟨w.heap.size + 1 + 1, i, none⟩ v) :=
  ⟨h.p.off _ (by omega), h.r.off _ (by omega), h.o.set i v, bel_put h.bel v (by omega), by simpa [World.setCell] using h.size⟩

set_option maxHeartbeats 2000000 in
theorem toJb (j : Jb) (l : JLoc) (w : World) (hI : JIn w j l) (hs : j.size ≤ 1048576) :
    Calls Tryz.prog 24 #[jV j l] w fun e w' => ∃ l', e = .returned (jV j l') ∧ Below w.heap.size w w' ∧ OwnJb w' w.heap.size j l' := by
  unfold jV
  unfold Jb.size at hs
  go_enter Tryz.func24, Tryz.ntmps24
  go_wp2_with fail
  refine at_world (F := TJ w j l #[.slice none 0 0, .int .i64 0, .int .i64 0, .int .i64 0, .slice none 0 0, .slice none 0 0, .slice none 0 0]) ?_ ?_
  · obtain ⟨h0, h1, h2, hb, hs⟩ := new3 w (jC j l) 51 #[.slice none 0 0, .int .i64 0, .int .i64 0, .int .i64 0, .slice none 0 0, .slice none 0 0, .slice none 0 0] 38 #[.slice none 0 0, .int .i64 0, .int .i64 0, .int .i64 0, .slice none 0 0, .slice none 0 0, .slice none 0 0] 38
    exact ⟨h0, h1, h2, hb, by simp⟩
  rintro W hT
  refine (toTr j.t l.t W (hI.t.below (Nat.le_refl _) hT.bel) (by omega)).mono ?_
  rintro e w1 ⟨k1, rfl, hb1, ho1⟩
  unfold tV
  have hT1 := hT.below hb1
  have H1 : Hid (TJ w j l #[.slice k1.a j.t.n k1.c, .int .i64 j.t.now, .int .i64 0, .int .i64 0, .slice none 0 0, .slice none 0 0, .slice none 0 0] ((w1.setCell ⟨w.heap.size + 1 + 1, 0, none⟩ (.slice k1.a j.t.n k1.c)).setCell ⟨w.heap.size + 1 + 1, 1, none⟩ (.int .i64 j.t.now)) ∧ OwnTr ((w1.setCell ⟨w.heap.size + 1 + 1, 0, none⟩ (.slice k1.a j.t.n k1.c)).setCell ⟨w.heap.size + 1 + 1, 1, none⟩ (.int .i64 j.t.now)) (w.heap.size + 3) j.t k1) := ⟨(hT1.set 0 _).set 1 _, ((ho1.lower hT.size).put _ (by omega)).put _ (by omega)⟩
  obtain ⟨p0, p1, p2, p3, p4, p5, p6⟩ := jC_cells hT1.p
  have o0 : w1.cell? ⟨w.heap.size + 1 + 1, 0, none⟩ = some (.slice none 0 0) := hT1.o.cell 0
  have o1 : w1.cell? ⟨w.heap.size + 1 + 1, 1, none⟩ = some (.int .i64 0) := hT1.o.cell 1
  have f0 := hT1.o.frozen 0
  have f1 := hT1.o.frozen 1
  clear hT hb1 ho1 hT1
  go_wp2_with fail
  refine at_world (F := fun W => TJ w j l #[.slice k1.a j.t.n k1.c, .int .i64 j.t.now, .int .i64 0, .int .i64 0, .slice none 0 0, .slice none 0 0, .slice none 0 0] W ∧ OwnTr W (w.heap.size + 3) j.t k1) H1.out ?_
  clear H1 p0 p1 p2 p3 p4 p5 p6 o0 o1 f0 f1
  rintro W ⟨hT, hO⟩
  refine (toDp j.d l.d W (hI.d.below (Nat.le_refl _) hT.bel) (by omega)).mono ?_
  rintro e w1 ⟨k2, rfl, hb1, ho1⟩
  unfold dpV
  have hT1 := hT.below hb1
  have hsW := hT.size
  have hB2 : ∀ b, BkT j.t k1 b → b < W.heap.size := fun b hb => (hO.blk hb).2
  have H1 : Hid (∀ U, U = ((((w1.setCell ⟨w.heap.size + 1 + 1, 2, none⟩ (.int .i64 j.d.since)).setCell ⟨w.heap.size + 1 + 1, 3, none⟩ (.int .i64 j.d.date)).setCell ⟨w.heap.size + 1 + 1, 4, none⟩ (.slice k2.lA j.d.ln k2.lc)).setCell ⟨w.heap.size + 1 + 1, 5, none⟩ (.slice k2.iA j.d.m k2.ic)) → TJ w j l #[.slice k1.a j.t.n k1.c, .int .i64 j.t.now, .int .i64 j.d.since, .int .i64 j.d.date, .slice k2.lA j.d.ln k2.lc, .slice k2.iA j.d.m k2.ic, .slice none 0 0] U ∧ OwnTr U (w.heap.size + 3) j.t k1 ∧ OwnDp U W.heap.size j.d k2 ∧ (∀ b, BkT j.t k1 b → b < W.heap.size) ∧ w.heap.size + 3 ≤ W.heap.size) := fun U e => by
    subst e
    exact ⟨(((hT1.set 2 _).set 3 _).set 4 _).set 5 _, ((((hO.below hb1).put _ (by omega)).put _ (by omega)).put _ (by omega)).put _ (by omega), (((ho1.put _ (by omega)).put _ (by omega)).put _ (by omega)).put _ (by omega), hB2, hsW⟩
  obtain ⟨p0, p1, p2, p3, p4, p5, p6⟩ := jC_cells hT1.p
  have o2 : w1.cell? ⟨w.heap.size + 1 + 1, 2, none⟩ = some (.int .i64 0) := hT1.o.cell 2
  have o3 : w1.cell? ⟨w.heap.size + 1 + 1, 3, none⟩ = some (.int .i64 0) := hT1.o.cell 3
  have o4 : w1.cell? ⟨w.heap.size + 1 + 1, 4, none⟩ = some (.slice none 0 0) := hT1.o.cell 4
  have o5 : w1.cell? ⟨w.heap.size + 1 + 1, 5, none⟩ = some (.slice none 0 0) := hT1.o.cell 5
  have f2 := hT1.o.frozen 2
  have f3 := hT1.o.frozen 3
  have f4 := hT1.o.frozen 4
  have f5 := hT1.o.frozen 5
  generalize W.heap.size = B2 at *
  clear hT hb1 ho1 hT1 hO hB2 hsW
  go_wp2_with fail
  refine at_world (F := fun U => TJ w j l #[.slice k1.a j.t.n k1.c, .int .i64 j.t.now, .int .i64 j.d.since, .int .i64 j.d.date, .slice k2.lA j.d.ln k2.lc, .slice k2.iA j.d.m k2.ic, .slice none 0 0] U ∧ OwnTr U (w.heap.size + 3) j.t k1 ∧ OwnDp U B2 j.d k2 ∧ (∀ b, BkT j.t k1 b → b < B2) ∧ w.heap.size + 3 ≤ B2) (H1.out _ rfl) ?_
  clear H1 p0 p1 p2 p3 p4 p5 p6 o2 o3 o4 o5 f2 f3 f4 f5
  rintro W ⟨hT, hO, hD, hB2, hsW⟩
  refine (toNodeS_own l.e j.q l.f j.e l.g W (hI.e.below (Nat.le_refl _) hT.bel) (by omega) (fun i hi => by have := tr_small (show sizeTo j.e j.q ≤ 1048576 by omega) i hi; omega)).mono ?_
  rintro e w1 ⟨rfl, hb1, L', ho1⟩
  have hT1 := hT.below hb1
  have hsW2 := hT.size
  have hB3 : ∀ b, BkD j.d k2 b → B2 ≤ b ∧ b < W.heap.size := fun b hb => hD.blk hb
  have hO1 := hO.below hb1
  have hD1 := hD.below hb1
  have hB4 : ∀ b, BkT j.t k1 b → b < W.heap.size := fun b hb => (hO.blk hb).2
  have H1 : Hid (∀ U, U = (w1.setCell ⟨w.heap.size + 1 + 1, 6, none⟩ (.slice (some ⟨W.heap.size, 0, none⟩) j.q j.q)) → TJ w j l (jC j ⟨k1, k2, some ⟨W.heap.size, 0, none⟩, j.q, L'⟩) U ∧ OwnJb U (w.heap.size + 3) j ⟨k1, k2, some ⟨W.heap.size, 0, none⟩, j.q, L'⟩) := fun U e => by
    subst e
    have hE : OwnTr w1 W.heap.size (Jb.dn j) ⟨some ⟨W.heap.size, 0, none⟩, j.q, L'⟩ := ho1
    have hEb : ∀ b, BkT (Jb.dn j) ⟨some ⟨W.heap.size, 0, none⟩, j.q, L'⟩ b → W.heap.size ≤ b := fun b hb => (hE.blk hb).1
    exact ⟨hT1.set 6 _, hO1.put _ (by omega), (hD1.lower hsW).put _ (by omega), (hE.put _ (by omega)).lower (by omega), fun b h1 h2 => by have := hB2 b h1; have := (hB3 b h2).1; omega, fun b h1 h2 => by have := hB4 b h1; have := hEb b h2; omega, fun b h1 h2 => by have := (hB3 b h1).2; have := hEb b h2; omega⟩
  have OC : Hid (w1.cell? ⟨w.heap.size + 1 + 1, 0, none⟩ = some (.slice k1.a j.t.n k1.c) ∧ w1.cell? ⟨w.heap.size + 1 + 1, 1, none⟩ = some (.int .i64 j.t.now) ∧ w1.cell? ⟨w.heap.size + 1 + 1, 2, none⟩ = some (.int .i64 j.d.since) ∧ w1.cell? ⟨w.heap.size + 1 + 1, 3, none⟩ = some (.int .i64 j.d.date) ∧ w1.cell? ⟨w.heap.size + 1 + 1, 4, none⟩ = some (.slice k2.lA j.d.ln k2.lc) ∧ w1.cell? ⟨w.heap.size + 1 + 1, 5, none⟩ = some (.slice k2.iA j.d.m k2.ic)) := ⟨hT1.o.cell 0, hT1.o.cell 1, hT1.o.cell 2, hT1.o.cell 3, hT1.o.cell 4, hT1.o.cell 5⟩
  have RC : Hid (w1.cell? ⟨w.heap.size + 1, 0, none⟩ = some (.slice none 0 0) ∧ w1.cell? ⟨w.heap.size + 1, 1, none⟩ = some (.int .i64 0) ∧ w1.cell? ⟨w.heap.size + 1, 2, none⟩ = some (.int .i64 0) ∧ w1.cell? ⟨w.heap.size + 1, 3, none⟩ = some (.int .i64 0) ∧ w1.cell? ⟨w.heap.size + 1, 4, none⟩ = some (.slice none 0 0) ∧ w1.cell? ⟨w.heap.size + 1, 5, none⟩ = some (.slice none 0 0) ∧ w1.cell? ⟨w.heap.size + 1, 6, none⟩ = some (.slice none 0 0) ∧ w1.frozen? ⟨w.heap.size + 1, 0, none⟩ = false ∧ w1.frozen? ⟨w.heap.size + 1, 1, none⟩ = false ∧ w1.frozen? ⟨w.heap.size + 1, 2, none⟩ = false ∧ w1.frozen? ⟨w.heap.size + 1, 3, none⟩ = false ∧ w1.frozen? ⟨w.heap.size + 1, 4, none⟩ = false ∧ w1.frozen? ⟨w.heap.size + 1, 5, none⟩ = false ∧ w1.frozen? ⟨w.heap.size + 1, 6, none⟩ = false) := ⟨hT1.r.cell 0, hT1.r.cell 1, hT1.r.cell 2, hT1.r.cell 3, hT1.r.cell 4, hT1.r.cell 5, hT1.r.cell 6, hT1.r.frozen 0, hT1.r.frozen 1, hT1.r.frozen 2, hT1.r.frozen 3, hT1.r.frozen 4, hT1.r.frozen 5, hT1.r.frozen 6⟩
  obtain ⟨p0, p1, p2, p3, p4, p5, p6⟩ := jC_cells hT1.p
  have o6 : w1.cell? ⟨w.heap.size + 1 + 1, 6, none⟩ = some (.slice none 0 0) := hT1.o.cell 6
  have f6 := hT1.o.frozen 6
  generalize W.heap.size = B3 at *
  clear hT hb1 ho1 hT1 hO hD hB2 hsW hB3 hO1 hD1 hB4 hsW2
  obtain ⟨o0, o1, o2, o3, o4, o5⟩ : w1.cell? ⟨w.heap.size + 1 + 1, 0, none⟩ = some (.slice k1.a j.t.n k1.c) ∧ w1.cell? ⟨w.heap.size + 1 + 1, 1, none⟩ = some (.int .i64 j.t.now) ∧ w1.cell? ⟨w.heap.size + 1 + 1, 2, none⟩ = some (.int .i64 j.d.since) ∧ w1.cell? ⟨w.heap.size + 1 + 1, 3, none⟩ = some (.int .i64 j.d.date) ∧ w1.cell? ⟨w.heap.size + 1 + 1, 4, none⟩ = some (.slice k2.lA j.d.ln k2.lc) ∧ w1.cell? ⟨w.heap.size + 1 + 1, 5, none⟩ = some (.slice k2.iA j.d.m k2.ic) := OC.out
  obtain ⟨r0, r1, r2, r3, r4, r5, r6, g0, g1, g2, g3, g4, g5, g6⟩ := RC.out
  clear OC RC
  go_wp2_with fail
  obtain ⟨hT, hO⟩ := H1.out _ rfl
  clear H1
  refine end_world (F := fun U => Blk U (w.heap.size + 1) (jC j ⟨k1, k2, some ⟨B3, 0, none⟩, j.q, L'⟩) 38 ∧ Below w.heap.size w U ∧ OwnJb U (w.heap.size + 3) j ⟨k1, k2, some ⟨B3, 0, none⟩, j.q, L'⟩) ⟨((((((hT.r.set 0 _).set 1 _).set 2 _).set 3 _).set 4 _).set 5 _).set 6 _,
     bel_put (bel_put (bel_put (bel_put (bel_put (bel_put (bel_put hT.bel _ (by omega)) _ (by omega)) _ (by omega)) _ (by omega)) _ (by omega)) _ (by omega)) _ (by omega),
     ((((((hO.put _ (by omega)).put _ (by omega)).put _ (by omega)).put _ (by omega)).put _ (by omega)).put _ (by omega)).put _ (by omega)⟩ ?_
  clear hT hO p0 p1 p2 p3 p4 p5 p6 o0 o1 o2 o3 o4 o5 o6 f6 r0 r1 r2 r3 r4 r5 r6 g0 g1 g2 g3 g4 g5 g6
  rintro U ⟨hr, hB, hO⟩
  obtain ⟨r0, r1, r2, r3, r4, r5, r6⟩ := jC_cells hr
  exact bodyPost_ret (v := .agg #[.slice k1.a j.t.n k1.c, .int .i64 j.t.now, .int .i64 j.d.since, .int .i64 j.d.date, .slice k2.lA j.d.ln k2.lc, .slice k2.iA j.d.m k2.ic, .slice (some ⟨B3, 0, none⟩) j.q j.q]) (by simp [results, Tryz.results24, go_sem, r0, r1, r2, r3, r4, r5, r6]) rfl ⟨⟨k1, k2, some ⟨B3, 0, none⟩, j.q, L'⟩, rfl, hB, hO.lower (by omega)⟩

theorem valD_marked {lv iv : Value} {d : Dp} {L : Nat → Loc} {k0 dd : Nat} (hd : dd < 2 + 2 * d.m) : valD lv iv (markD d.nd k0 d.m) L dd = valD lv iv d.nd L dd := by
  have hl : ∀ i, i < d.m → (markD d.nd k0 d.m i).nn = (d.nd i).nn ∧ (markD d.nd k0 d.m i).kn = (d.nd i).kn := fun i hi => by unfold markD; rw [if_pos hi]; exact ⟨rfl, rfl⟩
  unfold valD
  by_cases e0 : dd = 0
  · rw [if_pos e0, if_pos e0]
  · by_cases e1 : dd = 1
    · rw [if_neg e0, if_pos e1, if_neg e0, if_pos e1]
    · rw [if_neg e0, if_neg e1, if_neg e0, if_neg e1, (hl ((dd - 2) / 2) (by omega)).1, (hl ((dd - 2) / 2) (by omega)).2]

set_option maxHeartbeats 2000000 in
theorem markJb (j : Jb) (l : JLoc) (k0 B H : Nat) (w : World) (h : OwnJb w B j l) (hH : TopJb j l H) (hB : B ≤ w.heap.size) (hs : j.Mid) (hk1 : 1 ≤ k0) (hk2 : k0 ≤ 20000000) :
    Calls Tryz.prog 20 #[jV j l, .int .i64 (k0 : Int)] w fun e w' => e = .returned (.int .i64 (kJb j k0 : Nat)) ∧ Fr B H w w' ∧ MarkedJb w' B j l k0 := by
  have hT := (kJb_le hs k0).2.2
  have hTg := kTr_ge j.t k0
  have hD := (kJb_le hs k0).2.1
  have hDg := kDp_ge j.d (kTr j.t k0)
  have hE := (kJb_le hs k0).1
  unfold kJb at hE
  have hsz : j.t.size ≤ 1048576 ∧ j.d.size ≤ 1048576 ∧ j.q ≤ 1048576 := ⟨hs.t, hs.d, hs.q⟩
  unfold jV
  go_enter Tryz.func20, Tryz.ntmps20
  go_wp2_with fail
  refine at_world (F := New1 w (jC j l) 38) (new1 w _ _) ?_
  rintro W ⟨hp, hb, hs0⟩
  have ho := h.below hb
  refine (markTree_ownS l.t.a j.t.n l.t.c k0 B j.t.now (fun _ => 0) j.t.D l.t.L W ho.t (by have := hsz.1; unfold Tr.size at this; omega) hk1 (by unfold kTr at hT; omega) (fun i hi => by have := hsz.1; unfold Tr.size at this; have := tr_small (show sizeTo j.t.D j.t.n ≤ 1048576 by omega) i hi; omega) (by omega) (BkT j.t l.t) (fun d b hd e => ⟨d, hd, e⟩)).mono ?_
  rintro e w1 ⟨rfl, hf1, hm1⟩
  have hnp : ¬ BkT j.t l.t w.heap.size := fun e => by have := (h.t.blk e).2; omega
  have hK1 : ∀ b, ¬ BkT j.t l.t b → b < W.heap.size → w1.heap[b]? = W.heap[b]? := hf1.far
  have H1 : Hid (Blk w1 w.heap.size (jC j l) 38 ∧ FrS B (BkJ j l) w w1 ∧ MarkedTr w1 B j.t l.t k0 ∧ OwnDp w1 B j.d l.d ∧ OwnTr w1 B j.dn l.dn ∧ w.heap.size < w1.heap.size) := ⟨hp.of_block (hK1 _ hnp hp.lt), ((FrS.refl B _ w).below hB hb).trans (by omega) (hf1.more fun b e => Or.inl e), hm1, ho.d.keep fun b e => hK1 b (fun e' => h.td b e' e) (ho.d.blk e).2, ho.e.keep fun b e => hK1 b (fun e' => h.te b e' e) (ho.e.blk e).2, by have := hf1.bel.size; omega⟩
  clear hp hb hs0 ho hf1 hm1 hK1
  obtain ⟨p0, p1, p2, p3, p4, p5, p6⟩ := jC_cells H1.out.1
  rw [show kaT j.t.D k0 j.t.n = kTr j.t k0 from rfl]
  generalize hkT : kTr j.t k0 = kT at *
  go_wp2_with fail
  refine (markDump_ownS kT (by omega) (by omega) l.d.lA l.d.iA j.d.ln l.d.lc j.d.m l.d.ic B j.d.since j.d.date j.d.live j.d.ino j.d.nd l.d.L w1 H1.out.2.2.2.1 (by have := hsz.2.1; unfold Dp.size at this; omega) (by have := hsz.2.1; unfold Dp.size at this; omega) (by unfold kDp at hD; omega) (fun i hi => by have := nd_sum hsz.2.1 hi; omega) (by have := H1.out.2.2.2.2.2; omega) (BkD j.d l.d) (fun d b hd e => ⟨d, hd, e⟩)).mono ?_
  rintro e w2 ⟨rfl, hf2, hm2⟩
  have hK2 : ∀ b, ¬ BkD j.d l.d b → b < w1.heap.size → w2.heap[b]? = w1.heap[b]? := hf2.far
  have hnd : ¬ BkD j.d l.d w.heap.size := fun e => by have := (h.d.blk e).2; omega
  have H2 : Hid (Blk w2 w.heap.size (jC j l) 38 ∧ FrS B (BkJ j l) w w2 ∧ MarkedTr w2 B j.t l.t k0 ∧ MarkedDp w2 B j.d l.d kT ∧ OwnTr w2 B j.dn l.dn ∧ w.heap.size < w2.heap.size) := ⟨H1.out.1.of_block (hK2 _ hnd H1.out.1.lt), H1.out.2.1.trans (by have := H1.out.2.2.2.2.2; omega) (hf2.more fun b e => Or.inr (Or.inl e)), OwnTr.keep (t := markedT j.t k0) H1.out.2.2.1 fun b e => hK2 b (fun e' => h.td b (markedT_bk.1 e) e') (OwnTr.blk (t := markedT j.t k0) H1.out.2.2.1 e).2, hm2, H1.out.2.2.2.2.1.keep fun b e => hK2 b (fun e' => h.de b e' e) (H1.out.2.2.2.2.1.blk e).2, by have := hf2.bel.size; have := H1.out.2.2.2.2.2; omega⟩
  clear hf2 hm2 hK2 p0 p1 p2 p3 p4 p5 p6
  obtain ⟨p0, p1, p2, p3, p4, p5, p6⟩ := jC_cells H2.out.1
  rw [show kap j.d.nd (kT + j.d.ln) j.d.m = kDp j.d kT from rfl]
  have HKJ : Hid (kJb j k0 = kTr j.dn (kDp j.d kT)) := by show _ = _; unfold kJb; rw [hkT]
  generalize hkD : kDp j.d kT = kD at *
  go_wp2_with fail
  refine (markNodeS_ownS (BkT j.dn l.dn) l.e j.q l.f kD B 0 (fun _ => false) (fun _ => 0) j.e l.g (.slice none 0 0) w2 H2.out.2.2.2.2.1 (by omega) (by omega) (fun d b hd e => ⟨d, hd, e⟩) (by unfold kTr Jb.dn at hE; simp only at hE; omega) (fun i hi => by have := hs.es i hi; unfold Nd.size at this; omega)).mono ?_
  rintro e w3 ⟨rfl, hf3, hm3⟩
  have hK3 : ∀ b, ¬ BkT j.dn l.dn b → b < w2.heap.size → w3.heap[b]? = w2.heap[b]? := hf3.far
  have H3 : Hid (FrS B (BkJ j l) w w3 ∧ MarkedJb w3 B j l k0) := ⟨H2.out.2.1.trans (by have := H2.out.2.2.2.2.2; omega) (hf3.more fun b e => Or.inr (Or.inr e)), OwnTr.keep (t := markedT j.t k0) H2.out.2.2.1 fun b e => hK3 b (fun e' => h.te b (markedT_bk.1 e) e') (OwnTr.blk (t := markedT j.t k0) H2.out.2.2.1 e).2, by
    rw [hkT]
    have hm := H2.out.2.2.2.1
    refine ⟨⟨fun dd hd => owns_same (hm.rows.own dd hd) fun b hb => hK3 b (fun e' => ?_) (owns_block (hm.rows.own dd hd) hb).2, hm.rows.apart⟩⟩
    refine h.de b ⟨dd, hd, ?_⟩ e'
    rw [← hb]
    exact congrArg Value.ownBlock (valD_marked hd).symm, by
    rw [hkT, hkD]
    exact hm3⟩
  clear hf3 hm3 hK3
  rw [show kaT j.e kD j.q = kJb j k0 from by rw [HKJ.out]; rfl]
  clear p0 p1 p2 p3 p4 p5 p6
  go_wp2
  go_ret
  exact ⟨rfl, H3.out.1.fr hH, H3.out.2⟩

set_option maxHeartbeats 2000000 in
theorem heldJb (j : Jb) (l : JLoc) (k0 B : Nat) (w : World) (h : MarkedJb w B j l k0) (hs : j.Mid) (hk1 : 1 ≤ k0) (hk2 : k0 ≤ 20000000) (hnd : (∀ i, i < j.t.n → (j.t.D i).nn ≤ 1000000 ∧ (j.t.D i).kn ≤ 1000000) ∧ (∀ i, i < j.d.m → (j.d.nd i).nn ≤ 1000000 ∧ (j.d.nd i).kn ≤ 1000000) ∧ (∀ i, i < j.q → (j.e i).nn ≤ 1000000 ∧ (j.e i).kn ≤ 1000000)) :
    Calls Tryz.prog 21 #[jV j l, .int .i64 (k0 : Int)] w fun e w' => e = .returned (.int .i64 (kJb j k0 : Nat)) ∧ Below w.heap.size w w' := by
  have hT := (kJb_le hs k0).2.2
  have hTg := kTr_ge j.t k0
  have hD := (kJb_le hs k0).2.1
  have hDg := kDp_ge j.d (kTr j.t k0)
  have hE := (kJb_le hs k0).1
  unfold kJb at hE
  have hsz : j.t.size ≤ 1048576 ∧ j.d.size ≤ 1048576 ∧ j.q ≤ 1048576 := ⟨hs.t, hs.d, hs.q⟩
  unfold jV
  go_enter Tryz.func21, Tryz.ntmps21
  go_wp2_with fail
  refine at_world (F := New1 w (jC j l) 38) (new1 w _ _) ?_
  rintro W ⟨hp, hb, hs0⟩
  have hm := h.below hb
  refine (heldTree_own l.t.a j.t.n l.t.c k0 B j.t.now (fun _ => 0) j.t.D l.t.L W hm.t (by have := hsz.1; unfold Tr.size at this; omega) hk1 (by unfold kTr at hT; omega) hnd.1).mono ?_
  rintro e w1 ⟨rfl, hb1⟩
  have H1 : Hid (Blk w1 w.heap.size (jC j l) 38 ∧ Below w.heap.size w w1 ∧ MarkedJb w1 B j l k0) := ⟨hp.below hb1 hp.lt, hb.trans (hb1.mono hb.size), hm.below hb1⟩
  clear hp hb hs0 hm hb1
  obtain ⟨p0, p1, p2, p3, p4, p5, p6⟩ := jC_cells H1.out.1
  rw [show kaT j.t.D k0 j.t.n = kTr j.t k0 from rfl]
  generalize hkT : kTr j.t k0 = kT at *
  have y1 : decide (((kT : Nat) : Int) < 0) = false := by simp
  go_wp2_with fail
  refine (heldDump_ownK kT (by omega) (by omega) l.d.lA l.d.iA j.d.ln l.d.lc j.d.m l.d.ic B j.d.since j.d.date j.d.ino j.d.nd l.d.L w1 (by have := H1.out.2.2.d; rw [hkT] at this; exact this) (by have := hsz.2.1; unfold Dp.size at this; omega) (by have := hsz.2.1; unfold Dp.size at this; omega) (by unfold kDp at hD; omega) hnd.2.1).mono ?_
  rintro e w2 ⟨rfl, hb2⟩
  have H2 : Hid (Blk w2 w.heap.size (jC j l) 38 ∧ Below w.heap.size w w2 ∧ MarkedJb w2 B j l k0) := ⟨H1.out.1.below hb2 H1.out.1.lt, H1.out.2.1.trans (hb2.mono H1.out.2.1.size), H1.out.2.2.below hb2⟩
  clear hb2 p0 p1 p2 p3 p4 p5 p6 H1
  obtain ⟨p0, p1, p2, p3, p4, p5, p6⟩ := jC_cells H2.out.1
  rw [show kap j.d.nd (kT + j.d.ln) j.d.m = kDp j.d kT from rfl]
  have HKJ : Hid (kJb j k0 = kTr j.dn (kDp j.d kT)) := by show _ = _; unfold kJb; rw [hkT]
  have HMD : Hid (MarkedTr w2 B j.dn l.dn (kDp j.d kT)) := by have := H2.out.2.2.e; rw [hkT] at this; exact this
  generalize hkD : kDp j.d kT = kD at *
  have y2 : decide (((kD : Nat) : Int) < 0) = false := by simp
  go_wp2_with fail
  refine (heldNodeS_own l.e j.q l.f kD B 0 (fun _ => false) (fun _ => 0) j.e l.g (.slice none 0 0) w2 HMD.out (by omega) (by omega) (by unfold kTr Jb.dn at hE; simp only at hE; omega) hnd.2.2).mono ?_
  rintro e w3 ⟨rfl, hb3⟩
  have H3 : Hid (Below w.heap.size w w3) := H2.out.2.1.trans (hb3.mono H2.out.2.1.size)
  clear hb3
  rw [show kaT j.e kD j.q = kJb j k0 from by rw [HKJ.out]; rfl]
  have y3 : decide (((kJb j k0 : Nat) : Int) < 0) = false := by simp
  clear p0 p1 p2 p3 p4 p5 p6 y1 y2
  go_wp2
  go_ret
  exact ⟨rfl, H3.out⟩
end Go.Proofs.YtakifcobofkheaaGreatDoor

/-
  What JobNew of the specification answers.
-/
namespace Go.Proofs.YtakifcobofkheaaGreatDoor
open Go.RowKit Go.Deep
set_option linter.unusedVariables false
set_option linter.unusedSimpArgs false
set_option linter.unnecessarySimpa false

/-- A job and a code, in new memory. -/
def JPost (w : World) (j : Jb) (z : Int) (e : Ending) (w' : World) : Prop := Below w.heap.size w w' ∧ ∃ l, e = .returned (.tuple #[jV j l, .int .i64 z]) ∧ OwnJb w' w.heap.size j l
/-- A job. -/
def JPost1 (w : World) (j : Jb) (e : Ending) (w' : World) : Prop := Below w.heap.size w w' ∧ ∃ l, e = .returned (jV j l) ∧ OwnJb w' w.heap.size j l

theorem ownJb_none (W : World) (B : Nat) : OwnJb W B jbNone ⟨⟨none, 0, fun _ => ⟨none, 0, none, 0⟩⟩, ⟨none, 0, none, 0, fun _ => ⟨none, 0, none, 0⟩⟩, none, 0, fun _ => ⟨none, 0, none, 0⟩⟩ := by
  have hT : ∀ b, ¬ BkT trNone ⟨none, 0, fun _ => ⟨none, 0, none, 0⟩⟩ b := by
    rintro b ⟨d, hd, e⟩
    have : d = 0 ∨ d = 1 := by unfold trNone at hd; simp only at hd; omega
    rcases this with rfl | rfl <;> simp [valT, Value.ownBlock] at e
  refine ⟨OT.start _ _ _ _ _ _, OD.start _ _ _ _ _ _, OT.start _ _ _ _ _ _, fun b h1 => absurd h1 (hT b), fun b h1 => absurd h1 (hT b), fun b _ h2 => hT b h2⟩

theorem blk7 {W : World} {b : Nat} {ty : TypeId} {u0 u1 u2 u3 u4 u5 u6 : Value} (h : Blk W b #[u0, u1, u2, u3, u4, u5, u6] ty) (v0 v1 v2 v3 v4 v5 v6 : Value) : Blk (((((((W.setCell ⟨b, 0, none⟩ v0).setCell ⟨b, 1, none⟩ v1).setCell ⟨b, 2, none⟩ v2).setCell ⟨b, 3, none⟩ v3).setCell ⟨b, 4, none⟩ v4).setCell ⟨b, 5, none⟩ v5).setCell ⟨b, 6, none⟩ v6) b #[v0, v1, v2, v3, v4, v5, v6] ty := by
  have h0 : Blk _ b #[v0, u1, u2, u3, u4, u5, u6] ty := h.set 0 v0
  have h1 : Blk _ b #[v0, v1, u2, u3, u4, u5, u6] ty := h0.set 1 v1
  have h2 : Blk _ b #[v0, v1, v2, u3, u4, u5, u6] ty := h1.set 2 v2
  have h3 : Blk _ b #[v0, v1, v2, v3, u4, u5, u6] ty := h2.set 3 v3
  have h4 : Blk _ b #[v0, v1, v2, v3, v4, u5, u6] ty := h3.set 4 v4
  have h5 : Blk _ b #[v0, v1, v2, v3, v4, v5, u6] ty := h4.set 5 v5
  have h6 : Blk _ b #[v0, v1, v2, v3, v4, v5, v6] ty := h5.set 6 v6
  exact h6
theorem bel7 {W w : World} {B b : Nat} (h : Below B w W) (hb : B ≤ b) (v0 v1 v2 v3 v4 v5 v6 : Value) : Below B w (((((((W.setCell ⟨b, 0, none⟩ v0).setCell ⟨b, 1, none⟩ v1).setCell ⟨b, 2, none⟩ v2).setCell ⟨b, 3, none⟩ v3).setCell ⟨b, 4, none⟩ v4).setCell ⟨b, 5, none⟩ v5).setCell ⟨b, 6, none⟩ v6) := bel_put (bel_put (bel_put (bel_put (bel_put (bel_put (bel_put h _ hb) _ hb) _ hb) _ hb) _ hb) _ hb) _ hb
theorem jb7 {W : World} {B b : Nat} {j : Jb} {l : JLoc} (h : OwnJb W B j l) (hb : b < B) (v0 v1 v2 v3 v4 v5 v6 : Value) : OwnJb (((((((W.setCell ⟨b, 0, none⟩ v0).setCell ⟨b, 1, none⟩ v1).setCell ⟨b, 2, none⟩ v2).setCell ⟨b, 3, none⟩ v3).setCell ⟨b, 4, none⟩ v4).setCell ⟨b, 5, none⟩ v5).setCell ⟨b, 6, none⟩ v6) B j l := ((((((h.put v0 hb).put v1 hb).put v2 hb).put v3 hb).put v4 hb).put v5 hb).put v6 hb

/-- The boxes of JobNew's. -/
structure Jn (w : World) (t : Tr) (l : TLoc) (d : Dp) (k : DLoc) (W : World) : Prop where
  p : Blk W w.heap.size (tC t l) 33
  q : Blk W (w.heap.size + 1) (pC d k) 36
  r : Blk W (w.heap.size + 1 + 1) #[.slice none 0 0, .int .i64 0, .int .i64 0, .int .i64 0, .slice none 0 0, .slice none 0 0, .slice none 0 0] 38
  bel : Below w.heap.size w W

theorem Jn.below {w : World} {t : Tr} {l : TLoc} {d : Dp} {k : DLoc} {W W' : World} (h : Jn w t l d k W) (hb : Below W.heap.size W W') : Jn w t l d k W' := ⟨h.p.below hb h.p.lt, h.q.below hb h.q.lt, h.r.below hb h.r.lt, h.bel.trans (hb.mono h.bel.size)⟩

theorem l9From_any (t : Tr) (l : TLoc) (d : Dp) (k : DLoc) (w : World) :
    Calls Tryz.prog 45 #[tV t l, dpV d k] w fun e w' => Below w.heap.size w w' ∧ e = .returned (if d.since = 0 then tV trNone ⟨none, 0, l.L⟩ else tV t l) := by
  unfold tV dpV trNone
  by_cases hsi : d.since = 0
  · rw [if_pos hsi]
    have hb1 : (d.since == 0) = true := by simp [hsi]
    clear hsi
    go_enter Tryz.func45, Tryz.ntmps45
    go_wp2_with fail
    refine end_world (F := fun U => Blk U (w.heap.size + 1 + 1) #[.slice none 0 0, .int .i64 0] 33 ∧ Below w.heap.size w U) ?_ ?_
    · obtain ⟨h0, h1, h2, hb, _⟩ := new3 w (tC t l) 33 (pC d k) 36 #[.slice none 0 0, .int .i64 0] 33
      exact ⟨h2, hb⟩
    rintro U ⟨hr, hB⟩
    have e0 : U.cell? ⟨w.heap.size + 1 + 1, 0, none⟩ = some (.slice none 0 0) := hr.cell 0
    have e1 : U.cell? ⟨w.heap.size + 1 + 1, 1, none⟩ = some (.int .i64 0) := hr.cell 1
    exact bodyPost_ret (v := .agg #[.slice none 0 0, .int .i64 0]) (by simp [results, Tryz.results45, go_sem, e0, e1]) rfl ⟨hB, rfl⟩
    -- exact (((Below.refl _ _).alloc (Nat.le_refl _) _).alloc (by simp) _).alloc (by simp; omega) _
  · rw [if_neg hsi]
    have hb1 : (d.since == 0) = false := by simp [hsi]
    clear hsi
    go_enter Tryz.func45, Tryz.ntmps45
    go_wp2_with fail
    refine end_world (F := fun U => Blk U (w.heap.size + 1 + 1) #[.slice l.a t.n l.c, .int .i64 t.now] 33 ∧ Below w.heap.size w U) ?_ ?_
    · obtain ⟨h0, h1, h2, hb, _⟩ := new3 w (tC t l) 33 (pC d k) 36 #[.slice l.a t.n l.c, .int .i64 t.now] 33
      exact ⟨h2, hb⟩
    rintro U ⟨hr, hB⟩
    have e0 : U.cell? ⟨w.heap.size + 1 + 1, 0, none⟩ = some (.slice l.a t.n l.c) := hr.cell 0
    have e1 : U.cell? ⟨w.heap.size + 1 + 1, 1, none⟩ = some (.int .i64 t.now) := hr.cell 1
    exact bodyPost_ret (v := .agg #[.slice l.a t.n l.c, .int .i64 t.now]) (by simp [results, Tryz.results45, go_sem, e0, e1]) rfl ⟨hB, rfl⟩
    -- exact (((Below.refl _ _).alloc (Nat.le_refl _) _).alloc (by simp) _).alloc (by simp; omega) _

set_option maxRecDepth 100000 in
set_option maxHeartbeats 8000000 in
theorem specJobNew_any (t : Tr) (l : TLoc) (d : Dp) (k : DLoc) (w : World) (hT : TIn w t l) (hD : DpIn w d k) (ft : t.Fits) (fd : d.Fits) (hs : t.size + d.size ≤ 1048576) :
    Calls Tryz.prog 11 #[tV t l, dpV d k] w (JPost w (newAns t d) (backCode t.n t.D t.now d)) := by
  unfold tV dpV
  go_enter Tryz.func11, Tryz.ntmps11
  go_wp2_with fail
  refine at_world (F := fun W => Jn w t l d k W ∧ w.heap.size + 3 ≤ W.heap.size) ?_ ?_
  · obtain ⟨h0, h1, h2, hb, _⟩ := new3 w (tC t l) 33 (pC d k) 36 #[.slice none 0 0, .int .i64 0, .int .i64 0, .int .i64 0, .slice none 0 0, .slice none 0 0, .slice none 0 0] 38
    exact ⟨⟨h0, h1, h2, hb⟩, by simp⟩
  rintro W ⟨hO, hsW⟩
  refine (specBackOne_law t l d k W (hT.below (Nat.le_refl _) hO.bel) (hD.below (Nat.le_refl _) hO.bel) ft fd hs).mono ?_
  intro e w1 hpost
  obtain ⟨hb1, lr, rfl, hown⟩ := back_out t d hpost
  unfold tV
  have H1 : Hid (Jn w t l d k w1) := hO.below hb1
  have hs1 : w.heap.size + 3 ≤ w1.heap.size := by have := hb1.size; omega
  have HX : Hid (TIn w1 (backTr t d) lr) := hown.tIn
  clear hb1 hO hsW hpost hown
  have n0 : w.heap.size < w1.heap.size := by omega
  have m0 : w.heap.size ≠ w1.heap.size := by omega
  have n1 : w.heap.size + 1 < w1.heap.size := by omega
  have m1 : w.heap.size + 1 ≠ w1.heap.size := by omega
  have n2 : w.heap.size + 1 + 1 < w1.heap.size := by omega
  have m2 : w.heap.size + 1 + 1 ≠ w1.heap.size := by omega
  obtain ⟨p0, p1⟩ := tC_cells H1.out.p
  obtain ⟨q0, q1, q2, q3⟩ := pC_cells H1.out.q
  have r0 : w1.cell? ⟨w.heap.size + 1 + 1, 0, none⟩ = some (.slice none 0 0) := H1.out.r.cell 0
  have r1 : w1.cell? ⟨w.heap.size + 1 + 1, 1, none⟩ = some (.int .i64 0) := H1.out.r.cell 1
  have r2 : w1.cell? ⟨w.heap.size + 1 + 1, 2, none⟩ = some (.int .i64 0) := H1.out.r.cell 2
  have r3 : w1.cell? ⟨w.heap.size + 1 + 1, 3, none⟩ = some (.int .i64 0) := H1.out.r.cell 3
  have r4 : w1.cell? ⟨w.heap.size + 1 + 1, 4, none⟩ = some (.slice none 0 0) := H1.out.r.cell 4
  have r5 : w1.cell? ⟨w.heap.size + 1 + 1, 5, none⟩ = some (.slice none 0 0) := H1.out.r.cell 5
  have r6 : w1.cell? ⟨w.heap.size + 1 + 1, 6, none⟩ = some (.slice none 0 0) := H1.out.r.cell 6
  have g0 := H1.out.r.frozen 0
  have g1 := H1.out.r.frozen 1
  have g2 := H1.out.r.frozen 2
  have g3 := H1.out.r.frozen 3
  have g4 := H1.out.r.frozen 4
  have g5 := H1.out.r.frozen 5
  have g6 := H1.out.r.frozen 6
  by_cases hz : backCode t.n t.D t.now d = 0
  · have hzb : (backCode t.n t.D t.now d != 0) = false := by simp [hz]
    have HZ : Hid (backCode t.n t.D t.now d = 0) := hz
    have HTR : Hid (backTr t d = ⟨d.ln, oneD (fromN t.n d) t.D d, d.date⟩) := by show _ = _; unfold backTr; rw [if_pos hz]
    have HSMT : Hid (SmTr (backTr t d)) := back_small t d ft fd hs
    clear hz
    have HT1 : Hid (tV (backTr t d) lr = tV (backTr t d) lr) := rfl
    have HJ2 : Hid (∀ U, U = w1.alloc (.cells #[.slice lr.a (backTr t d).n lr.c, .int .i64 (backTr t d).now] 33) → Jn w t l d k U ∧ TIn U (backTr t d) lr ∧ w.heap.size + 3 ≤ U.heap.size) := fun U e => by
      have hb : Below w1.heap.size w1 U := by rw [e]; exact (Below.refl _ _).alloc (Nat.le_refl _) _
      exact ⟨H1.out.below hb, HX.out.below (Nat.le_refl _) hb, Nat.le_trans hs1 hb.size⟩
    go_wp2_with fail
    refine at_world (F := fun U => Jn w t l d k U ∧ TIn U (backTr t d) lr ∧ w.heap.size + 3 ≤ U.heap.size) (HJ2.out _ rfl) ?_
    clear HJ2 n0 n1 n2 m0 m1 m2 p0 p1 q0 q1 q2 q3 r0 r1 r2 r3 r4 r5 r6 g0 g1 g2 g3 g4 g5 g6 H1 hs1 HX HT1
    rintro W2 ⟨hj2, hx2, hs2⟩
    refine (specTreeOk_any lr.a (backTr t d).n lr.c (backTr t d).now (backTr t d).D lr.L W2 hx2 HSMT.out.fits.nds HSMT.out.fits.n (by have := HSMT.out.size; unfold Tr.size at this; omega)).mono ?_
    rintro e w3 ⟨hb3, r, rfl, hr⟩
    obtain rfl : r = true := hr.2 (by rw [HTR.out]; exact (code_zero HZ.out).2.2.2)
    have H3 : Hid (Jn w t l d k w3) := hj2.below hb3
    have hs3 : w.heap.size + 3 ≤ w3.heap.size := by have := hb3.size; omega
    clear hj2 hx2 hs2 hb3 hr
    obtain ⟨hok, hsn, _, hgd⟩ := code_zero HZ.out
    have HOK : Hid (d.ok = true ∧ (newJb t d).t.n ≤ 10 ∧ (newJb t d).t.size ≤ 1048576) := by
      have hsi := ok_since hok
      refine ⟨hok, ?_, ?_⟩
      · unfold newJb
        by_cases e : d.since = 0
        · rw [if_pos e]; show (0 : Nat) ≤ 10; omega
        · rw [if_neg e]; exact (hsn (by omega)).1.few
      · unfold newJb
        by_cases e : d.since = 0
        · rw [if_pos e]; exact trNone_small.size
        · rw [if_neg e]; show t.size ≤ _; omega
    have HA : Hid (newAns t d = newJb t d) := by show _ = _; unfold newAns; rw [if_pos HZ.out]
    clear hok hsn hgd
    have HSt : Hid (∀ W', Below w3.heap.size w3 W' → W'.cell? ⟨w.heap.size, 0, none⟩ = some (.slice l.a t.n l.c) ∧ W'.cell? ⟨w.heap.size, 1, none⟩ = some (.int .i64 t.now) ∧ W'.cell? ⟨w.heap.size + 1, 0, none⟩ = some (.int .i64 d.since) ∧ W'.cell? ⟨w.heap.size + 1, 1, none⟩ = some (.int .i64 d.date) ∧ W'.cell? ⟨w.heap.size + 1, 2, none⟩ = some (.slice k.lA d.ln k.lc) ∧ W'.cell? ⟨w.heap.size + 1, 3, none⟩ = some (.slice k.iA d.m k.ic)) := fun W' hW => by
      have h := H3.out.below hW
      obtain ⟨p0, p1⟩ := tC_cells h.p
      obtain ⟨q0, q1, q2, q3⟩ := pC_cells h.q
      exact ⟨p0, p1, q0, q1, q2, q3⟩
    go_wp2_with fail
    refine wp_region_noPanic ?_
    have hB0 : Below w3.heap.size w3 w3.drew := (Below.refl _ _).drew
    refine wp_region_peel2 (fun W' => W'.cell? ⟨w.heap.size, 0, none⟩ = some (.slice l.a t.n l.c) ∧ W'.cell? ⟨w.heap.size, 1, none⟩ = some (.int .i64 t.now) ∧ W'.cell? ⟨w.heap.size + 1, 0, none⟩ = some (.int .i64 d.since) ∧ W'.cell? ⟨w.heap.size + 1, 1, none⟩ = some (.int .i64 d.date) ∧ W'.cell? ⟨w.heap.size + 1, 2, none⟩ = some (.slice k.lA d.ln k.lc) ∧ W'.cell? ⟨w.heap.size + 1, 3, none⟩ = some (.slice k.iA d.m k.ic)) _ _ (by kernel_rfl) rfl rfl (by kernel_rfl) (by kernel_rfl) ?_ (fun hHeld => ?_)
    · exact HSt.out _ hB0
    simp only [List.pop_toArray, List.dropLast, List.size_toArray, List.length_cons, List.length_nil, Nat.reduceAdd, Nat.reduceSub, List.getElem_toArray, List.getElem_cons_succ, List.getElem_cons_zero]
    refine peel_take (i := 0) (oi := ?oi0a) (v := ?v0a) (fun _ _ _ _ _ h => h) hHeld ?hi0a (by kernel_rfl) (by kernel_rfl) (by kernel_rfl) ?hw0a ?hy0a ?rest0a
    case hi0a =>
      simp only [List.getElem?_toArray, List.getElem?_cons_zero]
      rfl
    case hw0a => rfl
    case hy0a =>
      intro w hSw
      obtain ⟨s0, s1, s2, s3, s4, s5⟩ := hSw
      go_simp
      try with_reducible rfl
    try simp only [Act.put, List.setIfInBounds_toArray, List.set_cons_zero, List.set_cons_succ]
    refine peel_take (i := 1) (oi := ?oi1a) (v := ?v1a) (fun _ _ _ _ _ h => h) hHeld ?hi1a (by kernel_rfl) (by kernel_rfl) (by kernel_rfl) ?hw1a ?hy1a ?rest1a
    case hi1a =>
      simp only [List.getElem?_toArray, List.getElem?_cons_succ, List.getElem?_cons_zero]
      rfl
    case hw1a => rfl
    case hy1a =>
      intro w hSw
      obtain ⟨s0, s1, s2, s3, s4, s5⟩ := hSw
      go_simp
      try with_reducible rfl
    try simp only [Act.put, List.setIfInBounds_toArray, List.set_cons_zero, List.set_cons_succ]
    refine peel_take (i := 3) (oi := ?oi3a) (v := ?v3a) (fun _ _ _ _ _ h => h) hHeld ?hi3a (by kernel_rfl) (by kernel_rfl) (by kernel_rfl) ?hw3a ?hy3a ?rest3a
    case hi3a =>
      simp only [List.getElem?_toArray, List.getElem?_cons_succ, List.getElem?_cons_zero]
      rfl
    case hw3a => rfl
    case hy3a =>
      intro w hSw
      obtain ⟨s0, s1, s2, s3, s4, s5⟩ := hSw
      go_simp
      try with_reducible rfl
    try simp only [Act.put, List.setIfInBounds_toArray, List.set_cons_zero, List.set_cons_succ]
    refine wpAnyH_ready (rs := [2]) (by kernel_rfl) (by simp) ?_
    refine AllReadyH.cons (o := ?o2a) ?ho2a (fun K hK => ?st2a) AllReadyH.nil
    case ho2a =>
      simp only [List.getElem?_toArray, List.getElem?_cons_succ, List.getElem?_cons_zero]
      rfl
    go_simp
    refine (l9From_any t l d k _).mono ?_
    rintro e w4 ⟨hb4, rfl⟩
    have hB4 : Below w3.heap.size w3 w4 := hB0.trans (hb4.mono hB0.size)
    clear hb4
    refine hK.out _ _ (HSt.out _ hB4) (fun hHeld => ?_)
    clear hK K
    try simp only [Act.put, List.setIfInBounds_toArray, List.set_cons_zero, List.set_cons_succ]
    refine wpAnyH_ready (rs := [4]) (by kernel_rfl) (by simp) ?_
    refine AllReadyH.cons (o := ?o4b) ?ho4b (fun K hK => ?st4b) AllReadyH.nil
    case ho4b =>
      simp only [List.getElem?_toArray, List.getElem?_cons_succ, List.getElem?_cons_zero]
      rfl
    have HV : Hid (∃ lf : TLoc, (if d.since = 0 then tV trNone ⟨none, 0, l.L⟩ else tV t l) = .agg #[.slice lf.a (newJb t d).t.n lf.c, .int .i64 (newJb t d).t.now] ∧ JIn w4 (newJb t d) ⟨lf, k, none, 0, fun _ => ⟨none, 0, none, 0⟩⟩) := by
      have hD4 := (hD.below (Nat.le_refl _) H3.out.bel).below (Nat.le_refl _) hB4
      have hT4 := (hT.below (Nat.le_refl _) H3.out.bel).below (Nat.le_refl _) hB4
      by_cases e : d.since = 0
      · refine ⟨⟨none, 0, l.L⟩, ?_, ?_⟩
        · rw [if_pos e]; unfold newJb; rw [if_pos e]; rfl
        · refine ⟨?_, hD4, Or.inl rfl⟩
          unfold newJb; rw [if_pos e]; exact Or.inl rfl
      · refine ⟨l, ?_, ?_⟩
        · rw [if_neg e]; unfold newJb; rw [if_neg e]; rfl
        · refine ⟨?_, hD4, Or.inl rfl⟩
          unfold newJb; rw [if_neg e]; exact hT4
    obtain ⟨lf, hlf, hJI⟩ := HV.out
    rw [hlf]
    have HJI : Hid _ := hJI
    clear hlf hJI HV
    go_simp
    refine hK.out _ _ (HSt.out _ hB4) (fun hHeld => ?_)
    clear hK K
    try simp only [Act.put, List.setIfInBounds_toArray, List.set_cons_zero, List.set_cons_succ]
    refine wpAnyH_ready (rs := [5]) (by kernel_rfl) (by simp) ?_
    refine AllReadyH.cons (o := ?o5c) ?ho5c (fun K hK => ?st5c) AllReadyH.nil
    case ho5c =>
      simp only [List.getElem?_toArray, List.getElem?_cons_succ, List.getElem?_cons_zero]
      rfl
    go_simp
    refine (l9Copy_any (newJb t d) ⟨lf, k, none, 0, fun _ => ⟨none, 0, none, 0⟩⟩ w4 HJI.out HOK.out.1 HOK.out.2.1 (by unfold newJb; simp) HOK.out.2.2 (by show d.size ≤ _; omega) (fun i hi => absurd hi (Nat.not_lt_zero _))).mono ?_
    rintro e w5 ⟨lj, rfl, hb5, hown⟩
    unfold jV
    have hB5 : Below w3.heap.size w3 w5 := hB4.trans (hb5.mono hB4.size)
    have HJ : Hid (Jn w t l d k w5 ∧ OwnJb w5 (w.heap.size + 3) (newJb t d) lj) := ⟨H3.out.below hB5, hown.lower (by have := hB4.size; omega)⟩
    clear hb5 hown
    refine hK.out _ _ (HSt.out _ hB5) (fun hHeld => ?_)
    clear hK K
    try simp only [Act.put, List.setIfInBounds_toArray, List.set_cons_zero, List.set_cons_succ]
    refine wpAnyH_done (by kernel_rfl) ?_ _
    show Oper.wp _ _ _ _ _ _
    have r0 : w5.cell? ⟨w.heap.size + 1 + 1, 0, none⟩ = some (.slice none 0 0) := HJ.out.1.r.cell 0
    have r1 : w5.cell? ⟨w.heap.size + 1 + 1, 1, none⟩ = some (.int .i64 0) := HJ.out.1.r.cell 1
    have r2 : w5.cell? ⟨w.heap.size + 1 + 1, 2, none⟩ = some (.int .i64 0) := HJ.out.1.r.cell 2
    have r3 : w5.cell? ⟨w.heap.size + 1 + 1, 3, none⟩ = some (.int .i64 0) := HJ.out.1.r.cell 3
    have r4 : w5.cell? ⟨w.heap.size + 1 + 1, 4, none⟩ = some (.slice none 0 0) := HJ.out.1.r.cell 4
    have r5 : w5.cell? ⟨w.heap.size + 1 + 1, 5, none⟩ = some (.slice none 0 0) := HJ.out.1.r.cell 5
    have r6 : w5.cell? ⟨w.heap.size + 1 + 1, 6, none⟩ = some (.slice none 0 0) := HJ.out.1.r.cell 6
    have g0 := HJ.out.1.r.frozen 0
    have g1 := HJ.out.1.r.frozen 1
    have g2 := HJ.out.1.r.frozen 2
    have g3 := HJ.out.1.r.frozen 3
    have g4 := HJ.out.1.r.frozen 4
    have g5 := HJ.out.1.r.frozen 5
    have g6 := HJ.out.1.r.frozen 6
    have HE : Hid (∀ U, U = (((((((w5.setCell ⟨w.heap.size + 1 + 1, 0, none⟩ (.slice lj.t.a (newJb t d).t.n lj.t.c)).setCell ⟨w.heap.size + 1 + 1, 1, none⟩ (.int .i64 (newJb t d).t.now)).setCell ⟨w.heap.size + 1 + 1, 2, none⟩ (.int .i64 (newJb t d).d.since)).setCell ⟨w.heap.size + 1 + 1, 3, none⟩ (.int .i64 (newJb t d).d.date)).setCell ⟨w.heap.size + 1 + 1, 4, none⟩ (.slice lj.d.lA (newJb t d).d.ln lj.d.lc)).setCell ⟨w.heap.size + 1 + 1, 5, none⟩ (.slice lj.d.iA (newJb t d).d.m lj.d.ic)).setCell ⟨w.heap.size + 1 + 1, 6, none⟩ (.slice lj.e (newJb t d).q lj.f)) → Blk U (w.heap.size + 1 + 1) (jC (newJb t d) lj) 38 ∧ JPost w (newAns t d) (backCode t.n t.D t.now d) (.returned (.tuple #[jV (newJb t d) lj, .int .i64 0])) U) := fun U e => by
      subst e
      rw [HA.out, HZ.out]
      exact ⟨blk7 HJ.out.1.r _ _ _ _ _ _ _, bel7 HJ.out.1.bel (by omega) _ _ _ _ _ _ _, lj, rfl, (jb7 HJ.out.2 (by omega) _ _ _ _ _ _ _).lower (by omega)⟩
    clear HSt hHeld hB0 hB4 hB5 HJ
    go_simp
    show Oper.wp _ _ _ _ _ _
    go_simp
    refine NoPanic.normal ?_
    go_wp2_with fail
    refine end_world (F := fun U => Blk U (w.heap.size + 1 + 1) (jC (newJb t d) lj) 38 ∧ JPost w (newAns t d) (backCode t.n t.D t.now d) (.returned (.tuple #[jV (newJb t d) lj, .int .i64 0])) U) (HE.out _ rfl) ?_
    clear HE r0 r1 r2 r3 r4 r5 r6 g0 g1 g2 g3 g4 g5 g6
    rintro U ⟨hr, hE⟩
    obtain ⟨e0, e1, e2, e3, e4, e5, e6⟩ := jC_cells hr
    exact bodyPost_ret (v := .tuple #[jV (newJb t d) lj, .int .i64 0]) (by unfold jV; simp [results, Tryz.results11, go_sem, e0, e1, e2, e3, e4, e5, e6]) rfl hE
  · have hzb : (backCode t.n t.D t.now d != 0) = true := by simp [hz]
    have HA : Hid (newAns t d = jbNone) := by show _ = _; unfold newAns; rw [if_neg hz]
    clear hz
    have HE : Hid (∀ U, U = ((((((((w1.setCell ⟨w.heap.size + 1 + 1, 0, none⟩ (.slice none 0 0)).setCell ⟨w.heap.size + 1 + 1, 1, none⟩ (.int .i64 0)).setCell ⟨w.heap.size + 1 + 1, 2, none⟩ (.int .i64 0)).setCell ⟨w.heap.size + 1 + 1, 3, none⟩ (.int .i64 0)).setCell ⟨w.heap.size + 1 + 1, 4, none⟩ (.slice none 0 0)).setCell ⟨w.heap.size + 1 + 1, 5, none⟩ (.slice none 0 0)).setCell ⟨w.heap.size + 1 + 1, 6, none⟩ (.slice none 0 0)).alloc (.cells #[.slice lr.a (backTr t d).n lr.c, .int .i64 (backTr t d).now] 33)) → Blk U (w.heap.size + 1 + 1) #[.slice none 0 0, .int .i64 0, .int .i64 0, .int .i64 0, .slice none 0 0, .slice none 0 0, .slice none 0 0] 38 ∧ JPost w (newAns t d) (backCode t.n t.D t.now d) (.returned (.tuple #[.agg #[.slice none 0 0, .int .i64 0, .int .i64 0, .int .i64 0, .slice none 0 0, .slice none 0 0, .slice none 0 0], .int .i64 (backCode t.n t.D t.now d)])) U) := fun U e => by
      subst e
      rw [HA.out]
      exact ⟨(blk7 H1.out.r _ _ _ _ _ _ _).alloc _, (bel7 H1.out.bel (by omega) _ _ _ _ _ _ _).alloc (bel7 H1.out.bel (by omega) _ _ _ _ _ _ _).size _, _, rfl, ownJb_none _ _⟩
    go_wp2_with fail
    refine end_world (F := fun U => Blk U (w.heap.size + 1 + 1) #[.slice none 0 0, .int .i64 0, .int .i64 0, .int .i64 0, .slice none 0 0, .slice none 0 0, .slice none 0 0] 38 ∧ JPost w (newAns t d) (backCode t.n t.D t.now d) (.returned (.tuple #[.agg #[.slice none 0 0, .int .i64 0, .int .i64 0, .int .i64 0, .slice none 0 0, .slice none 0 0, .slice none 0 0], .int .i64 (backCode t.n t.D t.now d)])) U) (HE.out _ rfl) ?_
    clear HE
    rintro U ⟨hr, hE⟩
    have e0 : U.cell? ⟨w.heap.size + 1 + 1, 0, none⟩ = some (.slice none 0 0) := hr.cell 0
    have e1 : U.cell? ⟨w.heap.size + 1 + 1, 1, none⟩ = some (.int .i64 0) := hr.cell 1
    have e2 : U.cell? ⟨w.heap.size + 1 + 1, 2, none⟩ = some (.int .i64 0) := hr.cell 2
    have e3 : U.cell? ⟨w.heap.size + 1 + 1, 3, none⟩ = some (.int .i64 0) := hr.cell 3
    have e4 : U.cell? ⟨w.heap.size + 1 + 1, 4, none⟩ = some (.slice none 0 0) := hr.cell 4
    have e5 : U.cell? ⟨w.heap.size + 1 + 1, 5, none⟩ = some (.slice none 0 0) := hr.cell 5
    have e6 : U.cell? ⟨w.heap.size + 1 + 1, 6, none⟩ = some (.slice none 0 0) := hr.cell 6
    exact bodyPost_ret (v := .tuple #[.agg #[.slice none 0 0, .int .i64 0, .int .i64 0, .int .i64 0, .slice none 0 0, .slice none 0 0, .slice none 0 0], .int .i64 (backCode t.n t.D t.now d)]) (by simp [results, Tryz.results11, go_sem, e0, e1, e2, e3, e4, e5, e6]) rfl hE
end Go.Proofs.YtakifcobofkheaaGreatDoor

/-
  What copyTree, copyDump and copyJob of the program answer: the same, in new memory.
-/
namespace Go.Proofs.YtakifcobofkheaaGreatDoor
open Go.RowKit Go.Deep
set_option linter.unusedVariables false
set_option linter.unusedSimpArgs false
set_option linter.unnecessarySimpa false

/-- A box and a result's. -/
structure Bx (w : World) (cs : Array Value) (t : TypeId) (zs : Array Value) (u : TypeId) (W : World) : Prop where
  p : Blk W w.heap.size cs t
  r : Blk W (w.heap.size + 1) zs u
  bel : Below w.heap.size w W
  size : w.heap.size + 2 ≤ W.heap.size

theorem Bx.below {w : World} {cs zs : Array Value} {t u : TypeId} {W W' : World} (h : Bx w cs t zs u W) (hb : Below W.heap.size W W') : Bx w cs t zs u W' := ⟨h.p.below hb h.p.lt, h.r.below hb h.r.lt, h.bel.trans (hb.mono h.bel.size), Nat.le_trans h.size hb.size⟩
theorem bx2 (w : World) (cs : Array Value) (t : TypeId) (zs : Array Value) (u : TypeId) : Bx w cs t zs u ((w.alloc (.cells cs t)).alloc (.cells zs u)) := by
  obtain ⟨h0, h1, hb, _⟩ := new2 w cs t zs u
  exact ⟨h0, h1, hb, by simp⟩

/-- .. and a list of places that has grown since. -/
structure Bn (w : World) (cs : Array Value) (t : TypeId) (zs : Array Value) (u : TypeId) (k : Nat) (b : Option Addr) (bc : Nat) (E : Nat → Nd) (M : Nat → Loc) (W : World) : Prop where
  bx : Bx w cs t zs u W
  ot : OT W (w.heap.size + 2) 0 (fun _ => false) k (fun _ => 0) E M (.slice none 0 0) (.slice b k bc)

theorem Bn.below {w : World} {cs zs : Array Value} {t u : TypeId} {k : Nat} {b : Option Addr} {bc : Nat} {E : Nat → Nd} {M : Nat → Loc} {W W' : World} (h : Bn w cs t zs u k b bc E M W) (hb : Below W.heap.size W W') : Bn w cs t zs u k b bc E M W' := ⟨h.bx.below hb, h.ot.below hb⟩

theorem Bn.item {w : World} {cs zs : Array Value} {t u : TypeId} {k : Nat} {b : Option Addr} {bc : Nat} {E : Nat → Nd} {M : Nat → Loc} {W W1 W' : World} (h : Bn w cs t zs u k b bc E M W) {x : Nd} {l : Loc} (hN : NewNn W x l W1) {g c' : Nat} (hg : W1.grownBy W' (Value.slice b k bc).ownBlock)
    (hown : W'.ownsRow (w.heap.size + 2) 87 5 (.slice (some ⟨g, 0, none⟩) (k + 1) c') (k + 1) (rowsT (fun _ => 0) E M k ++ nt5 0 x l)) (hb : (Value.slice b k bc).ownBlock = some g ∨ W1.heap.size ≤ g) :
    Bn w cs t zs u (k + 1) (some ⟨g, 0, none⟩) c' (fun i => if i = k then x else E i) (fun i => if i = k then l else M i) W' := by
  have h1 := h.bx.below hN.bel
  have hbo : ∀ q, (Value.slice b k bc).ownBlock = some q → w.heap.size + 2 ≤ q := fun q e => (owns_block h.ot.ownI e).1
  exact ⟨⟨h1.p.of_block (hg.block _ h1.p.lt (fun e => by have := hbo _ e.symm; omega)), h1.r.of_block (hg.block _ h1.r.lt (fun e => by have := hbo _ e.symm; omega)), h1.bel.grown hg h1.bel.size (fun q e => by have := hbo q e; omega), Nat.le_trans h1.size hg.size⟩, h.ot.more hN h.bx.size hg hown hb⟩

set_option maxRecDepth 100000 in
set_option maxHeartbeats 8000000 in
theorem copyTree_any (t : Tr) (l : TLoc) (w : World) (hT : TIn w t l) (hn : t.n ≤ 1000) (hs : t.size ≤ 1048576) :
    Calls Tryz.prog 51 #[tV t l] w fun e w' => ∃ l', e = .returned (tV t l') ∧ Below w.heap.size w w' ∧ OwnTr w' w.heap.size t l' := by
  unfold tV
  obtain ⟨y0, hy, hy0, hy1, hy2⟩ := info_parts infoNode
  have htS := tr_small (show sizeTo t.D t.n ≤ 1048576 by unfold Tr.size at hs; omega)
  go_enter Tryz.func51, Tryz.ntmps51
  go_wp2_with fail
  refine wp_world (F := Bx w (tC t l) 33 #[.slice none 0 0, .int .i64 0] 33) (bx2 w _ _ _ _) ?_
  intro W hP
  have HP : Hid _ := hP
  clear hP
  have p0 : W.cell? ⟨w.heap.size, 0, none⟩ = some (.slice l.a t.n l.c) := HP.out.p.cell 0
  go_wp2_with fail
  go_loopw [3, 9] (fun v i wr => ∃ (k : Nat) (b : Option Addr) (bc : Nat) (E : Nat → Nd) (M : Nat → Loc), k ≤ t.n ∧ v = .slice b k bc ∧ i = .int .i64 k ∧ Bn w (tC t l) 33 #[.slice none 0 0, .int .i64 0] 33 k b bc E M wr ∧ ∀ i, i < k → E i = t.D i) (fun _ i _ => t.n - (intOf i).toNat)
  case atStart => exact ⟨0, none, 0, fun _ => ndZero, fun _ => ⟨none, 0, none, 0⟩, Nat.zero_le _, rfl, rfl, ⟨HP.out, OT.start _ _ _ _ _ _⟩, fun i hi => absurd hi (Nat.not_lt_zero _)⟩
  case round =>
    obtain ⟨k, b, bc, E, M, hk, rfl, rfl, hin, hsel⟩ := hrel
    have HIN : Hid (Bn w (tC t l) 33 #[.slice none 0 0, .int .i64 0] 33 k b bc E M wr ∧ ∀ i, i < k → E i = t.D i) := ⟨hin, hsel⟩
    have hsw : w.heap.size + 2 ≤ wr.heap.size := hin.bx.size
    clear hin hsel
    by_cases hlt : k < t.n
    · have hlti : (k : Int) < (t.n : Int) := by omega
      obtain ⟨bI, oI, hQ, hQl, hQc⟩ := (hT.below (Nat.le_refl _) HIN.out.1.bx.bel).at hlt
      obtain ⟨d1, d2, d3, d4, d5, d6⟩ := hQc k hlt
      have HN : Hid (NdIn wr (t.D k) (l.L k)) := d6
      have hsm := htS k hlt
      rw [hQ]
      have HA : Hid (l.a = some ⟨bI, oI, none⟩) := hQ
      clear hQ hQc d6
      go_wp2_with fail
      refine at_world (F := fun U => Bn w (tC t l) 33 #[.slice none 0 0, .int .i64 0] 33 k b bc E M U ∧ NdIn U (t.D k) (l.L k)) ⟨HIN.out.1.below ((Below.refl _ _).alloc (Nat.le_refl _) _), HN.out.below (Nat.le_refl _) ((Below.refl _ _).alloc (Nat.le_refl _) _)⟩ ?_
      rintro U ⟨hU, hNU⟩
      refine (copyNode_any (t.D k) (l.L k) U hNU hsm.1 hsm.2.1 hsm.2.2.1 hsm.2.2.2).mono ?_
      rintro e W6 ⟨l5, rfl, hN5⟩
      unfold ndV
      have HU : Hid (Bn w (tC t l) 33 #[.slice none 0 0, .int .i64 0] 33 k b bc E M U ∧ NewNn U (t.D k) l5 W6 ∧ w.heap.size + 2 ≤ W6.heap.size) := ⟨hU, hN5, by have := hU.bx.size; have := hN5.bel.size; omega⟩
      clear hU hNU hN5
      go_wp2_with (at_builtin; go_must (refine wpList_append_src (by rfl) _ _ 31 rfl (w.heap.size + 2) 87 y0 (.agg #[.int .i64 0, .string ByteArray.empty, .slice none 0 0, .slice none 0 0, .int .i64 0]) 5 80 Tryz.underlying31 hy hy0 hy1 hy2 rfl (by decide) (.slice b k bc) k (rowsT (fun _ => 0) E M k) (by rfl) ((HU.out.1.below HU.out.2.1.bel).ot.ownI.alloc _) _ 1 _ (by rfl) (src_node W6 (t.D k) l5) (by unfold maxLen; omega) (by omega) (by have := HU.out.2.2; simp; omega) ?_))
      intro vI W7 hown hgrow hnil hat
      rcases hown.2 with ⟨_, h0⟩ | ⟨gI, cI, cur, hvI, _, _, _⟩
      · omega
      subst hvI
      have hbI : (Value.slice b k bc).ownBlock = some gI ∨ (W6.alloc (.cells #[.int .i64 (t.D k).kind, .string (t.D k).text, .slice (l5).nA (t.D k).nn (l5).nc, .slice (l5).kA (t.D k).kn (l5).kc, .int .i64 (t.D k).turn] 87)).heap.size ≤ gI := by
        rcases hat with e | e
        · exact Or.inl e.symm
        · right
          have e' : gI = (W6.alloc (.cells #[.int .i64 (t.D k).kind, .string (t.D k).text, .slice (l5).nA (t.D k).nn (l5).nc, .slice (l5).kA (t.D k).kn (l5).kc, .int .i64 (t.D k).turn] 87)).heap.size := by simpa [Value.ownBlock] using e
          omega
      have H8 : Hid _ := HU.out.1.item (HU.out.2.1.alloc (.cells #[.int .i64 (t.D k).kind, .string (t.D k).text, .slice (l5).nA (t.D k).nn (l5).nc, .slice (l5).kA (t.D k).kn (l5).kc, .int .i64 (t.D k).turn] 87)) hgrow hown hbI
      clear hown hgrow hnil hat hbI
      go_wp2_with fail
      go_roundw
      case rel => exact ⟨k + 1, some ⟨gI, 0, none⟩, cI, _, _, by omega, by go_num, by go_num, H8.out, fun i hi => by
        by_cases e : i = k
        · subst e; simp
        · simp only [e, if_false]; exact HIN.out.2 i (by omega)⟩
      case measure => simp [intOf]; omega
    · obtain rfl : k = t.n := by omega
      have HOT : Hid (OwnTr wr (w.heap.size + 2) ⟨t.n, t.D, 0⟩ ⟨b, bc, M⟩) := HIN.out.1.ot.ext fun i hi => ⟨(HIN.out.2 i hi).symm, rfl⟩
      have r0 : wr.cell? ⟨w.heap.size + 1, 0, none⟩ = some (.slice none 0 0) := HIN.out.1.bx.r.cell 0
      have r1 : wr.cell? ⟨w.heap.size + 1, 1, none⟩ = some (.int .i64 0) := HIN.out.1.bx.r.cell 1
      have p1 : wr.cell? ⟨w.heap.size, 1, none⟩ = some (.int .i64 t.now) := HIN.out.1.bx.p.cell 1
      have g0 := HIN.out.1.bx.r.frozen 0
      have g1 := HIN.out.1.bx.r.frozen 1
      go_wp2_with fail
      refine end_world (F := fun U => Blk U (w.heap.size + 1) #[.slice b t.n bc, .int .i64 t.now] 33 ∧ Below w.heap.size w U ∧ OwnTr U (w.heap.size + 2) t ⟨b, bc, M⟩) ⟨(HIN.out.1.bx.r.set 0 _).set 1 _, bel_put (bel_put HIN.out.1.bx.bel _ (by omega)) _ (by omega), OwnTr.put (OwnTr.put (show OwnTr wr (w.heap.size + 2) t ⟨b, bc, M⟩ from HOT.out) _ (by omega)) _ (by omega)⟩ ?_
      clear r0 r1 g0 g1 p1
      rintro U ⟨hr, hB, hot⟩
      have e0 : U.cell? ⟨w.heap.size + 1, 0, none⟩ = some (.slice b t.n bc) := hr.cell 0
      have e1 : U.cell? ⟨w.heap.size + 1, 1, none⟩ = some (.int .i64 t.now) := hr.cell 1
      exact bodyPost_ret (v := .agg #[.slice b t.n bc, .int .i64 t.now]) (by simp [results, Tryz.results51, go_sem, e0, e1]) rfl ⟨⟨b, bc, M⟩, rfl, hB, hot.lower (by omega)⟩
/-- What is held while what is kept is copied: the truth values are, the places are being. -/
structure Bd (w : World) (d : Dp) (l : DLoc) (B g c m : Nat) (ia : Option Addr) (ic : Nat) (O : Nat → Int) (E : Nat → Nd) (M : Nat → Loc) (W : World) : Prop where
  bx : Bx w (pC d l) 36 #[.int .i64 0, .int .i64 0, .slice none 0 0, .slice none 0 0] 36 W
  live : W.ownsRow (w.heap.size + 2) 4 1 (.slice (some ⟨g, 0, none⟩) d.ln c) d.ln (boolv d.ln d.live)
  gl : g < B
  b0 : w.heap.size + 2 ≤ B
  bw : B ≤ W.heap.size
  od : OD W B 0 (fun _ => false) m O E M (.slice none 0 0) (.slice ia m ic)

theorem Bd.below {w : World} {d : Dp} {l : DLoc} {B g c m : Nat} {ia : Option Addr} {ic : Nat} {O : Nat → Int} {E : Nat → Nd} {M : Nat → Loc} {W W' : World} (h : Bd w d l B g c m ia ic O E M W) (hb : Below W.heap.size W W') : Bd w d l B g c m ia ic O E M W' :=
  ⟨h.bx.below hb, owns_same h.live fun b e => hb.block b (owns_block h.live e).2, h.gl, h.b0, Nat.le_trans h.bw hb.size, h.od.below hb⟩

theorem Bd.item {w : World} {d : Dp} {l : DLoc} {B g c m : Nat} {ia : Option Addr} {ic : Nat} {O : Nat → Int} {E : Nat → Nd} {M : Nat → Loc} {W W1 W' : World} (h : Bd w d l B g c m ia ic O E M W) {o : Int} {x : Nd} {lx : Loc} (hN : NewNn W x lx W1) {b c' : Nat} (hg : W1.grownBy W' (Value.slice ia m ic).ownBlock)
    (hown : W'.ownsRow B 113 6 (.slice (some ⟨b, 0, none⟩) (m + 1) c') (m + 1) (rowsI O E M m ++ it6 o x lx)) (hb : (Value.slice ia m ic).ownBlock = some b ∨ W1.heap.size ≤ b) :
    Bd w d l B g c (m + 1) (some ⟨b, 0, none⟩) c' (fun i => if i = m then o else O i) (fun i => if i = m then x else E i) (fun i => if i = m then lx else M i) W' := by
  have h1 := h.below hN.bel
  have hb0 := h.b0
  have hgl := h.gl
  have hbo : ∀ q, (Value.slice ia m ic).ownBlock = some q → B ≤ q := fun q e => (owns_block h.od.ownI e).1
  refine ⟨⟨h1.bx.p.of_block (hg.block _ h1.bx.p.lt (fun e => by have := hbo _ e.symm; omega)), h1.bx.r.of_block (hg.block _ h1.bx.r.lt (fun e => by have := hbo _ e.symm; omega)), h1.bx.bel.grown hg h1.bx.bel.size (fun q e => by have := hbo q e; omega), Nat.le_trans h1.bx.size hg.size⟩, owns_kept h1.live hg (fun b' e e' => ?_), hgl, hb0, Nat.le_trans h1.bw hg.size, h.od.item hN h.bw hg hown (fun b' e => ?_)⟩
  · have e1 : g = b' := by simpa [Value.ownBlock] using e
    have := hbo b' e'
    omega
  · have e1 : b = b' := by simpa [Value.ownBlock] using e
    subst e1
    exact hb

set_option maxRecDepth 100000 in
set_option maxHeartbeats 8000000 in
theorem copyDump_any (d : Dp) (l : DLoc) (w : World) (hD : DpIn w d l) (hok : d.ok = true) (hs : d.size ≤ 1048576) :
    Calls Tryz.prog 50 #[dpV d l] w fun e w' => ∃ l', e = .returned (dpV d l') ∧ Below w.heap.size w w' ∧ OwnDp w' w.heap.size d l' := by
  unfold dpV
  obtain ⟨q0, hq, hq0, hq1, hq2⟩ := info_parts infoBool
  obtain ⟨y0, hy, hy0, hy1, hy2⟩ := info_parts infoItem
  have hln1 := (ok_head1 hok).1
  have hln10 := (ok_head1 hok).2
  have hm10 := m_small hok
  go_enter Tryz.func50, Tryz.ntmps50
  have HP : Hid (Bx w (pC d l) 36 #[.int .i64 0, .int .i64 0, .slice none 0 0, .slice none 0 0] 36 ((w.alloc (.cells #[.int .i64 d.since, .int .i64 d.date, .slice l.lA d.ln l.lc, .slice l.iA d.m l.ic] 36)).alloc (.cells #[.int .i64 0, .int .i64 0, .slice none 0 0, .slice none 0 0] 36))) := bx2 w _ _ _ _
  have hPs : w.heap.size + 2 ≤ (((w.alloc (.cells #[.int .i64 d.since, .int .i64 d.date, .slice l.lA d.ln l.lc, .slice l.iA d.m l.ic] 36)).alloc (.cells #[.int .i64 0, .int .i64 0, .slice none 0 0, .slice none 0 0] 36))).heap.size := HP.out.size
  go_wp2_with (at_builtin; go_must (refine wpList_append_src (by rfl) _ _ 25 rfl (w.heap.size + 2) 4 q0 (.bool false) 1 1 Tryz.underlying25 hq hq0 hq1 hq2 rfl (by decide) (.slice none 0 0) 0 [] (by rfl) (World.ownsRow_nil _ _ _ _) _ d.ln (boolv d.ln d.live) (by rfl) (bools_src (hD.live.below (Nat.le_refl _) HP.out.bel) hln1 _) (by unfold maxLen; omega) (by omega) hPs ?_))
  intro vL W2 hownL hgrowL hnilL hatL
  obtain ⟨g, c', rfl⟩ := bools_shape hownL hln1
  have HB : Hid (Bd w d l W2.heap.size g c' 0 none 0 (fun _ => 0) d.nd l.L W2) := by
    have hno : (Value.slice none 0 0).ownBlock = none := rfl
    have hgr : ∀ b, b < (((w.alloc (.cells #[.int .i64 d.since, .int .i64 d.date, .slice l.lA d.ln l.lc, .slice l.iA d.m l.ic] 36)).alloc (.cells #[.int .i64 0, .int .i64 0, .slice none 0 0, .slice none 0 0] 36))).heap.size → W2.heap[b]? = (((w.alloc (.cells #[.int .i64 d.since, .int .i64 d.date, .slice l.lA d.ln l.lc, .slice l.iA d.m l.ic] 36)).alloc (.cells #[.int .i64 0, .int .i64 0, .slice none 0 0, .slice none 0 0] 36))).heap[b]? := fun b hb => hgrowL.block b hb (by rw [hno]; simp)
    exact ⟨⟨HP.out.p.of_block (hgr _ HP.out.p.lt), HP.out.r.of_block (hgr _ HP.out.r.lt), HP.out.bel.grown hgrowL HP.out.bel.size (fun q e => by rw [hno] at e; cases e), Nat.le_trans hPs hgrowL.size⟩, hownL, (owns_block hownL rfl).2, Nat.le_trans hPs hgrowL.size, Nat.le_refl _, OD.start _ _ _ _ _ _⟩
  clear hownL hgrowL hnilL hatL HP hPs
  obtain ⟨p0, p1, p2, p3⟩ := pC_cells HB.out.bx.p
  generalize hB2 : W2.heap.size = B at *
  clear hB2
  go_wp2_with fail
  go_loopw [4, 14] (fun v i wr => ∃ (k : Nat) (ia : Option Addr) (ic : Nat) (O : Nat → Int) (E : Nat → Nd) (M : Nat → Loc), k ≤ d.m ∧ v = .slice ia k ic ∧ i = .int .i64 k ∧ Bd w d l B g c' k ia ic O E M wr ∧ ∀ i, i < k → O i = d.ino i ∧ E i = d.nd i) (fun _ i _ => d.m - (intOf i).toNat)
  case atStart => exact ⟨0, none, 0, _, _, _, Nat.zero_le _, rfl, rfl, HB.out, fun i hi => absurd hi (Nat.not_lt_zero _)⟩
  case round =>
    obtain ⟨k, ia, ic, O, E, M, hk, rfl, rfl, hin, hsel⟩ := hrel
    have HIN : Hid (Bd w d l B g c' k ia ic O E M wr ∧ ∀ i, i < k → O i = d.ino i ∧ E i = d.nd i) := ⟨hin, hsel⟩
    have hsw : B ≤ wr.heap.size := hin.bw
    clear hin hsel p0 p1 p2 p3
    by_cases hlt : k < d.m
    · have hlti : (k : Int) < (d.m : Int) := by omega
      obtain ⟨bI, oI, hQ, hQl, hQc⟩ := (hD.items.below (Nat.le_refl _) HIN.out.1.bx.bel).at hlt
      obtain ⟨d0, d1, d2, d3, d4, d5, d6⟩ := hQc k hlt
      have HN : Hid (NdIn wr (d.nd k) (l.L k)) := d6
      have hsm := dp_of_small hs k hlt
      rw [hQ]
      have HA : Hid (l.iA = some ⟨bI, oI, none⟩) := hQ
      clear hQ hQc d6
      go_wp2_with fail
      refine wp_world (F := fun U => Blk U wr.heap.size #[.int .i64 (d.ino k), .int .i64 (d.nd k).kind, .string (d.nd k).text, .slice (l.L k).nA (d.nd k).nn (l.L k).nc, .slice (l.L k).kA (d.nd k).kn (l.L k).kc, .int .i64 (d.nd k).turn] 113 ∧ Bd w d l B g c' k ia ic O E M U ∧ NdIn U (d.nd k) (l.L k)) ?_ ?_
      · obtain ⟨h0, hb, _⟩ := new1 wr #[.int .i64 (d.ino k), .int .i64 (d.nd k).kind, .string (d.nd k).text, .slice (l.L k).nA (d.nd k).nn (l.L k).nc, .slice (l.L k).kA (d.nd k).kn (l.L k).kc, .int .i64 (d.nd k).turn] 113
        exact ⟨h0, HIN.out.1.below hb, HN.out.below (Nat.le_refl _) hb⟩
      rintro U ⟨hx, hU, hNU⟩
      have HU : Hid (Bd w d l B g c' k ia ic O E M U ∧ NdIn U (d.nd k) (l.L k)) := ⟨hU, hNU⟩
      have HX : Hid (Blk U wr.heap.size _ _) := hx
      have hXW : wr.heap.size ≤ wr.heap.size := Nat.le_refl _
      have HXW : Hid (∀ q, (Value.slice ia k ic).ownBlock = some q → q < wr.heap.size) := fun q e => (owns_block HIN.out.1.od.ownI e).2
      clear hXW
      generalize wr.heap.size = X at *
      clear hx hU hNU d0 d1 d2 d3 d4 d5 HN hQl
      have HSt : Hid (∀ W', Below U.heap.size U W' → W'.cell? ⟨X, 0, none⟩ = some (.int .i64 (d.ino k)) ∧ W'.cell? ⟨X, 1, none⟩ = some (.int .i64 (d.nd k).kind) ∧ W'.cell? ⟨X, 2, none⟩ = some (.string (d.nd k).text) ∧ W'.cell? ⟨X, 3, none⟩ = some (.slice (l.L k).nA (d.nd k).nn (l.L k).nc) ∧ W'.cell? ⟨X, 4, none⟩ = some (.slice (l.L k).kA (d.nd k).kn (l.L k).kc) ∧ W'.cell? ⟨X, 5, none⟩ = some (.int .i64 (d.nd k).turn)) := fun W' hW => by
        have h := HX.out.below hW HX.out.lt
        exact ⟨h.cell 0, h.cell 1, h.cell 2, h.cell 3, h.cell 4, h.cell 5⟩
      have hd5 : Below U.heap.size U U.drew := below_drewN (Below.refl _ _) 1
      refine wp_region_noPanic ?_
      refine wp_region_peel (fun W' => W'.cell? ⟨X, 0, none⟩ = some (.int .i64 (d.ino k)) ∧ W'.cell? ⟨X, 1, none⟩ = some (.int .i64 (d.nd k).kind) ∧ W'.cell? ⟨X, 2, none⟩ = some (.string (d.nd k).text) ∧ W'.cell? ⟨X, 3, none⟩ = some (.slice (l.L k).nA (d.nd k).nn (l.L k).nc) ∧ W'.cell? ⟨X, 4, none⟩ = some (.slice (l.L k).kA (d.nd k).kn (l.L k).kc) ∧ W'.cell? ⟨X, 5, none⟩ = some (.int .i64 (d.nd k).turn)) _ (by kernel_rfl) rfl (by kernel_rfl) ?_ (fun hHeld => ?_)
      · exact HSt.out _ hd5
      simp only [List.pop_toArray, List.dropLast, List.size_toArray, List.length_cons, List.length_nil, Nat.reduceAdd, Nat.reduceSub, List.getElem_toArray, List.getElem_cons_succ, List.getElem_cons_zero]
      refine peel_take (i := 0) (oi := ?oi0d) (v := ?v0d) (fun _ _ _ _ _ h => h) hHeld ?hi0d (by kernel_rfl) (by kernel_rfl) (by kernel_rfl) ?hw0d ?hy0d ?rest0d
      case hi0d =>
        simp only [List.getElem?_toArray, List.getElem?_cons_zero]
        rfl
      case hw0d => rfl
      case hy0d =>
        intro w hSw
        obtain ⟨s0, s1, s2, s3, s4, s5⟩ := hSw
        go_simp
        try with_reducible rfl
      try simp only [Act.put, List.setIfInBounds_toArray, List.set_cons_zero, List.set_cons_succ]
      refine peel_take (i := 1) (oi := ?oi1d) (v := ?v1d) (fun _ _ _ _ _ h => h) hHeld ?hi1d (by kernel_rfl) (by kernel_rfl) (by kernel_rfl) ?hw1d ?hy1d ?rest1d
      case hi1d =>
        simp only [List.getElem?_toArray, List.getElem?_cons_succ, List.getElem?_cons_zero]
        rfl
      case hw1d => rfl
      case hy1d =>
        intro w hSw
        obtain ⟨s0, s1, s2, s3, s4, s5⟩ := hSw
        go_simp
        try with_reducible rfl
      try simp only [Act.put, List.setIfInBounds_toArray, List.set_cons_zero, List.set_cons_succ]
      refine peel_take (i := 2) (oi := ?oi2d) (v := ?v2d) (fun _ _ _ _ _ h => h) hHeld ?hi2d (by kernel_rfl) (by kernel_rfl) (by kernel_rfl) ?hw2d ?hy2d ?rest2d
      case hi2d =>
        simp only [List.getElem?_toArray, List.getElem?_cons_succ, List.getElem?_cons_zero]
        rfl
      case hw2d => rfl
      case hy2d =>
        intro w hSw
        obtain ⟨s0, s1, s2, s3, s4, s5⟩ := hSw
        go_simp
        try with_reducible rfl
      try simp only [Act.put, List.setIfInBounds_toArray, List.set_cons_zero, List.set_cons_succ]
      refine peel_take (i := 3) (oi := ?oi3d) (v := ?v3d) (fun _ _ _ _ _ h => h) hHeld ?hi3d (by kernel_rfl) (by kernel_rfl) (by kernel_rfl) ?hw3d ?hy3d ?rest3d
      case hi3d =>
        simp only [List.getElem?_toArray, List.getElem?_cons_succ, List.getElem?_cons_zero]
        rfl
      case hw3d => rfl
      case hy3d =>
        intro w hSw
        obtain ⟨s0, s1, s2, s3, s4, s5⟩ := hSw
        go_simp
        try with_reducible rfl
      try simp only [Act.put, List.setIfInBounds_toArray, List.set_cons_zero, List.set_cons_succ]
      refine peel_take (i := 4) (oi := ?oi4d) (v := ?v4d) (fun _ _ _ _ _ h => h) hHeld ?hi4d (by kernel_rfl) (by kernel_rfl) (by kernel_rfl) ?hw4d ?hy4d ?rest4d
      case hi4d =>
        simp only [List.getElem?_toArray, List.getElem?_cons_succ, List.getElem?_cons_zero]
        rfl
      case hw4d => rfl
      case hy4d =>
        intro w hSw
        obtain ⟨s0, s1, s2, s3, s4, s5⟩ := hSw
        go_simp
        try with_reducible rfl
      try simp only [Act.put, List.setIfInBounds_toArray, List.set_cons_zero, List.set_cons_succ]
      refine wpAnyH_ready (rs := [5]) (by kernel_rfl) (by simp) ?_
      refine AllReadyH.cons (o := ?o5d) ?ho5d (fun K hK => ?st5d) AllReadyH.nil
      case ho5d =>
        simp only [List.getElem?_toArray, List.getElem?_cons_succ, List.getElem?_cons_zero]
        rfl
      go_simp
      refine (copyNode_any (d.nd k) (l.L k) U.drew (HU.out.2.below (Nat.le_refl _) hd5) hsm.1 hsm.2.1 hsm.2.2.1 hsm.2.2.2).mono ?_
      rintro e W6 ⟨l5, rfl, hN5⟩
      unfold ndV
      have hb6 : Below U.heap.size U W6 := hd5.trans hN5.bel
      refine hK.out _ _ (HSt.out W6 hb6) (fun hHeld => ?_)
      clear hK K
      try simp only [Act.put, List.setIfInBounds_toArray, List.set_cons_zero, List.set_cons_succ]
      refine wpAnyH_ready (rs := [6]) (by kernel_rfl) (by simp) ?_
      refine AllReadyH.cons (o := ?o6d) ?ho6d (fun K hK => ?st6d) AllReadyH.nil
      case ho6d =>
        simp only [List.getElem?_toArray, List.getElem?_cons_succ, List.getElem?_cons_zero]
        rfl
      go_simp
      refine hK.out _ _ (HSt.out W6 hb6) (fun hHeld => ?_)
      clear hK K
      try simp only [Act.put, List.setIfInBounds_toArray, List.set_cons_zero, List.set_cons_succ]
      refine wpAnyH_ready (rs := [7]) (by kernel_rfl) (by simp) ?_
      refine AllReadyH.cons (o := ?o7d) ?ho7d (fun K hK => ?st7d) AllReadyH.nil
      case ho7d =>
        simp only [List.getElem?_toArray, List.getElem?_cons_succ, List.getElem?_cons_zero]
        rfl
      go_simp
      have hb7 : Below U.heap.size U (W6.alloc (.cells #[.int .i64 (d.ino k), .int .i64 (d.nd k).kind, .string (d.nd k).text, .slice l5.nA (d.nd k).nn l5.nc, .slice l5.kA (d.nd k).kn l5.kc, .int .i64 (d.nd k).turn] 113)) := hb6.alloc hb6.size _
      refine hK.out _ _ (HSt.out _ hb7) (fun hHeld => ?_)
      clear hK K
      try simp only [Act.put, List.setIfInBounds_toArray, List.set_cons_zero, List.set_cons_succ]
      refine wpAnyH_ready (rs := [8]) (by kernel_rfl) (by simp) ?_
      refine AllReadyH.cons (o := ?o8d) ?ho8d (fun K hK => ?st8d) AllReadyH.nil
      case ho8d =>
        simp only [List.getElem?_toArray, List.getElem?_cons_succ, List.getElem?_cons_zero]
        rfl
      have hD6 := HU.out.1.below hb7
      have hN6 := hN5.alloc (.cells #[.int .i64 (d.ino k), .int .i64 (d.nd k).kind, .string (d.nd k).text, .slice l5.nA (d.nd k).nn l5.nc, .slice l5.kA (d.nd k).kn l5.kc, .int .i64 (d.nd k).turn] 113)
      refine step_of (by rfl) (wp_append_src (.tmp 18) (.tmp 25) 34 rfl B 113 y0 (.agg #[.int .i64 0, .int .i64 0, .string ByteArray.empty, .slice none 0 0, .slice none 0 0, .int .i64 0]) 6 88 Tryz.underlying34 hy hy0 hy1 hy2 rfl (by decide) (.slice ia k ic) k _ (by rfl) hD6.od.ownI _ 1 _ (by rfl) (src_item W6 (d.ino k) (d.nd k) l5) (by unfold maxLen; omega) (by omega) hD6.bw ?_)
      intro vI W7 hown hgrow hnil hat
      rcases hown.2 with ⟨_, h0⟩ | ⟨gI, cI, cur, hvI, _, _, _⟩
      · omega
      subst hvI
      have hbI : (Value.slice ia k ic).ownBlock = some gI ∨ (W6.alloc (.cells #[.int .i64 (d.ino k), .int .i64 (d.nd k).kind, .string (d.nd k).text, .slice l5.nA (d.nd k).nn l5.nc, .slice l5.kA (d.nd k).kn l5.kc, .int .i64 (d.nd k).turn] 113)).heap.size ≤ gI := by
        rcases hat with e | e
        · exact Or.inl e.symm
        · right
          have e' : gI = (W6.alloc (.cells #[.int .i64 (d.ino k), .int .i64 (d.nd k).kind, .string (d.nd k).text, .slice l5.nA (d.nd k).nn l5.nc, .slice l5.kA (d.nd k).kn l5.kc, .int .i64 (d.nd k).turn] 113)).heap.size := by simpa [Value.ownBlock] using e
          omega
      have H8 : Hid _ := (HU.out.1.below hd5).item hN6 hgrow hown hbI
      have hXB : (Value.slice ia k ic).ownBlock ≠ some X ∨ True := Or.inr trivial
      have hHeld7 : W7.cell? ⟨X, 0, none⟩ = some (.int .i64 (d.ino k)) ∧ W7.cell? ⟨X, 1, none⟩ = some (.int .i64 (d.nd k).kind) ∧ W7.cell? ⟨X, 2, none⟩ = some (.string (d.nd k).text) ∧ W7.cell? ⟨X, 3, none⟩ = some (.slice (l.L k).nA (d.nd k).nn (l.L k).nc) ∧ W7.cell? ⟨X, 4, none⟩ = some (.slice (l.L k).kA (d.nd k).kn (l.L k).kc) ∧ W7.cell? ⟨X, 5, none⟩ = some (.int .i64 (d.nd k).turn) := by
        have hX7 : Blk W7 X #[.int .i64 (d.ino k), .int .i64 (d.nd k).kind, .string (d.nd k).text, .slice (l.L k).nA (d.nd k).nn (l.L k).nc, .slice (l.L k).kA (d.nd k).kn (l.L k).kc, .int .i64 (d.nd k).turn] 113 := by
          refine blk_grownT (HX.out.below hb7 HX.out.lt) hgrow (fun e => ?_)
          have := HXW.out X e
          omega
        exact ⟨hX7.cell 0, hX7.cell 1, hX7.cell 2, hX7.cell 3, hX7.cell 4, hX7.cell 5⟩
      refine hK.out _ _ hHeld7 (fun hHeld => ?_)
      clear hK K
      try simp only [Act.put, List.setIfInBounds_toArray, List.set_cons_zero, List.set_cons_succ]
      refine wpAnyH_done (by kernel_rfl) ?_ _
      show Oper.wp _ _ _ _ _ _
      clear hown hgrow hnil hat hbI hHeld7 hN6 hD6 hN5 HSt hHeld hd5 hb6 hb7 hsm hXB
      go_simp
      refine NoPanic.normal ?_
      go_wp2_with fail
      go_roundw
      case rel => exact ⟨k + 1, some ⟨gI, 0, none⟩, cI, _, _, _, by omega, by go_num, by go_num, H8.out, fun i hi => by
        by_cases e : i = k
        · subst e; simp
        · simp only [e, if_false]; exact HIN.out.2 i (by omega)⟩
      case measure => simp [intOf]; omega
    · obtain rfl : k = d.m := by omega
      have HOWN : Hid (OwnDp wr (w.heap.size + 2) d ⟨some ⟨g, 0, none⟩, c', ia, ic, M⟩) := (HIN.out.1.od.withLive (Z := d.live) HIN.out.1.live HIN.out.1.b0 (fun b e => by
        have e1 : g = b := by simpa [Value.ownBlock] using e
        exact e1 ▸ HIN.out.1.gl)).ext fun i hi => ⟨((HIN.out.2 i hi).1).symm, ((HIN.out.2 i hi).2).symm⟩
      obtain ⟨p0, p1, p2, p3⟩ := pC_cells HIN.out.1.bx.p
      have r0 : wr.cell? ⟨w.heap.size + 1, 0, none⟩ = some (.int .i64 0) := HIN.out.1.bx.r.cell 0
      have r1 : wr.cell? ⟨w.heap.size + 1, 1, none⟩ = some (.int .i64 0) := HIN.out.1.bx.r.cell 1
      have r2 : wr.cell? ⟨w.heap.size + 1, 2, none⟩ = some (.slice none 0 0) := HIN.out.1.bx.r.cell 2
      have r3 : wr.cell? ⟨w.heap.size + 1, 3, none⟩ = some (.slice none 0 0) := HIN.out.1.bx.r.cell 3
      have g0 := HIN.out.1.bx.r.frozen 0
      have g1 := HIN.out.1.bx.r.frozen 1
      have g2 := HIN.out.1.bx.r.frozen 2
      have g3 := HIN.out.1.bx.r.frozen 3
      go_wp2_with fail
      refine end_world (F := fun U => Blk U (w.heap.size + 1) #[.int .i64 d.since, .int .i64 d.date, .slice (some ⟨g, 0, none⟩) d.ln c', .slice ia d.m ic] 36 ∧ Below w.heap.size w U ∧ OwnDp U (w.heap.size + 2) d ⟨some ⟨g, 0, none⟩, c', ia, ic, M⟩) ⟨(((HIN.out.1.bx.r.set 0 _).set 1 _).set 2 _).set 3 _, bel_put (bel_put (bel_put (bel_put HIN.out.1.bx.bel _ (by omega)) _ (by omega)) _ (by omega)) _ (by omega), OD.off (OD.off (OD.off (OD.off HOWN.out _ (by omega)) _ (by omega)) _ (by omega)) _ (by omega)⟩ ?_
      clear p0 p1 p2 p3 r0 r1 r2 r3 g0 g1 g2 g3
      rintro U ⟨hr, hBU, hod⟩
      have r0 : U.cell? ⟨w.heap.size + 1, 0, none⟩ = some (.int .i64 d.since) := hr.cell 0
      have r1 : U.cell? ⟨w.heap.size + 1, 1, none⟩ = some (.int .i64 d.date) := hr.cell 1
      have r2 : U.cell? ⟨w.heap.size + 1, 2, none⟩ = some (.slice (some ⟨g, 0, none⟩) d.ln c') := hr.cell 2
      have r3 : U.cell? ⟨w.heap.size + 1, 3, none⟩ = some (.slice ia d.m ic) := hr.cell 3
      exact bodyPost_ret (v := .agg #[.int .i64 d.since, .int .i64 d.date, .slice (some ⟨g, 0, none⟩) d.ln c', .slice ia d.m ic]) (by simp [results, Tryz.results50, go_sem, r0, r1, r2, r3]) rfl ⟨⟨some ⟨g, 0, none⟩, c', ia, ic, M⟩, rfl, hBU, OD.lower hod (by omega)⟩

set_option maxRecDepth 100000 in
set_option maxHeartbeats 8000000 in
theorem copyJob_any (j : Jb) (l : JLoc) (w : World) (hJ : JIn w j l) (hok : j.d.ok = true) (hn : j.t.n ≤ 10) (hq10 : j.q ≤ 10) (hst : j.t.size ≤ 1048576) (hsd : j.d.size ≤ 1048576) (hse : sizeTo j.e j.q ≤ 1048576) :
    Calls Tryz.prog 63 #[jV j l] w (JPost1 w j) := by
  unfold jV
  obtain ⟨y0, hy, hy0, hy1, hy2⟩ := info_parts infoNode
  have htS := tr_small hse
  go_enter Tryz.func63, Tryz.ntmps63
  go_wp2_with fail
  refine wp_world (F := Bx w (jC j l) 38 #[.slice none 0 0, .int .i64 0, .int .i64 0, .int .i64 0, .slice none 0 0, .slice none 0 0, .slice none 0 0] 38) (bx2 w _ _ _ _) ?_
  intro W hP
  have HP : Hid _ := hP
  clear hP
  have p6 : W.cell? ⟨w.heap.size, 6, none⟩ = some (.slice l.e j.q l.f) := HP.out.p.cell 6
  go_wp2_with fail
  go_loopw [3, 9] (fun v i wr => ∃ (k : Nat) (b : Option Addr) (bc : Nat) (E : Nat → Nd) (M : Nat → Loc), k ≤ j.q ∧ v = .slice b k bc ∧ i = .int .i64 k ∧ Bn w (jC j l) 38 #[.slice none 0 0, .int .i64 0, .int .i64 0, .int .i64 0, .slice none 0 0, .slice none 0 0, .slice none 0 0] 38 k b bc E M wr ∧ ∀ i, i < k → E i = j.e i) (fun _ i _ => j.q - (intOf i).toNat)
  case atStart => exact ⟨0, none, 0, fun _ => ndZero, fun _ => ⟨none, 0, none, 0⟩, Nat.zero_le _, rfl, rfl, ⟨HP.out, OT.start _ _ _ _ _ _⟩, fun i hi => absurd hi (Nat.not_lt_zero _)⟩
  case round =>
    obtain ⟨k, b, bc, E, M, hk, rfl, rfl, hin, hsel⟩ := hrel
    have HIN : Hid (Bn w (jC j l) 38 #[.slice none 0 0, .int .i64 0, .int .i64 0, .int .i64 0, .slice none 0 0, .slice none 0 0, .slice none 0 0] 38 k b bc E M wr ∧ ∀ i, i < k → E i = j.e i) := ⟨hin, hsel⟩
    have hsw : w.heap.size + 2 ≤ wr.heap.size := hin.bx.size
    clear hin hsel
    by_cases hlt : k < j.q
    · have hlti : (k : Int) < (j.q : Int) := by omega
      obtain ⟨bI, oI, hQ, hQl, hQc⟩ := (hJ.e.below (Nat.le_refl _) HIN.out.1.bx.bel).at hlt
      obtain ⟨d1, d2, d3, d4, d5, d6⟩ := hQc k hlt
      have HN : Hid (NdIn wr (j.e k) (l.g k)) := d6
      have hsm := htS k hlt
      rw [hQ]
      have HA : Hid (l.e = some ⟨bI, oI, none⟩) := hQ
      clear hQ hQc d6
      go_wp2_with fail
      refine at_world (F := fun U => Bn w (jC j l) 38 #[.slice none 0 0, .int .i64 0, .int .i64 0, .int .i64 0, .slice none 0 0, .slice none 0 0, .slice none 0 0] 38 k b bc E M U ∧ NdIn U (j.e k) (l.g k)) ⟨HIN.out.1.below ((Below.refl _ _).alloc (Nat.le_refl _) _), HN.out.below (Nat.le_refl _) ((Below.refl _ _).alloc (Nat.le_refl _) _)⟩ ?_
      rintro U ⟨hU, hNU⟩
      refine (copyNode_any (j.e k) (l.g k) U hNU hsm.1 hsm.2.1 hsm.2.2.1 hsm.2.2.2).mono ?_
      rintro e W6 ⟨l5, rfl, hN5⟩
      unfold ndV
      have HU : Hid (Bn w (jC j l) 38 #[.slice none 0 0, .int .i64 0, .int .i64 0, .int .i64 0, .slice none 0 0, .slice none 0 0, .slice none 0 0] 38 k b bc E M U ∧ NewNn U (j.e k) l5 W6 ∧ w.heap.size + 2 ≤ W6.heap.size) := ⟨hU, hN5, by have := hU.bx.size; have := hN5.bel.size; omega⟩
      clear hU hNU hN5
      go_wp2_with (at_builtin; go_must (refine wpList_append_src (by rfl) _ _ 31 rfl (w.heap.size + 2) 87 y0 (.agg #[.int .i64 0, .string ByteArray.empty, .slice none 0 0, .slice none 0 0, .int .i64 0]) 5 80 Tryz.underlying31 hy hy0 hy1 hy2 rfl (by decide) (.slice b k bc) k (rowsT (fun _ => 0) E M k) (by rfl) ((HU.out.1.below HU.out.2.1.bel).ot.ownI.alloc _) _ 1 _ (by rfl) (src_node W6 (j.e k) l5) (by unfold maxLen; omega) (by omega) (by have := HU.out.2.2; simp; omega) ?_))
      intro vI W7 hown hgrow hnil hat
      rcases hown.2 with ⟨_, h0⟩ | ⟨gI, cI, cur, hvI, _, _, _⟩
      · omega
      subst hvI
      have hbI : (Value.slice b k bc).ownBlock = some gI ∨ (W6.alloc (.cells #[.int .i64 (j.e k).kind, .string (j.e k).text, .slice (l5).nA (j.e k).nn (l5).nc, .slice (l5).kA (j.e k).kn (l5).kc, .int .i64 (j.e k).turn] 87)).heap.size ≤ gI := by
        rcases hat with e | e
        · exact Or.inl e.symm
        · right
          have e' : gI = (W6.alloc (.cells #[.int .i64 (j.e k).kind, .string (j.e k).text, .slice (l5).nA (j.e k).nn (l5).nc, .slice (l5).kA (j.e k).kn (l5).kc, .int .i64 (j.e k).turn] 87)).heap.size := by simpa [Value.ownBlock] using e
          omega
      have H8 : Hid _ := HU.out.1.item (HU.out.2.1.alloc (.cells #[.int .i64 (j.e k).kind, .string (j.e k).text, .slice (l5).nA (j.e k).nn (l5).nc, .slice (l5).kA (j.e k).kn (l5).kc, .int .i64 (j.e k).turn] 87)) hgrow hown hbI
      clear hown hgrow hnil hat hbI
      go_wp2_with fail
      go_roundw
      case rel => exact ⟨k + 1, some ⟨gI, 0, none⟩, cI, _, _, by omega, by go_num, by go_num, H8.out, fun i hi => by
        by_cases e : i = k
        · subst e; simp
        · simp only [e, if_false]; exact HIN.out.2 i (by omega)⟩
      case measure => simp [intOf]; omega
    · obtain rfl : k = j.q := by omega
      have HOT : Hid (OwnTr wr (w.heap.size + 2) ⟨j.q, j.e, 0⟩ ⟨b, bc, M⟩) := HIN.out.1.ot.ext fun i hi => ⟨(HIN.out.2 i hi).symm, rfl⟩
      have HX : Hid (Bx w (jC j l) 38 #[.slice none 0 0, .int .i64 0, .int .i64 0, .int .i64 0, .slice none 0 0, .slice none 0 0, .slice none 0 0] 38 wr ∧ OwnTr wr (w.heap.size + 2) j.dn ⟨b, bc, M⟩) := ⟨HIN.out.1.bx, HOT.out⟩
      clear HIN HOT
      have HSt : Hid (∀ W', Below wr.heap.size wr W' → W'.cell? ⟨w.heap.size, 0, none⟩ = some (.slice l.t.a j.t.n l.t.c) ∧ W'.cell? ⟨w.heap.size, 1, none⟩ = some (.int .i64 j.t.now) ∧ W'.cell? ⟨w.heap.size, 2, none⟩ = some (.int .i64 j.d.since) ∧ W'.cell? ⟨w.heap.size, 3, none⟩ = some (.int .i64 j.d.date) ∧ W'.cell? ⟨w.heap.size, 4, none⟩ = some (.slice l.d.lA j.d.ln l.d.lc) ∧ W'.cell? ⟨w.heap.size, 5, none⟩ = some (.slice l.d.iA j.d.m l.d.ic)) := fun W' hW => by
        obtain ⟨p0, p1, p2, p3, p4, p5, p6⟩ := jC_cells (HX.out.1.below hW).p
        exact ⟨p0, p1, p2, p3, p4, p5⟩
      have hd0 : Below wr.heap.size wr wr.drew := below_drewN (Below.refl _ _) 1
      go_wp2_with fail
      refine wp_region_noPanic ?_
      refine wp_region_peel (fun W' => W'.cell? ⟨w.heap.size, 0, none⟩ = some (.slice l.t.a j.t.n l.t.c) ∧ W'.cell? ⟨w.heap.size, 1, none⟩ = some (.int .i64 j.t.now) ∧ W'.cell? ⟨w.heap.size, 2, none⟩ = some (.int .i64 j.d.since) ∧ W'.cell? ⟨w.heap.size, 3, none⟩ = some (.int .i64 j.d.date) ∧ W'.cell? ⟨w.heap.size, 4, none⟩ = some (.slice l.d.lA j.d.ln l.d.lc) ∧ W'.cell? ⟨w.heap.size, 5, none⟩ = some (.slice l.d.iA j.d.m l.d.ic)) _ (by kernel_rfl) rfl (by kernel_rfl) ?_ (fun hHeld => ?_)
      · exact HSt.out _ hd0
      simp only [List.pop_toArray, List.dropLast, List.size_toArray, List.length_cons, List.length_nil, Nat.reduceAdd, Nat.reduceSub, List.getElem_toArray, List.getElem_cons_succ, List.getElem_cons_zero]
      refine peel_take (i := 0) (oi := ?oi0e) (v := ?v0e) (fun _ _ _ _ _ h => h) hHeld ?hi0e (by kernel_rfl) (by kernel_rfl) (by kernel_rfl) ?hw0e ?hy0e ?rest0e
      case hi0e =>
        simp only [List.getElem?_toArray, List.getElem?_cons_zero]
        rfl
      case hw0e => rfl
      case hy0e =>
        intro w hSw
        obtain ⟨s0, s1, s2, s3, s4, s5⟩ := hSw
        go_simp
        try with_reducible rfl
      try simp only [Act.put, List.setIfInBounds_toArray, List.set_cons_zero, List.set_cons_succ]
      refine peel_take (i := 1) (oi := ?oi1e) (v := ?v1e) (fun _ _ _ _ _ h => h) hHeld ?hi1e (by kernel_rfl) (by kernel_rfl) (by kernel_rfl) ?hw1e ?hy1e ?rest1e
      case hi1e =>
        simp only [List.getElem?_toArray, List.getElem?_cons_succ, List.getElem?_cons_zero]
        rfl
      case hw1e => rfl
      case hy1e =>
        intro w hSw
        obtain ⟨s0, s1, s2, s3, s4, s5⟩ := hSw
        go_simp
        try with_reducible rfl
      try simp only [Act.put, List.setIfInBounds_toArray, List.set_cons_zero, List.set_cons_succ]
      refine peel_take (i := 3) (oi := ?oi3e) (v := ?v3e) (fun _ _ _ _ _ h => h) hHeld ?hi3e (by kernel_rfl) (by kernel_rfl) (by kernel_rfl) ?hw3e ?hy3e ?rest3e
      case hi3e =>
        simp only [List.getElem?_toArray, List.getElem?_cons_succ, List.getElem?_cons_zero]
        rfl
      case hw3e => rfl
      case hy3e =>
        intro w hSw
        obtain ⟨s0, s1, s2, s3, s4, s5⟩ := hSw
        go_simp
        try with_reducible rfl
      try simp only [Act.put, List.setIfInBounds_toArray, List.set_cons_zero, List.set_cons_succ]
      refine peel_take (i := 4) (oi := ?oi4e) (v := ?v4e) (fun _ _ _ _ _ h => h) hHeld ?hi4e (by kernel_rfl) (by kernel_rfl) (by kernel_rfl) ?hw4e ?hy4e ?rest4e
      case hi4e =>
        simp only [List.getElem?_toArray, List.getElem?_cons_succ, List.getElem?_cons_zero]
        rfl
      case hw4e => rfl
      case hy4e =>
        intro w hSw
        obtain ⟨s0, s1, s2, s3, s4, s5⟩ := hSw
        go_simp
        try with_reducible rfl
      try simp only [Act.put, List.setIfInBounds_toArray, List.set_cons_zero, List.set_cons_succ]
      refine peel_take (i := 6) (oi := ?oi6e) (v := ?v6e) (fun _ _ _ _ _ h => h) hHeld ?hi6e (by kernel_rfl) (by kernel_rfl) (by kernel_rfl) ?hw6e ?hy6e ?rest6e
      case hi6e =>
        simp only [List.getElem?_toArray, List.getElem?_cons_succ, List.getElem?_cons_zero]
        rfl
      case hw6e => rfl
      case hy6e =>
        intro w hSw
        obtain ⟨s0, s1, s2, s3, s4, s5⟩ := hSw
        go_simp
        try with_reducible rfl
      try simp only [Act.put, List.setIfInBounds_toArray, List.set_cons_zero, List.set_cons_succ]
      refine wpAnyH_ready (rs := [2]) (by kernel_rfl) (by simp) ?_
      refine AllReadyH.cons (o := ?o2e) ?ho2e (fun K hK => ?st2e) AllReadyH.nil
      case ho2e =>
        simp only [List.getElem?_toArray, List.getElem?_cons_succ, List.getElem?_cons_zero]
        rfl
      go_simp
      refine (copyTree_any j.t l.t wr.drew ((hJ.t.below (Nat.le_refl _) HX.out.1.bel).below (Nat.le_refl _) hd0) (by omega) hst).mono ?_
      rintro e w4 ⟨k1, rfl, hb4, ho4⟩
      unfold tV
      have hB4 : Below wr.heap.size wr w4 := hd0.trans (hb4.mono hd0.size)
      have H4 : Hid (OwnTr w4 wr.heap.size j.t k1) := ho4.lower hd0.size
      clear hb4 ho4
      refine hK.out _ _ (HSt.out _ hB4) (fun hHeld => ?_)
      clear hK K
      try simp only [Act.put, List.setIfInBounds_toArray, List.set_cons_zero, List.set_cons_succ]
      refine wpAnyH_ready (rs := [5]) (by kernel_rfl) (by simp) ?_
      refine AllReadyH.cons (o := ?o5e) ?ho5e (fun K hK => ?st5e) AllReadyH.nil
      case ho5e =>
        simp only [List.getElem?_toArray, List.getElem?_cons_succ, List.getElem?_cons_zero]
        rfl
      go_simp
      refine (copyDump_any j.d l.d w4 ((hJ.d.below (Nat.le_refl _) HX.out.1.bel).below (Nat.le_refl _) hB4) hok hsd).mono ?_
      rintro e w5 ⟨k2, rfl, hb5, ho5⟩
      unfold dpV
      have hB5 : Below wr.heap.size wr w5 := hB4.trans (hb5.mono hB4.size)
      have HJ : Hid (Bx w (jC j l) 38 #[.slice none 0 0, .int .i64 0, .int .i64 0, .int .i64 0, .slice none 0 0, .slice none 0 0, .slice none 0 0] 38 w5 ∧ OwnJb w5 (w.heap.size + 2) j ⟨k1, k2, b, bc, M⟩) := by
        have hE := HX.out.2.below hB5
        have hT := H4.out.below hb5
        have hEt : ∀ q, BkT j.dn ⟨b, bc, M⟩ q → q < wr.heap.size := fun q e => (HX.out.2.blk e).2
        have hTt : ∀ q, BkT j.t k1 q → wr.heap.size ≤ q ∧ q < w4.heap.size := fun q e => H4.out.blk e
        have hDt : ∀ q, BkD j.d k2 q → w4.heap.size ≤ q := fun q e => (ho5.blk e).1
        have hs4 := hB4.size
        exact ⟨HX.out.1.below hB5, hT.lower hsw, ho5.lower (by omega), hE, fun q e1 e2 => by have h1 := (hTt q e1).2; have h2 := hDt q e2; omega, fun q e1 e2 => by have h1 := (hTt q e1).1; have h2 := hEt q e2; omega, fun q e1 e2 => by have h1 := hDt q e1; have h2 := hEt q e2; omega⟩
      clear hb5 ho5
      refine hK.out _ _ (HSt.out _ hB5) (fun hHeld => ?_)
      clear hK K
      try simp only [Act.put, List.setIfInBounds_toArray, List.set_cons_zero, List.set_cons_succ]
      refine wpAnyH_ready (rs := [7]) (by kernel_rfl) (by simp) ?_
      refine AllReadyH.cons (o := ?o7e) ?ho7e (fun K hK => ?st7e) AllReadyH.nil
      case ho7e =>
        simp only [List.getElem?_toArray, List.getElem?_cons_succ, List.getElem?_cons_zero]
        rfl
      go_simp
      refine hK.out _ _ (HSt.out _ hB5) (fun hHeld => ?_)
      clear hK K
      try simp only [Act.put, List.setIfInBounds_toArray, List.set_cons_zero, List.set_cons_succ]
      refine wpAnyH_done (by kernel_rfl) ?_ _
      show Oper.wp _ _ _ _ _ _
      have r0 : w5.cell? ⟨w.heap.size + 1, 0, none⟩ = some (.slice none 0 0) := HJ.out.1.r.cell 0
      have g0 := HJ.out.1.r.frozen 0
      have r1 : w5.cell? ⟨w.heap.size + 1, 1, none⟩ = some (.int .i64 0) := HJ.out.1.r.cell 1
      have g1 := HJ.out.1.r.frozen 1
      have r2 : w5.cell? ⟨w.heap.size + 1, 2, none⟩ = some (.int .i64 0) := HJ.out.1.r.cell 2
      have g2 := HJ.out.1.r.frozen 2
      have r3 : w5.cell? ⟨w.heap.size + 1, 3, none⟩ = some (.int .i64 0) := HJ.out.1.r.cell 3
      have g3 := HJ.out.1.r.frozen 3
      have r4 : w5.cell? ⟨w.heap.size + 1, 4, none⟩ = some (.slice none 0 0) := HJ.out.1.r.cell 4
      have g4 := HJ.out.1.r.frozen 4
      have r5 : w5.cell? ⟨w.heap.size + 1, 5, none⟩ = some (.slice none 0 0) := HJ.out.1.r.cell 5
      have g5 := HJ.out.1.r.frozen 5
      have r6 : w5.cell? ⟨w.heap.size + 1, 6, none⟩ = some (.slice none 0 0) := HJ.out.1.r.cell 6
      have g6 := HJ.out.1.r.frozen 6
      have HE : Hid (∀ U, U = (((((((w5.setCell ⟨w.heap.size + 1, 0, none⟩ (.slice k1.a j.t.n k1.c)).setCell ⟨w.heap.size + 1, 1, none⟩ (.int .i64 j.t.now)).setCell ⟨w.heap.size + 1, 2, none⟩ (.int .i64 j.d.since)).setCell ⟨w.heap.size + 1, 3, none⟩ (.int .i64 j.d.date)).setCell ⟨w.heap.size + 1, 4, none⟩ (.slice k2.lA j.d.ln k2.lc)).setCell ⟨w.heap.size + 1, 5, none⟩ (.slice k2.iA j.d.m k2.ic)).setCell ⟨w.heap.size + 1, 6, none⟩ (.slice b j.q bc)) → Blk U (w.heap.size + 1) (jC j ⟨k1, k2, b, bc, M⟩) 38 ∧ JPost1 w j (.returned (jV j ⟨k1, k2, b, bc, M⟩)) U) := fun U e => by
        subst e
        exact ⟨blk7 HJ.out.1.r _ _ _ _ _ _ _, bel7 HJ.out.1.bel (by omega) _ _ _ _ _ _ _, _, rfl, (jb7 HJ.out.2 (by omega) _ _ _ _ _ _ _).lower (by omega)⟩
      clear HSt hHeld hd0 hB4 hB5 HJ HX H4
      go_simp
      refine NoPanic.normal ?_
      go_wp2_with fail
      refine end_world (F := fun U => Blk U (w.heap.size + 1) (jC j ⟨k1, k2, b, bc, M⟩) 38 ∧ JPost1 w j (.returned (jV j ⟨k1, k2, b, bc, M⟩)) U) (HE.out _ rfl) ?_
      clear HE r0 r1 r2 r3 r4 r5 r6 g0 g1 g2 g3 g4 g5 g6
      rintro U ⟨hr, hE⟩
      obtain ⟨e0, e1, e2, e3, e4, e5, e6⟩ := jC_cells hr
      exact bodyPost_ret (v := jV j ⟨k1, k2, b, bc, M⟩) (by unfold jV; simp [results, Tryz.results63, go_sem, e0, e1, e2, e3, e4, e5, e6]) rfl hE
end Go.Proofs.YtakifcobofkheaaGreatDoor

/-
  What JobNew of the program answers.
-/
namespace Go.Proofs.YtakifcobofkheaaGreatDoor
open Go.RowKit Go.Deep
set_option linter.unusedVariables false
set_option linter.unusedSimpArgs false
set_option linter.unnecessarySimpa false

set_option maxRecDepth 100000 in
set_option maxHeartbeats 8000000 in
theorem implJobNew_any (t : Tr) (l : TLoc) (d : Dp) (k : DLoc) (w : World) (hE : ErrType w) (hT : TIn w t l) (hD : DpIn w d k) (ft : t.Fits) (fd : d.Fits) (hs : t.size + d.size ≤ 1048576) :
    Calls Tryz.prog 14 #[tV t l, dpV d k] w (JPost w (newAns t d) (backCode t.n t.D t.now d)) := by
  unfold tV dpV
  go_enter Tryz.func14, Tryz.ntmps14
  go_wp2_with fail
  refine at_world (F := fun W => Jn w t l d k W ∧ w.heap.size + 3 ≤ W.heap.size) ?_ ?_
  · obtain ⟨h0, h1, h2, hb, _⟩ := new3 w (tC t l) 33 (pC d k) 36 #[.slice none 0 0, .int .i64 0, .int .i64 0, .int .i64 0, .slice none 0 0, .slice none 0 0, .slice none 0 0] 38
    exact ⟨⟨h0, h1, h2, hb⟩, by simp⟩
  rintro W ⟨hO, hsW⟩
  refine (implBackOne_law t l d k W (hE.bel hO.bel) (hT.below (Nat.le_refl _) hO.bel) (hD.below (Nat.le_refl _) hO.bel) ft fd hs).mono ?_
  intro e w1 hpost
  obtain ⟨hb1, lr, rfl, hown⟩ := back_out t d hpost
  unfold tV
  have H1 : Hid (Jn w t l d k w1) := hO.below hb1
  have hs1 : w.heap.size + 3 ≤ w1.heap.size := by have := hb1.size; omega
  clear hb1 hO hsW hpost hown
  have n0 : w.heap.size < w1.heap.size := by omega
  have m0 : w.heap.size ≠ w1.heap.size := by omega
  have n1 : w.heap.size + 1 < w1.heap.size := by omega
  have m1 : w.heap.size + 1 ≠ w1.heap.size := by omega
  have n2 : w.heap.size + 1 + 1 < w1.heap.size := by omega
  have m2 : w.heap.size + 1 + 1 ≠ w1.heap.size := by omega
  obtain ⟨p0, p1⟩ := tC_cells H1.out.p
  obtain ⟨q0, q1, q2, q3⟩ := pC_cells H1.out.q
  have r0 : w1.cell? ⟨w.heap.size + 1 + 1, 0, none⟩ = some (.slice none 0 0) := H1.out.r.cell 0
  have r1 : w1.cell? ⟨w.heap.size + 1 + 1, 1, none⟩ = some (.int .i64 0) := H1.out.r.cell 1
  have r2 : w1.cell? ⟨w.heap.size + 1 + 1, 2, none⟩ = some (.int .i64 0) := H1.out.r.cell 2
  have r3 : w1.cell? ⟨w.heap.size + 1 + 1, 3, none⟩ = some (.int .i64 0) := H1.out.r.cell 3
  have r4 : w1.cell? ⟨w.heap.size + 1 + 1, 4, none⟩ = some (.slice none 0 0) := H1.out.r.cell 4
  have r5 : w1.cell? ⟨w.heap.size + 1 + 1, 5, none⟩ = some (.slice none 0 0) := H1.out.r.cell 5
  have r6 : w1.cell? ⟨w.heap.size + 1 + 1, 6, none⟩ = some (.slice none 0 0) := H1.out.r.cell 6
  have g0 := H1.out.r.frozen 0
  have g1 := H1.out.r.frozen 1
  have g2 := H1.out.r.frozen 2
  have g3 := H1.out.r.frozen 3
  have g4 := H1.out.r.frozen 4
  have g5 := H1.out.r.frozen 5
  have g6 := H1.out.r.frozen 6
  by_cases hz : backCode t.n t.D t.now d = 0
  · have hzb : (backCode t.n t.D t.now d != 0) = false := by simp [hz]
    have HZ : Hid (backCode t.n t.D t.now d = 0) := hz
    have HA : Hid (newAns t d = newJb t d) := by show _ = _; unfold newAns; rw [if_pos hz]
    have HC : Hid (d.ok = true ∧ (0 < d.since → t.n ≤ 10)) := by
      obtain ⟨hok, hsn, _, _⟩ := code_zero hz
      exact ⟨hok, fun e => (hsn e).1.few⟩
    have hsi := ok_since HC.out.1
    have HJ2 : Hid (∀ U, U = w1.alloc (.cells #[.slice lr.a (backTr t d).n lr.c, .int .i64 (backTr t d).now] 33) → Jn w t l d k U ∧ w.heap.size + 3 ≤ U.heap.size) := fun U e => by
      have hb : Below w1.heap.size w1 U := by rw [e]; exact (Below.refl _ _).alloc (Nat.le_refl _) _
      exact ⟨H1.out.below hb, Nat.le_trans hs1 hb.size⟩
    clear hz
    go_wp2_with fail
    refine at_world (F := fun U => Jn w t l d k U ∧ w.heap.size + 3 ≤ U.heap.size) (HJ2.out _ rfl) ?_
    clear HJ2 n0 n1 n2 m0 m1 m2 p0 p1 q0 q1 q2 q3 r0 r1 r2 r3 r4 r5 r6 g0 g1 g2 g3 g4 g5 g6 H1 hs1
    rintro W2 ⟨hj2, hs2⟩
    refine (copyDump_any d k W2 (hD.below (Nat.le_refl _) hj2.bel) HC.out.1 (by omega)).mono ?_
    rintro e w3 ⟨k2, rfl, hb3, ho3⟩
    unfold dpV
    have H3 : Hid (Jn w t l d k w3 ∧ OwnDp w3 (w.heap.size + 3) d k2) := ⟨hj2.below hb3, ho3.lower hs2⟩
    have hs3 : w.heap.size + 3 ≤ w3.heap.size := by have := hb3.size; omega
    clear hj2 hs2 hb3 ho3
    have n0 : w.heap.size < w3.heap.size := by omega
    have m0 : w.heap.size ≠ w3.heap.size := by omega
    have n1 : w.heap.size + 1 < w3.heap.size := by omega
    have m1 : w.heap.size + 1 ≠ w3.heap.size := by omega
    have n2 : w.heap.size + 1 + 1 < w3.heap.size := by omega
    have m2 : w.heap.size + 1 + 1 ≠ w3.heap.size := by omega
    obtain ⟨p0, p1⟩ := tC_cells H3.out.1.p
    obtain ⟨q0, q1, q2, q3⟩ := pC_cells H3.out.1.q
    have r0 : w3.cell? ⟨w.heap.size + 1 + 1, 0, none⟩ = some (.slice none 0 0) := H3.out.1.r.cell 0
    have r1 : w3.cell? ⟨w.heap.size + 1 + 1, 1, none⟩ = some (.int .i64 0) := H3.out.1.r.cell 1
    have r2 : w3.cell? ⟨w.heap.size + 1 + 1, 2, none⟩ = some (.int .i64 0) := H3.out.1.r.cell 2
    have r3 : w3.cell? ⟨w.heap.size + 1 + 1, 3, none⟩ = some (.int .i64 0) := H3.out.1.r.cell 3
    have r4 : w3.cell? ⟨w.heap.size + 1 + 1, 4, none⟩ = some (.slice none 0 0) := H3.out.1.r.cell 4
    have r5 : w3.cell? ⟨w.heap.size + 1 + 1, 5, none⟩ = some (.slice none 0 0) := H3.out.1.r.cell 5
    have r6 : w3.cell? ⟨w.heap.size + 1 + 1, 6, none⟩ = some (.slice none 0 0) := H3.out.1.r.cell 6
    have g0 := H3.out.1.r.frozen 0
    have g1 := H3.out.1.r.frozen 1
    have g2 := H3.out.1.r.frozen 2
    have g3 := H3.out.1.r.frozen 3
    have g4 := H3.out.1.r.frozen 4
    have g5 := H3.out.1.r.frozen 5
    have g6 := H3.out.1.r.frozen 6
    by_cases hp : 0 < d.since
    · have HV : Hid (∀ U, U = w3.alloc (.cells #[.slice none 0 0, .int .i64 0, .int .i64 d.since, .int .i64 d.date, .slice k2.lA d.ln k2.lc, .slice k2.iA d.m k2.ic, .slice none 0 0] 38) → Jn w t l d k U ∧ OwnDp U (w.heap.size + 3) d k2 ∧ Blk U w3.heap.size #[.slice none 0 0, .int .i64 0, .int .i64 d.since, .int .i64 d.date, .slice k2.lA d.ln k2.lc, .slice k2.iA d.m k2.ic, .slice none 0 0] 38 ∧ (∀ b, BkD d k2 b → b < w3.heap.size) ∧ w3.heap.size < U.heap.size) := fun U e => by
        obtain ⟨h0, hb, _⟩ := new1 w3 #[.slice none 0 0, .int .i64 0, .int .i64 d.since, .int .i64 d.date, .slice k2.lA d.ln k2.lc, .slice k2.iA d.m k2.ic, .slice none 0 0] 38
        rw [← e] at h0 hb
        exact ⟨H3.out.1.below hb, H3.out.2.below hb, h0, fun b e => (H3.out.2.blk e).2, h0.lt⟩
      have hn10 := HC.out.2 hp
      have hNJ : newJb t d = ⟨t, d, 0, fun _ => ndZero⟩ := by unfold newJb; rw [if_neg (by omega)]
      have HNJ : Hid _ := hNJ
      clear hNJ
      go_wp2_with fail
      refine at_world (F := fun U => Jn w t l d k U ∧ OwnDp U (w.heap.size + 3) d k2 ∧ Blk U w3.heap.size #[.slice none 0 0, .int .i64 0, .int .i64 d.since, .int .i64 d.date, .slice k2.lA d.ln k2.lc, .slice k2.iA d.m k2.ic, .slice none 0 0] 38 ∧ (∀ b, BkD d k2 b → b < w3.heap.size) ∧ w3.heap.size < U.heap.size) (HV.out _ rfl) ?_
      generalize w3.heap.size = V at *
      clear HV n0 n1 n2 m0 m1 m2 p0 p1 q0 q1 q2 q3 r0 r1 r2 r3 r4 r5 r6 g0 g1 g2 g3 g4 g5 g6 H3
      rintro W4 ⟨hj4, hd4, hv4, hk4, hl4⟩
      refine (copyTree_any t l W4 (hT.below (Nat.le_refl _) hj4.bel) (by omega) (by omega)).mono ?_
      rintro e w5 ⟨k1, rfl, hb5, ho5⟩
      unfold tV
      have H5 : Hid (Jn w t l d k w5 ∧ OwnDp w5 (w.heap.size + 3) d k2 ∧ Blk w5 V #[.slice none 0 0, .int .i64 0, .int .i64 d.since, .int .i64 d.date, .slice k2.lA d.ln k2.lc, .slice k2.iA d.m k2.ic, .slice none 0 0] 38 ∧ (∀ b, BkD d k2 b → b < V) ∧ OwnTr w5 W4.heap.size t k1 ∧ V < W4.heap.size ∧ V < w5.heap.size) := ⟨hj4.below hb5, hd4.below hb5, hv4.below hb5 hl4, hk4, ho5, hl4, by have := hb5.size; omega⟩
      clear hj4 hd4 hv4 hk4 hl4 hb5 ho5
      have v0 : w5.cell? ⟨V, 0, none⟩ = some (.slice none 0 0) := H5.out.2.2.1.cell 0
      have v1 : w5.cell? ⟨V, 1, none⟩ = some (.int .i64 0) := H5.out.2.2.1.cell 1
      have v2 : w5.cell? ⟨V, 2, none⟩ = some (.int .i64 d.since) := H5.out.2.2.1.cell 2
      have v3 : w5.cell? ⟨V, 3, none⟩ = some (.int .i64 d.date) := H5.out.2.2.1.cell 3
      have v4 : w5.cell? ⟨V, 4, none⟩ = some (.slice k2.lA d.ln k2.lc) := H5.out.2.2.1.cell 4
      have v5 : w5.cell? ⟨V, 5, none⟩ = some (.slice k2.iA d.m k2.ic) := H5.out.2.2.1.cell 5
      have v6 : w5.cell? ⟨V, 6, none⟩ = some (.slice none 0 0) := H5.out.2.2.1.cell 6
      have f0 := H5.out.2.2.1.frozen 0
      have f1 := H5.out.2.2.1.frozen 1
      have nV : w.heap.size + 1 + 1 ≠ V := by omega
      have mV : V ≠ w.heap.size + 1 + 1 := by omega
      have r0 : w5.cell? ⟨w.heap.size + 1 + 1, 0, none⟩ = some (.slice none 0 0) := H5.out.1.r.cell 0
      have r1 : w5.cell? ⟨w.heap.size + 1 + 1, 1, none⟩ = some (.int .i64 0) := H5.out.1.r.cell 1
      have r2 : w5.cell? ⟨w.heap.size + 1 + 1, 2, none⟩ = some (.int .i64 0) := H5.out.1.r.cell 2
      have r3 : w5.cell? ⟨w.heap.size + 1 + 1, 3, none⟩ = some (.int .i64 0) := H5.out.1.r.cell 3
      have r4 : w5.cell? ⟨w.heap.size + 1 + 1, 4, none⟩ = some (.slice none 0 0) := H5.out.1.r.cell 4
      have r5 : w5.cell? ⟨w.heap.size + 1 + 1, 5, none⟩ = some (.slice none 0 0) := H5.out.1.r.cell 5
      have r6 : w5.cell? ⟨w.heap.size + 1 + 1, 6, none⟩ = some (.slice none 0 0) := H5.out.1.r.cell 6
      have g0 := H5.out.1.r.frozen 0
      have g1 := H5.out.1.r.frozen 1
      have g2 := H5.out.1.r.frozen 2
      have g3 := H5.out.1.r.frozen 3
      have g4 := H5.out.1.r.frozen 4
      have g5 := H5.out.1.r.frozen 5
      have g6 := H5.out.1.r.frozen 6
      have HF : Hid (Jn w t l d k ((w5.setCell ⟨V, 0, none⟩ (.slice k1.a t.n k1.c)).setCell ⟨V, 1, none⟩ (.int .i64 t.now)) ∧ OwnJb ((w5.setCell ⟨V, 0, none⟩ (.slice k1.a t.n k1.c)).setCell ⟨V, 1, none⟩ (.int .i64 t.now)) (w.heap.size + 3) (newJb t d) ⟨k1, k2, none, 0, fun _ => ⟨none, 0, none, 0⟩⟩) := by
        have hsV := H5.out.2.2.2.2.2.1
        have hj := H5.out.1
        have hdk := H5.out.2.2.2.1
        have hdV : OwnDp ((w5.setCell ⟨V, 0, none⟩ (.slice k1.a t.n k1.c)).setCell ⟨V, 1, none⟩ (.int .i64 t.now)) (w.heap.size + 3) d k2 := H5.out.2.1.keep fun b e => (blk_setCell_other _ _ _ _ (show b ≠ V by have := hdk b e; omega)).trans (blk_setCell_other _ _ _ _ (show b ≠ V by have := hdk b e; omega))
        have htV : OwnTr ((w5.setCell ⟨V, 0, none⟩ (.slice k1.a t.n k1.c)).setCell ⟨V, 1, none⟩ (.int .i64 t.now)) W4.heap.size t k1 := (H5.out.2.2.2.2.1.put _ hsV).put _ hsV
        have htk : ∀ b, BkT t k1 b → W4.heap.size ≤ b := fun b e => (H5.out.2.2.2.2.1.blk e).1
        have hno : ∀ b, ¬ BkT (Jb.dn ⟨t, d, 0, fun _ => ndZero⟩) (JLoc.dn ⟨k1, k2, none, 0, fun _ => ⟨none, 0, none, 0⟩⟩) b := by
          rintro b ⟨dd, hd, e⟩
          have hd' : dd < 2 := hd
          have : dd = 0 ∨ dd = 1 := by omega
          rcases this with rfl | rfl <;> simp [valT, Value.ownBlock, JLoc.dn, Jb.dn] at e
        refine ⟨⟨(hj.p.off _ (by omega)).off _ (by omega), (hj.q.off _ (by omega)).off _ (by omega), (hj.r.off _ (by omega)).off _ (by omega), bel_put (bel_put hj.bel _ (by omega)) _ (by omega)⟩, ?_⟩
        rw [HNJ.out]
        exact ⟨htV.lower (by omega), hdV, OT.start _ _ _ _ _ _, fun b e1 e2 => by have := htk b e1; have := hdk b e2; omega, fun b _ e2 => hno b e2, fun b _ e2 => hno b e2⟩
      have HE : Hid (∀ U, U = (((((((((w5.setCell ⟨V, 0, none⟩ (.slice k1.a t.n k1.c)).setCell ⟨V, 1, none⟩ (.int .i64 t.now)).setCell ⟨w.heap.size + 1 + 1, 0, none⟩ (.slice k1.a t.n k1.c)).setCell ⟨w.heap.size + 1 + 1, 1, none⟩ (.int .i64 t.now)).setCell ⟨w.heap.size + 1 + 1, 2, none⟩ (.int .i64 d.since)).setCell ⟨w.heap.size + 1 + 1, 3, none⟩ (.int .i64 d.date)).setCell ⟨w.heap.size + 1 + 1, 4, none⟩ (.slice k2.lA d.ln k2.lc)).setCell ⟨w.heap.size + 1 + 1, 5, none⟩ (.slice k2.iA d.m k2.ic)).setCell ⟨w.heap.size + 1 + 1, 6, none⟩ (.slice none 0 0)) → Blk U (w.heap.size + 1 + 1) (jC ⟨t, d, 0, fun _ => ndZero⟩ ⟨k1, k2, none, 0, fun _ => ⟨none, 0, none, 0⟩⟩) 38 ∧ JPost w (newAns t d) (backCode t.n t.D t.now d) (.returned (.tuple #[jV ⟨t, d, 0, fun _ => ndZero⟩ ⟨k1, k2, none, 0, fun _ => ⟨none, 0, none, 0⟩⟩, .int .i64 0])) U) := fun U e => by
        subst e
        rw [HA.out, HZ.out]
        obtain ⟨hj, ho⟩ := HF.out
        rw [HNJ.out] at ho ⊢
        exact ⟨blk7 hj.r _ _ _ _ _ _ _, bel7 hj.bel (by omega) _ _ _ _ _ _ _, _, rfl, (jb7 ho (by omega) _ _ _ _ _ _ _).lower (by omega)⟩
      clear HF H5
      go_wp2_with fail
      refine end_world (F := fun U => Blk U (w.heap.size + 1 + 1) (jC ⟨t, d, 0, fun _ => ndZero⟩ ⟨k1, k2, none, 0, fun _ => ⟨none, 0, none, 0⟩⟩) 38 ∧ JPost w (newAns t d) (backCode t.n t.D t.now d) (.returned (.tuple #[jV ⟨t, d, 0, fun _ => ndZero⟩ ⟨k1, k2, none, 0, fun _ => ⟨none, 0, none, 0⟩⟩, .int .i64 0])) U) (HE.out _ rfl) ?_
      clear HE r0 r1 r2 r3 r4 r5 r6 g0 g1 g2 g3 g4 g5 g6 v0 v1 v2 v3 v4 v5 v6 f0 f1
      rintro U ⟨hr, hE⟩
      obtain ⟨e0, e1, e2, e3, e4, e5, e6⟩ := jC_cells hr
      exact bodyPost_ret (v := .tuple #[jV ⟨t, d, 0, fun _ => ndZero⟩ ⟨k1, k2, none, 0, fun _ => ⟨none, 0, none, 0⟩⟩, .int .i64 0]) (by unfold jV; simp [results, Tryz.results14, go_sem, e0, e1, e2, e3, e4, e5, e6]) rfl hE
    · have hpd : decide (0 < d.since) = false := by simp; omega
      have hNJ : newJb t d = ⟨trNone, d, 0, fun _ => ndZero⟩ := by unfold newJb; rw [if_pos (by omega)]
      have HE : Hid (∀ U, U = ((((((((w3.setCell ⟨w.heap.size + 1 + 1, 0, none⟩ (.slice none 0 0)).setCell ⟨w.heap.size + 1 + 1, 1, none⟩ (.int .i64 0)).setCell ⟨w.heap.size + 1 + 1, 2, none⟩ (.int .i64 d.since)).setCell ⟨w.heap.size + 1 + 1, 3, none⟩ (.int .i64 d.date)).setCell ⟨w.heap.size + 1 + 1, 4, none⟩ (.slice k2.lA d.ln k2.lc)).setCell ⟨w.heap.size + 1 + 1, 5, none⟩ (.slice k2.iA d.m k2.ic)).setCell ⟨w.heap.size + 1 + 1, 6, none⟩ (.slice none 0 0)).alloc (.cells #[.slice none 0 0, .int .i64 0, .int .i64 d.since, .int .i64 d.date, .slice k2.lA d.ln k2.lc, .slice k2.iA d.m k2.ic, .slice none 0 0] 38)) → Blk U (w.heap.size + 1 + 1) (jC ⟨trNone, d, 0, fun _ => ndZero⟩ ⟨⟨none, 0, fun _ => ⟨none, 0, none, 0⟩⟩, k2, none, 0, fun _ => ⟨none, 0, none, 0⟩⟩) 38 ∧ JPost w (newAns t d) (backCode t.n t.D t.now d) (.returned (.tuple #[jV ⟨trNone, d, 0, fun _ => ndZero⟩ ⟨⟨none, 0, fun _ => ⟨none, 0, none, 0⟩⟩, k2, none, 0, fun _ => ⟨none, 0, none, 0⟩⟩, .int .i64 0])) U) := fun U e => by
        subst e
        rw [HA.out, HZ.out, hNJ]
        have hno : ∀ (x : Tr) (y : TLoc), x.n = 0 → y.a = none → ∀ b, ¬ BkT x y b := by
          rintro x y hx hy b ⟨dd, hd, e⟩
          have : dd = 0 ∨ dd = 1 := by omega
          rcases this with rfl | rfl <;> simp [valT, Value.ownBlock, hy] at e
        have ho : OwnJb w3 (w.heap.size + 3) ⟨trNone, d, 0, fun _ => ndZero⟩ ⟨⟨none, 0, fun _ => ⟨none, 0, none, 0⟩⟩, k2, none, 0, fun _ => ⟨none, 0, none, 0⟩⟩ := ⟨OT.start _ _ _ _ _ _, H3.out.2, OT.start _ _ _ _ _ _, fun b e1 _ => hno _ _ rfl rfl b e1, fun b e1 _ => hno _ _ rfl rfl b e1, fun b _ e2 => hno _ _ rfl rfl b e2⟩
        have hb : Below w.heap.size w (((((((w3.setCell ⟨w.heap.size + 1 + 1, 0, none⟩ (.slice none 0 0)).setCell ⟨w.heap.size + 1 + 1, 1, none⟩ (.int .i64 0)).setCell ⟨w.heap.size + 1 + 1, 2, none⟩ (.int .i64 d.since)).setCell ⟨w.heap.size + 1 + 1, 3, none⟩ (.int .i64 d.date)).setCell ⟨w.heap.size + 1 + 1, 4, none⟩ (.slice k2.lA d.ln k2.lc)).setCell ⟨w.heap.size + 1 + 1, 5, none⟩ (.slice k2.iA d.m k2.ic)).setCell ⟨w.heap.size + 1 + 1, 6, none⟩ (.slice none 0 0)) := bel7 H3.out.1.bel (by omega) _ _ _ _ _ _ _
        exact ⟨(blk7 H3.out.1.r _ _ _ _ _ _ _).alloc _, hb.alloc hb.size _, _, rfl, ((jb7 ho (by omega) _ _ _ _ _ _ _).below ((Below.refl _ _).alloc (Nat.le_refl _) _)).lower (by omega)⟩
      clear hNJ
      go_wp2_with fail
      refine end_world (F := fun U => Blk U (w.heap.size + 1 + 1) (jC ⟨trNone, d, 0, fun _ => ndZero⟩ ⟨⟨none, 0, fun _ => ⟨none, 0, none, 0⟩⟩, k2, none, 0, fun _ => ⟨none, 0, none, 0⟩⟩) 38 ∧ JPost w (newAns t d) (backCode t.n t.D t.now d) (.returned (.tuple #[jV ⟨trNone, d, 0, fun _ => ndZero⟩ ⟨⟨none, 0, fun _ => ⟨none, 0, none, 0⟩⟩, k2, none, 0, fun _ => ⟨none, 0, none, 0⟩⟩, .int .i64 0])) U) (HE.out _ rfl) ?_
      clear HE r0 r1 r2 r3 r4 r5 r6 g0 g1 g2 g3 g4 g5 g6
      rintro U ⟨hr, hE⟩
      obtain ⟨e0, e1, e2, e3, e4, e5, e6⟩ := jC_cells hr
      exact bodyPost_ret (v := .tuple #[jV ⟨trNone, d, 0, fun _ => ndZero⟩ ⟨⟨none, 0, fun _ => ⟨none, 0, none, 0⟩⟩, k2, none, 0, fun _ => ⟨none, 0, none, 0⟩⟩, .int .i64 0]) (by unfold jV; simp [results, Tryz.results14, go_sem, e0, e1, e2, e3, e4, e5, e6]) rfl hE
  · have hzb : (backCode t.n t.D t.now d != 0) = true := by simp [hz]
    have HA : Hid (newAns t d = jbNone) := by show _ = _; unfold newAns; rw [if_neg hz]
    clear hz
    have HE : Hid (∀ U, U = ((((((((w1.setCell ⟨w.heap.size + 1 + 1, 0, none⟩ (.slice none 0 0)).setCell ⟨w.heap.size + 1 + 1, 1, none⟩ (.int .i64 0)).setCell ⟨w.heap.size + 1 + 1, 2, none⟩ (.int .i64 0)).setCell ⟨w.heap.size + 1 + 1, 3, none⟩ (.int .i64 0)).setCell ⟨w.heap.size + 1 + 1, 4, none⟩ (.slice none 0 0)).setCell ⟨w.heap.size + 1 + 1, 5, none⟩ (.slice none 0 0)).setCell ⟨w.heap.size + 1 + 1, 6, none⟩ (.slice none 0 0)).alloc (.cells #[.slice lr.a (backTr t d).n lr.c, .int .i64 (backTr t d).now] 33)) → Blk U (w.heap.size + 1 + 1) #[.slice none 0 0, .int .i64 0, .int .i64 0, .int .i64 0, .slice none 0 0, .slice none 0 0, .slice none 0 0] 38 ∧ JPost w (newAns t d) (backCode t.n t.D t.now d) (.returned (.tuple #[.agg #[.slice none 0 0, .int .i64 0, .int .i64 0, .int .i64 0, .slice none 0 0, .slice none 0 0, .slice none 0 0], .int .i64 (backCode t.n t.D t.now d)])) U) := fun U e => by
      subst e
      rw [HA.out]
      exact ⟨(blk7 H1.out.r _ _ _ _ _ _ _).alloc _, (bel7 H1.out.bel (by omega) _ _ _ _ _ _ _).alloc (bel7 H1.out.bel (by omega) _ _ _ _ _ _ _).size _, _, rfl, ownJb_none _ _⟩
    go_wp2_with fail
    refine end_world (F := fun U => Blk U (w.heap.size + 1 + 1) #[.slice none 0 0, .int .i64 0, .int .i64 0, .int .i64 0, .slice none 0 0, .slice none 0 0, .slice none 0 0] 38 ∧ JPost w (newAns t d) (backCode t.n t.D t.now d) (.returned (.tuple #[.agg #[.slice none 0 0, .int .i64 0, .int .i64 0, .int .i64 0, .slice none 0 0, .slice none 0 0, .slice none 0 0], .int .i64 (backCode t.n t.D t.now d)])) U) (HE.out _ rfl) ?_
    clear HE
    rintro U ⟨hr, hE⟩
    have e0 : U.cell? ⟨w.heap.size + 1 + 1, 0, none⟩ = some (.slice none 0 0) := hr.cell 0
    have e1 : U.cell? ⟨w.heap.size + 1 + 1, 1, none⟩ = some (.int .i64 0) := hr.cell 1
    have e2 : U.cell? ⟨w.heap.size + 1 + 1, 2, none⟩ = some (.int .i64 0) := hr.cell 2
    have e3 : U.cell? ⟨w.heap.size + 1 + 1, 3, none⟩ = some (.int .i64 0) := hr.cell 3
    have e4 : U.cell? ⟨w.heap.size + 1 + 1, 4, none⟩ = some (.slice none 0 0) := hr.cell 4
    have e5 : U.cell? ⟨w.heap.size + 1 + 1, 5, none⟩ = some (.slice none 0 0) := hr.cell 5
    have e6 : U.cell? ⟨w.heap.size + 1 + 1, 6, none⟩ = some (.slice none 0 0) := hr.cell 6
    exact bodyPost_ret (v := .tuple #[.agg #[.slice none 0 0, .int .i64 0, .int .i64 0, .int .i64 0, .slice none 0 0, .slice none 0 0, .slice none 0 0], .int .i64 (backCode t.n t.D t.now d)]) (by simp [results, Tryz.results14, go_sem, e0, e1, e2, e3, e4, e5, e6]) rfl hE
end Go.Proofs.YtakifcobofkheaaGreatDoor

/-
  What JobNew answers: one job and one code for both.
-/
namespace Go.Proofs.YtakifcobofkheaaGreatDoor
open Go.RowKit Go.Deep

theorem new_ans (t : Tr) (d : Dp) (ft : t.Fits) (fd : d.Fits) (hs : t.size + d.size ≤ 1048576) : ∃ (r : Jb) (z : Int), SmJb r ∧ ∀ w e w', JPost w (newAns t d) (backCode t.n t.D t.now d) e w' → Below w.heap.size w w' ∧ ∃ l, e = .returned (.tuple #[jV r l, .int .i64 z]) ∧ OwnJb w' w.heap.size r l :=
  ⟨newAns t d, backCode t.n t.D t.now d, newAns_small ft fd hs, fun _ _ _ h => h⟩

theorem specJobNew_law (t : Tr) (l : TLoc) (d : Dp) (k : DLoc) (w : World) (hT : TIn w t l) (hD : DpIn w d k) (ft : t.Fits) (fd : d.Fits) (hs : t.size + d.size ≤ 1048576) :
    Calls Tryz.prog 11 #[tV t l, dpV d k] w (JPost w (newAns t d) (backCode t.n t.D t.now d)) := specJobNew_any t l d k w hT hD ft fd hs

theorem implJobNew_law (t : Tr) (l : TLoc) (d : Dp) (k : DLoc) (w : World) (hE : ErrType w) (hT : TIn w t l) (hD : DpIn w d k) (ft : t.Fits) (fd : d.Fits) (hs : t.size + d.size ≤ 1048576) :
    Calls Tryz.prog 14 #[tV t l, dpV d k] w (JPost w (newAns t d) (backCode t.n t.D t.now d)) := implJobNew_any t l d k w hE hT hD ft fd hs
end Go.Proofs.YtakifcobofkheaaGreatDoor
