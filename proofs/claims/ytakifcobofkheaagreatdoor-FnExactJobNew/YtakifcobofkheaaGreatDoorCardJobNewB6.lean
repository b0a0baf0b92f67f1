/-
  JobNew of the program answers as its model in the specification does at every tree and everything kept that its reader can tell, every field; it writes into no argument, and its answer owns its memory. Under the card's condition: the listed variable of the library reads as it is laid.
-/
import Derived.Test.YtakifcobofkheaaGreatDoorCardJobNewB5
import Derived.Test.YtakifcobofkheaaGreatDoorRows
import Derived.ProofKit
import Derived.LaidMore
import Derived.LaidHandle
import Derived.OpenShut
import Derived.ShutString
import Derived.ChangeOld
import Derived.WalkSmall
import Derived.Stop.LaidErr
import Derived.Stop.Joined
import Derived.Test.YtakifcobofkheaaGreatDoorCards
import Derived.Test.YtakifcobofkheaaGreatDoorTie
import Derived.SevenTiedAt

/-
  FnExactJobNew, walked.
-/
namespace Go.Proofs.YtakifcobofkheaaGreatDoor
open Go.RowKit Go.Deep
set_option linter.unusedVariables false
set_option linter.unusedSimpArgs false
set_option linter.unnecessarySimpa false

/-- The boxes of the arguments. -/
structure AFJobNew (w : World) (x0 : Tr) (l0 : TLoc) (x1 : Dp) (l1 : DLoc) (W : World) : Prop where
  p0 : Blk W (w.heap.size) (tC x0 l0) 24
  p1 : Blk W (w.heap.size + 1) (pC x1 l1) 28
  bel : Below w.heap.size w W

section
variable {w : World} {x0 : Tr} {l0 : TLoc} {x1 : Dp} {l1 : DLoc} {W W' : World}

theorem AFJobNew.below (h : AFJobNew w x0 l0 x1 l1 W) (hb : Below W.heap.size W W') : AFJobNew w x0 l0 x1 l1 W' := ⟨h.p0.below hb h.p0.lt, h.p1.below hb h.p1.lt, h.bel.trans (hb.mono h.bel.size)⟩

theorem AFJobNew.cells (h : AFJobNew w x0 l0 x1 l1 W) : (W.cell? ⟨w.heap.size, 0, none⟩ = some (.slice l0.a x0.n l0.c) ∧ W.cell? ⟨w.heap.size, 1, none⟩ = some (.int .i64 x0.now)) ∧ W.cell? ⟨w.heap.size + 1, 0, none⟩ = some (.int .i64 x1.since) ∧ W.cell? ⟨w.heap.size + 1, 1, none⟩ = some (.int .i64 x1.date) ∧ W.cell? ⟨w.heap.size + 1, 2, none⟩ = some (.slice l1.lA x1.ln l1.lc) ∧ W.cell? ⟨w.heap.size + 1, 3, none⟩ = some (.slice l1.iA x1.m l1.ic) := ⟨tC_cells h.p0, pC_cells h.p1⟩
end

/-- What is known behind the calls. -/
structure FBJobNew (w w3 : World) (x0 : Tr) (l0 lx0 : TLoc) (x1 : Dp) (l1 lx1 : DLoc) (r : Jb) (lr lg : JLoc) (V b0 b1 bG : Nat) (W : World) : Prop where
  ds : AFJobNew w x0 l0 x1 l1 W
  base : Below w3.heap.size w3 W
  v : Blk W V (jC r lr) 38
  y0 : Blk W b0 (tC x0 lx0) 33
  y1 : Blk W b1 (pC x1 lx1) 36
  g : Blk W bG (jC r lg) 38
  wl : w.heap.size + 1 < w3.heap.size
  vl : V < w3.heap.size
  o0 : w3.heap.size ≤ b0
  o1 : b0 < b1
  oG : b1 < bG

section
variable {w w3 : World} {x0 : Tr} {l0 lx0 : TLoc} {x1 : Dp} {l1 lx1 : DLoc} {r : Jb} {lr lg : JLoc} {V b0 b1 bG : Nat} {W W' : World}
theorem FBJobNew.below (h : FBJobNew w w3 x0 l0 lx0 x1 l1 lx1 r lr lg V b0 b1 bG W) (hb : Below W.heap.size W W') : FBJobNew w w3 x0 l0 lx0 x1 l1 lx1 r lr lg V b0 b1 bG W' :=
  ⟨h.ds.below hb, h.base.trans (hb.mono h.base.size), h.v.below hb h.v.lt, h.y0.below hb h.y0.lt, h.y1.below hb h.y1.lt, h.g.below hb h.g.lt, h.wl, h.vl, h.o0, h.o1, h.oG⟩

theorem FBJobNew.drew (h : FBJobNew w w3 x0 l0 lx0 x1 l1 lx1 r lr lg V b0 b1 bG W) (q : Nat) : FBJobNew w w3 x0 l0 lx0 x1 l1 lx1 r lr lg V b0 b1 bG (W.drewN q) := h.below (below_drewN (Below.refl _ _) q)

theorem FBJobNew.fr (h : FBJobNew w w3 x0 l0 lx0 x1 l1 lx1 r lr lg V b0 b1 bG W) {B H : Nat} (hb : Fr B H W W') (hB : w3.heap.size ≤ B) (h0 : b0 < B ∨ H ≤ b0) (h1 : b1 < B ∨ H ≤ b1) (hG : bG < B ∨ H ≤ bG) : FBJobNew w w3 x0 l0 lx0 x1 l1 lx1 r lr lg V b0 b1 bG W' := by
  have hwl := h.wl
  have hvl := h.vl
  have key : ∀ {q : Nat} {cs : Array Value} {t : TypeId}, Blk W q cs t → q < B ∨ H ≤ q → Blk W' q cs t := fun hq e => hq.of_block (by
    rcases e with e | e
    · exact hb.bel.block _ e
    · exact hb.far _ e hq.lt)
  exact ⟨⟨key h.ds.p0 (Or.inl (by omega)), key h.ds.p1 (Or.inl (by omega)), h.ds.bel.trans (hb.bel.mono (by omega))⟩, h.base.trans (hb.bel.mono hB), key h.v (Or.inl (by omega)), key h.y0 h0, key h.y1 h1, key h.g hG, h.wl, h.vl, h.o0, h.o1, h.oG⟩
end

set_option maxRecDepth 100000 in
set_option maxHeartbeats 32000000 in
theorem lawJobNew (x0 : Tr) (l0 : TLoc) (x1 : Dp) (l1 : DLoc) (w : World) (hE : ErrType w) (hI0 : TIn w x0 l0) (hI1 : DpIn w x1 l1) (hf0 : x0.Fits) (hf1 : x1.Fits) :
    Calls Tryz.prog 3 #[tV x0 l0, dpV x1 l1] w fun r w' => r = .returned (.bool true) ∧ Below w.heap.size w w' := by
  unfold tV dpV
  go_enter Tryz.func3, Tryz.ntmps3
  go_wp2_with fail
  refine at_world (F := AFJobNew w x0 l0 x1 l1) ?_ ?_
  · exact ⟨(new2 w _ _ _ _).b0, (new2 w _ _ _ _).b1, (new2 w _ _ _ _).bel⟩
  rintro W hN
  refine (szTr x0 l0 _ W (hI0.below (Nat.le_refl _) hN.bel) hf0 (by omega) (by omega)).mono ?_
  rintro r0 ws0 ⟨hbs0, rr0, rfl, hra0, hrb0⟩
  have hN0 := hN.below hbs0
  clear hbs0 hN
  by_cases hrc0 : rr0 < 0
  · have hrd0 : decide (rr0 < 0) = true := by simp; omega
    have HB : Hid (Below w.heap.size w ws0) := hN0.bel
    clear hN0 hrb0
    go_wp2
    go_ret
    exact ⟨rfl, HB.out⟩
  · have hrd0 : decide (rr0 < 0) = false := by simp; omega
    have hsz0 := hrb0 (by omega)
    obtain ⟨⟨u0, u1⟩, u2, u3, u4, u5⟩ := hN0.cells
    have HBs0 : Hid (AFJobNew w x0 l0 x1 l1 ws0) := hN0
    clear hN0 hrb0
    go_wp2_with fail
    refine (szDp x1 l1 _ ws0 (hI1.below (Nat.le_refl _) HBs0.out.bel) hf1 (by omega) (by omega)).mono ?_
    rintro r0 ws1 ⟨hbs1, rr1, rfl, hra1, hrb1⟩
    have hN1 := HBs0.out.below hbs1
    clear hbs1 HBs0 u0 u1 u2 u3 u4 u5
    by_cases hrc1 : rr1 < 0
    · have hrd1 : decide (rr1 < 0) = true := by simp; omega
      have HB : Hid (Below w.heap.size w ws1) := hN1.bel
      clear hN1 hrb1
      go_wp2
      go_ret
      exact ⟨rfl, HB.out⟩
    · have hrd1 : decide (rr1 < 0) = false := by simp; omega
      have hsz1 := hrb1 (by omega)
      have HSZ : Hid (x0.size + x1.size ≤ 1048576) := by show _ ≤ _; omega
      have HSZ0 : Hid (x0.size ≤ 1048576) := by show _ ≤ _; omega
      have HSZ1 : Hid (x1.size ≤ 1048576) := by show _ ≤ _; omega
      have H2 : Hid (AFJobNew w x0 l0 x1 l1 ws1) := hN1
      obtain ⟨r, z, hsm, hans⟩ := new_ans x0 x1 hf0 hf1 HSZ.out
      have HANS : Hid _ := hans
      have HSM : Hid (SmJb r) := hsm
      clear hN1 hrb1 hsz0 hsz1 hans hsm
      go_wp2_with fail
      have HStp : Hid (∀ W', Below ws1.heap.size ws1 W' → (W'.cell? ⟨w.heap.size, 0, none⟩ = some (.slice l0.a x0.n l0.c) ∧ W'.cell? ⟨w.heap.size, 1, none⟩ = some (.int .i64 x0.now)) ∧ W'.cell? ⟨w.heap.size + 1, 0, none⟩ = some (.int .i64 x1.since) ∧ W'.cell? ⟨w.heap.size + 1, 1, none⟩ = some (.int .i64 x1.date) ∧ W'.cell? ⟨w.heap.size + 1, 2, none⟩ = some (.slice l1.lA x1.ln l1.lc) ∧ W'.cell? ⟨w.heap.size + 1, 3, none⟩ = some (.slice l1.iA x1.m l1.ic)) := fun W' hW => (H2.out.below hW).cells
      have HTop : Hid (∀ W', Below ws1.heap.size ws1 W' → (TIn W' x0 l0) ∧ DpIn W' x1 l1) := fun W' hW => ⟨hI0.below (Nat.le_refl _) (H2.out.below hW).bel, hI1.below (Nat.le_refl _) (H2.out.below hW).bel⟩
      apply wp_cn4 (X := TLoc) (Y := DLoc) (Z := JLoc) (U := Nat) (fun _ _ lr V W => Below ws1.heap.size ws1 W ∧ Blk W V (jC r lr) 38 ∧ JIn W r lr ∧ ws1.heap.size ≤ V)
      · intro key
        have KEY : Hid _ := key
        clear key
        refine wp_region_noPanic ?_
        have hB0 : Below ws1.heap.size ws1 ws1.drew := (Below.refl _ _).drew
        refine wp_region_peel (fun W' => (W'.cell? ⟨w.heap.size, 0, none⟩ = some (.slice l0.a x0.n l0.c) ∧ W'.cell? ⟨w.heap.size, 1, none⟩ = some (.int .i64 x0.now)) ∧ W'.cell? ⟨w.heap.size + 1, 0, none⟩ = some (.int .i64 x1.since) ∧ W'.cell? ⟨w.heap.size + 1, 1, none⟩ = some (.int .i64 x1.date) ∧ W'.cell? ⟨w.heap.size + 1, 2, none⟩ = some (.slice l1.lA x1.ln l1.lc) ∧ W'.cell? ⟨w.heap.size + 1, 3, none⟩ = some (.slice l1.iA x1.m l1.ic)) _ (by kernel_rfl) rfl (by kernel_rfl) ?_ (fun hHeld => ?_)
        · exact HStp.out _ hB0
        simp only [List.pop_toArray, List.dropLast, List.size_toArray, List.length_cons, List.length_nil, Nat.reduceAdd, Nat.reduceSub, List.getElem_toArray, List.getElem_cons_succ, List.getElem_cons_zero]
        refine peel_take (i := 0) (oi := ?oi0p) (v := ?v0p) (fun _ _ _ _ _ h => h) hHeld ?hi0p (by kernel_rfl) (by kernel_rfl) (by kernel_rfl) ?hw0p ?hy0p ?rest0p
        case hi0p =>
          simp only [List.getElem?_toArray, List.getElem?_cons_zero]
          rfl
        case hw0p => rfl
        case hy0p =>
          intro w hSw
          obtain ⟨⟨s0, s1⟩, s2, s3, s4, s5⟩ := hSw
          go_simp
          try with_reducible rfl
        try simp only [Act.put, List.setIfInBounds_toArray, List.set_cons_zero, List.set_cons_succ]
        refine peel_take (i := 2) (oi := ?oi2p) (v := ?v2p) (fun _ _ _ _ _ h => h) hHeld ?hi2p (by kernel_rfl) (by kernel_rfl) (by kernel_rfl) ?hw2p ?hy2p ?rest2p
        case hi2p =>
          simp only [List.getElem?_toArray, List.getElem?_cons_succ, List.getElem?_cons_zero]
          rfl
        case hw2p => rfl
        case hy2p =>
          intro w hSw
          obtain ⟨⟨s0, s1⟩, s2, s3, s4, s5⟩ := hSw
          go_simp
          try with_reducible rfl
        try simp only [Act.put, List.setIfInBounds_toArray, List.set_cons_zero, List.set_cons_succ]
        refine wpAnyH_ready (rs := [1, 8]) (by kernel_rfl) (by simp) ?_
        refine AllReadyH.cons (o := ?o1pq1a) ?ho1pq1a (fun K hK => ?st1pq1a) ?more1pq1a
        case ho1pq1a =>
          simp only [List.getElem?_toArray, List.getElem?_cons_succ, List.getElem?_cons_zero]
          rfl
        case st1pq1a =>
          go_simp
          refine (toTr x0 l0 _ (HTop.out _ hB0).1 HSZ0.out).mono ?_
          rintro e wpq1a ⟨lA0, rfl, hbc, hoc⟩
          unfold tV
          have hBpq1a : Below ws1.heap.size ws1 wpq1a := hB0.trans (hbc.mono hB0.size)
          have hlA0pq1a := hoc.tIn
          clear hbc hoc
          refine hK.out _ _ (HStp.out _ hBpq1a) (fun hHeld => ?_)
          clear hK K
          try simp only [Act.put, List.setIfInBounds_toArray, List.set_cons_zero, List.set_cons_succ]
          refine wpAnyH_ready (rs := [3, 8]) (by kernel_rfl) (by simp) ?_
          refine AllReadyH.cons (o := ?o3pq2a) ?ho3pq2a (fun K hK => ?st3pq2a) ?more3pq2a
          case ho3pq2a =>
            simp only [List.getElem?_toArray, List.getElem?_cons_succ, List.getElem?_cons_zero]
            rfl
          case st3pq2a =>
            go_simp
            refine (toDp x1 l1 _ (HTop.out _ hBpq1a).2 HSZ1.out).mono ?_
            rintro e wpq2a ⟨lA1, rfl, hbc, hoc⟩
            unfold dpV
            have hBpq2a : Below ws1.heap.size ws1 wpq2a := hBpq1a.trans (hbc.mono hBpq1a.size)
            have hlA1pq2a := hoc.tIn
            have hlA0pq2a := hlA0pq1a.below (Nat.le_refl _) hbc
            clear hbc hoc
            refine hK.out _ _ (HStp.out _ hBpq2a) (fun hHeld => ?_)
            clear hK K
            try simp only [Act.put, List.setIfInBounds_toArray, List.set_cons_zero, List.set_cons_succ]
            refine wpAnyH_ready (rs := [4, 8]) (by kernel_rfl) (by simp) ?_
            refine AllReadyH.cons (o := ?o4pq3a) ?ho4pq3a (fun K hK => ?st4pq3a) ?more4pq3a
            case ho4pq3a =>
              simp only [List.getElem?_toArray, List.getElem?_cons_succ, List.getElem?_cons_zero]
              rfl
            case st4pq3a =>
              go_simp
              refine (specJobNew_law x0 lA0 x1 lA1 _ hlA0pq2a hlA1pq2a hf0 hf1 HSZ.out).mono ?_
              intro e wpq3a hpost
              obtain ⟨hbc, lr, rfl, hodpq3a⟩ := HANS.out _ _ _ hpost
              unfold jV
              have hBpq3a : Below ws1.heap.size ws1 wpq3a := hBpq2a.trans (hbc.mono hBpq2a.size)
              clear hbc hpost
              refine hK.out _ _ (HStp.out _ hBpq3a) (fun hHeld => ?_)
              clear hK K
              try simp only [Act.put, List.setIfInBounds_toArray, List.set_cons_zero, List.set_cons_succ]
              refine peel_take (i := 5) (oi := ?oi5pq3a) (v := ?v5pq3a) (fun _ _ _ _ _ h => h) hHeld ?hi5pq3a (by kernel_rfl) (by kernel_rfl) (by kernel_rfl) ?hw5pq3a ?hy5pq3a ?rest5pq3a
              case hi5pq3a =>
                simp only [List.getElem?_toArray, List.getElem?_cons_succ, List.getElem?_cons_zero]
                rfl
              case hw5pq3a => rfl
              case hy5pq3a =>
                intro w hSw
                obtain ⟨⟨s0, s1⟩, s2, s3, s4, s5⟩ := hSw
                go_simp
                try with_reducible rfl
              try simp only [Act.put, List.setIfInBounds_toArray, List.set_cons_zero, List.set_cons_succ]
              refine peel_take (i := 6) (oi := ?oi6pq3a) (v := ?v6pq3a) (fun _ _ _ _ _ h => h) hHeld ?hi6pq3a (by kernel_rfl) (by kernel_rfl) (by kernel_rfl) ?hw6pq3a ?hy6pq3a ?rest6pq3a
              case hi6pq3a =>
                simp only [List.getElem?_toArray, List.getElem?_cons_succ, List.getElem?_cons_zero]
                rfl
              case hw6pq3a => rfl
              case hy6pq3a =>
                intro w hSw
                obtain ⟨⟨s0, s1⟩, s2, s3, s4, s5⟩ := hSw
                go_simp
                try with_reducible rfl
              try simp only [Act.put, List.setIfInBounds_toArray, List.set_cons_zero, List.set_cons_succ]
              refine peel_take (i := 7) (oi := ?oi7pq3a) (v := ?v7pq3a) (fun _ _ _ _ _ h => h) hHeld ?hi7pq3a (by kernel_rfl) (by kernel_rfl) (by kernel_rfl) ?hw7pq3a ?hy7pq3a ?rest7pq3a
              case hi7pq3a =>
                simp only [List.getElem?_toArray, List.getElem?_cons_succ, List.getElem?_cons_zero]
                rfl
              case hw7pq3a => rfl
              case hy7pq3a =>
                intro w hSw
                obtain ⟨⟨s0, s1⟩, s2, s3, s4, s5⟩ := hSw
                go_simp
                try with_reducible rfl
              try simp only [Act.put, List.setIfInBounds_toArray, List.set_cons_zero, List.set_cons_succ]
              refine wpAnyH_ready (rs := [8]) (by kernel_rfl) (by simp) ?_
              refine AllReadyH.cons (o := ?o8pq4a) ?ho8pq4a (fun K hK => ?st8pq4a) AllReadyH.nil
              case ho8pq4a =>
                simp only [List.getElem?_toArray, List.getElem?_cons_succ, List.getElem?_cons_zero]
                rfl
              go_simp
              have hBpq4a : Below ws1.heap.size ws1 (wpq3a.alloc (.cells #[.slice none 0 0, .int .i64 0, .int .i64 0, .int .i64 0, .slice none 0 0, .slice none 0 0, .slice none 0 0] 38)) := hBpq3a.alloc hBpq3a.size _
              have hvpq4a : Blk (wpq3a.alloc (.cells #[.slice none 0 0, .int .i64 0, .int .i64 0, .int .i64 0, .slice none 0 0, .slice none 0 0, .slice none 0 0] 38)) (wpq3a.heap.size) #[.slice none 0 0, .int .i64 0, .int .i64 0, .int .i64 0, .slice none 0 0, .slice none 0 0, .slice none 0 0] 38 := by
                have h := Blk.new wpq3a #[.slice none 0 0, .int .i64 0, .int .i64 0, .int .i64 0, .slice none 0 0, .slice none 0 0, .slice none 0 0] 38
                simpa using h
              have hVpq4a : ws1.heap.size ≤ wpq3a.heap.size := by
                have h := hBpq3a.size
                simpa using h
              have hlA0pq4a := hlA0pq2a.below (Nat.le_refl _) ((Below.refl _ _).alloc (Nat.le_refl _) (.cells #[.slice none 0 0, .int .i64 0, .int .i64 0, .int .i64 0, .slice none 0 0, .slice none 0 0, .slice none 0 0] 38))
              have hlA1pq4a := hlA1pq2a.below (Nat.le_refl _) ((Below.refl _ _).alloc (Nat.le_refl _) (.cells #[.slice none 0 0, .int .i64 0, .int .i64 0, .int .i64 0, .slice none 0 0, .slice none 0 0, .slice none 0 0] 38))
              refine hK.out _ _ (HStp.out _ hBpq4a) (fun hHeld => ?_)
              clear hK K
              try simp only [Act.put, List.setIfInBounds_toArray, List.set_cons_zero, List.set_cons_succ]
              refine wpAnyH_ready (rs := [9]) (by kernel_rfl) (by simp) ?_
              refine AllReadyH.cons (o := ?o9pq5a) ?ho9pq5a (fun K hK => ?st9pq5a) AllReadyH.nil
              case ho9pq5a =>
                simp only [List.getElem?_toArray, List.getElem?_cons_succ, List.getElem?_cons_zero]
                rfl
              have HS : Hid (∀ U, U = wpq3a.alloc (.cells (jC r lr) 38) → Below ws1.heap.size ws1 U ∧ Blk U (wpq3a.heap.size) (jC r lr) 38 ∧ JIn U r lr ∧ ws1.heap.size ≤ wpq3a.heap.size) := fun U e => by
                subst e
                exact ⟨hBpq3a.alloc hBpq3a.size _, Blk.new _ _ _, (hodpq3a.tIn).below (Nat.le_refl _) ((Below.refl _ _).alloc (Nat.le_refl _) _), hVpq4a⟩
              go_simp
              refine hK.out _ _ (HStp.out _ (HS.out _ rfl).1) (fun hHeld => ?_)
              clear hK K
              try simp only [Act.put, List.setIfInBounds_toArray, List.set_cons_zero, List.set_cons_succ]
              refine wpAnyH_done (by kernel_rfl) ?_ _
              show Oper.wp _ _ _ _ _ _
              go_simp
              generalize hV : wpq3a.heap.size = V
              exact NoPanic.normal (KEY.out lA0 lA1 lr V _ (by rw [← hV]; exact HS.out _ rfl))
            refine AllReadyH.cons (o := ?o8pq3b) ?ho8pq3b (fun K hK => ?st8pq3b) AllReadyH.nil
            case ho8pq3b =>
              simp only [List.getElem?_toArray, List.getElem?_cons_succ, List.getElem?_cons_zero]
              rfl
            go_simp
            have hBpq3b : Below ws1.heap.size ws1 (wpq2a.alloc (.cells #[.slice none 0 0, .int .i64 0, .int .i64 0, .int .i64 0, .slice none 0 0, .slice none 0 0, .slice none 0 0] 38)) := hBpq2a.alloc hBpq2a.size _
            have hvpq3b : Blk (wpq2a.alloc (.cells #[.slice none 0 0, .int .i64 0, .int .i64 0, .int .i64 0, .slice none 0 0, .slice none 0 0, .slice none 0 0] 38)) (wpq2a.heap.size) #[.slice none 0 0, .int .i64 0, .int .i64 0, .int .i64 0, .slice none 0 0, .slice none 0 0, .slice none 0 0] 38 := by
              have h := Blk.new wpq2a #[.slice none 0 0, .int .i64 0, .int .i64 0, .int .i64 0, .slice none 0 0, .slice none 0 0, .slice none 0 0] 38
              simpa using h
            have hVpq3b : ws1.heap.size ≤ wpq2a.heap.size := by
              have h := hBpq2a.size
              simpa using h
            have hlA0pq3b := hlA0pq2a.below (Nat.le_refl _) ((Below.refl _ _).alloc (Nat.le_refl _) (.cells #[.slice none 0 0, .int .i64 0, .int .i64 0, .int .i64 0, .slice none 0 0, .slice none 0 0, .slice none 0 0] 38))
            have hlA1pq3b := hlA1pq2a.below (Nat.le_refl _) ((Below.refl _ _).alloc (Nat.le_refl _) (.cells #[.slice none 0 0, .int .i64 0, .int .i64 0, .int .i64 0, .slice none 0 0, .slice none 0 0, .slice none 0 0] 38))
            refine hK.out _ _ (HStp.out _ hBpq3b) (fun hHeld => ?_)
            clear hK K
            try simp only [Act.put, List.setIfInBounds_toArray, List.set_cons_zero, List.set_cons_succ]
            refine wpAnyH_ready (rs := [4]) (by kernel_rfl) (by simp) ?_
            refine AllReadyH.cons (o := ?o4pq7a) ?ho4pq7a (fun K hK => ?st4pq7a) AllReadyH.nil
            case ho4pq7a =>
              simp only [List.getElem?_toArray, List.getElem?_cons_succ, List.getElem?_cons_zero]
              rfl
            go_simp
            refine (specJobNew_law x0 lA0 x1 lA1 _ hlA0pq3b hlA1pq3b hf0 hf1 HSZ.out).mono ?_
            intro e wpq7a hpost
            obtain ⟨hbc, lr, rfl, hodpq7a⟩ := HANS.out _ _ _ hpost
            unfold jV
            have hBpq7a : Below ws1.heap.size ws1 wpq7a := hBpq3b.trans (hbc.mono hBpq3b.size)
            have hvpq7a : Blk wpq7a (wpq2a.heap.size) #[.slice none 0 0, .int .i64 0, .int .i64 0, .int .i64 0, .slice none 0 0, .slice none 0 0, .slice none 0 0] 38 := hvpq3b.below hbc hvpq3b.lt
            have hltpq7a := hvpq3b.lt
            clear hbc hpost
            refine hK.out _ _ (HStp.out _ hBpq7a) (fun hHeld => ?_)
            clear hK K
            try simp only [Act.put, List.setIfInBounds_toArray, List.set_cons_zero, List.set_cons_succ]
            refine peel_take (i := 5) (oi := ?oi5pq7a) (v := ?v5pq7a) (fun _ _ _ _ _ h => h) hHeld ?hi5pq7a (by kernel_rfl) (by kernel_rfl) (by kernel_rfl) ?hw5pq7a ?hy5pq7a ?rest5pq7a
            case hi5pq7a =>
              simp only [List.getElem?_toArray, List.getElem?_cons_succ, List.getElem?_cons_zero]
              rfl
            case hw5pq7a => rfl
            case hy5pq7a =>
              intro w hSw
              obtain ⟨⟨s0, s1⟩, s2, s3, s4, s5⟩ := hSw
              go_simp
              try with_reducible rfl
            try simp only [Act.put, List.setIfInBounds_toArray, List.set_cons_zero, List.set_cons_succ]
            refine peel_take (i := 6) (oi := ?oi6pq7a) (v := ?v6pq7a) (fun _ _ _ _ _ h => h) hHeld ?hi6pq7a (by kernel_rfl) (by kernel_rfl) (by kernel_rfl) ?hw6pq7a ?hy6pq7a ?rest6pq7a
            case hi6pq7a =>
              simp only [List.getElem?_toArray, List.getElem?_cons_succ, List.getElem?_cons_zero]
              rfl
            case hw6pq7a => rfl
            case hy6pq7a =>
              intro w hSw
              obtain ⟨⟨s0, s1⟩, s2, s3, s4, s5⟩ := hSw
              go_simp
              try with_reducible rfl
            try simp only [Act.put, List.setIfInBounds_toArray, List.set_cons_zero, List.set_cons_succ]
            refine peel_take (i := 7) (oi := ?oi7pq7a) (v := ?v7pq7a) (fun _ _ _ _ _ h => h) hHeld ?hi7pq7a (by kernel_rfl) (by kernel_rfl) (by kernel_rfl) ?hw7pq7a ?hy7pq7a ?rest7pq7a
            case hi7pq7a =>
              simp only [List.getElem?_toArray, List.getElem?_cons_succ, List.getElem?_cons_zero]
              rfl
            case hw7pq7a => rfl
            case hy7pq7a =>
              intro w hSw
              obtain ⟨⟨s0, s1⟩, s2, s3, s4, s5⟩ := hSw
              go_simp
              try with_reducible rfl
            try simp only [Act.put, List.setIfInBounds_toArray, List.set_cons_zero, List.set_cons_succ]
            refine wpAnyH_ready (rs := [9]) (by kernel_rfl) (by simp) ?_
            refine AllReadyH.cons (o := ?o9pq8a) ?ho9pq8a (fun K hK => ?st9pq8a) AllReadyH.nil
            case ho9pq8a =>
              simp only [List.getElem?_toArray, List.getElem?_cons_succ, List.getElem?_cons_zero]
              rfl
            have z0 := hvpq7a.cell 0
            have z1 := hvpq7a.cell 1
            have z2 := hvpq7a.cell 2
            have z3 := hvpq7a.cell 3
            have z4 := hvpq7a.cell 4
            have z5 := hvpq7a.cell 5
            have z6 := hvpq7a.cell 6
            have f0 := hvpq7a.frozen 0
            have f1 := hvpq7a.frozen 1
            have f2 := hvpq7a.frozen 2
            have f3 := hvpq7a.frozen 3
            have f4 := hvpq7a.frozen 4
            have f5 := hvpq7a.frozen 5
            have f6 := hvpq7a.frozen 6
            simp at z0 z1 z2 z3 z4 z5 z6
            have HS : Hid (∀ U, U = (((((((wpq7a.setCell ⟨wpq2a.heap.size, 0, none⟩ (.slice lr.t.a r.t.n lr.t.c)).setCell ⟨wpq2a.heap.size, 1, none⟩ (.int .i64 r.t.now)).setCell ⟨wpq2a.heap.size, 2, none⟩ (.int .i64 r.d.since)).setCell ⟨wpq2a.heap.size, 3, none⟩ (.int .i64 r.d.date)).setCell ⟨wpq2a.heap.size, 4, none⟩ (.slice lr.d.lA r.d.ln lr.d.lc)).setCell ⟨wpq2a.heap.size, 5, none⟩ (.slice lr.d.iA r.d.m lr.d.ic)).setCell ⟨wpq2a.heap.size, 6, none⟩ (.slice lr.e r.q lr.f)) → Below ws1.heap.size ws1 U ∧ Blk U (wpq2a.heap.size) (jC r lr) 38 ∧ JIn U r lr ∧ ws1.heap.size ≤ wpq2a.heap.size) := fun U e => by
              subst e
              exact ⟨(bel_put (bel_put (bel_put (bel_put (bel_put (bel_put (bel_put hBpq7a _ hVpq3b) _ hVpq3b) _ hVpq3b) _ hVpq3b) _ hVpq3b) _ hVpq3b) _ hVpq3b), (((((((hvpq7a.set 0 _).set 1 _).set 2 _).set 3 _).set 4 _).set 5 _).set 6 _), ((((((((hodpq7a.put _ hltpq7a).put _ hltpq7a).put _ hltpq7a).put _ hltpq7a).put _ hltpq7a).put _ hltpq7a).put _ hltpq7a)).tIn, hVpq3b⟩
            go_simp
            refine hK.out _ _ (HStp.out _ (HS.out _ rfl).1) (fun hHeld => ?_)
            clear hK K
            try simp only [Act.put, List.setIfInBounds_toArray, List.set_cons_zero, List.set_cons_succ]
            refine wpAnyH_done (by kernel_rfl) ?_ _
            show Oper.wp _ _ _ _ _ _
            go_simp
            generalize hV : wpq2a.heap.size = V
            exact NoPanic.normal (KEY.out lA0 lA1 lr V _ (by rw [← hV]; exact HS.out _ rfl))
          refine AllReadyH.cons (o := ?o8pq2b) ?ho8pq2b (fun K hK => ?st8pq2b) AllReadyH.nil
          case ho8pq2b =>
            simp only [List.getElem?_toArray, List.getElem?_cons_succ, List.getElem?_cons_zero]
            rfl
          go_simp
          have hBpq2b : Below ws1.heap.size ws1 (wpq1a.alloc (.cells #[.slice none 0 0, .int .i64 0, .int .i64 0, .int .i64 0, .slice none 0 0, .slice none 0 0, .slice none 0 0] 38)) := hBpq1a.alloc hBpq1a.size _
          have hvpq2b : Blk (wpq1a.alloc (.cells #[.slice none 0 0, .int .i64 0, .int .i64 0, .int .i64 0, .slice none 0 0, .slice none 0 0, .slice none 0 0] 38)) (wpq1a.heap.size) #[.slice none 0 0, .int .i64 0, .int .i64 0, .int .i64 0, .slice none 0 0, .slice none 0 0, .slice none 0 0] 38 := by
            have h := Blk.new wpq1a #[.slice none 0 0, .int .i64 0, .int .i64 0, .int .i64 0, .slice none 0 0, .slice none 0 0, .slice none 0 0] 38
            simpa using h
          have hVpq2b : ws1.heap.size ≤ wpq1a.heap.size := by
            have h := hBpq1a.size
            simpa using h
          have hlA0pq2b := hlA0pq1a.below (Nat.le_refl _) ((Below.refl _ _).alloc (Nat.le_refl _) (.cells #[.slice none 0 0, .int .i64 0, .int .i64 0, .int .i64 0, .slice none 0 0, .slice none 0 0, .slice none 0 0] 38))
          refine hK.out _ _ (HStp.out _ hBpq2b) (fun hHeld => ?_)
          clear hK K
          try simp only [Act.put, List.setIfInBounds_toArray, List.set_cons_zero, List.set_cons_succ]
          refine wpAnyH_ready (rs := [3]) (by kernel_rfl) (by simp) ?_
          refine AllReadyH.cons (o := ?o3pq10a) ?ho3pq10a (fun K hK => ?st3pq10a) AllReadyH.nil
          case ho3pq10a =>
            simp only [List.getElem?_toArray, List.getElem?_cons_succ, List.getElem?_cons_zero]
            rfl
          go_simp
          refine (toDp x1 l1 _ (HTop.out _ hBpq2b).2 HSZ1.out).mono ?_
          rintro e wpq10a ⟨lA1, rfl, hbc, hoc⟩
          unfold dpV
          have hBpq10a : Below ws1.heap.size ws1 wpq10a := hBpq2b.trans (hbc.mono hBpq2b.size)
          have hlA1pq10a := hoc.tIn
          have hlA0pq10a := hlA0pq2b.below (Nat.le_refl _) hbc
          have hvpq10a : Blk wpq10a (wpq1a.heap.size) #[.slice none 0 0, .int .i64 0, .int .i64 0, .int .i64 0, .slice none 0 0, .slice none 0 0, .slice none 0 0] 38 := hvpq2b.below hbc hvpq2b.lt
          clear hbc hoc
          refine hK.out _ _ (HStp.out _ hBpq10a) (fun hHeld => ?_)
          clear hK K
          try simp only [Act.put, List.setIfInBounds_toArray, List.set_cons_zero, List.set_cons_succ]
          refine wpAnyH_ready (rs := [4]) (by kernel_rfl) (by simp) ?_
          refine AllReadyH.cons (o := ?o4pq11a) ?ho4pq11a (fun K hK => ?st4pq11a) AllReadyH.nil
          case ho4pq11a =>
            simp only [List.getElem?_toArray, List.getElem?_cons_succ, List.getElem?_cons_zero]
            rfl
          go_simp
          refine (specJobNew_law x0 lA0 x1 lA1 _ hlA0pq10a hlA1pq10a hf0 hf1 HSZ.out).mono ?_
          intro e wpq11a hpost
          obtain ⟨hbc, lr, rfl, hodpq11a⟩ := HANS.out _ _ _ hpost
          unfold jV
          have hBpq11a : Below ws1.heap.size ws1 wpq11a := hBpq10a.trans (hbc.mono hBpq10a.size)
          have hvpq11a : Blk wpq11a (wpq1a.heap.size) #[.slice none 0 0, .int .i64 0, .int .i64 0, .int .i64 0, .slice none 0 0, .slice none 0 0, .slice none 0 0] 38 := hvpq10a.below hbc hvpq10a.lt
          have hltpq11a := hvpq10a.lt
          clear hbc hpost
          refine hK.out _ _ (HStp.out _ hBpq11a) (fun hHeld => ?_)
          clear hK K
          try simp only [Act.put, List.setIfInBounds_toArray, List.set_cons_zero, List.set_cons_succ]
          refine peel_take (i := 5) (oi := ?oi5pq11a) (v := ?v5pq11a) (fun _ _ _ _ _ h => h) hHeld ?hi5pq11a (by kernel_rfl) (by kernel_rfl) (by kernel_rfl) ?hw5pq11a ?hy5pq11a ?rest5pq11a
          case hi5pq11a =>
            simp only [List.getElem?_toArray, List.getElem?_cons_succ, List.getElem?_cons_zero]
            rfl
          case hw5pq11a => rfl
          case hy5pq11a =>
            intro w hSw
            obtain ⟨⟨s0, s1⟩, s2, s3, s4, s5⟩ := hSw
            go_simp
            try with_reducible rfl
          try simp only [Act.put, List.setIfInBounds_toArray, List.set_cons_zero, List.set_cons_succ]
          refine peel_take (i := 6) (oi := ?oi6pq11a) (v := ?v6pq11a) (fun _ _ _ _ _ h => h) hHeld ?hi6pq11a (by kernel_rfl) (by kernel_rfl) (by kernel_rfl) ?hw6pq11a ?hy6pq11a ?rest6pq11a
          case hi6pq11a =>
            simp only [List.getElem?_toArray, List.getElem?_cons_succ, List.getElem?_cons_zero]
            rfl
          case hw6pq11a => rfl
          case hy6pq11a =>
            intro w hSw
            obtain ⟨⟨s0, s1⟩, s2, s3, s4, s5⟩ := hSw
            go_simp
            try with_reducible rfl
          try simp only [Act.put, List.setIfInBounds_toArray, List.set_cons_zero, List.set_cons_succ]
          refine peel_take (i := 7) (oi := ?oi7pq11a) (v := ?v7pq11a) (fun _ _ _ _ _ h => h) hHeld ?hi7pq11a (by kernel_rfl) (by kernel_rfl) (by kernel_rfl) ?hw7pq11a ?hy7pq11a ?rest7pq11a
          case hi7pq11a =>
            simp only [List.getElem?_toArray, List.getElem?_cons_succ, List.getElem?_cons_zero]
            rfl
          case hw7pq11a => rfl
          case hy7pq11a =>
            intro w hSw
            obtain ⟨⟨s0, s1⟩, s2, s3, s4, s5⟩ := hSw
            go_simp
            try with_reducible rfl
          try simp only [Act.put, List.setIfInBounds_toArray, List.set_cons_zero, List.set_cons_succ]
          refine wpAnyH_ready (rs := [9]) (by kernel_rfl) (by simp) ?_
          refine AllReadyH.cons (o := ?o9pq12a) ?ho9pq12a (fun K hK => ?st9pq12a) AllReadyH.nil
          case ho9pq12a =>
            simp only [List.getElem?_toArray, List.getElem?_cons_succ, List.getElem?_cons_zero]
            rfl
          have z0 := hvpq11a.cell 0
          have z1 := hvpq11a.cell 1
          have z2 := hvpq11a.cell 2
          have z3 := hvpq11a.cell 3
          have z4 := hvpq11a.cell 4
          have z5 := hvpq11a.cell 5
          have z6 := hvpq11a.cell 6
          have f0 := hvpq11a.frozen 0
          have f1 := hvpq11a.frozen 1
          have f2 := hvpq11a.frozen 2
          have f3 := hvpq11a.frozen 3
          have f4 := hvpq11a.frozen 4
          have f5 := hvpq11a.frozen 5
          have f6 := hvpq11a.frozen 6
          simp at z0 z1 z2 z3 z4 z5 z6
          have HS : Hid (∀ U, U = (((((((wpq11a.setCell ⟨wpq1a.heap.size, 0, none⟩ (.slice lr.t.a r.t.n lr.t.c)).setCell ⟨wpq1a.heap.size, 1, none⟩ (.int .i64 r.t.now)).setCell ⟨wpq1a.heap.size, 2, none⟩ (.int .i64 r.d.since)).setCell ⟨wpq1a.heap.size, 3, none⟩ (.int .i64 r.d.date)).setCell ⟨wpq1a.heap.size, 4, none⟩ (.slice lr.d.lA r.d.ln lr.d.lc)).setCell ⟨wpq1a.heap.size, 5, none⟩ (.slice lr.d.iA r.d.m lr.d.ic)).setCell ⟨wpq1a.heap.size, 6, none⟩ (.slice lr.e r.q lr.f)) → Below ws1.heap.size ws1 U ∧ Blk U (wpq1a.heap.size) (jC r lr) 38 ∧ JIn U r lr ∧ ws1.heap.size ≤ wpq1a.heap.size) := fun U e => by
            subst e
            exact ⟨(bel_put (bel_put (bel_put (bel_put (bel_put (bel_put (bel_put hBpq11a _ hVpq2b) _ hVpq2b) _ hVpq2b) _ hVpq2b) _ hVpq2b) _ hVpq2b) _ hVpq2b), (((((((hvpq11a.set 0 _).set 1 _).set 2 _).set 3 _).set 4 _).set 5 _).set 6 _), ((((((((hodpq11a.put _ hltpq11a).put _ hltpq11a).put _ hltpq11a).put _ hltpq11a).put _ hltpq11a).put _ hltpq11a).put _ hltpq11a)).tIn, hVpq2b⟩
          go_simp
          refine hK.out _ _ (HStp.out _ (HS.out _ rfl).1) (fun hHeld => ?_)
          clear hK K
          try simp only [Act.put, List.setIfInBounds_toArray, List.set_cons_zero, List.set_cons_succ]
          refine wpAnyH_done (by kernel_rfl) ?_ _
          show Oper.wp _ _ _ _ _ _
          go_simp
          generalize hV : wpq1a.heap.size = V
          exact NoPanic.normal (KEY.out lA0 lA1 lr V _ (by rw [← hV]; exact HS.out _ rfl))
        refine AllReadyH.cons (o := ?o8pq1b) ?ho8pq1b (fun K hK => ?st8pq1b) AllReadyH.nil
        case ho8pq1b =>
          simp only [List.getElem?_toArray, List.getElem?_cons_succ, List.getElem?_cons_zero]
          rfl
        go_simp
        have hBpq1b : Below ws1.heap.size ws1 (ws1.drew.alloc (.cells #[.slice none 0 0, .int .i64 0, .int .i64 0, .int .i64 0, .slice none 0 0, .slice none 0 0, .slice none 0 0] 38)) := hB0.alloc hB0.size _
        have hvpq1b : Blk (ws1.drew.alloc (.cells #[.slice none 0 0, .int .i64 0, .int .i64 0, .int .i64 0, .slice none 0 0, .slice none 0 0, .slice none 0 0] 38)) (ws1.heap.size) #[.slice none 0 0, .int .i64 0, .int .i64 0, .int .i64 0, .slice none 0 0, .slice none 0 0, .slice none 0 0] 38 := by
          have h := Blk.new ws1.drew #[.slice none 0 0, .int .i64 0, .int .i64 0, .int .i64 0, .slice none 0 0, .slice none 0 0, .slice none 0 0] 38
          simpa using h
        have hVpq1b : ws1.heap.size ≤ ws1.heap.size := by
          have h := hB0.size
          simpa using h
        refine hK.out _ _ (HStp.out _ hBpq1b) (fun hHeld => ?_)
        clear hK K
        try simp only [Act.put, List.setIfInBounds_toArray, List.set_cons_zero, List.set_cons_succ]
        refine wpAnyH_ready (rs := [1]) (by kernel_rfl) (by simp) ?_
        refine AllReadyH.cons (o := ?o1pq14a) ?ho1pq14a (fun K hK => ?st1pq14a) AllReadyH.nil
        case ho1pq14a =>
          simp only [List.getElem?_toArray, List.getElem?_cons_succ, List.getElem?_cons_zero]
          rfl
        go_simp
        refine (toTr x0 l0 _ (HTop.out _ hBpq1b).1 HSZ0.out).mono ?_
        rintro e wpq14a ⟨lA0, rfl, hbc, hoc⟩
        unfold tV
        have hBpq14a : Below ws1.heap.size ws1 wpq14a := hBpq1b.trans (hbc.mono hBpq1b.size)
        have hlA0pq14a := hoc.tIn
        have hvpq14a : Blk wpq14a (ws1.heap.size) #[.slice none 0 0, .int .i64 0, .int .i64 0, .int .i64 0, .slice none 0 0, .slice none 0 0, .slice none 0 0] 38 := hvpq1b.below hbc hvpq1b.lt
        clear hbc hoc
        refine hK.out _ _ (HStp.out _ hBpq14a) (fun hHeld => ?_)
        clear hK K
        try simp only [Act.put, List.setIfInBounds_toArray, List.set_cons_zero, List.set_cons_succ]
        refine wpAnyH_ready (rs := [3]) (by kernel_rfl) (by simp) ?_
        refine AllReadyH.cons (o := ?o3pq15a) ?ho3pq15a (fun K hK => ?st3pq15a) AllReadyH.nil
        case ho3pq15a =>
          simp only [List.getElem?_toArray, List.getElem?_cons_succ, List.getElem?_cons_zero]
          rfl
        go_simp
        refine (toDp x1 l1 _ (HTop.out _ hBpq14a).2 HSZ1.out).mono ?_
        rintro e wpq15a ⟨lA1, rfl, hbc, hoc⟩
        unfold dpV
        have hBpq15a : Below ws1.heap.size ws1 wpq15a := hBpq14a.trans (hbc.mono hBpq14a.size)
        have hlA1pq15a := hoc.tIn
        have hlA0pq15a := hlA0pq14a.below (Nat.le_refl _) hbc
        have hvpq15a : Blk wpq15a (ws1.heap.size) #[.slice none 0 0, .int .i64 0, .int .i64 0, .int .i64 0, .slice none 0 0, .slice none 0 0, .slice none 0 0] 38 := hvpq14a.below hbc hvpq14a.lt
        clear hbc hoc
        refine hK.out _ _ (HStp.out _ hBpq15a) (fun hHeld => ?_)
        clear hK K
        try simp only [Act.put, List.setIfInBounds_toArray, List.set_cons_zero, List.set_cons_succ]
        refine wpAnyH_ready (rs := [4]) (by kernel_rfl) (by simp) ?_
        refine AllReadyH.cons (o := ?o4pq16a) ?ho4pq16a (fun K hK => ?st4pq16a) AllReadyH.nil
        case ho4pq16a =>
          simp only [List.getElem?_toArray, List.getElem?_cons_succ, List.getElem?_cons_zero]
          rfl
        go_simp
        refine (specJobNew_law x0 lA0 x1 lA1 _ hlA0pq15a hlA1pq15a hf0 hf1 HSZ.out).mono ?_
        intro e wpq16a hpost
        obtain ⟨hbc, lr, rfl, hodpq16a⟩ := HANS.out _ _ _ hpost
        unfold jV
        have hBpq16a : Below ws1.heap.size ws1 wpq16a := hBpq15a.trans (hbc.mono hBpq15a.size)
        have hvpq16a : Blk wpq16a (ws1.heap.size) #[.slice none 0 0, .int .i64 0, .int .i64 0, .int .i64 0, .slice none 0 0, .slice none 0 0, .slice none 0 0] 38 := hvpq15a.below hbc hvpq15a.lt
        have hltpq16a := hvpq15a.lt
        clear hbc hpost
        refine hK.out _ _ (HStp.out _ hBpq16a) (fun hHeld => ?_)
        clear hK K
        try simp only [Act.put, List.setIfInBounds_toArray, List.set_cons_zero, List.set_cons_succ]
        refine peel_take (i := 5) (oi := ?oi5pq16a) (v := ?v5pq16a) (fun _ _ _ _ _ h => h) hHeld ?hi5pq16a (by kernel_rfl) (by kernel_rfl) (by kernel_rfl) ?hw5pq16a ?hy5pq16a ?rest5pq16a
        case hi5pq16a =>
          simp only [List.getElem?_toArray, List.getElem?_cons_succ, List.getElem?_cons_zero]
          rfl
        case hw5pq16a => rfl
        case hy5pq16a =>
          intro w hSw
          obtain ⟨⟨s0, s1⟩, s2, s3, s4, s5⟩ := hSw
          go_simp
          try with_reducible rfl
        try simp only [Act.put, List.setIfInBounds_toArray, List.set_cons_zero, List.set_cons_succ]
        refine peel_take (i := 6) (oi := ?oi6pq16a) (v := ?v6pq16a) (fun _ _ _ _ _ h => h) hHeld ?hi6pq16a (by kernel_rfl) (by kernel_rfl) (by kernel_rfl) ?hw6pq16a ?hy6pq16a ?rest6pq16a
        case hi6pq16a =>
          simp only [List.getElem?_toArray, List.getElem?_cons_succ, List.getElem?_cons_zero]
          rfl
        case hw6pq16a => rfl
        case hy6pq16a =>
          intro w hSw
          obtain ⟨⟨s0, s1⟩, s2, s3, s4, s5⟩ := hSw
          go_simp
          try with_reducible rfl
        try simp only [Act.put, List.setIfInBounds_toArray, List.set_cons_zero, List.set_cons_succ]
        refine peel_take (i := 7) (oi := ?oi7pq16a) (v := ?v7pq16a) (fun _ _ _ _ _ h => h) hHeld ?hi7pq16a (by kernel_rfl) (by kernel_rfl) (by kernel_rfl) ?hw7pq16a ?hy7pq16a ?rest7pq16a
        case hi7pq16a =>
          simp only [List.getElem?_toArray, List.getElem?_cons_succ, List.getElem?_cons_zero]
          rfl
        case hw7pq16a => rfl
        case hy7pq16a =>
          intro w hSw
          obtain ⟨⟨s0, s1⟩, s2, s3, s4, s5⟩ := hSw
          go_simp
          try with_reducible rfl
        try simp only [Act.put, List.setIfInBounds_toArray, List.set_cons_zero, List.set_cons_succ]
        refine wpAnyH_ready (rs := [9]) (by kernel_rfl) (by simp) ?_
        refine AllReadyH.cons (o := ?o9pq17a) ?ho9pq17a (fun K hK => ?st9pq17a) AllReadyH.nil
        case ho9pq17a =>
          simp only [List.getElem?_toArray, List.getElem?_cons_succ, List.getElem?_cons_zero]
          rfl
        have z0 := hvpq16a.cell 0
        have z1 := hvpq16a.cell 1
        have z2 := hvpq16a.cell 2
        have z3 := hvpq16a.cell 3
        have z4 := hvpq16a.cell 4
        have z5 := hvpq16a.cell 5
        have z6 := hvpq16a.cell 6
        have f0 := hvpq16a.frozen 0
        have f1 := hvpq16a.frozen 1
        have f2 := hvpq16a.frozen 2
        have f3 := hvpq16a.frozen 3
        have f4 := hvpq16a.frozen 4
        have f5 := hvpq16a.frozen 5
        have f6 := hvpq16a.frozen 6
        simp at z0 z1 z2 z3 z4 z5 z6
        have HS : Hid (∀ U, U = (((((((wpq16a.setCell ⟨ws1.heap.size, 0, none⟩ (.slice lr.t.a r.t.n lr.t.c)).setCell ⟨ws1.heap.size, 1, none⟩ (.int .i64 r.t.now)).setCell ⟨ws1.heap.size, 2, none⟩ (.int .i64 r.d.since)).setCell ⟨ws1.heap.size, 3, none⟩ (.int .i64 r.d.date)).setCell ⟨ws1.heap.size, 4, none⟩ (.slice lr.d.lA r.d.ln lr.d.lc)).setCell ⟨ws1.heap.size, 5, none⟩ (.slice lr.d.iA r.d.m lr.d.ic)).setCell ⟨ws1.heap.size, 6, none⟩ (.slice lr.e r.q lr.f)) → Below ws1.heap.size ws1 U ∧ Blk U (ws1.heap.size) (jC r lr) 38 ∧ JIn U r lr ∧ ws1.heap.size ≤ ws1.heap.size) := fun U e => by
          subst e
          exact ⟨(bel_put (bel_put (bel_put (bel_put (bel_put (bel_put (bel_put hBpq16a _ hVpq1b) _ hVpq1b) _ hVpq1b) _ hVpq1b) _ hVpq1b) _ hVpq1b) _ hVpq1b), (((((((hvpq16a.set 0 _).set 1 _).set 2 _).set 3 _).set 4 _).set 5 _).set 6 _), ((((((((hodpq16a.put _ hltpq16a).put _ hltpq16a).put _ hltpq16a).put _ hltpq16a).put _ hltpq16a).put _ hltpq16a).put _ hltpq16a)).tIn, hVpq1b⟩
        go_simp
        refine hK.out _ _ (HStp.out _ (HS.out _ rfl).1) (fun hHeld => ?_)
        clear hK K
        try simp only [Act.put, List.setIfInBounds_toArray, List.set_cons_zero, List.set_cons_succ]
        refine wpAnyH_done (by kernel_rfl) ?_ _
        show Oper.wp _ _ _ _ _ _
        go_simp
        generalize hV : ws1.heap.size = V
        exact NoPanic.normal (KEY.out lA0 lA1 lr V _ (by rw [← hV]; exact HS.out _ rfl))
      · intro lq0 lq1 lr V W3 h3
        obtain ⟨hb3, hv3, hi3, hVge⟩ := h3
        have H3 : Hid (AFJobNew w x0 l0 x1 l1 W3 ∧ Blk W3 V (jC r lr) 38) := ⟨H2.out.below hb3, hv3⟩
        have HI3 : Hid (JIn W3 r lr) := hi3
        have hVl := hv3.lt
        have hwl : w.heap.size + 1 < W3.heap.size := H3.out.1.p1.lt
        clear hb3 hv3 hi3 H2 HStp HTop hVge
        obtain ⟨⟨u0, u1⟩, u2, u3, u4, u5⟩ := H3.out.1.cells
        go_wp2_with fail
        refine (toTr x0 l0 W3 (hI0.below (Nat.le_refl _) H3.out.1.bel) HSZ0.out).mono ?_
        rintro e wc0 ⟨lx0, rfl, hbc, hoc⟩
        unfold tV
        have HC0 : Hid (AFJobNew w x0 l0 x1 l1 wc0 ∧ Below W3.heap.size W3 wc0 ∧ OwnTr wc0 W3.heap.size x0 lx0) := ⟨H3.out.1.below hbc, hbc, hoc⟩
        have HT0 : Hid (TopTr x0 lx0 wc0.heap.size) := hoc.top
        have hlc0 : W3.heap.size ≤ wc0.heap.size := hbc.size
        have hbx0_0 : w.heap.size < wc0.heap.size := by omega
        have hbx0_1 : w.heap.size + 1 < wc0.heap.size := by omega
        clear hbc hoc u0 u1 u2 u3 u4 u5
        obtain ⟨⟨u0, u1⟩, u2, u3, u4, u5⟩ := HC0.out.1.cells
        go_wp2_with fail
        refine at_world (F := New1 wc0 (tC x0 lx0) 33) (new1 wc0 _ _) ?_
        rintro Wd0 ⟨hvd, hbd, hsd⟩
        have hdsd := HC0.out.1.below hbd
        refine (toDp x1 l1 Wd0 (hI1.below (Nat.le_refl _) hdsd.bel) HSZ1.out).mono ?_
        rintro e wc1 ⟨lx1, rfl, hbc, hoc⟩
        unfold dpV
        have hbw : Below wc0.heap.size wc0 wc1 := hbd.trans (hbc.mono (by omega))
        have HC1 : Hid (AFJobNew w x0 l0 x1 l1 wc1 ∧ Below W3.heap.size W3 wc1 ∧ OwnTr wc1 W3.heap.size x0 lx0 ∧ Blk wc1 wc0.heap.size (tC x0 lx0) 33 ∧ OwnDp wc1 Wd0.heap.size x1 lx1) := ⟨hdsd.below hbc, HC0.out.2.1.trans (hbw.mono (by omega)), HC0.out.2.2.below hbw, hvd.below hbc (by omega), hoc⟩
        have HT1 : Hid (TopDp x1 lx1 wc1.heap.size) := hoc.top
        have hsd0 : Wd0.heap.size = wc0.heap.size + 1 := hsd
        have hlc1 : wc0.heap.size < wc1.heap.size := by have := hbc.size; omega
        have hsf1 : Wd0.heap.size ≤ wc1.heap.size := hbc.size
        have hnc1 : wc0.heap.size ≠ wc1.heap.size := by omega
        have hbx1_0 : w.heap.size < wc1.heap.size := by omega
        have hbx1_1 : w.heap.size + 1 < wc1.heap.size := by omega
        clear hvd hbd hsd hdsd hbc hoc hbw HC0 u0 u1 u2 u3 u4 u5
        have HD0 : Hid (Wd0.heap.size = wc0.heap.size + 1) := hsd0
        have hse0 : wc0.heap.size < Wd0.heap.size := by omega
        clear hsd0
        obtain ⟨q0_0, q0_1⟩ := tC_cells HC1.out.2.2.2.1
        go_wp2_with fail
        refine at_world (F := New1 wc1 (pC x1 lx1) 36) (new1 wc1 _ _) ?_
        rintro WG ⟨hvd, hbd, hsd⟩
        refine (implJobNew_law x0 lx0 x1 lx1 WG (hE.bel (HC1.out.1.bel.trans (hbd.mono HC1.out.1.bel.size))) (HC1.out.2.2.1.below hbd).tIn (HC1.out.2.2.2.2.below hbd).tIn hf0 hf1 HSZ.out).mono ?_
        intro e wg hpost
        obtain ⟨hbc, lg, rfl, hog⟩ := HANS.out _ _ _ hpost
        unfold jV
        have hbw : Below wc1.heap.size wc1 wg := hbd.trans (hbc.mono (by omega))
        have hb3 : Below W3.heap.size W3 wg := HC1.out.2.1.trans (hbw.mono (by omega))
        have HTG : Hid (TopJb r lg wg.heap.size) := hog.top
        have hlg : wc1.heap.size < wg.heap.size := by have := hbc.size; omega
        have hVg : V < wg.heap.size := by omega
        have hVn : V ≠ wg.heap.size := by omega
        have hseG : wc1.heap.size < WG.heap.size := by omega
        have hseH : WG.heap.size ≤ wg.heap.size := hbc.size
        have HG : Hid (AFJobNew w x0 l0 x1 l1 wg ∧ Below W3.heap.size W3 wg ∧ Blk wg V (jC r lr) 38 ∧ OwnTr wg W3.heap.size x0 lx0 ∧ Blk wg wc0.heap.size (tC x0 lx0) 33 ∧ OwnDp wg Wd0.heap.size x1 lx1 ∧ Blk wg wc1.heap.size (pC x1 lx1) 36 ∧ OwnJb wg WG.heap.size r lg) := ⟨HC1.out.1.below hbw, hb3, H3.out.2.below hb3 hVl, HC1.out.2.2.1.below hbw, HC1.out.2.2.2.1.below hbw HC1.out.2.2.2.1.lt, HC1.out.2.2.2.2.below hbw, hvd.below hbc (by omega), hog⟩
        clear hvd hbd hsd hbc hog hbw hb3 hpost HC1 q0_0 q0_1
        have hne : (z != z) = false := by simp
        obtain ⟨z0, z1, z2, z3, z4, z5, z6⟩ := jC_cells HG.out.2.2.1
        go_wp2_with fail
        clear z0 z1 z2 z3 z4 z5 z6
        have HF9 : Hid (∀ W9, W9 = wg.alloc (.cells (jC r lg) 38) → FBJobNew w W3 x0 l0 lx0 x1 l1 lx1 r lr lg V wc0.heap.size wc1.heap.size wg.heap.size W9 ∧ OwnTr W9 W3.heap.size x0 lx0 ∧ OwnDp W9 Wd0.heap.size x1 lx1 ∧ OwnJb W9 WG.heap.size r lg) := fun W9 e => by
          obtain ⟨hvG, hb9, hs9⟩ := new1 wg (jC r lg) 38
          rw [← e] at hvG hb9
          obtain ⟨e1, e2, e3, o0, y0, o1, y1, eg⟩ := HG.out
          exact ⟨⟨e1.below hb9, e2.trans (hb9.mono (by omega)), e3.below hb9 hVg, y0.below hb9 y0.lt, y1.below hb9 y1.lt, hvG, by omega, hVl, by omega, by omega, by omega⟩, o0.below hb9, o1.below hb9, eg.below hb9⟩
        refine at_world (F := fun W9 => FBJobNew w W3 x0 l0 lx0 x1 l1 lx1 r lr lg V wc0.heap.size wc1.heap.size wg.heap.size W9 ∧ OwnTr W9 W3.heap.size x0 lx0 ∧ OwnDp W9 Wd0.heap.size x1 lx1 ∧ OwnJb W9 WG.heap.size r lg) (HF9.out _ rfl) ?_
        clear HF9 HG H3
        rintro W9 ⟨hF9, hx0, hx1, hg9⟩
        refine (eqJb r r lg lr W9 hg9.tIn (HI3.out.below (Nat.le_refl _) hF9.base) HSM.out.fits HSM.out.fits).mono ?_
        rintro e v0 ⟨hb, rfl⟩
        rw [Jb.same_self]
        have HA0 : Hid (FBJobNew w W3 x0 l0 lx0 x1 l1 lx1 r lr lg V wc0.heap.size wc1.heap.size wg.heap.size v0 ∧ OwnTr v0 W3.heap.size x0 lx0 ∧ OwnDp v0 Wd0.heap.size x1 lx1 ∧ OwnJb v0 WG.heap.size r lg) := ⟨hF9.below hb, hx0.below hb, hx1.below hb, hg9.below hb⟩
        clear hF9 hx0 hx1 hg9 hb
        obtain ⟨⟨u0, u1⟩, u2, u3, u4, u5⟩ := HA0.out.1.ds.cells
        obtain ⟨xx0, xx1⟩ := tC_cells HA0.out.1.y0
        go_wp2_with fail
        apply wp_cn1 (X := TLoc) (fun _ W => FBJobNew w W3 x0 l0 lx0 x1 l1 lx1 r lr lg V wc0.heap.size wc1.heap.size wg.heap.size W ∧ OwnTr W W3.heap.size x0 lx0 ∧ OwnDp W Wd0.heap.size x1 lx1 ∧ OwnJb W WG.heap.size r lg)
        · intro key
          have KEY : Hid _ := key
          clear key
          go_region_with (first
            | (go_at_call 12
               refine (toTr x0 l0 (v0.drewN 1) (hI0.below (Nat.le_refl _) (HA0.out.1.drew 1).ds.bel) HSZ0.out).mono ?_
               rintro e wr0 ⟨lw0, rfl, hbr, hor⟩
               unfold tV
               have hFr := (HA0.out.1.drew 1).below hbr
               have hXr := (HA0.out.2.1.below (below_drewN (Below.refl _ _) 1)).below hbr
               obtain ⟨yy0, yy1⟩ := tC_cells hFr.y0)
            | (go_at_call 16
               refine (eqTr x0 x0 lx0 lw0 wr0 hXr.tIn hor.tIn hf0 hf0).mono ?_
               rintro e we0 ⟨hbe, rfl⟩
               rw [Tr.same_self]))
          all_goals exact KEY.out lw0 we0 ⟨hFr.below hbe, hXr.below hbe, ((HA0.out.2.2.1.below (below_drewN (Below.refl _ _) 1)).below hbr).below hbe, ((HA0.out.2.2.2.below (below_drewN (Below.refl _ _) 1)).below hbr).below hbe⟩
        · intro lw0 v1 hF
          have HA1 : Hid (FBJobNew w W3 x0 l0 lx0 x1 l1 lx1 r lr lg V wc0.heap.size wc1.heap.size wg.heap.size v1 ∧ OwnTr v1 W3.heap.size x0 lx0 ∧ OwnDp v1 Wd0.heap.size x1 lx1 ∧ OwnJb v1 WG.heap.size r lg) := hF
          clear hF HA0 u0 u1 u2 u3 u4 u5 xx0 xx1
          obtain ⟨⟨u0, u1⟩, u2, u3, u4, u5⟩ := HA1.out.1.ds.cells
          obtain ⟨xx0, xx1, xx2, xx3⟩ := pC_cells HA1.out.1.y1
          go_wp2_with fail
          apply wp_cn1 (X := DLoc) (fun _ W => FBJobNew w W3 x0 l0 lx0 x1 l1 lx1 r lr lg V wc0.heap.size wc1.heap.size wg.heap.size W ∧ OwnTr W W3.heap.size x0 lx0 ∧ OwnDp W Wd0.heap.size x1 lx1 ∧ OwnJb W WG.heap.size r lg)
          · intro key
            have KEY : Hid _ := key
            clear key
            go_region_with (first
              | (go_at_call 13
                 refine (toDp x1 l1 (v1.drewN 1) (hI1.below (Nat.le_refl _) (HA1.out.1.drew 1).ds.bel) HSZ1.out).mono ?_
                 rintro e wr1 ⟨lw1, rfl, hbr, hor⟩
                 unfold dpV
                 have hFr := (HA1.out.1.drew 1).below hbr
                 have hXr := (HA1.out.2.2.1.below (below_drewN (Below.refl _ _) 1)).below hbr
                 obtain ⟨yy0, yy1, yy2, yy3⟩ := pC_cells hFr.y1)
              | (go_at_call 17
                 refine (eqDp x1 x1 lx1 lw1 wr1 hXr.tIn hor.tIn hf1 hf1).mono ?_
                 rintro e we1 ⟨hbe, rfl⟩
                 rw [Dp.same_self]))
            all_goals exact KEY.out lw1 we1 ⟨hFr.below hbe, ((HA1.out.2.1.below (below_drewN (Below.refl _ _) 1)).below hbr).below hbe, hXr.below hbe, ((HA1.out.2.2.2.below (below_drewN (Below.refl _ _) 1)).below hbr).below hbe⟩
          · intro lw1 v2 hF
            have HA2 : Hid (FBJobNew w W3 x0 l0 lx0 x1 l1 lx1 r lr lg V wc0.heap.size wc1.heap.size wg.heap.size v2 ∧ OwnTr v2 W3.heap.size x0 lx0 ∧ OwnDp v2 Wd0.heap.size x1 lx1 ∧ OwnJb v2 WG.heap.size r lg) := hF
            clear hF HA1 u0 u1 u2 u3 u4 u5 xx0 xx1 xx2 xx3
            have hka0 := kTr_le HSZ0.out (1)
            have hkb0 := kTr_ge x0 (1)
            have hka1 := kDp_le HSZ1.out (kTr x0 1)
            have hkb1 := kDp_ge x1 (kTr x0 1)
            obtain ⟨xx0, xx1⟩ := tC_cells HA2.out.1.y0
            go_wp2_with fail
            refine (markTr x0 lx0 1 W3.heap.size wc0.heap.size v2 HA2.out.2.1 HT0.out (by have := HA2.out.1.base.size; have := HA2.out.1.g.lt; omega) HSZ0.out (by omega) (by omega)).mono ?_
            rintro e vm0 ⟨rfl, hfr, _⟩
            have HM0 : Hid (FBJobNew w W3 x0 l0 lx0 x1 l1 lx1 r lr lg V wc0.heap.size wc1.heap.size wg.heap.size vm0 ∧ OwnDp vm0 Wd0.heap.size x1 lx1 ∧ OwnJb vm0 WG.heap.size r lg) := ⟨HA2.out.1.fr hfr (by omega) (Or.inr (Nat.le_refl _)) (Or.inr (by omega)) (Or.inr (by omega)), HA2.out.2.2.1.far hfr (by omega), HA2.out.2.2.2.far hfr (by omega)⟩
            clear hfr HA2 xx0 xx1
            have hkp0 : 1 ≤ kTr x0 1 := by omega
            generalize kTr x0 1 = kk0 at *
            obtain ⟨xx0, xx1, xx2, xx3⟩ := pC_cells HM0.out.1.y1
            go_wp2_with fail
            refine (markDp x1 lx1 kk0 Wd0.heap.size wc1.heap.size vm0 HM0.out.2.1 HT1.out (by have := HM0.out.1.base.size; have := HM0.out.1.g.lt; omega) HSZ1.out (by omega) (by omega)).mono ?_
            rintro e vm1 ⟨rfl, hfr, _⟩
            have HM1 : Hid (FBJobNew w W3 x0 l0 lx0 x1 l1 lx1 r lr lg V wc0.heap.size wc1.heap.size wg.heap.size vm1 ∧ OwnJb vm1 WG.heap.size r lg) := ⟨HM0.out.1.fr hfr (by omega) (Or.inl (by omega)) (Or.inr (Nat.le_refl _)) (Or.inr (by omega)), HM0.out.2.2.far hfr (by omega)⟩
            clear hfr HM0 xx0 xx1 xx2 xx3
            have hkp1 : 1 ≤ kDp x1 kk0 := by omega
            generalize kDp x1 kk0 = kk1 at *
            have hkn : decide (((kk1 : Nat) : Int) < 0) = false := by simp
            obtain ⟨g0, g1, g2, g3, g4, g5, g6⟩ := jC_cells HM1.out.1.g
            obtain ⟨z0, z1, z2, z3, z4, z5, z6⟩ := jC_cells HM1.out.1.v
            go_wp2_with fail
            refine (eqJb r r lg lr vm1 HM1.out.2.tIn (HI3.out.below (Nat.le_refl _) HM1.out.1.base) HSM.out.fits HSM.out.fits).mono ?_
            rintro e va ⟨hb, rfl⟩
            rw [Jb.same_self]
            have HVA : Hid (FBJobNew w W3 x0 l0 lx0 x1 l1 lx1 r lr lg V wc0.heap.size wc1.heap.size wg.heap.size va ∧ OwnJb va WG.heap.size r lg) := ⟨HM1.out.1.below hb, HM1.out.2.below hb⟩
            clear hb HM1 g0 g1 g2 g3 g4 g5 g6 z0 z1 z2 z3 z4 z5 z6
            obtain ⟨g0, g1, g2, g3, g4, g5, g6⟩ := jC_cells HVA.out.1.g
            go_wp2_with fail
            refine (markJb r lg 1 WG.heap.size wg.heap.size va HVA.out.2 HTG.out (by have := HVA.out.1.g.lt; omega) HSM.out.size (by omega) (by omega)).mono ?_
            rintro e vb ⟨rfl, hfr, hmk⟩
            have HVB : Hid (FBJobNew w W3 x0 l0 lx0 x1 l1 lx1 r lr lg V wc0.heap.size wc1.heap.size wg.heap.size vb ∧ MarkedJb vb WG.heap.size r lg 1) := ⟨HVA.out.1.fr hfr (by omega) (Or.inl (by omega)) (Or.inl (by omega)) (Or.inr (Nat.le_refl _)), hmk⟩
            clear hfr hmk HVA g0 g1 g2 g3 g4 g5 g6
            obtain ⟨g0, g1, g2, g3, g4, g5, g6⟩ := jC_cells HVB.out.1.g
            go_wp2_with fail
            refine (heldJb r lg 1 WG.heap.size vb HVB.out.2 HSM.out.size (by omega) (by omega) HSM.out.nds).mono ?_
            rintro e vc ⟨rfl, hb⟩
            have HVC : Hid (FBJobNew w W3 x0 l0 lx0 x1 l1 lx1 r lr lg V wc0.heap.size wc1.heap.size wg.heap.size vc ∧ MarkedJb vc WG.heap.size r lg 1) := ⟨HVB.out.1.below hb, HVB.out.2.below hb⟩
            have HVD : Hid (AFJobNew w x0 l0 x1 l1 vc) := HVC.out.1.ds
            have hkm : decide (((kJb r 1 : Nat) : Int) < 0) = false := by simp
            have hkk : (((kJb r 1 : Nat) : Int) != ((kJb r 1 : Nat) : Int)) = false := by simp
            clear hb HVB g0 g1 g2 g3 g4 g5 g6
            go_wp2_with fail
            have HStr : Hid (∀ W', Below vc.heap.size vc W' → (W'.cell? ⟨w.heap.size, 0, none⟩ = some (.slice l0.a x0.n l0.c) ∧ W'.cell? ⟨w.heap.size, 1, none⟩ = some (.int .i64 x0.now)) ∧ W'.cell? ⟨w.heap.size + 1, 0, none⟩ = some (.int .i64 x1.since) ∧ W'.cell? ⟨w.heap.size + 1, 1, none⟩ = some (.int .i64 x1.date) ∧ W'.cell? ⟨w.heap.size + 1, 2, none⟩ = some (.slice l1.lA x1.ln l1.lc) ∧ W'.cell? ⟨w.heap.size + 1, 3, none⟩ = some (.slice l1.iA x1.m l1.ic)) := fun W' hW => (HVD.out.below hW).cells
            have HTor : Hid (∀ W', Below vc.heap.size vc W' → (TIn W' x0 l0) ∧ DpIn W' x1 l1) := fun W' hW => ⟨hI0.below (Nat.le_refl _) (HVD.out.below hW).bel, hI1.below (Nat.le_refl _) (HVD.out.below hW).bel⟩
            apply wp_cn4 (X := TLoc) (Y := DLoc) (Z := JLoc) (U := Nat) (fun _ _ lr V W => Below vc.heap.size vc W ∧ Blk W V (jC r lr) 38 ∧ JIn W r lr ∧ vc.heap.size ≤ V)
            · intro key
              have KEY : Hid _ := key
              clear key
              refine wp_region_noPanic ?_
              have hB0 : Below vc.heap.size vc vc.drew := (Below.refl _ _).drew
              refine wp_region_peel (fun W' => (W'.cell? ⟨w.heap.size, 0, none⟩ = some (.slice l0.a x0.n l0.c) ∧ W'.cell? ⟨w.heap.size, 1, none⟩ = some (.int .i64 x0.now)) ∧ W'.cell? ⟨w.heap.size + 1, 0, none⟩ = some (.int .i64 x1.since) ∧ W'.cell? ⟨w.heap.size + 1, 1, none⟩ = some (.int .i64 x1.date) ∧ W'.cell? ⟨w.heap.size + 1, 2, none⟩ = some (.slice l1.lA x1.ln l1.lc) ∧ W'.cell? ⟨w.heap.size + 1, 3, none⟩ = some (.slice l1.iA x1.m l1.ic)) _ (by kernel_rfl) rfl (by kernel_rfl) ?_ (fun hHeld => ?_)
              · exact HStr.out _ hB0
              simp only [List.pop_toArray, List.dropLast, List.size_toArray, List.length_cons, List.length_nil, Nat.reduceAdd, Nat.reduceSub, List.getElem_toArray, List.getElem_cons_succ, List.getElem_cons_zero]
              refine peel_take (i := 0) (oi := ?oi0r) (v := ?v0r) (fun _ _ _ _ _ h => h) hHeld ?hi0r (by kernel_rfl) (by kernel_rfl) (by kernel_rfl) ?hw0r ?hy0r ?rest0r
              case hi0r =>
                simp only [List.getElem?_toArray, List.getElem?_cons_zero]
                rfl
              case hw0r => rfl
              case hy0r =>
                intro w hSw
                obtain ⟨⟨s0, s1⟩, s2, s3, s4, s5⟩ := hSw
                go_simp
                try with_reducible rfl
              try simp only [Act.put, List.setIfInBounds_toArray, List.set_cons_zero, List.set_cons_succ]
              refine peel_take (i := 2) (oi := ?oi2r) (v := ?v2r) (fun _ _ _ _ _ h => h) hHeld ?hi2r (by kernel_rfl) (by kernel_rfl) (by kernel_rfl) ?hw2r ?hy2r ?rest2r
              case hi2r =>
                simp only [List.getElem?_toArray, List.getElem?_cons_succ, List.getElem?_cons_zero]
                rfl
              case hw2r => rfl
              case hy2r =>
                intro w hSw
                obtain ⟨⟨s0, s1⟩, s2, s3, s4, s5⟩ := hSw
                go_simp
                try with_reducible rfl
              try simp only [Act.put, List.setIfInBounds_toArray, List.set_cons_zero, List.set_cons_succ]
              refine wpAnyH_ready (rs := [1, 8]) (by kernel_rfl) (by simp) ?_
              refine AllReadyH.cons (o := ?o1rq1a) ?ho1rq1a (fun K hK => ?st1rq1a) ?more1rq1a
              case ho1rq1a =>
                simp only [List.getElem?_toArray, List.getElem?_cons_succ, List.getElem?_cons_zero]
                rfl
              case st1rq1a =>
                go_simp
                refine (toTr x0 l0 _ (HTor.out _ hB0).1 HSZ0.out).mono ?_
                rintro e wrq1a ⟨lA0, rfl, hbc, hoc⟩
                unfold tV
                have hBrq1a : Below vc.heap.size vc wrq1a := hB0.trans (hbc.mono hB0.size)
                have hlA0rq1a := hoc.tIn
                clear hbc hoc
                refine hK.out _ _ (HStr.out _ hBrq1a) (fun hHeld => ?_)
                clear hK K
                try simp only [Act.put, List.setIfInBounds_toArray, List.set_cons_zero, List.set_cons_succ]
                refine wpAnyH_ready (rs := [3, 8]) (by kernel_rfl) (by simp) ?_
                refine AllReadyH.cons (o := ?o3rq2a) ?ho3rq2a (fun K hK => ?st3rq2a) ?more3rq2a
                case ho3rq2a =>
                  simp only [List.getElem?_toArray, List.getElem?_cons_succ, List.getElem?_cons_zero]
                  rfl
                case st3rq2a =>
                  go_simp
                  refine (toDp x1 l1 _ (HTor.out _ hBrq1a).2 HSZ1.out).mono ?_
                  rintro e wrq2a ⟨lA1, rfl, hbc, hoc⟩
                  unfold dpV
                  have hBrq2a : Below vc.heap.size vc wrq2a := hBrq1a.trans (hbc.mono hBrq1a.size)
                  have hlA1rq2a := hoc.tIn
                  have hlA0rq2a := hlA0rq1a.below (Nat.le_refl _) hbc
                  clear hbc hoc
                  refine hK.out _ _ (HStr.out _ hBrq2a) (fun hHeld => ?_)
                  clear hK K
                  try simp only [Act.put, List.setIfInBounds_toArray, List.set_cons_zero, List.set_cons_succ]
                  refine wpAnyH_ready (rs := [4, 8]) (by kernel_rfl) (by simp) ?_
                  refine AllReadyH.cons (o := ?o4rq3a) ?ho4rq3a (fun K hK => ?st4rq3a) ?more4rq3a
                  case ho4rq3a =>
                    simp only [List.getElem?_toArray, List.getElem?_cons_succ, List.getElem?_cons_zero]
                    rfl
                  case st4rq3a =>
                    go_simp
                    refine (implJobNew_law x0 lA0 x1 lA1 _ (hE.bel (HVD.out.bel.trans (hBrq2a.mono HVD.out.bel.size))) hlA0rq2a hlA1rq2a hf0 hf1 HSZ.out).mono ?_
                    intro e wrq3a hpost
                    obtain ⟨hbc, lr, rfl, hodrq3a⟩ := HANS.out _ _ _ hpost
                    unfold jV
                    have hBrq3a : Below vc.heap.size vc wrq3a := hBrq2a.trans (hbc.mono hBrq2a.size)
                    clear hbc hpost
                    refine hK.out _ _ (HStr.out _ hBrq3a) (fun hHeld => ?_)
                    clear hK K
                    try simp only [Act.put, List.setIfInBounds_toArray, List.set_cons_zero, List.set_cons_succ]
                    refine peel_take (i := 5) (oi := ?oi5rq3a) (v := ?v5rq3a) (fun _ _ _ _ _ h => h) hHeld ?hi5rq3a (by kernel_rfl) (by kernel_rfl) (by kernel_rfl) ?hw5rq3a ?hy5rq3a ?rest5rq3a
                    case hi5rq3a =>
                      simp only [List.getElem?_toArray, List.getElem?_cons_succ, List.getElem?_cons_zero]
                      rfl
                    case hw5rq3a => rfl
                    case hy5rq3a =>
                      intro w hSw
                      obtain ⟨⟨s0, s1⟩, s2, s3, s4, s5⟩ := hSw
                      go_simp
                      try with_reducible rfl
                    try simp only [Act.put, List.setIfInBounds_toArray, List.set_cons_zero, List.set_cons_succ]
                    refine peel_take (i := 6) (oi := ?oi6rq3a) (v := ?v6rq3a) (fun _ _ _ _ _ h => h) hHeld ?hi6rq3a (by kernel_rfl) (by kernel_rfl) (by kernel_rfl) ?hw6rq3a ?hy6rq3a ?rest6rq3a
                    case hi6rq3a =>
                      simp only [List.getElem?_toArray, List.getElem?_cons_succ, List.getElem?_cons_zero]
                      rfl
                    case hw6rq3a => rfl
                    case hy6rq3a =>
                      intro w hSw
                      obtain ⟨⟨s0, s1⟩, s2, s3, s4, s5⟩ := hSw
                      go_simp
                      try with_reducible rfl
                    try simp only [Act.put, List.setIfInBounds_toArray, List.set_cons_zero, List.set_cons_succ]
                    refine peel_take (i := 7) (oi := ?oi7rq3a) (v := ?v7rq3a) (fun _ _ _ _ _ h => h) hHeld ?hi7rq3a (by kernel_rfl) (by kernel_rfl) (by kernel_rfl) ?hw7rq3a ?hy7rq3a ?rest7rq3a
                    case hi7rq3a =>
                      simp only [List.getElem?_toArray, List.getElem?_cons_succ, List.getElem?_cons_zero]
                      rfl
                    case hw7rq3a => rfl
                    case hy7rq3a =>
                      intro w hSw
                      obtain ⟨⟨s0, s1⟩, s2, s3, s4, s5⟩ := hSw
                      go_simp
                      try with_reducible rfl
                    try simp only [Act.put, List.setIfInBounds_toArray, List.set_cons_zero, List.set_cons_succ]
                    refine wpAnyH_ready (rs := [8]) (by kernel_rfl) (by simp) ?_
                    refine AllReadyH.cons (o := ?o8rq4a) ?ho8rq4a (fun K hK => ?st8rq4a) AllReadyH.nil
                    case ho8rq4a =>
                      simp only [List.getElem?_toArray, List.getElem?_cons_succ, List.getElem?_cons_zero]
                      rfl
                    go_simp
                    have hBrq4a : Below vc.heap.size vc (wrq3a.alloc (.cells #[.slice none 0 0, .int .i64 0, .int .i64 0, .int .i64 0, .slice none 0 0, .slice none 0 0, .slice none 0 0] 38)) := hBrq3a.alloc hBrq3a.size _
                    have hvrq4a : Blk (wrq3a.alloc (.cells #[.slice none 0 0, .int .i64 0, .int .i64 0, .int .i64 0, .slice none 0 0, .slice none 0 0, .slice none 0 0] 38)) (wrq3a.heap.size) #[.slice none 0 0, .int .i64 0, .int .i64 0, .int .i64 0, .slice none 0 0, .slice none 0 0, .slice none 0 0] 38 := by
                      have h := Blk.new wrq3a #[.slice none 0 0, .int .i64 0, .int .i64 0, .int .i64 0, .slice none 0 0, .slice none 0 0, .slice none 0 0] 38
                      simpa using h
                    have hVrq4a : vc.heap.size ≤ wrq3a.heap.size := by
                      have h := hBrq3a.size
                      simpa using h
                    have hlA0rq4a := hlA0rq2a.below (Nat.le_refl _) ((Below.refl _ _).alloc (Nat.le_refl _) (.cells #[.slice none 0 0, .int .i64 0, .int .i64 0, .int .i64 0, .slice none 0 0, .slice none 0 0, .slice none 0 0] 38))
                    have hlA1rq4a := hlA1rq2a.below (Nat.le_refl _) ((Below.refl _ _).alloc (Nat.le_refl _) (.cells #[.slice none 0 0, .int .i64 0, .int .i64 0, .int .i64 0, .slice none 0 0, .slice none 0 0, .slice none 0 0] 38))
                    refine hK.out _ _ (HStr.out _ hBrq4a) (fun hHeld => ?_)
                    clear hK K
                    try simp only [Act.put, List.setIfInBounds_toArray, List.set_cons_zero, List.set_cons_succ]
                    refine wpAnyH_ready (rs := [9]) (by kernel_rfl) (by simp) ?_
                    refine AllReadyH.cons (o := ?o9rq5a) ?ho9rq5a (fun K hK => ?st9rq5a) AllReadyH.nil
                    case ho9rq5a =>
                      simp only [List.getElem?_toArray, List.getElem?_cons_succ, List.getElem?_cons_zero]
                      rfl
                    have HS : Hid (∀ U, U = wrq3a.alloc (.cells (jC r lr) 38) → Below vc.heap.size vc U ∧ Blk U (wrq3a.heap.size) (jC r lr) 38 ∧ JIn U r lr ∧ vc.heap.size ≤ wrq3a.heap.size) := fun U e => by
                      subst e
                      exact ⟨hBrq3a.alloc hBrq3a.size _, Blk.new _ _ _, (hodrq3a.tIn).below (Nat.le_refl _) ((Below.refl _ _).alloc (Nat.le_refl _) _), hVrq4a⟩
                    go_simp
                    refine hK.out _ _ (HStr.out _ (HS.out _ rfl).1) (fun hHeld => ?_)
                    clear hK K
                    try simp only [Act.put, List.setIfInBounds_toArray, List.set_cons_zero, List.set_cons_succ]
                    refine wpAnyH_done (by kernel_rfl) ?_ _
                    show Oper.wp _ _ _ _ _ _
                    go_simp
                    generalize hV : wrq3a.heap.size = V
                    exact NoPanic.normal (KEY.out lA0 lA1 lr V _ (by rw [← hV]; exact HS.out _ rfl))
                  refine AllReadyH.cons (o := ?o8rq3b) ?ho8rq3b (fun K hK => ?st8rq3b) AllReadyH.nil
                  case ho8rq3b =>
                    simp only [List.getElem?_toArray, List.getElem?_cons_succ, List.getElem?_cons_zero]
                    rfl
                  go_simp
                  have hBrq3b : Below vc.heap.size vc (wrq2a.alloc (.cells #[.slice none 0 0, .int .i64 0, .int .i64 0, .int .i64 0, .slice none 0 0, .slice none 0 0, .slice none 0 0] 38)) := hBrq2a.alloc hBrq2a.size _
                  have hvrq3b : Blk (wrq2a.alloc (.cells #[.slice none 0 0, .int .i64 0, .int .i64 0, .int .i64 0, .slice none 0 0, .slice none 0 0, .slice none 0 0] 38)) (wrq2a.heap.size) #[.slice none 0 0, .int .i64 0, .int .i64 0, .int .i64 0, .slice none 0 0, .slice none 0 0, .slice none 0 0] 38 := by
                    have h := Blk.new wrq2a #[.slice none 0 0, .int .i64 0, .int .i64 0, .int .i64 0, .slice none 0 0, .slice none 0 0, .slice none 0 0] 38
                    simpa using h
                  have hVrq3b : vc.heap.size ≤ wrq2a.heap.size := by
                    have h := hBrq2a.size
                    simpa using h
                  have hlA0rq3b := hlA0rq2a.below (Nat.le_refl _) ((Below.refl _ _).alloc (Nat.le_refl _) (.cells #[.slice none 0 0, .int .i64 0, .int .i64 0, .int .i64 0, .slice none 0 0, .slice none 0 0, .slice none 0 0] 38))
                  have hlA1rq3b := hlA1rq2a.below (Nat.le_refl _) ((Below.refl _ _).alloc (Nat.le_refl _) (.cells #[.slice none 0 0, .int .i64 0, .int .i64 0, .int .i64 0, .slice none 0 0, .slice none 0 0, .slice none 0 0] 38))
                  refine hK.out _ _ (HStr.out _ hBrq3b) (fun hHeld => ?_)
                  clear hK K
                  try simp only [Act.put, List.setIfInBounds_toArray, List.set_cons_zero, List.set_cons_succ]
                  refine wpAnyH_ready (rs := [4]) (by kernel_rfl) (by simp) ?_
                  refine AllReadyH.cons (o := ?o4rq7a) ?ho4rq7a (fun K hK => ?st4rq7a) AllReadyH.nil
                  case ho4rq7a =>
                    simp only [List.getElem?_toArray, List.getElem?_cons_succ, List.getElem?_cons_zero]
                    rfl
                  go_simp
                  refine (implJobNew_law x0 lA0 x1 lA1 _ (hE.bel (HVD.out.bel.trans (hBrq3b.mono HVD.out.bel.size))) hlA0rq3b hlA1rq3b hf0 hf1 HSZ.out).mono ?_
                  intro e wrq7a hpost
                  obtain ⟨hbc, lr, rfl, hodrq7a⟩ := HANS.out _ _ _ hpost
                  unfold jV
                  have hBrq7a : Below vc.heap.size vc wrq7a := hBrq3b.trans (hbc.mono hBrq3b.size)
                  have hvrq7a : Blk wrq7a (wrq2a.heap.size) #[.slice none 0 0, .int .i64 0, .int .i64 0, .int .i64 0, .slice none 0 0, .slice none 0 0, .slice none 0 0] 38 := hvrq3b.below hbc hvrq3b.lt
                  have hltrq7a := hvrq3b.lt
                  clear hbc hpost
                  refine hK.out _ _ (HStr.out _ hBrq7a) (fun hHeld => ?_)
                  clear hK K
                  try simp only [Act.put, List.setIfInBounds_toArray, List.set_cons_zero, List.set_cons_succ]
                  refine peel_take (i := 5) (oi := ?oi5rq7a) (v := ?v5rq7a) (fun _ _ _ _ _ h => h) hHeld ?hi5rq7a (by kernel_rfl) (by kernel_rfl) (by kernel_rfl) ?hw5rq7a ?hy5rq7a ?rest5rq7a
                  case hi5rq7a =>
                    simp only [List.getElem?_toArray, List.getElem?_cons_succ, List.getElem?_cons_zero]
                    rfl
                  case hw5rq7a => rfl
                  case hy5rq7a =>
                    intro w hSw
                    obtain ⟨⟨s0, s1⟩, s2, s3, s4, s5⟩ := hSw
                    go_simp
                    try with_reducible rfl
                  try simp only [Act.put, List.setIfInBounds_toArray, List.set_cons_zero, List.set_cons_succ]
                  refine peel_take (i := 6) (oi := ?oi6rq7a) (v := ?v6rq7a) (fun _ _ _ _ _ h => h) hHeld ?hi6rq7a (by kernel_rfl) (by kernel_rfl) (by kernel_rfl) ?hw6rq7a ?hy6rq7a ?rest6rq7a
                  case hi6rq7a =>
                    simp only [List.getElem?_toArray, List.getElem?_cons_succ, List.getElem?_cons_zero]
                    rfl
                  case hw6rq7a => rfl
                  case hy6rq7a =>
                    intro w hSw
                    obtain ⟨⟨s0, s1⟩, s2, s3, s4, s5⟩ := hSw
                    go_simp
                    try with_reducible rfl
                  try simp only [Act.put, List.setIfInBounds_toArray, List.set_cons_zero, List.set_cons_succ]
                  refine peel_take (i := 7) (oi := ?oi7rq7a) (v := ?v7rq7a) (fun _ _ _ _ _ h => h) hHeld ?hi7rq7a (by kernel_rfl) (by kernel_rfl) (by kernel_rfl) ?hw7rq7a ?hy7rq7a ?rest7rq7a
                  case hi7rq7a =>
                    simp only [List.getElem?_toArray, List.getElem?_cons_succ, List.getElem?_cons_zero]
                    rfl
                  case hw7rq7a => rfl
                  case hy7rq7a =>
                    intro w hSw
                    obtain ⟨⟨s0, s1⟩, s2, s3, s4, s5⟩ := hSw
                    go_simp
                    try with_reducible rfl
                  try simp only [Act.put, List.setIfInBounds_toArray, List.set_cons_zero, List.set_cons_succ]
                  refine wpAnyH_ready (rs := [9]) (by kernel_rfl) (by simp) ?_
                  refine AllReadyH.cons (o := ?o9rq8a) ?ho9rq8a (fun K hK => ?st9rq8a) AllReadyH.nil
                  case ho9rq8a =>
                    simp only [List.getElem?_toArray, List.getElem?_cons_succ, List.getElem?_cons_zero]
                    rfl
                  have z0 := hvrq7a.cell 0
                  have z1 := hvrq7a.cell 1
                  have z2 := hvrq7a.cell 2
                  have z3 := hvrq7a.cell 3
                  have z4 := hvrq7a.cell 4
                  have z5 := hvrq7a.cell 5
                  have z6 := hvrq7a.cell 6
                  have f0 := hvrq7a.frozen 0
                  have f1 := hvrq7a.frozen 1
                  have f2 := hvrq7a.frozen 2
                  have f3 := hvrq7a.frozen 3
                  have f4 := hvrq7a.frozen 4
                  have f5 := hvrq7a.frozen 5
                  have f6 := hvrq7a.frozen 6
                  simp at z0 z1 z2 z3 z4 z5 z6
                  have HS : Hid (∀ U, U = (((((((wrq7a.setCell ⟨wrq2a.heap.size, 0, none⟩ (.slice lr.t.a r.t.n lr.t.c)).setCell ⟨wrq2a.heap.size, 1, none⟩ (.int .i64 r.t.now)).setCell ⟨wrq2a.heap.size, 2, none⟩ (.int .i64 r.d.since)).setCell ⟨wrq2a.heap.size, 3, none⟩ (.int .i64 r.d.date)).setCell ⟨wrq2a.heap.size, 4, none⟩ (.slice lr.d.lA r.d.ln lr.d.lc)).setCell ⟨wrq2a.heap.size, 5, none⟩ (.slice lr.d.iA r.d.m lr.d.ic)).setCell ⟨wrq2a.heap.size, 6, none⟩ (.slice lr.e r.q lr.f)) → Below vc.heap.size vc U ∧ Blk U (wrq2a.heap.size) (jC r lr) 38 ∧ JIn U r lr ∧ vc.heap.size ≤ wrq2a.heap.size) := fun U e => by
                    subst e
                    exact ⟨(bel_put (bel_put (bel_put (bel_put (bel_put (bel_put (bel_put hBrq7a _ hVrq3b) _ hVrq3b) _ hVrq3b) _ hVrq3b) _ hVrq3b) _ hVrq3b) _ hVrq3b), (((((((hvrq7a.set 0 _).set 1 _).set 2 _).set 3 _).set 4 _).set 5 _).set 6 _), ((((((((hodrq7a.put _ hltrq7a).put _ hltrq7a).put _ hltrq7a).put _ hltrq7a).put _ hltrq7a).put _ hltrq7a).put _ hltrq7a)).tIn, hVrq3b⟩
                  go_simp
                  refine hK.out _ _ (HStr.out _ (HS.out _ rfl).1) (fun hHeld => ?_)
                  clear hK K
                  try simp only [Act.put, List.setIfInBounds_toArray, List.set_cons_zero, List.set_cons_succ]
                  refine wpAnyH_done (by kernel_rfl) ?_ _
                  show Oper.wp _ _ _ _ _ _
                  go_simp
                  generalize hV : wrq2a.heap.size = V
                  exact NoPanic.normal (KEY.out lA0 lA1 lr V _ (by rw [← hV]; exact HS.out _ rfl))
                refine AllReadyH.cons (o := ?o8rq2b) ?ho8rq2b (fun K hK => ?st8rq2b) AllReadyH.nil
                case ho8rq2b =>
                  simp only [List.getElem?_toArray, List.getElem?_cons_succ, List.getElem?_cons_zero]
                  rfl
                go_simp
                have hBrq2b : Below vc.heap.size vc (wrq1a.alloc (.cells #[.slice none 0 0, .int .i64 0, .int .i64 0, .int .i64 0, .slice none 0 0, .slice none 0 0, .slice none 0 0] 38)) := hBrq1a.alloc hBrq1a.size _
                have hvrq2b : Blk (wrq1a.alloc (.cells #[.slice none 0 0, .int .i64 0, .int .i64 0, .int .i64 0, .slice none 0 0, .slice none 0 0, .slice none 0 0] 38)) (wrq1a.heap.size) #[.slice none 0 0, .int .i64 0, .int .i64 0, .int .i64 0, .slice none 0 0, .slice none 0 0, .slice none 0 0] 38 := by
                  have h := Blk.new wrq1a #[.slice none 0 0, .int .i64 0, .int .i64 0, .int .i64 0, .slice none 0 0, .slice none 0 0, .slice none 0 0] 38
                  simpa using h
                have hVrq2b : vc.heap.size ≤ wrq1a.heap.size := by
                  have h := hBrq1a.size
                  simpa using h
                have hlA0rq2b := hlA0rq1a.below (Nat.le_refl _) ((Below.refl _ _).alloc (Nat.le_refl _) (.cells #[.slice none 0 0, .int .i64 0, .int .i64 0, .int .i64 0, .slice none 0 0, .slice none 0 0, .slice none 0 0] 38))
                refine hK.out _ _ (HStr.out _ hBrq2b) (fun hHeld => ?_)
                clear hK K
                try simp only [Act.put, List.setIfInBounds_toArray, List.set_cons_zero, List.set_cons_succ]
                refine wpAnyH_ready (rs := [3]) (by kernel_rfl) (by simp) ?_
                refine AllReadyH.cons (o := ?o3rq10a) ?ho3rq10a (fun K hK => ?st3rq10a) AllReadyH.nil
                case ho3rq10a =>
                  simp only [List.getElem?_toArray, List.getElem?_cons_succ, List.getElem?_cons_zero]
                  rfl
                go_simp
                refine (toDp x1 l1 _ (HTor.out _ hBrq2b).2 HSZ1.out).mono ?_
                rintro e wrq10a ⟨lA1, rfl, hbc, hoc⟩
                unfold dpV
                have hBrq10a : Below vc.heap.size vc wrq10a := hBrq2b.trans (hbc.mono hBrq2b.size)
                have hlA1rq10a := hoc.tIn
                have hlA0rq10a := hlA0rq2b.below (Nat.le_refl _) hbc
                have hvrq10a : Blk wrq10a (wrq1a.heap.size) #[.slice none 0 0, .int .i64 0, .int .i64 0, .int .i64 0, .slice none 0 0, .slice none 0 0, .slice none 0 0] 38 := hvrq2b.below hbc hvrq2b.lt
                clear hbc hoc
                refine hK.out _ _ (HStr.out _ hBrq10a) (fun hHeld => ?_)
                clear hK K
                try simp only [Act.put, List.setIfInBounds_toArray, List.set_cons_zero, List.set_cons_succ]
                refine wpAnyH_ready (rs := [4]) (by kernel_rfl) (by simp) ?_
                refine AllReadyH.cons (o := ?o4rq11a) ?ho4rq11a (fun K hK => ?st4rq11a) AllReadyH.nil
                case ho4rq11a =>
                  simp only [List.getElem?_toArray, List.getElem?_cons_succ, List.getElem?_cons_zero]
                  rfl
                go_simp
                refine (implJobNew_law x0 lA0 x1 lA1 _ (hE.bel (HVD.out.bel.trans (hBrq10a.mono HVD.out.bel.size))) hlA0rq10a hlA1rq10a hf0 hf1 HSZ.out).mono ?_
                intro e wrq11a hpost
                obtain ⟨hbc, lr, rfl, hodrq11a⟩ := HANS.out _ _ _ hpost
                unfold jV
                have hBrq11a : Below vc.heap.size vc wrq11a := hBrq10a.trans (hbc.mono hBrq10a.size)
                have hvrq11a : Blk wrq11a (wrq1a.heap.size) #[.slice none 0 0, .int .i64 0, .int .i64 0, .int .i64 0, .slice none 0 0, .slice none 0 0, .slice none 0 0] 38 := hvrq10a.below hbc hvrq10a.lt
                have hltrq11a := hvrq10a.lt
                clear hbc hpost
                refine hK.out _ _ (HStr.out _ hBrq11a) (fun hHeld => ?_)
                clear hK K
                try simp only [Act.put, List.setIfInBounds_toArray, List.set_cons_zero, List.set_cons_succ]
                refine peel_take (i := 5) (oi := ?oi5rq11a) (v := ?v5rq11a) (fun _ _ _ _ _ h => h) hHeld ?hi5rq11a (by kernel_rfl) (by kernel_rfl) (by kernel_rfl) ?hw5rq11a ?hy5rq11a ?rest5rq11a
                case hi5rq11a =>
                  simp only [List.getElem?_toArray, List.getElem?_cons_succ, List.getElem?_cons_zero]
                  rfl
                case hw5rq11a => rfl
                case hy5rq11a =>
                  intro w hSw
                  obtain ⟨⟨s0, s1⟩, s2, s3, s4, s5⟩ := hSw
                  go_simp
                  try with_reducible rfl
                try simp only [Act.put, List.setIfInBounds_toArray, List.set_cons_zero, List.set_cons_succ]
                refine peel_take (i := 6) (oi := ?oi6rq11a) (v := ?v6rq11a) (fun _ _ _ _ _ h => h) hHeld ?hi6rq11a (by kernel_rfl) (by kernel_rfl) (by kernel_rfl) ?hw6rq11a ?hy6rq11a ?rest6rq11a
                case hi6rq11a =>
                  simp only [List.getElem?_toArray, List.getElem?_cons_succ, List.getElem?_cons_zero]
                  rfl
                case hw6rq11a => rfl
                case hy6rq11a =>
                  intro w hSw
                  obtain ⟨⟨s0, s1⟩, s2, s3, s4, s5⟩ := hSw
                  go_simp
                  try with_reducible rfl
                try simp only [Act.put, List.setIfInBounds_toArray, List.set_cons_zero, List.set_cons_succ]
                refine peel_take (i := 7) (oi := ?oi7rq11a) (v := ?v7rq11a) (fun _ _ _ _ _ h => h) hHeld ?hi7rq11a (by kernel_rfl) (by kernel_rfl) (by kernel_rfl) ?hw7rq11a ?hy7rq11a ?rest7rq11a
                case hi7rq11a =>
                  simp only [List.getElem?_toArray, List.getElem?_cons_succ, List.getElem?_cons_zero]
                  rfl
                case hw7rq11a => rfl
                case hy7rq11a =>
                  intro w hSw
                  obtain ⟨⟨s0, s1⟩, s2, s3, s4, s5⟩ := hSw
                  go_simp
                  try with_reducible rfl
                try simp only [Act.put, List.setIfInBounds_toArray, List.set_cons_zero, List.set_cons_succ]
                refine wpAnyH_ready (rs := [9]) (by kernel_rfl) (by simp) ?_
                refine AllReadyH.cons (o := ?o9rq12a) ?ho9rq12a (fun K hK => ?st9rq12a) AllReadyH.nil
                case ho9rq12a =>
                  simp only [List.getElem?_toArray, List.getElem?_cons_succ, List.getElem?_cons_zero]
                  rfl
                have z0 := hvrq11a.cell 0
                have z1 := hvrq11a.cell 1
                have z2 := hvrq11a.cell 2
                have z3 := hvrq11a.cell 3
                have z4 := hvrq11a.cell 4
                have z5 := hvrq11a.cell 5
                have z6 := hvrq11a.cell 6
                have f0 := hvrq11a.frozen 0
                have f1 := hvrq11a.frozen 1
                have f2 := hvrq11a.frozen 2
                have f3 := hvrq11a.frozen 3
                have f4 := hvrq11a.frozen 4
                have f5 := hvrq11a.frozen 5
                have f6 := hvrq11a.frozen 6
                simp at z0 z1 z2 z3 z4 z5 z6
                have HS : Hid (∀ U, U = (((((((wrq11a.setCell ⟨wrq1a.heap.size, 0, none⟩ (.slice lr.t.a r.t.n lr.t.c)).setCell ⟨wrq1a.heap.size, 1, none⟩ (.int .i64 r.t.now)).setCell ⟨wrq1a.heap.size, 2, none⟩ (.int .i64 r.d.since)).setCell ⟨wrq1a.heap.size, 3, none⟩ (.int .i64 r.d.date)).setCell ⟨wrq1a.heap.size, 4, none⟩ (.slice lr.d.lA r.d.ln lr.d.lc)).setCell ⟨wrq1a.heap.size, 5, none⟩ (.slice lr.d.iA r.d.m lr.d.ic)).setCell ⟨wrq1a.heap.size, 6, none⟩ (.slice lr.e r.q lr.f)) → Below vc.heap.size vc U ∧ Blk U (wrq1a.heap.size) (jC r lr) 38 ∧ JIn U r lr ∧ vc.heap.size ≤ wrq1a.heap.size) := fun U e => by
                  subst e
                  exact ⟨(bel_put (bel_put (bel_put (bel_put (bel_put (bel_put (bel_put hBrq11a _ hVrq2b) _ hVrq2b) _ hVrq2b) _ hVrq2b) _ hVrq2b) _ hVrq2b) _ hVrq2b), (((((((hvrq11a.set 0 _).set 1 _).set 2 _).set 3 _).set 4 _).set 5 _).set 6 _), ((((((((hodrq11a.put _ hltrq11a).put _ hltrq11a).put _ hltrq11a).put _ hltrq11a).put _ hltrq11a).put _ hltrq11a).put _ hltrq11a)).tIn, hVrq2b⟩
                go_simp
                refine hK.out _ _ (HStr.out _ (HS.out _ rfl).1) (fun hHeld => ?_)
                clear hK K
                try simp only [Act.put, List.setIfInBounds_toArray, List.set_cons_zero, List.set_cons_succ]
                refine wpAnyH_done (by kernel_rfl) ?_ _
                show Oper.wp _ _ _ _ _ _
                go_simp
                generalize hV : wrq1a.heap.size = V
                exact NoPanic.normal (KEY.out lA0 lA1 lr V _ (by rw [← hV]; exact HS.out _ rfl))
              refine AllReadyH.cons (o := ?o8rq1b) ?ho8rq1b (fun K hK => ?st8rq1b) AllReadyH.nil
              case ho8rq1b =>
                simp only [List.getElem?_toArray, List.getElem?_cons_succ, List.getElem?_cons_zero]
                rfl
              go_simp
              have hBrq1b : Below vc.heap.size vc (vc.drew.alloc (.cells #[.slice none 0 0, .int .i64 0, .int .i64 0, .int .i64 0, .slice none 0 0, .slice none 0 0, .slice none 0 0] 38)) := hB0.alloc hB0.size _
              have hvrq1b : Blk (vc.drew.alloc (.cells #[.slice none 0 0, .int .i64 0, .int .i64 0, .int .i64 0, .slice none 0 0, .slice none 0 0, .slice none 0 0] 38)) (vc.heap.size) #[.slice none 0 0, .int .i64 0, .int .i64 0, .int .i64 0, .slice none 0 0, .slice none 0 0, .slice none 0 0] 38 := by
                have h := Blk.new vc.drew #[.slice none 0 0, .int .i64 0, .int .i64 0, .int .i64 0, .slice none 0 0, .slice none 0 0, .slice none 0 0] 38
                simpa using h
              have hVrq1b : vc.heap.size ≤ vc.heap.size := by
                have h := hB0.size
                simpa using h
              refine hK.out _ _ (HStr.out _ hBrq1b) (fun hHeld => ?_)
              clear hK K
              try simp only [Act.put, List.setIfInBounds_toArray, List.set_cons_zero, List.set_cons_succ]
              refine wpAnyH_ready (rs := [1]) (by kernel_rfl) (by simp) ?_
              refine AllReadyH.cons (o := ?o1rq14a) ?ho1rq14a (fun K hK => ?st1rq14a) AllReadyH.nil
              case ho1rq14a =>
                simp only [List.getElem?_toArray, List.getElem?_cons_succ, List.getElem?_cons_zero]
                rfl
              go_simp
              refine (toTr x0 l0 _ (HTor.out _ hBrq1b).1 HSZ0.out).mono ?_
              rintro e wrq14a ⟨lA0, rfl, hbc, hoc⟩
              unfold tV
              have hBrq14a : Below vc.heap.size vc wrq14a := hBrq1b.trans (hbc.mono hBrq1b.size)
              have hlA0rq14a := hoc.tIn
              have hvrq14a : Blk wrq14a (vc.heap.size) #[.slice none 0 0, .int .i64 0, .int .i64 0, .int .i64 0, .slice none 0 0, .slice none 0 0, .slice none 0 0] 38 := hvrq1b.below hbc hvrq1b.lt
              clear hbc hoc
              refine hK.out _ _ (HStr.out _ hBrq14a) (fun hHeld => ?_)
              clear hK K
              try simp only [Act.put, List.setIfInBounds_toArray, List.set_cons_zero, List.set_cons_succ]
              refine wpAnyH_ready (rs := [3]) (by kernel_rfl) (by simp) ?_
              refine AllReadyH.cons (o := ?o3rq15a) ?ho3rq15a (fun K hK => ?st3rq15a) AllReadyH.nil
              case ho3rq15a =>
                simp only [List.getElem?_toArray, List.getElem?_cons_succ, List.getElem?_cons_zero]
                rfl
              go_simp
              refine (toDp x1 l1 _ (HTor.out _ hBrq14a).2 HSZ1.out).mono ?_
              rintro e wrq15a ⟨lA1, rfl, hbc, hoc⟩
              unfold dpV
              have hBrq15a : Below vc.heap.size vc wrq15a := hBrq14a.trans (hbc.mono hBrq14a.size)
              have hlA1rq15a := hoc.tIn
              have hlA0rq15a := hlA0rq14a.below (Nat.le_refl _) hbc
              have hvrq15a : Blk wrq15a (vc.heap.size) #[.slice none 0 0, .int .i64 0, .int .i64 0, .int .i64 0, .slice none 0 0, .slice none 0 0, .slice none 0 0] 38 := hvrq14a.below hbc hvrq14a.lt
              clear hbc hoc
              refine hK.out _ _ (HStr.out _ hBrq15a) (fun hHeld => ?_)
              clear hK K
              try simp only [Act.put, List.setIfInBounds_toArray, List.set_cons_zero, List.set_cons_succ]
              refine wpAnyH_ready (rs := [4]) (by kernel_rfl) (by simp) ?_
              refine AllReadyH.cons (o := ?o4rq16a) ?ho4rq16a (fun K hK => ?st4rq16a) AllReadyH.nil
              case ho4rq16a =>
                simp only [List.getElem?_toArray, List.getElem?_cons_succ, List.getElem?_cons_zero]
                rfl
              go_simp
              refine (implJobNew_law x0 lA0 x1 lA1 _ (hE.bel (HVD.out.bel.trans (hBrq15a.mono HVD.out.bel.size))) hlA0rq15a hlA1rq15a hf0 hf1 HSZ.out).mono ?_
              intro e wrq16a hpost
              obtain ⟨hbc, lr, rfl, hodrq16a⟩ := HANS.out _ _ _ hpost
              unfold jV
              have hBrq16a : Below vc.heap.size vc wrq16a := hBrq15a.trans (hbc.mono hBrq15a.size)
              have hvrq16a : Blk wrq16a (vc.heap.size) #[.slice none 0 0, .int .i64 0, .int .i64 0, .int .i64 0, .slice none 0 0, .slice none 0 0, .slice none 0 0] 38 := hvrq15a.below hbc hvrq15a.lt
              have hltrq16a := hvrq15a.lt
              clear hbc hpost
              refine hK.out _ _ (HStr.out _ hBrq16a) (fun hHeld => ?_)
              clear hK K
              try simp only [Act.put, List.setIfInBounds_toArray, List.set_cons_zero, List.set_cons_succ]
              refine peel_take (i := 5) (oi := ?oi5rq16a) (v := ?v5rq16a) (fun _ _ _ _ _ h => h) hHeld ?hi5rq16a (by kernel_rfl) (by kernel_rfl) (by kernel_rfl) ?hw5rq16a ?hy5rq16a ?rest5rq16a
              case hi5rq16a =>
                simp only [List.getElem?_toArray, List.getElem?_cons_succ, List.getElem?_cons_zero]
                rfl
              case hw5rq16a => rfl
              case hy5rq16a =>
                intro w hSw
                obtain ⟨⟨s0, s1⟩, s2, s3, s4, s5⟩ := hSw
                go_simp
                try with_reducible rfl
              try simp only [Act.put, List.setIfInBounds_toArray, List.set_cons_zero, List.set_cons_succ]
              refine peel_take (i := 6) (oi := ?oi6rq16a) (v := ?v6rq16a) (fun _ _ _ _ _ h => h) hHeld ?hi6rq16a (by kernel_rfl) (by kernel_rfl) (by kernel_rfl) ?hw6rq16a ?hy6rq16a ?rest6rq16a
              case hi6rq16a =>
                simp only [List.getElem?_toArray, List.getElem?_cons_succ, List.getElem?_cons_zero]
                rfl
              case hw6rq16a => rfl
              case hy6rq16a =>
                intro w hSw
                obtain ⟨⟨s0, s1⟩, s2, s3, s4, s5⟩ := hSw
                go_simp
                try with_reducible rfl
              try simp only [Act.put, List.setIfInBounds_toArray, List.set_cons_zero, List.set_cons_succ]
              refine peel_take (i := 7) (oi := ?oi7rq16a) (v := ?v7rq16a) (fun _ _ _ _ _ h => h) hHeld ?hi7rq16a (by kernel_rfl) (by kernel_rfl) (by kernel_rfl) ?hw7rq16a ?hy7rq16a ?rest7rq16a
              case hi7rq16a =>
                simp only [List.getElem?_toArray, List.getElem?_cons_succ, List.getElem?_cons_zero]
                rfl
              case hw7rq16a => rfl
              case hy7rq16a =>
                intro w hSw
                obtain ⟨⟨s0, s1⟩, s2, s3, s4, s5⟩ := hSw
                go_simp
                try with_reducible rfl
              try simp only [Act.put, List.setIfInBounds_toArray, List.set_cons_zero, List.set_cons_succ]
              refine wpAnyH_ready (rs := [9]) (by kernel_rfl) (by simp) ?_
              refine AllReadyH.cons (o := ?o9rq17a) ?ho9rq17a (fun K hK => ?st9rq17a) AllReadyH.nil
              case ho9rq17a =>
                simp only [List.getElem?_toArray, List.getElem?_cons_succ, List.getElem?_cons_zero]
                rfl
              have z0 := hvrq16a.cell 0
              have z1 := hvrq16a.cell 1
              have z2 := hvrq16a.cell 2
              have z3 := hvrq16a.cell 3
              have z4 := hvrq16a.cell 4
              have z5 := hvrq16a.cell 5
              have z6 := hvrq16a.cell 6
              have f0 := hvrq16a.frozen 0
              have f1 := hvrq16a.frozen 1
              have f2 := hvrq16a.frozen 2
              have f3 := hvrq16a.frozen 3
              have f4 := hvrq16a.frozen 4
              have f5 := hvrq16a.frozen 5
              have f6 := hvrq16a.frozen 6
              simp at z0 z1 z2 z3 z4 z5 z6
              have HS : Hid (∀ U, U = (((((((wrq16a.setCell ⟨vc.heap.size, 0, none⟩ (.slice lr.t.a r.t.n lr.t.c)).setCell ⟨vc.heap.size, 1, none⟩ (.int .i64 r.t.now)).setCell ⟨vc.heap.size, 2, none⟩ (.int .i64 r.d.since)).setCell ⟨vc.heap.size, 3, none⟩ (.int .i64 r.d.date)).setCell ⟨vc.heap.size, 4, none⟩ (.slice lr.d.lA r.d.ln lr.d.lc)).setCell ⟨vc.heap.size, 5, none⟩ (.slice lr.d.iA r.d.m lr.d.ic)).setCell ⟨vc.heap.size, 6, none⟩ (.slice lr.e r.q lr.f)) → Below vc.heap.size vc U ∧ Blk U (vc.heap.size) (jC r lr) 38 ∧ JIn U r lr ∧ vc.heap.size ≤ vc.heap.size) := fun U e => by
                subst e
                exact ⟨(bel_put (bel_put (bel_put (bel_put (bel_put (bel_put (bel_put hBrq16a _ hVrq1b) _ hVrq1b) _ hVrq1b) _ hVrq1b) _ hVrq1b) _ hVrq1b) _ hVrq1b), (((((((hvrq16a.set 0 _).set 1 _).set 2 _).set 3 _).set 4 _).set 5 _).set 6 _), ((((((((hodrq16a.put _ hltrq16a).put _ hltrq16a).put _ hltrq16a).put _ hltrq16a).put _ hltrq16a).put _ hltrq16a).put _ hltrq16a)).tIn, hVrq1b⟩
              go_simp
              refine hK.out _ _ (HStr.out _ (HS.out _ rfl).1) (fun hHeld => ?_)
              clear hK K
              try simp only [Act.put, List.setIfInBounds_toArray, List.set_cons_zero, List.set_cons_succ]
              refine wpAnyH_done (by kernel_rfl) ?_ _
              show Oper.wp _ _ _ _ _ _
              go_simp
              generalize hV : vc.heap.size = V
              exact NoPanic.normal (KEY.out lA0 lA1 lr V _ (by rw [← hV]; exact HS.out _ rfl))
            · intro lp0 lp1 lh V3 vd hd
              obtain ⟨hbd, hvd, hid, hVge⟩ := hd
              have hFd := HVC.out.1.below hbd
              obtain ⟨g0, g1, g2, g3, g4, g5, g6⟩ := jC_cells hvd
              obtain ⟨z0, z1, z2, z3, z4, z5, z6⟩ := jC_cells hFd.v
              have HVE : Hid (FBJobNew w W3 x0 l0 lx0 x1 l1 lx1 r lr lg V wc0.heap.size wc1.heap.size wg.heap.size vd ∧ MarkedJb vd WG.heap.size r lg 1 ∧ JIn vd r lh) := ⟨hFd, HVC.out.2.below hbd, hid⟩
              clear hbd hvd hid hFd HVC HVD HStr HTor hVge
              go_wp2_with fail
              refine (eqJb r r lh lr vd HVE.out.2.2 (HI3.out.below (Nat.le_refl _) HVE.out.1.base) HSM.out.fits HSM.out.fits).mono ?_
              rintro e vf ⟨hb, rfl⟩
              rw [Jb.same_self]
              have HVF : Hid (FBJobNew w W3 x0 l0 lx0 x1 l1 lx1 r lr lg V wc0.heap.size wc1.heap.size wg.heap.size vf ∧ MarkedJb vf WG.heap.size r lg 1) := ⟨HVE.out.1.below hb, HVE.out.2.1.below hb⟩
              clear hb HVE g0 g1 g2 g3 g4 g5 g6 z0 z1 z2 z3 z4 z5 z6
              obtain ⟨g0, g1, g2, g3, g4, g5, g6⟩ := jC_cells HVF.out.1.g
              go_wp2_with fail
              refine (heldJb r lg 1 WG.heap.size vf HVF.out.2 HSM.out.size (by omega) (by omega) HSM.out.nds).mono ?_
              rintro e vh ⟨rfl, hb⟩
              have HBB : Hid (Below w.heap.size w vh) := (HVF.out.1.below hb).ds.bel
              clear hb HVF g0 g1 g2 g3 g4 g5 g6
              go_wp2
              go_ret
              exact ⟨rfl, HBB.out⟩

end Go.Proofs.YtakifcobofkheaaGreatDoor

/-
  FnExactJobNew as it is stated: the row, where the listed variable of the library reads as it is laid.
-/
namespace Go.Proofs.YtakifcobofkheaaGreatDoor.fnExactJobNew
open Go.ChangeShapes Go.WideShapes Go.ChangeAt Go.RowKit Go.Joins
open Go.ChangeMaps (open_string)
set_option linter.unusedVariables false

abbrev laids : List (String × DataW Unit) := [("errors.errorType", Rows.laid_errors_errorType)]

theorem door_met (os : Os) (args : Array Value) : laidMetH Tryz.prog laids ((World.doorLaid Tryz.prog 16 os).forCall (fun _ _ => 0) ⟨#[], args, []⟩).memory :=
  laidMetH_of_parts3 (fuel := 8) (laidMet_of_run' 8 (by kernel_rfl) (by kernel_rfl)) (by kernel_rfl) (by kernel_rfl)

theorem et : Tryz.prog.globalNamed "errors.errorType" = some 0 := by kernel_rfl
theorem rt : (Tryz.prog.cutTypes.find? (·.1 == "internal/reflectlite.rtype")).map (·.2) = some 162 := by kernel_rfl
theorem oneRow : ((List.range 208).filter fun t => Tryz.prog.rowNamed t [101, 114, 114, 111, 114]) = [98] := by kernel_rfl
theorem typesSize : Tryz.prog.types.size = 208 := by kernel_rfl

/-- What the condition gives a walk: the variable's one cell. -/
theorem err_of_laid {W : World} (h : laidMetH Tryz.prog laids W) : ErrType W := by
  have h' : laidMet Tryz.prog [] W ∧ handlesMet Tryz.prog laids W := h
  obtain ⟨name, u, ty, e1, e2, e3, e4, e5⟩ := h'.2 _ (List.mem_singleton.2 rfl)
  have en : name = [101, 114, 114, 111, 114] := (Option.some.inj e1).symm
  subst en
  obtain rfl := Option.some.inj (rt.symm.trans e2)
  have hm : ty ∈ (List.range 208).filter fun t => Tryz.prog.rowNamed t [101, 114, 114, 111, 114] := List.mem_filter.2 ⟨List.mem_range.2 (by rw [← typesSize]; exact e3), e4⟩
  rw [oneRow] at hm
  obtain rfl := List.mem_singleton.1 hm
  have hh : typeHandle Tryz.prog 98 = .pointer (some ⟨1, 98, none⟩) := by kernel_rfl
  rw [hh] at e5
  have := World.var?_cell et e5 0
  unfold ErrType
  simpa using this

set_option maxRecDepth 100000 in
theorem lifted (os : Os) (started : os.Started) (H : Type) (enc : TypeId × Value → H) :
    ReturnsInHanded {} Tryz.checked os 3 .any (fun w args => (Rows.fnExactJobNewSpec.pre enc Tryz.prog Tryz.f3 [] false w args ∧ laidMetH Tryz.prog laids w) ∧ sizedMet enc Tryz.prog Tryz.f3 (OpenSpec.ofChange Rows.fnExactJobNewSpec) false w args)
      (Rows.fnExactJobNewSpec.post enc Tryz.prog Tryz.f3 false true false false) := by
  refine returnsInHanded_of_change_and (C := Tryz.checked) (X := fun w _ => laidMetH Tryz.prog laids w) (fun _ _ _ hh h => h.of_heap hh) own started (by kernel_rfl) Tryz.func3
    (ChangeSpec.witness_shaped (enc := enc) (C := Tryz.checked) (os := os) (X := fun w _ => laidMetH Tryz.prog laids w) false (World.doorLaid Tryz.prog 16 os) #[.agg #[.slice none 0 0, .int .i64 0], .agg #[.int .i64 0, .int .i64 0, .slice none 0 0, .slice none 0 0]] 8 rfl (World.shaped_of_RefB (by kernel_rfl) (by kernel_rfl)) (by kernel_rfl) (by kernel_rfl) (by kernel_rfl) (door_met os _)) ?_
  intro W base args ds gs before hval0 hW _ _ hL _
  have hval : ∀ (j : Nat) t v, Tryz.f3.params[j]? = some t → args[j]? = some v → Value.okWide Tryz.prog W .any base t v := hval0
  have hW' := hW
  obtain ⟨p, q, hA0, hV, rfl, hfz, hnd⟩ := hW
  have hA : DataW.TrodAll enc Tryz.prog W 0 (fun _ => true) true Tryz.f3.params.toList args.toList ds p := hA0
  rw [Tryz.params3] at hA hval
  obtain ⟨v0, vs0, d0, ds0, p0, q0, hargs, rfl, rfl, h0, r0⟩ := trodAll_cons hA
  obtain ⟨v1, vs1, d1, ds1, p1, q1, rfl, rfl, rfl, h1, r1⟩ := trodAll_cons r0
  obtain ⟨rfl, rfl, rfl⟩ := trodAll_nil r1
  obtain rfl : args = #[v0, v1] := by cases args; simp_all
  obtain ⟨rfl, rfl⟩ := trodVars_none hV
  have k0 := h0
  have lt0 : ∀ x ∈ p0, x.block < W.heap.size := by obtain ⟨m, hm⟩ := k0; exact DataW.trod_lt m _ _ _ hm
  obtain ⟨u0, w0, y0, z0, fu0, rfl, _, _, ga0, gb0⟩ := open_agg2 Tryz.underlying24 (by kernel_rfl) cellsTree (hval 0 24 v0 rfl rfl) h0
  obtain ⟨a0, n0, c0, D0, L0, rfl, hS0, ha0, hn0⟩ := openNodesC ga0
  obtain ⟨now0, ee0, _, wn0⟩ := DataW.trod_int Tryz.underlying3 gb0
  cases ee0
  have k1 := h1
  have lt1 : ∀ x ∈ p1, x.block < W.heap.size := by obtain ⟨m, hm⟩ := k1; exact DataW.trod_lt m _ _ _ hm
  obtain ⟨e1, l1, rfl, hI1, hf1⟩ := openDump (hval 1 28 v1 rfl rfl) h1
  clear hA0 hval0
  refine (lawJobNew ⟨n0, D0, now0⟩ ⟨a0, c0, L0⟩ e1 l1 W (err_of_laid hL) hS0 hI1 ⟨hn0, ha0, wf64 wn0⟩ hf1).mono fun e W' ⟨he, bel⟩ => ?_
  subst he
  exact ⟨_, rfl, _, _, _, [], _, [], hW', trodAll_mk1 (shut_bool Tryz.underlying4 _), (trodAll_cons_mk (Below.trod laidOut (by kernel_rfl) (of_decide_eq_true (by kernel_rfl)) k0 bel lt0) (trodAll_cons_mk (Below.trod laidOut (by kernel_rfl) (of_decide_eq_true (by kernel_rfl)) k1 bel lt1) trodAll_mk0)), rfl, bel.frame _, fun h => by cases h⟩

theorem over : Rows.fnExactJobNewRow.holds Tryz.pinned (OpenSpec.ofChange Rows.fnExactJobNewSpec) :=
  OpenClaim.holds_of_wide 3 Tryz.f3 rfl rfl rfl rfl rfl rfl rfl ⟨rfl, rfl, rfl, rfl, rfl⟩ rfl rfl rfl rfl rfl (by kernel_rfl) Tryz.func3 (by kernel_rfl)
    (of_decide_eq_true (by kernel_rfl)) (by unfold Func.isWrapper; first | (rw [if_pos (by decide +kernel)]; kernel_rfl) | (rw [if_neg (by decide +kernel)]; exact ⟨rfl, rfl⟩))
    (fun os started H enc _ => lifted os started H enc)
end Go.Proofs.YtakifcobofkheaaGreatDoor.fnExactJobNew

/-
  JobNew of the program answers as its model in the specification does at every tree and everything kept that its reader can tell, every field; it writes into no argument, and its answer owns its memory. Under the card's condition: the listed variable of the library reads as it is laid.
-/
namespace Go.Proofs.YtakifcobofkheaaGreatDoor
open Go

theorem fnExactJobNew_holds : Rows.FnExactJobNewCardSaid :=
  Claim7.holds_tied_plain_at .later [] [.handle] true (true, "adbe438fc0a2d7aab89f8cc3728b247fa8877029e5457ace6e42cbf23df0c7b3") true
    fnExactJobNew.over (fun _ h => by cases h) (by kernel_rfl) (fun _ h => by cases h) fnExactJobNew_row_tie rfl ⟨rfl, rfl⟩ (by kernel_rfl) rfl
    (fun f fn hf hfn => by
      obtain rfl : f = 3 := Option.some.inj ((show Tryz.prog.funcNamed "loop.example/cellarage/laws.FnExactJobNew" = some 3 by kernel_rfl).symm.trans hf) |>.symm
      obtain rfl : fn = Tryz.f3 := (Option.some.inj (Tryz.func3.symm.trans hfn)).symm
      exact ⟨by kernel_rfl, fun j t ht => by
        rw [Tryz.params3] at ht
        have hm : t ∈ [24, 28] := by simpa using Array.mem_of_getElem? ht
        have hall : ([24, 28].all fun u => !Tryz.prog.wantsStandIn u) = true := by kernel_rfl
        exact (show Tryz.prog.wantsStandIn t = false by simpa using List.all_eq_true.1 hall t hm)⟩)
    (by kernel_rfl)
end Go.Proofs.YtakifcobofkheaaGreatDoor
