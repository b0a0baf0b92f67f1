/-
  For every two things kept, FnExactBackThen answers true: BackThen of the program answers as BackThen of the specification, in every field, writes into nothing that was handed in, and its answer owns its memory. No condition.
-/
import Derived.Test.YteoanlkmkmajjaaExBackThenB4
import Derived.Test.YteoanlkmkmajjaaRows
import Derived.ProofKit
import Derived.OpenShut
import Derived.ShutString
import Derived.ChangeOld
import Derived.WalkSmall

/-
  FnExactBackThen, walked.
-/
namespace Go.Proofs.Yteoanlkmkmajjaa
open Go.RowKit Go.Deep
set_option linter.unusedVariables false
set_option linter.unusedSimpArgs false
set_option linter.unnecessarySimpa false

theorem DSIn.cells2 {w : World} {d e : Dp} {l k : DLoc} {t : TypeId} {W : World} (h : DSIn w d e l k t W) :
    (W.cell? ⟨w.heap.size, 0, none⟩ = some (.int .i64 d.since) ∧ W.cell? ⟨w.heap.size, 1, none⟩ = some (.int .i64 d.date) ∧ W.cell? ⟨w.heap.size, 2, none⟩ = some (.slice l.lA d.ln l.lc) ∧ W.cell? ⟨w.heap.size, 3, none⟩ = some (.slice l.iA d.m l.ic)) ∧
    W.cell? ⟨w.heap.size + 1, 0, none⟩ = some (.int .i64 e.since) ∧ W.cell? ⟨w.heap.size + 1, 1, none⟩ = some (.int .i64 e.date) ∧ W.cell? ⟨w.heap.size + 1, 2, none⟩ = some (.slice k.lA e.ln k.lc) ∧ W.cell? ⟨w.heap.size + 1, 3, none⟩ = some (.slice k.iA e.m k.ic) :=
  ⟨⟨h.p.cell 0, h.p.cell 1, h.p.cell 2, h.p.cell 3⟩, h.p'.cell 0, h.p'.cell 1, h.p'.cell 2, h.p'.cell 3⟩

/-- What is known behind the calls. -/
structure FB (w w3 : World) (a b d : Dp) (la lb l1 lx ly l2 : DLoc) (V bA bB bG : Nat) (W : World) : Prop where
  ds : DSIn w a b la lb 43 W
  base : Below w3.heap.size w3 W
  v6 : Blk W V (dC d l1) 29
  v8 : Blk W bA (dC a lx) 29
  v9 : Blk W bB (dC b ly) 29
  vG : Blk W bG (dC d l2) 29
  wl : w.heap.size + 1 < w3.heap.size
  vl : V < w3.heap.size
  oA : w3.heap.size ≤ bA
  oB : bA < bB
  oG : bB < bG

section
variable {w w3 : World} {a b d : Dp} {la lb l1 lx ly l2 : DLoc} {V bA bB bG : Nat} {W W' : World}

theorem FB.below (h : FB w w3 a b d la lb l1 lx ly l2 V bA bB bG W) (hb : Below W.heap.size W W') : FB w w3 a b d la lb l1 lx ly l2 V bA bB bG W' :=
  ⟨h.ds.below hb, h.base.trans (hb.mono h.base.size), h.v6.below hb h.v6.lt, h.v8.below hb h.v8.lt, h.v9.below hb h.v9.lt, h.vG.below hb h.vG.lt, h.wl, h.vl, h.oA, h.oB, h.oG⟩

theorem FB.drew (h : FB w w3 a b d la lb l1 lx ly l2 V bA bB bG W) (k : Nat) : FB w w3 a b d la lb l1 lx ly l2 V bA bB bG (W.drewN k) := h.below (below_drewN (Below.refl _ _) k)

theorem FB.fr (h : FB w w3 a b d la lb l1 lx ly l2 V bA bB bG W) {B H : Nat} (hb : Fr B H W W') (hB : w3.heap.size ≤ B) (h8 : bA < B ∨ H ≤ bA) (h9 : bB < B ∨ H ≤ bB) (hG : bG < B ∨ H ≤ bG) : FB w w3 a b d la lb l1 lx ly l2 V bA bB bG W' := by
  have hwl := h.wl
  have hvl := h.vl
  have key : ∀ {q : Nat} {cs : Array Value} {t : TypeId}, Blk W q cs t → q < B ∨ H ≤ q → Blk W' q cs t := fun hq e => hq.of_block (by
    rcases e with e | e
    · exact hb.bel.block _ e
    · exact hb.far _ e hq.lt)
  exact ⟨⟨key h.ds.p (Or.inl (by omega)), key h.ds.p' (Or.inl (by omega)), h.ds.bel.trans (hb.bel.mono (by omega))⟩, h.base.trans (hb.bel.mono hB), key h.v6 (Or.inl (by omega)), key h.v8 h8, key h.v9 h9, key h.vG hG, h.wl, h.vl, h.oA, h.oB, h.oG⟩

end

theorem kap_le4 (D : Nat → Nd) (k0 : Nat) : ∀ m, kap D k0 m ≤ k0 + 4 * m + sizeTo D m
  | 0 => by simp [kap, sizeTo]
  | m + 1 => by
    have h1 := kap_le4 D k0 m
    rw [kap, sizeTo_succ]
    unfold Nd.size
    omega

theorem kap_size {d : Dp} (h : d.size ≤ 1048576) (k0 : Nat) : kap d.nd (k0 + d.ln) d.m ≤ k0 + 4194304 := by
  have h1 := kap_le4 d.nd (k0 + d.ln) d.m
  unfold Dp.size at h
  omega

theorem kap_ge1 (D : Nat → Nd) (k0 : Nat) (m : Nat) : k0 ≤ kap D k0 m := kap_ge D k0 m

set_option maxRecDepth 100000 in
set_option maxHeartbeats 16000000 in
theorem lawBackThen (a b : Dp) (la lb : DLoc) (w : World) (hA : DpIn w a la) (hB : DpIn w b lb) (hfa : a.Fits) (hfb : b.Fits) :
    Calls Try.prog 4 #[dpV a la, dpV b lb] w fun r w' => r = .returned (.bool true) ∧ Below w.heap.size w w' := by
  unfold dpV
  go_enter Try.func4, Try.ntmps4
  go_wp2_with fail
  refine at_world (F := New2 w _ _ _ _) (new2 w _ _ _ _) ?_
  rintro W ⟨hp, hp', hb, hs⟩
  have hN : DSIn w a b la lb 43 W := ⟨hp, hp', hb⟩
  clear hp hp' hb hs
  refine (szDump_any a la _ W (hA.below (Nat.le_refl _) hN.bel) hfa (by omega) (by omega)).mono ?_
  rintro r0 w1 ⟨hb1, r, rfl, hr1, hr2⟩
  have hN1 := hN.below hb1
  clear hb1 hN
  by_cases hr3 : r < 0
  · have hr3' : decide (r < 0) = true := by simp; omega
    have HB : Hid (Below w.heap.size w w1) := hN1.bel
    clear hN1 hr2
    go_wp2
    go_ret
    exact ⟨rfl, HB.out⟩
  · have hr3' : decide (r < 0) = false := by simp; omega
    have hsz1 := hr2 (by omega)
    obtain ⟨⟨u0, u1, u2, u3⟩, s0, s1, s2, s3⟩ := hN1.cells2
    have HB : Hid (DSIn w a b la lb 43 w1) := hN1
    clear hN1 hr2
    go_wp2_with fail
    refine (szDump_any b lb _ w1 (hB.below (Nat.le_refl _) HB.out.bel) hfb (by omega) (by omega)).mono ?_
    rintro r0 w2 ⟨hb2, r', rfl, hr1', hr2'⟩
    have hN2 := HB.out.below hb2
    clear hb2 HB s0 s1 s2 s3 u0 u1 u2 u3
    by_cases hr4 : r' < 0
    · have hr4' : decide (r' < 0) = true := by simp; omega
      have HB : Hid (Below w.heap.size w w2) := hN2.bel
      clear hN2 hr2'
      go_wp2
      go_ret
      exact ⟨rfl, HB.out⟩
    · have hr4' : decide (r' < 0) = false := by simp; omega
      have hsz2 := hr2' (by omega)
      have HSZ : Hid (a.size ≤ 1048576 ∧ b.size ≤ 1048576) := ⟨by omega, by omega⟩
      have H2 : Hid (DSIn w a b la lb 43 w2) := hN2
      obtain ⟨d, ok, hsm, hans⟩ := then_ans a b hfa hfb HSZ.out.1 HSZ.out.2
      have HANS : Hid _ := hans
      have HSM : Hid (DpSmall d) := hsm
      clear hN2 hr2' hsz1 hsz2 hans hsm
      go_wp2_with fail
      have HStp : Hid (∀ W', Below w2.heap.size w2 W' → (W'.cell? ⟨w.heap.size, 0, none⟩ = some (.int .i64 a.since) ∧ W'.cell? ⟨w.heap.size, 1, none⟩ = some (.int .i64 a.date) ∧ W'.cell? ⟨w.heap.size, 2, none⟩ = some (.slice la.lA a.ln la.lc) ∧ W'.cell? ⟨w.heap.size, 3, none⟩ = some (.slice la.iA a.m la.ic)) ∧ W'.cell? ⟨w.heap.size + 1, 0, none⟩ = some (.int .i64 b.since) ∧ W'.cell? ⟨w.heap.size + 1, 1, none⟩ = some (.int .i64 b.date) ∧ W'.cell? ⟨w.heap.size + 1, 2, none⟩ = some (.slice lb.lA b.ln lb.lc) ∧ W'.cell? ⟨w.heap.size + 1, 3, none⟩ = some (.slice lb.iA b.m lb.ic)) := fun W' hW => (H2.out.below hW).cells2
      have HTop : Hid (∀ W', Below w2.heap.size w2 W' → DpIn W' a la ∧ DpIn W' b lb) := fun W' hW => ⟨hA.below (Nat.le_refl _) (H2.out.below hW).bel, hB.below (Nat.le_refl _) (H2.out.below hW).bel⟩
      apply wp_cutqT (X := DLoc) (Y := DLoc) (Z := DLoc) (U := Nat) (fun _ _ l1 V W => Below w2.heap.size w2 W ∧ Blk W V (dC d l1) 29 ∧ DpIn W d l1 ∧ w2.heap.size ≤ V)
      · intro key
        have KEY : Hid _ := key
        clear key
        refine wp_region_noPanic ?_
        have hB0 : Below w2.heap.size w2 w2.drew := (Below.refl _ _).drew
        refine wp_region_peel (fun W' => (W'.cell? ⟨w.heap.size, 0, none⟩ = some (.int .i64 a.since) ∧ W'.cell? ⟨w.heap.size, 1, none⟩ = some (.int .i64 a.date) ∧ W'.cell? ⟨w.heap.size, 2, none⟩ = some (.slice la.lA a.ln la.lc) ∧ W'.cell? ⟨w.heap.size, 3, none⟩ = some (.slice la.iA a.m la.ic)) ∧ W'.cell? ⟨w.heap.size + 1, 0, none⟩ = some (.int .i64 b.since) ∧ W'.cell? ⟨w.heap.size + 1, 1, none⟩ = some (.int .i64 b.date) ∧ W'.cell? ⟨w.heap.size + 1, 2, none⟩ = some (.slice lb.lA b.ln lb.lc) ∧ W'.cell? ⟨w.heap.size + 1, 3, none⟩ = some (.slice lb.iA b.m lb.ic)) _ (by kernel_rfl) rfl (by kernel_rfl) ?_ (fun hHeld => ?_)
        · exact HStp.out _ hB0
        simp only [List.pop_toArray, List.dropLast, List.size_toArray, List.length_cons, List.length_nil, Nat.reduceAdd, Nat.reduceSub, List.getElem_toArray, List.getElem_cons_succ, List.getElem_cons_zero]
        refine peel_take (i := 0) (oi := ?oi0p) (v := ?v0p) (fun _ _ _ _ _ h => h) hHeld ?hi0p (by kernel_rfl) (by kernel_rfl) (by kernel_rfl) ?hw0p ?hy0p ?rest0p
        case hi0p =>
          simp only [List.getElem?_toArray, List.getElem?_cons_zero]
          rfl
        case hw0p => rfl
        case hy0p =>
          intro w hSw
          obtain ⟨⟨s0, s1, s2, s3⟩, s4, s5, s6, s7⟩ := hSw
          go_simp
          try with_reducible rfl
        try simp only [Act.put, List.setIfInBounds_toArray, List.set_cons_zero, List.set_cons_succ]
        refine peel_take (i := 2) (oi := ?oi2p) (v := ?v2p) (fun _ _ _ _ _ h => h) hHeld ?hi2p (by kernel_rfl) (by kernel_rfl) (by kernel_rfl) ?hw2p ?hy2p ?rest2p
        case hi2p =>
          simp only [List.getElem?_toArray, List.getElem?_cons_succ, List.getElem?_cons_zero]
          rfl
        case hw2p => rfl
        case hy2p =>
          intro w hSw
          obtain ⟨⟨s0, s1, s2, s3⟩, s4, s5, s6, s7⟩ := hSw
          go_simp
          try with_reducible rfl
        try simp only [Act.put, List.setIfInBounds_toArray, List.set_cons_zero, List.set_cons_succ]
        refine wpAnyH_ready (rs := [1, 8]) (by kernel_rfl) (by simp) ?_
        refine AllReadyH.cons (o := ?o1pq1a) ?ho1pq1a (fun K hK => ?st1pq1a) ?more1pq1a
        case ho1pq1a =>
          simp only [List.getElem?_toArray, List.getElem?_cons_succ, List.getElem?_cons_zero]
          rfl
        case st1pq1a =>
          go_simp
          refine (toDump_own a la _ (HTop.out _ hB0).1 HSZ.out.1).mono ?_
          rintro e wpq1a ⟨lA, rfl, hbc, hoc⟩
          unfold dpV
          have hBpq1a : Below w2.heap.size w2 wpq1a := hB0.trans (hbc.mono hB0.size)
          have hlApq1a := OwnDp.dpIn hoc
          clear hbc hoc
          refine hK.out _ _ (HStp.out _ hBpq1a) (fun hHeld => ?_)
          clear hK K
          try simp only [Act.put, List.setIfInBounds_toArray, List.set_cons_zero, List.set_cons_succ]
          refine wpAnyH_ready (rs := [3, 8]) (by kernel_rfl) (by simp) ?_
          refine AllReadyH.cons (o := ?o3pq2a) ?ho3pq2a (fun K hK => ?st3pq2a) ?more3pq2a
          case ho3pq2a =>
            simp only [List.getElem?_toArray, List.getElem?_cons_succ, List.getElem?_cons_zero]
            rfl
          case st3pq2a =>
            go_simp
            refine (toDump_own b lb _ (HTop.out _ hBpq1a).2 HSZ.out.2).mono ?_
            rintro e wpq2a ⟨lB, rfl, hbc, hoc⟩
            unfold dpV
            have hBpq2a : Below w2.heap.size w2 wpq2a := hBpq1a.trans (hbc.mono hBpq1a.size)
            have hlBpq2a := OwnDp.dpIn hoc
            have hlApq2a := hlApq1a.below (Nat.le_refl _) hbc
            clear hbc hoc
            refine hK.out _ _ (HStp.out _ hBpq2a) (fun hHeld => ?_)
            clear hK K
            try simp only [Act.put, List.setIfInBounds_toArray, List.set_cons_zero, List.set_cons_succ]
            refine wpAnyH_ready (rs := [4, 8]) (by kernel_rfl) (by simp) ?_
            refine AllReadyH.cons (o := ?o4pq3a) ?ho4pq3a (fun K hK => ?st4pq3a) ?more4pq3a
            case ho4pq3a =>
              simp only [List.getElem?_toArray, List.getElem?_cons_succ, List.getElem?_cons_zero]
              rfl
            case st4pq3a =>
              go_simp
              refine (specBackThen_any a b lA lB _ hlApq2a hlBpq2a hfa hfb HSZ.out.1 HSZ.out.2).mono ?_
              intro e wpq3a hpost
              obtain ⟨hbc, l1, rfl, hodpq3a⟩ := HANS.out _ _ _ hpost
              unfold dpV
              have hBpq3a : Below w2.heap.size w2 wpq3a := hBpq2a.trans (hbc.mono hBpq2a.size)
              clear hbc hpost
              refine hK.out _ _ (HStp.out _ hBpq3a) (fun hHeld => ?_)
              clear hK K
              try simp only [Act.put, List.setIfInBounds_toArray, List.set_cons_zero, List.set_cons_succ]
              refine peel_take (i := 5) (oi := ?oi5pq3a) (v := ?v5pq3a) (fun _ _ _ _ _ h => h) hHeld ?hi5pq3a (by kernel_rfl) (by kernel_rfl) (by kernel_rfl) ?hw5pq3a ?hy5pq3a ?rest5pq3a
              case hi5pq3a =>
                simp only [List.getElem?_toArray, List.getElem?_cons_succ, List.getElem?_cons_zero]
                rfl
              case hw5pq3a => rfl
              case hy5pq3a =>
                intro w hSw
                obtain ⟨⟨s0, s1, s2, s3⟩, s4, s5, s6, s7⟩ := hSw
                go_simp
                try with_reducible rfl
              try simp only [Act.put, List.setIfInBounds_toArray, List.set_cons_zero, List.set_cons_succ]
              refine peel_take (i := 6) (oi := ?oi6pq3a) (v := ?v6pq3a) (fun _ _ _ _ _ h => h) hHeld ?hi6pq3a (by kernel_rfl) (by kernel_rfl) (by kernel_rfl) ?hw6pq3a ?hy6pq3a ?rest6pq3a
              case hi6pq3a =>
                simp only [List.getElem?_toArray, List.getElem?_cons_succ, List.getElem?_cons_zero]
                rfl
              case hw6pq3a => rfl
              case hy6pq3a =>
                intro w hSw
                obtain ⟨⟨s0, s1, s2, s3⟩, s4, s5, s6, s7⟩ := hSw
                go_simp
                try with_reducible rfl
              try simp only [Act.put, List.setIfInBounds_toArray, List.set_cons_zero, List.set_cons_succ]
              refine peel_take (i := 7) (oi := ?oi7pq3a) (v := ?v7pq3a) (fun _ _ _ _ _ h => h) hHeld ?hi7pq3a (by kernel_rfl) (by kernel_rfl) (by kernel_rfl) ?hw7pq3a ?hy7pq3a ?rest7pq3a
              case hi7pq3a =>
                simp only [List.getElem?_toArray, List.getElem?_cons_succ, List.getElem?_cons_zero]
                rfl
              case hw7pq3a => rfl
              case hy7pq3a =>
                intro w hSw
                obtain ⟨⟨s0, s1, s2, s3⟩, s4, s5, s6, s7⟩ := hSw
                go_simp
                try with_reducible rfl
              try simp only [Act.put, List.setIfInBounds_toArray, List.set_cons_zero, List.set_cons_succ]
              refine wpAnyH_ready (rs := [8]) (by kernel_rfl) (by simp) ?_
              refine AllReadyH.cons (o := ?o8pq4a) ?ho8pq4a (fun K hK => ?st8pq4a) AllReadyH.nil
              case ho8pq4a =>
                simp only [List.getElem?_toArray, List.getElem?_cons_succ, List.getElem?_cons_zero]
                rfl
              go_simp
              have hBpq4a : Below w2.heap.size w2 (wpq3a.alloc (.cells #[.int .i64 0, .int .i64 0, .slice none 0 0, .slice none 0 0] 29)) := hBpq3a.alloc hBpq3a.size _
              have hvpq4a : Blk (wpq3a.alloc (.cells #[.int .i64 0, .int .i64 0, .slice none 0 0, .slice none 0 0] 29)) (wpq3a.heap.size) #[.int .i64 0, .int .i64 0, .slice none 0 0, .slice none 0 0] 29 := by
                have h := Blk.new wpq3a #[.int .i64 0, .int .i64 0, .slice none 0 0, .slice none 0 0] 29
                simpa using h
              have hVpq4a : w2.heap.size ≤ wpq3a.heap.size := by
                have h := hBpq3a.size
                simpa using h
              have hlApq4a := hlApq2a.below (Nat.le_refl _) ((Below.refl _ _).alloc (Nat.le_refl _) (.cells #[.int .i64 0, .int .i64 0, .slice none 0 0, .slice none 0 0] 29))
              have hlBpq4a := hlBpq2a.below (Nat.le_refl _) ((Below.refl _ _).alloc (Nat.le_refl _) (.cells #[.int .i64 0, .int .i64 0, .slice none 0 0, .slice none 0 0] 29))
              refine hK.out _ _ (HStp.out _ hBpq4a) (fun hHeld => ?_)
              clear hK K
              try simp only [Act.put, List.setIfInBounds_toArray, List.set_cons_zero, List.set_cons_succ]
              refine wpAnyH_ready (rs := [9]) (by kernel_rfl) (by simp) ?_
              refine AllReadyH.cons (o := ?o9pq5a) ?ho9pq5a (fun K hK => ?st9pq5a) AllReadyH.nil
              case ho9pq5a =>
                simp only [List.getElem?_toArray, List.getElem?_cons_succ, List.getElem?_cons_zero]
                rfl
              have HS : Hid (∀ U, U = wpq3a.alloc (.cells (dC d l1) 29) → Below w2.heap.size w2 U ∧ Blk U (wpq3a.heap.size) (dC d l1) 29 ∧ DpIn U d l1 ∧ w2.heap.size ≤ wpq3a.heap.size) := fun U e => by
                subst e
                exact ⟨hBpq3a.alloc hBpq3a.size _, Blk.new _ _ _, (OwnDp.dpIn hodpq3a).below (Nat.le_refl _) ((Below.refl _ _).alloc (Nat.le_refl _) _), hVpq4a⟩
              go_simp
              refine hK.out _ _ (HStp.out _ (HS.out _ rfl).1) (fun hHeld => ?_)
              clear hK K
              try simp only [Act.put, List.setIfInBounds_toArray, List.set_cons_zero, List.set_cons_succ]
              refine wpAnyH_done (by kernel_rfl) ?_ _
              show Oper.wp _ _ _ _ _ _
              go_simp
              generalize hV : wpq3a.heap.size = V
              exact NoPanic.normal (KEY.out lA lB l1 V _ (by rw [← hV]; exact HS.out _ rfl))
            refine AllReadyH.cons (o := ?o8pq3b) ?ho8pq3b (fun K hK => ?st8pq3b) AllReadyH.nil
            case ho8pq3b =>
              simp only [List.getElem?_toArray, List.getElem?_cons_succ, List.getElem?_cons_zero]
              rfl
            go_simp
            have hBpq3b : Below w2.heap.size w2 (wpq2a.alloc (.cells #[.int .i64 0, .int .i64 0, .slice none 0 0, .slice none 0 0] 29)) := hBpq2a.alloc hBpq2a.size _
            have hvpq3b : Blk (wpq2a.alloc (.cells #[.int .i64 0, .int .i64 0, .slice none 0 0, .slice none 0 0] 29)) (wpq2a.heap.size) #[.int .i64 0, .int .i64 0, .slice none 0 0, .slice none 0 0] 29 := by
              have h := Blk.new wpq2a #[.int .i64 0, .int .i64 0, .slice none 0 0, .slice none 0 0] 29
              simpa using h
            have hVpq3b : w2.heap.size ≤ wpq2a.heap.size := by
              have h := hBpq2a.size
              simpa using h
            have hlApq3b := hlApq2a.below (Nat.le_refl _) ((Below.refl _ _).alloc (Nat.le_refl _) (.cells #[.int .i64 0, .int .i64 0, .slice none 0 0, .slice none 0 0] 29))
            have hlBpq3b := hlBpq2a.below (Nat.le_refl _) ((Below.refl _ _).alloc (Nat.le_refl _) (.cells #[.int .i64 0, .int .i64 0, .slice none 0 0, .slice none 0 0] 29))
            refine hK.out _ _ (HStp.out _ hBpq3b) (fun hHeld => ?_)
            clear hK K
            try simp only [Act.put, List.setIfInBounds_toArray, List.set_cons_zero, List.set_cons_succ]
            refine wpAnyH_ready (rs := [4]) (by kernel_rfl) (by simp) ?_
            refine AllReadyH.cons (o := ?o4pq7a) ?ho4pq7a (fun K hK => ?st4pq7a) AllReadyH.nil
            case ho4pq7a =>
              simp only [List.getElem?_toArray, List.getElem?_cons_succ, List.getElem?_cons_zero]
              rfl
            go_simp
            refine (specBackThen_any a b lA lB _ hlApq3b hlBpq3b hfa hfb HSZ.out.1 HSZ.out.2).mono ?_
            intro e wpq7a hpost
            obtain ⟨hbc, l1, rfl, hodpq7a⟩ := HANS.out _ _ _ hpost
            unfold dpV
            have hBpq7a : Below w2.heap.size w2 wpq7a := hBpq3b.trans (hbc.mono hBpq3b.size)
            have hvpq7a : Blk wpq7a (wpq2a.heap.size) #[.int .i64 0, .int .i64 0, .slice none 0 0, .slice none 0 0] 29 := hvpq3b.below hbc hvpq3b.lt
            have hltpq7a := hvpq3b.lt
            clear hbc hpost
            refine hK.out _ _ (HStp.out _ hBpq7a) (fun hHeld => ?_)
            clear hK K
            try simp only [Act.put, List.setIfInBounds_toArray, List.set_cons_zero, List.set_cons_succ]
            refine peel_take (i := 5) (oi := ?oi5pq7a) (v := ?v5pq7a) (fun _ _ _ _ _ h => h) hHeld ?hi5pq7a (by kernel_rfl) (by kernel_rfl) (by kernel_rfl) ?hw5pq7a ?hy5pq7a ?rest5pq7a
            case hi5pq7a =>
              simp only [List.getElem?_toArray, List.getElem?_cons_succ, List.getElem?_cons_zero]
              rfl
            case hw5pq7a => rfl
            case hy5pq7a =>
              intro w hSw
              obtain ⟨⟨s0, s1, s2, s3⟩, s4, s5, s6, s7⟩ := hSw
              go_simp
              try with_reducible rfl
            try simp only [Act.put, List.setIfInBounds_toArray, List.set_cons_zero, List.set_cons_succ]
            refine peel_take (i := 6) (oi := ?oi6pq7a) (v := ?v6pq7a) (fun _ _ _ _ _ h => h) hHeld ?hi6pq7a (by kernel_rfl) (by kernel_rfl) (by kernel_rfl) ?hw6pq7a ?hy6pq7a ?rest6pq7a
            case hi6pq7a =>
              simp only [List.getElem?_toArray, List.getElem?_cons_succ, List.getElem?_cons_zero]
              rfl
            case hw6pq7a => rfl
            case hy6pq7a =>
              intro w hSw
              obtain ⟨⟨s0, s1, s2, s3⟩, s4, s5, s6, s7⟩ := hSw
              go_simp
              try with_reducible rfl
            try simp only [Act.put, List.setIfInBounds_toArray, List.set_cons_zero, List.set_cons_succ]
            refine peel_take (i := 7) (oi := ?oi7pq7a) (v := ?v7pq7a) (fun _ _ _ _ _ h => h) hHeld ?hi7pq7a (by kernel_rfl) (by kernel_rfl) (by kernel_rfl) ?hw7pq7a ?hy7pq7a ?rest7pq7a
            case hi7pq7a =>
              simp only [List.getElem?_toArray, List.getElem?_cons_succ, List.getElem?_cons_zero]
              rfl
            case hw7pq7a => rfl
            case hy7pq7a =>
              intro w hSw
              obtain ⟨⟨s0, s1, s2, s3⟩, s4, s5, s6, s7⟩ := hSw
              go_simp
              try with_reducible rfl
            try simp only [Act.put, List.setIfInBounds_toArray, List.set_cons_zero, List.set_cons_succ]
            refine wpAnyH_ready (rs := [9]) (by kernel_rfl) (by simp) ?_
            refine AllReadyH.cons (o := ?o9pq8a) ?ho9pq8a (fun K hK => ?st9pq8a) AllReadyH.nil
            case ho9pq8a =>
              simp only [List.getElem?_toArray, List.getElem?_cons_succ, List.getElem?_cons_zero]
              rfl
            have z0 := hvpq7a.cell 0
            have z1 := hvpq7a.cell 1
            have z2 := hvpq7a.cell 2
            have z3 := hvpq7a.cell 3
            have f0 := hvpq7a.frozen 0
            have f1 := hvpq7a.frozen 1
            have f2 := hvpq7a.frozen 2
            have f3 := hvpq7a.frozen 3
            simp at z0 z1 z2 z3
            have HS : Hid (∀ U, U = ((((wpq7a.setCell ⟨wpq2a.heap.size, 0, none⟩ (.int .i64 d.since)).setCell ⟨wpq2a.heap.size, 1, none⟩ (.int .i64 d.date)).setCell ⟨wpq2a.heap.size, 2, none⟩ (.slice l1.lA d.ln l1.lc)).setCell ⟨wpq2a.heap.size, 3, none⟩ (.slice l1.iA d.m l1.ic)) → Below w2.heap.size w2 U ∧ Blk U (wpq2a.heap.size) (dC d l1) 29 ∧ DpIn U d l1 ∧ w2.heap.size ≤ wpq2a.heap.size) := fun U e => by
              subst e
              exact ⟨bel_put (bel_put (bel_put (bel_put hBpq7a _ hVpq3b) _ hVpq3b) _ hVpq3b) _ hVpq3b, (((hvpq7a.set 0 _).set 1 _).set 2 _).set 3 _, OwnDp.dpIn (OD.off (OD.off (OD.off (OD.off hodpq7a _ hltpq7a) _ hltpq7a) _ hltpq7a) _ hltpq7a), hVpq3b⟩
            go_simp
            refine hK.out _ _ (HStp.out _ (HS.out _ rfl).1) (fun hHeld => ?_)
            clear hK K
            try simp only [Act.put, List.setIfInBounds_toArray, List.set_cons_zero, List.set_cons_succ]
            refine wpAnyH_done (by kernel_rfl) ?_ _
            show Oper.wp _ _ _ _ _ _
            go_simp
            generalize hV : wpq2a.heap.size = V
            exact NoPanic.normal (KEY.out lA lB l1 V _ (by rw [← hV]; exact HS.out _ rfl))
          refine AllReadyH.cons (o := ?o8pq2b) ?ho8pq2b (fun K hK => ?st8pq2b) AllReadyH.nil
          case ho8pq2b =>
            simp only [List.getElem?_toArray, List.getElem?_cons_succ, List.getElem?_cons_zero]
            rfl
          go_simp
          have hBpq2b : Below w2.heap.size w2 (wpq1a.alloc (.cells #[.int .i64 0, .int .i64 0, .slice none 0 0, .slice none 0 0] 29)) := hBpq1a.alloc hBpq1a.size _
          have hvpq2b : Blk (wpq1a.alloc (.cells #[.int .i64 0, .int .i64 0, .slice none 0 0, .slice none 0 0] 29)) (wpq1a.heap.size) #[.int .i64 0, .int .i64 0, .slice none 0 0, .slice none 0 0] 29 := by
            have h := Blk.new wpq1a #[.int .i64 0, .int .i64 0, .slice none 0 0, .slice none 0 0] 29
            simpa using h
          have hVpq2b : w2.heap.size ≤ wpq1a.heap.size := by
            have h := hBpq1a.size
            simpa using h
          have hlApq2b := hlApq1a.below (Nat.le_refl _) ((Below.refl _ _).alloc (Nat.le_refl _) (.cells #[.int .i64 0, .int .i64 0, .slice none 0 0, .slice none 0 0] 29))
          refine hK.out _ _ (HStp.out _ hBpq2b) (fun hHeld => ?_)
          clear hK K
          try simp only [Act.put, List.setIfInBounds_toArray, List.set_cons_zero, List.set_cons_succ]
          refine wpAnyH_ready (rs := [3]) (by kernel_rfl) (by simp) ?_
          refine AllReadyH.cons (o := ?o3pq10a) ?ho3pq10a (fun K hK => ?st3pq10a) AllReadyH.nil
          case ho3pq10a =>
            simp only [List.getElem?_toArray, List.getElem?_cons_succ, List.getElem?_cons_zero]
            rfl
          go_simp
          refine (toDump_own b lb _ (HTop.out _ hBpq2b).2 HSZ.out.2).mono ?_
          rintro e wpq10a ⟨lB, rfl, hbc, hoc⟩
          unfold dpV
          have hBpq10a : Below w2.heap.size w2 wpq10a := hBpq2b.trans (hbc.mono hBpq2b.size)
          have hlBpq10a := OwnDp.dpIn hoc
          have hlApq10a := hlApq2b.below (Nat.le_refl _) hbc
          have hvpq10a : Blk wpq10a (wpq1a.heap.size) #[.int .i64 0, .int .i64 0, .slice none 0 0, .slice none 0 0] 29 := hvpq2b.below hbc hvpq2b.lt
          clear hbc hoc
          refine hK.out _ _ (HStp.out _ hBpq10a) (fun hHeld => ?_)
          clear hK K
          try simp only [Act.put, List.setIfInBounds_toArray, List.set_cons_zero, List.set_cons_succ]
          refine wpAnyH_ready (rs := [4]) (by kernel_rfl) (by simp) ?_
          refine AllReadyH.cons (o := ?o4pq11a) ?ho4pq11a (fun K hK => ?st4pq11a) AllReadyH.nil
          case ho4pq11a =>
            simp only [List.getElem?_toArray, List.getElem?_cons_succ, List.getElem?_cons_zero]
            rfl
          go_simp
          refine (specBackThen_any a b lA lB _ hlApq10a hlBpq10a hfa hfb HSZ.out.1 HSZ.out.2).mono ?_
          intro e wpq11a hpost
          obtain ⟨hbc, l1, rfl, hodpq11a⟩ := HANS.out _ _ _ hpost
          unfold dpV
          have hBpq11a : Below w2.heap.size w2 wpq11a := hBpq10a.trans (hbc.mono hBpq10a.size)
          have hvpq11a : Blk wpq11a (wpq1a.heap.size) #[.int .i64 0, .int .i64 0, .slice none 0 0, .slice none 0 0] 29 := hvpq10a.below hbc hvpq10a.lt
          have hltpq11a := hvpq10a.lt
          clear hbc hpost
          refine hK.out _ _ (HStp.out _ hBpq11a) (fun hHeld => ?_)
          clear hK K
          try simp only [Act.put, List.setIfInBounds_toArray, List.set_cons_zero, List.set_cons_succ]
          refine peel_take (i := 5) (oi := ?oi5pq11a) (v := ?v5pq11a) (fun _ _ _ _ _ h => h) hHeld ?hi5pq11a (by kernel_rfl) (by kernel_rfl) (by kernel_rfl) ?hw5pq11a ?hy5pq11a ?rest5pq11a
          case hi5pq11a =>
            simp only [List.getElem?_toArray, List.getElem?_cons_succ, List.getElem?_cons_zero]
            rfl
          case hw5pq11a => rfl
          case hy5pq11a =>
            intro w hSw
            obtain ⟨⟨s0, s1, s2, s3⟩, s4, s5, s6, s7⟩ := hSw
            go_simp
            try with_reducible rfl
          try simp only [Act.put, List.setIfInBounds_toArray, List.set_cons_zero, List.set_cons_succ]
          refine peel_take (i := 6) (oi := ?oi6pq11a) (v := ?v6pq11a) (fun _ _ _ _ _ h => h) hHeld ?hi6pq11a (by kernel_rfl) (by kernel_rfl) (by kernel_rfl) ?hw6pq11a ?hy6pq11a ?rest6pq11a
          case hi6pq11a =>
            simp only [List.getElem?_toArray, List.getElem?_cons_succ, List.getElem?_cons_zero]
            rfl
          case hw6pq11a => rfl
          case hy6pq11a =>
            intro w hSw
            obtain ⟨⟨s0, s1, s2, s3⟩, s4, s5, s6, s7⟩ := hSw
            go_simp
            try with_reducible rfl
          try simp only [Act.put, List.setIfInBounds_toArray, List.set_cons_zero, List.set_cons_succ]
          refine peel_take (i := 7) (oi := ?oi7pq11a) (v := ?v7pq11a) (fun _ _ _ _ _ h => h) hHeld ?hi7pq11a (by kernel_rfl) (by kernel_rfl) (by kernel_rfl) ?hw7pq11a ?hy7pq11a ?rest7pq11a
          case hi7pq11a =>
            simp only [List.getElem?_toArray, List.getElem?_cons_succ, List.getElem?_cons_zero]
            rfl
          case hw7pq11a => rfl
          case hy7pq11a =>
            intro w hSw
            obtain ⟨⟨s0, s1, s2, s3⟩, s4, s5, s6, s7⟩ := hSw
            go_simp
            try with_reducible rfl
          try simp only [Act.put, List.setIfInBounds_toArray, List.set_cons_zero, List.set_cons_succ]
          refine wpAnyH_ready (rs := [9]) (by kernel_rfl) (by simp) ?_
          refine AllReadyH.cons (o := ?o9pq12a) ?ho9pq12a (fun K hK => ?st9pq12a) AllReadyH.nil
          case ho9pq12a =>
            simp only [List.getElem?_toArray, List.getElem?_cons_succ, List.getElem?_cons_zero]
            rfl
          have z0 := hvpq11a.cell 0
          have z1 := hvpq11a.cell 1
          have z2 := hvpq11a.cell 2
          have z3 := hvpq11a.cell 3
          have f0 := hvpq11a.frozen 0
          have f1 := hvpq11a.frozen 1
          have f2 := hvpq11a.frozen 2
          have f3 := hvpq11a.frozen 3
          simp at z0 z1 z2 z3
          have HS : Hid (∀ U, U = ((((wpq11a.setCell ⟨wpq1a.heap.size, 0, none⟩ (.int .i64 d.since)).setCell ⟨wpq1a.heap.size, 1, none⟩ (.int .i64 d.date)).setCell ⟨wpq1a.heap.size, 2, none⟩ (.slice l1.lA d.ln l1.lc)).setCell ⟨wpq1a.heap.size, 3, none⟩ (.slice l1.iA d.m l1.ic)) → Below w2.heap.size w2 U ∧ Blk U (wpq1a.heap.size) (dC d l1) 29 ∧ DpIn U d l1 ∧ w2.heap.size ≤ wpq1a.heap.size) := fun U e => by
            subst e
            exact ⟨bel_put (bel_put (bel_put (bel_put hBpq11a _ hVpq2b) _ hVpq2b) _ hVpq2b) _ hVpq2b, (((hvpq11a.set 0 _).set 1 _).set 2 _).set 3 _, OwnDp.dpIn (OD.off (OD.off (OD.off (OD.off hodpq11a _ hltpq11a) _ hltpq11a) _ hltpq11a) _ hltpq11a), hVpq2b⟩
          go_simp
          refine hK.out _ _ (HStp.out _ (HS.out _ rfl).1) (fun hHeld => ?_)
          clear hK K
          try simp only [Act.put, List.setIfInBounds_toArray, List.set_cons_zero, List.set_cons_succ]
          refine wpAnyH_done (by kernel_rfl) ?_ _
          show Oper.wp _ _ _ _ _ _
          go_simp
          generalize hV : wpq1a.heap.size = V
          exact NoPanic.normal (KEY.out lA lB l1 V _ (by rw [← hV]; exact HS.out _ rfl))
        refine AllReadyH.cons (o := ?o8pq1b) ?ho8pq1b (fun K hK => ?st8pq1b) AllReadyH.nil
        case ho8pq1b =>
          simp only [List.getElem?_toArray, List.getElem?_cons_succ, List.getElem?_cons_zero]
          rfl
        go_simp
        have hBpq1b : Below w2.heap.size w2 (w2.drew.alloc (.cells #[.int .i64 0, .int .i64 0, .slice none 0 0, .slice none 0 0] 29)) := hB0.alloc hB0.size _
        have hvpq1b : Blk (w2.drew.alloc (.cells #[.int .i64 0, .int .i64 0, .slice none 0 0, .slice none 0 0] 29)) (w2.heap.size) #[.int .i64 0, .int .i64 0, .slice none 0 0, .slice none 0 0] 29 := by
          have h := Blk.new w2.drew #[.int .i64 0, .int .i64 0, .slice none 0 0, .slice none 0 0] 29
          simpa using h
        have hVpq1b : w2.heap.size ≤ w2.heap.size := by
          have h := hB0.size
          simpa using h
        refine hK.out _ _ (HStp.out _ hBpq1b) (fun hHeld => ?_)
        clear hK K
        try simp only [Act.put, List.setIfInBounds_toArray, List.set_cons_zero, List.set_cons_succ]
        refine wpAnyH_ready (rs := [1]) (by kernel_rfl) (by simp) ?_
        refine AllReadyH.cons (o := ?o1pq14a) ?ho1pq14a (fun K hK => ?st1pq14a) AllReadyH.nil
        case ho1pq14a =>
          simp only [List.getElem?_toArray, List.getElem?_cons_succ, List.getElem?_cons_zero]
          rfl
        go_simp
        refine (toDump_own a la _ (HTop.out _ hBpq1b).1 HSZ.out.1).mono ?_
        rintro e wpq14a ⟨lA, rfl, hbc, hoc⟩
        unfold dpV
        have hBpq14a : Below w2.heap.size w2 wpq14a := hBpq1b.trans (hbc.mono hBpq1b.size)
        have hlApq14a := OwnDp.dpIn hoc
        have hvpq14a : Blk wpq14a (w2.heap.size) #[.int .i64 0, .int .i64 0, .slice none 0 0, .slice none 0 0] 29 := hvpq1b.below hbc hvpq1b.lt
        clear hbc hoc
        refine hK.out _ _ (HStp.out _ hBpq14a) (fun hHeld => ?_)
        clear hK K
        try simp only [Act.put, List.setIfInBounds_toArray, List.set_cons_zero, List.set_cons_succ]
        refine wpAnyH_ready (rs := [3]) (by kernel_rfl) (by simp) ?_
        refine AllReadyH.cons (o := ?o3pq15a) ?ho3pq15a (fun K hK => ?st3pq15a) AllReadyH.nil
        case ho3pq15a =>
          simp only [List.getElem?_toArray, List.getElem?_cons_succ, List.getElem?_cons_zero]
          rfl
        go_simp
        refine (toDump_own b lb _ (HTop.out _ hBpq14a).2 HSZ.out.2).mono ?_
        rintro e wpq15a ⟨lB, rfl, hbc, hoc⟩
        unfold dpV
        have hBpq15a : Below w2.heap.size w2 wpq15a := hBpq14a.trans (hbc.mono hBpq14a.size)
        have hlBpq15a := OwnDp.dpIn hoc
        have hlApq15a := hlApq14a.below (Nat.le_refl _) hbc
        have hvpq15a : Blk wpq15a (w2.heap.size) #[.int .i64 0, .int .i64 0, .slice none 0 0, .slice none 0 0] 29 := hvpq14a.below hbc hvpq14a.lt
        clear hbc hoc
        refine hK.out _ _ (HStp.out _ hBpq15a) (fun hHeld => ?_)
        clear hK K
        try simp only [Act.put, List.setIfInBounds_toArray, List.set_cons_zero, List.set_cons_succ]
        refine wpAnyH_ready (rs := [4]) (by kernel_rfl) (by simp) ?_
        refine AllReadyH.cons (o := ?o4pq16a) ?ho4pq16a (fun K hK => ?st4pq16a) AllReadyH.nil
        case ho4pq16a =>
          simp only [List.getElem?_toArray, List.getElem?_cons_succ, List.getElem?_cons_zero]
          rfl
        go_simp
        refine (specBackThen_any a b lA lB _ hlApq15a hlBpq15a hfa hfb HSZ.out.1 HSZ.out.2).mono ?_
        intro e wpq16a hpost
        obtain ⟨hbc, l1, rfl, hodpq16a⟩ := HANS.out _ _ _ hpost
        unfold dpV
        have hBpq16a : Below w2.heap.size w2 wpq16a := hBpq15a.trans (hbc.mono hBpq15a.size)
        have hvpq16a : Blk wpq16a (w2.heap.size) #[.int .i64 0, .int .i64 0, .slice none 0 0, .slice none 0 0] 29 := hvpq15a.below hbc hvpq15a.lt
        have hltpq16a := hvpq15a.lt
        clear hbc hpost
        refine hK.out _ _ (HStp.out _ hBpq16a) (fun hHeld => ?_)
        clear hK K
        try simp only [Act.put, List.setIfInBounds_toArray, List.set_cons_zero, List.set_cons_succ]
        refine peel_take (i := 5) (oi := ?oi5pq16a) (v := ?v5pq16a) (fun _ _ _ _ _ h => h) hHeld ?hi5pq16a (by kernel_rfl) (by kernel_rfl) (by kernel_rfl) ?hw5pq16a ?hy5pq16a ?rest5pq16a
        case hi5pq16a =>
          simp only [List.getElem?_toArray, List.getElem?_cons_succ, List.getElem?_cons_zero]
          rfl
        case hw5pq16a => rfl
        case hy5pq16a =>
          intro w hSw
          obtain ⟨⟨s0, s1, s2, s3⟩, s4, s5, s6, s7⟩ := hSw
          go_simp
          try with_reducible rfl
        try simp only [Act.put, List.setIfInBounds_toArray, List.set_cons_zero, List.set_cons_succ]
        refine peel_take (i := 6) (oi := ?oi6pq16a) (v := ?v6pq16a) (fun _ _ _ _ _ h => h) hHeld ?hi6pq16a (by kernel_rfl) (by kernel_rfl) (by kernel_rfl) ?hw6pq16a ?hy6pq16a ?rest6pq16a
        case hi6pq16a =>
          simp only [List.getElem?_toArray, List.getElem?_cons_succ, List.getElem?_cons_zero]
          rfl
        case hw6pq16a => rfl
        case hy6pq16a =>
          intro w hSw
          obtain ⟨⟨s0, s1, s2, s3⟩, s4, s5, s6, s7⟩ := hSw
          go_simp
          try with_reducible rfl
        try simp only [Act.put, List.setIfInBounds_toArray, List.set_cons_zero, List.set_cons_succ]
        refine peel_take (i := 7) (oi := ?oi7pq16a) (v := ?v7pq16a) (fun _ _ _ _ _ h => h) hHeld ?hi7pq16a (by kernel_rfl) (by kernel_rfl) (by kernel_rfl) ?hw7pq16a ?hy7pq16a ?rest7pq16a
        case hi7pq16a =>
          simp only [List.getElem?_toArray, List.getElem?_cons_succ, List.getElem?_cons_zero]
          rfl
        case hw7pq16a => rfl
        case hy7pq16a =>
          intro w hSw
          obtain ⟨⟨s0, s1, s2, s3⟩, s4, s5, s6, s7⟩ := hSw
          go_simp
          try with_reducible rfl
        try simp only [Act.put, List.setIfInBounds_toArray, List.set_cons_zero, List.set_cons_succ]
        refine wpAnyH_ready (rs := [9]) (by kernel_rfl) (by simp) ?_
        refine AllReadyH.cons (o := ?o9pq17a) ?ho9pq17a (fun K hK => ?st9pq17a) AllReadyH.nil
        case ho9pq17a =>
          simp only [List.getElem?_toArray, List.getElem?_cons_succ, List.getElem?_cons_zero]
          rfl
        have z0 := hvpq16a.cell 0
        have z1 := hvpq16a.cell 1
        have z2 := hvpq16a.cell 2
        have z3 := hvpq16a.cell 3
        have f0 := hvpq16a.frozen 0
        have f1 := hvpq16a.frozen 1
        have f2 := hvpq16a.frozen 2
        have f3 := hvpq16a.frozen 3
        simp at z0 z1 z2 z3
        have HS : Hid (∀ U, U = ((((wpq16a.setCell ⟨w2.heap.size, 0, none⟩ (.int .i64 d.since)).setCell ⟨w2.heap.size, 1, none⟩ (.int .i64 d.date)).setCell ⟨w2.heap.size, 2, none⟩ (.slice l1.lA d.ln l1.lc)).setCell ⟨w2.heap.size, 3, none⟩ (.slice l1.iA d.m l1.ic)) → Below w2.heap.size w2 U ∧ Blk U (w2.heap.size) (dC d l1) 29 ∧ DpIn U d l1 ∧ w2.heap.size ≤ w2.heap.size) := fun U e => by
          subst e
          exact ⟨bel_put (bel_put (bel_put (bel_put hBpq16a _ hVpq1b) _ hVpq1b) _ hVpq1b) _ hVpq1b, (((hvpq16a.set 0 _).set 1 _).set 2 _).set 3 _, OwnDp.dpIn (OD.off (OD.off (OD.off (OD.off hodpq16a _ hltpq16a) _ hltpq16a) _ hltpq16a) _ hltpq16a), hVpq1b⟩
        go_simp
        refine hK.out _ _ (HStp.out _ (HS.out _ rfl).1) (fun hHeld => ?_)
        clear hK K
        try simp only [Act.put, List.setIfInBounds_toArray, List.set_cons_zero, List.set_cons_succ]
        refine wpAnyH_done (by kernel_rfl) ?_ _
        show Oper.wp _ _ _ _ _ _
        go_simp
        generalize hV : w2.heap.size = V
        exact NoPanic.normal (KEY.out lA lB l1 V _ (by rw [← hV]; exact HS.out _ rfl))
      · intro lA lB l1 V W3 h3
        obtain ⟨hb3, hv3, hi3, hVge⟩ := h3
        have H3 : Hid (DSIn w a b la lb 43 W3 ∧ Blk W3 V (dC d l1) 29) := ⟨H2.out.below hb3, hv3⟩
        have HI3 : Hid (DpIn W3 d l1) := hi3
        have hVl := hv3.lt
        have hwl : w.heap.size + 1 < W3.heap.size := H3.out.1.p'.lt
        clear hb3 hv3 hi3 H2 HStp HTop hVge
        obtain ⟨⟨u0, u1, u2, u3⟩, s0, s1, s2, s3⟩ := H3.out.1.cells2
        go_wp2_with fail
        refine (toDump_own a la W3 (hA.below (Nat.le_refl _) H3.out.1.bel) HSZ.out.1).mono ?_
        rintro e w4 ⟨lx, rfl, hb4, hox⟩
        unfold dpV
        have H4 : Hid (DSIn w a b la lb 43 w4 ∧ Below W3.heap.size W3 w4 ∧ OwnDp w4 W3.heap.size a lx) := ⟨H3.out.1.below hb4, hb4, hox⟩
        have hl4 : W3.heap.size ≤ w4.heap.size := hb4.size
        have hwl4 : w.heap.size + 1 < w4.heap.size := by omega
        clear hb4 hox u0 u1 u2 u3 s0 s1 s2 s3
        obtain ⟨⟨u0, u1, u2, u3⟩, s0, s1, s2, s3⟩ := H4.out.1.cells2
        go_wp2_with fail
        refine at_world (F := New1 w4 (dC a lx) 29) (new1 w4 _ _) ?_
        rintro W5 ⟨hv8, hb5, hs5⟩
        have hds5 := H4.out.1.below hb5
        refine (toDump_own b lb W5 (hB.below (Nat.le_refl _) hds5.bel) HSZ.out.2).mono ?_
        rintro e w6 ⟨ly, rfl, hb6, hoy⟩
        unfold dpV
        have hb46 : Below w4.heap.size w4 w6 := hb5.trans (hb6.mono (by omega))
        have H6 : Hid (DSIn w a b la lb 43 w6 ∧ Below W3.heap.size W3 w6 ∧ OwnDp w6 W3.heap.size a lx ∧ Blk w6 w4.heap.size (dC a lx) 29 ∧ OwnDp w6 W5.heap.size b ly) := ⟨hds5.below hb6, H4.out.2.1.trans (hb46.mono (by omega)), OD.below H4.out.2.2 hb46, hv8.below hb6 (by omega), hoy⟩
        have HRX : Hid (∀ dd q, dd < 2 + 2 * a.m → (valD (.slice lx.lA a.ln lx.lc) (.slice lx.iA a.m lx.ic) a.nd lx.L dd).ownBlock = some q → q < w4.heap.size) := fun dd q hd e => (owns_block (H4.out.2.2.rows.own dd hd) e).2
        have hs5' : W5.heap.size = w4.heap.size + 1 := hs5
        have hl6 : w4.heap.size < w6.heap.size := by have := hb6.size; omega
        have hne46 : w4.heap.size ≠ w6.heap.size := by omega
        clear hb5 hb6 hb46 hv8 hoy hs5 hds5 H4 u0 u1 u2 u3 s0 s1 s2 s3
        generalize W5.heap.size = BY at *
        obtain ⟨x0, x1, x2, x3⟩ := dC_cells H6.out.2.2.2.1
        go_wp2_with fail
        refine at_world (F := New1 w6 (dC b ly) 29) (new1 w6 _ _) ?_
        rintro W7 ⟨hv9, hb7, hs7⟩
        refine (implBackThen_any a b lx ly W7 (OwnDp.dpIn (OD.below H6.out.2.2.1 hb7)) (OwnDp.dpIn (OD.below H6.out.2.2.2.2 hb7)) hfa hfb HSZ.out.1 HSZ.out.2).mono ?_
        intro e w8 hpost
        obtain ⟨hb8, l2, rfl, hog⟩ := HANS.out _ _ _ hpost
        unfold dpV
        have hb68 : Below w6.heap.size w6 w8 := hb7.trans (hb8.mono (by omega))
        have hb38 : Below W3.heap.size W3 w8 := H6.out.2.1.trans (hb68.mono (by omega))
        have H8 : Hid (DSIn w a b la lb 43 w8 ∧ Below W3.heap.size W3 w8 ∧ OwnDp w8 W3.heap.size a lx ∧ Blk w8 w4.heap.size (dC a lx) 29 ∧ OwnDp w8 BY b ly ∧ Blk w8 w6.heap.size (dC b ly) 29 ∧ Blk w8 V (dC d l1) 29 ∧ OwnDp w8 W7.heap.size d l2) := ⟨H6.out.1.below hb68, hb38, OD.below H6.out.2.2.1 hb68, H6.out.2.2.2.1.below hb68 (by omega), OD.below H6.out.2.2.2.2 hb68, hv9.below hb8 (by omega), H3.out.2.below hb38 hVl, hog⟩
        have HRY : Hid (∀ dd q, dd < 2 + 2 * b.m → (valD (.slice ly.lA b.ln ly.lc) (.slice ly.iA b.m ly.ic) b.nd ly.L dd).ownBlock = some q → q < w6.heap.size) := fun dd q hd e => (owns_block (H6.out.2.2.2.2.rows.own dd hd) e).2
        have HRG : Hid (∀ dd q, dd < 2 + 2 * d.m → (valD (.slice l2.lA d.ln l2.lc) (.slice l2.iA d.m l2.ic) d.nd l2.L dd).ownBlock = some q → q < w8.heap.size) := fun dd q hd e => (owns_block (hog.rows.own dd hd) e).2
        have hs7' : W7.heap.size = w6.heap.size + 1 := hs7
        have hl8 : w6.heap.size < w8.heap.size := by have := hb8.size; omega
        have hV8 : V < w8.heap.size := by omega
        have hVne : V ≠ w8.heap.size := by omega
        have hne : (!(ok == ok)) = false := by cases ok <;> rfl
        clear hb7 hb8 hb68 hb38 hv9 hog hs7 hpost H6 x0 x1 x2 x3
        generalize W7.heap.size = BG at *
        obtain ⟨z0, z1, z2, z3⟩ := dC_cells H8.out.2.2.2.2.2.2.1
        go_wp2_with fail
        clear z0 z1 z2 z3
        have HF9 : Hid (∀ W9, W9 = w8.alloc (.cells (dC d l2) 29) → FB w W3 a b d la lb l1 lx ly l2 V w4.heap.size w6.heap.size w8.heap.size W9 ∧ OwnDp W9 W3.heap.size a lx ∧ OwnDp W9 BY b ly ∧ OwnDp W9 BG d l2) := fun W9 e => by
          obtain ⟨hvG, hb9, hs9⟩ := new1 w8 (dC d l2) 29
          rw [← e] at hvG hb9
          obtain ⟨e1, e2, e3, e4, e5, e6, e7, e8⟩ := H8.out
          exact ⟨⟨e1.below hb9, e2.trans (hb9.mono (by omega)), e7.below hb9 hV8, e4.below hb9 (by omega), e6.below hb9 (by omega), hvG, by omega, hVl, by omega, by omega, by omega⟩, OD.below e3 hb9, OD.below e5 hb9, OD.below e8 hb9⟩
        refine at_world (F := fun W9 => FB w W3 a b d la lb l1 lx ly l2 V w4.heap.size w6.heap.size w8.heap.size W9 ∧ OwnDp W9 W3.heap.size a lx ∧ OwnDp W9 BY b ly ∧ OwnDp W9 BG d l2) (HF9.out _ rfl) ?_
        clear HF9 H8 H3
        rintro W9 ⟨hF9, hx9, hy9, hg9⟩
        refine (eqDump_any d d l2 l1 W9 (OwnDp.dpIn hg9) (HI3.out.below (Nat.le_refl _) hF9.base) HSM.out.fits HSM.out.fits).mono ?_
        rintro e w10 ⟨hb10, rfl⟩
        rw [Dp.same_self]
        have H10 : Hid (FB w W3 a b d la lb l1 lx ly l2 V w4.heap.size w6.heap.size w8.heap.size w10 ∧ OwnDp w10 W3.heap.size a lx ∧ OwnDp w10 BY b ly ∧ OwnDp w10 BG d l2) := ⟨hF9.below hb10, OD.below hx9 hb10, OD.below hy9 hb10, OD.below hg9 hb10⟩
        clear hF9 hx9 hy9 hg9 hb10
        obtain ⟨⟨u0, u1, u2, u3⟩, s0, s1, s2, s3⟩ := H10.out.1.ds.cells2
        obtain ⟨x0, x1, x2, x3⟩ := dC_cells H10.out.1.v8
        go_wp2_with fail
        apply wp_cut1 (X := DLoc) (fun l10 W => FB w W3 a b d la lb l1 lx ly l2 V w4.heap.size w6.heap.size w8.heap.size W ∧ OwnDp W W3.heap.size a lx ∧ OwnDp W BY b ly ∧ OwnDp W BG d l2)
        · intro key
          have KEY : Hid _ := key
          clear key
          go_region_with (first
            | (go_at_call 16
               refine (toDump_own a la (w10.drewN 1) (hA.below (Nat.le_refl _) (H10.out.1.drew 1).ds.bel) HSZ.out.1).mono ?_
               rintro e w11 ⟨l11, rfl, hb11, ho11⟩
               unfold dpV
               have hF11 := (H10.out.1.drew 1).below hb11
               have hX11 := OD.below (OD.below H10.out.2.1 (below_drewN (Below.refl _ _) 1)) hb11
               obtain ⟨y0, y1, y2, y3⟩ := dC_cells hF11.v8)
            | (go_at_call 9
               refine (eqDump_any a a lx l11 w11 (OwnDp.dpIn (l := lx) hX11) (OwnDp.dpIn ho11) hfa hfa).mono ?_
               rintro e w12 ⟨hb12, rfl⟩
               rw [Dp.same_self]))
          all_goals exact KEY.out l11 w12 ⟨hF11.below hb12, OD.below hX11 hb12, OD.below (OD.below (OD.below H10.out.2.2.1 (below_drewN (Below.refl _ _) 1)) hb11) hb12, OD.below (OD.below (OD.below H10.out.2.2.2 (below_drewN (Below.refl _ _) 1)) hb11) hb12⟩
        · intro l11 w12 hF
          have H12 : Hid _ := hF
          clear hF H10 u0 u1 u2 u3 s0 s1 s2 s3 x0 x1 x2 x3
          obtain ⟨⟨u0, u1, u2, u3⟩, s0, s1, s2, s3⟩ := H12.out.1.ds.cells2
          obtain ⟨x0, x1, x2, x3⟩ := dC_cells H12.out.1.v9
          go_wp2_with fail
          apply wp_cut1 (X := DLoc) (fun l13 W => FB w W3 a b d la lb l1 lx ly l2 V w4.heap.size w6.heap.size w8.heap.size W ∧ OwnDp W W3.heap.size a lx ∧ OwnDp W BY b ly ∧ OwnDp W BG d l2)
          · intro key
            have KEY : Hid _ := key
            clear key
            go_region_with (first
              | (go_at_call 16
                 refine (toDump_own b lb (w12.drewN 1) (hB.below (Nat.le_refl _) (H12.out.1.drew 1).ds.bel) HSZ.out.2).mono ?_
                 rintro e w13 ⟨l13, rfl, hb13, ho13⟩
                 unfold dpV
                 have hF13 := (H12.out.1.drew 1).below hb13
                 have hX13 := OD.below (OD.below H12.out.2.2.1 (below_drewN (Below.refl _ _) 1)) hb13
                 obtain ⟨y0, y1, y2, y3⟩ := dC_cells hF13.v9)
              | (go_at_call 9
                 refine (eqDump_any b b ly l13 w13 (OwnDp.dpIn (l := ly) hX13) (OwnDp.dpIn ho13) hfb hfb).mono ?_
                 rintro e w14 ⟨hb14, rfl⟩
                 rw [Dp.same_self]))
            all_goals exact KEY.out l13 w14 ⟨hF13.below hb14, OD.below (OD.below (OD.below H12.out.2.1 (below_drewN (Below.refl _ _) 1)) hb13) hb14, OD.below hX13 hb14, OD.below (OD.below (OD.below H12.out.2.2.2 (below_drewN (Below.refl _ _) 1)) hb13) hb14⟩
          · intro l13 w14 hF
            have H14 : Hid _ := hF
            clear hF H12 u0 u1 u2 u3 s0 s1 s2 s3 x0 x1 x2 x3
            obtain ⟨x0, x1, x2, x3⟩ := dC_cells H14.out.1.v8
            have hka := kap_size HSZ.out.1 1
            have hkb := kap_size HSZ.out.2 (kap a.nd (1 + a.ln) a.m)
            have hk1 := kap_ge a.nd (1 + a.ln) a.m
            have hza := HSZ.out.1
            have hzb := HSZ.out.2
            unfold Dp.size at hza hzb
            go_wp2_with fail
            refine (markDump_ownK 1 (by omega) (by omega) lx.lA lx.iA a.ln lx.lc a.m lx.ic W3.heap.size a.since a.date a.live a.ino a.nd lx.L w14 H14.out.2.1 (by omega) (by omega) (by omega) (fun i hi => by have := nd_sum HSZ.out.1 hi; omega) H14.out.1.base.size w4.heap.size HRX.out).mono ?_
            rintro e w15 ⟨rfl, hfr, _⟩
            have H15 : Hid (FB w W3 a b d la lb l1 lx ly l2 V w4.heap.size w6.heap.size w8.heap.size w15 ∧ OwnDp w15 BY b ly ∧ OwnDp w15 BG d l2) := ⟨H14.out.1.fr hfr (Nat.le_refl _) (Or.inr (Nat.le_refl _)) (Or.inr (by omega)) (Or.inr (by omega)), OD.same H14.out.2.2.1 (fun q hq hl => hfr.far q (by omega) hl), OD.same H14.out.2.2.2 (fun q hq hl => hfr.far q (by omega) hl)⟩
            clear hfr H14 x0 x1 x2 x3
            obtain ⟨x0, x1, x2, x3⟩ := dC_cells H15.out.1.v9
            generalize kap a.nd (1 + a.ln) a.m = kA at *
            go_wp2_with fail
            refine (markDump_ownK kA (by omega) (by omega) ly.lA ly.iA b.ln ly.lc b.m ly.ic BY b.since b.date b.live b.ino b.nd ly.L w15 H15.out.2.1 (by omega) (by omega) (by omega) (fun i hi => by have := nd_sum HSZ.out.2 hi; omega) (by have := H15.out.1.v9.lt; omega) w6.heap.size HRY.out).mono ?_
            rintro e w16 ⟨rfl, hfr, _⟩
            have H16 : Hid (FB w W3 a b d la lb l1 lx ly l2 V w4.heap.size w6.heap.size w8.heap.size w16 ∧ OwnDp w16 BG d l2) := ⟨H15.out.1.fr hfr (by omega) (Or.inl (by omega)) (Or.inr (Nat.le_refl _)) (Or.inr (by omega)), OD.same H15.out.2.2 (fun q hq hl => hfr.far q (by omega) hl)⟩
            have hkn : decide (((kap b.nd (kA + b.ln) b.m : Nat) : Int) < 0) = false := by simp
            clear hfr H15 x0 x1 x2 x3
            generalize kap b.nd (kA + b.ln) b.m = kB at *
            obtain ⟨g0, g1, g2, g3⟩ := dC_cells H16.out.1.vG
            obtain ⟨z0, z1, z2, z3⟩ := dC_cells H16.out.1.v6
            go_wp2_with fail
            refine (eqDump_any d d l2 l1 w16 (OwnDp.dpIn H16.out.2) (HI3.out.below (Nat.le_refl _) H16.out.1.base) HSM.out.fits HSM.out.fits).mono ?_
            rintro e w17 ⟨hb17, rfl⟩
            rw [Dp.same_self]
            have H17 : Hid (FB w W3 a b d la lb l1 lx ly l2 V w4.heap.size w6.heap.size w8.heap.size w17 ∧ OwnDp w17 BG d l2) := ⟨H16.out.1.below hb17, OD.below H16.out.2 hb17⟩
            clear hb17 H16 g0 g1 g2 g3 z0 z1 z2 z3
            obtain ⟨g0, g1, g2, g3⟩ := dC_cells H17.out.1.vG
            go_wp2_with fail
            refine (markDump_own l2.lA l2.iA d.ln l2.lc d.m l2.ic BG d.since d.date d.live d.ino d.nd l2.L w17 H17.out.2 HSM.out.ln HSM.out.m HSM.out.kap (fun i hi => by have := HSM.out.nds i hi; omega) (by have := H17.out.1.vG.lt; omega) w8.heap.size HRG.out).mono ?_
            rintro e w18 ⟨rfl, hfr, hod18⟩
            have H18 : Hid (FB w W3 a b d la lb l1 lx ly l2 V w4.heap.size w6.heap.size w8.heap.size w18 ∧ OD w18 BG d.ln (markB 1) d.m (markO d.nd (1 + d.ln) d.ino d.m) (markD d.nd (1 + d.ln) d.m) l2.L (.slice l2.lA d.ln l2.lc) (.slice l2.iA d.m l2.ic)) := ⟨H17.out.1.fr hfr (by omega) (Or.inl (by omega)) (Or.inl (by omega)) (Or.inr (Nat.le_refl _)), hod18⟩
            clear hfr hod18 H17 g0 g1 g2 g3
            obtain ⟨g0, g1, g2, g3⟩ := dC_cells H18.out.1.vG
            go_wp2_with fail
            refine (heldDump_own l2.lA l2.iA d.ln l2.lc d.m l2.ic BG d.since d.date d.ino d.nd l2.L w18 H18.out.2 HSM.out.ln HSM.out.m HSM.out.kap HSM.out.nds).mono ?_
            rintro e w19 ⟨rfl, hb19⟩
            have H19 : Hid (FB w W3 a b d la lb l1 lx ly l2 V w4.heap.size w6.heap.size w8.heap.size w19 ∧ OD w19 BG d.ln (markB 1) d.m (markO d.nd (1 + d.ln) d.ino d.m) (markD d.nd (1 + d.ln) d.m) l2.L (.slice l2.lA d.ln l2.lc) (.slice l2.iA d.m l2.ic)) := ⟨H18.out.1.below hb19, OD.below H18.out.2 hb19⟩
            have hkm : decide (((kap d.nd (1 + d.ln) d.m : Nat) : Int) < 0) = false := by simp
            have hkk : (((kap d.nd (1 + d.ln) d.m : Nat) : Int) != ((kap d.nd (1 + d.ln) d.m : Nat) : Int)) = false := by simp
            have H19d : Hid (DSIn w a b la lb 43 w19) := H19.out.1.ds
            clear hb19 H18 g0 g1 g2 g3
            go_wp2_with fail
            have HStr : Hid (∀ W', Below w19.heap.size w19 W' → (W'.cell? ⟨w.heap.size, 0, none⟩ = some (.int .i64 a.since) ∧ W'.cell? ⟨w.heap.size, 1, none⟩ = some (.int .i64 a.date) ∧ W'.cell? ⟨w.heap.size, 2, none⟩ = some (.slice la.lA a.ln la.lc) ∧ W'.cell? ⟨w.heap.size, 3, none⟩ = some (.slice la.iA a.m la.ic)) ∧ W'.cell? ⟨w.heap.size + 1, 0, none⟩ = some (.int .i64 b.since) ∧ W'.cell? ⟨w.heap.size + 1, 1, none⟩ = some (.int .i64 b.date) ∧ W'.cell? ⟨w.heap.size + 1, 2, none⟩ = some (.slice lb.lA b.ln lb.lc) ∧ W'.cell? ⟨w.heap.size + 1, 3, none⟩ = some (.slice lb.iA b.m lb.ic)) := fun W' hW => (H19d.out.below hW).cells2
            have HTor : Hid (∀ W', Below w19.heap.size w19 W' → DpIn W' a la ∧ DpIn W' b lb) := fun W' hW => ⟨hA.below (Nat.le_refl _) (H19d.out.below hW).bel, hB.below (Nat.le_refl _) (H19d.out.below hW).bel⟩
            apply wp_cutqT (X := DLoc) (Y := DLoc) (Z := DLoc) (U := Nat) (fun _ _ l1 V W => Below w19.heap.size w19 W ∧ Blk W V (dC d l1) 29 ∧ DpIn W d l1 ∧ w19.heap.size ≤ V)
            · intro key
              have KEY : Hid _ := key
              clear key
              refine wp_region_noPanic ?_
              have hB0 : Below w19.heap.size w19 w19.drew := (Below.refl _ _).drew
              refine wp_region_peel (fun W' => (W'.cell? ⟨w.heap.size, 0, none⟩ = some (.int .i64 a.since) ∧ W'.cell? ⟨w.heap.size, 1, none⟩ = some (.int .i64 a.date) ∧ W'.cell? ⟨w.heap.size, 2, none⟩ = some (.slice la.lA a.ln la.lc) ∧ W'.cell? ⟨w.heap.size, 3, none⟩ = some (.slice la.iA a.m la.ic)) ∧ W'.cell? ⟨w.heap.size + 1, 0, none⟩ = some (.int .i64 b.since) ∧ W'.cell? ⟨w.heap.size + 1, 1, none⟩ = some (.int .i64 b.date) ∧ W'.cell? ⟨w.heap.size + 1, 2, none⟩ = some (.slice lb.lA b.ln lb.lc) ∧ W'.cell? ⟨w.heap.size + 1, 3, none⟩ = some (.slice lb.iA b.m lb.ic)) _ (by kernel_rfl) rfl (by kernel_rfl) ?_ (fun hHeld => ?_)
              · exact HStr.out _ hB0
              simp only [List.pop_toArray, List.dropLast, List.size_toArray, List.length_cons, List.length_nil, Nat.reduceAdd, Nat.reduceSub, List.getElem_toArray, List.getElem_cons_succ, List.getElem_cons_zero]
              refine peel_take (i := 0) (oi := ?oi0r) (v := ?v0r) (fun _ _ _ _ _ h => h) hHeld ?hi0r (by kernel_rfl) (by kernel_rfl) (by kernel_rfl) ?hw0r ?hy0r ?rest0r
              case hi0r =>
                simp only [List.getElem?_toArray, List.getElem?_cons_zero]
                rfl
              case hw0r => rfl
              case hy0r =>
                intro w hSw
                obtain ⟨⟨s0, s1, s2, s3⟩, s4, s5, s6, s7⟩ := hSw
                go_simp
                try with_reducible rfl
              try simp only [Act.put, List.setIfInBounds_toArray, List.set_cons_zero, List.set_cons_succ]
              refine peel_take (i := 2) (oi := ?oi2r) (v := ?v2r) (fun _ _ _ _ _ h => h) hHeld ?hi2r (by kernel_rfl) (by kernel_rfl) (by kernel_rfl) ?hw2r ?hy2r ?rest2r
              case hi2r =>
                simp only [List.getElem?_toArray, List.getElem?_cons_succ, List.getElem?_cons_zero]
                rfl
              case hw2r => rfl
              case hy2r =>
                intro w hSw
                obtain ⟨⟨s0, s1, s2, s3⟩, s4, s5, s6, s7⟩ := hSw
                go_simp
                try with_reducible rfl
              try simp only [Act.put, List.setIfInBounds_toArray, List.set_cons_zero, List.set_cons_succ]
              refine wpAnyH_ready (rs := [1, 8]) (by kernel_rfl) (by simp) ?_
              refine AllReadyH.cons (o := ?o1rq1a) ?ho1rq1a (fun K hK => ?st1rq1a) ?more1rq1a
              case ho1rq1a =>
                simp only [List.getElem?_toArray, List.getElem?_cons_succ, List.getElem?_cons_zero]
                rfl
              case st1rq1a =>
                go_simp
                refine (toDump_own a la _ (HTor.out _ hB0).1 HSZ.out.1).mono ?_
                rintro e wrq1a ⟨lA, rfl, hbc, hoc⟩
                unfold dpV
                have hBrq1a : Below w19.heap.size w19 wrq1a := hB0.trans (hbc.mono hB0.size)
                have hlArq1a := OwnDp.dpIn hoc
                clear hbc hoc
                refine hK.out _ _ (HStr.out _ hBrq1a) (fun hHeld => ?_)
                clear hK K
                try simp only [Act.put, List.setIfInBounds_toArray, List.set_cons_zero, List.set_cons_succ]
                refine wpAnyH_ready (rs := [3, 8]) (by kernel_rfl) (by simp) ?_
                refine AllReadyH.cons (o := ?o3rq2a) ?ho3rq2a (fun K hK => ?st3rq2a) ?more3rq2a
                case ho3rq2a =>
                  simp only [List.getElem?_toArray, List.getElem?_cons_succ, List.getElem?_cons_zero]
                  rfl
                case st3rq2a =>
                  go_simp
                  refine (toDump_own b lb _ (HTor.out _ hBrq1a).2 HSZ.out.2).mono ?_
                  rintro e wrq2a ⟨lB, rfl, hbc, hoc⟩
                  unfold dpV
                  have hBrq2a : Below w19.heap.size w19 wrq2a := hBrq1a.trans (hbc.mono hBrq1a.size)
                  have hlBrq2a := OwnDp.dpIn hoc
                  have hlArq2a := hlArq1a.below (Nat.le_refl _) hbc
                  clear hbc hoc
                  refine hK.out _ _ (HStr.out _ hBrq2a) (fun hHeld => ?_)
                  clear hK K
                  try simp only [Act.put, List.setIfInBounds_toArray, List.set_cons_zero, List.set_cons_succ]
                  refine wpAnyH_ready (rs := [4, 8]) (by kernel_rfl) (by simp) ?_
                  refine AllReadyH.cons (o := ?o4rq3a) ?ho4rq3a (fun K hK => ?st4rq3a) ?more4rq3a
                  case ho4rq3a =>
                    simp only [List.getElem?_toArray, List.getElem?_cons_succ, List.getElem?_cons_zero]
                    rfl
                  case st4rq3a =>
                    go_simp
                    refine (implBackThen_any a b lA lB _ hlArq2a hlBrq2a hfa hfb HSZ.out.1 HSZ.out.2).mono ?_
                    intro e wrq3a hpost
                    obtain ⟨hbc, l1, rfl, hodrq3a⟩ := HANS.out _ _ _ hpost
                    unfold dpV
                    have hBrq3a : Below w19.heap.size w19 wrq3a := hBrq2a.trans (hbc.mono hBrq2a.size)
                    clear hbc hpost
                    refine hK.out _ _ (HStr.out _ hBrq3a) (fun hHeld => ?_)
                    clear hK K
                    try simp only [Act.put, List.setIfInBounds_toArray, List.set_cons_zero, List.set_cons_succ]
                    refine peel_take (i := 5) (oi := ?oi5rq3a) (v := ?v5rq3a) (fun _ _ _ _ _ h => h) hHeld ?hi5rq3a (by kernel_rfl) (by kernel_rfl) (by kernel_rfl) ?hw5rq3a ?hy5rq3a ?rest5rq3a
                    case hi5rq3a =>
                      simp only [List.getElem?_toArray, List.getElem?_cons_succ, List.getElem?_cons_zero]
                      rfl
                    case hw5rq3a => rfl
                    case hy5rq3a =>
                      intro w hSw
                      obtain ⟨⟨s0, s1, s2, s3⟩, s4, s5, s6, s7⟩ := hSw
                      go_simp
                      try with_reducible rfl
                    try simp only [Act.put, List.setIfInBounds_toArray, List.set_cons_zero, List.set_cons_succ]
                    refine peel_take (i := 6) (oi := ?oi6rq3a) (v := ?v6rq3a) (fun _ _ _ _ _ h => h) hHeld ?hi6rq3a (by kernel_rfl) (by kernel_rfl) (by kernel_rfl) ?hw6rq3a ?hy6rq3a ?rest6rq3a
                    case hi6rq3a =>
                      simp only [List.getElem?_toArray, List.getElem?_cons_succ, List.getElem?_cons_zero]
                      rfl
                    case hw6rq3a => rfl
                    case hy6rq3a =>
                      intro w hSw
                      obtain ⟨⟨s0, s1, s2, s3⟩, s4, s5, s6, s7⟩ := hSw
                      go_simp
                      try with_reducible rfl
                    try simp only [Act.put, List.setIfInBounds_toArray, List.set_cons_zero, List.set_cons_succ]
                    refine peel_take (i := 7) (oi := ?oi7rq3a) (v := ?v7rq3a) (fun _ _ _ _ _ h => h) hHeld ?hi7rq3a (by kernel_rfl) (by kernel_rfl) (by kernel_rfl) ?hw7rq3a ?hy7rq3a ?rest7rq3a
                    case hi7rq3a =>
                      simp only [List.getElem?_toArray, List.getElem?_cons_succ, List.getElem?_cons_zero]
                      rfl
                    case hw7rq3a => rfl
                    case hy7rq3a =>
                      intro w hSw
                      obtain ⟨⟨s0, s1, s2, s3⟩, s4, s5, s6, s7⟩ := hSw
                      go_simp
                      try with_reducible rfl
                    try simp only [Act.put, List.setIfInBounds_toArray, List.set_cons_zero, List.set_cons_succ]
                    refine wpAnyH_ready (rs := [8]) (by kernel_rfl) (by simp) ?_
                    refine AllReadyH.cons (o := ?o8rq4a) ?ho8rq4a (fun K hK => ?st8rq4a) AllReadyH.nil
                    case ho8rq4a =>
                      simp only [List.getElem?_toArray, List.getElem?_cons_succ, List.getElem?_cons_zero]
                      rfl
                    go_simp
                    have hBrq4a : Below w19.heap.size w19 (wrq3a.alloc (.cells #[.int .i64 0, .int .i64 0, .slice none 0 0, .slice none 0 0] 29)) := hBrq3a.alloc hBrq3a.size _
                    have hvrq4a : Blk (wrq3a.alloc (.cells #[.int .i64 0, .int .i64 0, .slice none 0 0, .slice none 0 0] 29)) (wrq3a.heap.size) #[.int .i64 0, .int .i64 0, .slice none 0 0, .slice none 0 0] 29 := by
                      have h := Blk.new wrq3a #[.int .i64 0, .int .i64 0, .slice none 0 0, .slice none 0 0] 29
                      simpa using h
                    have hVrq4a : w19.heap.size ≤ wrq3a.heap.size := by
                      have h := hBrq3a.size
                      simpa using h
                    have hlArq4a := hlArq2a.below (Nat.le_refl _) ((Below.refl _ _).alloc (Nat.le_refl _) (.cells #[.int .i64 0, .int .i64 0, .slice none 0 0, .slice none 0 0] 29))
                    have hlBrq4a := hlBrq2a.below (Nat.le_refl _) ((Below.refl _ _).alloc (Nat.le_refl _) (.cells #[.int .i64 0, .int .i64 0, .slice none 0 0, .slice none 0 0] 29))
                    refine hK.out _ _ (HStr.out _ hBrq4a) (fun hHeld => ?_)
                    clear hK K
                    try simp only [Act.put, List.setIfInBounds_toArray, List.set_cons_zero, List.set_cons_succ]
                    refine wpAnyH_ready (rs := [9]) (by kernel_rfl) (by simp) ?_
                    refine AllReadyH.cons (o := ?o9rq5a) ?ho9rq5a (fun K hK => ?st9rq5a) AllReadyH.nil
                    case ho9rq5a =>
                      simp only [List.getElem?_toArray, List.getElem?_cons_succ, List.getElem?_cons_zero]
                      rfl
                    have HS : Hid (∀ U, U = wrq3a.alloc (.cells (dC d l1) 29) → Below w19.heap.size w19 U ∧ Blk U (wrq3a.heap.size) (dC d l1) 29 ∧ DpIn U d l1 ∧ w19.heap.size ≤ wrq3a.heap.size) := fun U e => by
                      subst e
                      exact ⟨hBrq3a.alloc hBrq3a.size _, Blk.new _ _ _, (OwnDp.dpIn hodrq3a).below (Nat.le_refl _) ((Below.refl _ _).alloc (Nat.le_refl _) _), hVrq4a⟩
                    go_simp
                    refine hK.out _ _ (HStr.out _ (HS.out _ rfl).1) (fun hHeld => ?_)
                    clear hK K
                    try simp only [Act.put, List.setIfInBounds_toArray, List.set_cons_zero, List.set_cons_succ]
                    refine wpAnyH_done (by kernel_rfl) ?_ _
                    show Oper.wp _ _ _ _ _ _
                    go_simp
                    generalize hV : wrq3a.heap.size = V
                    exact NoPanic.normal (KEY.out lA lB l1 V _ (by rw [← hV]; exact HS.out _ rfl))
                  refine AllReadyH.cons (o := ?o8rq3b) ?ho8rq3b (fun K hK => ?st8rq3b) AllReadyH.nil
                  case ho8rq3b =>
                    simp only [List.getElem?_toArray, List.getElem?_cons_succ, List.getElem?_cons_zero]
                    rfl
                  go_simp
                  have hBrq3b : Below w19.heap.size w19 (wrq2a.alloc (.cells #[.int .i64 0, .int .i64 0, .slice none 0 0, .slice none 0 0] 29)) := hBrq2a.alloc hBrq2a.size _
                  have hvrq3b : Blk (wrq2a.alloc (.cells #[.int .i64 0, .int .i64 0, .slice none 0 0, .slice none 0 0] 29)) (wrq2a.heap.size) #[.int .i64 0, .int .i64 0, .slice none 0 0, .slice none 0 0] 29 := by
                    have h := Blk.new wrq2a #[.int .i64 0, .int .i64 0, .slice none 0 0, .slice none 0 0] 29
                    simpa using h
                  have hVrq3b : w19.heap.size ≤ wrq2a.heap.size := by
                    have h := hBrq2a.size
                    simpa using h
                  have hlArq3b := hlArq2a.below (Nat.le_refl _) ((Below.refl _ _).alloc (Nat.le_refl _) (.cells #[.int .i64 0, .int .i64 0, .slice none 0 0, .slice none 0 0] 29))
                  have hlBrq3b := hlBrq2a.below (Nat.le_refl _) ((Below.refl _ _).alloc (Nat.le_refl _) (.cells #[.int .i64 0, .int .i64 0, .slice none 0 0, .slice none 0 0] 29))
                  refine hK.out _ _ (HStr.out _ hBrq3b) (fun hHeld => ?_)
                  clear hK K
                  try simp only [Act.put, List.setIfInBounds_toArray, List.set_cons_zero, List.set_cons_succ]
                  refine wpAnyH_ready (rs := [4]) (by kernel_rfl) (by simp) ?_
                  refine AllReadyH.cons (o := ?o4rq7a) ?ho4rq7a (fun K hK => ?st4rq7a) AllReadyH.nil
                  case ho4rq7a =>
                    simp only [List.getElem?_toArray, List.getElem?_cons_succ, List.getElem?_cons_zero]
                    rfl
                  go_simp
                  refine (implBackThen_any a b lA lB _ hlArq3b hlBrq3b hfa hfb HSZ.out.1 HSZ.out.2).mono ?_
                  intro e wrq7a hpost
                  obtain ⟨hbc, l1, rfl, hodrq7a⟩ := HANS.out _ _ _ hpost
                  unfold dpV
                  have hBrq7a : Below w19.heap.size w19 wrq7a := hBrq3b.trans (hbc.mono hBrq3b.size)
                  have hvrq7a : Blk wrq7a (wrq2a.heap.size) #[.int .i64 0, .int .i64 0, .slice none 0 0, .slice none 0 0] 29 := hvrq3b.below hbc hvrq3b.lt
                  have hltrq7a := hvrq3b.lt
                  clear hbc hpost
                  refine hK.out _ _ (HStr.out _ hBrq7a) (fun hHeld => ?_)
                  clear hK K
                  try simp only [Act.put, List.setIfInBounds_toArray, List.set_cons_zero, List.set_cons_succ]
                  refine peel_take (i := 5) (oi := ?oi5rq7a) (v := ?v5rq7a) (fun _ _ _ _ _ h => h) hHeld ?hi5rq7a (by kernel_rfl) (by kernel_rfl) (by kernel_rfl) ?hw5rq7a ?hy5rq7a ?rest5rq7a
                  case hi5rq7a =>
                    simp only [List.getElem?_toArray, List.getElem?_cons_succ, List.getElem?_cons_zero]
                    rfl
                  case hw5rq7a => rfl
                  case hy5rq7a =>
                    intro w hSw
                    obtain ⟨⟨s0, s1, s2, s3⟩, s4, s5, s6, s7⟩ := hSw
                    go_simp
                    try with_reducible rfl
                  try simp only [Act.put, List.setIfInBounds_toArray, List.set_cons_zero, List.set_cons_succ]
                  refine peel_take (i := 6) (oi := ?oi6rq7a) (v := ?v6rq7a) (fun _ _ _ _ _ h => h) hHeld ?hi6rq7a (by kernel_rfl) (by kernel_rfl) (by kernel_rfl) ?hw6rq7a ?hy6rq7a ?rest6rq7a
                  case hi6rq7a =>
                    simp only [List.getElem?_toArray, List.getElem?_cons_succ, List.getElem?_cons_zero]
                    rfl
                  case hw6rq7a => rfl
                  case hy6rq7a =>
                    intro w hSw
                    obtain ⟨⟨s0, s1, s2, s3⟩, s4, s5, s6, s7⟩ := hSw
                    go_simp
                    try with_reducible rfl
                  try simp only [Act.put, List.setIfInBounds_toArray, List.set_cons_zero, List.set_cons_succ]
                  refine peel_take (i := 7) (oi := ?oi7rq7a) (v := ?v7rq7a) (fun _ _ _ _ _ h => h) hHeld ?hi7rq7a (by kernel_rfl) (by kernel_rfl) (by kernel_rfl) ?hw7rq7a ?hy7rq7a ?rest7rq7a
                  case hi7rq7a =>
                    simp only [List.getElem?_toArray, List.getElem?_cons_succ, List.getElem?_cons_zero]
                    rfl
                  case hw7rq7a => rfl
                  case hy7rq7a =>
                    intro w hSw
                    obtain ⟨⟨s0, s1, s2, s3⟩, s4, s5, s6, s7⟩ := hSw
                    go_simp
                    try with_reducible rfl
                  try simp only [Act.put, List.setIfInBounds_toArray, List.set_cons_zero, List.set_cons_succ]
                  refine wpAnyH_ready (rs := [9]) (by kernel_rfl) (by simp) ?_
                  refine AllReadyH.cons (o := ?o9rq8a) ?ho9rq8a (fun K hK => ?st9rq8a) AllReadyH.nil
                  case ho9rq8a =>
                    simp only [List.getElem?_toArray, List.getElem?_cons_succ, List.getElem?_cons_zero]
                    rfl
                  have z0 := hvrq7a.cell 0
                  have z1 := hvrq7a.cell 1
                  have z2 := hvrq7a.cell 2
                  have z3 := hvrq7a.cell 3
                  have f0 := hvrq7a.frozen 0
                  have f1 := hvrq7a.frozen 1
                  have f2 := hvrq7a.frozen 2
                  have f3 := hvrq7a.frozen 3
                  simp at z0 z1 z2 z3
                  have HS : Hid (∀ U, U = ((((wrq7a.setCell ⟨wrq2a.heap.size, 0, none⟩ (.int .i64 d.since)).setCell ⟨wrq2a.heap.size, 1, none⟩ (.int .i64 d.date)).setCell ⟨wrq2a.heap.size, 2, none⟩ (.slice l1.lA d.ln l1.lc)).setCell ⟨wrq2a.heap.size, 3, none⟩ (.slice l1.iA d.m l1.ic)) → Below w19.heap.size w19 U ∧ Blk U (wrq2a.heap.size) (dC d l1) 29 ∧ DpIn U d l1 ∧ w19.heap.size ≤ wrq2a.heap.size) := fun U e => by
                    subst e
                    exact ⟨bel_put (bel_put (bel_put (bel_put hBrq7a _ hVrq3b) _ hVrq3b) _ hVrq3b) _ hVrq3b, (((hvrq7a.set 0 _).set 1 _).set 2 _).set 3 _, OwnDp.dpIn (OD.off (OD.off (OD.off (OD.off hodrq7a _ hltrq7a) _ hltrq7a) _ hltrq7a) _ hltrq7a), hVrq3b⟩
                  go_simp
                  refine hK.out _ _ (HStr.out _ (HS.out _ rfl).1) (fun hHeld => ?_)
                  clear hK K
                  try simp only [Act.put, List.setIfInBounds_toArray, List.set_cons_zero, List.set_cons_succ]
                  refine wpAnyH_done (by kernel_rfl) ?_ _
                  show Oper.wp _ _ _ _ _ _
                  go_simp
                  generalize hV : wrq2a.heap.size = V
                  exact NoPanic.normal (KEY.out lA lB l1 V _ (by rw [← hV]; exact HS.out _ rfl))
                refine AllReadyH.cons (o := ?o8rq2b) ?ho8rq2b (fun K hK => ?st8rq2b) AllReadyH.nil
                case ho8rq2b =>
                  simp only [List.getElem?_toArray, List.getElem?_cons_succ, List.getElem?_cons_zero]
                  rfl
                go_simp
                have hBrq2b : Below w19.heap.size w19 (wrq1a.alloc (.cells #[.int .i64 0, .int .i64 0, .slice none 0 0, .slice none 0 0] 29)) := hBrq1a.alloc hBrq1a.size _
                have hvrq2b : Blk (wrq1a.alloc (.cells #[.int .i64 0, .int .i64 0, .slice none 0 0, .slice none 0 0] 29)) (wrq1a.heap.size) #[.int .i64 0, .int .i64 0, .slice none 0 0, .slice none 0 0] 29 := by
                  have h := Blk.new wrq1a #[.int .i64 0, .int .i64 0, .slice none 0 0, .slice none 0 0] 29
                  simpa using h
                have hVrq2b : w19.heap.size ≤ wrq1a.heap.size := by
                  have h := hBrq1a.size
                  simpa using h
                have hlArq2b := hlArq1a.below (Nat.le_refl _) ((Below.refl _ _).alloc (Nat.le_refl _) (.cells #[.int .i64 0, .int .i64 0, .slice none 0 0, .slice none 0 0] 29))
                refine hK.out _ _ (HStr.out _ hBrq2b) (fun hHeld => ?_)
                clear hK K
                try simp only [Act.put, List.setIfInBounds_toArray, List.set_cons_zero, List.set_cons_succ]
                refine wpAnyH_ready (rs := [3]) (by kernel_rfl) (by simp) ?_
                refine AllReadyH.cons (o := ?o3rq10a) ?ho3rq10a (fun K hK => ?st3rq10a) AllReadyH.nil
                case ho3rq10a =>
                  simp only [List.getElem?_toArray, List.getElem?_cons_succ, List.getElem?_cons_zero]
                  rfl
                go_simp
                refine (toDump_own b lb _ (HTor.out _ hBrq2b).2 HSZ.out.2).mono ?_
                rintro e wrq10a ⟨lB, rfl, hbc, hoc⟩
                unfold dpV
                have hBrq10a : Below w19.heap.size w19 wrq10a := hBrq2b.trans (hbc.mono hBrq2b.size)
                have hlBrq10a := OwnDp.dpIn hoc
                have hlArq10a := hlArq2b.below (Nat.le_refl _) hbc
                have hvrq10a : Blk wrq10a (wrq1a.heap.size) #[.int .i64 0, .int .i64 0, .slice none 0 0, .slice none 0 0] 29 := hvrq2b.below hbc hvrq2b.lt
                clear hbc hoc
                refine hK.out _ _ (HStr.out _ hBrq10a) (fun hHeld => ?_)
                clear hK K
                try simp only [Act.put, List.setIfInBounds_toArray, List.set_cons_zero, List.set_cons_succ]
                refine wpAnyH_ready (rs := [4]) (by kernel_rfl) (by simp) ?_
                refine AllReadyH.cons (o := ?o4rq11a) ?ho4rq11a (fun K hK => ?st4rq11a) AllReadyH.nil
                case ho4rq11a =>
                  simp only [List.getElem?_toArray, List.getElem?_cons_succ, List.getElem?_cons_zero]
                  rfl
                go_simp
                refine (implBackThen_any a b lA lB _ hlArq10a hlBrq10a hfa hfb HSZ.out.1 HSZ.out.2).mono ?_
                intro e wrq11a hpost
                obtain ⟨hbc, l1, rfl, hodrq11a⟩ := HANS.out _ _ _ hpost
                unfold dpV
                have hBrq11a : Below w19.heap.size w19 wrq11a := hBrq10a.trans (hbc.mono hBrq10a.size)
                have hvrq11a : Blk wrq11a (wrq1a.heap.size) #[.int .i64 0, .int .i64 0, .slice none 0 0, .slice none 0 0] 29 := hvrq10a.below hbc hvrq10a.lt
                have hltrq11a := hvrq10a.lt
                clear hbc hpost
                refine hK.out _ _ (HStr.out _ hBrq11a) (fun hHeld => ?_)
                clear hK K
                try simp only [Act.put, List.setIfInBounds_toArray, List.set_cons_zero, List.set_cons_succ]
                refine peel_take (i := 5) (oi := ?oi5rq11a) (v := ?v5rq11a) (fun _ _ _ _ _ h => h) hHeld ?hi5rq11a (by kernel_rfl) (by kernel_rfl) (by kernel_rfl) ?hw5rq11a ?hy5rq11a ?rest5rq11a
                case hi5rq11a =>
                  simp only [List.getElem?_toArray, List.getElem?_cons_succ, List.getElem?_cons_zero]
                  rfl
                case hw5rq11a => rfl
                case hy5rq11a =>
                  intro w hSw
                  obtain ⟨⟨s0, s1, s2, s3⟩, s4, s5, s6, s7⟩ := hSw
                  go_simp
                  try with_reducible rfl
                try simp only [Act.put, List.setIfInBounds_toArray, List.set_cons_zero, List.set_cons_succ]
                refine peel_take (i := 6) (oi := ?oi6rq11a) (v := ?v6rq11a) (fun _ _ _ _ _ h => h) hHeld ?hi6rq11a (by kernel_rfl) (by kernel_rfl) (by kernel_rfl) ?hw6rq11a ?hy6rq11a ?rest6rq11a
                case hi6rq11a =>
                  simp only [List.getElem?_toArray, List.getElem?_cons_succ, List.getElem?_cons_zero]
                  rfl
                case hw6rq11a => rfl
                case hy6rq11a =>
                  intro w hSw
                  obtain ⟨⟨s0, s1, s2, s3⟩, s4, s5, s6, s7⟩ := hSw
                  go_simp
                  try with_reducible rfl
                try simp only [Act.put, List.setIfInBounds_toArray, List.set_cons_zero, List.set_cons_succ]
                refine peel_take (i := 7) (oi := ?oi7rq11a) (v := ?v7rq11a) (fun _ _ _ _ _ h => h) hHeld ?hi7rq11a (by kernel_rfl) (by kernel_rfl) (by kernel_rfl) ?hw7rq11a ?hy7rq11a ?rest7rq11a
                case hi7rq11a =>
                  simp only [List.getElem?_toArray, List.getElem?_cons_succ, List.getElem?_cons_zero]
                  rfl
                case hw7rq11a => rfl
                case hy7rq11a =>
                  intro w hSw
                  obtain ⟨⟨s0, s1, s2, s3⟩, s4, s5, s6, s7⟩ := hSw
                  go_simp
                  try with_reducible rfl
                try simp only [Act.put, List.setIfInBounds_toArray, List.set_cons_zero, List.set_cons_succ]
                refine wpAnyH_ready (rs := [9]) (by kernel_rfl) (by simp) ?_
                refine AllReadyH.cons (o := ?o9rq12a) ?ho9rq12a (fun K hK => ?st9rq12a) AllReadyH.nil
                case ho9rq12a =>
                  simp only [List.getElem?_toArray, List.getElem?_cons_succ, List.getElem?_cons_zero]
                  rfl
                have z0 := hvrq11a.cell 0
                have z1 := hvrq11a.cell 1
                have z2 := hvrq11a.cell 2
                have z3 := hvrq11a.cell 3
                have f0 := hvrq11a.frozen 0
                have f1 := hvrq11a.frozen 1
                have f2 := hvrq11a.frozen 2
                have f3 := hvrq11a.frozen 3
                simp at z0 z1 z2 z3
                have HS : Hid (∀ U, U = ((((wrq11a.setCell ⟨wrq1a.heap.size, 0, none⟩ (.int .i64 d.since)).setCell ⟨wrq1a.heap.size, 1, none⟩ (.int .i64 d.date)).setCell ⟨wrq1a.heap.size, 2, none⟩ (.slice l1.lA d.ln l1.lc)).setCell ⟨wrq1a.heap.size, 3, none⟩ (.slice l1.iA d.m l1.ic)) → Below w19.heap.size w19 U ∧ Blk U (wrq1a.heap.size) (dC d l1) 29 ∧ DpIn U d l1 ∧ w19.heap.size ≤ wrq1a.heap.size) := fun U e => by
                  subst e
                  exact ⟨bel_put (bel_put (bel_put (bel_put hBrq11a _ hVrq2b) _ hVrq2b) _ hVrq2b) _ hVrq2b, (((hvrq11a.set 0 _).set 1 _).set 2 _).set 3 _, OwnDp.dpIn (OD.off (OD.off (OD.off (OD.off hodrq11a _ hltrq11a) _ hltrq11a) _ hltrq11a) _ hltrq11a), hVrq2b⟩
                go_simp
                refine hK.out _ _ (HStr.out _ (HS.out _ rfl).1) (fun hHeld => ?_)
                clear hK K
                try simp only [Act.put, List.setIfInBounds_toArray, List.set_cons_zero, List.set_cons_succ]
                refine wpAnyH_done (by kernel_rfl) ?_ _
                show Oper.wp _ _ _ _ _ _
                go_simp
                generalize hV : wrq1a.heap.size = V
                exact NoPanic.normal (KEY.out lA lB l1 V _ (by rw [← hV]; exact HS.out _ rfl))
              refine AllReadyH.cons (o := ?o8rq1b) ?ho8rq1b (fun K hK => ?st8rq1b) AllReadyH.nil
              case ho8rq1b =>
                simp only [List.getElem?_toArray, List.getElem?_cons_succ, List.getElem?_cons_zero]
                rfl
              go_simp
              have hBrq1b : Below w19.heap.size w19 (w19.drew.alloc (.cells #[.int .i64 0, .int .i64 0, .slice none 0 0, .slice none 0 0] 29)) := hB0.alloc hB0.size _
              have hvrq1b : Blk (w19.drew.alloc (.cells #[.int .i64 0, .int .i64 0, .slice none 0 0, .slice none 0 0] 29)) (w19.heap.size) #[.int .i64 0, .int .i64 0, .slice none 0 0, .slice none 0 0] 29 := by
                have h := Blk.new w19.drew #[.int .i64 0, .int .i64 0, .slice none 0 0, .slice none 0 0] 29
                simpa using h
              have hVrq1b : w19.heap.size ≤ w19.heap.size := by
                have h := hB0.size
                simpa using h
              refine hK.out _ _ (HStr.out _ hBrq1b) (fun hHeld => ?_)
              clear hK K
              try simp only [Act.put, List.setIfInBounds_toArray, List.set_cons_zero, List.set_cons_succ]
              refine wpAnyH_ready (rs := [1]) (by kernel_rfl) (by simp) ?_
              refine AllReadyH.cons (o := ?o1rq14a) ?ho1rq14a (fun K hK => ?st1rq14a) AllReadyH.nil
              case ho1rq14a =>
                simp only [List.getElem?_toArray, List.getElem?_cons_succ, List.getElem?_cons_zero]
                rfl
              go_simp
              refine (toDump_own a la _ (HTor.out _ hBrq1b).1 HSZ.out.1).mono ?_
              rintro e wrq14a ⟨lA, rfl, hbc, hoc⟩
              unfold dpV
              have hBrq14a : Below w19.heap.size w19 wrq14a := hBrq1b.trans (hbc.mono hBrq1b.size)
              have hlArq14a := OwnDp.dpIn hoc
              have hvrq14a : Blk wrq14a (w19.heap.size) #[.int .i64 0, .int .i64 0, .slice none 0 0, .slice none 0 0] 29 := hvrq1b.below hbc hvrq1b.lt
              clear hbc hoc
              refine hK.out _ _ (HStr.out _ hBrq14a) (fun hHeld => ?_)
              clear hK K
              try simp only [Act.put, List.setIfInBounds_toArray, List.set_cons_zero, List.set_cons_succ]
              refine wpAnyH_ready (rs := [3]) (by kernel_rfl) (by simp) ?_
              refine AllReadyH.cons (o := ?o3rq15a) ?ho3rq15a (fun K hK => ?st3rq15a) AllReadyH.nil
              case ho3rq15a =>
                simp only [List.getElem?_toArray, List.getElem?_cons_succ, List.getElem?_cons_zero]
                rfl
              go_simp
              refine (toDump_own b lb _ (HTor.out _ hBrq14a).2 HSZ.out.2).mono ?_
              rintro e wrq15a ⟨lB, rfl, hbc, hoc⟩
              unfold dpV
              have hBrq15a : Below w19.heap.size w19 wrq15a := hBrq14a.trans (hbc.mono hBrq14a.size)
              have hlBrq15a := OwnDp.dpIn hoc
              have hlArq15a := hlArq14a.below (Nat.le_refl _) hbc
              have hvrq15a : Blk wrq15a (w19.heap.size) #[.int .i64 0, .int .i64 0, .slice none 0 0, .slice none 0 0] 29 := hvrq14a.below hbc hvrq14a.lt
              clear hbc hoc
              refine hK.out _ _ (HStr.out _ hBrq15a) (fun hHeld => ?_)
              clear hK K
              try simp only [Act.put, List.setIfInBounds_toArray, List.set_cons_zero, List.set_cons_succ]
              refine wpAnyH_ready (rs := [4]) (by kernel_rfl) (by simp) ?_
              refine AllReadyH.cons (o := ?o4rq16a) ?ho4rq16a (fun K hK => ?st4rq16a) AllReadyH.nil
              case ho4rq16a =>
                simp only [List.getElem?_toArray, List.getElem?_cons_succ, List.getElem?_cons_zero]
                rfl
              go_simp
              refine (implBackThen_any a b lA lB _ hlArq15a hlBrq15a hfa hfb HSZ.out.1 HSZ.out.2).mono ?_
              intro e wrq16a hpost
              obtain ⟨hbc, l1, rfl, hodrq16a⟩ := HANS.out _ _ _ hpost
              unfold dpV
              have hBrq16a : Below w19.heap.size w19 wrq16a := hBrq15a.trans (hbc.mono hBrq15a.size)
              have hvrq16a : Blk wrq16a (w19.heap.size) #[.int .i64 0, .int .i64 0, .slice none 0 0, .slice none 0 0] 29 := hvrq15a.below hbc hvrq15a.lt
              have hltrq16a := hvrq15a.lt
              clear hbc hpost
              refine hK.out _ _ (HStr.out _ hBrq16a) (fun hHeld => ?_)
              clear hK K
              try simp only [Act.put, List.setIfInBounds_toArray, List.set_cons_zero, List.set_cons_succ]
              refine peel_take (i := 5) (oi := ?oi5rq16a) (v := ?v5rq16a) (fun _ _ _ _ _ h => h) hHeld ?hi5rq16a (by kernel_rfl) (by kernel_rfl) (by kernel_rfl) ?hw5rq16a ?hy5rq16a ?rest5rq16a
              case hi5rq16a =>
                simp only [List.getElem?_toArray, List.getElem?_cons_succ, List.getElem?_cons_zero]
                rfl
              case hw5rq16a => rfl
              case hy5rq16a =>
                intro w hSw
                obtain ⟨⟨s0, s1, s2, s3⟩, s4, s5, s6, s7⟩ := hSw
                go_simp
                try with_reducible rfl
              try simp only [Act.put, List.setIfInBounds_toArray, List.set_cons_zero, List.set_cons_succ]
              refine peel_take (i := 6) (oi := ?oi6rq16a) (v := ?v6rq16a) (fun _ _ _ _ _ h => h) hHeld ?hi6rq16a (by kernel_rfl) (by kernel_rfl) (by kernel_rfl) ?hw6rq16a ?hy6rq16a ?rest6rq16a
              case hi6rq16a =>
                simp only [List.getElem?_toArray, List.getElem?_cons_succ, List.getElem?_cons_zero]
                rfl
              case hw6rq16a => rfl
              case hy6rq16a =>
                intro w hSw
                obtain ⟨⟨s0, s1, s2, s3⟩, s4, s5, s6, s7⟩ := hSw
                go_simp
                try with_reducible rfl
              try simp only [Act.put, List.setIfInBounds_toArray, List.set_cons_zero, List.set_cons_succ]
              refine peel_take (i := 7) (oi := ?oi7rq16a) (v := ?v7rq16a) (fun _ _ _ _ _ h => h) hHeld ?hi7rq16a (by kernel_rfl) (by kernel_rfl) (by kernel_rfl) ?hw7rq16a ?hy7rq16a ?rest7rq16a
              case hi7rq16a =>
                simp only [List.getElem?_toArray, List.getElem?_cons_succ, List.getElem?_cons_zero]
                rfl
              case hw7rq16a => rfl
              case hy7rq16a =>
                intro w hSw
                obtain ⟨⟨s0, s1, s2, s3⟩, s4, s5, s6, s7⟩ := hSw
                go_simp
                try with_reducible rfl
              try simp only [Act.put, List.setIfInBounds_toArray, List.set_cons_zero, List.set_cons_succ]
              refine wpAnyH_ready (rs := [9]) (by kernel_rfl) (by simp) ?_
              refine AllReadyH.cons (o := ?o9rq17a) ?ho9rq17a (fun K hK => ?st9rq17a) AllReadyH.nil
              case ho9rq17a =>
                simp only [List.getElem?_toArray, List.getElem?_cons_succ, List.getElem?_cons_zero]
                rfl
              have z0 := hvrq16a.cell 0
              have z1 := hvrq16a.cell 1
              have z2 := hvrq16a.cell 2
              have z3 := hvrq16a.cell 3
              have f0 := hvrq16a.frozen 0
              have f1 := hvrq16a.frozen 1
              have f2 := hvrq16a.frozen 2
              have f3 := hvrq16a.frozen 3
              simp at z0 z1 z2 z3
              have HS : Hid (∀ U, U = ((((wrq16a.setCell ⟨w19.heap.size, 0, none⟩ (.int .i64 d.since)).setCell ⟨w19.heap.size, 1, none⟩ (.int .i64 d.date)).setCell ⟨w19.heap.size, 2, none⟩ (.slice l1.lA d.ln l1.lc)).setCell ⟨w19.heap.size, 3, none⟩ (.slice l1.iA d.m l1.ic)) → Below w19.heap.size w19 U ∧ Blk U (w19.heap.size) (dC d l1) 29 ∧ DpIn U d l1 ∧ w19.heap.size ≤ w19.heap.size) := fun U e => by
                subst e
                exact ⟨bel_put (bel_put (bel_put (bel_put hBrq16a _ hVrq1b) _ hVrq1b) _ hVrq1b) _ hVrq1b, (((hvrq16a.set 0 _).set 1 _).set 2 _).set 3 _, OwnDp.dpIn (OD.off (OD.off (OD.off (OD.off hodrq16a _ hltrq16a) _ hltrq16a) _ hltrq16a) _ hltrq16a), hVrq1b⟩
              go_simp
              refine hK.out _ _ (HStr.out _ (HS.out _ rfl).1) (fun hHeld => ?_)
              clear hK K
              try simp only [Act.put, List.setIfInBounds_toArray, List.set_cons_zero, List.set_cons_succ]
              refine wpAnyH_done (by kernel_rfl) ?_ _
              show Oper.wp _ _ _ _ _ _
              go_simp
              generalize hV : w19.heap.size = V
              exact NoPanic.normal (KEY.out lA lB l1 V _ (by rw [← hV]; exact HS.out _ rfl))
            · intro lA2 lB2 l3 V3 w20 h20
              obtain ⟨hb20, hv20, hi20, hVge⟩ := h20
              have hF20 := H19.out.1.below hb20
              obtain ⟨g0, g1, g2, g3⟩ := dC_cells hv20
              obtain ⟨z0, z1, z2, z3⟩ := dC_cells hF20.v6
              have H20 : Hid (FB w W3 a b d la lb l1 lx ly l2 V w4.heap.size w6.heap.size w8.heap.size w20 ∧ OD w20 BG d.ln (markB 1) d.m (markO d.nd (1 + d.ln) d.ino d.m) (markD d.nd (1 + d.ln) d.m) l2.L (.slice l2.lA d.ln l2.lc) (.slice l2.iA d.m l2.ic) ∧ DpIn w20 d l3) := ⟨hF20, OD.below H19.out.2 hb20, hi20⟩
              clear hb20 hv20 hi20 hF20 H19 H19d HStr HTor hVge
              go_wp2_with fail
              refine (eqDump_any d d l3 l1 w20 H20.out.2.2 (HI3.out.below (Nat.le_refl _) H20.out.1.base) HSM.out.fits HSM.out.fits).mono ?_
              rintro e w21 ⟨hb21, rfl⟩
              rw [Dp.same_self]
              have H21 : Hid (FB w W3 a b d la lb l1 lx ly l2 V w4.heap.size w6.heap.size w8.heap.size w21 ∧ OD w21 BG d.ln (markB 1) d.m (markO d.nd (1 + d.ln) d.ino d.m) (markD d.nd (1 + d.ln) d.m) l2.L (.slice l2.lA d.ln l2.lc) (.slice l2.iA d.m l2.ic)) := ⟨H20.out.1.below hb21, OD.below H20.out.2.1 hb21⟩
              clear hb21 H20 g0 g1 g2 g3 z0 z1 z2 z3
              obtain ⟨g0, g1, g2, g3⟩ := dC_cells H21.out.1.vG
              go_wp2_with fail
              refine (heldDump_own l2.lA l2.iA d.ln l2.lc d.m l2.ic BG d.since d.date d.ino d.nd l2.L w21 H21.out.2 HSM.out.ln HSM.out.m HSM.out.kap HSM.out.nds).mono ?_
              rintro e w22 ⟨rfl, hb22⟩
              have HBB : Hid (Below w.heap.size w w22) := (H21.out.1.below hb22).ds.bel
              clear hb22 H21 g0 g1 g2 g3
              go_wp2
              go_ret
              exact ⟨rfl, HBB.out⟩
end Go.Proofs.Yteoanlkmkmajjaa

/-
  FnExactBackThen as it is stated.
-/
namespace Go.Proofs.Yteoanlkmkmajjaa.fnExactBackThen
open Go.ChangeShapes Go.WideShapes Go.ChangeAt Go.RowKit Go.Joins
set_option linter.unusedVariables false

set_option maxRecDepth 100000 in
theorem lifted (os : Os) (started : os.Started) (H : Type) (enc : TypeId × Value → H) :
    ReturnsInHanded {} Try.checked os 4 .any (Rows.fnExactBackThenSpec.pre6 enc Try.prog Try.f4 Rows.fnExactBackThenRow.domain false) (Rows.fnExactBackThenSpec.post enc Try.prog Try.f4 false true false false) := by
  refine returnsInHanded_of_change (C := Try.checked) own started (by kernel_rfl) Try.func4
    (ChangeSpec.witness6 (enc := enc) (C := Try.checked) false ⟨#[], #[.agg #[.int .i64 0, .int .i64 0, .slice none 0 0, .slice none 0 0], .agg #[.int .i64 0, .int .i64 0, .slice none 0 0, .slice none 0 0]], []⟩ 8 (by kernel_rfl) (by kernel_rfl) (by kernel_rfl) (by kernel_rfl)) ?_
  intro W base args ds gs before hval0 hW hcnd _
  have hval : ∀ (j : Nat) t v, Try.f4.params[j]? = some t → args[j]? = some v → Value.okWide Try.prog W .any base t v := hval0
  have hW' := hW
  obtain ⟨p, q, hA0, hV, rfl, hfz, hnd⟩ := hW
  have hA : DataW.TrodAll enc Try.prog W 0 (fun _ => true) true Try.f4.params.toList args.toList ds p := hA0
  rw [Try.params4] at hA hval
  obtain ⟨v0, vs0, d0, ds0, p0, q0, hargs, rfl, rfl, h0, r0⟩ := trodAll_cons hA
  obtain ⟨v1, vs1, d1, ds1, p1, q1, rfl, rfl, rfl, h1, r1⟩ := trodAll_cons r0
  obtain ⟨rfl, rfl, rfl⟩ := trodAll_nil r1
  obtain rfl : args = #[v0, v1] := by cases args; simp_all
  obtain ⟨rfl, rfl⟩ := trodVars_none hV
  have k0 := h0
  have lt0 : ∀ x ∈ p0, x.block < W.heap.size := by obtain ⟨m, hm⟩ := k0; exact DataW.trod_lt m _ _ _ hm
  have k1 := h1
  have lt1 : ∀ x ∈ p1, x.block < W.heap.size := by obtain ⟨m, hm⟩ := k1; exact DataW.trod_lt m _ _ _ hm
  obtain ⟨d, l, rfl, hI, hf⟩ := openDump (hval 0 43 v0 rfl rfl) h0
  obtain ⟨d', l', rfl, hI', hf'⟩ := openDump (hval 1 43 v1 rfl rfl) h1
  clear hA0 hval0
  refine (lawBackThen d d' l l' W hI hI' hf hf').mono fun e W' ⟨he, bel⟩ => ?_
  subst he
  exact ⟨_, rfl, _, _, _, [], _, [], hW', trodAll_mk1 (shut_bool Try.underlying4 _), (trodAll_cons_mk (Below.trod laidOut (by kernel_rfl) (of_decide_eq_true (by kernel_rfl)) k0 bel lt0) (trodAll_cons_mk (Below.trod laidOut (by kernel_rfl) (of_decide_eq_true (by kernel_rfl)) k1 bel lt1) trodAll_mk0)), rfl, bel.frame _, fun h => by cases h⟩

theorem over : Rows.fnExactBackThenRow.holds Try.pinned (OpenSpec.ofChange Rows.fnExactBackThenSpec) :=
  OpenClaim.holds_of_wide 4 Try.f4 rfl rfl rfl rfl rfl rfl rfl ⟨rfl, rfl, rfl, rfl, rfl⟩ rfl rfl rfl rfl rfl (by kernel_rfl) Try.func4 (by kernel_rfl)
    (of_decide_eq_true (by kernel_rfl)) (by unfold Func.isWrapper; first | (rw [if_pos (by decide +kernel)]; kernel_rfl) | (rw [if_neg (by decide +kernel)]; exact ⟨rfl, rfl⟩))
    (fun os started H enc _ => lifted os started H enc)
end Go.Proofs.Yteoanlkmkmajjaa.fnExactBackThen

/-
  For every two things kept, FnExactBackThen answers true: BackThen of the program answers as BackThen of the specification, in every field, writes into nothing that was handed in, and its answer owns its memory. No condition.
-/
namespace Go.Proofs.Yteoanlkmkmajjaa
theorem fnExactBackThen_holds : Rows.FnExactBackThenSaid := fnExactBackThen.over
end Go.Proofs.Yteoanlkmkmajjaa
