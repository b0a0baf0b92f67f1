/-
  FnExactBackAll as it is stated: the card.
-/
import Derived.Test.YtakifcobofkheaaGreatDoorCardBackAllB4
import Derived.Test.YtakifcobofkheaaGreatDoorRows
import Derived.ProofKit
import Derived.LaidMore
import Derived.LaidHandle
import Derived.OpenShut
import Derived.ShutString
import Derived.ChangeOld
import Derived.WalkSmall
import Derived.Stop.LaidErr
import Derived.Stop.Joined
import Derived.Test.YtakifcobofkheaaGreatDoorCards
import Derived.Test.YtakifcobofkheaaGreatDoorTie
import Derived.SevenTiedAt

/-
  What BackAll of the specification answers.
-/
namespace Go.Proofs.YtakifcobofkheaaGreatDoor
open Go.RowKit Go.Deep
set_option linter.unusedVariables false
set_option linter.unusedSimpArgs false
set_option linter.unnecessarySimpa false

/-- The result's block and the tree's. -/
structure Al (w : World) (t : Tr) (lt : TLoc) (W : World) : Prop where
  r : Blk W w.heap.size #[.slice none 0 0, .int .i64 0] 33
  v : Blk W (w.heap.size + 1) (tC t lt) 33
  own : OwnTr W (w.heap.size + 2) t lt
  bel : Below w.heap.size w W
  size : w.heap.size + 2 ≤ W.heap.size

theorem Al.below {w : World} {t : Tr} {lt : TLoc} {W W' : World} (h : Al w t lt W) (hb : Below W.heap.size W W') : Al w t lt W' := ⟨h.r.below hb h.r.lt, h.v.below hb h.v.lt, h.own.below hb, h.bel.trans (hb.mono h.bel.size), Nat.le_trans h.size hb.size⟩

theorem al_new (w : World) : Al w trNone ⟨none, 0, fun _ => ⟨none, 0, none, 0⟩⟩ ((w.alloc (.cells #[.slice none 0 0, .int .i64 0] 33)).alloc (.cells #[.slice none 0 0, .int .i64 0] 33)) := by
  obtain ⟨h0, h1, hb, _⟩ := new2 w #[.slice none 0 0, .int .i64 0] 33 #[.slice none 0 0, .int .i64 0] 33
  exact ⟨h0, h1, OT.start _ _ _ _ _ _, hb, by simp⟩

/-- Another tree is put into its block. -/
theorem Al.turn {w : World} {t tn : Tr} {lt lr : TLoc} {W W' : World} (h : Al w t lt W) (hb : Below W.heap.size W W') (ho : OwnTr W' W.heap.size tn lr) :
    Al w tn lr ((W'.setCell ⟨w.heap.size + 1, 0, none⟩ (.slice lr.a tn.n lr.c)).setCell ⟨w.heap.size + 1, 1, none⟩ (.int .i64 tn.now)) := by
  have hs := h.size
  have h' := h.below hb
  exact ⟨(h'.r.off _ (by omega)).off _ (by omega), (h'.v.set 0 _).set 1 _, ((ho.put _ (by omega)).put _ (by omega)).lower (by omega), bel_put (bel_put h'.bel _ (by omega)) _ (by omega), by simpa [World.setCell] using h'.size⟩

/-- It ends with a tree. -/
theorem Al.fin {w : World} {t tn : Tr} {lt lr : TLoc} {W : World} {z : Int} (h : Al w t lt W) (ho : OwnTr W (w.heap.size + 1) tn lr) :
    Blk ((W.setCell ⟨w.heap.size, 0, none⟩ (.slice lr.a tn.n lr.c)).setCell ⟨w.heap.size, 1, none⟩ (.int .i64 tn.now)) w.heap.size (tC tn lr) 33 ∧ AllPost w (tn, z) (.returned (.tuple #[.agg #[.slice lr.a tn.n lr.c, .int .i64 tn.now], .int .i64 z])) ((W.setCell ⟨w.heap.size, 0, none⟩ (.slice lr.a tn.n lr.c)).setCell ⟨w.heap.size, 1, none⟩ (.int .i64 tn.now)) :=
  ⟨(h.r.set 0 _).set 1 _, bel_put (bel_put h.bel _ (Nat.le_refl _)) _ (Nat.le_refl _), lr, rfl, ((ho.put _ (by omega)).put _ (by omega)).lower (by omega)⟩

set_option maxRecDepth 100000 in
set_option maxHeartbeats 8000000 in
theorem specBackAll_any (a : Option Addr) (n c : Nat) (D : Nat → Dp) (L : Nat → DLoc) (w : World) (hS : IsDps w a n D L) (hf : FitDps n D) (hn : n ≤ maxLen) (hs : recsTo D n ≤ 1048576) :
    Calls Tryz.prog 34 #[.slice a n c] w (AllPost w (allAns n D)) := by
  unfold maxLen at hn
  have HFAIL : Hid (allAns n D = (trNone, 3) → ∀ U, U = (w.alloc (.cells #[.slice none 0 0, .int .i64 0] 33)).alloc (.cells #[.slice none 0 0, .int .i64 0] 33) → Blk U w.heap.size #[.slice none 0 0, .int .i64 0] 33 ∧ AllPost w (allAns n D) (.returned (.tuple #[.agg #[.slice none 0 0, .int .i64 0], .int .i64 3])) U) := fun h U e => by
    subst e
    rw [h]
    exact ⟨(al_new w).r, (al_new w).bel, ⟨none, 0, fun _ => ⟨none, 0, none, 0⟩⟩, rfl, OT.start _ _ _ _ _ _⟩
  by_cases hn0 : n = 0
  · have HX : Hid _ := HFAIL.out (by unfold allAns; rw [if_pos (Or.inl hn0)])
    subst hn0
    clear HFAIL
    go_enter Tryz.func34, Tryz.ntmps34
    go_wp2_with fail
    refine end_world (F := fun U => Blk U w.heap.size #[.slice none 0 0, .int .i64 0] 33 ∧ AllPost w (allAns 0 D) (.returned (.tuple #[.agg #[.slice none 0 0, .int .i64 0], .int .i64 3])) U) (HX.out _ rfl) ?_
    rintro U ⟨hr, hE⟩
    have e0 : U.cell? ⟨w.heap.size, 0, none⟩ = some (.slice none 0 0) := hr.cell 0
    have e1 : U.cell? ⟨w.heap.size, 1, none⟩ = some (.int .i64 0) := hr.cell 1
    exact bodyPost_ret (v := .tuple #[.agg #[.slice none 0 0, .int .i64 0], .int .i64 3]) (by simp [results, Tryz.results34, go_sem, e0, e1]) rfl hE
  · obtain ⟨b, off, rfl, hlt0, hc0⟩ := hS.at (show 0 < n by omega)
    have c00 : w.cell? ⟨b, off, none⟩ = some (.int .i64 (D 0).since) := by have := (hc0 0 (by omega)).1; simpa using this
    have hnb : ((n : Int) == 0) = false := by simp; omega
    have hn0i : (0 : Int) < (n : Int) := by omega
    clear hc0
    by_cases hsi : (D 0).since = 0
    · have hsb : ((D 0).since != 0) = false := by simp [hsi]
      have HANS : Hid (allAns n D = allAt D n) := by show _ = _; unfold allAns; rw [if_neg (by omega)]
      clear hsi HFAIL
      go_enter Tryz.func34, Tryz.ntmps34
      go_wp2
      go_loopw [5] (fun i wr => ∃ (k : Nat) (lt : TLoc), k ≤ n ∧ i = .int .i64 k ∧ (allAt D k).2 = 0 ∧ Al w (allAt D k).1 lt wr) (fun i _ => n - (intOf i).toNat)
      case atStart => exact ⟨0, _, Nat.zero_le _, rfl, rfl, al_new w⟩
      case round =>
        obtain ⟨k, lt, hk, rfl, hz, hA⟩ := hrel
        obtain ⟨hsm, hsk⟩ := all_small hf hs k hk
        have HNX : Hid _ := allAt_next hz
        have HZ : Hid ((allAt D k).2 = 0) := hz
        clear hz
        generalize ht : (allAt D k).1 = t at hA hsm hsk HNX
        have HT : Hid ((allAt D k).1 = t) := ht
        clear ht
        by_cases hlt : k < n
        · have hlti : (k : Int) < (n : Int) := by omega
          obtain ⟨b', off', e', hlt2, hc⟩ := (hS.below (Nat.le_refl _) hA.bel).at hlt
          cases e'
          obtain ⟨c0, c1, c2, c3, hI⟩ := hc k hlt
          have hrt := recsTo_mono D (show k + 1 ≤ n by omega)
          rw [recsTo_succ] at hrt
          have hpair : t.size + (D k).size ≤ 1048576 := by omega
          have HBAD : Hid (backCode t.n t.D t.now (D k) ≠ 0 → backTr t (D k) = trNone) := backTr_bad
          have HC0 : Hid (∀ W', Below wr.heap.size wr W' → Calls Tryz.prog 42 #[tV t lt, dpV (D k) (L k)] W' fun e w' => Below W'.heap.size W' w' ∧ ∃ l, e = .returned (.tuple #[tV (backTr t (D k)) l, .int .i64 (backCode t.n t.D t.now (D k))]) ∧ OwnTr w' W'.heap.size (backTr t (D k)) l) := fun W' hW => (specBackOne_law t lt (D k) (L k) W' (hA.own.tIn.below (Nat.le_refl _) hW) (hI.below (Nat.le_refl _) hW) hsm.fits (hf k hlt) hpair).mono fun e w' h => back_out _ _ h
          have HCN : Hid (∀ tn z, backTr t (D k) = tn → backCode t.n t.D t.now (D k) = z → ∀ W', Below wr.heap.size wr W' → Calls Tryz.prog 42 #[tV t lt, dpV (D k) (L k)] W' fun e w' => Below W'.heap.size W' w' ∧ ∃ l, e = .returned (.tuple #[tV tn l, .int .i64 z]) ∧ OwnTr w' W'.heap.size tn l) := fun tn z h1 h2 => by rw [← h1, ← h2]; exact HC0.out
          obtain ⟨tn, htn⟩ : ∃ tn, backTr t (D k) = tn := ⟨_, rfl⟩
          obtain ⟨z, hzz⟩ : ∃ z, backCode t.n t.D t.now (D k) = z := ⟨_, rfl⟩
          have HCALL : Hid _ := HCN.out tn z htn hzz
          have HNZ : Hid (allAt D (k + 1) = (tn, z) ∧ (z ≠ 0 → tn = trNone)) := ⟨by rw [HNX.out, htn, hzz], fun h => by rw [← htn]; exact HBAD.out (by rw [hzz]; exact h)⟩
          obtain ⟨v0, v1⟩ := tC_cells hA.v
          have hvl := hA.v.lt
          have HSt : Hid (∀ W', Below wr.heap.size wr W' → W'.cell? ⟨w.heap.size + 1, 0, none⟩ = some (.slice lt.a t.n lt.c) ∧ W'.cell? ⟨w.heap.size + 1, 1, none⟩ = some (.int .i64 t.now) ∧ W'.cell? ⟨b, off + k * 4, none⟩ = some (.int .i64 (D k).since) ∧ W'.cell? ⟨b, off + k * 4 + 1, none⟩ = some (.int .i64 (D k).date) ∧ W'.cell? ⟨b, off + k * 4 + 2, none⟩ = some (.slice (L k).lA (D k).ln (L k).lc) ∧ W'.cell? ⟨b, off + k * 4 + 3, none⟩ = some (.slice (L k).iA (D k).m (L k).ic)) := fun W' hW => by
            have kk : ∀ (q o : Nat) (v : Value), q < wr.heap.size → wr.cell? ⟨q, o, none⟩ = some v → W'.cell? ⟨q, o, none⟩ = some v := fun q o v hq hv => (hW.cell (p := ⟨q, o, none⟩) hq).trans hv
            exact ⟨kk _ _ _ hvl v0, kk _ _ _ hvl v1, kk _ _ _ hlt2 c0, kk _ _ _ hlt2 c1, kk _ _ _ hlt2 c2, kk _ _ _ hlt2 c3⟩
          have HA : Hid (Al w t lt wr) := hA
          clear hc hI c0 c1 c2 c3 v0 v1 hA HC0 HCN htn hzz HBAD HNX hrt hsm hsk hpair hvl
          go_wp2_with fail
          apply wp_cn2 (X := TLoc) (Y := Nat) (fun lr V W => Below wr.heap.size wr W ∧ Blk W (V) (tC tn lr) 33 ∧ OwnTr W wr.heap.size tn lr ∧ wr.heap.size ≤ V ∧ ¬ BkT tn lr (V))
          · intro key
            have KEY : Hid _ := key
            clear key
            refine wp_region_noPanic ?_
            have hB0 : Below wr.heap.size wr wr.drew := (Below.refl _ _).drew
            refine wp_region_peel (fun W' => W'.cell? ⟨w.heap.size + 1, 0, none⟩ = some (.slice lt.a t.n lt.c) ∧ W'.cell? ⟨w.heap.size + 1, 1, none⟩ = some (.int .i64 t.now) ∧ W'.cell? ⟨b, off + k * 4, none⟩ = some (.int .i64 (D k).since) ∧ W'.cell? ⟨b, off + k * 4 + 1, none⟩ = some (.int .i64 (D k).date) ∧ W'.cell? ⟨b, off + k * 4 + 2, none⟩ = some (.slice (L k).lA (D k).ln (L k).lc) ∧ W'.cell? ⟨b, off + k * 4 + 3, none⟩ = some (.slice (L k).iA (D k).m (L k).ic)) _ (by kernel_rfl) rfl (by kernel_rfl) ?_ (fun hHeld => ?_)
            · exact HSt.out _ hB0
            simp only [List.pop_toArray, List.dropLast, List.size_toArray, List.length_cons, List.length_nil, Nat.reduceAdd, Nat.reduceSub, List.getElem_toArray, List.getElem_cons_succ, List.getElem_cons_zero]
            refine peel_take (i := 0) (oi := ?oi0p) (v := ?v0p) (fun _ _ _ _ _ h => h) hHeld ?hi0p (by kernel_rfl) (by kernel_rfl) (by kernel_rfl) ?hw0p ?hy0p ?rest0p
            case hi0p =>
              simp only [List.getElem?_toArray, List.getElem?_cons_zero]
              rfl
            case hw0p => rfl
            case hy0p =>
              intro w hSw
              obtain ⟨s0, s1, s2, s3, s4, s5⟩ := hSw
              go_simp
              try with_reducible rfl
            try simp only [Act.put, List.setIfInBounds_toArray, List.set_cons_zero, List.set_cons_succ]
            refine peel_take (i := 1) (oi := ?oi1p) (v := ?v1p) (fun _ _ _ _ _ h => h) hHeld ?hi1p (by kernel_rfl) (by kernel_rfl) (by kernel_rfl) ?hw1p ?hy1p ?rest1p
            case hi1p =>
              simp only [List.getElem?_toArray, List.getElem?_cons_succ, List.getElem?_cons_zero]
              rfl
            case hw1p => rfl
            case hy1p =>
              intro w hSw
              obtain ⟨s0, s1, s2, s3, s4, s5⟩ := hSw
              go_simp
              try with_reducible rfl
            try simp only [Act.put, List.setIfInBounds_toArray, List.set_cons_zero, List.set_cons_succ]
            refine peel_take (i := 2) (oi := ?oi2p) (v := ?v2p) (fun _ _ _ _ _ h => h) hHeld ?hi2p (by kernel_rfl) (by kernel_rfl) (by kernel_rfl) ?hw2p ?hy2p ?rest2p
            case hi2p =>
              simp only [List.getElem?_toArray, List.getElem?_cons_succ, List.getElem?_cons_zero]
              rfl
            case hw2p => rfl
            case hy2p =>
              intro w hSw
              obtain ⟨s0, s1, s2, s3, s4, s5⟩ := hSw
              go_simp
              try with_reducible rfl
            try simp only [Act.put, List.setIfInBounds_toArray, List.set_cons_zero, List.set_cons_succ]
            refine peel_take (i := 3) (oi := ?oi3p) (v := ?v3p) (fun _ _ _ _ _ h => h) hHeld ?hi3p (by kernel_rfl) (by kernel_rfl) (by kernel_rfl) ?hw3p ?hy3p ?rest3p
            case hi3p =>
              simp only [List.getElem?_toArray, List.getElem?_cons_succ, List.getElem?_cons_zero]
              rfl
            case hw3p => rfl
            case hy3p =>
              intro w hSw
              obtain ⟨s0, s1, s2, s3, s4, s5⟩ := hSw
              go_simp
              try with_reducible rfl
            try simp only [Act.put, List.setIfInBounds_toArray, List.set_cons_zero, List.set_cons_succ]
            refine peel_take (i := 4) (oi := ?oi4p) (v := ?v4p) (fun _ _ _ _ _ h => h) hHeld ?hi4p (by kernel_rfl) (by kernel_rfl) (by kernel_rfl) ?hw4p ?hy4p ?rest4p
            case hi4p =>
              simp only [List.getElem?_toArray, List.getElem?_cons_succ, List.getElem?_cons_zero]
              rfl
            case hw4p => rfl
            case hy4p =>
              intro w hSw
              obtain ⟨s0, s1, s2, s3, s4, s5⟩ := hSw
              go_simp
              try with_reducible rfl
            try simp only [Act.put, List.setIfInBounds_toArray, List.set_cons_zero, List.set_cons_succ]
            refine wpAnyH_ready (rs := [5, 9]) (by kernel_rfl) (by simp) ?_
            refine AllReadyH.cons (o := ?o5q1a) ?ho5q1a (fun K hK => ?st5q1a) ?more5q1a
            case ho5q1a =>
              simp only [List.getElem?_toArray, List.getElem?_cons_succ, List.getElem?_cons_zero]
              rfl
            case st5q1a =>
              go_simp
              refine (HCALL.out _ hB0).mono ?_
              rintro e wq1a ⟨hbc, lr, rfl, hodq1a⟩
              unfold tV
              have hBq1a : Below wr.heap.size wr wq1a := hB0.trans (hbc.mono hB0.size)
              clear hbc
              refine hK.out _ _ (HSt.out _ hBq1a) (fun hHeld => ?_)
              clear hK K
              try simp only [Act.put, List.setIfInBounds_toArray, List.set_cons_zero, List.set_cons_succ]
              refine peel_take (i := 6) (oi := ?oi6q1a) (v := ?v6q1a) (fun _ _ _ _ _ h => h) hHeld ?hi6q1a (by kernel_rfl) (by kernel_rfl) (by kernel_rfl) ?hw6q1a ?hy6q1a ?rest6q1a
              case hi6q1a =>
                simp only [List.getElem?_toArray, List.getElem?_cons_succ, List.getElem?_cons_zero]
                rfl
              case hw6q1a => rfl
              case hy6q1a =>
                intro w hSw
                obtain ⟨s0, s1, s2, s3, s4, s5⟩ := hSw
                go_simp
                try with_reducible rfl
              try simp only [Act.put, List.setIfInBounds_toArray, List.set_cons_zero, List.set_cons_succ]
              refine peel_take (i := 7) (oi := ?oi7q1a) (v := ?v7q1a) (fun _ _ _ _ _ h => h) hHeld ?hi7q1a (by kernel_rfl) (by kernel_rfl) (by kernel_rfl) ?hw7q1a ?hy7q1a ?rest7q1a
              case hi7q1a =>
                simp only [List.getElem?_toArray, List.getElem?_cons_succ, List.getElem?_cons_zero]
                rfl
              case hw7q1a => rfl
              case hy7q1a =>
                intro w hSw
                obtain ⟨s0, s1, s2, s3, s4, s5⟩ := hSw
                go_simp
                try with_reducible rfl
              try simp only [Act.put, List.setIfInBounds_toArray, List.set_cons_zero, List.set_cons_succ]
              refine peel_take (i := 8) (oi := ?oi8q1a) (v := ?v8q1a) (fun _ _ _ _ _ h => h) hHeld ?hi8q1a (by kernel_rfl) (by kernel_rfl) (by kernel_rfl) ?hw8q1a ?hy8q1a ?rest8q1a
              case hi8q1a =>
                simp only [List.getElem?_toArray, List.getElem?_cons_succ, List.getElem?_cons_zero]
                rfl
              case hw8q1a => rfl
              case hy8q1a =>
                intro w hSw
                obtain ⟨s0, s1, s2, s3, s4, s5⟩ := hSw
                go_simp
                try with_reducible rfl
              try simp only [Act.put, List.setIfInBounds_toArray, List.set_cons_zero, List.set_cons_succ]
              refine wpAnyH_ready (rs := [9]) (by kernel_rfl) (by simp) ?_
              refine AllReadyH.cons (o := ?o9q2a) ?ho9q2a (fun K hK => ?st9q2a) AllReadyH.nil
              case ho9q2a =>
                simp only [List.getElem?_toArray, List.getElem?_cons_succ, List.getElem?_cons_zero]
                rfl
              go_simp
              have hBq2a : Below wr.heap.size wr (wq1a.alloc (.cells #[.slice none 0 0, .int .i64 0] 33)) := hBq1a.alloc hBq1a.size _
              have hvq2a : Blk (wq1a.alloc (.cells #[.slice none 0 0, .int .i64 0] 33)) (wq1a.heap.size) #[.slice none 0 0, .int .i64 0] 33 := by
                have h := Blk.new wq1a #[.slice none 0 0, .int .i64 0] 33
                simpa using h
              have hVq2a : wr.heap.size ≤ wq1a.heap.size := by
                have h := hBq1a.size
                simpa using h
              refine hK.out _ _ (HSt.out _ hBq2a) (fun hHeld => ?_)
              clear hK K
              try simp only [Act.put, List.setIfInBounds_toArray, List.set_cons_zero, List.set_cons_succ]
              refine wpAnyH_ready (rs := [10]) (by kernel_rfl) (by simp) ?_
              refine AllReadyH.cons (o := ?o10q3a) ?ho10q3a (fun K hK => ?st10q3a) AllReadyH.nil
              case ho10q3a =>
                simp only [List.getElem?_toArray, List.getElem?_cons_succ, List.getElem?_cons_zero]
                rfl
              have HS : Hid (∀ U, U = wq1a.alloc (.cells (tC tn lr) 33) → Below wr.heap.size wr U ∧ Blk U (wq1a.heap.size) (tC tn lr) 33 ∧ OwnTr U wr.heap.size tn lr ∧ wr.heap.size ≤ wq1a.heap.size ∧ ¬ BkT tn lr (wq1a.heap.size)) := fun U e => by
                subst e
                exact ⟨hBq1a.alloc hBq1a.size _, Blk.new _ _ _, (hodq1a.below ((Below.refl _ _).alloc (Nat.le_refl _) _)).lower hB0.size, hVq2a, fun e => Nat.lt_irrefl _ (hodq1a.blk e).2⟩
              go_simp
              refine hK.out _ _ (HSt.out _ (HS.out _ rfl).1) (fun hHeld => ?_)
              clear hK K
              try simp only [Act.put, List.setIfInBounds_toArray, List.set_cons_zero, List.set_cons_succ]
              refine wpAnyH_done (by kernel_rfl) ?_ _
              show Oper.wp _ _ _ _ _ _
              go_simp
              generalize hV : wq1a.heap.size = V
              exact NoPanic.normal (KEY.out lr V _ (by rw [← hV]; exact HS.out _ rfl))
            refine AllReadyH.cons (o := ?o9q1b) ?ho9q1b (fun K hK => ?st9q1b) AllReadyH.nil
            case ho9q1b =>
              simp only [List.getElem?_toArray, List.getElem?_cons_succ, List.getElem?_cons_zero]
              rfl
            go_simp
            have hBq1b : Below wr.heap.size wr (wr.drew.alloc (.cells #[.slice none 0 0, .int .i64 0] 33)) := hB0.alloc hB0.size _
            have hvq1b : Blk (wr.drew.alloc (.cells #[.slice none 0 0, .int .i64 0] 33)) (wr.heap.size) #[.slice none 0 0, .int .i64 0] 33 := by
              have h := Blk.new wr.drew #[.slice none 0 0, .int .i64 0] 33
              simpa using h
            have hVq1b : wr.heap.size ≤ wr.heap.size := by
              have h := hB0.size
              simpa using h
            refine hK.out _ _ (HSt.out _ hBq1b) (fun hHeld => ?_)
            clear hK K
            try simp only [Act.put, List.setIfInBounds_toArray, List.set_cons_zero, List.set_cons_succ]
            refine wpAnyH_ready (rs := [5]) (by kernel_rfl) (by simp) ?_
            refine AllReadyH.cons (o := ?o5q5a) ?ho5q5a (fun K hK => ?st5q5a) AllReadyH.nil
            case ho5q5a =>
              simp only [List.getElem?_toArray, List.getElem?_cons_succ, List.getElem?_cons_zero]
              rfl
            go_simp
            refine (HCALL.out _ hBq1b).mono ?_
            rintro e wq5a ⟨hbc, lr, rfl, hodq5a⟩
            unfold tV
            have hBq5a : Below wr.heap.size wr wq5a := hBq1b.trans (hbc.mono hBq1b.size)
            have hvq5a : Blk wq5a (wr.heap.size) #[.slice none 0 0, .int .i64 0] 33 := hvq1b.below hbc hvq1b.lt
            have hltq5a := hvq1b.lt
            clear hbc
            refine hK.out _ _ (HSt.out _ hBq5a) (fun hHeld => ?_)
            clear hK K
            try simp only [Act.put, List.setIfInBounds_toArray, List.set_cons_zero, List.set_cons_succ]
            refine peel_take (i := 6) (oi := ?oi6q5a) (v := ?v6q5a) (fun _ _ _ _ _ h => h) hHeld ?hi6q5a (by kernel_rfl) (by kernel_rfl) (by kernel_rfl) ?hw6q5a ?hy6q5a ?rest6q5a
            case hi6q5a =>
              simp only [List.getElem?_toArray, List.getElem?_cons_succ, List.getElem?_cons_zero]
              rfl
            case hw6q5a => rfl
            case hy6q5a =>
              intro w hSw
              obtain ⟨s0, s1, s2, s3, s4, s5⟩ := hSw
              go_simp
              try with_reducible rfl
            try simp only [Act.put, List.setIfInBounds_toArray, List.set_cons_zero, List.set_cons_succ]
            refine peel_take (i := 7) (oi := ?oi7q5a) (v := ?v7q5a) (fun _ _ _ _ _ h => h) hHeld ?hi7q5a (by kernel_rfl) (by kernel_rfl) (by kernel_rfl) ?hw7q5a ?hy7q5a ?rest7q5a
            case hi7q5a =>
              simp only [List.getElem?_toArray, List.getElem?_cons_succ, List.getElem?_cons_zero]
              rfl
            case hw7q5a => rfl
            case hy7q5a =>
              intro w hSw
              obtain ⟨s0, s1, s2, s3, s4, s5⟩ := hSw
              go_simp
              try with_reducible rfl
            try simp only [Act.put, List.setIfInBounds_toArray, List.set_cons_zero, List.set_cons_succ]
            refine peel_take (i := 8) (oi := ?oi8q5a) (v := ?v8q5a) (fun _ _ _ _ _ h => h) hHeld ?hi8q5a (by kernel_rfl) (by kernel_rfl) (by kernel_rfl) ?hw8q5a ?hy8q5a ?rest8q5a
            case hi8q5a =>
              simp only [List.getElem?_toArray, List.getElem?_cons_succ, List.getElem?_cons_zero]
              rfl
            case hw8q5a => rfl
            case hy8q5a =>
              intro w hSw
              obtain ⟨s0, s1, s2, s3, s4, s5⟩ := hSw
              go_simp
              try with_reducible rfl
            try simp only [Act.put, List.setIfInBounds_toArray, List.set_cons_zero, List.set_cons_succ]
            refine wpAnyH_ready (rs := [10]) (by kernel_rfl) (by simp) ?_
            refine AllReadyH.cons (o := ?o10q6a) ?ho10q6a (fun K hK => ?st10q6a) AllReadyH.nil
            case ho10q6a =>
              simp only [List.getElem?_toArray, List.getElem?_cons_succ, List.getElem?_cons_zero]
              rfl
            have z0 := hvq5a.cell 0
            have z1 := hvq5a.cell 1
            have f0 := hvq5a.frozen 0
            have f1 := hvq5a.frozen 1
            simp at z0 z1
            have HS : Hid (∀ U, U = ((wq5a.setCell ⟨wr.heap.size, 0, none⟩ (.slice lr.a tn.n lr.c)).setCell ⟨wr.heap.size, 1, none⟩ (.int .i64 tn.now)) → Below wr.heap.size wr U ∧ Blk U (wr.heap.size) (tC tn lr) 33 ∧ OwnTr U wr.heap.size tn lr ∧ wr.heap.size ≤ wr.heap.size ∧ ¬ BkT tn lr (wr.heap.size)) := fun U e => by
              subst e
              have hlow : ∀ q, BkT tn lr q → wr.heap.size < q := fun q e => by have := (hodq5a.blk e).1; have h2 := hltq5a; omega
              exact ⟨bel_put (bel_put hBq5a _ hVq1b) _ hVq1b, (hvq5a.set 0 _).set 1 _, ((hodq5a.put _ hltq5a).put _ hltq5a).lower hBq1b.size, hVq1b, fun e => Nat.lt_irrefl _ (hlow _ e)⟩
            go_simp
            refine hK.out _ _ (HSt.out _ (HS.out _ rfl).1) (fun hHeld => ?_)
            clear hK K
            try simp only [Act.put, List.setIfInBounds_toArray, List.set_cons_zero, List.set_cons_succ]
            refine wpAnyH_done (by kernel_rfl) ?_ _
            show Oper.wp _ _ _ _ _ _
            go_simp
            generalize hV : wr.heap.size = V
            exact NoPanic.normal (KEY.out lr V _ (by rw [← hV]; exact HS.out _ rfl))
          · intro lr V W3 h3
            obtain ⟨hb3, hv3, ho3, hV3, _⟩ := h3
            have hA3 := HA.out.below hb3
            by_cases hz0 : z = 0
            · have hzb : (z != 0) = false := by simp [hz0]
              have HN : Hid (allAt D (k + 1) = (tn, 0)) := by have := HNZ.out.1; rw [hz0] at this; exact this
              obtain ⟨u0, u1⟩ := tC_cells hv3
              have q0 : W3.cell? ⟨w.heap.size + 1, 0, none⟩ = some (.slice lt.a t.n lt.c) := hA3.v.cell 0
              have q1 : W3.cell? ⟨w.heap.size + 1, 1, none⟩ = some (.int .i64 t.now) := hA3.v.cell 1
              have g0 := hA3.v.frozen 0
              have g1 := hA3.v.frozen 1
              have HX : Hid _ := HA.out.turn hb3 ho3
              clear hb3 hv3 ho3 hV3 hA3 hz0 HA HNZ HCALL HSt
              go_wp2
              go_roundw
              case rel => exact ⟨k + 1, lr, by omega, by go_num, by rw [HN.out], by rw [HN.out]; exact HX.out⟩
              case measure => simp [intOf]; omega
            · have hzb : (z != 0) = true := by simp [hz0]
              have HN : Hid (allAns n D = (trNone, z)) := by
                show _ = _
                have h1 := HNZ.out.1
                rw [HNZ.out.2 hz0] at h1
                rw [HANS.out]
                exact allAt_stuck hz0 h1 n hlt
              have r0 : W3.cell? ⟨w.heap.size, 0, none⟩ = some (.slice none 0 0) := hA3.r.cell 0
              have r1 : W3.cell? ⟨w.heap.size, 1, none⟩ = some (.int .i64 0) := hA3.r.cell 1
              have g0 := hA3.r.frozen 0
              have g1 := hA3.r.frozen 1
              have HE : Hid _ := Al.fin (z := z) hA3 (tn := trNone) (lr := ⟨none, 0, fun _ => ⟨none, 0, none, 0⟩⟩) (OT.start _ _ _ _ _ _)
              clear hb3 hv3 ho3 hV3 hA3 hz0 HA HNZ HCALL HSt
              go_wp2_with fail
              refine end_world (F := fun U => Blk U w.heap.size (tC trNone ⟨none, 0, fun _ => ⟨none, 0, none, 0⟩⟩) 33 ∧ AllPost w (trNone, z) (.returned (.tuple #[.agg #[.slice none 0 0, .int .i64 0], .int .i64 z])) U) HE.out ?_
              clear HE r0 r1 g0 g1
              rintro U ⟨hr, hE⟩
              have e0 : U.cell? ⟨w.heap.size, 0, none⟩ = some (.slice none 0 0) := hr.cell 0
              have e1 : U.cell? ⟨w.heap.size, 1, none⟩ = some (.int .i64 0) := hr.cell 1
              exact bodyPost_ret (v := .tuple #[.agg #[.slice none 0 0, .int .i64 0], .int .i64 z]) (by simp [results, Tryz.results34, go_sem, e0, e1]) rfl (by rw [HN.out]; exact hE)
        · obtain rfl : k = n := by omega
          have HN : Hid (allAns k D = (t, 0)) := by
            show _ = _
            rw [HANS.out]
            exact Prod.ext HT.out HZ.out
          obtain ⟨v0, v1⟩ := tC_cells hA.v
          have r0 : wr.cell? ⟨w.heap.size, 0, none⟩ = some (.slice none 0 0) := hA.r.cell 0
          have r1 : wr.cell? ⟨w.heap.size, 1, none⟩ = some (.int .i64 0) := hA.r.cell 1
          have g0 := hA.r.frozen 0
          have g1 := hA.r.frozen 1
          have HE : Hid _ := Al.fin (z := 0) hA (hA.own.lower (by omega))
          clear hA HNX HZ HT hsm hsk
          go_wp2_with fail
          refine end_world (F := fun U => Blk U w.heap.size (tC t lt) 33 ∧ AllPost w (t, 0) (.returned (.tuple #[.agg #[.slice lt.a t.n lt.c, .int .i64 t.now], .int .i64 0])) U) HE.out ?_
          clear HE r0 r1 g0 g1 v0 v1
          rintro U ⟨hr, hE⟩
          obtain ⟨e0, e1⟩ := tC_cells hr
          exact bodyPost_ret (v := .tuple #[.agg #[.slice lt.a t.n lt.c, .int .i64 t.now], .int .i64 0]) (by simp [results, Tryz.results34, go_sem, e0, e1]) rfl (by rw [HN.out]; exact hE)
    · have hsb : ((D 0).since != 0) = true := by simp [hsi]
      have HX : Hid _ := HFAIL.out (by unfold allAns; rw [if_pos (Or.inr hsi)])
      clear hsi HFAIL
      go_enter Tryz.func34, Tryz.ntmps34
      go_wp2_with fail
      refine end_world (F := fun U => Blk U w.heap.size #[.slice none 0 0, .int .i64 0] 33 ∧ AllPost w (allAns n D) (.returned (.tuple #[.agg #[.slice none 0 0, .int .i64 0], .int .i64 3])) U) (HX.out _ rfl) ?_
      rintro U ⟨hr, hE⟩
      have e0 : U.cell? ⟨w.heap.size, 0, none⟩ = some (.slice none 0 0) := hr.cell 0
      have e1 : U.cell? ⟨w.heap.size, 1, none⟩ = some (.int .i64 0) := hr.cell 1
      exact bodyPost_ret (v := .tuple #[.agg #[.slice none 0 0, .int .i64 0], .int .i64 3]) (by simp [results, Tryz.results34, go_sem, e0, e1]) rfl hE
end Go.Proofs.YtakifcobofkheaaGreatDoor

/-
  What bringAll and BackAll of the program answer.
-/
namespace Go.Proofs.YtakifcobofkheaaGreatDoor
open Go.RowKit Go.Deep
set_option linter.unusedVariables false
set_option linter.unusedSimpArgs false
set_option linter.unnecessarySimpa false

theorem allAt_bad (D : Nat → Dp) : ∀ k, (allAt D k).2 ≠ 0 → (allAt D k).1 = trNone
  | 0, h => absurd rfl h
  | k + 1, h => by
    by_cases hz : (allAt D k).2 = 0
    · rw [allAt_next hz] at h ⊢
      exact backTr_bad h
    · have e : allAt D (k + 1) = (trNone, (allAt D k).2) := by show (if _ then _ else _) = _; rw [if_neg hz]
      rw [e]
theorem allAns_bad {n : Nat} {D : Nat → Dp} (h : (allAns n D).2 ≠ 0) : (allAns n D).1 = trNone := by
  unfold allAns at *
  split at h
  · rename_i h'; rw [if_pos h']
  · rename_i h'; rw [if_neg h']; exact allAt_bad D n h

theorem bring_out {t : Tr} {d : Dp} {w : World} {e : Ending} {w' : World} (h : BringPost w t.n t.D t.now d e w') : Below w.heap.size w w' ∧ ∃ l E, e = .returned (.tuple #[tV (backTr t d) l, E]) ∧ (backCode t.n t.D t.now d = 0 ∧ E = .nilIface ∨ backCode t.n t.D t.now d ≠ 0 ∧ E = .iface 125 (.agg #[.int .i64 (backCode t.n t.D t.now d)])) ∧ OwnTr w' w.heap.size (backTr t d) l := by
  obtain ⟨hb, hc⟩ := h
  refine ⟨hb, ?_⟩
  rcases hc with ⟨hne, rfl⟩ | ⟨hz, b, c, M, rfl, hot⟩
  · have e1 : backTr t d = trNone := backTr_bad hne
    rw [e1]
    exact ⟨⟨none, 0, fun _ => ⟨none, 0, none, 0⟩⟩, _, rfl, Or.inr ⟨hne, rfl⟩, OT.start _ _ _ _ _ _⟩
  · have e1 : backTr t d = ⟨d.ln, oneD (fromN t.n d) t.D d, d.date⟩ := by unfold backTr; rw [if_pos hz]
    rw [e1]
    exact ⟨⟨b, c, M⟩, _, rfl, Or.inl ⟨hz, rfl⟩, hot⟩

/-- What bringAll answers. -/
def AllBring (w : World) (r : Tr × Int) (e : Ending) (w' : World) : Prop :=
  Below w.heap.size w w' ∧ ((r.2 ≠ 0 ∧ e = .returned (.tuple #[.agg #[.slice none 0 0, .int .i64 0], .iface 125 (.agg #[.int .i64 r.2])])) ∨ (r.2 = 0 ∧ ∃ l, e = .returned (.tuple #[tV r.1 l, .nilIface]) ∧ OwnTr w' w.heap.size r.1 l))

theorem Al.bad {w : World} {t : Tr} {lt : TLoc} {W : World} {z : Int} (h : Al w t lt W) (hz : z ≠ 0) :
    Blk ((W.setCell ⟨w.heap.size, 0, none⟩ (.slice none 0 0)).setCell ⟨w.heap.size, 1, none⟩ (.int .i64 0)) w.heap.size #[.slice none 0 0, .int .i64 0] 33 ∧ AllBring w (trNone, z) (.returned (.tuple #[.agg #[.slice none 0 0, .int .i64 0], .iface 125 (.agg #[.int .i64 z])])) ((W.setCell ⟨w.heap.size, 0, none⟩ (.slice none 0 0)).setCell ⟨w.heap.size, 1, none⟩ (.int .i64 0)) :=
  ⟨(h.r.set 0 _).set 1 _, bel_put (bel_put h.bel _ (Nat.le_refl _)) _ (Nat.le_refl _), Or.inl ⟨hz, rfl⟩⟩

theorem Al.good {w : World} {t : Tr} {lt : TLoc} {W : World} (h : Al w t lt W) :
    Blk ((W.setCell ⟨w.heap.size, 0, none⟩ (.slice lt.a t.n lt.c)).setCell ⟨w.heap.size, 1, none⟩ (.int .i64 t.now)) w.heap.size (tC t lt) 33 ∧ AllBring w (t, 0) (.returned (.tuple #[.agg #[.slice lt.a t.n lt.c, .int .i64 t.now], .nilIface])) ((W.setCell ⟨w.heap.size, 0, none⟩ (.slice lt.a t.n lt.c)).setCell ⟨w.heap.size, 1, none⟩ (.int .i64 t.now)) :=
  ⟨(h.r.set 0 _).set 1 _, bel_put (bel_put h.bel _ (Nat.le_refl _)) _ (Nat.le_refl _), Or.inr ⟨rfl, lt, rfl, ((h.own.put _ (by omega)).put _ (by omega)).lower (by omega)⟩⟩

set_option maxRecDepth 100000 in
set_option maxHeartbeats 8000000 in
theorem bringAll_any (a : Option Addr) (n c : Nat) (D : Nat → Dp) (L : Nat → DLoc) (w : World) (hS : IsDps w a n D L) (hf : FitDps n D) (hn : n ≤ maxLen) (hs : recsTo D n ≤ 1048576) :
    Calls Tryz.prog 67 #[.slice a n c] w (AllBring w (allAns n D)) := by
  unfold maxLen at hn
  have HFAIL : Hid (allAns n D = (trNone, 3) → ∀ U, U = w.alloc (.cells #[.slice none 0 0, .int .i64 0] 33) → Blk U w.heap.size #[.slice none 0 0, .int .i64 0] 33 ∧ AllBring w (allAns n D) (.returned (.tuple #[.agg #[.slice none 0 0, .int .i64 0], .iface 125 (.agg #[.int .i64 3])])) U) := fun h U e => by
    subst e
    rw [h]
    exact ⟨Blk.new _ _ _, (Below.refl _ _).alloc (Nat.le_refl _) _, Or.inl ⟨by simp, rfl⟩⟩
  by_cases hn0 : n = 0
  · have HX : Hid _ := HFAIL.out (by unfold allAns; rw [if_pos (Or.inl hn0)])
    subst hn0
    clear HFAIL
    go_enter Tryz.func67, Tryz.ntmps67
    go_wp2_with fail
    refine end_world (F := fun U => Blk U w.heap.size #[.slice none 0 0, .int .i64 0] 33 ∧ AllBring w (allAns 0 D) (.returned (.tuple #[.agg #[.slice none 0 0, .int .i64 0], .iface 125 (.agg #[.int .i64 3])])) U) (HX.out _ rfl) ?_
    rintro U ⟨hr, hE⟩
    have e0 : U.cell? ⟨w.heap.size, 0, none⟩ = some (.slice none 0 0) := hr.cell 0
    have e1 : U.cell? ⟨w.heap.size, 1, none⟩ = some (.int .i64 0) := hr.cell 1
    exact bodyPost_ret (v := .tuple #[.agg #[.slice none 0 0, .int .i64 0], .iface 125 (.agg #[.int .i64 3])]) (by simp [results, Tryz.results67, go_sem, e0, e1]) rfl hE
  · obtain ⟨b, off, rfl, hlt0, hc0⟩ := hS.at (show 0 < n by omega)
    have c00 : w.cell? ⟨b, off, none⟩ = some (.int .i64 (D 0).since) := by have := (hc0 0 (by omega)).1; simpa using this
    have hnb : ((n : Int) == 0) = false := by simp; omega
    have hn0i : (0 : Int) < (n : Int) := by omega
    clear hc0
    by_cases hsi : (D 0).since = 0
    · have hsb : ((D 0).since != 0) = false := by simp [hsi]
      have HANS : Hid (allAns n D = allAt D n) := by show _ = _; unfold allAns; rw [if_neg (by omega)]
      clear hsi HFAIL
      go_enter Tryz.func67, Tryz.ntmps67
      go_wp2
      go_loopw [24] (fun i wr => ∃ (k : Nat) (lt : TLoc), k ≤ n ∧ i = .int .i64 k ∧ (allAt D k).2 = 0 ∧ Al w (allAt D k).1 lt wr) (fun i _ => n - (intOf i).toNat)
      case atStart => exact ⟨0, _, Nat.zero_le _, rfl, rfl, al_new w⟩
      case round =>
        obtain ⟨k, lt, hk, rfl, hz, hA⟩ := hrel
        obtain ⟨hsm, hsk⟩ := all_small hf hs k hk
        have HNX : Hid _ := allAt_next hz
        have HZ : Hid ((allAt D k).2 = 0) := hz
        clear hz
        generalize ht : (allAt D k).1 = t at hA hsm hsk HNX
        have HT : Hid ((allAt D k).1 = t) := ht
        clear ht
        by_cases hlt : k < n
        · have hlti : (k : Int) < (n : Int) := by omega
          obtain ⟨b', off', e', hlt2, hc⟩ := (hS.below (Nat.le_refl _) hA.bel).at hlt
          cases e'
          obtain ⟨c0, c1, c2, c3, hI⟩ := hc k hlt
          have hrt := recsTo_mono D (show k + 1 ≤ n by omega)
          rw [recsTo_succ] at hrt
          have hpair : sizeTo t.D t.n + sizeTo (D k).nd (D k).m ≤ 1048576 := by unfold Tr.size at hsk; unfold Dp.size at hrt; omega
          obtain ⟨v0, v1⟩ := tC_cells hA.v
          have hvl := hA.v.lt
          have hvn : w.heap.size + 1 ≠ wr.heap.size := by omega
          have HA : Hid (Al w t lt wr) := hA
          have HI : Hid (DpIn wr (D k) (L k)) := hI
          clear hc hI hA hrt hsk
          go_wp2_with fail
          refine at_world (F := New1 wr (pC (D k) (L k)) 36) (new1 wr _ _) ?_
          rintro W1 ⟨hd1, hb1, hs1⟩
          refine (bringOne_any lt.a t.n lt.c t.now t.D lt.L (D k) (L k) W1 (HA.out.own.tIn.below (Nat.le_refl _) hb1) (HI.out.below (Nat.le_refl _) hb1) hsm.fits.n hsm.fits.nds (hf k hlt) hsm.fits.now hpair).mono ?_
          intro e w2 hp
          obtain ⟨hb2, lr, E, rfl, hE, hown⟩ := bring_out hp
          unfold tV
          have HNX2 : Hid (allAt D (k + 1) = (backTr t (D k), backCode t.n t.D t.now (D k)) ∧ (backCode t.n t.D t.now (D k) ≠ 0 → backTr t (D k) = trNone)) := ⟨HNX.out, backTr_bad⟩
          have hb12 : Below wr.heap.size wr w2 := hb1.trans (hb2.mono (by omega))
          have HA2 : Hid (Al w t lt w2 ∧ OwnTr w2 wr.heap.size (backTr t (D k)) lr) := ⟨HA.out.below hb12, hown.lower (by omega)⟩
          have HSW : Hid (w.heap.size + 2 ≤ wr.heap.size) := HA.out.size
          clear hp hb1 hb2 hb12 hown hd1 hs1 c0 c1 c2 c3 v0 v1 hvl hvn HNX hsm hpair
          have hvl : w.heap.size + 1 < w2.heap.size := HA2.out.1.v.lt
          have hvn : w.heap.size + 1 ≠ w2.heap.size := by omega
          have hrl : w.heap.size < w2.heap.size := by omega
          have hrn : w.heap.size ≠ w2.heap.size := by omega
          rcases hE with ⟨hz, rfl⟩ | ⟨hz, rfl⟩
          · have HN : Hid (allAt D (k + 1) = (backTr t (D k), 0)) := by have := HNX2.out.1; rw [hz] at this; exact this
            generalize backTr t (D k) = tn at *
            have q0 : w2.cell? ⟨w.heap.size + 1, 0, none⟩ = some (.slice lt.a t.n lt.c) := HA2.out.1.v.cell 0
            have q1 : w2.cell? ⟨w.heap.size + 1, 1, none⟩ = some (.int .i64 t.now) := HA2.out.1.v.cell 1
            have g0 := HA2.out.1.v.frozen 0
            have g1 := HA2.out.1.v.frozen 1
            have HX : Hid (∀ U, U = ((w2.setCell ⟨w.heap.size + 1, 0, none⟩ (.slice lr.a tn.n lr.c)).setCell ⟨w.heap.size + 1, 1, none⟩ (.int .i64 tn.now)).alloc (.cells #[.slice lr.a tn.n lr.c, .int .i64 tn.now] 33) → Al w tn lr U) := fun U e => by
              subst e
              have h' := HA2.out.1
              have hsw := HSW.out
              have hX : Al w tn lr ((w2.setCell ⟨w.heap.size + 1, 0, none⟩ (.slice lr.a tn.n lr.c)).setCell ⟨w.heap.size + 1, 1, none⟩ (.int .i64 tn.now)) := ⟨(h'.r.off _ (by omega)).off _ (by omega), (h'.v.set 0 _).set 1 _, ((HA2.out.2.put _ (by omega)).put _ (by omega)).lower (by omega), bel_put (bel_put h'.bel _ (by omega)) _ (by omega), by simpa [World.setCell] using h'.size⟩
              exact hX.below ((Below.refl _ _).alloc (Nat.le_refl _) _)
            clear hz HNX2
            go_wp2
            go_roundw
            case rel => exact ⟨k + 1, lr, by omega, by go_num, by rw [HN.out], by rw [HN.out]; exact HX.out _ rfl⟩
            case measure => simp [intOf]; omega
          · have HN : Hid (allAns n D = (trNone, backCode t.n t.D t.now (D k))) := by
              show _ = _
              have h1 := HNX2.out.1
              rw [HNX2.out.2 hz] at h1
              rw [HANS.out]
              exact allAt_stuck hz h1 n hlt
            have HZN : Hid (backCode t.n t.D t.now (D k) ≠ 0) := hz
            generalize backCode t.n t.D t.now (D k) = z at *
            generalize backTr t (D k) = tn at *
            have r0 : w2.cell? ⟨w.heap.size, 0, none⟩ = some (.slice none 0 0) := HA2.out.1.r.cell 0
            have r1 : w2.cell? ⟨w.heap.size, 1, none⟩ = some (.int .i64 0) := HA2.out.1.r.cell 1
            have g0 := HA2.out.1.r.frozen 0
            have g1 := HA2.out.1.r.frozen 1
            have HE : Hid (∀ U, U = ((w2.setCell ⟨w.heap.size, 0, none⟩ (.slice none 0 0)).setCell ⟨w.heap.size, 1, none⟩ (.int .i64 0)).alloc (.cells #[.slice lr.a tn.n lr.c, .int .i64 tn.now] 33) → Blk U w.heap.size #[.slice none 0 0, .int .i64 0] 33 ∧ AllBring w (allAns n D) (.returned (.tuple #[.agg #[.slice none 0 0, .int .i64 0], .iface 125 (.agg #[.int .i64 z])])) U) := fun U e => by
              subst e
              obtain ⟨h1, h2, h3⟩ := HA2.out.1.bad HZN.out
              rw [HN.out]
              refine ⟨h1.alloc _, h2.alloc h2.size _, ?_⟩
              rcases h3 with h | ⟨h, _⟩
              · exact Or.inl h
              · exact absurd h HZN.out
            clear hz HNX2 HZN
            go_wp2_with fail
            refine end_world (F := fun U => Blk U w.heap.size #[.slice none 0 0, .int .i64 0] 33 ∧ AllBring w (allAns n D) (.returned (.tuple #[.agg #[.slice none 0 0, .int .i64 0], .iface 125 (.agg #[.int .i64 z])])) U) (HE.out _ rfl) ?_
            clear HE r0 r1 g0 g1
            rintro U ⟨hr, hE⟩
            have e0 : U.cell? ⟨w.heap.size, 0, none⟩ = some (.slice none 0 0) := hr.cell 0
            have e1 : U.cell? ⟨w.heap.size, 1, none⟩ = some (.int .i64 0) := hr.cell 1
            exact bodyPost_ret (v := .tuple #[.agg #[.slice none 0 0, .int .i64 0], .iface 125 (.agg #[.int .i64 z])]) (by simp [results, Tryz.results67, go_sem, e0, e1]) rfl hE
        · obtain rfl : k = n := by omega
          have HN : Hid (allAns k D = (t, 0)) := by
            show _ = _
            rw [HANS.out]
            exact Prod.ext HT.out HZ.out
          obtain ⟨v0, v1⟩ := tC_cells hA.v
          have r0 : wr.cell? ⟨w.heap.size, 0, none⟩ = some (.slice none 0 0) := hA.r.cell 0
          have r1 : wr.cell? ⟨w.heap.size, 1, none⟩ = some (.int .i64 0) := hA.r.cell 1
          have g0 := hA.r.frozen 0
          have g1 := hA.r.frozen 1
          have HE : Hid _ := hA.good
          clear hA HNX HZ HT hsm hsk
          go_wp2_with fail
          refine end_world (F := fun U => Blk U w.heap.size (tC t lt) 33 ∧ AllBring w (t, 0) (.returned (.tuple #[.agg #[.slice lt.a t.n lt.c, .int .i64 t.now], .nilIface])) U) HE.out ?_
          clear HE r0 r1 g0 g1 v0 v1
          rintro U ⟨hr, hE⟩
          obtain ⟨e0, e1⟩ := tC_cells hr
          exact bodyPost_ret (v := .tuple #[.agg #[.slice lt.a t.n lt.c, .int .i64 t.now], .nilIface]) (by simp [results, Tryz.results67, go_sem, e0, e1]) rfl (by rw [HN.out]; exact hE)
    · have hsb : ((D 0).since != 0) = true := by simp [hsi]
      have HX : Hid _ := HFAIL.out (by unfold allAns; rw [if_pos (Or.inr hsi)])
      clear hsi HFAIL
      go_enter Tryz.func67, Tryz.ntmps67
      go_wp2_with fail
      refine end_world (F := fun U => Blk U w.heap.size #[.slice none 0 0, .int .i64 0] 33 ∧ AllBring w (allAns n D) (.returned (.tuple #[.agg #[.slice none 0 0, .int .i64 0], .iface 125 (.agg #[.int .i64 3])])) U) (HX.out _ rfl) ?_
      rintro U ⟨hr, hE⟩
      have e0 : U.cell? ⟨w.heap.size, 0, none⟩ = some (.slice none 0 0) := hr.cell 0
      have e1 : U.cell? ⟨w.heap.size, 1, none⟩ = some (.int .i64 0) := hr.cell 1
      exact bodyPost_ret (v := .tuple #[.agg #[.slice none 0 0, .int .i64 0], .iface 125 (.agg #[.int .i64 3])]) (by simp [results, Tryz.results67, go_sem, e0, e1]) rfl hE

set_option maxHeartbeats 2000000 in
theorem implBackAll_any (a : Option Addr) (n c : Nat) (D : Nat → Dp) (L : Nat → DLoc) (w : World) (hg : ErrType w) (hS : IsDps w a n D L) (hf : FitDps n D) (hn : n ≤ maxLen) (hs : recsTo D n ≤ 1048576) :
    Calls Tryz.prog 36 #[.slice a n c] w (AllPost w (allAns n D)) := by
  have HB : Hid ((allAns n D).2 ≠ 0 → (allAns n D).1 = trNone) := allAns_bad
  go_enter Tryz.func36, Tryz.ntmps36
  go_wp2_with fail
  refine at_world (F := New1 w #[.slice none 0 0, .int .i64 0] 33) (new1 w _ _) ?_
  rintro W ⟨hr, hb, hsz⟩
  refine (bringAll_any a n c D L W (hS.below (Nat.le_refl _) hb) hf hn hs).mono ?_
  rintro e w1 ⟨hb1, hcase⟩
  generalize allAns n D = r at *
  obtain ⟨t, z⟩ := r
  have hs1 : w.heap.size + 1 ≤ W.heap.size := by omega
  have HG : Hid (ErrType w1) := (hg.bel hb).bel hb1
  have hr1 := hr.below hb1 (by omega)
  have hB1 := hb.trans (hb1.mono (by omega))
  rcases hcase with ⟨hne, rfl⟩ | ⟨hz, l, rfl, ho⟩
  · have HZ : Hid (t = trNone) := HB.out hne
    have H1 : Hid (Blk w1 w.heap.size #[.slice none 0 0, .int .i64 0] 33 ∧ Below w.heap.size w w1) := ⟨hr1, hB1⟩
    clear hr hb hb1 hr1 hB1 hne hsz hs1
    dsimp only
    go_wp2_with fail
    refine (treeOrCode_err z 0 none 0 0 w1 HG.out).mono ?_
    rintro e w2 ⟨rfl, hb2⟩
    have H2 : Hid (Blk w2 w.heap.size #[.slice none 0 0, .int .i64 0] 33 ∧ Below w.heap.size w w2) := ⟨H1.out.1.below hb2 H1.out.1.lt, H1.out.2.trans (hb2.mono H1.out.2.size)⟩
    clear hb2 H1
    have r0 : w2.cell? ⟨w.heap.size, 0, none⟩ = some (.slice none 0 0) := H2.out.1.cell 0
    have r1 : w2.cell? ⟨w.heap.size, 1, none⟩ = some (.int .i64 0) := H2.out.1.cell 1
    have g0 := H2.out.1.frozen 0
    have g1 := H2.out.1.frozen 1
    go_wp2_with fail
    refine end_world (F := fun U => Blk U w.heap.size #[.slice none 0 0, .int .i64 0] 33 ∧ Below w.heap.size w U) ⟨(H2.out.1.set 0 _).set 1 _, bel_put (bel_put H2.out.2 _ (Nat.le_refl _)) _ (Nat.le_refl _)⟩ ?_
    clear r0 r1 g0 g1
    rintro U ⟨hr, hB⟩
    have e0 : U.cell? ⟨w.heap.size, 0, none⟩ = some (.slice none 0 0) := hr.cell 0
    have e1 : U.cell? ⟨w.heap.size, 1, none⟩ = some (.int .i64 0) := hr.cell 1
    exact bodyPost_ret (v := .tuple #[.agg #[.slice none 0 0, .int .i64 0], .int .i64 z]) (by simp [results, Tryz.results36, go_sem, e0, e1]) rfl ⟨hB, ⟨none, 0, fun _ => ⟨none, 0, none, 0⟩⟩, by rw [HZ.out]; rfl, by rw [HZ.out]; exact OT.start _ _ _ _ _ _⟩
  · have HZ : Hid (z = 0) := hz
    have H1 : Hid (Blk w1 w.heap.size #[.slice none 0 0, .int .i64 0] 33 ∧ Below w.heap.size w w1 ∧ OwnTr w1 (w.heap.size + 1) t l) := ⟨hr1, hB1, ho.lower (by omega)⟩
    clear hr hb hb1 hr1 hB1 hz hsz hs1 ho
    unfold tV
    dsimp only
    go_wp2_with fail
    refine (treeOrCode_nil _ t.now l.a t.n l.c rfl w1).mono ?_
    rintro e w2 ⟨rfl, hb2⟩
    have H2 : Hid (Blk w2 w.heap.size #[.slice none 0 0, .int .i64 0] 33 ∧ Below w.heap.size w w2 ∧ OwnTr w2 (w.heap.size + 1) t l) := ⟨H1.out.1.below hb2 H1.out.1.lt, H1.out.2.1.trans (hb2.mono H1.out.2.1.size), H1.out.2.2.below hb2⟩
    clear hb2 H1
    have r0 : w2.cell? ⟨w.heap.size, 0, none⟩ = some (.slice none 0 0) := H2.out.1.cell 0
    have r1 : w2.cell? ⟨w.heap.size, 1, none⟩ = some (.int .i64 0) := H2.out.1.cell 1
    have g0 := H2.out.1.frozen 0
    have g1 := H2.out.1.frozen 1
    go_wp2_with fail
    refine end_world (F := fun U => Blk U w.heap.size (tC t l) 33 ∧ Below w.heap.size w U ∧ OwnTr U (w.heap.size + 1) t l) ⟨(H2.out.1.set 0 _).set 1 _, bel_put (bel_put H2.out.2.1 _ (Nat.le_refl _)) _ (Nat.le_refl _), (H2.out.2.2.put _ (by omega)).put _ (by omega)⟩ ?_
    clear r0 r1 g0 g1
    rintro U ⟨hr, hB, ho⟩
    obtain ⟨e0, e1⟩ := tC_cells hr
    exact bodyPost_ret (v := .tuple #[.agg #[.slice l.a t.n l.c, .int .i64 t.now], .int .i64 0]) (by simp [results, Tryz.results36, go_sem, e0, e1]) rfl ⟨hB, l, by rw [HZ.out]; rfl, ho.lower (by omega)⟩
end Go.Proofs.YtakifcobofkheaaGreatDoor

/-
  What the helpers of the exact laws do at a list of what was kept.
-/
namespace Go.Proofs.YtakifcobofkheaaGreatDoor
open Go.RowKit Go.Deep
set_option linter.unusedVariables false
set_option linter.unusedSimpArgs false

set_option maxHeartbeats 1000000 in
theorem szDumpS_any (a : Option Addr) (n c : Nat) (D : Nat → Dp) (L : Nat → DLoc) (left : Int) (w : World) (hS : IsDps w a n D L) (hf : FitDps n D) (hn : n ≤ maxLen) (h0 : 0 ≤ left) (h1 : left ≤ 1048576) :
    Calls Tryz.prog 33 #[.slice a n c, .int .i64 left] w fun e w' => Below w.heap.size w w' ∧ ∃ r : Int, e = .returned (.int .i64 r) ∧ r ≤ left ∧ (0 ≤ r → r + n + recsTo D n ≤ left) := by
  unfold maxLen at hn
  by_cases hneg : left - n < 0
  · have hneg' : decide (left - (n : Int) < 0) = true := decide_eq_true hneg
    go_enter Tryz.func33, Tryz.ntmps33
    go_wp2
    go_ret
    exact ⟨Below.refl _ _, -1, rfl, by omega, fun h => by omega⟩
  · have hneg' : decide (left - (n : Int) < 0) = false := decide_eq_false hneg
    go_enter Tryz.func33, Tryz.ntmps33
    go_wp2
    go_loopw [1, 5] (fun v i wr => ∃ (k : Nat) (r : Int), k ≤ n ∧ i = .int .i64 k ∧ v = .int .i64 r ∧ 0 ≤ r ∧ r ≤ left - n ∧ r + recsTo D k ≤ left - n ∧ Below w.heap.size w wr) (fun _ i _ => n - (intOf i).toNat)
    case atStart => exact ⟨0, left - n, Nat.zero_le _, rfl, rfl, by omega, by omega, by simp [recsTo], Below.refl _ _⟩
    case round =>
      obtain ⟨k, r, hk, rfl, rfl, hr0, hr1, hr2, hb⟩ := hrel
      have HB : Hid (Below w.heap.size w wr ∧ r + recsTo D k ≤ left - n) := ⟨hb, hr2⟩
      have hge : w.heap.size ≤ wr.heap.size := hb.size
      by_cases hlt : k < n
      · obtain ⟨b, off, rfl, hlt2, hc⟩ := (hS.below (Nat.le_refl _) hb).at hlt
        obtain ⟨c0, c1, c2, c3, hI⟩ := hc k hlt
        have hlti : (k : Int) < (n : Int) := by omega
        clear hc hb hr2
        go_wp2_with fail
        refine (szDump_any (D k) (L k) r wr hI (hf k hlt) hr0 (by omega)).mono ?_
        rintro e w1 ⟨hb1, r', rfl, hr1', hr2'⟩
        have HB1 : Hid (Below w.heap.size w w1 ∧ (0 ≤ r' → r' + (D k).size ≤ r)) := ⟨HB.out.1.trans (hb1.mono hge), hr2'⟩
        clear hb1 hr2' c0 c1 c2 c3
        by_cases hr3 : r' < 0
        · have hr3' : decide (r' < 0) = true := decide_eq_true hr3
          go_wp2
          go_ret
          exact ⟨HB1.out.1, -1, rfl, by omega, fun h => by omega⟩
        · have hr3' : decide (r' < 0) = false := decide_eq_false hr3
          have HN : Hid (r' + (recsTo D (k + 1) : Nat) ≤ left - n) := by
            have h1 := HB1.out.2 (by omega)
            have h2 := HB.out.2
            show _ ≤ _
            rw [recsTo_succ]
            omega
          go_wp2
          go_roundw
          case rel => exact ⟨k + 1, r', by omega, by go_num, rfl, by omega, by omega, HN.out, HB1.out.1⟩
          case measure => simp [intOf] <;> omega
      · obtain rfl : k = n := by omega
        clear hb hr2
        go_wp2
        go_ret
        exact ⟨HB.out.1, r, rfl, by omega, fun _ => by have := HB.out.2; omega⟩

set_option maxHeartbeats 1000000 in
theorem eqDumpS_any (a a' : Option Addr) (n c m c' : Nat) (D E : Nat → Dp) (L M : Nat → DLoc) (w : World) (hS : IsDps w a n D L) (hT : IsDps w a' m E M) (hf : FitDps n D) (hf' : FitDps m E) (hn : n ≤ maxLen) (hm : m ≤ maxLen) :
    Calls Tryz.prog 37 #[.slice a n c, .slice a' m c'] w fun e w' => Below w.heap.size w w' ∧ e = .returned (.bool (decide (n = m) && sameDps n D E)) := by
  unfold maxLen at hn hm
  by_cases hne : n = m
  · subst hne
    have hb : ((n : Int) != (n : Int)) = false := by simp
    go_enter Tryz.func37, Tryz.ntmps37
    go_wp2
    go_loopw [5] (fun i wr => ∃ k : Nat, k ≤ n ∧ i = .int .i64 k ∧ Below w.heap.size w wr ∧ sameDps k D E = true) (fun i _ => n - (intOf i).toNat)
    case atStart => exact ⟨0, Nat.zero_le _, rfl, Below.refl _ _, rfl⟩
    case round =>
      obtain ⟨k, hk, rfl, hbel, heq⟩ := hrel
      have HE : Hid (sameDps k D E = true) := heq
      clear heq
      by_cases hlt : k < n
      · obtain ⟨b, off, rfl, hlt2, hc⟩ := (hS.below (Nat.le_refl _) hbel).at hlt
        obtain ⟨b', off', rfl, hlt2', hc'⟩ := (hT.below (Nat.le_refl _) hbel).at hlt
        obtain ⟨c0, c1, c2, c3, hI⟩ := hc k hlt
        obtain ⟨d0, d1, d2, d3, hI'⟩ := hc' k hlt
        have hlti : (k : Int) < (n : Int) := by omega
        have C0 := Lat.cell (B := wr.heap.size) c0 hlt2
        have C1 := Lat.cell (B := wr.heap.size) c1 hlt2
        have C2 := Lat.cell (B := wr.heap.size) c2 hlt2
        have C3 := Lat.cell (B := wr.heap.size) c3 hlt2
        have D0 := Lat.cell (B := wr.heap.size) d0 hlt2'
        have D1 := Lat.cell (B := wr.heap.size) d1 hlt2'
        have D2 := Lat.cell (B := wr.heap.size) d2 hlt2'
        have D3 := Lat.cell (B := wr.heap.size) d3 hlt2'
        have hcall : Hid (∀ n : Lat wr.heap.size wr, Calls Tryz.prog 17 #[dpV (D k) (L k), dpV (E k) (M k)] n.val fun e w'' => e = .returned (.bool ((D k).same (E k))) ∧ ∃ m : Lat wr.heap.size wr, w'' = m.val) := fun n =>
          Calls.lat_of (eqDump_any (D k) (E k) (L k) (M k) n.val (hI.below (Nat.le_refl _) n.bel) (hI'.below (Nat.le_refl _) n.bel) (hf k hlt) (hf' k hlt)) (fun e w' h => ⟨h.2, h.1.mono n.bel.size⟩)
        clear hc hc' c0 c1 c2 c3 d0 d1 d2 d3 hI hI'
        have HBL : Hid (Below w.heap.size w wr) := hbel
        clear hbel
        go_wp2_with fail
        refine wp_region_lat (B := wr.heap.size) (w0 := wr) (by kernel_rfl) (by kernel_rfl) (Below.refl _ _) ?_
        repeat (go_big_quiet_step (exact hcall.out _))
        refine wpQuiet_nil ?_
        rintro _ ⟨nq, rfl⟩
        have hB : Hid (Below w.heap.size w nq.val) := HBL.out.trans (nq.bel.mono HBL.out.size)
        clear hcall C0 C1 C2 C3 D0 D1 D2 D3
        cases hq : (D k).same (E k) with
        | false =>
          have HX : Hid (false = sameDps n D E) := sameDps_not n k D E hlt hq
          clear hq
          go_wp2
          go_ret
          exact ⟨hB.out, ret_bool (by rw [← HX.out]; simp)⟩
        | true =>
          have HX : Hid (sameDps (k + 1) D E = true) := sameDps_succ k D E HE.out hq
          clear hq
          go_wp2
          go_roundw
          case rel => exact ⟨k + 1, by omega, by go_num, hB.out, HX.out⟩
          case measure => simp [intOf]; omega
      · have hkn : k = n := by omega
        have HK : Hid (k = n) := hkn
        have HBL : Hid (Below w.heap.size w wr) := hbel
        clear hkn hbel
        go_wp2
        go_ret
        exact ⟨HBL.out, ret_bool (by rw [← HK.out, HE.out]; simp)⟩
  · have hb : ((n : Int) != (m : Int)) = true := by simp; omega
    go_enter Tryz.func37, Tryz.ntmps37
    go_wp2
    go_ret
    exact ⟨Below.refl _ _, ret_bool (by simp [hne])⟩
end Go.Proofs.YtakifcobofkheaaGreatDoor

/-
  A list of what was kept, in memory of one's own: a copy of it.
-/
namespace Go.Proofs.YtakifcobofkheaaGreatDoor
open Go.RowKit Go.Deep
set_option linter.unusedVariables false
set_option linter.unusedSimpArgs false

/-- Block g holds n of them, the first k laid; the parts of each lie in blocks of their own, those of i from H i on and below H (i + 1). -/
structure DpRow (w : World) (g n k : Nat) (D : Nat → Dp) (L : Nat → DLoc) (H : Nat → Nat) : Prop where
  row : ∃ f, w.rowIs g 36 (n * 4) f ∧ ∀ i, i < k → f (i * 4) = .int .i64 (D i).since ∧ f (i * 4 + 1) = .int .i64 (D i).date ∧ f (i * 4 + 2) = .slice (L i).lA (D i).ln (L i).lc ∧ f (i * 4 + 3) = .slice (L i).iA (D i).m (L i).ic
  own : ∀ i, i < k → OwnDp w (H i) (D i) (L i)
  blk : ∀ i, i < k → ∀ d b, d < 2 + 2 * (D i).m → (valD (.slice (L i).lA (D i).ln (L i).lc) (.slice (L i).iA (D i).m (L i).ic) (D i).nd (L i).L d).ownBlock = some b → b < H (i + 1)
  up : ∀ i, i < k → H i ≤ H (i + 1)
  top : H k ≤ w.heap.size
  low : g < H 0

theorem DpRow.mono {w : World} {g n k : Nat} {D : Nat → Dp} {L : Nat → DLoc} {H : Nat → Nat} (h : DpRow w g n k D L H) : ∀ {i j : Nat}, i ≤ j → j ≤ k → H i ≤ H j := by
  intro i j hij
  induction hij with
  | refl => intro _; exact Nat.le_refl _
  | step hij ih =>
    rename_i m
    intro hm
    exact Nat.le_trans (ih (by omega)) (h.up m (by omega))

theorem DpRow.recs {w : World} {g n : Nat} {D : Nat → Dp} {L : Nat → DLoc} {H : Nat → Nat} (h : DpRow w g n n D L H) : IsDps w (some ⟨g, 0, none⟩) n D L := by
  obtain ⟨f, hr, hf⟩ := h.row
  refine Or.inr ⟨g, 0, rfl, hr.lt, fun i hi => ?_⟩
  obtain ⟨f0, f1, f2, f3⟩ := hf i hi
  rw [Nat.zero_add, ← f0, ← f1, ← f2, ← f3]
  exact ⟨hr.cell (by omega), hr.cell (by omega), hr.cell (by omega), hr.cell (by omega), (h.own i hi).dpIn⟩

theorem DpRow.below {w w' : World} {g n k : Nat} {D : Nat → Dp} {L : Nat → DLoc} {H : Nat → Nat} (h : DpRow w g n k D L H) (hb : Below w.heap.size w w') : DpRow w' g n k D L H := by
  obtain ⟨f, hr, hf⟩ := h.row
  exact ⟨⟨f, rowIs_below hr hb hr.lt, hf⟩, fun i hi => OD.below (h.own i hi) hb, h.blk, h.up, Nat.le_trans h.top hb.size, h.low⟩

theorem fourD_ne {i k r s : Nat} (h : i ≠ k) (hr : r < 4) (hs : s < 4) : i * 4 + r ≠ k * 4 + s := by omega

theorem DpRow.step {w : World} {g n k : Nat} {D : Nat → Dp} {L : Nat → DLoc} {H : Nat → Nat} (h : DpRow w g n k D L H) {l : DLoc} (hk : OwnDp w (H k) (D k) l) :
    DpRow ((((w.setCell ⟨g, k * 4, none⟩ (.int .i64 (D k).since)).setCell ⟨g, k * 4 + 1, none⟩ (.int .i64 (D k).date)).setCell ⟨g, k * 4 + 2, none⟩ (.slice l.lA (D k).ln l.lc)).setCell ⟨g, k * 4 + 3, none⟩ (.slice l.iA (D k).m l.ic)) g n (k + 1) D (fun i => if i = k then l else L i) (fun i => if i = k + 1 then w.heap.size else H i) := by
  have hlow := h.low
  have hm : ∀ i, i ≤ k → g < H i := fun i hi => Nat.lt_of_lt_of_le hlow (h.mono (Nat.zero_le _) hi)
  have htop := h.top
  obtain ⟨f, hr, hf⟩ := h.row
  refine ⟨⟨_, ((((hr.set _ _).set _ _).set _ _).set _ _), fun i hi => ?_⟩, fun i hi => ?_, fun i hi d b hd hb => ?_, fun i hi => ?_, ?_, ?_⟩
  · by_cases e : i = k
    · subst e; simp
    · have := hf i (by omega)
      have n0 : ∀ r s, r < 4 → s < 4 → ¬ i * 4 + r = k * 4 + s := fun r s hr hs => fourD_ne e hr hs
      have z0 : ∀ s, s < 4 → ¬ i * 4 = k * 4 + s := fun s hs => n0 0 s (by omega) hs
      have z1 : ∀ r, r < 4 → ¬ i * 4 + r = k * 4 := fun r hr => n0 r 0 hr (by omega)
      have z2 : ¬ i * 4 = k * 4 := n0 0 0 (by omega) (by omega)
      simp only [if_neg e, z0 1 (by omega), z0 2 (by omega), z0 3 (by omega), z1 1 (by omega), z1 2 (by omega), z1 3 (by omega), z2, n0 1 1 (by omega) (by omega), n0 1 2 (by omega) (by omega), n0 1 3 (by omega) (by omega), n0 2 1 (by omega) (by omega), n0 2 2 (by omega) (by omega), n0 2 3 (by omega) (by omega), n0 3 1 (by omega) (by omega), n0 3 2 (by omega) (by omega), n0 3 3 (by omega) (by omega), if_false]
      exact this
  · simp only [show i ≠ k + 1 by omega, if_false]
    have hg : g < H i := hm i (by omega)
    by_cases e : i = k
    · subst e
      simp only [if_true]
      exact ((((OD.off hk _ hg).off _ hg).off _ hg).off _ hg)
    · simp only [if_neg e]
      exact ((((OD.off (h.own i (by omega)) _ hg).off _ hg).off _ hg).off _ hg)
  · by_cases e : i = k
    · subst e
      simp only [if_true] at hb ⊢
      exact (owns_block (hk.rows.own d hd) hb).2
    · simp only [if_neg e] at hb
      have := h.blk i (by omega) d b hd hb
      simp only [show i + 1 ≠ k + 1 by omega, if_false]
      exact this
  · by_cases e : i = k
    · subst e
      simp only [show i ≠ i + 1 by omega, if_false, if_true]
      exact htop
    · simp only [show i ≠ k + 1 by omega, show i + 1 ≠ k + 1 by omega, if_false]
      exact h.up i (by omega)
  · simp [World.setCell]
  · simp only [show (0 : Nat) ≠ k + 1 by omega, if_false]
    exact hlow

set_option maxHeartbeats 2000000 in
theorem toDumpS_own (a : Option Addr) (n c : Nat) (D : Nat → Dp) (L : Nat → DLoc) (w : World) (hS : IsDps w a n D L) (hn : n ≤ 1048576) (hsz : recsTo D n ≤ 1048576) :
    Calls Tryz.prog 35 #[.slice a n c] w fun e w' => e = .returned (.slice (some ⟨w.heap.size, 0, none⟩) n n) ∧ Below w.heap.size w w' ∧ ∃ L' H, DpRow w' w.heap.size n n D L' H := by
  have hmk := fun w => run_make_wide (P := Tryz.prog) 63 36 _ 64 4 Tryz.underlying63 infoDumpE .i64 .i64 n (by omega) (by omega) w
  go_enter Tryz.func35, Tryz.ntmps35
  go_wp2
  go_loopw [4] (fun i wr => ∃ (k : Nat) (L' : Nat → DLoc) (H : Nat → Nat), k ≤ n ∧ i = .int .i64 k ∧ Below w.heap.size w wr ∧ DpRow wr w.heap.size n k D L' H) (fun i _ => n - (intOf i).toNat)
  case atStart =>
    obtain ⟨g, hg⟩ := rowIs_wide w #[.int .i64 0, .int .i64 0, .slice none 0 0, .slice none 0 0] (n * 4) 36
    exact ⟨0, L, fun _ => w.heap.size + 1, Nat.zero_le _, rfl, (Below.refl _ _).alloc (Nat.le_refl _) _, ⟨g, hg, fun i hi => by omega⟩, fun i hi => by omega, fun i hi => by omega, fun i hi => by omega, by simp, by omega⟩
  case round =>
    obtain ⟨k, L', H, hk, rfl, hb, hrow⟩ := hrel
    by_cases hlt : k < n
    · obtain ⟨b, off, rfl, hlt2, hc⟩ := (hS.below (Nat.le_refl _) hb).at hlt
      obtain ⟨c0, c1, c2, c3, hI⟩ := hc k hlt
      clear hc
      go_wp2_with fail
      refine (toDump_own (D k) (L k) wr hI (by have := recs_size D hlt; omega)).mono ?_
      rintro e w1 ⟨l', rfl, hb1, hod⟩
      unfold dpV
      have hrow1 := hrow.below hb1
      have hB := hb.trans (hb1.mono hb.size)
      have HR : Hid (DpRow w1 w.heap.size n k D L' H ∧ OwnDp w1 (H k) (D k) l' ∧ Below w.heap.size w w1) := ⟨hrow1, OD.lower hod hrow.top, hB⟩
      obtain ⟨f, hr, _⟩ := hrow1.row
      have d0 := hr.cell (show k * 4 < n * 4 by omega)
      have d1 := hr.cell (show k * 4 + 1 < n * 4 by omega)
      have d2 := hr.cell (show k * 4 + 2 < n * 4 by omega)
      have d3 := hr.cell (show k * 4 + 3 < n * 4 by omega)
      have e0 := hr.frozen (k * 4)
      have e1 := hr.frozen (k * 4 + 1)
      have e2 := hr.frozen (k * 4 + 2)
      have e3 := hr.frozen (k * 4 + 3)
      clear hb hrow hrow1 hr hB hb1 hod hI c0 c1 c2 c3
      go_wp2
      go_roundw
      case rel => exact ⟨k + 1, _, _, by omega, by go_num, bel_put (bel_put (bel_put (bel_put HR.out.2.2 _ (Nat.le_refl _)) _ (Nat.le_refl _)) _ (Nat.le_refl _)) _ (Nat.le_refl _), HR.out.1.step HR.out.2.1⟩
      case measure => simp [intOf]; omega
    · have hkn : k = n := by omega
      have HR : Hid (Below w.heap.size w wr ∧ ∃ L' H, DpRow wr w.heap.size n n D L' H) := ⟨hb, L', H, hkn ▸ hrow⟩
      clear hb hrow hkn
      go_wp2
      go_ret
      exact ⟨rfl, HR.out.1, HR.out.2⟩
end Go.Proofs.YtakifcobofkheaaGreatDoor

/-
  What the helpers of the exact laws do at what was kept, with its levels.
-/
namespace Go.Proofs.YtakifcobofkheaaGreatDoor
open Go.RowKit Go.Deep
set_option linter.unusedVariables false
set_option linter.unusedSimpArgs false
end Go.Proofs.YtakifcobofkheaaGreatDoor

/-
  What was kept, with its levels, in memory of one's own: a copy, and marking it.
-/
namespace Go.Proofs.YtakifcobofkheaaGreatDoor
open Go.RowKit Go.Deep
set_option linter.unusedVariables false
set_option linter.unusedSimpArgs false

theorem five_ne {i k r s : Nat} (h : i ≠ k) (hr : r < 5) (hs : s < 5) : i * 5 + r ≠ k * 5 + s := by omega
end Go.Proofs.YtakifcobofkheaaGreatDoor

/-
  What was kept, in memory of one's own, is marked: only that it goes on, and what it leaves alone.
-/
namespace Go.Proofs.YtakifcobofkheaaGreatDoor
open Go.RowKit Go.Deep
set_option linter.unusedVariables false
set_option linter.unusedSimpArgs false

theorem kap_le6 (D : Nat → Nd) (k0 : Nat) : ∀ m, kap D k0 m ≤ k0 + 4 * m + sizeTo D m
  | 0 => by simp [kap, sizeTo]
  | m + 1 => by
    have h1 := kap_le6 D k0 m
    rw [kap, sizeTo_succ]
    unfold Nd.size
    omega

theorem kap_size6 {d : Dp} (k0 : Nat) : kap d.nd (k0 + d.ln) d.m ≤ k0 + 4 * d.size := by
  have h1 := kap_le6 d.nd (k0 + d.ln) d.m
  unfold Dp.size
  omega

theorem nd_sum6 {d : Dp} (h : d.size ≤ 1048576) {i : Nat} (hi : i < d.m) : (d.nd i).nn ≤ 1048576 ∧ (d.nd i).kn ≤ 1048576 := by
  have h1 := size_le_sizeTo d.nd d.m i hi
  unfold Dp.size at h
  unfold Nd.size at h1
  omega

theorem Fr.wide {B B' H H' : Nat} {a w : World} (h : Fr B H a w) (hB : B' ≤ B) (hH : H ≤ H') : Fr B' H' a w := ⟨h.bel.mono hB, fun b hb hl => h.far b (by omega) hl⟩
end Go.Proofs.YtakifcobofkheaaGreatDoor

/-
  Marking a list of what was kept, in memory of one's own.
-/
namespace Go.Proofs.YtakifcobofkheaaGreatDoor
open Go.RowKit Go.Deep
set_option linter.unusedVariables false
set_option linter.unusedSimpArgs false

/-- Block g holds n of them, those from j on each in blocks of their own. -/
structure MkDps (w : World) (g n j : Nat) (D : Nat → Dp) (L : Nat → DLoc) (H : Nat → Nat) : Prop where
  row : ∃ f, w.rowIs g 36 (n * 4) f ∧ ∀ i, i < n → f (i * 4 + 2) = .slice (L i).lA (D i).ln (L i).lc ∧ f (i * 4 + 3) = .slice (L i).iA (D i).m (L i).ic
  own : ∀ i, j ≤ i → i < n → OwnDp w (H i) (D i) (L i)
  blk : ∀ i, i < n → ∀ d b, d < 2 + 2 * (D i).m → (valD (.slice (L i).lA (D i).ln (L i).lc) (.slice (L i).iA (D i).m (L i).ic) (D i).nd (L i).L d).ownBlock = some b → b < H (i + 1)
  up : ∀ i, i < n → H i ≤ H (i + 1)
  top : H n ≤ w.heap.size
  low : g < H 0

theorem DpRow.toMk {w : World} {g n : Nat} {D : Nat → Dp} {L : Nat → DLoc} {H : Nat → Nat} (h : DpRow w g n n D L H) : MkDps w g n 0 D L H := by
  obtain ⟨f, hr, hf⟩ := h.row
  exact ⟨⟨f, hr, fun i hi => ⟨(hf i hi).2.2.1, (hf i hi).2.2.2⟩⟩, fun i _ hi => h.own i hi, h.blk, h.up, h.top, h.low⟩

theorem MkDps.mono {w : World} {g n j : Nat} {D : Nat → Dp} {L : Nat → DLoc} {H : Nat → Nat} (h : MkDps w g n j D L H) : ∀ {i j : Nat}, i ≤ j → j ≤ n → H i ≤ H j := by
  intro i j hij
  induction hij with
  | refl => intro _; exact Nat.le_refl _
  | step hij ih =>
    rename_i m
    intro hm
    exact Nat.le_trans (ih (by omega)) (h.up m (by omega))

/-- A number is written into a cell of the row. -/
theorem MkDps.put {w : World} {g n j : Nat} {D : Nat → Dp} {L : Nat → DLoc} {H : Nat → Nat} (h : MkDps w g n j D L H) (k r : Nat) (hr : r < 2) (v : Value) : MkDps (w.setCell ⟨g, k * 4 + r, none⟩ v) g n j D L H := by
  obtain ⟨f, hrow, hf⟩ := h.row
  refine ⟨⟨_, hrow.set _ _, fun i hi => ?_⟩, fun i hj hi => OD.off (h.own i hj hi) v (Nat.lt_of_lt_of_le h.low (h.mono (Nat.zero_le _) (by omega))), h.blk, h.up, by simpa [World.setCell] using h.top, h.low⟩
  rw [if_neg (show ¬ i * 4 + 2 = k * 4 + r by omega), if_neg (show ¬ i * 4 + 3 = k * 4 + r by omega)]
  exact hf i hi

/-- What only writes into the blocks of one of them leaves the row, and those behind it, alone. -/
theorem MkDps.next {w w' : World} {g n j : Nat} {D : Nat → Dp} {L : Nat → DLoc} {H : Nat → Nat} (h : MkDps w g n j D L H) (hj : j < n) (hf : Fr (H j) (H (j + 1)) w w') : MkDps w' g n (j + 1) D L H := by
  obtain ⟨f, hrow, hff⟩ := h.row
  have hg : g < H j := Nat.lt_of_lt_of_le h.low (h.mono (Nat.zero_le _) (by omega))
  refine ⟨⟨f, hrow.of_block (hf.bel.block g hg), hff⟩, fun i hji hi => OD.same (h.own i (by omega) hi) fun b hb hl => hf.far b ?_ hl, h.blk, h.up, Nat.le_trans h.top hf.bel.size, h.low⟩
  exact Nat.le_trans (h.mono hji (by omega)) hb

set_option maxHeartbeats 2000000 in
theorem markDumpS_own (g n c k0 : Nat) (D : Nat → Dp) (L : Nat → DLoc) (H : Nat → Nat) (w : World) (h : MkDps w g n 0 D L H) (hn : n ≤ 1048576) (hsz : recsTo D n ≤ 1048576) (hk1 : 1 ≤ k0) (hk : k0 ≤ 10000000) :
    Calls Tryz.prog 38 #[.slice (some ⟨g, 0, none⟩) n c, .int .i64 (k0 : Int)] w fun e w' => (∃ q : Nat, e = .returned (.int .i64 (q : Int)) ∧ k0 ≤ q ∧ q ≤ k0 + 2 * n + 4 * recsTo D n) ∧ Fr g (H n) w w' := by
  go_enter Tryz.func38, Tryz.ntmps38
  go_wp2
  go_loopw [1, 5] (fun kk i wr => ∃ j q : Nat, j ≤ n ∧ i = .int .i64 j ∧ kk = .int .i64 (q : Int) ∧ k0 ≤ q ∧ q ≤ k0 + 2 * j + 4 * recsTo D j ∧ MkDps wr g n j D L H ∧ Fr g (H n) w wr) (fun _ i _ => n - (intOf i).toNat)
  case atStart => exact ⟨0, k0, Nat.zero_le _, rfl, rfl, Nat.le_refl _, by simp [recsTo], h, Fr.refl _ _ _⟩
  case round =>
    obtain ⟨j, q, hj, rfl, rfl, hq0, hq1, hm, hf⟩ := hrel
    have hrj : recsTo D j ≤ recsTo D n := recsTo_mono D hj
    by_cases hlt : j < n
    · have hlti : (j : Int) < (n : Int) := by omega
      have hgj : g < H j := Nat.lt_of_lt_of_le hm.low (hm.mono (Nat.zero_le _) (by omega))
      have hjn : H (j + 1) ≤ H n := hm.mono (by omega) (Nat.le_refl _)
      have hgn : g < H n := Nat.lt_of_lt_of_le hgj (hm.mono (by omega) (Nat.le_refl _))
      have hup : H j ≤ H (j + 1) := hm.up j hlt
      have hdz := recs_size D hlt
      have hq2 : q ≤ 18000000 := by omega
      obtain ⟨f, hr, hff⟩ := hm.row
      have d0 := hr.cell (show j * 4 < n * 4 by omega)
      have d1 := hr.cell (show j * 4 + 1 < n * 4 by omega)
      have d2 := hr.cell (show j * 4 + 2 < n * 4 by omega)
      have e0 := hr.frozen (j * 4)
      have e1 := hr.frozen (j * 4 + 1)
      rw [(hff j hlt).1] at d2
      have HM : Hid (MkDps ((wr.setCell ⟨g, j * 4, none⟩ (.int .i64 (q : Int))).setCell ⟨g, j * 4 + 1, none⟩ (.int .i64 ((q : Int) + 1))) g n j D L H ∧ Fr g (H n) w ((wr.setCell ⟨g, j * 4, none⟩ (.int .i64 (q : Int))).setCell ⟨g, j * 4 + 1, none⟩ (.int .i64 ((q : Int) + 1)))) :=
        ⟨(hm.put j 0 (by omega) _).put j 1 (by omega) _, (hf.put _ (Nat.le_refl _) hgn).put _ (Nat.le_refl _) hgn⟩
      clear hm hf hr hff
      go_wp2_with fail
      refine at_world (F := fun W => MkDps W g n j D L H ∧ Fr g (H n) w W) HM.out ?_
      clear HM d0 d1 d2 e0 e1
      rintro W ⟨hm, hf⟩
      have hod := hm.own j (Nat.le_refl _) hlt
      rw [show (q : Int) + 1 + 1 = ((q + 2 : Nat) : Int) from by omega]
      refine (markBoolS_own (L j).lA (D j).ln (L j).lc (q + 2) (H j) (D j).live W hod.ownL (by have := hdz; unfold Dp.size at this; omega) (by omega)).mono ?_
      rintro e W2 ⟨rfl, hown, hg⟩
      have hod2 : OD W2 (H j) (D j).ln (markB (q + 2)) (D j).m (D j).ino (D j).nd (L j).L (.slice (L j).lA (D j).ln (L j).lc) (.slice (L j).iA (D j).m (L j).ic) := OD.turnLive hod hg hown
      have hbl : ∀ b, (Value.slice (L j).lA (D j).ln (L j).lc).ownBlock = some b → H j ≤ b ∧ b < H (j + 1) := fun b e => ⟨(owns_block (OD.ownL hod) e).1, hm.blk j hlt 0 b (by omega) e⟩
      have hf2 : Fr (H j) (H (j + 1)) W W2 := (Fr.refl _ _ W).grow hg (Nat.le_trans (hm.mono (by omega) (Nat.le_refl _)) hm.top) hbl
      obtain ⟨f, hr, hff⟩ := hm.row
      have d4 := (hr.of_block (hf2.bel.block g hgj)).cell (show j * 4 + 3 < n * 4 by omega)
      rw [(hff j hlt).2] at d4
      have H2 : Hid (MkDps W g n j D L H ∧ Fr g (H n) w W ∧ Fr (H j) (H (j + 1)) W W2 ∧ OD W2 (H j) (D j).ln (markB (q + 2)) (D j).m (D j).ino (D j).nd (L j).L (.slice (L j).lA (D j).ln (L j).lc) (.slice (L j).iA (D j).m (L j).ic)) := ⟨hm, hf, hf2, hod2⟩
      clear hm hf hod hown hg hod2 hbl hf2 hr hff
      have hks := kap_size6 (d := D j) (q + 2)
      have hkg := kap_ge (D j).nd (q + 2 + (D j).ln) (D j).m
      have hm1 : (D j).m ≤ 1048576 := by have := hdz; unfold Dp.size at this; omega
      go_wp2_with fail
      refine (markItemS_own (H (j + 1)) (L j).iA (D j).m (L j).ic (q + 2 + (D j).ln) (H j) (D j).ln (markB (q + 2)) (D j).ino (D j).nd (L j).L (.slice (L j).lA (D j).ln (L j).lc) W2 H2.out.2.2.2 hm1 (by omega) (H2.out.1.blk j hlt) (by omega) (fun i hi => nd_sum6 (by omega) hi)).mono ?_
      rintro e W3 ⟨rfl, hf3, _⟩
      have HF : Hid (Fr (H j) (H (j + 1)) W W3) := H2.out.2.2.1.trans (by have := H2.out.1.top; have := H2.out.1.mono (show j ≤ n by omega) (Nat.le_refl _); have := H2.out.2.2.1.bel.size; omega) hf3
      have HN : Hid (MkDps W3 g n (j + 1) D L H ∧ Fr g (H n) w W3) := ⟨H2.out.1.next hlt HF.out, H2.out.2.1.trans (by have := H2.out.1.top; omega) (HF.out.wide (by omega) hjn)⟩
      have hb1 : kap (D j).nd (q + 2 + (D j).ln) (D j).m ≤ k0 + 2 * (j + 1) + 4 * recsTo D (j + 1) := by rw [recsTo_succ]; omega
      clear H2 HF hf3 d4
      go_wp2
      go_roundw
      case rel => exact ⟨j + 1, kap (D j).nd (q + 2 + (D j).ln) (D j).m, by omega, by go_num, rfl, by omega, hb1, HN.out.1, HN.out.2⟩
      case measure => simp [intOf]; omega
    · obtain rfl : j = n := by omega
      have HR : Hid (Fr g (H j) w wr) := hf
      clear hm hf
      go_wp2
      go_ret
      exact ⟨⟨q, rfl, hq0, hq1⟩, HR.out⟩
end Go.Proofs.YtakifcobofkheaaGreatDoor

/-
  FnExactBackAll, walked.
-/
namespace Go.Proofs.YtakifcobofkheaaGreatDoor
open Go.RowKit Go.Deep
set_option linter.unusedVariables false
set_option linter.unusedSimpArgs false
set_option linter.unnecessarySimpa false

/-- What is known behind the calls. -/
structure FBAll (w w3 : World) (r : Tr) (lr lg : TLoc) (V bG : Nat) (W : World) : Prop where
  bel : Below w.heap.size w W
  base : Below w3.heap.size w3 W
  v : Blk W V (tC r lr) 33
  g : Blk W bG (tC r lg) 33
  vl : V < w3.heap.size
  wl : w.heap.size ≤ w3.heap.size

theorem FBAll.below {w w3 : World} {r : Tr} {lr lg : TLoc} {V bG : Nat} {W W' : World} (h : FBAll w w3 r lr lg V bG W) (hb : Below W.heap.size W W') : FBAll w w3 r lr lg V bG W' :=
  ⟨h.bel.trans (hb.mono h.bel.size), h.base.trans (hb.mono h.base.size), h.v.below hb h.v.lt, h.g.below hb h.g.lt, h.vl, h.wl⟩

theorem FBAll.fr {w w3 : World} {r : Tr} {lr lg : TLoc} {V bG : Nat} {W W' : World} (h : FBAll w w3 r lr lg V bG W) {B H : Nat} (hb : Fr B H W W') (hB : w3.heap.size ≤ B) (hG : bG < B ∨ H ≤ bG) : FBAll w w3 r lr lg V bG W' := by
  have hwl := h.wl
  have hvl := h.vl
  have key : ∀ {q : Nat} {cs : Array Value} {t : TypeId}, Blk W q cs t → q < B ∨ H ≤ q → Blk W' q cs t := fun hq e => hq.of_block (by
    rcases e with e | e
    · exact hb.bel.block _ e
    · exact hb.far _ e hq.lt)
  exact ⟨h.bel.trans (hb.bel.mono (by omega)), h.base.trans (hb.bel.mono hB), key h.v (Or.inl (by omega)), key h.g hG, h.vl, h.wl⟩

set_option maxRecDepth 100000 in
set_option maxHeartbeats 32000000 in
theorem lawBackAll (x0 : Ds) (l0 : DsLoc) (w : World) (hE : ErrType w) (hI0 : DsIn w x0 l0) (hf0 : x0.Fits) :
    Calls Tryz.prog 8 #[dsV x0 l0] w fun r w' => r = .returned (.bool true) ∧ Below w.heap.size w w' := by
  obtain ⟨n, D⟩ := x0
  obtain ⟨a, c, L⟩ := l0
  have hI : IsDps w a n D L := hI0
  have hn : n ≤ maxLen := hf0.n
  have hf : FitDps n D := hf0.d
  unfold dsV
  clear hI0 hf0
  have hn' := hn
  unfold maxLen at hn'
  go_enter Tryz.func8, Tryz.ntmps8
  go_wp2_with fail
  refine (szDumpS_any a n c D L _ w hI hf hn (by omega) (by omega)).mono ?_
  rintro r0 ws0 ⟨hbs0, rr0, rfl, hra0, hrb0⟩
  by_cases hrc0 : rr0 < 0
  · have hrd0 : decide (rr0 < 0) = true := by simp; omega
    have HB : Hid (Below w.heap.size w ws0) := hbs0
    clear hrb0 hbs0
    go_wp2
    go_ret
    exact ⟨rfl, HB.out⟩
  · have hrd0 : decide (rr0 < 0) = false := by simp; omega
    have hsz0 := hrb0 (by omega)
    have HSZ : Hid (recsTo D n ≤ 1048576 ∧ n ≤ 1048576) := by constructor <;> omega
    have HSM : Hid (SmTr (allAns n D).1) := allAns_small hf HSZ.out.1
    have HSP : Hid (∀ W a' c' L', IsDps W a' n D L' → Calls Tryz.prog 34 #[.slice a' n c'] W (AllPost W (allAns n D))) := fun W a' c' L' h => specBackAll_any a' n c' D L' W h hf hn HSZ.out.1
    have HIM : Hid (∀ W a' c' L', ErrType W → IsDps W a' n D L' → Calls Tryz.prog 36 #[.slice a' n c'] W (AllPost W (allAns n D))) := fun W a' c' L' hg h => implBackAll_any a' n c' D L' W hg h hf hn HSZ.out.1
    have H2 : Hid (Below w.heap.size w ws0) := hbs0
    generalize allAns n D = rz at *
    obtain ⟨r, z⟩ := rz
    replace HSM : Hid (SmTr r) := HSM
    clear hrb0 hsz0 hbs0
    go_wp2_with fail
    refine (toDumpS_own a n c D L ws0 (hI.below (Nat.le_refl _) H2.out) HSZ.out.2 HSZ.out.1).mono ?_
    rintro e wq1p ⟨rfl, hbc, Lq, Hq, hrow⟩
    have HQ1p : Hid (Below w.heap.size w wq1p ∧ Below ws0.heap.size ws0 wq1p ∧ IsDps wq1p (some ⟨ws0.heap.size, 0, none⟩) n D Lq) := ⟨H2.out.trans (hbc.mono H2.out.size), hbc, hrow.recs⟩
    clear hbc hrow
    go_wp2_with fail
    refine (HSP.out wq1p _ _ Lq HQ1p.out.2.2).mono ?_
    rintro e wq2p ⟨hbc, lr, rfl, ho⟩
    unfold tV
    have HQ2p : Hid (Below w.heap.size w wq2p ∧ Below ws0.heap.size ws0 wq2p ∧ OwnTr wq2p wq1p.heap.size r lr) := ⟨HQ1p.out.1.trans (hbc.mono HQ1p.out.1.size), HQ1p.out.2.1.trans (hbc.mono HQ1p.out.2.1.size), ho⟩
    clear hbc ho HQ1p
    dsimp only
    go_wp2_with fail
    refine at_world (F := fun U => Below ws0.heap.size ws0 U ∧ Blk U wq2p.heap.size (tC r lr) 33 ∧ TIn U r lr ∧ ws0.heap.size ≤ wq2p.heap.size) ?_ ?_
    · have hb1 := (new1 wq2p (tC r lr) 33).bel
      have hv1 := (new1 wq2p (tC r lr) 33).b0
      exact ⟨HQ2p.out.2.1.trans (hb1.mono HQ2p.out.2.1.size), hv1, HQ2p.out.2.2.tIn.below (Nat.le_refl _) hb1, HQ2p.out.2.1.size⟩
    · generalize wq2p.heap.size = V
      clear HQ2p
      intro W3 h3
      obtain ⟨hb3, hv3, hi3, hVge⟩ := h3
      have H3 : Hid (Below w.heap.size w W3 ∧ Blk W3 V (tC r lr) 33) := ⟨H2.out.trans (hb3.mono H2.out.size), hv3⟩
      have HI3 : Hid (TIn W3 r lr) := hi3
      have hVl := hv3.lt
      have hwl : w.heap.size ≤ W3.heap.size := H3.out.1.size
      clear hb3 hv3 hi3 H2 hVge
      refine (toDumpS_own a n c D L W3 (hI.below (Nat.le_refl _) H3.out.1) HSZ.out.2 HSZ.out.1).mono ?_
      rintro e wc0 ⟨rfl, hbc, Lx, Hx, hrow⟩
      have HC0 : Hid (Below w.heap.size w wc0 ∧ Below W3.heap.size W3 wc0 ∧ DpRow wc0 W3.heap.size n n D Lx Hx) := ⟨H3.out.1.trans (hbc.mono H3.out.1.size), hbc, hrow⟩
      have hlc0 : W3.heap.size ≤ wc0.heap.size := hbc.size
      have hHt : Hx n ≤ wc0.heap.size := hrow.top
      obtain ⟨X, hX⟩ : ∃ X, X = W3.heap.size := ⟨_, rfl⟩
      have HX : Hid (X = W3.heap.size) := hX
      rw [← hX] at hlc0
      have hVX : V < X := by omega
      have hrowX : DpRow wc0 X n n D Lx Hx := by rw [hX]; exact hrow
      have HCX : Hid (DpRow wc0 X n n D Lx Hx) := hrowX
      rw [← hX]
      clear hbc hrow hX hrowX
      go_wp2_with fail
      refine (HIM.out wc0 _ _ Lx (hE.bel HC0.out.1) HCX.out.recs).mono ?_
      rintro e wg ⟨hbc, lg, rfl, hog⟩
      unfold tV
      have hb3 : Below W3.heap.size W3 wg := HC0.out.2.1.trans (hbc.mono HC0.out.2.1.size)
      have HTG : Hid (TopTr r lg wg.heap.size) := hog.top
      have hlg : wc0.heap.size ≤ wg.heap.size := hbc.size
      have hVg : V < wg.heap.size := by omega
      have hVn : V ≠ wg.heap.size := by omega
      have HG : Hid (Below w.heap.size w wg ∧ Below W3.heap.size W3 wg ∧ Blk wg V (tC r lr) 33 ∧ DpRow wg X n n D Lx Hx ∧ OwnTr wg wc0.heap.size r lg) := ⟨HC0.out.1.trans (hbc.mono HC0.out.1.size), hb3, H3.out.2.below hb3 hVl, HCX.out.below hbc, hog⟩
      clear hbc hog hb3 HC0 HCX
      have hne : (z != z) = false := by simp
      obtain ⟨z0, z1⟩ := tC_cells HG.out.2.2.1
      dsimp only
      go_wp2_with fail
      clear z0 z1
      have HF9 : Hid (∀ W9, W9 = wg.alloc (.cells (tC r lg) 33) → FBAll w W3 r lr lg V wg.heap.size W9 ∧ DpRow W9 X n n D Lx Hx ∧ OwnTr W9 wc0.heap.size r lg) := fun W9 e => by
        obtain ⟨hvG, hb9, hs9⟩ := new1 wg (tC r lg) 33
        rw [← e] at hvG hb9
        obtain ⟨e1, e2, e3, o0, eg⟩ := HG.out
        exact ⟨⟨e1.trans (hb9.mono e1.size), e2.trans (hb9.mono e2.size), e3.below hb9 hVg, hvG, by omega, hwl⟩, o0.below hb9, eg.below hb9⟩
      refine at_world (F := fun W9 => FBAll w W3 r lr lg V wg.heap.size W9 ∧ DpRow W9 X n n D Lx Hx ∧ OwnTr W9 wc0.heap.size r lg) (HF9.out _ rfl) ?_
      clear HF9 HG H3
      rintro W9 ⟨hF9, hx0, hg9⟩
      refine (eqTr r r lg lr W9 hg9.tIn (HI3.out.below (Nat.le_refl _) hF9.base) HSM.out.fits HSM.out.fits).mono ?_
      rintro e v0 ⟨hb, rfl⟩
      rw [Tr.same_self]
      have HA0 : Hid (FBAll w W3 r lr lg V wg.heap.size v0 ∧ DpRow v0 X n n D Lx Hx ∧ OwnTr v0 wc0.heap.size r lg) := ⟨hF9.below hb, hx0.below hb, hg9.below hb⟩
      clear hF9 hx0 hg9 hb
      go_wp2_with fail
      refine (toDumpS_own a n c D L v0 (hI.below (Nat.le_refl _) HA0.out.1.bel) HSZ.out.2 HSZ.out.1).mono ?_
      rintro e v1 ⟨rfl, hbc, Ly, Hy, hrow⟩
      have HA1 : Hid ((FBAll w W3 r lr lg V wg.heap.size v1 ∧ DpRow v1 X n n D Lx Hx ∧ OwnTr v1 wc0.heap.size r lg) ∧ DpRow v1 v0.heap.size n n D Ly Hy) := ⟨⟨HA0.out.1.below hbc, HA0.out.2.1.below hbc, HA0.out.2.2.below hbc⟩, hrow⟩
      clear hbc hrow HA0
      go_wp2_with fail
      refine (eqDumpS_any _ _ n _ n _ D D Lx Ly v1 HA1.out.1.2.1.recs HA1.out.2.recs hf hf hn hn).mono ?_
      rintro e v2 ⟨hbc, rfl⟩
      rw [sameDps_self]
      simp only [decide_true, Bool.and_true]
      have HA2 : Hid (FBAll w W3 r lr lg V wg.heap.size v2 ∧ DpRow v2 X n n D Lx Hx ∧ OwnTr v2 wc0.heap.size r lg) := ⟨HA1.out.1.1.below hbc, HA1.out.1.2.1.below hbc, HA1.out.1.2.2.below hbc⟩
      clear hbc HA1
      go_wp2_with fail
      refine (markDumpS_own X n n 1 D Lx Hx v2 HA2.out.2.1.toMk HSZ.out.2 HSZ.out.1 (by omega) (by omega)).mono ?_
      rintro e vm0 ⟨⟨kk0, rfl, hkp0, hka0⟩, hfr⟩
      have HM0 : Hid (FBAll w W3 r lr lg V wg.heap.size vm0 ∧ OwnTr vm0 wc0.heap.size r lg) := ⟨HA2.out.1.fr hfr (by have := HX.out; omega) (Or.inr (by omega)), HA2.out.2.2.far hfr hHt⟩
      clear hfr HA2 hka0
      have hkn : decide (((kk0 : Nat) : Int) < 0) = false := by simp
      obtain ⟨g0, g1⟩ := tC_cells HM0.out.1.g
      obtain ⟨z0, z1⟩ := tC_cells HM0.out.1.v
      go_wp2_with fail
      refine (eqTr r r lg lr vm0 HM0.out.2.tIn (HI3.out.below (Nat.le_refl _) HM0.out.1.base) HSM.out.fits HSM.out.fits).mono ?_
      rintro e va ⟨hb, rfl⟩
      rw [Tr.same_self]
      have HVA : Hid (FBAll w W3 r lr lg V wg.heap.size va ∧ OwnTr va wc0.heap.size r lg) := ⟨HM0.out.1.below hb, HM0.out.2.below hb⟩
      clear hb HM0 g0 g1 z0 z1
      obtain ⟨g0, g1⟩ := tC_cells HVA.out.1.g
      go_wp2_with fail
      refine (markTr r lg 1 wc0.heap.size wg.heap.size va HVA.out.2 HTG.out (by have := HVA.out.1.g.lt; omega) HSM.out.size (by omega) (by omega)).mono ?_
      rintro e vb ⟨rfl, hfr, hmk⟩
      have HVB : Hid (FBAll w W3 r lr lg V wg.heap.size vb ∧ MarkedTr vb wc0.heap.size r lg 1) := ⟨HVA.out.1.fr hfr (by have := HX.out; omega) (Or.inr (Nat.le_refl _)), hmk⟩
      clear hfr hmk HVA g0 g1
      obtain ⟨g0, g1⟩ := tC_cells HVB.out.1.g
      go_wp2_with fail
      refine (heldTr r lg 1 wc0.heap.size vb HVB.out.2 HSM.out.size HSM.out.nds (by omega) (by omega)).mono ?_
      rintro e vc ⟨rfl, hb⟩
      have HVC : Hid (FBAll w W3 r lr lg V wg.heap.size vc ∧ MarkedTr vc wc0.heap.size r lg 1) := ⟨HVB.out.1.below hb, HVB.out.2.below hb⟩
      have hkm : decide (((kTr r 1 : Nat) : Int) < 0) = false := by simp
      have hkk : (((kTr r 1 : Nat) : Int) != ((kTr r 1 : Nat) : Int)) = false := by simp
      clear hb HVB g0 g1
      go_wp2_with fail
      refine (toDumpS_own a n c D L vc (hI.below (Nat.le_refl _) HVC.out.1.bel) HSZ.out.2 HSZ.out.1).mono ?_
      rintro e wq1r ⟨rfl, hbc, Lq, Hq, hrow⟩
      have HQ1r : Hid (Below w.heap.size w wq1r ∧ Below vc.heap.size vc wq1r ∧ IsDps wq1r (some ⟨vc.heap.size, 0, none⟩) n D Lq) := ⟨HVC.out.1.bel.trans (hbc.mono HVC.out.1.bel.size), hbc, hrow.recs⟩
      clear hbc hrow
      go_wp2_with fail
      refine (HIM.out wq1r _ _ Lq (hE.bel HQ1r.out.1) HQ1r.out.2.2).mono ?_
      rintro e wq2r ⟨hbc, lh, rfl, ho⟩
      unfold tV
      have HQ2r : Hid (Below vc.heap.size vc wq2r ∧ OwnTr wq2r wq1r.heap.size r lh) := ⟨HQ1r.out.2.1.trans (hbc.mono HQ1r.out.2.1.size), ho⟩
      clear hbc ho HQ1r
      have hq2lt : V < wq2r.heap.size := (HVC.out.1.below HQ2r.out.1).v.lt
      obtain ⟨z0, z1⟩ := tC_cells (HVC.out.1.below HQ2r.out.1).v
      dsimp only
      go_wp2_with fail
      clear z0 z1
      refine at_world (F := fun U => Below vc.heap.size vc U ∧ Blk U wq2r.heap.size (tC r lh) 33 ∧ TIn U r lh) ?_ ?_
      · have hb1 := (new1 wq2r (tC r lh) 33).bel
        have hv1 := (new1 wq2r (tC r lh) 33).b0
        exact ⟨HQ2r.out.1.trans (hb1.mono HQ2r.out.1.size), hv1, HQ2r.out.2.tIn.below (Nat.le_refl _) hb1⟩
      generalize wq2r.heap.size = V3
      clear HQ2r
      · intro vd hd
        obtain ⟨hbd, hvd, hid⟩ := hd
        have HVE : Hid (FBAll w W3 r lr lg V wg.heap.size vd ∧ MarkedTr vd wc0.heap.size r lg 1 ∧ TIn vd r lh) := ⟨HVC.out.1.below hbd, HVC.out.2.below hbd, hid⟩
        clear hbd hvd hid HVC
        refine (eqTr r r lh lr vd HVE.out.2.2 (HI3.out.below (Nat.le_refl _) HVE.out.1.base) HSM.out.fits HSM.out.fits).mono ?_
        rintro e vf ⟨hb, rfl⟩
        rw [Tr.same_self]
        have HVF : Hid (FBAll w W3 r lr lg V wg.heap.size vf ∧ MarkedTr vf wc0.heap.size r lg 1) := ⟨HVE.out.1.below hb, HVE.out.2.1.below hb⟩
        clear hb HVE
        obtain ⟨g0, g1⟩ := tC_cells HVF.out.1.g
        go_wp2_with fail
        refine (heldTr r lg 1 wc0.heap.size vf HVF.out.2 HSM.out.size HSM.out.nds (by omega) (by omega)).mono ?_
        rintro e vh ⟨rfl, hb⟩
        have HBB : Hid (Below w.heap.size w vh) := (HVF.out.1.below hb).bel
        clear hb HVF g0 g1
        go_wp2
        go_ret
        exact ⟨rfl, HBB.out⟩
end Go.Proofs.YtakifcobofkheaaGreatDoor

/-
  FnExactBackAll as it is stated: the row, where the listed variable of the library reads as it is laid.
-/
namespace Go.Proofs.YtakifcobofkheaaGreatDoor.fnExactBackAll
open Go.ChangeShapes Go.WideShapes Go.ChangeAt Go.RowKit Go.Joins
open Go.ChangeMaps (open_string)
set_option linter.unusedVariables false

abbrev laids : List (String × DataW Unit) := [("errors.errorType", Rows.laid_errors_errorType)]

theorem door_met (os : Os) (args : Array Value) : laidMetH Tryz.prog laids ((World.doorLaid Tryz.prog 16 os).forCall (fun _ _ => 0) ⟨#[], args, []⟩).memory :=
  laidMetH_of_parts3 (fuel := 8) (laidMet_of_run' 8 (by kernel_rfl) (by kernel_rfl)) (by kernel_rfl) (by kernel_rfl)

theorem et : Tryz.prog.globalNamed "errors.errorType" = some 0 := by kernel_rfl
theorem rt : (Tryz.prog.cutTypes.find? (·.1 == "internal/reflectlite.rtype")).map (·.2) = some 162 := by kernel_rfl
theorem oneRow : ((List.range 208).filter fun t => Tryz.prog.rowNamed t [101, 114, 114, 111, 114]) = [98] := by kernel_rfl
theorem typesSize : Tryz.prog.types.size = 208 := by kernel_rfl

/-- What the condition gives a walk: the variable's one cell. -/
theorem err_of_laid {W : World} (h : laidMetH Tryz.prog laids W) : ErrType W := by
  have h' : laidMet Tryz.prog [] W ∧ handlesMet Tryz.prog laids W := h
  obtain ⟨name, u, ty, e1, e2, e3, e4, e5⟩ := h'.2 _ (List.mem_singleton.2 rfl)
  have en : name = [101, 114, 114, 111, 114] := (Option.some.inj e1).symm
  subst en
  obtain rfl := Option.some.inj (rt.symm.trans e2)
  have hm : ty ∈ (List.range 208).filter fun t => Tryz.prog.rowNamed t [101, 114, 114, 111, 114] := List.mem_filter.2 ⟨List.mem_range.2 (by rw [← typesSize]; exact e3), e4⟩
  rw [oneRow] at hm
  obtain rfl := List.mem_singleton.1 hm
  have hh : typeHandle Tryz.prog 98 = .pointer (some ⟨1, 98, none⟩) := by kernel_rfl
  rw [hh] at e5
  have := World.var?_cell et e5 0
  unfold ErrType
  simpa using this

set_option maxRecDepth 100000 in
theorem lifted (os : Os) (started : os.Started) (H : Type) (enc : TypeId × Value → H) :
    ReturnsInHanded {} Tryz.checked os 8 .any (fun w args => (Rows.fnExactBackAllSpec.pre enc Tryz.prog Tryz.f8 [] false w args ∧ laidMetH Tryz.prog laids w) ∧ sizedMet enc Tryz.prog Tryz.f8 (OpenSpec.ofChange Rows.fnExactBackAllSpec) false w args)
      (Rows.fnExactBackAllSpec.post enc Tryz.prog Tryz.f8 false true false false) := by
  refine returnsInHanded_of_change_and (C := Tryz.checked) (X := fun w _ => laidMetH Tryz.prog laids w) (fun _ _ _ hh h => h.of_heap hh) own started (by kernel_rfl) Tryz.func8
    (ChangeSpec.witness_shaped (enc := enc) (C := Tryz.checked) (os := os) (X := fun w _ => laidMetH Tryz.prog laids w) false (World.doorLaid Tryz.prog 16 os) #[.slice none 0 0] 8 rfl (World.shaped_of_RefB (by kernel_rfl) (by kernel_rfl)) (by kernel_rfl) (by kernel_rfl) (by kernel_rfl) (door_met os _)) ?_
  intro W base args ds gs before hval0 hW _ _ hL _
  have hval : ∀ (j : Nat) t v, Tryz.f8.params[j]? = some t → args[j]? = some v → Value.okWide Tryz.prog W .any base t v := hval0
  have hW' := hW
  obtain ⟨p, q, hA0, hV, rfl, hfz, hnd⟩ := hW
  have hA : DataW.TrodAll enc Tryz.prog W 0 (fun _ => true) true Tryz.f8.params.toList args.toList ds p := hA0
  rw [Tryz.params8] at hA hval
  obtain ⟨v0, vs0, d0, ds0, p0, q0, hargs, rfl, rfl, h0, r0⟩ := trodAll_cons hA
  obtain ⟨rfl, rfl, rfl⟩ := trodAll_nil r0
  obtain rfl : args = #[v0] := by cases args; simp_all
  obtain ⟨rfl, rfl⟩ := trodVars_none hV
  have k0 := h0
  have lt0 : ∀ x ∈ p0, x.block < W.heap.size := by obtain ⟨m, hm⟩ := k0; exact DataW.trod_lt m _ _ _ hm
  obtain ⟨e0, l0, rfl, hI0, hf0⟩ := openDumps (hval 0 60 v0 rfl rfl) h0
  clear hA0 hval0
  refine (lawBackAll e0 l0 W (err_of_laid hL) hI0 hf0).mono fun e W' ⟨he, bel⟩ => ?_
  subst he
  exact ⟨_, rfl, _, _, _, [], _, [], hW', trodAll_mk1 (shut_bool Tryz.underlying4 _), (trodAll_cons_mk (Below.trod laidOut (by kernel_rfl) (of_decide_eq_true (by kernel_rfl)) k0 bel lt0) trodAll_mk0), rfl, bel.frame _, fun h => by cases h⟩

theorem over : Rows.fnExactBackAllRow.holds Tryz.pinned (OpenSpec.ofChange Rows.fnExactBackAllSpec) :=
  OpenClaim.holds_of_wide 8 Tryz.f8 rfl rfl rfl rfl rfl rfl rfl ⟨rfl, rfl, rfl, rfl, rfl⟩ rfl rfl rfl rfl rfl (by kernel_rfl) Tryz.func8 (by kernel_rfl)
    (of_decide_eq_true (by kernel_rfl)) (by unfold Func.isWrapper; first | (rw [if_pos (by decide +kernel)]; kernel_rfl) | (rw [if_neg (by decide +kernel)]; exact ⟨rfl, rfl⟩))
    (fun os started H enc _ => lifted os started H enc)
end Go.Proofs.YtakifcobofkheaaGreatDoor.fnExactBackAll

/-
  FnExactBackAll as it is stated: the card.
-/
namespace Go.Proofs.YtakifcobofkheaaGreatDoor
open Go

theorem fnExactBackAll_holds : Rows.FnExactBackAllCardSaid :=
  Claim7.holds_tied_plain_at .later [] [.handle] true (true, "adbe438fc0a2d7aab89f8cc3728b247fa8877029e5457ace6e42cbf23df0c7b3") true
    fnExactBackAll.over (fun _ h => by cases h) (by kernel_rfl) (fun _ h => by cases h) fnExactBackAll_row_tie rfl ⟨rfl, rfl⟩ (by kernel_rfl) rfl
    (fun f fn hf hfn => by
      obtain rfl : f = 8 := Option.some.inj ((show Tryz.prog.funcNamed "loop.example/cellarage/laws.FnExactBackAll" = some 8 by kernel_rfl).symm.trans hf) |>.symm
      obtain rfl : fn = Tryz.f8 := (Option.some.inj (Tryz.func8.symm.trans hfn)).symm
      exact ⟨by kernel_rfl, fun j t ht => by
        rw [Tryz.params8] at ht
        have hm : t ∈ [60] := by simpa using Array.mem_of_getElem? ht
        have hall : ([60].all fun u => !Tryz.prog.wantsStandIn u) = true := by kernel_rfl
        exact (show Tryz.prog.wantsStandIn t = false by simpa using List.all_eq_true.1 hall t hm)⟩)
    (by kernel_rfl)
end Go.Proofs.YtakifcobofkheaaGreatDoor
