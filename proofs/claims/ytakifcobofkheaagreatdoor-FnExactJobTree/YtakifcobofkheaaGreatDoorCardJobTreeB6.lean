/-
  FnExactJobTree as it is stated: the card.
-/
import Derived.Test.YtakifcobofkheaaGreatDoorCardJobTreeB5
import Derived.Test.YtakifcobofkheaaGreatDoorRows
import Derived.ProofKit
import Derived.LaidMore
import Derived.LaidHandle
import Derived.OpenShut
import Derived.ShutString
import Derived.ChangeOld
import Derived.WalkSmall
import Derived.Stop.LaidErr
import Derived.Stop.Joined
import Derived.Test.YtakifcobofkheaaGreatDoorCards
import Derived.Test.YtakifcobofkheaaGreatDoorTie
import Derived.SevenTiedAt

/-
  What JobNew of the program answers.
-/
namespace Go.Proofs.YtakifcobofkheaaGreatDoor
open Go.RowKit Go.Deep
set_option linter.unusedVariables false
set_option linter.unusedSimpArgs false
set_option linter.unnecessarySimpa false

set_option maxRecDepth 100000 in
set_option maxHeartbeats 8000000 in
theorem implJobNew_any (t : Tr) (l : TLoc) (d : Dp) (k : DLoc) (w : World) (hE : ErrType w) (hT : TIn w t l) (hD : DpIn w d k) (ft : t.Fits) (fd : d.Fits) (hs : t.size + d.size ≤ 1048576) :
    Calls Tryz.prog 14 #[tV t l, dpV d k] w (JPost w (newAns t d) (backCode t.n t.D t.now d)) := by
  unfold tV dpV
  go_enter Tryz.func14, Tryz.ntmps14
  go_wp2_with fail
  refine at_world (F := fun W => Jn w t l d k W ∧ w.heap.size + 3 ≤ W.heap.size) ?_ ?_
  · obtain ⟨h0, h1, h2, hb, _⟩ := new3 w (tC t l) 33 (pC d k) 36 #[.slice none 0 0, .int .i64 0, .int .i64 0, .int .i64 0, .slice none 0 0, .slice none 0 0, .slice none 0 0] 38
    exact ⟨⟨h0, h1, h2, hb⟩, by simp⟩
  rintro W ⟨hO, hsW⟩
  refine (implBackOne_law t l d k W (hE.bel hO.bel) (hT.below (Nat.le_refl _) hO.bel) (hD.below (Nat.le_refl _) hO.bel) ft fd hs).mono ?_
  intro e w1 hpost
  obtain ⟨hb1, lr, rfl, hown⟩ := back_out t d hpost
  unfold tV
  have H1 : Hid (Jn w t l d k w1) := hO.below hb1
  have hs1 : w.heap.size + 3 ≤ w1.heap.size := by have := hb1.size; omega
  clear hb1 hO hsW hpost hown
  have n0 : w.heap.size < w1.heap.size := by omega
  have m0 : w.heap.size ≠ w1.heap.size := by omega
  have n1 : w.heap.size + 1 < w1.heap.size := by omega
  have m1 : w.heap.size + 1 ≠ w1.heap.size := by omega
  have n2 : w.heap.size + 1 + 1 < w1.heap.size := by omega
  have m2 : w.heap.size + 1 + 1 ≠ w1.heap.size := by omega
  obtain ⟨p0, p1⟩ := tC_cells H1.out.p
  obtain ⟨q0, q1, q2, q3⟩ := pC_cells H1.out.q
  have r0 : w1.cell? ⟨w.heap.size + 1 + 1, 0, none⟩ = some (.slice none 0 0) := H1.out.r.cell 0
  have r1 : w1.cell? ⟨w.heap.size + 1 + 1, 1, none⟩ = some (.int .i64 0) := H1.out.r.cell 1
  have r2 : w1.cell? ⟨w.heap.size + 1 + 1, 2, none⟩ = some (.int .i64 0) := H1.out.r.cell 2
  have r3 : w1.cell? ⟨w.heap.size + 1 + 1, 3, none⟩ = some (.int .i64 0) := H1.out.r.cell 3
  have r4 : w1.cell? ⟨w.heap.size + 1 + 1, 4, none⟩ = some (.slice none 0 0) := H1.out.r.cell 4
  have r5 : w1.cell? ⟨w.heap.size + 1 + 1, 5, none⟩ = some (.slice none 0 0) := H1.out.r.cell 5
  have r6 : w1.cell? ⟨w.heap.size + 1 + 1, 6, none⟩ = some (.slice none 0 0) := H1.out.r.cell 6
  have g0 := H1.out.r.frozen 0
  have g1 := H1.out.r.frozen 1
  have g2 := H1.out.r.frozen 2
  have g3 := H1.out.r.frozen 3
  have g4 := H1.out.r.frozen 4
  have g5 := H1.out.r.frozen 5
  have g6 := H1.out.r.frozen 6
  by_cases hz : backCode t.n t.D t.now d = 0
  · have hzb : (backCode t.n t.D t.now d != 0) = false := by simp [hz]
    have HZ : Hid (backCode t.n t.D t.now d = 0) := hz
    have HA : Hid (newAns t d = newJb t d) := by show _ = _; unfold newAns; rw [if_pos hz]
    have HC : Hid (d.ok = true ∧ (0 < d.since → t.n ≤ 10)) := by
      obtain ⟨hok, hsn, _, _⟩ := code_zero hz
      exact ⟨hok, fun e => (hsn e).1.few⟩
    have hsi := ok_since HC.out.1
    have HJ2 : Hid (∀ U, U = w1.alloc (.cells #[.slice lr.a (backTr t d).n lr.c, .int .i64 (backTr t d).now] 33) → Jn w t l d k U ∧ w.heap.size + 3 ≤ U.heap.size) := fun U e => by
      have hb : Below w1.heap.size w1 U := by rw [e]; exact (Below.refl _ _).alloc (Nat.le_refl _) _
      exact ⟨H1.out.below hb, Nat.le_trans hs1 hb.size⟩
    clear hz
    go_wp2_with fail
    refine at_world (F := fun U => Jn w t l d k U ∧ w.heap.size + 3 ≤ U.heap.size) (HJ2.out _ rfl) ?_
    clear HJ2 n0 n1 n2 m0 m1 m2 p0 p1 q0 q1 q2 q3 r0 r1 r2 r3 r4 r5 r6 g0 g1 g2 g3 g4 g5 g6 H1 hs1
    rintro W2 ⟨hj2, hs2⟩
    refine (copyDump_any d k W2 (hD.below (Nat.le_refl _) hj2.bel) HC.out.1 (by omega)).mono ?_
    rintro e w3 ⟨k2, rfl, hb3, ho3⟩
    unfold dpV
    have H3 : Hid (Jn w t l d k w3 ∧ OwnDp w3 (w.heap.size + 3) d k2) := ⟨hj2.below hb3, ho3.lower hs2⟩
    have hs3 : w.heap.size + 3 ≤ w3.heap.size := by have := hb3.size; omega
    clear hj2 hs2 hb3 ho3
    have n0 : w.heap.size < w3.heap.size := by omega
    have m0 : w.heap.size ≠ w3.heap.size := by omega
    have n1 : w.heap.size + 1 < w3.heap.size := by omega
    have m1 : w.heap.size + 1 ≠ w3.heap.size := by omega
    have n2 : w.heap.size + 1 + 1 < w3.heap.size := by omega
    have m2 : w.heap.size + 1 + 1 ≠ w3.heap.size := by omega
    obtain ⟨p0, p1⟩ := tC_cells H3.out.1.p
    obtain ⟨q0, q1, q2, q3⟩ := pC_cells H3.out.1.q
    have r0 : w3.cell? ⟨w.heap.size + 1 + 1, 0, none⟩ = some (.slice none 0 0) := H3.out.1.r.cell 0
    have r1 : w3.cell? ⟨w.heap.size + 1 + 1, 1, none⟩ = some (.int .i64 0) := H3.out.1.r.cell 1
    have r2 : w3.cell? ⟨w.heap.size + 1 + 1, 2, none⟩ = some (.int .i64 0) := H3.out.1.r.cell 2
    have r3 : w3.cell? ⟨w.heap.size + 1 + 1, 3, none⟩ = some (.int .i64 0) := H3.out.1.r.cell 3
    have r4 : w3.cell? ⟨w.heap.size + 1 + 1, 4, none⟩ = some (.slice none 0 0) := H3.out.1.r.cell 4
    have r5 : w3.cell? ⟨w.heap.size + 1 + 1, 5, none⟩ = some (.slice none 0 0) := H3.out.1.r.cell 5
    have r6 : w3.cell? ⟨w.heap.size + 1 + 1, 6, none⟩ = some (.slice none 0 0) := H3.out.1.r.cell 6
    have g0 := H3.out.1.r.frozen 0
    have g1 := H3.out.1.r.frozen 1
    have g2 := H3.out.1.r.frozen 2
    have g3 := H3.out.1.r.frozen 3
    have g4 := H3.out.1.r.frozen 4
    have g5 := H3.out.1.r.frozen 5
    have g6 := H3.out.1.r.frozen 6
    by_cases hp : 0 < d.since
    · have HV : Hid (∀ U, U = w3.alloc (.cells #[.slice none 0 0, .int .i64 0, .int .i64 d.since, .int .i64 d.date, .slice k2.lA d.ln k2.lc, .slice k2.iA d.m k2.ic, .slice none 0 0] 38) → Jn w t l d k U ∧ OwnDp U (w.heap.size + 3) d k2 ∧ Blk U w3.heap.size #[.slice none 0 0, .int .i64 0, .int .i64 d.since, .int .i64 d.date, .slice k2.lA d.ln k2.lc, .slice k2.iA d.m k2.ic, .slice none 0 0] 38 ∧ (∀ b, BkD d k2 b → b < w3.heap.size) ∧ w3.heap.size < U.heap.size) := fun U e => by
        obtain ⟨h0, hb, _⟩ := new1 w3 #[.slice none 0 0, .int .i64 0, .int .i64 d.since, .int .i64 d.date, .slice k2.lA d.ln k2.lc, .slice k2.iA d.m k2.ic, .slice none 0 0] 38
        rw [← e] at h0 hb
        exact ⟨H3.out.1.below hb, H3.out.2.below hb, h0, fun b e => (H3.out.2.blk e).2, h0.lt⟩
      have hn10 := HC.out.2 hp
      have hNJ : newJb t d = ⟨t, d, 0, fun _ => ndZero⟩ := by unfold newJb; rw [if_neg (by omega)]
      have HNJ : Hid _ := hNJ
      clear hNJ
      go_wp2_with fail
      refine at_world (F := fun U => Jn w t l d k U ∧ OwnDp U (w.heap.size + 3) d k2 ∧ Blk U w3.heap.size #[.slice none 0 0, .int .i64 0, .int .i64 d.since, .int .i64 d.date, .slice k2.lA d.ln k2.lc, .slice k2.iA d.m k2.ic, .slice none 0 0] 38 ∧ (∀ b, BkD d k2 b → b < w3.heap.size) ∧ w3.heap.size < U.heap.size) (HV.out _ rfl) ?_
      generalize w3.heap.size = V at *
      clear HV n0 n1 n2 m0 m1 m2 p0 p1 q0 q1 q2 q3 r0 r1 r2 r3 r4 r5 r6 g0 g1 g2 g3 g4 g5 g6 H3
      rintro W4 ⟨hj4, hd4, hv4, hk4, hl4⟩
      refine (copyTree_any t l W4 (hT.below (Nat.le_refl _) hj4.bel) (by omega) (by omega)).mono ?_
      rintro e w5 ⟨k1, rfl, hb5, ho5⟩
      unfold tV
      have H5 : Hid (Jn w t l d k w5 ∧ OwnDp w5 (w.heap.size + 3) d k2 ∧ Blk w5 V #[.slice none 0 0, .int .i64 0, .int .i64 d.since, .int .i64 d.date, .slice k2.lA d.ln k2.lc, .slice k2.iA d.m k2.ic, .slice none 0 0] 38 ∧ (∀ b, BkD d k2 b → b < V) ∧ OwnTr w5 W4.heap.size t k1 ∧ V < W4.heap.size ∧ V < w5.heap.size) := ⟨hj4.below hb5, hd4.below hb5, hv4.below hb5 hl4, hk4, ho5, hl4, by have := hb5.size; omega⟩
      clear hj4 hd4 hv4 hk4 hl4 hb5 ho5
      have v0 : w5.cell? ⟨V, 0, none⟩ = some (.slice none 0 0) := H5.out.2.2.1.cell 0
      have v1 : w5.cell? ⟨V, 1, none⟩ = some (.int .i64 0) := H5.out.2.2.1.cell 1
      have v2 : w5.cell? ⟨V, 2, none⟩ = some (.int .i64 d.since) := H5.out.2.2.1.cell 2
      have v3 : w5.cell? ⟨V, 3, none⟩ = some (.int .i64 d.date) := H5.out.2.2.1.cell 3
      have v4 : w5.cell? ⟨V, 4, none⟩ = some (.slice k2.lA d.ln k2.lc) := H5.out.2.2.1.cell 4
      have v5 : w5.cell? ⟨V, 5, none⟩ = some (.slice k2.iA d.m k2.ic) := H5.out.2.2.1.cell 5
      have v6 : w5.cell? ⟨V, 6, none⟩ = some (.slice none 0 0) := H5.out.2.2.1.cell 6
      have f0 := H5.out.2.2.1.frozen 0
      have f1 := H5.out.2.2.1.frozen 1
      have nV : w.heap.size + 1 + 1 ≠ V := by omega
      have mV : V ≠ w.heap.size + 1 + 1 := by omega
      have r0 : w5.cell? ⟨w.heap.size + 1 + 1, 0, none⟩ = some (.slice none 0 0) := H5.out.1.r.cell 0
      have r1 : w5.cell? ⟨w.heap.size + 1 + 1, 1, none⟩ = some (.int .i64 0) := H5.out.1.r.cell 1
      have r2 : w5.cell? ⟨w.heap.size + 1 + 1, 2, none⟩ = some (.int .i64 0) := H5.out.1.r.cell 2
      have r3 : w5.cell? ⟨w.heap.size + 1 + 1, 3, none⟩ = some (.int .i64 0) := H5.out.1.r.cell 3
      have r4 : w5.cell? ⟨w.heap.size + 1 + 1, 4, none⟩ = some (.slice none 0 0) := H5.out.1.r.cell 4
      have r5 : w5.cell? ⟨w.heap.size + 1 + 1, 5, none⟩ = some (.slice none 0 0) := H5.out.1.r.cell 5
      have r6 : w5.cell? ⟨w.heap.size + 1 + 1, 6, none⟩ = some (.slice none 0 0) := H5.out.1.r.cell 6
      have g0 := H5.out.1.r.frozen 0
      have g1 := H5.out.1.r.frozen 1
      have g2 := H5.out.1.r.frozen 2
      have g3 := H5.out.1.r.frozen 3
      have g4 := H5.out.1.r.frozen 4
      have g5 := H5.out.1.r.frozen 5
      have g6 := H5.out.1.r.frozen 6
      have HF : Hid (Jn w t l d k ((w5.setCell ⟨V, 0, none⟩ (.slice k1.a t.n k1.c)).setCell ⟨V, 1, none⟩ (.int .i64 t.now)) ∧ OwnJb ((w5.setCell ⟨V, 0, none⟩ (.slice k1.a t.n k1.c)).setCell ⟨V, 1, none⟩ (.int .i64 t.now)) (w.heap.size + 3) (newJb t d) ⟨k1, k2, none, 0, fun _ => ⟨none, 0, none, 0⟩⟩) := by
        have hsV := H5.out.2.2.2.2.2.1
        have hj := H5.out.1
        have hdk := H5.out.2.2.2.1
        have hdV : OwnDp ((w5.setCell ⟨V, 0, none⟩ (.slice k1.a t.n k1.c)).setCell ⟨V, 1, none⟩ (.int .i64 t.now)) (w.heap.size + 3) d k2 := H5.out.2.1.keep fun b e => (blk_setCell_other _ _ _ _ (show b ≠ V by have := hdk b e; omega)).trans (blk_setCell_other _ _ _ _ (show b ≠ V by have := hdk b e; omega))
        have htV : OwnTr ((w5.setCell ⟨V, 0, none⟩ (.slice k1.a t.n k1.c)).setCell ⟨V, 1, none⟩ (.int .i64 t.now)) W4.heap.size t k1 := (H5.out.2.2.2.2.1.put _ hsV).put _ hsV
        have htk : ∀ b, BkT t k1 b → W4.heap.size ≤ b := fun b e => (H5.out.2.2.2.2.1.blk e).1
        have hno : ∀ b, ¬ BkT (Jb.dn ⟨t, d, 0, fun _ => ndZero⟩) (JLoc.dn ⟨k1, k2, none, 0, fun _ => ⟨none, 0, none, 0⟩⟩) b := by
          rintro b ⟨dd, hd, e⟩
          have hd' : dd < 2 := hd
          have : dd = 0 ∨ dd = 1 := by omega
          rcases this with rfl | rfl <;> simp [valT, Value.ownBlock, JLoc.dn, Jb.dn] at e
        refine ⟨⟨(hj.p.off _ (by omega)).off _ (by omega), (hj.q.off _ (by omega)).off _ (by omega), (hj.r.off _ (by omega)).off _ (by omega), bel_put (bel_put hj.bel _ (by omega)) _ (by omega)⟩, ?_⟩
        rw [HNJ.out]
        exact ⟨htV.lower (by omega), hdV, OT.start _ _ _ _ _ _, fun b e1 e2 => by have := htk b e1; have := hdk b e2; omega, fun b _ e2 => hno b e2, fun b _ e2 => hno b e2⟩
      have HE : Hid (∀ U, U = (((((((((w5.setCell ⟨V, 0, none⟩ (.slice k1.a t.n k1.c)).setCell ⟨V, 1, none⟩ (.int .i64 t.now)).setCell ⟨w.heap.size + 1 + 1, 0, none⟩ (.slice k1.a t.n k1.c)).setCell ⟨w.heap.size + 1 + 1, 1, none⟩ (.int .i64 t.now)).setCell ⟨w.heap.size + 1 + 1, 2, none⟩ (.int .i64 d.since)).setCell ⟨w.heap.size + 1 + 1, 3, none⟩ (.int .i64 d.date)).setCell ⟨w.heap.size + 1 + 1, 4, none⟩ (.slice k2.lA d.ln k2.lc)).setCell ⟨w.heap.size + 1 + 1, 5, none⟩ (.slice k2.iA d.m k2.ic)).setCell ⟨w.heap.size + 1 + 1, 6, none⟩ (.slice none 0 0)) → Blk U (w.heap.size + 1 + 1) (jC ⟨t, d, 0, fun _ => ndZero⟩ ⟨k1, k2, none, 0, fun _ => ⟨none, 0, none, 0⟩⟩) 38 ∧ JPost w (newAns t d) (backCode t.n t.D t.now d) (.returned (.tuple #[jV ⟨t, d, 0, fun _ => ndZero⟩ ⟨k1, k2, none, 0, fun _ => ⟨none, 0, none, 0⟩⟩, .int .i64 0])) U) := fun U e => by
        subst e
        rw [HA.out, HZ.out]
        obtain ⟨hj, ho⟩ := HF.out
        rw [HNJ.out] at ho ⊢
        exact ⟨blk7 hj.r _ _ _ _ _ _ _, bel7 hj.bel (by omega) _ _ _ _ _ _ _, _, rfl, (jb7 ho (by omega) _ _ _ _ _ _ _).lower (by omega)⟩
      clear HF H5
      go_wp2_with fail
      refine end_world (F := fun U => Blk U (w.heap.size + 1 + 1) (jC ⟨t, d, 0, fun _ => ndZero⟩ ⟨k1, k2, none, 0, fun _ => ⟨none, 0, none, 0⟩⟩) 38 ∧ JPost w (newAns t d) (backCode t.n t.D t.now d) (.returned (.tuple #[jV ⟨t, d, 0, fun _ => ndZero⟩ ⟨k1, k2, none, 0, fun _ => ⟨none, 0, none, 0⟩⟩, .int .i64 0])) U) (HE.out _ rfl) ?_
      clear HE r0 r1 r2 r3 r4 r5 r6 g0 g1 g2 g3 g4 g5 g6 v0 v1 v2 v3 v4 v5 v6 f0 f1
      rintro U ⟨hr, hE⟩
      obtain ⟨e0, e1, e2, e3, e4, e5, e6⟩ := jC_cells hr
      exact bodyPost_ret (v := .tuple #[jV ⟨t, d, 0, fun _ => ndZero⟩ ⟨k1, k2, none, 0, fun _ => ⟨none, 0, none, 0⟩⟩, .int .i64 0]) (by unfold jV; simp [results, Tryz.results14, go_sem, e0, e1, e2, e3, e4, e5, e6]) rfl hE
    · have hpd : decide (0 < d.since) = false := by simp; omega
      have hNJ : newJb t d = ⟨trNone, d, 0, fun _ => ndZero⟩ := by unfold newJb; rw [if_pos (by omega)]
      have HE : Hid (∀ U, U = ((((((((w3.setCell ⟨w.heap.size + 1 + 1, 0, none⟩ (.slice none 0 0)).setCell ⟨w.heap.size + 1 + 1, 1, none⟩ (.int .i64 0)).setCell ⟨w.heap.size + 1 + 1, 2, none⟩ (.int .i64 d.since)).setCell ⟨w.heap.size + 1 + 1, 3, none⟩ (.int .i64 d.date)).setCell ⟨w.heap.size + 1 + 1, 4, none⟩ (.slice k2.lA d.ln k2.lc)).setCell ⟨w.heap.size + 1 + 1, 5, none⟩ (.slice k2.iA d.m k2.ic)).setCell ⟨w.heap.size + 1 + 1, 6, none⟩ (.slice none 0 0)).alloc (.cells #[.slice none 0 0, .int .i64 0, .int .i64 d.since, .int .i64 d.date, .slice k2.lA d.ln k2.lc, .slice k2.iA d.m k2.ic, .slice none 0 0] 38)) → Blk U (w.heap.size + 1 + 1) (jC ⟨trNone, d, 0, fun _ => ndZero⟩ ⟨⟨none, 0, fun _ => ⟨none, 0, none, 0⟩⟩, k2, none, 0, fun _ => ⟨none, 0, none, 0⟩⟩) 38 ∧ JPost w (newAns t d) (backCode t.n t.D t.now d) (.returned (.tuple #[jV ⟨trNone, d, 0, fun _ => ndZero⟩ ⟨⟨none, 0, fun _ => ⟨none, 0, none, 0⟩⟩, k2, none, 0, fun _ => ⟨none, 0, none, 0⟩⟩, .int .i64 0])) U) := fun U e => by
        subst e
        rw [HA.out, HZ.out, hNJ]
        have hno : ∀ (x : Tr) (y : TLoc), x.n = 0 → y.a = none → ∀ b, ¬ BkT x y b := by
          rintro x y hx hy b ⟨dd, hd, e⟩
          have : dd = 0 ∨ dd = 1 := by omega
          rcases this with rfl | rfl <;> simp [valT, Value.ownBlock, hy] at e
        have ho : OwnJb w3 (w.heap.size + 3) ⟨trNone, d, 0, fun _ => ndZero⟩ ⟨⟨none, 0, fun _ => ⟨none, 0, none, 0⟩⟩, k2, none, 0, fun _ => ⟨none, 0, none, 0⟩⟩ := ⟨OT.start _ _ _ _ _ _, H3.out.2, OT.start _ _ _ _ _ _, fun b e1 _ => hno _ _ rfl rfl b e1, fun b e1 _ => hno _ _ rfl rfl b e1, fun b _ e2 => hno _ _ rfl rfl b e2⟩
        have hb : Below w.heap.size w (((((((w3.setCell ⟨w.heap.size + 1 + 1, 0, none⟩ (.slice none 0 0)).setCell ⟨w.heap.size + 1 + 1, 1, none⟩ (.int .i64 0)).setCell ⟨w.heap.size + 1 + 1, 2, none⟩ (.int .i64 d.since)).setCell ⟨w.heap.size + 1 + 1, 3, none⟩ (.int .i64 d.date)).setCell ⟨w.heap.size + 1 + 1, 4, none⟩ (.slice k2.lA d.ln k2.lc)).setCell ⟨w.heap.size + 1 + 1, 5, none⟩ (.slice k2.iA d.m k2.ic)).setCell ⟨w.heap.size + 1 + 1, 6, none⟩ (.slice none 0 0)) := bel7 H3.out.1.bel (by omega) _ _ _ _ _ _ _
        exact ⟨(blk7 H3.out.1.r _ _ _ _ _ _ _).alloc _, hb.alloc hb.size _, _, rfl, ((jb7 ho (by omega) _ _ _ _ _ _ _).below ((Below.refl _ _).alloc (Nat.le_refl _) _)).lower (by omega)⟩
      clear hNJ
      go_wp2_with fail
      refine end_world (F := fun U => Blk U (w.heap.size + 1 + 1) (jC ⟨trNone, d, 0, fun _ => ndZero⟩ ⟨⟨none, 0, fun _ => ⟨none, 0, none, 0⟩⟩, k2, none, 0, fun _ => ⟨none, 0, none, 0⟩⟩) 38 ∧ JPost w (newAns t d) (backCode t.n t.D t.now d) (.returned (.tuple #[jV ⟨trNone, d, 0, fun _ => ndZero⟩ ⟨⟨none, 0, fun _ => ⟨none, 0, none, 0⟩⟩, k2, none, 0, fun _ => ⟨none, 0, none, 0⟩⟩, .int .i64 0])) U) (HE.out _ rfl) ?_
      clear HE r0 r1 r2 r3 r4 r5 r6 g0 g1 g2 g3 g4 g5 g6
      rintro U ⟨hr, hE⟩
      obtain ⟨e0, e1, e2, e3, e4, e5, e6⟩ := jC_cells hr
      exact bodyPost_ret (v := .tuple #[jV ⟨trNone, d, 0, fun _ => ndZero⟩ ⟨⟨none, 0, fun _ => ⟨none, 0, none, 0⟩⟩, k2, none, 0, fun _ => ⟨none, 0, none, 0⟩⟩, .int .i64 0]) (by unfold jV; simp [results, Tryz.results14, go_sem, e0, e1, e2, e3, e4, e5, e6]) rfl hE
  · have hzb : (backCode t.n t.D t.now d != 0) = true := by simp [hz]
    have HA : Hid (newAns t d = jbNone) := by show _ = _; unfold newAns; rw [if_neg hz]
    clear hz
    have HE : Hid (∀ U, U = ((((((((w1.setCell ⟨w.heap.size + 1 + 1, 0, none⟩ (.slice none 0 0)).setCell ⟨w.heap.size + 1 + 1, 1, none⟩ (.int .i64 0)).setCell ⟨w.heap.size + 1 + 1, 2, none⟩ (.int .i64 0)).setCell ⟨w.heap.size + 1 + 1, 3, none⟩ (.int .i64 0)).setCell ⟨w.heap.size + 1 + 1, 4, none⟩ (.slice none 0 0)).setCell ⟨w.heap.size + 1 + 1, 5, none⟩ (.slice none 0 0)).setCell ⟨w.heap.size + 1 + 1, 6, none⟩ (.slice none 0 0)).alloc (.cells #[.slice lr.a (backTr t d).n lr.c, .int .i64 (backTr t d).now] 33)) → Blk U (w.heap.size + 1 + 1) #[.slice none 0 0, .int .i64 0, .int .i64 0, .int .i64 0, .slice none 0 0, .slice none 0 0, .slice none 0 0] 38 ∧ JPost w (newAns t d) (backCode t.n t.D t.now d) (.returned (.tuple #[.agg #[.slice none 0 0, .int .i64 0, .int .i64 0, .int .i64 0, .slice none 0 0, .slice none 0 0, .slice none 0 0], .int .i64 (backCode t.n t.D t.now d)])) U) := fun U e => by
      subst e
      rw [HA.out]
      exact ⟨(blk7 H1.out.r _ _ _ _ _ _ _).alloc _, (bel7 H1.out.bel (by omega) _ _ _ _ _ _ _).alloc (bel7 H1.out.bel (by omega) _ _ _ _ _ _ _).size _, _, rfl, ownJb_none _ _⟩
    go_wp2_with fail
    refine end_world (F := fun U => Blk U (w.heap.size + 1 + 1) #[.slice none 0 0, .int .i64 0, .int .i64 0, .int .i64 0, .slice none 0 0, .slice none 0 0, .slice none 0 0] 38 ∧ JPost w (newAns t d) (backCode t.n t.D t.now d) (.returned (.tuple #[.agg #[.slice none 0 0, .int .i64 0, .int .i64 0, .int .i64 0, .slice none 0 0, .slice none 0 0, .slice none 0 0], .int .i64 (backCode t.n t.D t.now d)])) U) (HE.out _ rfl) ?_
    clear HE
    rintro U ⟨hr, hE⟩
    have e0 : U.cell? ⟨w.heap.size + 1 + 1, 0, none⟩ = some (.slice none 0 0) := hr.cell 0
    have e1 : U.cell? ⟨w.heap.size + 1 + 1, 1, none⟩ = some (.int .i64 0) := hr.cell 1
    have e2 : U.cell? ⟨w.heap.size + 1 + 1, 2, none⟩ = some (.int .i64 0) := hr.cell 2
    have e3 : U.cell? ⟨w.heap.size + 1 + 1, 3, none⟩ = some (.int .i64 0) := hr.cell 3
    have e4 : U.cell? ⟨w.heap.size + 1 + 1, 4, none⟩ = some (.slice none 0 0) := hr.cell 4
    have e5 : U.cell? ⟨w.heap.size + 1 + 1, 5, none⟩ = some (.slice none 0 0) := hr.cell 5
    have e6 : U.cell? ⟨w.heap.size + 1 + 1, 6, none⟩ = some (.slice none 0 0) := hr.cell 6
    exact bodyPost_ret (v := .tuple #[.agg #[.slice none 0 0, .int .i64 0, .int .i64 0, .int .i64 0, .slice none 0 0, .slice none 0 0, .slice none 0 0], .int .i64 (backCode t.n t.D t.now d)]) (by simp [results, Tryz.results14, go_sem, e0, e1, e2, e3, e4, e5, e6]) rfl hE
end Go.Proofs.YtakifcobofkheaaGreatDoor

/-
  What l9Place of the specification answers: a place as it is brought back.
-/
namespace Go.Proofs.YtakifcobofkheaaGreatDoor
open Go.RowKit Go.Deep
set_option linter.unusedVariables false
set_option linter.unusedSimpArgs false
set_option linter.unnecessarySimpa false

theorem blk5 {W1 : World} {b : Nat} {ty : TypeId} {u0 u1 u2 u3 u4 : Value} (h : Blk W1 b #[u0, u1, u2, u3, u4] ty) (v0 v1 v2 v3 v4 : Value) : Blk (((((W1.setCell ⟨b, 0, none⟩ v0).setCell ⟨b, 1, none⟩ v1).setCell ⟨b, 2, none⟩ v2).setCell ⟨b, 3, none⟩ v3).setCell ⟨b, 4, none⟩ v4) b #[v0, v1, v2, v3, v4] ty := by
  have h0 : Blk _ b #[v0, u1, u2, u3, u4] ty := h.set 0 v0
  have h1 : Blk _ b #[v0, v1, u2, u3, u4] ty := h0.set 1 v1
  have h2 : Blk _ b #[v0, v1, v2, u3, u4] ty := h1.set 2 v2
  have h3 : Blk _ b #[v0, v1, v2, v3, u4] ty := h2.set 3 v3
  have h4 : Blk _ b #[v0, v1, v2, v3, v4] ty := h3.set 4 v4
  exact h4
theorem bel5 {W1 w : World} {B b : Nat} (h : Below B w W1) (hb : B ≤ b) (v0 v1 v2 v3 v4 : Value) : Below B w (((((W1.setCell ⟨b, 0, none⟩ v0).setCell ⟨b, 1, none⟩ v1).setCell ⟨b, 2, none⟩ v2).setCell ⟨b, 3, none⟩ v3).setCell ⟨b, 4, none⟩ v4) := bel_put (bel_put (bel_put (bel_put (bel_put h _ hb) _ hb) _ hb) _ hb) _ hb
theorem far5 (W1 : World) (b : Nat) (v0 v1 v2 v3 v4 : Value) {q : Nat} (hq : q ≠ b) : (((((W1.setCell ⟨b, 0, none⟩ v0).setCell ⟨b, 1, none⟩ v1).setCell ⟨b, 2, none⟩ v2).setCell ⟨b, 3, none⟩ v3).setCell ⟨b, 4, none⟩ v4).heap[q]? = W1.heap[q]? :=
  (blk_setCell_other _ _ _ _ (show q ≠ b from hq)).trans ((blk_setCell_other _ _ _ _ (show q ≠ b from hq)).trans ((blk_setCell_other _ _ _ _ (show q ≠ b from hq)).trans ((blk_setCell_other _ _ _ _ (show q ≠ b from hq)).trans (blk_setCell_other _ _ _ _ (show q ≠ b from hq)))))

/-- A new place, stored into a variable. -/
theorem NewNn.fin5 {w W W1 : World} {x : Nd} {l : Loc} (h : NewNn W x l W1) (hb : Below w.heap.size w W) {b : Nat} (hwb : w.heap.size ≤ b) (hbW : b < W.heap.size) (v0 v1 v2 v3 v4 : Value) : NewNn w x l (((((W1.setCell ⟨b, 0, none⟩ v0).setCell ⟨b, 1, none⟩ v1).setCell ⟨b, 2, none⟩ v2).setCell ⟨b, 3, none⟩ v3).setCell ⟨b, 4, none⟩ v4) :=
  ⟨bel5 (hb.trans (h.bel.mono hb.size)) hwb _ _ _ _ _, owns_same (owns_lower h.names hb.size) fun q e => far5 W1 b _ _ _ _ _ (by have := (owns_block h.names e).1; omega), owns_same (owns_lower h.kids hb.size) fun q e => far5 W1 b _ _ _ _ _ (by have := (owns_block h.kids e).1; omega), h.apart⟩
theorem NewNn.none5 {w W1 : World} (hb : Below w.heap.size w W1) {b : Nat} (hwb : w.heap.size ≤ b) (v0 v1 v2 v3 v4 : Value) : NewNn w ndZero ⟨none, 0, none, 0⟩ (((((W1.setCell ⟨b, 0, none⟩ v0).setCell ⟨b, 1, none⟩ v1).setCell ⟨b, 2, none⟩ v2).setCell ⟨b, 3, none⟩ v3).setCell ⟨b, 4, none⟩ v4) :=
  ⟨bel5 hb hwb _ _ _ _ _, World.ownsRow_nil _ _ _ _, World.ownsRow_nil _ _ _ _, fun q e => by simp [Value.ownBlock] at e⟩

/-- The boxes. -/
structure Jp (w : World) (j : Jb) (l : JLoc) (W : World) : Prop where
  p : Blk W w.heap.size (jC j l) 38
  r : Blk W (w.heap.size + 1) #[.int .i64 0, .string ByteArray.empty, .slice none 0 0, .slice none 0 0, .int .i64 0] 87
  bel : Below w.heap.size w W
  size : w.heap.size + 2 ≤ W.heap.size

theorem Jp.below {w : World} {j : Jb} {l : JLoc} {W W' : World} (h : Jp w j l W) (hb : Below W.heap.size W W') : Jp w j l W' := ⟨h.p.below hb h.p.lt, h.r.below hb h.r.lt, h.bel.trans (hb.mono h.bel.size), Nat.le_trans h.size hb.size⟩

/-- What it answers. -/
def PlacePost (w : World) (x : Nd) (e : Ending) (w' : World) : Prop := ∃ l b, e = .returned (.tuple #[ndV x l, .bool b]) ∧ NewNn w x l w'

set_option maxRecDepth 100000 in
set_option maxHeartbeats 8000000 in
theorem l9Place_any (j : Jb) (l : JLoc) (i : Nat) (w : World) (hJ : JIn w j l) (hok : j.d.ok = true) (fj : j.Fits) (hi : i < j.d.ln) (hn : j.t.n ≤ 10) (hs : j.t.size + j.d.size ≤ 1048576) :
    Calls Tryz.prog 60 #[jV j l, .int .i64 (i : Int)] w (PlacePost w (oneD j.t.n j.t.D j.d i)) := by
  have hln := (ok_head1 hok).2
  have htS := tr_small (show sizeTo j.t.D j.t.n ≤ 1048576 by unfold Tr.size at hs; omega)
  have htd := tr_small (show sizeTo j.d.nd j.d.m ≤ 1048576 by unfold Dp.size at hs; omega)
  unfold jV
  go_enter Tryz.func60, Tryz.ntmps60
  go_wp2_with fail
  refine at_world (F := Jp w j l) ?_ ?_
  · obtain ⟨h0, h1, hb, _⟩ := new2 w (jC j l) 38 #[.int .i64 0, .string ByteArray.empty, .slice none 0 0, .slice none 0 0, .int .i64 0] 87
    exact ⟨h0, h1, hb, by simp⟩
  rintro W hP
  refine (l6Item_any j.d l.d (i : Int) W (hJ.d.below (Nat.le_refl _) hP.bel) fj.d.m (ok_inj hok)).mono ?_
  rintro e w1 ⟨hb1, rfl⟩
  have HP : Hid (Jp w j l w1) := hP.below hb1
  clear hP hb1
  obtain ⟨p0, p1, p2, p3, p4, p5, p6⟩ := jC_cells HP.out.p
  have r0 : w1.cell? ⟨w.heap.size + 1, 0, none⟩ = some (.int .i64 0) := HP.out.r.cell 0
  have r1 : w1.cell? ⟨w.heap.size + 1, 1, none⟩ = some (.string ByteArray.empty) := HP.out.r.cell 1
  have r2 : w1.cell? ⟨w.heap.size + 1, 2, none⟩ = some (.slice none 0 0) := HP.out.r.cell 2
  have r3 : w1.cell? ⟨w.heap.size + 1, 3, none⟩ = some (.slice none 0 0) := HP.out.r.cell 3
  have r4 : w1.cell? ⟨w.heap.size + 1, 4, none⟩ = some (.int .i64 0) := HP.out.r.cell 4
  have g0 := HP.out.r.frozen 0
  have g1 := HP.out.r.frozen 1
  have g2 := HP.out.r.frozen 2
  have g3 := HP.out.r.frozen 3
  have g4 := HP.out.r.frozen 4
  generalize hz : ixI (ixOf j.d.ino j.d.m (i : Int)) = z
  have HZ : Hid _ := hz
  clear hz
  obtain ⟨bL, oL, hL, hLl, hLc⟩ := (hJ.d.live.below (Nat.le_refl _) HP.out.bel).at hi
  have hL0 := hLc i hi
  rw [hL] at p4
  have hli : (i : Int) < (j.d.ln : Int) := by omega
  clear hL hLc
  cases hlv : j.d.live i with
  | false =>
    have HO : Hid (oneD j.t.n j.t.D j.d i = ndZero) := by show _ = _; unfold oneD oneNd; rw [hlv]; rfl
    rw [hlv] at hL0
    clear hlv
    have HE : Hid (∀ U, U = (((((w1.setCell ⟨w.heap.size + 1, 0, none⟩ (.int .i64 0)).setCell ⟨w.heap.size + 1, 1, none⟩ (.string ByteArray.empty)).setCell ⟨w.heap.size + 1, 2, none⟩ (.slice none 0 0)).setCell ⟨w.heap.size + 1, 3, none⟩ (.slice none 0 0)).setCell ⟨w.heap.size + 1, 4, none⟩ (.int .i64 0)) → Blk U (w.heap.size + 1) #[.int .i64 0, .string ByteArray.empty, .slice none 0 0, .slice none 0 0, .int .i64 0] 87 ∧ PlacePost w (oneD j.t.n j.t.D j.d i) (.returned (.tuple #[.agg #[.int .i64 0, .string ByteArray.empty, .slice none 0 0, .slice none 0 0, .int .i64 0], .bool true])) U) := fun U e => by
      subst e
      rw [HO.out]
      exact ⟨blk5 HP.out.r _ _ _ _ _, ⟨none, 0, none, 0⟩, true, rfl, NewNn.none5 HP.out.bel (by omega) _ _ _ _ _⟩
    go_wp2_with fail
    refine end_world (F := fun U => Blk U (w.heap.size + 1) #[.int .i64 0, .string ByteArray.empty, .slice none 0 0, .slice none 0 0, .int .i64 0] 87 ∧ PlacePost w (oneD j.t.n j.t.D j.d i) (.returned (.tuple #[.agg #[.int .i64 0, .string ByteArray.empty, .slice none 0 0, .slice none 0 0, .int .i64 0], .bool true])) U) (HE.out _ rfl) ?_
    clear HE
    rintro U ⟨hr, hE⟩
    have e0 : U.cell? ⟨w.heap.size + 1, 0, none⟩ = some (.int .i64 0) := hr.cell 0
    have e1 : U.cell? ⟨w.heap.size + 1, 1, none⟩ = some (.string ByteArray.empty) := hr.cell 1
    have e2 : U.cell? ⟨w.heap.size + 1, 2, none⟩ = some (.slice none 0 0) := hr.cell 2
    have e3 : U.cell? ⟨w.heap.size + 1, 3, none⟩ = some (.slice none 0 0) := hr.cell 3
    have e4 : U.cell? ⟨w.heap.size + 1, 4, none⟩ = some (.int .i64 0) := hr.cell 4
    exact bodyPost_ret (v := .tuple #[.agg #[.int .i64 0, .string ByteArray.empty, .slice none 0 0, .slice none 0 0, .int .i64 0], .bool true]) (by simp [results, Tryz.results60, go_sem, e0, e1, e2, e3, e4]) rfl hE
  | true =>
    rw [hlv] at hL0
    cases hob : ixOf j.d.ino j.d.m (i : Int) with
    | some q =>
      have hz := HZ.out
      rw [hob] at hz
      subst hz
      have hq : q < j.d.m := (ixOf_some hob).1
      have HO : Hid (oneD j.t.n j.t.D j.d i = j.d.nd q) := by show _ = _; unfold oneD oneNd; rw [hlv, hob]; rfl
      have hz0 : (0 : Int) ≤ ixI (some q) := by show (0 : Int) ≤ (q : Int); omega
      have hqi : (q : Int) < (j.d.m : Int) := by omega
      clear hob hlv HZ
      simp only [ixI] at hz0 ⊢
      obtain ⟨bI, oI, hQ, hQl, hQc⟩ := (hJ.d.items.below (Nat.le_refl _) HP.out.bel).at hq
      obtain ⟨d0, d1, d2, d3, d4, d5, d6⟩ := hQc q hq
      have HN : Hid (NdIn w1 (j.d.nd q) (l.d.L q)) := d6
      rw [hQ] at p5
      clear hQ hQc d6
      have hsm := htd q hq
      go_wp2_with fail
      refine (l2Copy_any (j.d.nd q) (l.d.L q) w1 HN.out hsm.1 hsm.2.1).mono ?_
      rintro e W6 ⟨l5, rfl, hN5⟩
      unfold ndV
      have H6 : Hid (Jp w j l W6) := HP.out.below hN5.bel
      have HE : Hid (∀ U, U = (((((W6.setCell ⟨w.heap.size + 1, 0, none⟩ (.int .i64 (j.d.nd q).kind)).setCell ⟨w.heap.size + 1, 1, none⟩ (.string (j.d.nd q).text)).setCell ⟨w.heap.size + 1, 2, none⟩ (.slice l5.nA (j.d.nd q).nn l5.nc)).setCell ⟨w.heap.size + 1, 3, none⟩ (.slice l5.kA (j.d.nd q).kn l5.kc)).setCell ⟨w.heap.size + 1, 4, none⟩ (.int .i64 (j.d.nd q).turn)) → Blk U (w.heap.size + 1) #[.int .i64 (j.d.nd q).kind, .string (j.d.nd q).text, .slice l5.nA (j.d.nd q).nn l5.nc, .slice l5.kA (j.d.nd q).kn l5.kc, .int .i64 (j.d.nd q).turn] 87 ∧ PlacePost w (oneD j.t.n j.t.D j.d i) (.returned (.tuple #[.agg #[.int .i64 (j.d.nd q).kind, .string (j.d.nd q).text, .slice l5.nA (j.d.nd q).nn l5.nc, .slice l5.kA (j.d.nd q).kn l5.kc, .int .i64 (j.d.nd q).turn], .bool true])) U) := fun U e => by
        subst e
        rw [HO.out]
        exact ⟨blk5 H6.out.r _ _ _ _ _, l5, true, rfl, hN5.new.fin5 HP.out.bel (by omega) (by have := HP.out.size; omega) _ _ _ _ _⟩
      clear hN5 p0 p1 p2 p3 p4 p5 p6 r0 r1 r2 r3 r4 g0 g1 g2 g3 g4
      have r0 : W6.cell? ⟨w.heap.size + 1, 0, none⟩ = some (.int .i64 0) := H6.out.r.cell 0
      have r1 : W6.cell? ⟨w.heap.size + 1, 1, none⟩ = some (.string ByteArray.empty) := H6.out.r.cell 1
      have r2 : W6.cell? ⟨w.heap.size + 1, 2, none⟩ = some (.slice none 0 0) := H6.out.r.cell 2
      have r3 : W6.cell? ⟨w.heap.size + 1, 3, none⟩ = some (.slice none 0 0) := H6.out.r.cell 3
      have r4 : W6.cell? ⟨w.heap.size + 1, 4, none⟩ = some (.int .i64 0) := H6.out.r.cell 4
      have g0 := H6.out.r.frozen 0
      have g1 := H6.out.r.frozen 1
      have g2 := H6.out.r.frozen 2
      have g3 := H6.out.r.frozen 3
      have g4 := H6.out.r.frozen 4
      go_wp2_with fail
      refine end_world (F := fun U => Blk U (w.heap.size + 1) #[.int .i64 (j.d.nd q).kind, .string (j.d.nd q).text, .slice l5.nA (j.d.nd q).nn l5.nc, .slice l5.kA (j.d.nd q).kn l5.kc, .int .i64 (j.d.nd q).turn] 87 ∧ PlacePost w (oneD j.t.n j.t.D j.d i) (.returned (.tuple #[.agg #[.int .i64 (j.d.nd q).kind, .string (j.d.nd q).text, .slice l5.nA (j.d.nd q).nn l5.nc, .slice l5.kA (j.d.nd q).kn l5.kc, .int .i64 (j.d.nd q).turn], .bool true])) U) (HE.out _ rfl) ?_
      clear HE r0 r1 r2 r3 r4 g0 g1 g2 g3 g4
      rintro U ⟨hr, hE⟩
      have e0 : U.cell? ⟨w.heap.size + 1, 0, none⟩ = some (.int .i64 (j.d.nd q).kind) := hr.cell 0
      have e1 : U.cell? ⟨w.heap.size + 1, 1, none⟩ = some (.string (j.d.nd q).text) := hr.cell 1
      have e2 : U.cell? ⟨w.heap.size + 1, 2, none⟩ = some (.slice l5.nA (j.d.nd q).nn l5.nc) := hr.cell 2
      have e3 : U.cell? ⟨w.heap.size + 1, 3, none⟩ = some (.slice l5.kA (j.d.nd q).kn l5.kc) := hr.cell 3
      have e4 : U.cell? ⟨w.heap.size + 1, 4, none⟩ = some (.int .i64 (j.d.nd q).turn) := hr.cell 4
      exact bodyPost_ret (v := .tuple #[.agg #[.int .i64 (j.d.nd q).kind, .string (j.d.nd q).text, .slice l5.nA (j.d.nd q).nn l5.nc, .slice l5.kA (j.d.nd q).kn l5.kc, .int .i64 (j.d.nd q).turn], .bool true]) (by simp [results, Tryz.results60, go_sem, e0, e1, e2, e3, e4]) rfl hE
    | none =>
      have hz := HZ.out
      rw [hob] at hz
      subst hz
      have hz0 : decide ((0 : Int) ≤ ixI none) = false := by decide
      by_cases hkn : i < j.t.n ∧ (j.t.D i).kind ≠ 0
      · have HO : Hid (oneD j.t.n j.t.D j.d i = j.t.D i) := by show _ = _; unfold oneD oneNd; rw [hlv, hob]; simp [hkn]
        obtain ⟨hin, hkd⟩ := hkn
        have hni : (i : Int) < (j.t.n : Int) := by omega
        have hkb : ((j.t.D i).kind != 0) = true := by simpa using hkd
        clear hob hlv HZ hkd
        simp only [ixI] at hz0 ⊢
        obtain ⟨bI, oI, hQ, hQl, hQc⟩ := (hJ.t.below (Nat.le_refl _) HP.out.bel).at hin
        obtain ⟨d1, d2, d3, d4, d5, d6⟩ := hQc i hin
        have HN : Hid (NdIn w1 (j.t.D i) (l.t.L i)) := d6
        rw [hQ] at p0
        clear hQ hQc d6
        have hsm := htS i hin
        go_wp2_with fail
        refine (l2Copy_any (j.t.D i) (l.t.L i) w1 HN.out hsm.1 hsm.2.1).mono ?_
        rintro e W6 ⟨l5, rfl, hN5⟩
        unfold ndV
        have H6 : Hid (Jp w j l W6) := HP.out.below hN5.bel
        have HE : Hid (∀ U, U = (((((W6.setCell ⟨w.heap.size + 1, 0, none⟩ (.int .i64 (j.t.D i).kind)).setCell ⟨w.heap.size + 1, 1, none⟩ (.string (j.t.D i).text)).setCell ⟨w.heap.size + 1, 2, none⟩ (.slice l5.nA (j.t.D i).nn l5.nc)).setCell ⟨w.heap.size + 1, 3, none⟩ (.slice l5.kA (j.t.D i).kn l5.kc)).setCell ⟨w.heap.size + 1, 4, none⟩ (.int .i64 (j.t.D i).turn)) → Blk U (w.heap.size + 1) #[.int .i64 (j.t.D i).kind, .string (j.t.D i).text, .slice l5.nA (j.t.D i).nn l5.nc, .slice l5.kA (j.t.D i).kn l5.kc, .int .i64 (j.t.D i).turn] 87 ∧ PlacePost w (oneD j.t.n j.t.D j.d i) (.returned (.tuple #[.agg #[.int .i64 (j.t.D i).kind, .string (j.t.D i).text, .slice l5.nA (j.t.D i).nn l5.nc, .slice l5.kA (j.t.D i).kn l5.kc, .int .i64 (j.t.D i).turn], .bool true])) U) := fun U e => by
          subst e
          rw [HO.out]
          exact ⟨blk5 H6.out.r _ _ _ _ _, l5, true, rfl, hN5.new.fin5 HP.out.bel (by omega) (by have := HP.out.size; omega) _ _ _ _ _⟩
        clear hN5 p0 p1 p2 p3 p4 p5 p6 r0 r1 r2 r3 r4 g0 g1 g2 g3 g4
        have r0 : W6.cell? ⟨w.heap.size + 1, 0, none⟩ = some (.int .i64 0) := H6.out.r.cell 0
        have r1 : W6.cell? ⟨w.heap.size + 1, 1, none⟩ = some (.string ByteArray.empty) := H6.out.r.cell 1
        have r2 : W6.cell? ⟨w.heap.size + 1, 2, none⟩ = some (.slice none 0 0) := H6.out.r.cell 2
        have r3 : W6.cell? ⟨w.heap.size + 1, 3, none⟩ = some (.slice none 0 0) := H6.out.r.cell 3
        have r4 : W6.cell? ⟨w.heap.size + 1, 4, none⟩ = some (.int .i64 0) := H6.out.r.cell 4
        have g0 := H6.out.r.frozen 0
        have g1 := H6.out.r.frozen 1
        have g2 := H6.out.r.frozen 2
        have g3 := H6.out.r.frozen 3
        have g4 := H6.out.r.frozen 4
        go_wp2_with fail
        refine end_world (F := fun U => Blk U (w.heap.size + 1) #[.int .i64 (j.t.D i).kind, .string (j.t.D i).text, .slice l5.nA (j.t.D i).nn l5.nc, .slice l5.kA (j.t.D i).kn l5.kc, .int .i64 (j.t.D i).turn] 87 ∧ PlacePost w (oneD j.t.n j.t.D j.d i) (.returned (.tuple #[.agg #[.int .i64 (j.t.D i).kind, .string (j.t.D i).text, .slice l5.nA (j.t.D i).nn l5.nc, .slice l5.kA (j.t.D i).kn l5.kc, .int .i64 (j.t.D i).turn], .bool true])) U) (HE.out _ rfl) ?_
        clear HE r0 r1 r2 r3 r4 g0 g1 g2 g3 g4
        rintro U ⟨hr, hE⟩
        have e0 : U.cell? ⟨w.heap.size + 1, 0, none⟩ = some (.int .i64 (j.t.D i).kind) := hr.cell 0
        have e1 : U.cell? ⟨w.heap.size + 1, 1, none⟩ = some (.string (j.t.D i).text) := hr.cell 1
        have e2 : U.cell? ⟨w.heap.size + 1, 2, none⟩ = some (.slice l5.nA (j.t.D i).nn l5.nc) := hr.cell 2
        have e3 : U.cell? ⟨w.heap.size + 1, 3, none⟩ = some (.slice l5.kA (j.t.D i).kn l5.kc) := hr.cell 3
        have e4 : U.cell? ⟨w.heap.size + 1, 4, none⟩ = some (.int .i64 (j.t.D i).turn) := hr.cell 4
        exact bodyPost_ret (v := .tuple #[.agg #[.int .i64 (j.t.D i).kind, .string (j.t.D i).text, .slice l5.nA (j.t.D i).nn l5.nc, .slice l5.kA (j.t.D i).kn l5.kc, .int .i64 (j.t.D i).turn], .bool true]) (by simp [results, Tryz.results60, go_sem, e0, e1, e2, e3, e4]) rfl hE
      · have HO : Hid (oneD j.t.n j.t.D j.d i = ndZero) := by
          show _ = _
          unfold oneD oneNd
          rw [hlv, hob]
          simp only [if_true]
          rw [if_neg hkn]
          rfl
        have HE : Hid (∀ U, U = (((((w1.setCell ⟨w.heap.size + 1, 0, none⟩ (.int .i64 0)).setCell ⟨w.heap.size + 1, 1, none⟩ (.string ByteArray.empty)).setCell ⟨w.heap.size + 1, 2, none⟩ (.slice none 0 0)).setCell ⟨w.heap.size + 1, 3, none⟩ (.slice none 0 0)).setCell ⟨w.heap.size + 1, 4, none⟩ (.int .i64 0)) → Blk U (w.heap.size + 1) #[.int .i64 0, .string ByteArray.empty, .slice none 0 0, .slice none 0 0, .int .i64 0] 87 ∧ PlacePost w (oneD j.t.n j.t.D j.d i) (.returned (.tuple #[.agg #[.int .i64 0, .string ByteArray.empty, .slice none 0 0, .slice none 0 0, .int .i64 0], .bool false])) U) := fun U e => by
          subst e
          rw [HO.out]
          exact ⟨blk5 HP.out.r _ _ _ _ _, ⟨none, 0, none, 0⟩, false, rfl, NewNn.none5 HP.out.bel (by omega) _ _ _ _ _⟩
        clear hob hlv HZ
        simp only [ixI] at hz0 ⊢
        by_cases hin : i < j.t.n
        · have hni : (i : Int) < (j.t.n : Int) := by omega
          have hkb : ((j.t.D i).kind != 0) = false := by
            have : (j.t.D i).kind = 0 := Classical.byContradiction fun e => hkn ⟨hin, e⟩
            simp [this]
          clear hkn
          obtain ⟨bI, oI, hQ, hQl, hQc⟩ := (hJ.t.below (Nat.le_refl _) HP.out.bel).at hin
          obtain ⟨d1, d2, d3, d4, d5, d6⟩ := hQc i hin
          rw [hQ] at p0
          clear hQ hQc d6
          go_wp2_with fail
          refine end_world (F := fun U => Blk U (w.heap.size + 1) #[.int .i64 0, .string ByteArray.empty, .slice none 0 0, .slice none 0 0, .int .i64 0] 87 ∧ PlacePost w (oneD j.t.n j.t.D j.d i) (.returned (.tuple #[.agg #[.int .i64 0, .string ByteArray.empty, .slice none 0 0, .slice none 0 0, .int .i64 0], .bool false])) U) (HE.out _ rfl) ?_
          clear HE
          rintro U ⟨hr, hE⟩
          have e0 : U.cell? ⟨w.heap.size + 1, 0, none⟩ = some (.int .i64 0) := hr.cell 0
          have e1 : U.cell? ⟨w.heap.size + 1, 1, none⟩ = some (.string ByteArray.empty) := hr.cell 1
          have e2 : U.cell? ⟨w.heap.size + 1, 2, none⟩ = some (.slice none 0 0) := hr.cell 2
          have e3 : U.cell? ⟨w.heap.size + 1, 3, none⟩ = some (.slice none 0 0) := hr.cell 3
          have e4 : U.cell? ⟨w.heap.size + 1, 4, none⟩ = some (.int .i64 0) := hr.cell 4
          exact bodyPost_ret (v := .tuple #[.agg #[.int .i64 0, .string ByteArray.empty, .slice none 0 0, .slice none 0 0, .int .i64 0], .bool false]) (by simp [results, Tryz.results60, go_sem, e0, e1, e2, e3, e4]) rfl hE
        · have hni : decide ((i : Int) < (j.t.n : Int)) = false := by simp; omega
          clear hkn
          go_wp2_with fail
          refine end_world (F := fun U => Blk U (w.heap.size + 1) #[.int .i64 0, .string ByteArray.empty, .slice none 0 0, .slice none 0 0, .int .i64 0] 87 ∧ PlacePost w (oneD j.t.n j.t.D j.d i) (.returned (.tuple #[.agg #[.int .i64 0, .string ByteArray.empty, .slice none 0 0, .slice none 0 0, .int .i64 0], .bool false])) U) (HE.out _ rfl) ?_
          clear HE
          rintro U ⟨hr, hE⟩
          have e0 : U.cell? ⟨w.heap.size + 1, 0, none⟩ = some (.int .i64 0) := hr.cell 0
          have e1 : U.cell? ⟨w.heap.size + 1, 1, none⟩ = some (.string ByteArray.empty) := hr.cell 1
          have e2 : U.cell? ⟨w.heap.size + 1, 2, none⟩ = some (.slice none 0 0) := hr.cell 2
          have e3 : U.cell? ⟨w.heap.size + 1, 3, none⟩ = some (.slice none 0 0) := hr.cell 3
          have e4 : U.cell? ⟨w.heap.size + 1, 4, none⟩ = some (.int .i64 0) := hr.cell 4
          exact bodyPost_ret (v := .tuple #[.agg #[.int .i64 0, .string ByteArray.empty, .slice none 0 0, .slice none 0 0, .int .i64 0], .bool false]) (by simp [results, Tryz.results60, go_sem, e0, e1, e2, e3, e4]) rfl hE
end Go.Proofs.YtakifcobofkheaaGreatDoor

/-
  What JobOk of the specification answers.
-/
namespace Go.Proofs.YtakifcobofkheaaGreatDoor
open Go.RowKit Go.Deep
set_option linter.unusedVariables false
set_option linter.unusedSimpArgs false
set_option linter.unnecessarySimpa false

/-- The box. -/
structure Jo (w : World) (j : Jb) (l : JLoc) (W : World) : Prop where
  p : Blk W w.heap.size (jC j l) 38
  bel : Below w.heap.size w W
  size : w.heap.size + 1 ≤ W.heap.size

theorem Jo.below {w : World} {j : Jb} {l : JLoc} {W W' : World} (h : Jo w j l W) (hb : Below W.heap.size W W') : Jo w j l W' := ⟨h.p.below hb h.p.lt, h.bel.trans (hb.mono h.bel.size), Nat.le_trans h.size hb.size⟩
theorem jo1 (w : World) (j : Jb) (l : JLoc) : Jo w j l (w.alloc (.cells (jC j l) 38)) := by
  obtain ⟨h0, hb, _⟩ := new1 w (jC j l) 38
  exact ⟨h0, hb, by simp⟩

/-- Whether it is right. -/
def OkPost (w : World) (j : Jb) (e : Ending) (w' : World) : Prop := Below w.heap.size w w' ∧ ∃ r : Bool, e = .returned (.bool r) ∧ (r = true ↔ JobGood j)

theorem NewNn.ndIn {w : World} {x : Nd} {l : Loc} {W : World} (h : NewNn w x l W) : NdIn W x l := ⟨ownd_strs h.names, ownd_ints h.kids⟩

set_option maxRecDepth 100000 in
set_option maxHeartbeats 8000000 in
theorem specJobOk_any (j : Jb) (l : JLoc) (w : World) (hJ : JIn w j l) (fj : j.Fits) (hs : j.t.size + j.d.size ≤ 1048576) :
    Calls Tryz.prog 23 #[jV j l] w (OkPost w j) := by
  have hqm := fj.q
  have hlm := fj.d.ln
  have hnm := fj.t.n
  unfold maxLen at hqm hlm hnm
  unfold jV
  go_enter Tryz.func23, Tryz.ntmps23
  go_wp2_with fail
  refine at_world (F := Jo w j l) (jo1 w j l) ?_
  rintro W hP
  refine (specBackOne_law j.t l.t j.d l.d W (hJ.t.below (Nat.le_refl _) hP.bel) (hJ.d.below (Nat.le_refl _) hP.bel) fj.t fj.d hs).mono ?_
  intro e w1 hpost
  obtain ⟨hb1, lr, rfl, hown⟩ := back_out j.t j.d hpost
  unfold tV
  have hP1 := hP.below hb1
  have hs1 := hP1.size
  have HP : Hid (∀ o, Jo w j l (w1.alloc o)) := fun o => hP1.below ((Below.refl _ _).alloc (Nat.le_refl _) _)
  obtain ⟨p0, p1, p2, p3, p4, p5, p6⟩ := jC_cells hP1.p
  have n0 : w.heap.size < w1.heap.size := by omega
  have m0 : w.heap.size ≠ w1.heap.size := by omega
  clear hP hb1 hpost hown hP1
  by_cases hz : backCode j.t.n j.t.D j.t.now j.d = 0
  · have hzb : (backCode j.t.n j.t.D j.t.now j.d != 0) = false := by simp [hz]
    have HZ : Hid (backCode j.t.n j.t.D j.t.now j.d = 0) := hz
    clear hz
    by_cases hq : j.q ≤ j.d.ln
    · have hqb : decide (j.d.ln < j.q) = false := by simp; omega
      have HQ : Hid (j.q ≤ j.d.ln) := hq
      by_cases hnn : j.d.since = 0 → j.t.n = 0 ∧ j.t.now = 0
      · have HNN : Hid (j.d.since = 0 → j.t.n = 0 ∧ j.t.now = 0) := hnn
        clear hnn
        have key : ∀ (X : Prop), ((j.d.since == 0) = false → X) → ((j.d.since == 0) = true → decide (0 < j.t.n) = false → (j.t.now != 0) = false → X) → X := fun X h1 h2 => by
          by_cases e : j.d.since = 0
          · obtain ⟨e1, e2⟩ := HNN.out e
            exact h2 (by simp [e]) (by simp [e1]) (by simp [e2])
          · exact h1 (by simp [e])
        have HL : Hid (∀ (k : Nat) (wr : World), k < j.q → Jo w j l wr → Calls Tryz.prog 60 #[jV j l, .int .i64 (k : Int)] wr (PlacePost wr (oneD j.t.n j.t.D j.d k))) := fun k wr hk hO => l9Place_any j l k wr (hJ.below (Nat.le_refl _) hO.bel) (code_zero HZ.out).1 fj (by omega) (by
            rcases code_few HZ.out with e | ⟨hg, _⟩
            · have := (HNN.out e).1; omega
            · exact hg.few) hs
        have HG : Hid (∀ r : Bool, (r = true ↔ ∀ i, i < j.q → (oneD j.t.n j.t.D j.d i).same (j.e i) = true) → (r = true ↔ JobGood j)) := fun r hr => hr.trans ⟨fun h => ⟨HZ.out, HQ.out, HNN.out, h⟩, fun h => h.done⟩
        refine key _ (fun hsb => ?_) (fun hsb hnb hwb => ?_)
        · clear key
          go_wp2_with fail
          clear n0 m0 p0 p1 p2 p3 p4 p5 p6
          go_loopw [5] (fun i wr => ∃ k : Nat, k ≤ j.q ∧ i = .int .i64 k ∧ Jo w j l wr ∧ ∀ i, i < k → (oneD j.t.n j.t.D j.d i).same (j.e i) = true) (fun i _ => j.q - (intOf i).toNat)
          case atStart => exact ⟨0, Nat.zero_le _, rfl, HP.out _, fun i hi => absurd hi (Nat.not_lt_zero _)⟩
          case round =>
            obtain ⟨k, hk, rfl, hin, hsm⟩ := hrel
            have HIN : Hid (Jo w j l wr ∧ ∀ i, i < k → (oneD j.t.n j.t.D j.d i).same (j.e i) = true) := ⟨hin, hsm⟩
            clear hin hsm
            obtain ⟨p0, p1, p2, p3, p4, p5, p6⟩ := jC_cells HIN.out.1.p
            by_cases hlt : k < j.q
            · have hlti : (k : Int) < (j.q : Int) := by omega
              go_wp2_with fail
              refine (HL.out k wr hlt HIN.out.1).mono ?_
              rintro e w2 ⟨lx, bx, rfl, hN⟩
              unfold ndV
              have H2 : Hid (Jo w j l w2 ∧ NdIn w2 (oneD j.t.n j.t.D j.d k) lx) := ⟨HIN.out.1.below hN.bel, hN.ndIn⟩
              clear hN p0 p1 p2 p3 p4 p5 p6
              go_wp2_with fail
              refine wp_world (F := fun U => Blk U w2.heap.size #[.int .i64 (oneD j.t.n j.t.D j.d k).kind, .string (oneD j.t.n j.t.D j.d k).text, .slice lx.nA (oneD j.t.n j.t.D j.d k).nn lx.nc, .slice lx.kA (oneD j.t.n j.t.D j.d k).kn lx.kc, .int .i64 (oneD j.t.n j.t.D j.d k).turn] 87 ∧ Jo w j l U ∧ NdIn U (oneD j.t.n j.t.D j.d k) lx) ?_ ?_
              · obtain ⟨h0, hb, _⟩ := new1 w2 #[.int .i64 (oneD j.t.n j.t.D j.d k).kind, .string (oneD j.t.n j.t.D j.d k).text, .slice lx.nA (oneD j.t.n j.t.D j.d k).nn lx.nc, .slice lx.kA (oneD j.t.n j.t.D j.d k).kn lx.kc, .int .i64 (oneD j.t.n j.t.D j.d k).turn] 87
                exact ⟨h0, H2.out.1.below hb, H2.out.2.below (Nat.le_refl _) hb⟩
              rintro U ⟨hx, hU, hNU⟩
              have HU : Hid (Jo w j l U ∧ NdIn U (oneD j.t.n j.t.D j.d k) lx) := ⟨hU, hNU⟩
              have hfx := oneD_fits fj.t.nds fj.d (k + 1) k (by omega)
              have hfe := fj.e k hlt
              obtain ⟨b, off, hA, hlt2, hc⟩ := (hJ.e.below (Nat.le_refl _) HU.out.1.bel).at hlt
              obtain ⟨c0, c1, c2, c3, c4, hNe⟩ := hc k hlt
              have p6 : U.cell? ⟨w.heap.size, 6, none⟩ = some (.slice l.e j.q l.f) := HU.out.1.p.cell 6
              rw [hA] at p6
              have hwl : w.heap.size < U.heap.size := HU.out.1.p.lt
              have hxl : w2.heap.size < U.heap.size := hx.lt
              have x0 : U.cell? ⟨w2.heap.size, 0, none⟩ = some (.int .i64 (oneD j.t.n j.t.D j.d k).kind) := hx.cell 0
              have x1 : U.cell? ⟨w2.heap.size, 1, none⟩ = some (.string (oneD j.t.n j.t.D j.d k).text) := hx.cell 1
              have x2 : U.cell? ⟨w2.heap.size, 2, none⟩ = some (.slice lx.nA (oneD j.t.n j.t.D j.d k).nn lx.nc) := hx.cell 2
              have x3 : U.cell? ⟨w2.heap.size, 3, none⟩ = some (.slice lx.kA (oneD j.t.n j.t.D j.d k).kn lx.kc) := hx.cell 3
              have x4 : U.cell? ⟨w2.heap.size, 4, none⟩ = some (.int .i64 (oneD j.t.n j.t.D j.d k).turn) := hx.cell 4
              have C0 := Lat.cell (B := U.heap.size) c0 hlt2
              have C1 := Lat.cell (B := U.heap.size) c1 hlt2
              have C2 := Lat.cell (B := U.heap.size) c2 hlt2
              have C3 := Lat.cell (B := U.heap.size) c3 hlt2
              have C4 := Lat.cell (B := U.heap.size) c4 hlt2
              have X0 := Lat.cell (B := U.heap.size) x0 hxl
              have X1 := Lat.cell (B := U.heap.size) x1 hxl
              have X2 := Lat.cell (B := U.heap.size) x2 hxl
              have X3 := Lat.cell (B := U.heap.size) x3 hxl
              have X4 := Lat.cell (B := U.heap.size) x4 hxl
              have P6 := Lat.cell (B := U.heap.size) p6 hwl
              have hcall : Hid (∀ q : Lat U.heap.size U, Calls Tryz.prog 61 #[ndV (oneD j.t.n j.t.D j.d k) lx, ndV (j.e k) (l.g k)] q.val fun r w'' => r = .returned (.bool ((oneD j.t.n j.t.D j.d k).same (j.e k))) ∧ ∃ m : Lat U.heap.size U, w'' = m.val) := fun q =>
                Calls.lat_of (specNodeSame_any (oneD j.t.n j.t.D j.d k) (j.e k) lx (l.g k) q.val (HU.out.2.below (Nat.le_refl _) q.bel) (hNe.below (Nat.le_refl _) q.bel) hfx hfe) (fun e w' h => ⟨h.2, h.1.mono q.bel.size⟩)
              clear hx hU hNU hA hc c0 c1 c2 c3 c4 hNe p6 x0 x1 x2 x3 x4 H2 hfx hfe
              go_wp2_with fail
              refine wp_region_lat (B := U.heap.size) (w0 := U) (by kernel_rfl) (by kernel_rfl) (Below.refl _ _) ?_
              repeat (go_big_quiet_step (exact hcall.out _))
              refine wpQuiet_nil ?_
              rintro _ ⟨nq, rfl⟩
              have HB : Hid (Jo w j l nq.val) := HU.out.1.below nq.bel
              clear hcall C0 C1 C2 C3 C4 X0 X1 X2 X3 X4 P6
              cases hsq : (oneD j.t.n j.t.D j.d k).same (j.e k) with
              | false =>
                have HX : Hid (false = true ↔ JobGood j) := ⟨fun h => (by cases h), fun h => (by have := h.done k hlt; rw [hsq] at this; cases this)⟩
                clear hsq
                go_wp2
                go_ret
                exact ⟨HB.out.bel, false, rfl, HX.out⟩
              | true =>
                have HX : Hid ((oneD j.t.n j.t.D j.d k).same (j.e k) = true) := hsq
                clear hsq
                go_wp2
                go_roundw
                case rel => exact ⟨k + 1, by omega, by go_num, HB.out, fun i hi => by
                  by_cases e : i = k
                  · subst e; exact HX.out
                  · exact HIN.out.2 i (by omega)⟩
                case measure => simp [intOf]; omega
            · obtain rfl : k = j.q := by omega
              go_wp2
              go_ret
              exact ⟨HIN.out.1.bel, true, rfl, HG.out true ⟨fun _ => HIN.out.2, fun _ => rfl⟩⟩
        · clear key
          go_wp2_with fail
          clear n0 m0 p0 p1 p2 p3 p4 p5 p6
          go_loopw [5] (fun i wr => ∃ k : Nat, k ≤ j.q ∧ i = .int .i64 k ∧ Jo w j l wr ∧ ∀ i, i < k → (oneD j.t.n j.t.D j.d i).same (j.e i) = true) (fun i _ => j.q - (intOf i).toNat)
          case atStart => exact ⟨0, Nat.zero_le _, rfl, HP.out _, fun i hi => absurd hi (Nat.not_lt_zero _)⟩
          case round =>
            obtain ⟨k, hk, rfl, hin, hsm⟩ := hrel
            have HIN : Hid (Jo w j l wr ∧ ∀ i, i < k → (oneD j.t.n j.t.D j.d i).same (j.e i) = true) := ⟨hin, hsm⟩
            clear hin hsm
            obtain ⟨p0, p1, p2, p3, p4, p5, p6⟩ := jC_cells HIN.out.1.p
            by_cases hlt : k < j.q
            · have hlti : (k : Int) < (j.q : Int) := by omega
              go_wp2_with fail
              refine (HL.out k wr hlt HIN.out.1).mono ?_
              rintro e w2 ⟨lx, bx, rfl, hN⟩
              unfold ndV
              have H2 : Hid (Jo w j l w2 ∧ NdIn w2 (oneD j.t.n j.t.D j.d k) lx) := ⟨HIN.out.1.below hN.bel, hN.ndIn⟩
              clear hN p0 p1 p2 p3 p4 p5 p6
              go_wp2_with fail
              refine wp_world (F := fun U => Blk U w2.heap.size #[.int .i64 (oneD j.t.n j.t.D j.d k).kind, .string (oneD j.t.n j.t.D j.d k).text, .slice lx.nA (oneD j.t.n j.t.D j.d k).nn lx.nc, .slice lx.kA (oneD j.t.n j.t.D j.d k).kn lx.kc, .int .i64 (oneD j.t.n j.t.D j.d k).turn] 87 ∧ Jo w j l U ∧ NdIn U (oneD j.t.n j.t.D j.d k) lx) ?_ ?_
              · obtain ⟨h0, hb, _⟩ := new1 w2 #[.int .i64 (oneD j.t.n j.t.D j.d k).kind, .string (oneD j.t.n j.t.D j.d k).text, .slice lx.nA (oneD j.t.n j.t.D j.d k).nn lx.nc, .slice lx.kA (oneD j.t.n j.t.D j.d k).kn lx.kc, .int .i64 (oneD j.t.n j.t.D j.d k).turn] 87
                exact ⟨h0, H2.out.1.below hb, H2.out.2.below (Nat.le_refl _) hb⟩
              rintro U ⟨hx, hU, hNU⟩
              have HU : Hid (Jo w j l U ∧ NdIn U (oneD j.t.n j.t.D j.d k) lx) := ⟨hU, hNU⟩
              have hfx := oneD_fits fj.t.nds fj.d (k + 1) k (by omega)
              have hfe := fj.e k hlt
              obtain ⟨b, off, hA, hlt2, hc⟩ := (hJ.e.below (Nat.le_refl _) HU.out.1.bel).at hlt
              obtain ⟨c0, c1, c2, c3, c4, hNe⟩ := hc k hlt
              have p6 : U.cell? ⟨w.heap.size, 6, none⟩ = some (.slice l.e j.q l.f) := HU.out.1.p.cell 6
              rw [hA] at p6
              have hwl : w.heap.size < U.heap.size := HU.out.1.p.lt
              have hxl : w2.heap.size < U.heap.size := hx.lt
              have x0 : U.cell? ⟨w2.heap.size, 0, none⟩ = some (.int .i64 (oneD j.t.n j.t.D j.d k).kind) := hx.cell 0
              have x1 : U.cell? ⟨w2.heap.size, 1, none⟩ = some (.string (oneD j.t.n j.t.D j.d k).text) := hx.cell 1
              have x2 : U.cell? ⟨w2.heap.size, 2, none⟩ = some (.slice lx.nA (oneD j.t.n j.t.D j.d k).nn lx.nc) := hx.cell 2
              have x3 : U.cell? ⟨w2.heap.size, 3, none⟩ = some (.slice lx.kA (oneD j.t.n j.t.D j.d k).kn lx.kc) := hx.cell 3
              have x4 : U.cell? ⟨w2.heap.size, 4, none⟩ = some (.int .i64 (oneD j.t.n j.t.D j.d k).turn) := hx.cell 4
              have C0 := Lat.cell (B := U.heap.size) c0 hlt2
              have C1 := Lat.cell (B := U.heap.size) c1 hlt2
              have C2 := Lat.cell (B := U.heap.size) c2 hlt2
              have C3 := Lat.cell (B := U.heap.size) c3 hlt2
              have C4 := Lat.cell (B := U.heap.size) c4 hlt2
              have X0 := Lat.cell (B := U.heap.size) x0 hxl
              have X1 := Lat.cell (B := U.heap.size) x1 hxl
              have X2 := Lat.cell (B := U.heap.size) x2 hxl
              have X3 := Lat.cell (B := U.heap.size) x3 hxl
              have X4 := Lat.cell (B := U.heap.size) x4 hxl
              have P6 := Lat.cell (B := U.heap.size) p6 hwl
              have hcall : Hid (∀ q : Lat U.heap.size U, Calls Tryz.prog 61 #[ndV (oneD j.t.n j.t.D j.d k) lx, ndV (j.e k) (l.g k)] q.val fun r w'' => r = .returned (.bool ((oneD j.t.n j.t.D j.d k).same (j.e k))) ∧ ∃ m : Lat U.heap.size U, w'' = m.val) := fun q =>
                Calls.lat_of (specNodeSame_any (oneD j.t.n j.t.D j.d k) (j.e k) lx (l.g k) q.val (HU.out.2.below (Nat.le_refl _) q.bel) (hNe.below (Nat.le_refl _) q.bel) hfx hfe) (fun e w' h => ⟨h.2, h.1.mono q.bel.size⟩)
              clear hx hU hNU hA hc c0 c1 c2 c3 c4 hNe p6 x0 x1 x2 x3 x4 H2 hfx hfe
              go_wp2_with fail
              refine wp_region_lat (B := U.heap.size) (w0 := U) (by kernel_rfl) (by kernel_rfl) (Below.refl _ _) ?_
              repeat (go_big_quiet_step (exact hcall.out _))
              refine wpQuiet_nil ?_
              rintro _ ⟨nq, rfl⟩
              have HB : Hid (Jo w j l nq.val) := HU.out.1.below nq.bel
              clear hcall C0 C1 C2 C3 C4 X0 X1 X2 X3 X4 P6
              cases hsq : (oneD j.t.n j.t.D j.d k).same (j.e k) with
              | false =>
                have HX : Hid (false = true ↔ JobGood j) := ⟨fun h => (by cases h), fun h => (by have := h.done k hlt; rw [hsq] at this; cases this)⟩
                clear hsq
                go_wp2
                go_ret
                exact ⟨HB.out.bel, false, rfl, HX.out⟩
              | true =>
                have HX : Hid ((oneD j.t.n j.t.D j.d k).same (j.e k) = true) := hsq
                clear hsq
                go_wp2
                go_roundw
                case rel => exact ⟨k + 1, by omega, by go_num, HB.out, fun i hi => by
                  by_cases e : i = k
                  · subst e; exact HX.out
                  · exact HIN.out.2 i (by omega)⟩
                case measure => simp [intOf]; omega
            · obtain rfl : k = j.q := by omega
              go_wp2
              go_ret
              exact ⟨HIN.out.1.bel, true, rfl, HG.out true ⟨fun _ => HIN.out.2, fun _ => rfl⟩⟩
      · have HB : Hid (false = true ↔ JobGood j) := ⟨fun h => (by cases h), fun h => absurd h.none hnn⟩
        have hsi : (j.d.since == 0) = true := by
          have : j.d.since = 0 := Classical.byContradiction fun e => hnn fun e' => absurd e' e
          simp [this]
        by_cases hn0 : j.t.n = 0
        · have hnb : decide (0 < j.t.n) = false := by simp [hn0]
          have hwb : (j.t.now != 0) = true := by
            have : j.t.now ≠ 0 := fun e => hnn fun _ => ⟨hn0, e⟩
            simp [this]
          clear hn0 hnn
          go_wp2
          go_ret
          exact ⟨(HP.out _).bel, false, rfl, HB.out⟩
        · have hnb : decide (0 < j.t.n) = true := by simp; omega
          clear hn0 hnn
          go_wp2
          go_ret
          exact ⟨(HP.out _).bel, false, rfl, HB.out⟩
    · have hqb : decide (j.d.ln < j.q) = true := by simp; omega
      have HB : Hid (false = true ↔ JobGood j) := ⟨fun h => (by cases h), fun h => absurd h.q hq⟩
      clear hq
      go_wp2
      go_ret
      exact ⟨(HP.out _).bel, false, rfl, HB.out⟩
  · have hzb : (backCode j.t.n j.t.D j.t.now j.d != 0) = true := by simp [hz]
    have HB : Hid (false = true ↔ JobGood j) := ⟨fun h => (by cases h), fun h => absurd h.code hz⟩
    clear hz
    go_wp2
    go_ret
    exact ⟨(HP.out _).bel, false, rfl, HB.out⟩
end Go.Proofs.YtakifcobofkheaaGreatDoor

/-
  A job with a place more done, in memory. Plain facts.
-/
namespace Go.Proofs.YtakifcobofkheaaGreatDoor
open Go.RowKit Go.Deep
set_option linter.unusedVariables false
set_option linter.unusedSimpArgs false

/-- A place more, whose lists are owned already. -/
theorem OT.more2 {W W' : World} {B k : Nat} {a : Option Addr} {c : Nat} {E : Nat → Nd} {M : Nat → Loc} (h : OT W B 0 (fun _ => false) k (fun _ => 0) E M (.slice none 0 0) (.slice a k c)) {x : Nd} {l : Loc}
    (hn : W.ownsRow B 9 1 (.slice l.nA x.nn l.nc) x.nn (strv (lst x.nn x.names))) (hk : W.ownsRow B 3 1 (.slice l.kA x.kn l.kc) x.kn (intv0 x.kn x.kids)) (hap : ∀ b, (Value.slice l.nA x.nn l.nc).ownBlock = some b → (Value.slice l.kA x.kn l.kc).ownBlock ≠ some b)
    (hfn : ∀ b, (Value.slice l.nA x.nn l.nc).ownBlock = some b → ¬ BkT ⟨k, E, 0⟩ ⟨a, c, M⟩ b) (hfk : ∀ b, (Value.slice l.kA x.kn l.kc).ownBlock = some b → ¬ BkT ⟨k, E, 0⟩ ⟨a, c, M⟩ b) {b c' : Nat} (hg : W.grownBy W' (Value.slice a k c).ownBlock)
    (hown : W'.ownsRow B 87 5 (.slice (some ⟨b, 0, none⟩) (k + 1) c') (k + 1) (rowsT (fun _ => 0) E M k ++ nt5 0 x l)) (hb : (Value.slice a k c).ownBlock = some b ∨ W.heap.size ≤ b) :
    OT W' B 0 (fun _ => false) (k + 1) (fun _ => 0) (fun i => if i = k then x else E i) (fun i => if i = k then l else M i) (.slice none 0 0) (.slice (some ⟨b, 0, none⟩) (k + 1) c') := by
  have hrow : rowsT (fun _ => 0) (fun i => if i = k then x else E i) (fun i => if i = k then l else M i) (k + 1) = rowsT (fun _ => 0) E M k ++ nt5 0 x l := by
    rw [rowsT, rowsT_ext (O := fun _ => 0) (D := E) (L := M) k (fun i hi => by simp [show i ≠ k by omega])]
    simp
  have hold : ∀ d b', d < 2 + 2 * k → (valT (.slice none 0 0) (.slice a k c) E M d).ownBlock = some b' → BkT ⟨k, E, 0⟩ ⟨a, c, M⟩ b' ∧ b' < W.heap.size := fun d b' hd e => ⟨⟨d, hd, e⟩, (owns_block (h.rows.own d hd) e).2⟩
  have h1B : ∀ b', (Value.slice a k c).ownBlock = some b' → BkT ⟨k, E, 0⟩ ⟨a, c, M⟩ b' := fun b' e => ⟨1, by show 1 < 2 + 2 * k; omega, by simpa [valT] using e⟩
  have e1 : rowT 0 (fun _ => false) (k + 1) (fun _ => 0) (fun i => if i = k then x else E i) (fun i => if i = k then l else M i) 1 = ⟨87, 5, k + 1, rowsT (fun _ => 0) E M k ++ nt5 0 x l⟩ := by unfold rowT; rw [hrow]; simp
  have v1 : valT (.slice none 0 0) (.slice (some ⟨b, 0, none⟩) (k + 1) c') (fun i => if i = k then x else E i) (fun i => if i = k then l else M i) 1 = .slice (some ⟨b, 0, none⟩) (k + 1) c' := by simp [valT]
  have hi2 : (2 + 2 * k - 2) / 2 = k := by omega
  have hi3 : (3 + 2 * k - 2) / 2 = k := by omega
  have e2 : rowT 0 (fun _ => false) (k + 1) (fun _ => 0) (fun i => if i = k then x else E i) (fun i => if i = k then l else M i) (2 + 2 * k) = ⟨9, 1, x.nn, strv (lst x.nn x.names)⟩ := by
    unfold rowT; rw [if_neg (by omega), if_neg (by omega), if_pos (by omega)]; simp [hi2]
  have v2 : valT (.slice none 0 0) (.slice (some ⟨b, 0, none⟩) (k + 1) c') (fun i => if i = k then x else E i) (fun i => if i = k then l else M i) (2 + 2 * k) = .slice l.nA x.nn l.nc := by
    unfold valT; rw [if_neg (by omega), if_neg (by omega), if_pos (by omega)]; simp [hi2]
  have e3 : rowT 0 (fun _ => false) (k + 1) (fun _ => 0) (fun i => if i = k then x else E i) (fun i => if i = k then l else M i) (3 + 2 * k) = ⟨3, 1, x.kn, intv0 x.kn x.kids⟩ := by
    unfold rowT; rw [if_neg (by omega), if_neg (by omega), if_neg (by omega)]; simp [hi3]
  have v3 : valT (.slice none 0 0) (.slice (some ⟨b, 0, none⟩) (k + 1) c') (fun i => if i = k then x else E i) (fun i => if i = k then l else M i) (3 + 2 * k) = .slice l.kA x.kn l.kc := by
    unfold valT; rw [if_neg (by omega), if_neg (by omega), if_neg (by omega)]; simp [hi3]
  have e4 : ∀ d, d < 2 + 2 * k → d ≠ 1 → rowT 0 (fun _ => false) (k + 1) (fun _ => 0) (fun i => if i = k then x else E i) (fun i => if i = k then l else M i) d = rowT 0 (fun _ => false) k (fun _ => 0) E M d := fun d hl hne => by
    unfold rowT
    by_cases e0 : d = 0
    · rw [if_pos e0, if_pos e0]
    · have hi : (d - 2) / 2 ≠ k := by omega
      rw [if_neg e0, if_neg hne, if_neg e0, if_neg hne]; simp [hi]
  have v4 : ∀ d, d < 2 + 2 * k → d ≠ 1 → valT (.slice none 0 0) (.slice (some ⟨b, 0, none⟩) (k + 1) c') (fun i => if i = k then x else E i) (fun i => if i = k then l else M i) d = valT (.slice none 0 0) (.slice a k c) E M d := fun d hl hne => by
    unfold valT
    by_cases e0 : d = 0
    · rw [if_pos e0, if_pos e0]
    · have hi : (d - 2) / 2 ≠ k := by omega
      rw [if_neg e0, if_neg hne, if_neg e0, if_neg hne]; simp [hi]
  have hcase : ∀ d, d < 2 + 2 * (k + 1) → (d < 2 + 2 * k ∧ d ≠ 1) ∨ d = 1 ∨ d = 2 + 2 * k ∨ d = 3 + 2 * k := fun d hl => by omega
  have hne1 : ∀ d b', d < 2 + 2 * k → d ≠ 1 → (valT (.slice none 0 0) (.slice a k c) E M d).ownBlock = some b' → (Value.slice a k c).ownBlock ≠ some b' := fun d b' hl hne e e' => h.rows.apart d 1 hl (by omega) hne b' e (by simpa [valT] using e')
  refine ⟨⟨fun d hl => ?_, fun d1 d2 g1 g2 hne b' p1 p2 => ?_⟩⟩
  · rcases hcase d hl with ⟨h2, h3⟩ | rfl | rfl | rfl
    · rw [e4 d h2 h3, v4 d h2 h3]
      exact owns_kept (h.rows.own d h2) hg fun b' e => hne1 d b' h2 h3 e
    · rw [e1, v1]; exact hown
    · rw [e2, v2]; exact owns_kept hn hg fun b' e e' => hfn b' e (h1B b' e')
    · rw [e3, v3]; exact owns_kept hk hg fun b' e e' => hfk b' e (h1B b' e')
  · have cl : ∀ d, d < 2 + 2 * (k + 1) → (valT (.slice none 0 0) (.slice (some ⟨b, 0, none⟩) (k + 1) c') (fun i => if i = k then x else E i) (fun i => if i = k then l else M i) d).ownBlock = some b' →
        (d < 2 + 2 * k ∧ d ≠ 1 ∧ (valT (.slice none 0 0) (.slice a k c) E M d).ownBlock = some b') ∨ (d = 1 ∧ b = b') ∨ (d = 2 + 2 * k ∧ (Value.slice l.nA x.nn l.nc).ownBlock = some b') ∨ (d = 3 + 2 * k ∧ (Value.slice l.kA x.kn l.kc).ownBlock = some b') := fun d hl hv => by
      rcases hcase d hl with ⟨h2, h3⟩ | rfl | rfl | rfl
      · rw [v4 d h2 h3] at hv
        exact Or.inl ⟨h2, h3, hv⟩
      · rw [v1] at hv
        exact Or.inr (Or.inl ⟨rfl, by simpa [Value.ownBlock] using hv⟩)
      · rw [v2] at hv
        exact Or.inr (Or.inr (Or.inl ⟨rfl, hv⟩))
      · rw [v3] at hv
        exact Or.inr (Or.inr (Or.inr ⟨rfl, hv⟩))
    have hbo : ∀ d, d < 2 + 2 * k → d ≠ 1 → (valT (.slice none 0 0) (.slice a k c) E M d).ownBlock ≠ some b := fun d hl h3 e => by
      rcases hb with e' | e'
      · exact hne1 d b hl h3 e e'
      · have := (hold d b hl e).2; omega
    have hbn : (Value.slice l.nA x.nn l.nc).ownBlock ≠ some b := fun e => by
      rcases hb with e' | e'
      · exact hfn b e (h1B b e')
      · have := (owns_block hn e).2; omega
    have hbk : (Value.slice l.kA x.kn l.kc).ownBlock ≠ some b := fun e => by
      rcases hb with e' | e'
      · exact hfk b e (h1B b e')
      · have := (owns_block hk e).2; omega
    rcases cl d1 g1 p1 with ⟨a1, a2, a3⟩ | ⟨a1, rfl⟩ | ⟨a1, a2⟩ | ⟨a1, a2⟩ <;> rcases cl d2 g2 p2 with ⟨z1, z2, z3⟩ | ⟨z1, z2⟩ | ⟨z1, z2⟩ | ⟨z1, z2⟩
    · exact h.rows.apart d1 d2 a1 z1 hne b' a3 z3
    · exact hbo d1 a1 a2 (by rw [z2]; exact a3)
    · exact hfn b' z2 (hold d1 b' a1 a3).1
    · exact hfk b' z2 (hold d1 b' a1 a3).1
    · exact hbo d2 z1 z2 z3
    · omega
    · exact hbn z2
    · exact hbk z2
    · exact hfn b' a2 (hold d2 b' z1 z3).1
    · exact hbn (by rw [z2]; exact a2)
    · omega
    · exact hap b' a2 z2
    · exact hfk b' a2 (hold d2 b' z1 z3).1
    · exact hbk (by rw [z2]; exact a2)
    · exact hap b' z2 a2
    · omega

/-- What the blocks are then. -/
theorem BkT.more {k : Nat} {a : Option Addr} {c b c' : Nat} {E : Nat → Nd} {M : Nat → Loc} {x : Nd} {l : Loc} {now : Int} {b' : Nat} (h : BkT ⟨k + 1, fun i => if i = k then x else E i, now⟩ ⟨some ⟨b, 0, none⟩, c', fun i => if i = k then l else M i⟩ b') :
    BkT ⟨k, E, 0⟩ ⟨a, c, M⟩ b' ∨ b' = b ∨ (Value.slice l.nA x.nn l.nc).ownBlock = some b' ∨ (Value.slice l.kA x.kn l.kc).ownBlock = some b' := by
  obtain ⟨d, hd, e⟩ := h
  have hd' : d < 2 + 2 * (k + 1) := hd
  unfold valT at e
  by_cases e0 : d = 0
  · rw [if_pos e0] at e; simp [Value.ownBlock] at e
  · by_cases e1 : d = 1
    · rw [if_neg e0, if_pos e1] at e
      exact Or.inr (Or.inl (by simpa [Value.ownBlock] using e.symm))
    · rw [if_neg e0, if_neg e1] at e
      by_cases hm : (d - 2) / 2 = k
      · simp only [hm, if_true] at e
        split at e
        · exact Or.inr (Or.inr (Or.inl e))
        · exact Or.inr (Or.inr (Or.inr e))
      · simp only [hm, if_false] at e
        exact Or.inl ⟨d, by show d < 2 + 2 * k; omega, by unfold valT; rw [if_neg e0, if_neg e1]; exact e⟩

/-- The job with a place more done. -/
def Jb.more (j : Jb) (x : Nd) : Jb := ⟨j.t, j.d, j.q + 1, fun i => if i = j.q then x else j.e i⟩
def JLoc.more (l : JLoc) (q b c' : Nat) (lx : Loc) : JLoc := ⟨l.t, l.d, some ⟨b, 0, none⟩, c', fun i => if i = q then lx else l.g i⟩

theorem OwnJb.more {W W' : World} {B : Nat} {j : Jb} {l : JLoc} (h : OwnJb W B j l) {x : Nd} {lx : Loc}
    (hn : W.ownsRow B 9 1 (.slice lx.nA x.nn lx.nc) x.nn (strv (lst x.nn x.names))) (hk : W.ownsRow B 3 1 (.slice lx.kA x.kn lx.kc) x.kn (intv0 x.kn x.kids)) (hap : ∀ b, (Value.slice lx.nA x.nn lx.nc).ownBlock = some b → (Value.slice lx.kA x.kn lx.kc).ownBlock ≠ some b)
    (hfn : ∀ b, (Value.slice lx.nA x.nn lx.nc).ownBlock = some b → ¬ BkJ j l b) (hfk : ∀ b, (Value.slice lx.kA x.kn lx.kc).ownBlock = some b → ¬ BkJ j l b) {b c' : Nat} (hg : W.grownBy W' (Value.slice l.e j.q l.f).ownBlock)
    (hown : W'.ownsRow B 87 5 (.slice (some ⟨b, 0, none⟩) (j.q + 1) c') (j.q + 1) (rowsT (fun _ => 0) j.e l.g j.q ++ nt5 0 x lx)) (hb : (Value.slice l.e j.q l.f).ownBlock = some b ∨ W.heap.size ≤ b) :
    OwnJb W' B (j.more x) (l.more j.q b c' lx) := by
  have h1B : ∀ b', (Value.slice l.e j.q l.f).ownBlock = some b' → BkT j.dn l.dn b' := fun b' e => ⟨1, by show 1 < 2 + 2 * j.q; omega, by simpa [valT, Jb.dn, JLoc.dn] using e⟩
  have hE : OwnTr W' B (j.more x).dn (l.more j.q b c' lx).dn := OT.more2 h.e hn hk hap (fun q e e' => hfn q e (Or.inr (Or.inr e'))) (fun q e e' => hfk q e (Or.inr (Or.inr e'))) hg hown hb
  have hT : OwnTr W' B j.t l.t := h.t.keep fun q e => hg.block q (h.t.blk e).2 (fun e' => h.te q e (h1B q e'.symm))
  have hD : OwnDp W' B j.d l.d := h.d.keep fun q e => hg.block q (h.d.blk e).2 (fun e' => h.de q e (h1B q e'.symm))
  have hnew : ∀ q, BkT (j.more x).dn (l.more j.q b c' lx).dn q → BkT j.dn l.dn q ∨ q = b ∨ (Value.slice lx.nA x.nn lx.nc).ownBlock = some q ∨ (Value.slice lx.kA x.kn lx.kc).ownBlock = some q := fun q e => BkT.more e
  refine ⟨hT, hD, hE, h.td, fun q e1 e2 => ?_, fun q e1 e2 => ?_⟩
  · rcases hnew q e2 with e | rfl | e | e
    · exact h.te q e1 e
    · rcases hb with e | e
      · exact h.te q e1 (h1B q e)
      · have := (h.t.blk e1).2; omega
    · exact hfn q e (Or.inl e1)
    · exact hfk q e (Or.inl e1)
  · rcases hnew q e2 with e | rfl | e | e
    · exact h.de q e1 e
    · rcases hb with e | e
      · exact h.de q e1 (h1B q e)
      · have := (h.d.blk e1).2; omega
    · exact hfn q e (Or.inr (Or.inl e1))
    · exact hfk q e (Or.inr (Or.inl e1))
end Go.Proofs.YtakifcobofkheaaGreatDoor

/-
  What JobStep, JobLeft and JobTree of the specification answer.
-/
namespace Go.Proofs.YtakifcobofkheaaGreatDoor
open Go.RowKit Go.Deep
set_option linter.unusedVariables false
set_option linter.unusedSimpArgs false
set_option linter.unnecessarySimpa false

/-- The boxes. -/
structure Js (w : World) (j : Jb) (l : JLoc) (W : World) : Prop where
  p : Blk W w.heap.size (jC j l) 38
  r : Blk W (w.heap.size + 1) #[.slice none 0 0, .int .i64 0, .int .i64 0, .int .i64 0, .slice none 0 0, .slice none 0 0, .slice none 0 0] 38
  bel : Below w.heap.size w W
  size : w.heap.size + 2 ≤ W.heap.size

theorem Js.below {w : World} {j : Jb} {l : JLoc} {W W' : World} (h : Js w j l W) (hb : Below W.heap.size W W') : Js w j l W' := ⟨h.p.below hb h.p.lt, h.r.below hb h.r.lt, h.bel.trans (hb.mono h.bel.size), Nat.le_trans h.size hb.size⟩

/-- A new place, as rows of one's own. -/
theorem step_good {j : Jb} (h : JobGood j) : stepAns j = stepJb j := by unfold stepAns; rw [if_pos h]
theorem step_bad {j : Jb} (h : ¬ JobGood j) : stepAns j = jbNone := by unfold stepAns; rw [if_neg h]
theorem step_lt {j : Jb} (h : j.q < j.d.ln) : stepJb j = j.more (oneD j.t.n j.t.D j.d j.q) := by unfold stepJb; rw [if_pos h]; rfl
theorem step_no {j : Jb} (h : ¬ j.q < j.d.ln) : stepJb j = j := by unfold stepJb; rw [if_neg h]

set_option maxRecDepth 100000 in
set_option maxHeartbeats 8000000 in
theorem specJobStep_any (j : Jb) (l : JLoc) (w : World) (hJ : JIn w j l) (fj : j.Fits) (hs : j.size ≤ 1048576) :
    Calls Tryz.prog 26 #[jV j l] w (JPost1 w (stepAns j)) := by
  have hqm := fj.q
  have hlm := fj.d.ln
  unfold maxLen at hqm hlm
  obtain ⟨y0, hy, hy0, hy1, hy2⟩ := info_parts infoNode
  have hsz : j.t.size + j.d.size ≤ 1048576 := by unfold Jb.size at hs; omega
  have hse : ∀ i, i < j.q → (j.e i).size ≤ 1048576 := (Jb.mid hs).es
  unfold jV
  go_enter Tryz.func26, Tryz.ntmps26
  go_wp2_with fail
  refine at_world (F := Js w j l) ?_ ?_
  · obtain ⟨h0, h1, hb, _⟩ := new2 w (jC j l) 38 #[.slice none 0 0, .int .i64 0, .int .i64 0, .int .i64 0, .slice none 0 0, .slice none 0 0, .slice none 0 0] 38
    exact ⟨h0, h1, hb, by simp⟩
  rintro W hP
  refine (specJobOk_any j l W (hJ.below (Nat.le_refl _) hP.bel) fj hsz).mono ?_
  rintro e w1 ⟨hb1, r, rfl, hr⟩
  have HP : Hid (Js w j l w1) := hP.below hb1
  clear hP hb1
  obtain ⟨p0, p1, p2, p3, p4, p5, p6⟩ := jC_cells HP.out.p
  have r0 : w1.cell? ⟨w.heap.size + 1, 0, none⟩ = some (.slice none 0 0) := HP.out.r.cell 0
  have r1 : w1.cell? ⟨w.heap.size + 1, 1, none⟩ = some (.int .i64 0) := HP.out.r.cell 1
  have r2 : w1.cell? ⟨w.heap.size + 1, 2, none⟩ = some (.int .i64 0) := HP.out.r.cell 2
  have r3 : w1.cell? ⟨w.heap.size + 1, 3, none⟩ = some (.int .i64 0) := HP.out.r.cell 3
  have r4 : w1.cell? ⟨w.heap.size + 1, 4, none⟩ = some (.slice none 0 0) := HP.out.r.cell 4
  have r5 : w1.cell? ⟨w.heap.size + 1, 5, none⟩ = some (.slice none 0 0) := HP.out.r.cell 5
  have r6 : w1.cell? ⟨w.heap.size + 1, 6, none⟩ = some (.slice none 0 0) := HP.out.r.cell 6
  have g0 := HP.out.r.frozen 0
  have g1 := HP.out.r.frozen 1
  have g2 := HP.out.r.frozen 2
  have g3 := HP.out.r.frozen 3
  have g4 := HP.out.r.frozen 4
  have g5 := HP.out.r.frozen 5
  have g6 := HP.out.r.frozen 6
  cases r with
  | false =>
    have HA : Hid (stepAns j = jbNone) := step_bad fun h => by have := hr.2 h; cases this
    clear hr
    have HE : Hid (∀ U, U = (((((((w1.setCell ⟨w.heap.size + 1, 0, none⟩ (.slice none 0 0)).setCell ⟨w.heap.size + 1, 1, none⟩ (.int .i64 0)).setCell ⟨w.heap.size + 1, 2, none⟩ (.int .i64 0)).setCell ⟨w.heap.size + 1, 3, none⟩ (.int .i64 0)).setCell ⟨w.heap.size + 1, 4, none⟩ (.slice none 0 0)).setCell ⟨w.heap.size + 1, 5, none⟩ (.slice none 0 0)).setCell ⟨w.heap.size + 1, 6, none⟩ (.slice none 0 0)) → Blk U (w.heap.size + 1) #[.slice none 0 0, .int .i64 0, .int .i64 0, .int .i64 0, .slice none 0 0, .slice none 0 0, .slice none 0 0] 38 ∧ JPost1 w (stepAns j) (.returned (.agg #[.slice none 0 0, .int .i64 0, .int .i64 0, .int .i64 0, .slice none 0 0, .slice none 0 0, .slice none 0 0])) U) := fun U e => by
      subst e
      rw [HA.out]
      exact ⟨blk7 HP.out.r _ _ _ _ _ _ _, bel7 HP.out.bel (by omega) _ _ _ _ _ _ _, _, rfl, ownJb_none _ _⟩
    go_wp2_with fail
    refine end_world (F := fun U => Blk U (w.heap.size + 1) #[.slice none 0 0, .int .i64 0, .int .i64 0, .int .i64 0, .slice none 0 0, .slice none 0 0, .slice none 0 0] 38 ∧ JPost1 w (stepAns j) (.returned (.agg #[.slice none 0 0, .int .i64 0, .int .i64 0, .int .i64 0, .slice none 0 0, .slice none 0 0, .slice none 0 0])) U) (HE.out _ rfl) ?_
    clear HE r0 r1 r2 r3 r4 r5 r6 g0 g1 g2 g3 g4 g5 g6
    rintro U ⟨hr, hE⟩
    have e0 := hr.cell 0
    have e1 := hr.cell 1
    have e2 := hr.cell 2
    have e3 := hr.cell 3
    have e4 := hr.cell 4
    have e5 := hr.cell 5
    have e6 := hr.cell 6
    simp at e0 e1 e2 e3 e4 e5 e6
    exact bodyPost_ret (v := .agg #[.slice none 0 0, .int .i64 0, .int .i64 0, .int .i64 0, .slice none 0 0, .slice none 0 0, .slice none 0 0]) (by simp [results, Tryz.results26, go_sem, e0, e1, e2, e3, e4, e5, e6]) rfl hE
  | true =>
    have HG : Hid (JobGood j) := hr.1 rfl
    clear hr r0 r1 r2 r3 r4 r5 r6 g0 g1 g2 g3 g4 g5 g6
    go_wp2_with fail
    refine (l9Copy_any j l w1 (hJ.below (Nat.le_refl _) HP.out.bel) HG.out.ok HG.out.few (by have := HG.out.q; have := HG.out.ln; omega) (by omega) (by omega) hse).mono ?_
    rintro e w2 ⟨lj, rfl, hb2, hown⟩
    unfold jV
    have H2 : Hid (∀ U, U = w2.alloc (.cells (jC j lj) 38) → Js w j l U ∧ Blk U w2.heap.size (jC j lj) 38 ∧ OwnJb U w1.heap.size j lj ∧ w1.heap.size ≤ w2.heap.size ∧ w2.heap.size < U.heap.size) := fun U e => by
      have hP2 := HP.out.below hb2
      obtain ⟨h0, hb, _⟩ := new1 w2 (jC j lj) 38
      rw [← e] at h0 hb
      exact ⟨hP2.below hb, h0, hown.below hb, hb2.size, h0.lt⟩
    have HPP : Hid _ := jC_cells (HP.out.below hb2).p
    have HPR : Hid (Js w j l w2 ∧ OwnJb w2 w1.heap.size j lj) := ⟨HP.out.below hb2, hown⟩
    have hTop : ∀ b, BkJ j lj b → b < w2.heap.size := fun b e => (hown.blk e).2
    have HTop : Hid (∀ b, BkJ j lj b → b < w2.heap.size) := hTop
    have hs1 := HP.out.size
    have hl12 : w1.heap.size ≤ w2.heap.size := hb2.size
    clear hb2 hown p0 p1 p2 p3 p4 p5 p6 hTop
    obtain ⟨p0, p1, p2, p3, p4, p5, p6⟩ : (w2.cell? ⟨w.heap.size, 0, none⟩ = some (.slice l.t.a j.t.n l.t.c) ∧ w2.cell? ⟨w.heap.size, 1, none⟩ = some (.int .i64 j.t.now) ∧ w2.cell? ⟨w.heap.size, 2, none⟩ = some (.int .i64 j.d.since) ∧ w2.cell? ⟨w.heap.size, 3, none⟩ = some (.int .i64 j.d.date) ∧ w2.cell? ⟨w.heap.size, 4, none⟩ = some (.slice l.d.lA j.d.ln l.d.lc) ∧ w2.cell? ⟨w.heap.size, 5, none⟩ = some (.slice l.d.iA j.d.m l.d.ic) ∧ w2.cell? ⟨w.heap.size, 6, none⟩ = some (.slice l.e j.q l.f)) := HPP.out
    have n0 : w.heap.size < w2.heap.size := by omega
    have m0 : w.heap.size ≠ w2.heap.size := by omega
    by_cases hlt : j.q < j.d.ln
    · have hlti : (j.q : Int) < (j.d.ln : Int) := by omega
      have HL : Hid (∀ W, Js w j l W → Calls Tryz.prog 60 #[jV j l, .int .i64 (j.q : Int)] W (PlacePost W (oneD j.t.n j.t.D j.d j.q))) := fun W h => l9Place_any j l j.q W (hJ.below (Nat.le_refl _) h.bel) HG.out.ok fj hlt HG.out.few hsz
      have HA : Hid (stepAns j = j.more (oneD j.t.n j.t.D j.d j.q)) := (step_good HG.out).trans (step_lt hlt)
      have hq10 : j.q ≤ 10 := by have := HG.out.ln; omega
      go_wp2_with fail
      refine at_world (F := fun U => Js w j l U ∧ Blk U w2.heap.size (jC j lj) 38 ∧ OwnJb U w1.heap.size j lj ∧ w1.heap.size ≤ w2.heap.size ∧ w2.heap.size < U.heap.size) (H2.out _ rfl) ?_
      clear p0 p1 p2 p3 p4 p5 p6 n0 m0
      rintro W3 ⟨hj3, hv3, ho3, hl3, hl4⟩
      refine (HL.out W3 hj3).mono ?_
      rintro e w4 ⟨lx, bx, rfl, hN⟩
      generalize hx : oneD j.t.n j.t.D j.d j.q = x at *
      unfold ndV
      have H4 : Hid (Js w j l w4 ∧ Blk w4 w2.heap.size (jC j lj) 38 ∧ OwnJb w4 w1.heap.size j lj ∧ w1.heap.size ≤ w2.heap.size ∧ w2.heap.size < W3.heap.size ∧ NewNn W3 x lx w4 ∧ W3.heap.size ≤ w4.heap.size) := ⟨hj3.below hN.bel, hv3.below hN.bel hl4, ho3.below hN.bel, hl3, hl4, hN, hN.bel.size⟩
      have hl34 : W3.heap.size ≤ w4.heap.size := hN.bel.size
      clear hj3 hv3 ho3 hN H2 hx
      obtain ⟨v0, v1, v2, v3, v4, v5, v6⟩ := jC_cells H4.out.2.1
      have nv : w2.heap.size < w4.heap.size := by omega
      have mv : w2.heap.size ≠ w4.heap.size := by omega
      have mv2 : w2.heap.size ≠ w4.heap.size + 1 := by omega
      have hba : Below w4.heap.size w4 ((w4.alloc (.cells #[.int .i64 (x).kind, .string (x).text, .slice lx.nA (x).nn lx.nc, .slice lx.kA (x).kn lx.kc, .int .i64 (x).turn] 87)).alloc (.cells #[.int .i64 (x).kind, .string (x).text, .slice lx.nA (x).nn lx.nc, .slice lx.kA (x).kn lx.kc, .int .i64 (x).turn] 87)) := ((Below.refl _ _).alloc (Nat.le_refl _) _).alloc (by simp) _
      have HB4 : Hid _ := hba
      have hU := H4.out.2.2.1.below hba
      have HOI : Hid _ := hU.e.ownI
      have fV := (H4.out.2.1.below hba (by omega)).frozen 6
      have hsrc : Src ((w4.alloc (.cells #[.int .i64 (x).kind, .string (x).text, .slice lx.nA (x).nn lx.nc, .slice lx.kA (x).kn lx.kc, .int .i64 (x).turn] 87)).alloc (.cells #[.int .i64 (x).kind, .string (x).text, .slice lx.nA (x).nn lx.nc, .slice lx.kA (x).kn lx.kc, .int .i64 (x).turn] 87)) 5 (.slice (some ⟨w4.heap.size + 1, 0, none⟩) 1 1) 1 (nt5 0 x lx) := by
        have h := src_node (w4.alloc (.cells #[.int .i64 (x).kind, .string (x).text, .slice lx.nA (x).nn lx.nc, .slice lx.kA (x).kn lx.kc, .int .i64 (x).turn] 87)) x lx
        simpa using h
      have HSRC : Hid _ := hsrc
      clear hba hU hsrc
      go_wp2_with (at_builtin; go_must (refine wpList_append_src (by rfl) _ _ 31 rfl w1.heap.size 87 y0 (.agg #[.int .i64 0, .string ByteArray.empty, .slice none 0 0, .slice none 0 0, .int .i64 0]) 5 80 Tryz.underlying31 hy hy0 hy1 hy2 rfl (by decide) (.slice lj.e j.q lj.f) j.q (rowsT (fun _ => 0) j.e lj.g j.q) (by rfl) HOI.out (.slice (some ⟨w4.heap.size + 1, 0, none⟩) 1 1) 1 _ (by rfl) HSRC.out (by unfold maxLen; omega) (by omega) (by simp; omega) ?_))
      intro vI W7 hown hgrow hnil hat
      rcases hown.2 with ⟨_, h0⟩ | ⟨gI, cI, cur, hvI, _, _, _⟩
      · omega
      subst hvI
      have H8 : Hid (Js w j l W7 ∧ Blk W7 w2.heap.size (jC j lj) 38 ∧ OwnJb W7 w1.heap.size (j.more x) (lj.more j.q gI cI lx) ∧ ¬ BkJ (j.more x) (lj.more j.q gI cI lx) w2.heap.size) := by
        have hU4 := HB4.out
        have hN := H4.out.2.2.2.2.2.1.alloc (.cells #[.int .i64 (x).kind, .string (x).text, .slice lx.nA (x).nn lx.nc, .slice lx.kA (x).kn lx.kc, .int .i64 (x).turn] 87)
        have hN2 := hN.alloc (.cells #[.int .i64 (x).kind, .string (x).text, .slice lx.nA (x).nn lx.nc, .slice lx.kA (x).kn lx.kc, .int .i64 (x).turn] 87)
        have hJU := H4.out.2.2.1.below hU4
        have hbo : ∀ q, (Value.slice lj.e j.q lj.f).ownBlock = some q → w1.heap.size ≤ q ∧ q < w2.heap.size := fun q e => ⟨(owns_block hJU.e.ownI e).1, HTop.out q (Or.inr (Or.inr ⟨1, by show 1 < 2 + 2 * j.q; omega, by simpa [valT, Jb.dn, JLoc.dn] using e⟩))⟩
        have hbI : (Value.slice lj.e j.q lj.f).ownBlock = some gI ∨ ((w4.alloc (.cells #[.int .i64 (x).kind, .string (x).text, .slice lx.nA (x).nn lx.nc, .slice lx.kA (x).kn lx.kc, .int .i64 (x).turn] 87)).alloc (.cells #[.int .i64 (x).kind, .string (x).text, .slice lx.nA (x).nn lx.nc, .slice lx.kA (x).kn lx.kc, .int .i64 (x).turn] 87)).heap.size ≤ gI := by
          rcases hat with e | e
          · exact Or.inl e.symm
          · right
            have e' : gI = ((w4.alloc (.cells #[.int .i64 (x).kind, .string (x).text, .slice lx.nA (x).nn lx.nc, .slice lx.kA (x).kn lx.kc, .int .i64 (x).turn] 87)).alloc (.cells #[.int .i64 (x).kind, .string (x).text, .slice lx.nA (x).nn lx.nc, .slice lx.kA (x).kn lx.kc, .int .i64 (x).turn] 87)).heap.size := by simpa [Value.ownBlock] using e
            omega
        have hJS := H4.out.1.below hU4
        have hsz1 := HP.out.size
        have hVU := H4.out.2.1.below hU4 (by omega)
        have hnb : ∀ q, (Value.slice lx.nA x.nn lx.nc).ownBlock = some q → W3.heap.size ≤ q := fun q e => (owns_block hN2.names e).1
        have hkb : ∀ q, (Value.slice lx.kA x.kn lx.kc).ownBlock = some q → W3.heap.size ≤ q := fun q e => (owns_block hN2.kids e).1
        have hM := hJU.more (owns_lower hN2.names (by omega)) (owns_lower hN2.kids (by omega)) hN2.apart (fun q e e' => by have := HTop.out q e'; have := hnb q e; omega) (fun q e e' => by have := HTop.out q e'; have := hkb q e; omega) hgrow hown hbI
        refine ⟨⟨blk_grownT hJS.p hgrow (fun e => by have := (hbo _ e).1; omega), blk_grownT hJS.r hgrow (fun e => by have := (hbo _ e).1; omega), hJS.bel.grown hgrow hJS.bel.size (fun q e => by have := (hbo q e).1; omega), Nat.le_trans hJS.size hgrow.size⟩, blk_grownT hVU hgrow (fun e => by have := (hbo _ e).2; omega), hM, ?_⟩
        rintro (e | e | e)
        · have := HTop.out _ (Or.inl e); omega
        · have := HTop.out _ (Or.inr (Or.inl e)); omega
        · rcases BkT.more (now := 0) (a := lj.e) (c := lj.f) e with e | e | e | e
          · have := HTop.out _ (Or.inr (Or.inr e)); omega
          · have := hbI
            rcases hbI with e' | e'
            · have := (hbo _ e').2; omega
            · simp at e'; omega
          · have := hnb _ e; omega
          · have := hkb _ e; omega
      clear hown hgrow hnil hat HOI HSRC H4 v0 v1 v2 v3 v4 v5 v6 nv mv mv2 fV HB4
      have H9 : Hid (∀ U, U = W7.setCell ⟨w2.heap.size, 6, none⟩ (.slice (some ⟨gI, 0, none⟩) (j.q + 1) cI) → Js w j l U ∧ OwnJb U w1.heap.size (j.more x) (lj.more j.q gI cI lx)) := fun U e => by
        subst e
        exact ⟨⟨H8.out.1.p.off _ (by omega), H8.out.1.r.off _ (by omega), bel_put H8.out.1.bel _ (by omega), by simpa [World.setCell] using H8.out.1.size⟩, H8.out.2.2.1.keep fun q e => blk_setCell_other _ _ _ _ (show q ≠ w2.heap.size from fun e' => H8.out.2.2.2 (e' ▸ e))⟩
      obtain ⟨v0, v1, v2, v3, v4, v5, v6⟩ := jC_cells H8.out.2.1
      have fV := H8.out.2.1.frozen 6
      have r0 : W7.cell? ⟨w.heap.size + 1, 0, none⟩ = some (.slice none 0 0) := H8.out.1.r.cell 0
      have r1 : W7.cell? ⟨w.heap.size + 1, 1, none⟩ = some (.int .i64 0) := H8.out.1.r.cell 1
      have r2 : W7.cell? ⟨w.heap.size + 1, 2, none⟩ = some (.int .i64 0) := H8.out.1.r.cell 2
      have r3 : W7.cell? ⟨w.heap.size + 1, 3, none⟩ = some (.int .i64 0) := H8.out.1.r.cell 3
      have r4 : W7.cell? ⟨w.heap.size + 1, 4, none⟩ = some (.slice none 0 0) := H8.out.1.r.cell 4
      have r5 : W7.cell? ⟨w.heap.size + 1, 5, none⟩ = some (.slice none 0 0) := H8.out.1.r.cell 5
      have r6 : W7.cell? ⟨w.heap.size + 1, 6, none⟩ = some (.slice none 0 0) := H8.out.1.r.cell 6
      have g0 := H8.out.1.r.frozen 0
      have g1 := H8.out.1.r.frozen 1
      have g2 := H8.out.1.r.frozen 2
      have g3 := H8.out.1.r.frozen 3
      have g4 := H8.out.1.r.frozen 4
      have g5 := H8.out.1.r.frozen 5
      have g6 := H8.out.1.r.frozen 6
      have hnr : w.heap.size + 1 ≠ w2.heap.size := by omega
      have hnr2 : w2.heap.size ≠ w.heap.size + 1 := by omega
      have HE : Hid (∀ U, U = ((((((((W7.setCell ⟨w2.heap.size, 6, none⟩ (.slice (some ⟨gI, 0, none⟩) (j.q + 1) cI)).setCell ⟨w.heap.size + 1, 0, none⟩ (.slice lj.t.a j.t.n lj.t.c)).setCell ⟨w.heap.size + 1, 1, none⟩ (.int .i64 j.t.now)).setCell ⟨w.heap.size + 1, 2, none⟩ (.int .i64 j.d.since)).setCell ⟨w.heap.size + 1, 3, none⟩ (.int .i64 j.d.date)).setCell ⟨w.heap.size + 1, 4, none⟩ (.slice lj.d.lA j.d.ln lj.d.lc)).setCell ⟨w.heap.size + 1, 5, none⟩ (.slice lj.d.iA j.d.m lj.d.ic)).setCell ⟨w.heap.size + 1, 6, none⟩ (.slice (some ⟨gI, 0, none⟩) (j.q + 1) cI)) → Blk U (w.heap.size + 1) (jC (j.more x) (lj.more j.q gI cI lx)) 38 ∧ JPost1 w (stepAns j) (.returned (jV (j.more x) (lj.more j.q gI cI lx))) U) := fun U e => by
        subst e
        rw [HA.out]
        obtain ⟨a1, a2⟩ := H9.out _ rfl
        exact ⟨blk7 a1.r _ _ _ _ _ _ _, bel7 a1.bel (by omega) _ _ _ _ _ _ _, _, rfl, (jb7 a2 (by omega) _ _ _ _ _ _ _).lower (by omega)⟩
      clear H8 H9
      go_wp2_with fail
      refine end_world (F := fun U => Blk U (w.heap.size + 1) (jC (j.more x) (lj.more j.q gI cI lx)) 38 ∧ JPost1 w (stepAns j) (.returned (jV (j.more x) (lj.more j.q gI cI lx))) U) (HE.out _ rfl) ?_
      clear HE v0 v1 v2 v3 v4 v5 v6 fV r0 r1 r2 r3 r4 r5 r6 g0 g1 g2 g3 g4 g5 g6
      rintro U ⟨hr, hE⟩
      obtain ⟨e0, e1, e2, e3, e4, e5, e6⟩ := jC_cells hr
      exact bodyPost_ret (v := jV (j.more x) (lj.more j.q gI cI lx)) (by unfold jV; simp [results, Tryz.results26, go_sem, e0, e1, e2, e3, e4, e5, e6]) rfl hE
    · have hltn : decide (j.q < j.d.ln) = false := by simp; omega
      have HA : Hid (stepAns j = j) := (step_good HG.out).trans (step_no hlt)
      clear hlt
      have n1 : w.heap.size + 1 < w2.heap.size := by omega
      have m1 : w.heap.size + 1 ≠ w2.heap.size := by omega
      have r0 : w2.cell? ⟨w.heap.size + 1, 0, none⟩ = some (.slice none 0 0) := HPR.out.1.r.cell 0
      have r1 : w2.cell? ⟨w.heap.size + 1, 1, none⟩ = some (.int .i64 0) := HPR.out.1.r.cell 1
      have r2 : w2.cell? ⟨w.heap.size + 1, 2, none⟩ = some (.int .i64 0) := HPR.out.1.r.cell 2
      have r3 : w2.cell? ⟨w.heap.size + 1, 3, none⟩ = some (.int .i64 0) := HPR.out.1.r.cell 3
      have r4 : w2.cell? ⟨w.heap.size + 1, 4, none⟩ = some (.slice none 0 0) := HPR.out.1.r.cell 4
      have r5 : w2.cell? ⟨w.heap.size + 1, 5, none⟩ = some (.slice none 0 0) := HPR.out.1.r.cell 5
      have r6 : w2.cell? ⟨w.heap.size + 1, 6, none⟩ = some (.slice none 0 0) := HPR.out.1.r.cell 6
      have g0 := HPR.out.1.r.frozen 0
      have g1 := HPR.out.1.r.frozen 1
      have g2 := HPR.out.1.r.frozen 2
      have g3 := HPR.out.1.r.frozen 3
      have g4 := HPR.out.1.r.frozen 4
      have g5 := HPR.out.1.r.frozen 5
      have g6 := HPR.out.1.r.frozen 6
      have HE : Hid (∀ U, U = ((((((((w2.setCell ⟨w.heap.size + 1, 0, none⟩ (.slice lj.t.a j.t.n lj.t.c)).setCell ⟨w.heap.size + 1, 1, none⟩ (.int .i64 j.t.now)).setCell ⟨w.heap.size + 1, 2, none⟩ (.int .i64 j.d.since)).setCell ⟨w.heap.size + 1, 3, none⟩ (.int .i64 j.d.date)).setCell ⟨w.heap.size + 1, 4, none⟩ (.slice lj.d.lA j.d.ln lj.d.lc)).setCell ⟨w.heap.size + 1, 5, none⟩ (.slice lj.d.iA j.d.m lj.d.ic)).setCell ⟨w.heap.size + 1, 6, none⟩ (.slice lj.e j.q lj.f)).alloc (.cells #[.slice lj.t.a j.t.n lj.t.c, .int .i64 j.t.now, .int .i64 j.d.since, .int .i64 j.d.date, .slice lj.d.lA j.d.ln lj.d.lc, .slice lj.d.iA j.d.m lj.d.ic, .slice lj.e j.q lj.f] 38)) → Blk U (w.heap.size + 1) (jC j lj) 38 ∧ JPost1 w (stepAns j) (.returned (jV j lj)) U) := fun U e => by
        subst e
        rw [HA.out]
        have hb : Below w.heap.size w (((((((w2.setCell ⟨w.heap.size + 1, 0, none⟩ (.slice lj.t.a j.t.n lj.t.c)).setCell ⟨w.heap.size + 1, 1, none⟩ (.int .i64 j.t.now)).setCell ⟨w.heap.size + 1, 2, none⟩ (.int .i64 j.d.since)).setCell ⟨w.heap.size + 1, 3, none⟩ (.int .i64 j.d.date)).setCell ⟨w.heap.size + 1, 4, none⟩ (.slice lj.d.lA j.d.ln lj.d.lc)).setCell ⟨w.heap.size + 1, 5, none⟩ (.slice lj.d.iA j.d.m lj.d.ic)).setCell ⟨w.heap.size + 1, 6, none⟩ (.slice lj.e j.q lj.f)) := bel7 HPR.out.1.bel (by omega) _ _ _ _ _ _ _
        exact ⟨(blk7 HPR.out.1.r _ _ _ _ _ _ _).alloc _, hb.alloc hb.size _, lj, rfl, ((jb7 HPR.out.2 (by omega) _ _ _ _ _ _ _).below ((Below.refl _ _).alloc (Nat.le_refl _) _)).lower (by omega)⟩
      go_wp2_with fail
      refine end_world (F := fun U => Blk U (w.heap.size + 1) (jC j lj) 38 ∧ JPost1 w (stepAns j) (.returned (jV j lj)) U) (HE.out _ rfl) ?_
      clear HE r0 r1 r2 r3 r4 r5 r6 g0 g1 g2 g3 g4 g5 g6
      rintro U ⟨hr, hE⟩
      obtain ⟨e0, e1, e2, e3, e4, e5, e6⟩ := jC_cells hr
      exact bodyPost_ret (v := jV j lj) (by unfold jV; simp [results, Tryz.results26, go_sem, e0, e1, e2, e3, e4, e5, e6]) rfl hE

/-- What JobLeft answers. -/
def LeftPost (w : World) (j : Jb) (e : Ending) (w' : World) : Prop := Below w.heap.size w w' ∧ ∃ r, e = .returned (.int .i64 r) ∧ r = leftAns j

set_option maxHeartbeats 2000000 in
theorem specJobLeft_any (j : Jb) (l : JLoc) (w : World) (hJ : JIn w j l) (fj : j.Fits) (hs : j.size ≤ 1048576) :
    Calls Tryz.prog 28 #[jV j l] w (LeftPost w j) := by
  have hqm := fj.q
  have hlm := fj.d.ln
  unfold maxLen at hqm hlm
  have hsz : j.t.size + j.d.size ≤ 1048576 := by unfold Jb.size at hs; omega
  unfold jV
  go_enter Tryz.func28, Tryz.ntmps28
  go_wp2_with fail
  refine at_world (F := Jo w j l) (jo1 w j l) ?_
  rintro W hP
  refine (specJobOk_any j l W (hJ.below (Nat.le_refl _) hP.bel) fj hsz).mono ?_
  rintro e w1 ⟨hb1, r, rfl, hr⟩
  have HP : Hid (Jo w j l w1) := hP.below hb1
  clear hP hb1
  obtain ⟨p0, p1, p2, p3, p4, p5, p6⟩ := jC_cells HP.out.p
  cases r with
  | false =>
    have HA : Hid (-1 = leftAns j) := by show _ = _; unfold leftAns; rw [if_neg fun h => by have := hr.2 h; cases this]
    clear hr
    go_wp2
    go_ret
    exact ⟨HP.out.bel, -1, rfl, HA.out⟩
  | true =>
    have HA : Hid ((j.d.ln : Int) - (j.q : Int) = leftAns j) := by show _ = _; unfold leftAns; rw [if_pos (hr.1 rfl)]
    have hw : wrap64 ((j.d.ln : Int) - (j.q : Int)) = (j.d.ln : Int) - (j.q : Int) := by unfold wrap64; omega
    clear hr
    go_wp2
    go_ret
    exact ⟨HP.out.bel, _, rfl, HA.out⟩

/-- What JobTree answers. -/
def TreePost (w : World) (j : Jb) (e : Ending) (w' : World) : Prop := Below w.heap.size w w' ∧ ∃ l, e = .returned (.tuple #[tV (treeAns j) l, .int .i64 (treeCode j)]) ∧ OwnTr w' w.heap.size (treeAns j) l

/-- The boxes of JobTree's. -/
structure Jt (w : World) (j : Jb) (l : JLoc) (W : World) : Prop where
  p : Blk W w.heap.size (jC j l) 38
  r : Blk W (w.heap.size + 1) #[.slice none 0 0, .int .i64 0] 33
  bel : Below w.heap.size w W
  size : w.heap.size + 2 ≤ W.heap.size

theorem Jt.below {w : World} {j : Jb} {l : JLoc} {W W' : World} (h : Jt w j l W) (hb : Below W.heap.size W W') : Jt w j l W' := ⟨h.p.below hb h.p.lt, h.r.below hb h.r.lt, h.bel.trans (hb.mono h.bel.size), Nat.le_trans h.size hb.size⟩

set_option maxHeartbeats 4000000 in
theorem specJobTree_any (j : Jb) (l : JLoc) (w : World) (hJ : JIn w j l) (fj : j.Fits) (hs : j.size ≤ 1048576) :
    Calls Tryz.prog 30 #[jV j l] w (TreePost w j) := by
  unfold jV
  go_enter Tryz.func30, Tryz.ntmps30
  go_wp2_with fail
  refine at_world (F := Jt w j l) ?_ ?_
  · obtain ⟨h0, h1, hb, _⟩ := new2 w (jC j l) 38 #[.slice none 0 0, .int .i64 0] 33
    exact ⟨h0, h1, hb, by simp⟩
  rintro W hP
  refine (specJobLeft_any j l W (hJ.below (Nat.le_refl _) hP.bel) fj hs).mono ?_
  rintro e w1 ⟨hb1, _, rfl, rfl⟩
  have HP : Hid (Jt w j l w1) := hP.below hb1
  clear hP hb1
  obtain ⟨p0, p1, p2, p3, p4, p5, p6⟩ := jC_cells HP.out.p
  have r0 : w1.cell? ⟨w.heap.size + 1, 0, none⟩ = some (.slice none 0 0) := HP.out.r.cell 0
  have r1 : w1.cell? ⟨w.heap.size + 1, 1, none⟩ = some (.int .i64 0) := HP.out.r.cell 1
  have g0 := HP.out.r.frozen 0
  have g1 := HP.out.r.frozen 1
  by_cases hz : leftAns j = 0
  · have hzb : (leftAns j != 0) = false := by simp [hz]
    have HG : Hid (JobGood j ∧ j.q = j.d.ln) := left_zero hz
    have HA : Hid (treeAns j = ⟨j.q, j.e, j.d.date⟩ ∧ treeCode j = 0) := by show _ ∧ _; unfold treeAns treeCode; rw [if_pos hz, if_pos hz]; exact ⟨rfl, rfl⟩
    clear hz
    go_wp2_with fail
    refine (l2Tree_own ⟨j.q, j.e, j.d.date⟩ ⟨l.e, l.f, l.g⟩ w1 (hJ.e.below (Nat.le_refl _) HP.out.bel) (by have := HG.out.1.ln; have := HG.out.2; show j.q ≤ 1000; omega) (by unfold Tr.size; show j.q + sizeTo j.e j.q ≤ _; unfold Jb.size at hs; omega)).mono ?_
    rintro e w2 ⟨k, rfl, hb2, ho2⟩
    unfold tV
    have H2 : Hid (Jt w j l w2 ∧ OwnTr w2 w1.heap.size ⟨j.q, j.e, j.d.date⟩ k) := ⟨HP.out.below hb2, ho2⟩
    have hs1 := HP.out.size
    clear hb2 ho2 p0 p1 p2 p3 p4 p5 p6 r0 r1 g0 g1
    have r0 : w2.cell? ⟨w.heap.size + 1, 0, none⟩ = some (.slice none 0 0) := H2.out.1.r.cell 0
    have r1 : w2.cell? ⟨w.heap.size + 1, 1, none⟩ = some (.int .i64 0) := H2.out.1.r.cell 1
    have g0 := H2.out.1.r.frozen 0
    have g1 := H2.out.1.r.frozen 1
    go_wp2_with fail
    refine end_world (F := fun U => Blk U (w.heap.size + 1) #[.slice k.a j.q k.c, .int .i64 j.d.date] 33 ∧ TreePost w j (.returned (.tuple #[.agg #[.slice k.a j.q k.c, .int .i64 j.d.date], .int .i64 0])) U) ⟨(H2.out.1.r.set 0 _).set 1 _, bel_put (bel_put H2.out.1.bel _ (by omega)) _ (by omega), k, by rw [HA.out.1, HA.out.2]; rfl, by rw [HA.out.1]; exact ((H2.out.2.put _ (by omega)).put _ (by omega)).lower (by omega)⟩ ?_
    clear r0 r1 g0 g1
    rintro U ⟨hr, hE⟩
    have e0 : U.cell? ⟨w.heap.size + 1, 0, none⟩ = some (.slice k.a j.q k.c) := hr.cell 0
    have e1 : U.cell? ⟨w.heap.size + 1, 1, none⟩ = some (.int .i64 j.d.date) := hr.cell 1
    exact bodyPost_ret (v := .tuple #[.agg #[.slice k.a j.q k.c, .int .i64 j.d.date], .int .i64 0]) (by simp [results, Tryz.results30, go_sem, e0, e1]) rfl hE
  · have hzb : (leftAns j != 0) = true := by simp [hz]
    have HA : Hid (treeAns j = trNone ∧ treeCode j = 3) := by show _ ∧ _; unfold treeAns treeCode; rw [if_neg hz, if_neg hz]; exact ⟨rfl, rfl⟩
    clear hz
    go_wp2_with fail
    refine end_world (F := fun U => Blk U (w.heap.size + 1) #[.slice none 0 0, .int .i64 0] 33 ∧ TreePost w j (.returned (.tuple #[.agg #[.slice none 0 0, .int .i64 0], .int .i64 3])) U) ⟨(HP.out.r.set 0 _).set 1 _, bel_put (bel_put HP.out.bel _ (by omega)) _ (by omega), ⟨none, 0, fun _ => ⟨none, 0, none, 0⟩⟩, by rw [HA.out.1, HA.out.2]; rfl, by rw [HA.out.1]; exact OT.start _ _ _ _ _ _⟩ ?_
    clear r0 r1 g0 g1
    rintro U ⟨hr, hE⟩
    have e0 : U.cell? ⟨w.heap.size + 1, 0, none⟩ = some (.slice none 0 0) := hr.cell 0
    have e1 : U.cell? ⟨w.heap.size + 1, 1, none⟩ = some (.int .i64 0) := hr.cell 1
    exact bodyPost_ret (v := .tuple #[.agg #[.slice none 0 0, .int .i64 0], .int .i64 3]) (by simp [results, Tryz.results30, go_sem, e0, e1]) rfl hE
end Go.Proofs.YtakifcobofkheaaGreatDoor

/-
  What TreeSame of the specification answers at two trees.
-/
namespace Go.Proofs.YtakifcobofkheaaGreatDoor
open Go.RowKit
set_option linter.unusedVariables false

/-- Two trees are one. -/
def treeSame (n m : Nat) (D E : Nat → Nd) (now now' : Int) : Bool := (decide (n = m) && sameAll n D E) && (now == now')

/-- What is known within TreeSame. -/
structure TSIn (w : World) (a a' : Option Addr) (n c m c' : Nat) (now now' : Int) (t : TypeId) (W : World) : Prop where
  p : Blk W w.heap.size #[.slice a n c, .int .i64 now] t
  p' : Blk W (w.heap.size + 1) #[.slice a' m c', .int .i64 now'] t
  bel : Below w.heap.size w W

theorem TSIn.below {w : World} {a a' : Option Addr} {n c m c' : Nat} {now now' : Int} {t : TypeId} {W W' : World} (h : TSIn w a a' n c m c' now now' t W) (hb : Below W.heap.size W W') : TSIn w a a' n c m c' now now' t W' :=
  ⟨h.p.below hb h.p.lt, h.p'.below hb h.p'.lt, h.bel.trans (hb.mono (by have := h.p.lt; omega))⟩

end Go.Proofs.YtakifcobofkheaaGreatDoor

/-
  What TreeSame of the program answers at two trees.
-/
namespace Go.Proofs.YtakifcobofkheaaGreatDoor
open Go.RowKit
set_option linter.unusedVariables false

set_option maxHeartbeats 2000000 in
theorem equalFunc_any (a a' : Option Addr) (n c m c' : Nat) (D E : Nat → Nd) (L M : Nat → Loc) (w : World) (hS : IsNds w a n D L) (hT : IsNds w a' m E M) (hf : FitAll n D) (hf' : FitAll m E) (hn : n ≤ maxLen) (hm : m ≤ maxLen) :
    Calls Tryz.prog 113 #[.slice a n c, .slice a' m c', .func (Fn.func 114) #[] #[]] w fun e w' => Below w.heap.size w w' ∧ e = .returned (.bool (decide (n = m) && sameAll n D E)) := by
  unfold maxLen at hn hm
  by_cases hne : n = m
  · subst hne
    have hb : ((n : Int) != (n : Int)) = false := by simp
    go_enter Tryz.func113, Tryz.ntmps113
    go_wp2
    go_loopw [17] (fun i wr => ∃ k : Nat, k ≤ n ∧ i = .int .i64 k ∧ Below w.heap.size w wr ∧ sameAll k D E = true) (fun i _ => n - (intOf i).toNat)
    case atStart => exact ⟨0, Nat.zero_le _, rfl, Below.refl _ _, rfl⟩
    case round =>
      obtain ⟨k, hk, rfl, hbel, heq⟩ := hrel
      by_cases hlt : k < n
      · have hSr := hS.below (Nat.le_refl _) hbel
        have hTr := hT.below (Nat.le_refl _) hbel
        obtain ⟨b, off, rfl, hlt2, hc⟩ := hSr.at hlt
        obtain ⟨b', off', rfl, hlt2', hc'⟩ := hTr.at hlt
        obtain ⟨c0, c1, c2, c3, c4, hI⟩ := hc k hlt
        obtain ⟨d0, d1, d2, d3, d4, hI'⟩ := hc' k hlt
        have hlti : (k : Int) < (n : Int) := by omega
        have HE : Hid (sameAll k D E = true ∧ Below w.heap.size w wr ∧ NdIn wr (D k) (L k) ∧ NdIn wr (E k) (M k)) := ⟨heq, hbel, hI, hI'⟩
        clear hc hc' hSr hTr hbel heq hI hI'
        go_wp2_with fail
        refine at_world (F := New2 wr _ _ _ _) (new2 wr _ _ _ _) ?_
        rintro W ⟨hp, hp', hb', hs⟩
        refine (implNodeSame_any (D k) (E k) (L k) (M k) W (HE.out.2.2.1.below (Nat.le_refl _) hb') (HE.out.2.2.2.below (Nat.le_refl _) hb') (hf k hlt) (hf' k hlt)).mono ?_
        rintro e w1 ⟨hb1, rfl⟩
        have HB : Hid (Below w.heap.size w w1) := HE.out.2.1.trans ((hb'.trans (hb1.mono (by omega))).mono HE.out.2.1.size)
        clear hp hp' hb' hs hb1 c0 c1 c2 c3 c4 d0 d1 d2 d3 d4
        cases hq : (D k).same (E k) with
        | false =>
          have HQ : Hid ((D k).same (E k) = false) := hq
          clear hq
          go_wp2
          go_ret
          exact ⟨HB.out, ret_bool (by rw [← sameAll_not n k D E hlt HQ.out]; simp)⟩
        | true =>
          have HQ : Hid ((D k).same (E k) = true) := hq
          clear hq
          go_wp2
          go_roundw
          case rel => exact ⟨k + 1, by omega, by go_num, HB.out, sameAll_succ k D E HE.out.1 HQ.out⟩
          case measure => simp [intOf]; omega
      · have hkn : k = n := by omega
        have HK : Hid (k = n ∧ Below w.heap.size w wr ∧ sameAll k D E = true) := ⟨hkn, hbel, heq⟩
        clear hkn hbel heq
        go_wp2
        go_ret
        exact ⟨HK.out.2.1, ret_bool (by have := HK.out.2.2; rw [HK.out.1] at this; rw [this]; simp)⟩
  · have hb : ((n : Int) != (m : Int)) = true := by simp; omega
    go_enter Tryz.func113, Tryz.ntmps113
    go_wp2
    go_ret
    exact ⟨Below.refl _ _, ret_bool (by simp [hne])⟩

set_option maxHeartbeats 2000000 in
theorem implTreeSame_any (a a' : Option Addr) (n c m c' : Nat) (now now' : Int) (D E : Nat → Nd) (L M : Nat → Loc) (w : World) (hS : IsNds w a n D L) (hT : IsNds w a' m E M) (hf : FitAll n D) (hf' : FitAll m E) (hn : n ≤ maxLen) (hm : m ≤ maxLen) :
    Calls Tryz.prog 93 #[trV a n c now, trV a' m c' now'] w fun e w' => Below w.heap.size w w' ∧ e = .returned (.bool (treeSame n m D E now now')) := by
  have hn' := hn
  have hm' := hm
  unfold maxLen at hn' hm'
  unfold trV
  cases hnc : (now == now') with
  | false =>
    have HN : Hid (false = treeSame n m D E now now') := by show _ = _; unfold treeSame; rw [hnc, Bool.and_false]
    go_enter Tryz.func93, Tryz.ntmps93
    go_wp2_with fail
    go_ret
    exact ⟨((Below.refl _ _).alloc (Nat.le_refl _) _).alloc (by simp) _, ret_bool HN.out⟩
  | true =>
    go_enter Tryz.func93, Tryz.ntmps93
    go_wp2_with fail
    refine at_world (F := New2 w _ _ _ _) (new2 w _ _ _ _) ?_
    rintro W ⟨hp, hp', hb, hs⟩
    refine (equalFunc_any a a' n c m c' D E L M W (hS.below (Nat.le_refl _) hb) (hT.below (Nat.le_refl _) hb) hf hf' hn hm).mono ?_
    rintro e w1 ⟨hb1, rfl⟩
    have HB : Hid (Below w.heap.size w w1 ∧ (decide (n = m) && sameAll n D E) = treeSame n m D E now now') := ⟨hb.trans (hb1.mono (by omega)), by unfold treeSame; rw [hnc, Bool.and_true]⟩
    clear hp hp' hb hs hb1
    rw [HB.out.2]
    go_wp2
    go_ret
    exact ⟨HB.out.1, rfl⟩
end Go.Proofs.YtakifcobofkheaaGreatDoor

/-
  What treeOfJob, JobOk, JobLeft and JobTree of the program answer.
-/
namespace Go.Proofs.YtakifcobofkheaaGreatDoor
open Go.RowKit Go.Deep
set_option linter.unusedVariables false
set_option linter.unusedSimpArgs false
set_option linter.unnecessarySimpa false

/-- When a job is right, as the program asks it. -/
theorem good_iff {j : Jb} (hz : backCode j.t.n j.t.D j.t.now j.d = 0) (hn : j.d.since = 0 → j.t.n = 0 ∧ j.t.now = 0) : (j.q ≤ j.d.ln ∧ ∀ i, i < j.q → (j.e i).same (oneD (fromN j.t.n j.d) j.t.D j.d i) = true) ↔ JobGood j := by
  rw [JobGood.fromN hn]
  exact ⟨fun h => ⟨hz, h.1, hn, fun i hi => nd_same_sym (h.2 i hi)⟩, fun h => ⟨h.q, fun i hi => nd_same_sym (h.done i hi)⟩⟩

/-- A tree and a truth value, in new memory. -/
def TruePost (w : World) (j : Jb) (e : Ending) (w' : World) : Prop :=
  Below w.heap.size w w' ∧ ∃ (b : Bool) (l : TLoc), e = .returned (.tuple #[tV (if b then backTr j.t j.d else trNone) l, .bool b]) ∧ (b = true ↔ JobGood j) ∧ OwnTr w' w.heap.size (if b then backTr j.t j.d else trNone) l

set_option maxRecDepth 100000 in
set_option maxHeartbeats 8000000 in
theorem treeOfJob_any (j : Jb) (l : JLoc) (w : World) (hE : ErrType w) (hJ : JIn w j l) (fj : j.Fits) (hs : j.t.size + j.d.size ≤ 1048576) :
    Calls Tryz.prog 62 #[jV j l] w (TruePost w j) := by
  unfold jV
  go_enter Tryz.func62, Tryz.ntmps62
  go_wp2_with fail
  refine at_world (F := Jt w j l) ?_ ?_
  · obtain ⟨h0, h1, hb, _⟩ := new2 w (jC j l) 38 #[.slice none 0 0, .int .i64 0] 33
    exact ⟨h0, h1, hb, by simp⟩
  rintro W hP
  refine (implBackOne_law j.t l.t j.d l.d W (hE.bel hP.bel) (hJ.t.below (Nat.le_refl _) hP.bel) (hJ.d.below (Nat.le_refl _) hP.bel) fj.t fj.d hs).mono ?_
  intro e w1 hpost
  obtain ⟨hb1, lr, rfl, hown⟩ := back_out j.t j.d hpost
  unfold tV
  have H1 : Hid (Jt w j l w1 ∧ OwnTr w1 W.heap.size (backTr j.t j.d) lr) := ⟨hP.below hb1, hown⟩
  have hs1 : w.heap.size + 2 ≤ W.heap.size := hP.size
  have hs2 : W.heap.size ≤ w1.heap.size := hb1.size
  clear hP hb1 hpost hown
  have n0 : w.heap.size < w1.heap.size := by omega
  have m0 : w.heap.size ≠ w1.heap.size := by omega
  have n1 : w.heap.size + 1 < w1.heap.size := by omega
  have m1 : w.heap.size + 1 ≠ w1.heap.size := by omega
  obtain ⟨p0, p1, p2, p3, p4, p5, p6⟩ := jC_cells H1.out.1.p
  have r0 : w1.cell? ⟨w.heap.size + 1, 0, none⟩ = some (.slice none 0 0) := H1.out.1.r.cell 0
  have r1 : w1.cell? ⟨w.heap.size + 1, 1, none⟩ = some (.int .i64 0) := H1.out.1.r.cell 1
  have g0 := H1.out.1.r.frozen 0
  have g1 := H1.out.1.r.frozen 1
  have HNO : Hid (∀ W2, Jt w j l W2 → ¬ JobGood j → ∀ U, U = (W2.setCell ⟨w.heap.size + 1, 0, none⟩ (.slice none 0 0)).setCell ⟨w.heap.size + 1, 1, none⟩ (.int .i64 0) → Blk U (w.heap.size + 1) #[.slice none 0 0, .int .i64 0] 33 ∧ TruePost w j (.returned (.tuple #[.agg #[.slice none 0 0, .int .i64 0], .bool false])) U) := fun W2 h hno U e => by
    subst e
    exact ⟨(h.r.set 0 _).set 1 _, bel_put (bel_put h.bel _ (by omega)) _ (by omega), false, ⟨none, 0, fun _ => ⟨none, 0, none, 0⟩⟩, rfl, ⟨fun e => (by cases e), fun e => absurd e hno⟩, OT.start _ _ _ _ _ _⟩
  by_cases hz : backCode j.t.n j.t.D j.t.now j.d = 0
  · have hzb : (backCode j.t.n j.t.D j.t.now j.d != 0) = false := by simp [hz]
    have HZ : Hid (backCode j.t.n j.t.D j.t.now j.d = 0) := hz
    have HSM : Hid (SmTr (backTr j.t j.d)) := back_small j.t j.d fj.t fj.d hs
    have HTR : Hid (backTr j.t j.d = ⟨j.d.ln, oneD (fromN j.t.n j.d) j.t.D j.d, j.d.date⟩) := by show _ = _; unfold backTr; rw [if_pos hz]
    have HV : Hid (∀ U, U = w1.alloc (.cells #[.slice lr.a (backTr j.t j.d).n lr.c, .int .i64 (backTr j.t j.d).now] 33) → Jt w j l U ∧ OwnTr U W.heap.size (backTr j.t j.d) lr ∧ Blk U w1.heap.size #[.slice lr.a (backTr j.t j.d).n lr.c, .int .i64 (backTr j.t j.d).now] 33 ∧ w1.heap.size < U.heap.size) := fun U e => by
      obtain ⟨h0, hb, _⟩ := new1 w1 #[.slice lr.a (backTr j.t j.d).n lr.c, .int .i64 (backTr j.t j.d).now] 33
      rw [← e] at h0 hb
      exact ⟨H1.out.1.below hb, H1.out.2.below hb, h0, h0.lt⟩
    clear hz
    have HEND : Hid (∀ (U : World), (j.d.since = 0 → j.t.n = 0 ∧ j.t.now = 0) → Jt w j l U ∧ OwnTr U W.heap.size (backTr j.t j.d) lr ∧ Blk U w1.heap.size #[.slice lr.a (backTr j.t j.d).n lr.c, .int .i64 (backTr j.t j.d).now] 33 ∧ w1.heap.size < U.heap.size → Calls Tryz.prog 94 #[.agg #[.slice lr.a (backTr j.t j.d).n lr.c, .int .i64 (backTr j.t j.d).now], .slice l.e j.q l.f] U fun e W3 => ∃ b : Bool, e = .returned (.bool b) ∧ (b = true ↔ JobGood j) ∧ Jt w j l W3 ∧ OwnTr W3 W.heap.size (backTr j.t j.d) lr ∧ Blk W3 w1.heap.size #[.slice lr.a (backTr j.t j.d).n lr.c, .int .i64 (backTr j.t j.d).now] 33) := fun U hnn ⟨hj, ho, hv, hl⟩ => by
      refine (doneOf_any (backTr j.t j.d) lr l.e j.q l.f j.e l.g U ho.tIn (hJ.e.below (Nat.le_refl _) hj.bel) HSM.out.fits.nds fj.e (by rw [HTR.out]; exact (ok_head1 (code_zero HZ.out).1).2) fj.q).mono ?_
      rintro e W3 ⟨hb3, b, rfl, hb⟩
      refine ⟨b, rfl, hb.trans ?_, hj.below hb3, ho.below hb3, hv.below hb3 hl⟩
      rw [HTR.out]
      exact good_iff HZ.out hnn
    have HPASS : Hid (∀ W3, Jt w j l W3 ∧ OwnTr W3 W.heap.size (backTr j.t j.d) lr → JobGood j → ∀ U, U = (W3.setCell ⟨w.heap.size + 1, 0, none⟩ (.slice lr.a (backTr j.t j.d).n lr.c)).setCell ⟨w.heap.size + 1, 1, none⟩ (.int .i64 (backTr j.t j.d).now) → Blk U (w.heap.size + 1) #[.slice lr.a (backTr j.t j.d).n lr.c, .int .i64 (backTr j.t j.d).now] 33 ∧ TruePost w j (.returned (.tuple #[.agg #[.slice lr.a (backTr j.t j.d).n lr.c, .int .i64 (backTr j.t j.d).now], .bool true])) U) := fun W3 ⟨hj, ho⟩ hg U e => by
      subst e
      exact ⟨(hj.r.set 0 _).set 1 _, bel_put (bel_put hj.bel _ (by omega)) _ (by omega), true, lr, rfl, ⟨fun _ => hg, fun _ => rfl⟩, ((ho.put _ (by omega)).put _ (by omega)).lower (by omega)⟩
    by_cases hsi : j.d.since = 0
    · have hsb : (j.d.since == 0) = true := by simp [hsi]
      have HSI : Hid (j.d.since = 0) := hsi
      clear hsi
      go_wp2_with fail
      refine at_world (F := fun U => Jt w j l U ∧ OwnTr U W.heap.size (backTr j.t j.d) lr ∧ Blk U w1.heap.size #[.slice lr.a (backTr j.t j.d).n lr.c, .int .i64 (backTr j.t j.d).now] 33 ∧ w1.heap.size < U.heap.size) (HV.out _ rfl) ?_
      generalize w1.heap.size = V at *
      clear H1 HV p0 p1 p2 p3 p4 p5 p6 r0 r1 g0 g1 n0 m0 n1 m1
      rintro W2 ⟨hj2, ho2, hv2, hl2⟩
      refine (implTreeSame_any l.t.a none j.t.n l.t.c 0 0 j.t.now 0 j.t.D j.t.D l.t.L l.t.L W2 (hJ.t.below (Nat.le_refl _) hj2.bel) (Or.inl rfl) fj.t.nds (fun i hi => absurd hi (Nat.not_lt_zero _)) fj.t.n (by unfold maxLen; omega)).mono ?_
      rintro e W3 ⟨hb3, rfl⟩
      have H3 : Hid (Jt w j l W3 ∧ OwnTr W3 W.heap.size (backTr j.t j.d) lr ∧ Blk W3 V #[.slice lr.a (backTr j.t j.d).n lr.c, .int .i64 (backTr j.t j.d).now] 33 ∧ V < W3.heap.size) := ⟨hj2.below hb3, ho2.below hb3, hv2.below hb3 hl2, Nat.lt_of_lt_of_le hl2 hb3.size⟩
      clear hj2 ho2 hv2 hl2 hb3
      cases hts : treeSame j.t.n 0 j.t.D j.t.D j.t.now 0 with
      | false =>
        have HN : Hid (¬ JobGood j) := fun h => by
          obtain ⟨e1, e2⟩ := h.none HSI.out
          have : treeSame j.t.n 0 j.t.D j.t.D j.t.now 0 = true := by unfold treeSame; rw [e1, e2]; simp [sameAll]
          rw [hts] at this
          cases this
        have HE : Hid _ := HNO.out W3 H3.out.1 HN.out
        clear hts
        have r0 : W3.cell? ⟨w.heap.size + 1, 0, none⟩ = some (.slice none 0 0) := H3.out.1.r.cell 0
        have r1 : W3.cell? ⟨w.heap.size + 1, 1, none⟩ = some (.int .i64 0) := H3.out.1.r.cell 1
        have g0 := H3.out.1.r.frozen 0
        have g1 := H3.out.1.r.frozen 1
        go_wp2_with fail
        refine end_world (F := fun U => Blk U (w.heap.size + 1) #[.slice none 0 0, .int .i64 0] 33 ∧ TruePost w j (.returned (.tuple #[.agg #[.slice none 0 0, .int .i64 0], .bool false])) U) (HE.out _ rfl) ?_
        clear HE r0 r1 g0 g1
        rintro U ⟨hr, hE⟩
        have e0 : U.cell? ⟨w.heap.size + 1, 0, none⟩ = some (.slice none 0 0) := hr.cell 0
        have e1 : U.cell? ⟨w.heap.size + 1, 1, none⟩ = some (.int .i64 0) := hr.cell 1
        exact bodyPost_ret (v := .tuple #[.agg #[.slice none 0 0, .int .i64 0], .bool false]) (by simp [results, Tryz.results62, go_sem, e0, e1]) rfl hE
      | true =>
        have HNN : Hid (j.d.since = 0 → j.t.n = 0 ∧ j.t.now = 0) := fun _ => by
          have h := hts
          unfold treeSame at h
          simp only [Bool.and_eq_true, beq_iff_eq, decide_eq_true_eq] at h
          exact ⟨by omega, by omega⟩
        clear hts
        obtain ⟨p0, p1, p2, p3, p4, p5, p6⟩ := jC_cells H3.out.1.p
        have v0 : W3.cell? ⟨V, 0, none⟩ = some (.slice lr.a (backTr j.t j.d).n lr.c) := H3.out.2.2.1.cell 0
        have v1 : W3.cell? ⟨V, 1, none⟩ = some (.int .i64 (backTr j.t j.d).now) := H3.out.2.2.1.cell 1
        go_wp2_with fail
        refine (HEND.out W3 HNN.out H3.out).mono ?_
        rintro e W4 ⟨b, rfl, hb, hj4, ho4, hv4⟩
        have H4 : Hid (Jt w j l W4 ∧ OwnTr W4 W.heap.size (backTr j.t j.d) lr ∧ Blk W4 V #[.slice lr.a (backTr j.t j.d).n lr.c, .int .i64 (backTr j.t j.d).now] 33) := ⟨hj4, ho4, hv4⟩
        clear H3 hj4 ho4 hv4 p0 p1 p2 p3 p4 p5 p6 v0 v1
        have r0 : W4.cell? ⟨w.heap.size + 1, 0, none⟩ = some (.slice none 0 0) := H4.out.1.r.cell 0
        have r1 : W4.cell? ⟨w.heap.size + 1, 1, none⟩ = some (.int .i64 0) := H4.out.1.r.cell 1
        have g0 := H4.out.1.r.frozen 0
        have g1 := H4.out.1.r.frozen 1
        have v0 : W4.cell? ⟨V, 0, none⟩ = some (.slice lr.a (backTr j.t j.d).n lr.c) := H4.out.2.2.cell 0
        have v1 : W4.cell? ⟨V, 1, none⟩ = some (.int .i64 (backTr j.t j.d).now) := H4.out.2.2.cell 1
        cases b with
        | false =>
          have HN : Hid (¬ JobGood j) := fun h => by have := hb.2 h; cases this
          have HE : Hid _ := HNO.out W4 H4.out.1 HN.out
          clear hb
          go_wp2_with fail
          refine end_world (F := fun U => Blk U (w.heap.size + 1) #[.slice none 0 0, .int .i64 0] 33 ∧ TruePost w j (.returned (.tuple #[.agg #[.slice none 0 0, .int .i64 0], .bool false])) U) (HE.out _ rfl) ?_
          clear HE r0 r1 g0 g1 v0 v1
          rintro U ⟨hr, hE⟩
          have e0 : U.cell? ⟨w.heap.size + 1, 0, none⟩ = some (.slice none 0 0) := hr.cell 0
          have e1 : U.cell? ⟨w.heap.size + 1, 1, none⟩ = some (.int .i64 0) := hr.cell 1
          exact bodyPost_ret (v := .tuple #[.agg #[.slice none 0 0, .int .i64 0], .bool false]) (by simp [results, Tryz.results62, go_sem, e0, e1]) rfl hE
        | true =>
          have HE : Hid _ := HPASS.out W4 ⟨H4.out.1, H4.out.2.1⟩ (hb.1 rfl)
          clear hb
          go_wp2_with fail
          refine end_world (F := fun U => Blk U (w.heap.size + 1) #[.slice lr.a (backTr j.t j.d).n lr.c, .int .i64 (backTr j.t j.d).now] 33 ∧ TruePost w j (.returned (.tuple #[.agg #[.slice lr.a (backTr j.t j.d).n lr.c, .int .i64 (backTr j.t j.d).now], .bool true])) U) (HE.out _ rfl) ?_
          clear HE r0 r1 g0 g1 v0 v1
          rintro U ⟨hr, hE⟩
          have e0 : U.cell? ⟨w.heap.size + 1, 0, none⟩ = some (.slice lr.a (backTr j.t j.d).n lr.c) := hr.cell 0
          have e1 : U.cell? ⟨w.heap.size + 1, 1, none⟩ = some (.int .i64 (backTr j.t j.d).now) := hr.cell 1
          exact bodyPost_ret (v := .tuple #[.agg #[.slice lr.a (backTr j.t j.d).n lr.c, .int .i64 (backTr j.t j.d).now], .bool true]) (by simp [results, Tryz.results62, go_sem, e0, e1]) rfl hE
    · have hsb : (j.d.since == 0) = false := by simp [hsi]
      have HNN : Hid (j.d.since = 0 → j.t.n = 0 ∧ j.t.now = 0) := fun h => absurd h hsi
      clear hsi
      go_wp2_with fail
      refine at_world (F := fun U => Jt w j l U ∧ OwnTr U W.heap.size (backTr j.t j.d) lr ∧ Blk U w1.heap.size #[.slice lr.a (backTr j.t j.d).n lr.c, .int .i64 (backTr j.t j.d).now] 33 ∧ w1.heap.size < U.heap.size) (HV.out _ rfl) ?_
      generalize w1.heap.size = V at *
      clear H1 HV p0 p1 p2 p3 p4 p5 p6 r0 r1 g0 g1 n0 m0 n1 m1
      rintro W2 hW2
      refine (HEND.out W2 HNN.out hW2).mono ?_
      clear hW2
      rintro e W4 ⟨b, rfl, hb, hj4, ho4, hv4⟩
      have H4 : Hid (Jt w j l W4 ∧ OwnTr W4 W.heap.size (backTr j.t j.d) lr ∧ Blk W4 V #[.slice lr.a (backTr j.t j.d).n lr.c, .int .i64 (backTr j.t j.d).now] 33) := ⟨hj4, ho4, hv4⟩
      clear hj4 ho4 hv4
      have r0 : W4.cell? ⟨w.heap.size + 1, 0, none⟩ = some (.slice none 0 0) := H4.out.1.r.cell 0
      have r1 : W4.cell? ⟨w.heap.size + 1, 1, none⟩ = some (.int .i64 0) := H4.out.1.r.cell 1
      have g0 := H4.out.1.r.frozen 0
      have g1 := H4.out.1.r.frozen 1
      have v0 : W4.cell? ⟨V, 0, none⟩ = some (.slice lr.a (backTr j.t j.d).n lr.c) := H4.out.2.2.cell 0
      have v1 : W4.cell? ⟨V, 1, none⟩ = some (.int .i64 (backTr j.t j.d).now) := H4.out.2.2.cell 1
      cases b with
      | false =>
        have HN : Hid (¬ JobGood j) := fun h => by have := hb.2 h; cases this
        have HE : Hid _ := HNO.out W4 H4.out.1 HN.out
        clear hb
        go_wp2_with fail
        refine end_world (F := fun U => Blk U (w.heap.size + 1) #[.slice none 0 0, .int .i64 0] 33 ∧ TruePost w j (.returned (.tuple #[.agg #[.slice none 0 0, .int .i64 0], .bool false])) U) (HE.out _ rfl) ?_
        clear HE r0 r1 g0 g1 v0 v1
        rintro U ⟨hr, hE⟩
        have e0 : U.cell? ⟨w.heap.size + 1, 0, none⟩ = some (.slice none 0 0) := hr.cell 0
        have e1 : U.cell? ⟨w.heap.size + 1, 1, none⟩ = some (.int .i64 0) := hr.cell 1
        exact bodyPost_ret (v := .tuple #[.agg #[.slice none 0 0, .int .i64 0], .bool false]) (by simp [results, Tryz.results62, go_sem, e0, e1]) rfl hE
      | true =>
        have HE : Hid _ := HPASS.out W4 ⟨H4.out.1, H4.out.2.1⟩ (hb.1 rfl)
        clear hb
        go_wp2_with fail
        refine end_world (F := fun U => Blk U (w.heap.size + 1) #[.slice lr.a (backTr j.t j.d).n lr.c, .int .i64 (backTr j.t j.d).now] 33 ∧ TruePost w j (.returned (.tuple #[.agg #[.slice lr.a (backTr j.t j.d).n lr.c, .int .i64 (backTr j.t j.d).now], .bool true])) U) (HE.out _ rfl) ?_
        clear HE r0 r1 g0 g1 v0 v1
        rintro U ⟨hr, hE⟩
        have e0 : U.cell? ⟨w.heap.size + 1, 0, none⟩ = some (.slice lr.a (backTr j.t j.d).n lr.c) := hr.cell 0
        have e1 : U.cell? ⟨w.heap.size + 1, 1, none⟩ = some (.int .i64 (backTr j.t j.d).now) := hr.cell 1
        exact bodyPost_ret (v := .tuple #[.agg #[.slice lr.a (backTr j.t j.d).n lr.c, .int .i64 (backTr j.t j.d).now], .bool true]) (by simp [results, Tryz.results62, go_sem, e0, e1]) rfl hE
  · have hzb : (backCode j.t.n j.t.D j.t.now j.d != 0) = true := by simp [hz]
    have HG : Hid (¬ JobGood j) := fun h => hz h.code
    have HE : Hid (∀ U, U = ((w1.setCell ⟨w.heap.size + 1, 0, none⟩ (.slice none 0 0)).setCell ⟨w.heap.size + 1, 1, none⟩ (.int .i64 0)).alloc (.cells #[.slice lr.a (backTr j.t j.d).n lr.c, .int .i64 (backTr j.t j.d).now] 33) → Blk U (w.heap.size + 1) #[.slice none 0 0, .int .i64 0] 33 ∧ TruePost w j (.returned (.tuple #[.agg #[.slice none 0 0, .int .i64 0], .bool false])) U) := fun U e => by
      subst e
      have hb : Below w.heap.size w ((w1.setCell ⟨w.heap.size + 1, 0, none⟩ (.slice none 0 0)).setCell ⟨w.heap.size + 1, 1, none⟩ (.int .i64 0)) := bel_put (bel_put H1.out.1.bel _ (by omega)) _ (by omega)
      exact ⟨((H1.out.1.r.set 0 _).set 1 _).alloc _, hb.alloc hb.size _, false, ⟨none, 0, fun _ => ⟨none, 0, none, 0⟩⟩, rfl, ⟨fun e => (by cases e), fun e => absurd e HG.out⟩, OT.start _ _ _ _ _ _⟩
    clear hz
    go_wp2_with fail
    refine end_world (F := fun U => Blk U (w.heap.size + 1) #[.slice none 0 0, .int .i64 0] 33 ∧ TruePost w j (.returned (.tuple #[.agg #[.slice none 0 0, .int .i64 0], .bool false])) U) (HE.out _ rfl) ?_
    clear HE r0 r1 g0 g1
    rintro U ⟨hr, hE⟩
    have e0 : U.cell? ⟨w.heap.size + 1, 0, none⟩ = some (.slice none 0 0) := hr.cell 0
    have e1 : U.cell? ⟨w.heap.size + 1, 1, none⟩ = some (.int .i64 0) := hr.cell 1
    exact bodyPost_ret (v := .tuple #[.agg #[.slice none 0 0, .int .i64 0], .bool false]) (by simp [results, Tryz.results62, go_sem, e0, e1]) rfl hE

set_option maxHeartbeats 2000000 in
theorem implJobOk_any (j : Jb) (l : JLoc) (w : World) (hE : ErrType w) (hJ : JIn w j l) (fj : j.Fits) (hs : j.t.size + j.d.size ≤ 1048576) :
    Calls Tryz.prog 25 #[jV j l] w (OkPost w j) := by
  unfold jV
  go_enter Tryz.func25, Tryz.ntmps25
  go_wp2_with fail
  refine at_world (F := Jo w j l) (jo1 w j l) ?_
  rintro W hP
  refine (treeOfJob_any j l W (hE.bel hP.bel) (hJ.below (Nat.le_refl _) hP.bel) fj hs).mono ?_
  rintro e w1 ⟨hb1, b, k, rfl, hb, _⟩
  unfold tV
  have HB : Hid (Below w.heap.size w w1 ∧ (b = true ↔ JobGood j)) := ⟨hP.bel.trans (hb1.mono hP.bel.size), hb⟩
  generalize (if b = true then backTr j.t j.d else trNone) = X at *
  clear hP hb1 hb
  go_wp2
  go_ret
  exact ⟨HB.out.1.alloc HB.out.1.size _, b, rfl, HB.out.2⟩

set_option maxHeartbeats 2000000 in
theorem implJobLeft_any (j : Jb) (l : JLoc) (w : World) (hE : ErrType w) (hJ : JIn w j l) (fj : j.Fits) (hs : j.size ≤ 1048576) :
    Calls Tryz.prog 29 #[jV j l] w (LeftPost w j) := by
  have hqm := fj.q
  have hlm := fj.d.ln
  unfold maxLen at hqm hlm
  have hsz : j.t.size + j.d.size ≤ 1048576 := by unfold Jb.size at hs; omega
  unfold jV
  go_enter Tryz.func29, Tryz.ntmps29
  go_wp2_with fail
  refine at_world (F := Jo w j l) (jo1 w j l) ?_
  rintro W hP
  refine (implJobOk_any j l W (hE.bel hP.bel) (hJ.below (Nat.le_refl _) hP.bel) fj hsz).mono ?_
  rintro e w1 ⟨hb1, r, rfl, hr⟩
  have HP : Hid (Jo w j l w1) := hP.below hb1
  clear hP hb1
  obtain ⟨p0, p1, p2, p3, p4, p5, p6⟩ := jC_cells HP.out.p
  cases r with
  | false =>
    have HA : Hid (-1 = leftAns j) := by show _ = _; unfold leftAns; rw [if_neg fun h => by have := hr.2 h; cases this]
    clear hr
    go_wp2
    go_ret
    exact ⟨HP.out.bel, -1, rfl, HA.out⟩
  | true =>
    have HA : Hid ((j.d.ln : Int) - (j.q : Int) = leftAns j) := by show _ = _; unfold leftAns; rw [if_pos (hr.1 rfl)]
    have hw : wrap64 ((j.d.ln : Int) - (j.q : Int)) = (j.d.ln : Int) - (j.q : Int) := by unfold wrap64; omega
    clear hr
    go_wp2
    go_ret
    exact ⟨HP.out.bel, _, rfl, HA.out⟩

set_option maxHeartbeats 4000000 in
theorem implJobTree_any (j : Jb) (l : JLoc) (w : World) (hE : ErrType w) (hJ : JIn w j l) (fj : j.Fits) (hs : j.size ≤ 1048576) :
    Calls Tryz.prog 31 #[jV j l] w (TreePost w j) := by
  unfold jV
  go_enter Tryz.func31, Tryz.ntmps31
  go_wp2_with fail
  refine at_world (F := Jt w j l) ?_ ?_
  · obtain ⟨h0, h1, hb, _⟩ := new2 w (jC j l) 38 #[.slice none 0 0, .int .i64 0] 33
    exact ⟨h0, h1, hb, by simp⟩
  rintro W hP
  refine (implJobLeft_any j l W (hE.bel hP.bel) (hJ.below (Nat.le_refl _) hP.bel) fj hs).mono ?_
  rintro e w1 ⟨hb1, _, rfl, rfl⟩
  have HP : Hid (Jt w j l w1) := hP.below hb1
  clear hP hb1
  obtain ⟨p0, p1, p2, p3, p4, p5, p6⟩ := jC_cells HP.out.p
  have r0 : w1.cell? ⟨w.heap.size + 1, 0, none⟩ = some (.slice none 0 0) := HP.out.r.cell 0
  have r1 : w1.cell? ⟨w.heap.size + 1, 1, none⟩ = some (.int .i64 0) := HP.out.r.cell 1
  have g0 := HP.out.r.frozen 0
  have g1 := HP.out.r.frozen 1
  by_cases hz : leftAns j = 0
  · have hzb : (leftAns j != 0) = false := by simp [hz]
    have HG : Hid (JobGood j ∧ j.q = j.d.ln) := left_zero hz
    have HA : Hid (treeAns j = ⟨j.q, j.e, j.d.date⟩ ∧ treeCode j = 0) := by show _ ∧ _; unfold treeAns treeCode; rw [if_pos hz, if_pos hz]; exact ⟨rfl, rfl⟩
    clear hz
    go_wp2_with fail
    refine (copyTree_any ⟨j.q, j.e, j.d.date⟩ ⟨l.e, l.f, l.g⟩ w1 (hJ.e.below (Nat.le_refl _) HP.out.bel) (by have := HG.out.1.ln; have := HG.out.2; show j.q ≤ 1000; omega) (by unfold Tr.size; show j.q + sizeTo j.e j.q ≤ _; unfold Jb.size at hs; omega)).mono ?_
    rintro e w2 ⟨k, rfl, hb2, ho2⟩
    unfold tV
    have H2 : Hid (Jt w j l w2 ∧ OwnTr w2 w1.heap.size ⟨j.q, j.e, j.d.date⟩ k) := ⟨HP.out.below hb2, ho2⟩
    have hs1 := HP.out.size
    clear hb2 ho2 p0 p1 p2 p3 p4 p5 p6 r0 r1 g0 g1
    have r0 : w2.cell? ⟨w.heap.size + 1, 0, none⟩ = some (.slice none 0 0) := H2.out.1.r.cell 0
    have r1 : w2.cell? ⟨w.heap.size + 1, 1, none⟩ = some (.int .i64 0) := H2.out.1.r.cell 1
    have g0 := H2.out.1.r.frozen 0
    have g1 := H2.out.1.r.frozen 1
    go_wp2_with fail
    refine end_world (F := fun U => Blk U (w.heap.size + 1) #[.slice k.a j.q k.c, .int .i64 j.d.date] 33 ∧ TreePost w j (.returned (.tuple #[.agg #[.slice k.a j.q k.c, .int .i64 j.d.date], .int .i64 0])) U) ⟨(H2.out.1.r.set 0 _).set 1 _, bel_put (bel_put H2.out.1.bel _ (by omega)) _ (by omega), k, by rw [HA.out.1, HA.out.2]; rfl, by rw [HA.out.1]; exact ((H2.out.2.put _ (by omega)).put _ (by omega)).lower (by omega)⟩ ?_
    clear r0 r1 g0 g1
    rintro U ⟨hr, hE⟩
    have e0 : U.cell? ⟨w.heap.size + 1, 0, none⟩ = some (.slice k.a j.q k.c) := hr.cell 0
    have e1 : U.cell? ⟨w.heap.size + 1, 1, none⟩ = some (.int .i64 j.d.date) := hr.cell 1
    exact bodyPost_ret (v := .tuple #[.agg #[.slice k.a j.q k.c, .int .i64 j.d.date], .int .i64 0]) (by simp [results, Tryz.results31, go_sem, e0, e1]) rfl hE
  · have hzb : (leftAns j != 0) = true := by simp [hz]
    have HA : Hid (treeAns j = trNone ∧ treeCode j = 3) := by show _ ∧ _; unfold treeAns treeCode; rw [if_neg hz, if_neg hz]; exact ⟨rfl, rfl⟩
    clear hz
    go_wp2_with fail
    refine end_world (F := fun U => Blk U (w.heap.size + 1) #[.slice none 0 0, .int .i64 0] 33 ∧ TreePost w j (.returned (.tuple #[.agg #[.slice none 0 0, .int .i64 0], .int .i64 3])) U) ⟨(HP.out.r.set 0 _).set 1 _, bel_put (bel_put HP.out.bel _ (by omega)) _ (by omega), ⟨none, 0, fun _ => ⟨none, 0, none, 0⟩⟩, by rw [HA.out.1, HA.out.2]; rfl, by rw [HA.out.1]; exact OT.start _ _ _ _ _ _⟩ ?_
    clear r0 r1 g0 g1
    rintro U ⟨hr, hE⟩
    have e0 : U.cell? ⟨w.heap.size + 1, 0, none⟩ = some (.slice none 0 0) := hr.cell 0
    have e1 : U.cell? ⟨w.heap.size + 1, 1, none⟩ = some (.int .i64 0) := hr.cell 1
    exact bodyPost_ret (v := .tuple #[.agg #[.slice none 0 0, .int .i64 0], .int .i64 3]) (by simp [results, Tryz.results31, go_sem, e0, e1]) rfl hE
end Go.Proofs.YtakifcobofkheaaGreatDoor

/-
  What JobOk, JobLeft and JobTree answer: one answer for both.
-/
namespace Go.Proofs.YtakifcobofkheaaGreatDoor
open Go.RowKit Go.Deep
set_option linter.unusedVariables false

theorem ok_ans (j : Jb) (fj : j.Fits) (hs : j.size ≤ 1048576) : ∃ z : Bool, ∀ w e w', OkPost w j e w' → Below w.heap.size w w' ∧ e = .returned (.bool z) := by
  by_cases h : JobGood j
  · refine ⟨true, fun w e w' ⟨hb, r, he, hr⟩ => ⟨hb, ?_⟩⟩
    rw [he, hr.2 h]
  · refine ⟨false, fun w e w' ⟨hb, r, he, hr⟩ => ⟨hb, ?_⟩⟩
    cases r with
    | false => exact he
    | true => exact absurd (hr.1 rfl) h

theorem left_ans (j : Jb) (fj : j.Fits) (hs : j.size ≤ 1048576) : ∃ z : Int, ∀ w e w', LeftPost w j e w' → Below w.heap.size w w' ∧ e = .returned (.int .i64 z) :=
  ⟨leftAns j, fun w e w' ⟨hb, r, he, hr⟩ => ⟨hb, by rw [he, hr]⟩⟩

theorem tree_ans (j : Jb) (fj : j.Fits) (hs : j.size ≤ 1048576) : ∃ (r : Tr) (z : Int), SmTr r ∧ ∀ w e w', TreePost w j e w' → Below w.heap.size w w' ∧ ∃ l, e = .returned (.tuple #[tV r l, .int .i64 z]) ∧ OwnTr w' w.heap.size r l :=
  ⟨treeAns j, treeCode j, treeAns_small fj hs, fun _ _ _ h => h⟩

theorem specJobOk_law (j : Jb) (l : JLoc) (w : World) (hJ : JIn w j l) (fj : j.Fits) (hs : j.size ≤ 1048576) : Calls Tryz.prog 23 #[jV j l] w (OkPost w j) := specJobOk_any j l w hJ fj (by unfold Jb.size at hs; omega)
theorem implJobOk_law (j : Jb) (l : JLoc) (w : World) (hE : ErrType w) (hJ : JIn w j l) (fj : j.Fits) (hs : j.size ≤ 1048576) : Calls Tryz.prog 25 #[jV j l] w (OkPost w j) := implJobOk_any j l w hE hJ fj (by unfold Jb.size at hs; omega)
theorem specJobLeft_law (j : Jb) (l : JLoc) (w : World) (hJ : JIn w j l) (fj : j.Fits) (hs : j.size ≤ 1048576) : Calls Tryz.prog 28 #[jV j l] w (LeftPost w j) := specJobLeft_any j l w hJ fj hs
theorem implJobLeft_law (j : Jb) (l : JLoc) (w : World) (hE : ErrType w) (hJ : JIn w j l) (fj : j.Fits) (hs : j.size ≤ 1048576) : Calls Tryz.prog 29 #[jV j l] w (LeftPost w j) := implJobLeft_any j l w hE hJ fj hs
theorem specJobTree_law (j : Jb) (l : JLoc) (w : World) (hJ : JIn w j l) (fj : j.Fits) (hs : j.size ≤ 1048576) : Calls Tryz.prog 30 #[jV j l] w (TreePost w j) := specJobTree_any j l w hJ fj hs
theorem implJobTree_law (j : Jb) (l : JLoc) (w : World) (hE : ErrType w) (hJ : JIn w j l) (fj : j.Fits) (hs : j.size ≤ 1048576) : Calls Tryz.prog 31 #[jV j l] w (TreePost w j) := implJobTree_any j l w hE hJ fj hs
end Go.Proofs.YtakifcobofkheaaGreatDoor

/-
  FnExactJobTree, walked.
-/
namespace Go.Proofs.YtakifcobofkheaaGreatDoor
open Go.RowKit Go.Deep
set_option linter.unusedVariables false
set_option linter.unusedSimpArgs false
set_option linter.unnecessarySimpa false

/-- The boxes of the arguments. -/
structure AFJobTree (w : World) (x0 : Jb) (l0 : JLoc) (W : World) : Prop where
  p0 : Blk W (w.heap.size) (jC x0 l0) 51
  bel : Below w.heap.size w W

section
variable {w : World} {x0 : Jb} {l0 : JLoc} {W W' : World}

theorem AFJobTree.below (h : AFJobTree w x0 l0 W) (hb : Below W.heap.size W W') : AFJobTree w x0 l0 W' := ⟨h.p0.below hb h.p0.lt, h.bel.trans (hb.mono h.bel.size)⟩

theorem AFJobTree.cells (h : AFJobTree w x0 l0 W) : W.cell? ⟨w.heap.size, 0, none⟩ = some (.slice l0.t.a x0.t.n l0.t.c) ∧ W.cell? ⟨w.heap.size, 1, none⟩ = some (.int .i64 x0.t.now) ∧ W.cell? ⟨w.heap.size, 2, none⟩ = some (.int .i64 x0.d.since) ∧ W.cell? ⟨w.heap.size, 3, none⟩ = some (.int .i64 x0.d.date) ∧ W.cell? ⟨w.heap.size, 4, none⟩ = some (.slice l0.d.lA x0.d.ln l0.d.lc) ∧ W.cell? ⟨w.heap.size, 5, none⟩ = some (.slice l0.d.iA x0.d.m l0.d.ic) ∧ W.cell? ⟨w.heap.size, 6, none⟩ = some (.slice l0.e x0.q l0.f) := jC_cells h.p0
end

/-- What is known behind the calls. -/
structure FBJobTree (w w3 : World) (x0 : Jb) (l0 lx0 : JLoc) (r : Tr) (lr lg : TLoc) (V b0 bG : Nat) (W : World) : Prop where
  ds : AFJobTree w x0 l0 W
  base : Below w3.heap.size w3 W
  v : Blk W V (tC r lr) 33
  y0 : Blk W b0 (jC x0 lx0) 38
  g : Blk W bG (tC r lg) 33
  wl : w.heap.size < w3.heap.size
  vl : V < w3.heap.size
  o0 : w3.heap.size ≤ b0
  oG : b0 < bG

section
variable {w w3 : World} {x0 : Jb} {l0 lx0 : JLoc} {r : Tr} {lr lg : TLoc} {V b0 bG : Nat} {W W' : World}
theorem FBJobTree.below (h : FBJobTree w w3 x0 l0 lx0 r lr lg V b0 bG W) (hb : Below W.heap.size W W') : FBJobTree w w3 x0 l0 lx0 r lr lg V b0 bG W' :=
  ⟨h.ds.below hb, h.base.trans (hb.mono h.base.size), h.v.below hb h.v.lt, h.y0.below hb h.y0.lt, h.g.below hb h.g.lt, h.wl, h.vl, h.o0, h.oG⟩

theorem FBJobTree.drew (h : FBJobTree w w3 x0 l0 lx0 r lr lg V b0 bG W) (q : Nat) : FBJobTree w w3 x0 l0 lx0 r lr lg V b0 bG (W.drewN q) := h.below (below_drewN (Below.refl _ _) q)

theorem FBJobTree.fr (h : FBJobTree w w3 x0 l0 lx0 r lr lg V b0 bG W) {B H : Nat} (hb : Fr B H W W') (hB : w3.heap.size ≤ B) (h0 : b0 < B ∨ H ≤ b0) (hG : bG < B ∨ H ≤ bG) : FBJobTree w w3 x0 l0 lx0 r lr lg V b0 bG W' := by
  have hwl := h.wl
  have hvl := h.vl
  have key : ∀ {q : Nat} {cs : Array Value} {t : TypeId}, Blk W q cs t → q < B ∨ H ≤ q → Blk W' q cs t := fun hq e => hq.of_block (by
    rcases e with e | e
    · exact hb.bel.block _ e
    · exact hb.far _ e hq.lt)
  exact ⟨⟨key h.ds.p0 (Or.inl (by omega)), h.ds.bel.trans (hb.bel.mono (by omega))⟩, h.base.trans (hb.bel.mono hB), key h.v (Or.inl (by omega)), key h.y0 h0, key h.g hG, h.wl, h.vl, h.o0, h.oG⟩
end

set_option maxRecDepth 100000 in
set_option maxHeartbeats 32000000 in
theorem lawJobTree (x0 : Jb) (l0 : JLoc) (w : World) (hE : ErrType w) (hI0 : JIn w x0 l0) (hf0 : x0.Fits) :
    Calls Tryz.prog 7 #[jV x0 l0] w fun r w' => r = .returned (.bool true) ∧ Below w.heap.size w w' := by
  unfold jV
  go_enter Tryz.func7, Tryz.ntmps7
  go_wp2_with fail
  refine at_world (F := AFJobTree w x0 l0) ?_ ?_
  · exact ⟨(new1 w _ _).b0, (new1 w _ _).bel⟩
  rintro W hN
  refine (szJb x0 l0 _ W (hI0.below (Nat.le_refl _) hN.bel) hf0 (by omega) (by omega)).mono ?_
  rintro r0 ws0 ⟨hbs0, rr0, rfl, hra0, hrb0⟩
  have hN0 := hN.below hbs0
  clear hbs0 hN
  by_cases hrc0 : rr0 < 0
  · have hrd0 : decide (rr0 < 0) = true := by simp; omega
    have HB : Hid (Below w.heap.size w ws0) := hN0.bel
    clear hN0 hrb0
    go_wp2
    go_ret
    exact ⟨rfl, HB.out⟩
  · have hrd0 : decide (rr0 < 0) = false := by simp; omega
    have hsz0 := hrb0 (by omega)
    have HSZ : Hid (x0.size ≤ 1048576) := by show _ ≤ _; omega
    have HSZ0 : Hid (x0.size ≤ 1048576) := by show _ ≤ _; omega
    have H2 : Hid (AFJobTree w x0 l0 ws0) := hN0
    obtain ⟨r, z, hsm, hans⟩ := tree_ans x0 hf0 HSZ.out
    have HANS : Hid _ := hans
    have HSM : Hid (SmTr r) := hsm
    clear hN0 hrb0 hsz0 hans hsm
    obtain ⟨u0, u1, u2, u3, u4, u5, u6⟩ := H2.out.cells
    go_wp2_with fail
    refine (toJb x0 l0 ws0 (hI0.below (Nat.le_refl _) H2.out.bel) HSZ0.out).mono ?_
    rintro e wq1p ⟨lq0, rfl, hbc, hoc⟩
    unfold jV
    have HQ1p : Hid (AFJobTree w x0 l0 wq1p ∧ Below ws0.heap.size ws0 wq1p ∧ JIn wq1p x0 lq0) := ⟨H2.out.below hbc, hbc, hoc.tIn⟩
    clear hbc hoc u0 u1 u2 u3 u4 u5 u6
    go_wp2_with fail
    refine (specJobTree_law x0 lq0 wq1p HQ1p.out.2.2 hf0 HSZ.out).mono ?_
    intro e wq2p hpost
    obtain ⟨hbc, lr, rfl, ho⟩ := HANS.out _ _ _ hpost
    unfold tV
    have HQ2p : Hid (AFJobTree w x0 l0 wq2p ∧ Below ws0.heap.size ws0 wq2p ∧ OwnTr wq2p wq1p.heap.size r lr) := ⟨HQ1p.out.1.below hbc, HQ1p.out.2.1.trans (hbc.mono HQ1p.out.2.1.size), ho⟩
    clear hbc ho hpost HQ1p
    have hq2lt : w.heap.size < wq2p.heap.size := HQ2p.out.1.p0.lt
    obtain ⟨u0, u1, u2, u3, u4, u5, u6⟩ := HQ2p.out.1.cells
    go_wp2_with fail
    clear u0 u1 u2 u3 u4 u5 u6
    refine at_world (F := fun U => Below ws0.heap.size ws0 U ∧ Blk U wq2p.heap.size (tC r lr) 33 ∧ TIn U r lr ∧ ws0.heap.size ≤ wq2p.heap.size) ?_ ?_
    · have hb1 := (new1 wq2p (tC r lr) 33).bel
      have hv1 := (new1 wq2p (tC r lr) 33).b0
      exact ⟨HQ2p.out.2.1.trans (hb1.mono HQ2p.out.2.1.size), hv1, HQ2p.out.2.2.tIn.below (Nat.le_refl _) hb1, HQ2p.out.2.1.size⟩
    · generalize wq2p.heap.size = V
      clear HQ2p
      intro W3 h3
      obtain ⟨hb3, hv3, hi3, hVge⟩ := h3
      have H3 : Hid (AFJobTree w x0 l0 W3 ∧ Blk W3 V (tC r lr) 33) := ⟨H2.out.below hb3, hv3⟩
      have HI3 : Hid (TIn W3 r lr) := hi3
      have hVl := hv3.lt
      have hwl : w.heap.size < W3.heap.size := H3.out.1.p0.lt
      clear hb3 hv3 hi3 H2 hVge
      obtain ⟨u0, u1, u2, u3, u4, u5, u6⟩ := H3.out.1.cells
      refine (toJb x0 l0 W3 (hI0.below (Nat.le_refl _) H3.out.1.bel) HSZ0.out).mono ?_
      rintro e wc0 ⟨lx0, rfl, hbc, hoc⟩
      unfold jV
      have HC0 : Hid (AFJobTree w x0 l0 wc0 ∧ Below W3.heap.size W3 wc0 ∧ OwnJb wc0 W3.heap.size x0 lx0) := ⟨H3.out.1.below hbc, hbc, hoc⟩
      have HT0 : Hid (TopJb x0 lx0 wc0.heap.size) := hoc.top
      have hlc0 : W3.heap.size ≤ wc0.heap.size := hbc.size
      have hbx0_0 : w.heap.size < wc0.heap.size := by omega
      clear hbc hoc u0 u1 u2 u3 u4 u5 u6
      go_wp2_with fail
      refine at_world (F := New1 wc0 (jC x0 lx0) 38) (new1 wc0 _ _) ?_
      rintro WG ⟨hvd, hbd, hsd⟩
      refine (implJobTree_law x0 lx0 WG (hE.bel (HC0.out.1.bel.trans (hbd.mono HC0.out.1.bel.size))) (HC0.out.2.2.below hbd).tIn hf0 HSZ.out).mono ?_
      intro e wg hpost
      obtain ⟨hbc, lg, rfl, hog⟩ := HANS.out _ _ _ hpost
      unfold tV
      have hbw : Below wc0.heap.size wc0 wg := hbd.trans (hbc.mono (by omega))
      have hb3 : Below W3.heap.size W3 wg := HC0.out.2.1.trans (hbw.mono (by omega))
      have HTG : Hid (TopTr r lg wg.heap.size) := hog.top
      have hlg : wc0.heap.size < wg.heap.size := by have := hbc.size; omega
      have hVg : V < wg.heap.size := by omega
      have hVn : V ≠ wg.heap.size := by omega
      have hseG : wc0.heap.size < WG.heap.size := by omega
      have hseH : WG.heap.size ≤ wg.heap.size := hbc.size
      have HG : Hid (AFJobTree w x0 l0 wg ∧ Below W3.heap.size W3 wg ∧ Blk wg V (tC r lr) 33 ∧ OwnJb wg W3.heap.size x0 lx0 ∧ Blk wg wc0.heap.size (jC x0 lx0) 38 ∧ OwnTr wg WG.heap.size r lg) := ⟨HC0.out.1.below hbw, hb3, H3.out.2.below hb3 hVl, HC0.out.2.2.below hbw, hvd.below hbc (by omega), hog⟩
      clear hvd hbd hsd hbc hog hbw hb3 hpost HC0 
      have hne : (z != z) = false := by simp
      obtain ⟨z0, z1⟩ := tC_cells HG.out.2.2.1
      go_wp2_with fail
      clear z0 z1
      have HF9 : Hid (∀ W9, W9 = wg.alloc (.cells (tC r lg) 33) → FBJobTree w W3 x0 l0 lx0 r lr lg V wc0.heap.size wg.heap.size W9 ∧ OwnJb W9 W3.heap.size x0 lx0 ∧ OwnTr W9 WG.heap.size r lg) := fun W9 e => by
        obtain ⟨hvG, hb9, hs9⟩ := new1 wg (tC r lg) 33
        rw [← e] at hvG hb9
        obtain ⟨e1, e2, e3, o0, y0, eg⟩ := HG.out
        exact ⟨⟨e1.below hb9, e2.trans (hb9.mono (by omega)), e3.below hb9 hVg, y0.below hb9 y0.lt, hvG, by omega, hVl, by omega, by omega⟩, o0.below hb9, eg.below hb9⟩
      refine at_world (F := fun W9 => FBJobTree w W3 x0 l0 lx0 r lr lg V wc0.heap.size wg.heap.size W9 ∧ OwnJb W9 W3.heap.size x0 lx0 ∧ OwnTr W9 WG.heap.size r lg) (HF9.out _ rfl) ?_
      clear HF9 HG H3
      rintro W9 ⟨hF9, hx0, hg9⟩
      refine (eqTr r r lg lr W9 hg9.tIn (HI3.out.below (Nat.le_refl _) hF9.base) HSM.out.fits HSM.out.fits).mono ?_
      rintro e v0 ⟨hb, rfl⟩
      rw [Tr.same_self]
      have HA0 : Hid (FBJobTree w W3 x0 l0 lx0 r lr lg V wc0.heap.size wg.heap.size v0 ∧ OwnJb v0 W3.heap.size x0 lx0 ∧ OwnTr v0 WG.heap.size r lg) := ⟨hF9.below hb, hx0.below hb, hg9.below hb⟩
      clear hF9 hx0 hg9 hb
      obtain ⟨u0, u1, u2, u3, u4, u5, u6⟩ := HA0.out.1.ds.cells
      obtain ⟨xx0, xx1, xx2, xx3, xx4, xx5, xx6⟩ := jC_cells HA0.out.1.y0
      go_wp2_with fail
      apply wp_cn1 (X := JLoc) (fun _ W => FBJobTree w W3 x0 l0 lx0 r lr lg V wc0.heap.size wg.heap.size W ∧ OwnJb W W3.heap.size x0 lx0 ∧ OwnTr W WG.heap.size r lg)
      · intro key
        have KEY : Hid _ := key
        clear key
        go_region_with (first
          | (go_at_call 24
             refine (toJb x0 l0 (v0.drewN 1) (hI0.below (Nat.le_refl _) (HA0.out.1.drew 1).ds.bel) HSZ0.out).mono ?_
             rintro e wr0 ⟨lw0, rfl, hbr, hor⟩
             unfold jV
             have hFr := (HA0.out.1.drew 1).below hbr
             have hXr := (HA0.out.2.1.below (below_drewN (Below.refl _ _) 1)).below hbr
             obtain ⟨yy0, yy1, yy2, yy3, yy4, yy5, yy6⟩ := jC_cells hFr.y0)
          | (go_at_call 15
             refine (eqJb x0 x0 lx0 lw0 wr0 hXr.tIn hor.tIn hf0 hf0).mono ?_
             rintro e we0 ⟨hbe, rfl⟩
             rw [Jb.same_self]))
        all_goals exact KEY.out lw0 we0 ⟨hFr.below hbe, hXr.below hbe, ((HA0.out.2.2.below (below_drewN (Below.refl _ _) 1)).below hbr).below hbe⟩
      · intro lw0 v1 hF
        have HA1 : Hid (FBJobTree w W3 x0 l0 lx0 r lr lg V wc0.heap.size wg.heap.size v1 ∧ OwnJb v1 W3.heap.size x0 lx0 ∧ OwnTr v1 WG.heap.size r lg) := hF
        clear hF HA0 u0 u1 u2 u3 u4 u5 u6 xx0 xx1 xx2 xx3 xx4 xx5 xx6
        have hka0 := (kJb_le (Jb.mid HSZ0.out) (1)).1
        have hkb0 := kJb_ge x0 (1)
        obtain ⟨xx0, xx1, xx2, xx3, xx4, xx5, xx6⟩ := jC_cells HA1.out.1.y0
        go_wp2_with fail
        refine (markJb x0 lx0 1 W3.heap.size wc0.heap.size v1 HA1.out.2.1 HT0.out (by have := HA1.out.1.base.size; have := HA1.out.1.g.lt; omega) (Jb.mid HSZ0.out) (by omega) (by omega)).mono ?_
        rintro e vm0 ⟨rfl, hfr, _⟩
        have HM0 : Hid (FBJobTree w W3 x0 l0 lx0 r lr lg V wc0.heap.size wg.heap.size vm0 ∧ OwnTr vm0 WG.heap.size r lg) := ⟨HA1.out.1.fr hfr (by omega) (Or.inr (Nat.le_refl _)) (Or.inr (by omega)), HA1.out.2.2.far hfr (by omega)⟩
        clear hfr HA1 xx0 xx1 xx2 xx3 xx4 xx5 xx6
        have hkp0 : 1 ≤ kJb x0 1 := by omega
        generalize kJb x0 1 = kk0 at *
        have hkn : decide (((kk0 : Nat) : Int) < 0) = false := by simp
        obtain ⟨g0, g1⟩ := tC_cells HM0.out.1.g
        obtain ⟨z0, z1⟩ := tC_cells HM0.out.1.v
        go_wp2_with fail
        refine (eqTr r r lg lr vm0 HM0.out.2.tIn (HI3.out.below (Nat.le_refl _) HM0.out.1.base) HSM.out.fits HSM.out.fits).mono ?_
        rintro e va ⟨hb, rfl⟩
        rw [Tr.same_self]
        have HVA : Hid (FBJobTree w W3 x0 l0 lx0 r lr lg V wc0.heap.size wg.heap.size va ∧ OwnTr va WG.heap.size r lg) := ⟨HM0.out.1.below hb, HM0.out.2.below hb⟩
        clear hb HM0 g0 g1 z0 z1
        obtain ⟨g0, g1⟩ := tC_cells HVA.out.1.g
        go_wp2_with fail
        refine (markTr r lg 1 WG.heap.size wg.heap.size va HVA.out.2 HTG.out (by have := HVA.out.1.g.lt; omega) HSM.out.size (by omega) (by omega)).mono ?_
        rintro e vb ⟨rfl, hfr, hmk⟩
        have HVB : Hid (FBJobTree w W3 x0 l0 lx0 r lr lg V wc0.heap.size wg.heap.size vb ∧ MarkedTr vb WG.heap.size r lg 1) := ⟨HVA.out.1.fr hfr (by omega) (Or.inl (by omega)) (Or.inr (Nat.le_refl _)), hmk⟩
        clear hfr hmk HVA g0 g1
        obtain ⟨g0, g1⟩ := tC_cells HVB.out.1.g
        go_wp2_with fail
        refine (heldTr r lg 1 WG.heap.size vb HVB.out.2 HSM.out.size HSM.out.nds (by omega) (by omega)).mono ?_
        rintro e vc ⟨rfl, hb⟩
        have HVC : Hid (FBJobTree w W3 x0 l0 lx0 r lr lg V wc0.heap.size wg.heap.size vc ∧ MarkedTr vc WG.heap.size r lg 1) := ⟨HVB.out.1.below hb, HVB.out.2.below hb⟩
        have HVD : Hid (AFJobTree w x0 l0 vc) := HVC.out.1.ds
        have hkm : decide (((kTr r 1 : Nat) : Int) < 0) = false := by simp
        have hkk : (((kTr r 1 : Nat) : Int) != ((kTr r 1 : Nat) : Int)) = false := by simp
        clear hb HVB g0 g1
        obtain ⟨u0, u1, u2, u3, u4, u5, u6⟩ := HVD.out.cells
        go_wp2_with fail
        refine (toJb x0 l0 vc (hI0.below (Nat.le_refl _) HVD.out.bel) HSZ0.out).mono ?_
        rintro e wq1r ⟨lq0, rfl, hbc, hoc⟩
        unfold jV
        have HQ1r : Hid (AFJobTree w x0 l0 wq1r ∧ Below vc.heap.size vc wq1r ∧ JIn wq1r x0 lq0) := ⟨HVD.out.below hbc, hbc, hoc.tIn⟩
        clear hbc hoc u0 u1 u2 u3 u4 u5 u6
        go_wp2_with fail
        refine (implJobTree_law x0 lq0 wq1r (hE.bel HQ1r.out.1.bel) HQ1r.out.2.2 hf0 HSZ.out).mono ?_
        intro e wq2r hpost
        obtain ⟨hbc, lh, rfl, ho⟩ := HANS.out _ _ _ hpost
        unfold tV
        have HQ2r : Hid (AFJobTree w x0 l0 wq2r ∧ Below vc.heap.size vc wq2r ∧ OwnTr wq2r wq1r.heap.size r lh) := ⟨HQ1r.out.1.below hbc, HQ1r.out.2.1.trans (hbc.mono HQ1r.out.2.1.size), ho⟩
        clear hbc ho hpost HQ1r
        have hq2lt : V < wq2r.heap.size := (HVC.out.1.below HQ2r.out.2.1).v.lt
        obtain ⟨z0, z1⟩ := tC_cells (HVC.out.1.below HQ2r.out.2.1).v
        go_wp2_with fail
        clear z0 z1
        refine at_world (F := fun U => Below vc.heap.size vc U ∧ Blk U wq2r.heap.size (tC r lh) 33 ∧ TIn U r lh ∧ vc.heap.size ≤ wq2r.heap.size) ?_ ?_
        · have hb1 := (new1 wq2r (tC r lh) 33).bel
          have hv1 := (new1 wq2r (tC r lh) 33).b0
          exact ⟨HQ2r.out.2.1.trans (hb1.mono HQ2r.out.2.1.size), hv1, HQ2r.out.2.2.tIn.below (Nat.le_refl _) hb1, HQ2r.out.2.1.size⟩
        generalize wq2r.heap.size = V3
        clear HQ2r
        · intro vd hd
          obtain ⟨hbd, hvd, hid, hVge⟩ := hd
          have hFd := HVC.out.1.below hbd
          obtain ⟨g0, g1⟩ := tC_cells hvd
          obtain ⟨z0, z1⟩ := tC_cells hFd.v
          have HVE : Hid (FBJobTree w W3 x0 l0 lx0 r lr lg V wc0.heap.size wg.heap.size vd ∧ MarkedTr vd WG.heap.size r lg 1 ∧ TIn vd r lh) := ⟨hFd, HVC.out.2.below hbd, hid⟩
          clear hbd hvd hid hFd HVC HVD hVge
          refine (eqTr r r lh lr vd HVE.out.2.2 (HI3.out.below (Nat.le_refl _) HVE.out.1.base) HSM.out.fits HSM.out.fits).mono ?_
          rintro e vf ⟨hb, rfl⟩
          rw [Tr.same_self]
          have HVF : Hid (FBJobTree w W3 x0 l0 lx0 r lr lg V wc0.heap.size wg.heap.size vf ∧ MarkedTr vf WG.heap.size r lg 1) := ⟨HVE.out.1.below hb, HVE.out.2.1.below hb⟩
          clear hb HVE g0 g1 z0 z1
          obtain ⟨g0, g1⟩ := tC_cells HVF.out.1.g
          go_wp2_with fail
          refine (heldTr r lg 1 WG.heap.size vf HVF.out.2 HSM.out.size HSM.out.nds (by omega) (by omega)).mono ?_
          rintro e vh ⟨rfl, hb⟩
          have HBB : Hid (Below w.heap.size w vh) := (HVF.out.1.below hb).ds.bel
          clear hb HVF g0 g1
          go_wp2
          go_ret
          exact ⟨rfl, HBB.out⟩

end Go.Proofs.YtakifcobofkheaaGreatDoor

/-
  FnExactJobTree as it is stated: the row, where the listed variable of the library reads as it is laid.
-/
namespace Go.Proofs.YtakifcobofkheaaGreatDoor.fnExactJobTree
open Go.ChangeShapes Go.WideShapes Go.ChangeAt Go.RowKit Go.Joins
open Go.ChangeMaps (open_string)
set_option linter.unusedVariables false

abbrev laids : List (String × DataW Unit) := [("errors.errorType", Rows.laid_errors_errorType)]

theorem door_met (os : Os) (args : Array Value) : laidMetH Tryz.prog laids ((World.doorLaid Tryz.prog 16 os).forCall (fun _ _ => 0) ⟨#[], args, []⟩).memory :=
  laidMetH_of_parts3 (fuel := 8) (laidMet_of_run' 8 (by kernel_rfl) (by kernel_rfl)) (by kernel_rfl) (by kernel_rfl)

theorem et : Tryz.prog.globalNamed "errors.errorType" = some 0 := by kernel_rfl
theorem rt : (Tryz.prog.cutTypes.find? (·.1 == "internal/reflectlite.rtype")).map (·.2) = some 162 := by kernel_rfl
theorem oneRow : ((List.range 208).filter fun t => Tryz.prog.rowNamed t [101, 114, 114, 111, 114]) = [98] := by kernel_rfl
theorem typesSize : Tryz.prog.types.size = 208 := by kernel_rfl

/-- What the condition gives a walk: the variable's one cell. -/
theorem err_of_laid {W : World} (h : laidMetH Tryz.prog laids W) : ErrType W := by
  have h' : laidMet Tryz.prog [] W ∧ handlesMet Tryz.prog laids W := h
  obtain ⟨name, u, ty, e1, e2, e3, e4, e5⟩ := h'.2 _ (List.mem_singleton.2 rfl)
  have en : name = [101, 114, 114, 111, 114] := (Option.some.inj e1).symm
  subst en
  obtain rfl := Option.some.inj (rt.symm.trans e2)
  have hm : ty ∈ (List.range 208).filter fun t => Tryz.prog.rowNamed t [101, 114, 114, 111, 114] := List.mem_filter.2 ⟨List.mem_range.2 (by rw [← typesSize]; exact e3), e4⟩
  rw [oneRow] at hm
  obtain rfl := List.mem_singleton.1 hm
  have hh : typeHandle Tryz.prog 98 = .pointer (some ⟨1, 98, none⟩) := by kernel_rfl
  rw [hh] at e5
  have := World.var?_cell et e5 0
  unfold ErrType
  simpa using this

set_option maxRecDepth 100000 in
theorem lifted (os : Os) (started : os.Started) (H : Type) (enc : TypeId × Value → H) :
    ReturnsInHanded {} Tryz.checked os 7 .any (fun w args => (Rows.fnExactJobTreeSpec.pre enc Tryz.prog Tryz.f7 [] false w args ∧ laidMetH Tryz.prog laids w) ∧ sizedMet enc Tryz.prog Tryz.f7 (OpenSpec.ofChange Rows.fnExactJobTreeSpec) false w args)
      (Rows.fnExactJobTreeSpec.post enc Tryz.prog Tryz.f7 false true false false) := by
  refine returnsInHanded_of_change_and (C := Tryz.checked) (X := fun w _ => laidMetH Tryz.prog laids w) (fun _ _ _ hh h => h.of_heap hh) own started (by kernel_rfl) Tryz.func7
    (ChangeSpec.witness_shaped (enc := enc) (C := Tryz.checked) (os := os) (X := fun w _ => laidMetH Tryz.prog laids w) false (World.doorLaid Tryz.prog 16 os) #[.agg #[.slice none 0 0, .int .i64 0, .int .i64 0, .int .i64 0, .slice none 0 0, .slice none 0 0, .slice none 0 0]] 8 rfl (World.shaped_of_RefB (by kernel_rfl) (by kernel_rfl)) (by kernel_rfl) (by kernel_rfl) (by kernel_rfl) (door_met os _)) ?_
  intro W base args ds gs before hval0 hW _ _ hL _
  have hval : ∀ (j : Nat) t v, Tryz.f7.params[j]? = some t → args[j]? = some v → Value.okWide Tryz.prog W .any base t v := hval0
  have hW' := hW
  obtain ⟨p, q, hA0, hV, rfl, hfz, hnd⟩ := hW
  have hA : DataW.TrodAll enc Tryz.prog W 0 (fun _ => true) true Tryz.f7.params.toList args.toList ds p := hA0
  rw [Tryz.params7] at hA hval
  obtain ⟨v0, vs0, d0, ds0, p0, q0, hargs, rfl, rfl, h0, r0⟩ := trodAll_cons hA
  obtain ⟨rfl, rfl, rfl⟩ := trodAll_nil r0
  obtain rfl : args = #[v0] := by cases args; simp_all
  obtain ⟨rfl, rfl⟩ := trodVars_none hV
  have k0 := h0
  have lt0 : ∀ x ∈ p0, x.block < W.heap.size := by obtain ⟨m, hm⟩ := k0; exact DataW.trod_lt m _ _ _ hm
  obtain ⟨e0, l0, rfl, hI0, hf0⟩ := openJob (hval 0 51 v0 rfl rfl) h0
  clear hA0 hval0
  refine (lawJobTree e0 l0 W (err_of_laid hL) hI0 hf0).mono fun e W' ⟨he, bel⟩ => ?_
  subst he
  exact ⟨_, rfl, _, _, _, [], _, [], hW', trodAll_mk1 (shut_bool Tryz.underlying4 _), (trodAll_cons_mk (Below.trod laidOut (by kernel_rfl) (of_decide_eq_true (by kernel_rfl)) k0 bel lt0) trodAll_mk0), rfl, bel.frame _, fun h => by cases h⟩

theorem over : Rows.fnExactJobTreeRow.holds Tryz.pinned (OpenSpec.ofChange Rows.fnExactJobTreeSpec) :=
  OpenClaim.holds_of_wide 7 Tryz.f7 rfl rfl rfl rfl rfl rfl rfl ⟨rfl, rfl, rfl, rfl, rfl⟩ rfl rfl rfl rfl rfl (by kernel_rfl) Tryz.func7 (by kernel_rfl)
    (of_decide_eq_true (by kernel_rfl)) (by unfold Func.isWrapper; first | (rw [if_pos (by decide +kernel)]; kernel_rfl) | (rw [if_neg (by decide +kernel)]; exact ⟨rfl, rfl⟩))
    (fun os started H enc _ => lifted os started H enc)
end Go.Proofs.YtakifcobofkheaaGreatDoor.fnExactJobTree

/-
  FnExactJobTree as it is stated: the card.
-/
namespace Go.Proofs.YtakifcobofkheaaGreatDoor
open Go

theorem fnExactJobTree_holds : Rows.FnExactJobTreeCardSaid :=
  Claim7.holds_tied_plain_at .later [] [.handle] true (true, "adbe438fc0a2d7aab89f8cc3728b247fa8877029e5457ace6e42cbf23df0c7b3") true
    fnExactJobTree.over (fun _ h => by cases h) (by kernel_rfl) (fun _ h => by cases h) fnExactJobTree_row_tie rfl ⟨rfl, rfl⟩ (by kernel_rfl) rfl
    (fun f fn hf hfn => by
      obtain rfl : f = 7 := Option.some.inj ((show Tryz.prog.funcNamed "loop.example/cellarage/laws.FnExactJobTree" = some 7 by kernel_rfl).symm.trans hf) |>.symm
      obtain rfl : fn = Tryz.f7 := (Option.some.inj (Tryz.func7.symm.trans hfn)).symm
      exact ⟨by kernel_rfl, fun j t ht => by
        rw [Tryz.params7] at ht
        have hm : t ∈ [51] := by simpa using Array.mem_of_getElem? ht
        have hall : ([51].all fun u => !Tryz.prog.wantsStandIn u) = true := by kernel_rfl
        exact (show Tryz.prog.wantsStandIn t = false by simpa using List.all_eq_true.1 hall t hm)⟩)
    (by kernel_rfl)
end Go.Proofs.YtakifcobofkheaaGreatDoor
