/-
  Texts that the proof needs, laid one behind the other.
-/
import Derived.Test.YtakifcobofkheaaGreatDoorCardJobTreeB4

/-
  What bringOne, treeOrCode and BackOne of the program answer.
-/
namespace Go.Proofs.YtakifcobofkheaaGreatDoor
open Go.RowKit Go.Maps Go.WideMaps Go.Deep
set_option linter.unusedVariables false
set_option linter.unusedSimpArgs false
set_option linter.unnecessarySimpa false

/-- What bringOne answers. -/
def BringPost (w : World) (n : Nat) (D : Nat → Nd) (now : Int) (d : Dp) (e : Ending) (w' : World) : Prop :=
  Below w.heap.size w w' ∧ ((backCode n D now d ≠ 0 ∧ e = .returned (.tuple #[.agg #[.slice none 0 0, .int .i64 0], .iface 125 (.agg #[.int .i64 (backCode n D now d)])])) ∨
    (backCode n D now d = 0 ∧ ∃ b c M, e = .returned (.tuple #[.agg #[.slice b d.ln c, .int .i64 d.date], .nilIface]) ∧ OT w' w.heap.size 0 (fun _ => false) d.ln (fun _ => 0) (oneD (fromN n d) D d) M (.slice none 0 0) (.slice b d.ln c)))

theorem On.bfail {w : World} {a : Option Addr} {n c : Nat} {now : Int} {d : Dp} {l : DLoc} {W : World} (h : On w a n c now d l W) {D : Nat → Nd} {z : Int} (hz : backCode n D now d = z) (h0 : z ≠ 0) :
    Blk ((W.setCell ⟨w.heap.size + 1 + 1, 0, none⟩ (.slice none 0 0)).setCell ⟨w.heap.size + 1 + 1, 1, none⟩ (.int .i64 0)) (w.heap.size + 1 + 1) #[.slice none 0 0, .int .i64 0] 33 ∧
      BringPost w n D now d (.returned (.tuple #[.agg #[.slice none 0 0, .int .i64 0], .iface 125 (.agg #[.int .i64 z])])) ((W.setCell ⟨w.heap.size + 1 + 1, 0, none⟩ (.slice none 0 0)).setCell ⟨w.heap.size + 1 + 1, 1, none⟩ (.int .i64 0)) :=
  ⟨(h.r.set 0 _).set 1 _, bel_put (bel_put h.bel _ (by omega)) _ (by omega), Or.inl ⟨by rw [hz]; exact h0, by rw [hz]⟩⟩

theorem On.bfine {w : World} {a : Option Addr} {n c : Nat} {now : Int} {d : Dp} {l : DLoc} {W : World} (h : On w a n c now d l W) {D : Nat → Nd} (hz : backCode n D now d = 0) {B : Nat} (hB : w.heap.size + 3 ≤ B) {b : Option Addr} {bc : Nat} {M : Nat → Loc} (hot : OT W B 0 (fun _ => false) d.ln (fun _ => 0) (oneD (fromN n d) D d) M (.slice none 0 0) (.slice b d.ln bc)) :
    Blk ((W.setCell ⟨w.heap.size + 1 + 1, 0, none⟩ (.slice b d.ln bc)).setCell ⟨w.heap.size + 1 + 1, 1, none⟩ (.int .i64 d.date)) (w.heap.size + 1 + 1) #[.slice b d.ln bc, .int .i64 d.date] 33 ∧
      BringPost w n D now d (.returned (.tuple #[.agg #[.slice b d.ln bc, .int .i64 d.date], .nilIface])) ((W.setCell ⟨w.heap.size + 1 + 1, 0, none⟩ (.slice b d.ln bc)).setCell ⟨w.heap.size + 1 + 1, 1, none⟩ (.int .i64 d.date)) :=
  ⟨(h.r.set 0 _).set 1 _, bel_put (bel_put h.bel _ (by omega)) _ (by omega), Or.inr ⟨hz, b, bc, M, rfl, OT.lower ((hot.off _ (by omega)).off _ (by omega)) (by omega)⟩⟩

theorem On.grown {w : World} {a : Option Addr} {n c : Nat} {now : Int} {d : Dp} {l : DLoc} {W W' : World} (h : On w a n c now d l W) {q : Nat} (hg : W.grownBy W' (some q)) (hq : w.heap.size + 3 ≤ q) : On w a n c now d l W' :=
  ⟨blk_grown h.p hg (fun e => by have := Option.some.inj e; omega), blk_grown h.q hg (fun e => by have := Option.some.inj e; omega), blk_grown h.r hg (fun e => by have := Option.some.inj e; omega), h.bel.grown hg h.bel.size (fun j e => by have := Option.some.inj e; omega)⟩

/-- What a look into the map tells. -/
theorem one_look {w w4 W : World} {a : Option Addr} {n : Nat} {D : Nat → Nd} {L : Nat → Loc} {d : Dp} {l : DLoc} (hS : IsNds w a n D L) (hD : DpIn w d l) (hw4 : Below w.heap.size w w4)
    (hT : ∀ i, i < n → (D i).nn ≤ 1048576 ∧ (D i).kn ≤ 1048576 ∧ (D i).text.size ≤ 1048576 ∧ ∀ j, j < (D i).nn → ((D i).names j).size ≤ 1048576)
    (hd : ∀ i, i < d.m → (d.nd i).nn ≤ 1048576 ∧ (d.nd i).kn ≤ 1048576 ∧ (d.nd i).text.size ≤ 1048576 ∧ ∀ j, j < (d.nd i).nn → ((d.nd i).names j).size ≤ 1048576) (hok : d.ok = true) (hW : Below w4.heap.size w4 W)
    {bm q : Nat} {M : DataW Value} (hown : W.ownsMap Tryz.prog 3 heldR bm q M) (hK : Knows M (learn (learnT (fun _ => none) D L n) d.ino d.nd l.L d.m)) {k : Nat} (hlv : d.live k = true) (hk : k < 1000) :
    ∃ (x : Nd) (l : Loc) (th : Bool), (Instr.lookup 133 (.map (some bm)) (.int .i64 (k : Int)) true).run Tryz.prog W = .ok (.tuple #[.agg #[.int .i64 x.kind, .string x.text, .slice l.nA x.nn l.nc, .slice l.kA x.kn l.kc, .int .i64 x.turn], .bool th]) W ∧
      ((th = false ∧ oneNd n D d k = none) ∨ (th = true ∧ oneNd n D d k = some x ∧ (∀ W', Below w4.heap.size w4 W' → NdIn W' x l) ∧ x.nn ≤ 1048576 ∧ x.kn ≤ 1048576 ∧ x.text.size ≤ 1048576 ∧ ∀ j, j < x.nn → (x.names j).size ≤ 1048576)) := by
  have hkey : keyOf Tryz.prog 3 (.int .i64 (k : Int)) = some (.int .i64 (k : Int)) := keyOf_int_mk Tryz.underlying3 (WalkArith.wf_i64 (by omega))
  obtain ⟨v, ps, hrun, hv⟩ := hown.look_ok (int_keyed Tryz.underlying3) Tryz.underlying133 (zeroNodeV W) (zd := .held (.agg #[.int .i64 0, .string ByteArray.empty, .slice none 0 0, .slice none 0 0, .int .i64 0])) (zp := []) rfl hkey
  rw [hK.has] at hrun
  have hlx := learn_ix (learnT (fun _ => none) D L n) d.ino d.nd l.L (k : Int) d.m
  have hval : ∀ u, learn (learnT (fun _ => none) D L n) d.ino d.nd l.L d.m (k : Int) = some u → v = u := fun u hu => by
    rw [hK.at_ _ _ hu] at hv
    unfold heldR at hv
    cases hv
    rfl
  cases hob : ixOf d.ino d.m (k : Int) with
  | some j =>
    rw [hob] at hlx
    obtain rfl := hval _ hlx
    rw [hlx] at hrun
    have hj := ixOf_some hob
    refine ⟨d.nd j, l.L j, true, hrun, Or.inr ⟨rfl, by unfold oneNd; rw [hlv, hob]; rfl, fun W' hW' => ?_, hd j hj.1⟩⟩
    obtain ⟨_, _, _, _, hc⟩ := ((hD.items.below (Nat.le_refl _) hw4).below (Nat.le_refl _) hW').at hj.1
    exact (hc j hj.1).2.2.2.2.2.2
  | none =>
    rw [hob] at hlx
    by_cases hkn : k < n ∧ (D k).kind ≠ 0
    · have hlt := learnT_at (fun _ => none) D L (z := k) n hkn.1
      rw [if_pos hkn.2] at hlt
      have hlx' := hlx.trans hlt
      obtain rfl := hval _ hlx'
      rw [hlx'] at hrun
      refine ⟨D k, L k, true, hrun, Or.inr ⟨rfl, by unfold oneNd; rw [hlv, hob]; simp only [if_true]; exact if_pos hkn, fun W' hW' => ?_, hT k hkn.1⟩⟩
      obtain ⟨_, _, _, _, hc⟩ := ((hS.below (Nat.le_refl _) hw4).below (Nat.le_refl _) hW').at hkn.1
      exact (hc k hkn.1).2.2.2.2.2
    · have hlt : learnT (fun _ => none) D L n (k : Int) = none := by
        rcases Nat.lt_or_ge k n with g | g
        · rw [learnT_at (fun _ => none) D L (z := k) n g]
          exact if_neg fun e => hkn ⟨g, e⟩
        · exact learnT_out (fun _ => none) D L (z := k) n g
      have hlx' := hlx.trans hlt
      rw [hlx'] at hrun
      have hno := hK.has (k : Int)
      rw [hlx'] at hno
      rw [atKey_of_not_has hno] at hv
      unfold heldR at hv
      cases hv
      exact ⟨⟨0, ByteArray.empty, 0, fun _ => ByteArray.empty, 0, fun _ => 0, 0⟩, ⟨none, 0, none, 0⟩, false, hrun, Or.inl ⟨rfl, by unfold oneNd; rw [hlv, hob]; simp only [if_true]; exact if_neg hkn⟩⟩

set_option maxRecDepth 100000 in
set_option maxHeartbeats 8000000 in
theorem bringOne_any (a : Option Addr) (n c : Nat) (now : Int) (D : Nat → Nd) (L : Nat → Loc) (d : Dp) (l : DLoc) (w : World) (hS : IsNds w a n D L) (hD : DpIn w d l) (hn : n ≤ maxLen) (hf : FitAll n D) (hfd : d.Fits) (hnow : In64 now) (hsz : sizeTo D n + sizeTo d.nd d.m ≤ 1048576) :
    Calls Tryz.prog 79 #[trV a n c now, dpV d l] w (BringPost w n D now d) := by
  unfold trV dpV
  have hmk := run_makeMapN
  have htS := tr_small (show sizeTo D n ≤ 1048576 by omega)
  have htd := tr_small (show sizeTo d.nd d.m ≤ 1048576 by omega)
  go_enter Tryz.func79, Tryz.ntmps79
  go_wp2_with fail
  refine at_world (F := fun W => On w a n c now d l W ∧ w.heap.size + 3 ≤ W.heap.size) ⟨on3 w a n c now d l, by simp⟩ ?_
  rintro W ⟨hO, hsW⟩
  refine (implDumpOk_any d l W (hD.below (Nat.le_refl _) hO.bel) hfd).mono ?_
  rintro e w1 ⟨hb1, rfl⟩
  have H1 : Hid (On w a n c now d l w1) := hO.below hb1
  have hs1 : w.heap.size + 3 ≤ w1.heap.size := by have := hb1.size; omega
  clear hb1 hO hsW
  obtain ⟨⟨p0, p1⟩, ⟨q0, q1, q2, q3⟩, r0, r1⟩ := H1.out.cells
  have g0 := H1.out.r.frozen 0
  have g1 := H1.out.r.frozen 1
  cases hok : d.ok with
  | false =>
    have HC : Hid (backCode n D now d = 3) := code_form (Or.inl hok)
    clear hok
    have HE : Hid _ := H1.out.bfail (D := D) (z := 3) HC.out (by decide)
    clear HC
    go_wp2_with fail
    refine end_world (F := fun U => Blk U (w.heap.size + 1 + 1) #[.slice none 0 0, .int .i64 0] 33 ∧ BringPost w n D now d (.returned (.tuple #[.agg #[.slice none 0 0, .int .i64 0], .iface 125 (.agg #[.int .i64 3])])) U) HE.out ?_
    clear HE
    rintro U ⟨hr, hE⟩
    have e0 : U.cell? ⟨w.heap.size + 1 + 1, 0, none⟩ = some (.slice none 0 0) := hr.cell 0
    have e1 : U.cell? ⟨w.heap.size + 1 + 1, 1, none⟩ = some (.int .i64 0) := hr.cell 1
    exact bodyPost_ret (v := .tuple #[.agg #[.slice none 0 0, .int .i64 0], .iface 125 (.agg #[.int .i64 3])]) (by simp [results, Tryz.results79, go_sem, e0, e1]) rfl hE
  | true =>
    have HOK : Hid (0 ≤ d.since) := ok_since hok
    have HLN : Hid (d.ok = true ∧ d.ln ≤ 10) := ⟨hok, (ok_head1 hok).2⟩
    have hm10 := m_small hok
    have HSZ : Hid (sizeTo (oneD (fromN n d) D d) d.ln ≤ 1048576 ∧ FitAll d.ln (oneD (fromN n d) D d)) := ⟨by have h1 := one_small (n := fromN n d) (D := D) hok; have h2 := sizeTo_mono D (fromN_le n d); omega, oneD_fits (hf.less (fromN_le n d)) hfd _⟩
    by_cases hsi : 0 < d.since
    · go_wp2_with fail
      refine (implTreeOk a n c now D L w1 (hS.below (Nat.le_refl _) H1.out.bel) hf hn (by omega) hnow).mono ?_
      rintro e w2 ⟨hb2, r, rfl, hr⟩
      have H2 : Hid (On w a n c now d l w2) := H1.out.below hb2
      have hs2 : w.heap.size + 3 ≤ w2.heap.size := by have := hb2.size; omega
      clear hb2
      clear p0 p1 q0 q1 q2 q3 r0 r1 g0 g1
      obtain ⟨⟨p0, p1⟩, ⟨q0, q1, q2, q3⟩, r0, r1⟩ := H2.out.cells
      have g0 := H2.out.r.frozen 0
      have g1 := H2.out.r.frozen 1
      have n0 : w.heap.size < w2.heap.size := by omega
      have n1 : w.heap.size + 1 < w2.heap.size := by omega
      have n2 : w.heap.size + 1 + 1 < w2.heap.size := by omega
      have m0 : w.heap.size ≠ w2.heap.size := by omega
      have m1 : w.heap.size + 1 ≠ w2.heap.size := by omega
      have m2 : w.heap.size + 1 + 1 ≠ w2.heap.size := by omega
      cases r with
      | false =>
        have HC : Hid (backCode n D now d = 3) := code_form (Or.inr ⟨hsi, fun h => by have := hr.2 h; cases this⟩)
        clear hr
        have HE : Hid _ := H2.out.bfail (D := D) (z := 3) HC.out (by decide)
        clear HC
        go_wp2_with fail
        refine end_world (F := fun U => Blk U (w.heap.size + 1 + 1) #[.slice none 0 0, .int .i64 0] 33 ∧ BringPost w n D now d (.returned (.tuple #[.agg #[.slice none 0 0, .int .i64 0], .iface 125 (.agg #[.int .i64 3])])) U) HE.out ?_
        clear HE
        rintro U ⟨hr, hE⟩
        have e0 : U.cell? ⟨w.heap.size + 1 + 1, 0, none⟩ = some (.slice none 0 0) := hr.cell 0
        have e1 : U.cell? ⟨w.heap.size + 1 + 1, 1, none⟩ = some (.int .i64 0) := hr.cell 1
        exact bodyPost_ret (v := .tuple #[.agg #[.slice none 0 0, .int .i64 0], .iface 125 (.agg #[.int .i64 3])]) (by simp [results, Tryz.results79, go_sem, e0, e1]) rfl hE
      | true =>
        have HG : Hid (TreeGood n D now) := hr.1 rfl
        clear hr
        by_cases hnw : now = d.since
        · have hnb : (d.since != now) = false := by simp [hnw]
          have HFR : Hid (0 < d.since → TreeGood n D now ∧ now = d.since) := fun _ => ⟨HG.out, hnw⟩
          have HFN : Hid (fromN n d = n) := fromN_some hsi
          clear hnw
          go_wp2_with fail
          obtain ⟨bm, hbm⟩ : ∃ bm, bm = w2.heap.size := ⟨_, rfl⟩
          refine at_world (F := fun U => On w a n c now d l U ∧ U.ownsMap Tryz.prog 3 heldR bm 0 (.map [])) ⟨H2.out.below ((Below.refl _ _).alloc (Nat.le_refl _) _), by rw [hbm]; exact World.ownsMap_made _ _ _ _⟩ ?_
          rintro U1 ⟨hU1, hUm⟩
          rw [← hbm]
          refine (learnPlaces_any bm 0 (.map []) (fun _ => none) a n c now D L U1 (hS.below (Nat.le_refl _) hU1.bel) HG.out.few (by have := HG.out.few; omega) hUm knows_start).mono ?_
          rintro e w3 ⟨⟨v3, rfl⟩, hg3, qn, M1, hq1, ho3, hk3⟩
          have HW : Hid (On w a n c now d l w3) := hU1.grown hg3 (by omega)
          have KN : Hid (w3.ownsMap Tryz.prog 3 heldR bm qn M1 ∧ Knows M1 (learnT (fun _ => none) D L n) ∧ w.heap.size + 3 ≤ bm ∧ qn ≤ 10) := ⟨ho3, hk3, by omega, by have := HG.out.few; omega⟩
          clear hU1 hUm hg3 ho3 hk3 hq1 hbm n0 n1 n2 m0 m1 m2
          clear p0 p1 q0 q1 q2 q3 r0 r1 g0 g1
          obtain ⟨⟨p0, p1⟩, ⟨q0, q1, q2, q3⟩, r0, r1⟩ := HW.out.cells
          have g0 := HW.out.r.frozen 0
          have g1 := HW.out.r.frozen 1
          go_wp2_with fail
          refine (learnItems_any bm qn M1 _ l.iA d.m l.ic d.ino d.nd l.L w3 (hD.items.below (Nat.le_refl _) HW.out.bel) hfd.ino (by have := KN.out.2.2.2; omega) KN.out.1 KN.out.2.1).mono ?_
          rintro e w4 ⟨⟨v4, rfl⟩, hg4, M4, ho4, hk4⟩
          have H4 : Hid (On w a n c now d l w4) := HW.out.grown hg4 KN.out.2.2.1
          have hs4 : w.heap.size + 3 ≤ w4.heap.size := by have := hg4.size; have := KN.out.2.2.1; have := ho4.lt; omega
          have HK4 : Hid (w4.ownsMap Tryz.prog 3 heldR bm (qn + d.m) M4 ∧ Knows M4 (learn (learnT (fun _ => none) D L n) d.ino d.nd l.L d.m)) := ⟨ho4, hk4⟩
          clear hg4 ho4 hk4 KN HW
          clear p0 p1 q0 q1 q2 q3 r0 r1 g0 g1
          obtain ⟨⟨p0, p1⟩, ⟨q0, q1, q2, q3⟩, r0, r1⟩ := H4.out.cells
          have g0 := H4.out.r.frozen 0
          have g1 := H4.out.r.frozen 1
          have n0 : w.heap.size < w4.heap.size := by omega
          have n1 : w.heap.size + 1 < w4.heap.size := by omega
          have n2 : w.heap.size + 1 + 1 < w4.heap.size := by omega
          have m0 : w.heap.size ≠ w4.heap.size := by omega
          have m1 : w.heap.size + 1 ≠ w4.heap.size := by omega
          have m2 : w.heap.size + 1 + 1 ≠ w4.heap.size := by omega
          go_wp2_with fail
          refine (livePlaces_any bm l.lA d.ln l.lc d.live (oneNd (fromN n d) D d) w4 (hD.live.below (Nat.le_refl _) H4.out.bel) HLN.out.2 (fun k hk hz => by unfold oneNd; rw [hz]; rfl) (fun W k hW hk hz => by
            rw [HFN.out]
            exact one_look (w := w) (w4 := w4) hS hD H4.out.bel htS htd HLN.out.1 hW (map_block HK4.out.1 (hW.block bm HK4.out.1.lt)) HK4.out.2 hz (by have := HLN.out.2; omega))).mono ?_
          rintro e w5 ⟨hb5, hcase⟩
          have H5 : Hid (On w a n c now d l w5) := H4.out.below hb5
          have hs5 : w.heap.size + 3 ≤ w5.heap.size := by have := hb5.size; omega
          have HB4 : Hid (w.heap.size + 3 ≤ w4.heap.size) := hs4
          clear hb5 n0 n1 n2 m0 m1 m2
          clear p0 p1 q0 q1 q2 q3 r0 r1 g0 g1
          obtain ⟨⟨p0, p1⟩, ⟨q0, q1, q2, q3⟩, r0, r1⟩ := H5.out.cells
          have g0 := H5.out.r.frozen 0
          have g1 := H5.out.r.frozen 1
          have n0 : w.heap.size < w5.heap.size := by omega
          have n1 : w.heap.size + 1 < w5.heap.size := by omega
          have n2 : w.heap.size + 1 + 1 < w5.heap.size := by omega
          have m0 : w.heap.size ≠ w5.heap.size := by omega
          have m1 : w.heap.size + 1 ≠ w5.heap.size := by omega
          have m2 : w.heap.size + 1 + 1 ≠ w5.heap.size := by omega
          rcases hcase with ⟨hbad, rfl⟩ | ⟨hkn, b, bc, M, rfl, hot⟩
          · have HC : Hid (backCode n D now d = 2) := code_bad hok HFR.out (Or.inl hbad)
            clear hbad
            have HE : Hid _ := H5.out.bfail (D := D) (z := 2) HC.out (by decide)
            clear HC
            go_wp2_with fail
            refine end_world (F := fun U => Blk U (w.heap.size + 1 + 1) #[.slice none 0 0, .int .i64 0] 33 ∧ BringPost w n D now d (.returned (.tuple #[.agg #[.slice none 0 0, .int .i64 0], .iface 125 (.agg #[.int .i64 2])])) U) HE.out ?_
            clear HE
            rintro U ⟨hr, hE⟩
            have e0 : U.cell? ⟨w.heap.size + 1 + 1, 0, none⟩ = some (.slice none 0 0) := hr.cell 0
            have e1 : U.cell? ⟨w.heap.size + 1 + 1, 1, none⟩ = some (.int .i64 0) := hr.cell 1
            exact bodyPost_ret (v := .tuple #[.agg #[.slice none 0 0, .int .i64 0], .iface 125 (.agg #[.int .i64 2])]) (by simp [results, Tryz.results79, go_sem, e0, e1]) rfl hE
          · have HKN : Hid (∀ i, i < d.ln → oneNd (fromN n d) D d i ≠ none) := hkn
            have HOT : Hid (OT w5 w4.heap.size 0 (fun _ => false) d.ln (fun _ => 0) (oneD (fromN n d) D d) M (.slice none 0 0) (.slice b d.ln bc)) := hot
            clear hkn hot
            go_wp2_with fail
            refine at_world (F := fun U => On w a n c now d l U ∧ Blk U w5.heap.size #[.slice b d.ln bc, .int .i64 d.date] 33 ∧ OT U w4.heap.size 0 (fun _ => false) d.ln (fun _ => 0) (oneD (fromN n d) D d) M (.slice none 0 0) (.slice b d.ln bc) ∧ w5.heap.size < U.heap.size) ⟨H5.out.below ((Below.refl _ _).alloc (Nat.le_refl _) _), Blk.new _ _ _, HOT.out.below ((Below.refl _ _).alloc (Nat.le_refl _) _), by simp⟩ ?_
            rintro U1 ⟨hU1, hUt, hUo, hUs⟩
            refine (implTreeOk b d.ln bc d.date (oneD (fromN n d) D d) M U1 hUo.nds HSZ.out.2 (by have := HLN.out.2; unfold maxLen; omega) HSZ.out.1 hfd.date).mono ?_
            rintro e w6 ⟨hb6, r, rfl, hr⟩
            have H6 : Hid (On w a n c now d l w6) := hU1.below hb6
            have HOT6 : Hid (OT w6 w4.heap.size 0 (fun _ => false) d.ln (fun _ => 0) (oneD (fromN n d) D d) M (.slice none 0 0) (.slice b d.ln bc)) := hUo.below hb6
            have hUt6 := hUt.below hb6 hUt.lt
            have t0 : w6.cell? ⟨w5.heap.size, 0, none⟩ = some (.slice b d.ln bc) := hUt6.cell 0
            have t1 : w6.cell? ⟨w5.heap.size, 1, none⟩ = some (.int .i64 d.date) := hUt6.cell 1
            have hs6 : w.heap.size + 3 ≤ w6.heap.size := by have := hb6.size; omega
            clear hb6 hU1 hUt hUo hUt6 HOT
            clear p0 p1 q0 q1 q2 q3 r0 r1 g0 g1
            obtain ⟨⟨p0, p1⟩, ⟨q0, q1, q2, q3⟩, r0, r1⟩ := H6.out.cells
            have g0 := H6.out.r.frozen 0
            have g1 := H6.out.r.frozen 1
            cases r with
            | false =>
              have HC : Hid (backCode n D now d = 2) := code_bad hok HFR.out (Or.inr (fun h => by have := hr.2 h; cases this))
              clear hr
              have HE : Hid _ := H6.out.bfail (D := D) (z := 2) HC.out (by decide)
              clear HC
              go_wp2_with fail
              refine end_world (F := fun U => Blk U (w.heap.size + 1 + 1) #[.slice none 0 0, .int .i64 0] 33 ∧ BringPost w n D now d (.returned (.tuple #[.agg #[.slice none 0 0, .int .i64 0], .iface 125 (.agg #[.int .i64 2])])) U) HE.out ?_
              clear HE
              rintro U ⟨hr, hE⟩
              have e0 : U.cell? ⟨w.heap.size + 1 + 1, 0, none⟩ = some (.slice none 0 0) := hr.cell 0
              have e1 : U.cell? ⟨w.heap.size + 1 + 1, 1, none⟩ = some (.int .i64 0) := hr.cell 1
              exact bodyPost_ret (v := .tuple #[.agg #[.slice none 0 0, .int .i64 0], .iface 125 (.agg #[.int .i64 2])]) (by simp [results, Tryz.results79, go_sem, e0, e1]) rfl hE
            | true =>
              have HE : Hid _ := H6.out.bfine (D := D) (code_fine hok HFR.out HKN.out (hr.1 rfl)) HB4.out HOT6.out
              clear hr
              go_wp2_with fail
              refine end_world (F := fun U => Blk U (w.heap.size + 1 + 1) #[.slice b d.ln bc, .int .i64 d.date] 33 ∧ BringPost w n D now d (.returned (.tuple #[.agg #[.slice b d.ln bc, .int .i64 d.date], .nilIface])) U) HE.out ?_
              clear HE
              rintro U ⟨hr, hE⟩
              have e0 : U.cell? ⟨w.heap.size + 1 + 1, 0, none⟩ = some (.slice b d.ln bc) := hr.cell 0
              have e1 : U.cell? ⟨w.heap.size + 1 + 1, 1, none⟩ = some (.int .i64 d.date) := hr.cell 1
              exact bodyPost_ret (v := .tuple #[.agg #[.slice b d.ln bc, .int .i64 d.date], .nilIface]) (by simp [results, Tryz.results79, go_sem, e0, e1]) rfl hE
        · have hnb : (d.since != now) = true := by simp; exact fun e => hnw e.symm
          have HC : Hid (backCode n D now d = 1) := code_other hok hsi HG.out hnw
          clear hnw
          have HE : Hid _ := H2.out.bfail (D := D) (z := 1) HC.out (by decide)
          clear HC
          go_wp2_with fail
          refine end_world (F := fun U => Blk U (w.heap.size + 1 + 1) #[.slice none 0 0, .int .i64 0] 33 ∧ BringPost w n D now d (.returned (.tuple #[.agg #[.slice none 0 0, .int .i64 0], .iface 125 (.agg #[.int .i64 1])])) U) HE.out ?_
          clear HE
          rintro U ⟨hr, hE⟩
          have e0 : U.cell? ⟨w.heap.size + 1 + 1, 0, none⟩ = some (.slice none 0 0) := hr.cell 0
          have e1 : U.cell? ⟨w.heap.size + 1 + 1, 1, none⟩ = some (.int .i64 0) := hr.cell 1
          exact bodyPost_ret (v := .tuple #[.agg #[.slice none 0 0, .int .i64 0], .iface 125 (.agg #[.int .i64 1])]) (by simp [results, Tryz.results79, go_sem, e0, e1]) rfl hE
    · have hs0 : d.since = 0 := by have := HOK.out; omega
      have HFN : Hid (fromN n d = 0) := fromN_none hs0
      have HFR : Hid (0 < d.since → TreeGood n D now ∧ now = d.since) := fun h => absurd h hsi
      clear hs0
      have n0 : w.heap.size < w1.heap.size := by omega
      have n1 : w.heap.size + 1 < w1.heap.size := by omega
      have n2 : w.heap.size + 1 + 1 < w1.heap.size := by omega
      have m0 : w.heap.size ≠ w1.heap.size := by omega
      have m1 : w.heap.size + 1 ≠ w1.heap.size := by omega
      have m2 : w.heap.size + 1 + 1 ≠ w1.heap.size := by omega
      go_wp2_with fail
      obtain ⟨bm, hbm⟩ : ∃ bm, bm = w1.heap.size := ⟨_, rfl⟩
      refine at_world (F := fun U => On w a n c now d l U ∧ U.ownsMap Tryz.prog 3 heldR bm 0 (.map [])) ⟨H1.out.below ((Below.refl _ _).alloc (Nat.le_refl _) _), by rw [hbm]; exact World.ownsMap_made _ _ _ _⟩ ?_
      rintro w3 ⟨hU1, hUm⟩
      rw [← hbm]
      obtain ⟨qn, hq1⟩ : ∃ qn, qn = 0 := ⟨_, rfl⟩
      obtain ⟨M1, hM1⟩ : ∃ M1 : DataW Value, M1 = .map [] := ⟨_, rfl⟩
      have HW : Hid (On w a n c now d l w3) := hU1
      have KN : Hid (w3.ownsMap Tryz.prog 3 heldR bm qn M1 ∧ Knows M1 (learnT (fun _ => none) D L 0) ∧ w.heap.size + 3 ≤ bm ∧ qn ≤ 10) := ⟨by rw [hq1, hM1]; exact hUm, by rw [hM1]; exact knows_start, by omega, by omega⟩
      clear hU1 hUm hq1 hM1 hbm n0 n1 n2 m0 m1 m2
      refine (learnItems_any bm qn M1 _ l.iA d.m l.ic d.ino d.nd l.L w3 (hD.items.below (Nat.le_refl _) HW.out.bel) hfd.ino (by have := KN.out.2.2.2; omega) KN.out.1 KN.out.2.1).mono ?_
      rintro e w4 ⟨⟨v4, rfl⟩, hg4, M4, ho4, hk4⟩
      have H4 : Hid (On w a n c now d l w4) := HW.out.grown hg4 KN.out.2.2.1
      have hs4 : w.heap.size + 3 ≤ w4.heap.size := by have := hg4.size; have := KN.out.2.2.1; have := ho4.lt; omega
      have HK4 : Hid (w4.ownsMap Tryz.prog 3 heldR bm (qn + d.m) M4 ∧ Knows M4 (learn (learnT (fun _ => none) D L 0) d.ino d.nd l.L d.m)) := ⟨ho4, hk4⟩
      clear hg4 ho4 hk4 KN HW
      clear p0 p1 q0 q1 q2 q3 r0 r1 g0 g1
      obtain ⟨⟨p0, p1⟩, ⟨q0, q1, q2, q3⟩, r0, r1⟩ := H4.out.cells
      have g0 := H4.out.r.frozen 0
      have g1 := H4.out.r.frozen 1
      have n0 : w.heap.size < w4.heap.size := by omega
      have n1 : w.heap.size + 1 < w4.heap.size := by omega
      have n2 : w.heap.size + 1 + 1 < w4.heap.size := by omega
      have m0 : w.heap.size ≠ w4.heap.size := by omega
      have m1 : w.heap.size + 1 ≠ w4.heap.size := by omega
      have m2 : w.heap.size + 1 + 1 ≠ w4.heap.size := by omega
      go_wp2_with fail
      refine (livePlaces_any bm l.lA d.ln l.lc d.live (oneNd (fromN n d) D d) w4 (hD.live.below (Nat.le_refl _) H4.out.bel) HLN.out.2 (fun k hk hz => by unfold oneNd; rw [hz]; rfl) (fun W k hW hk hz => by
        rw [HFN.out]
        exact one_look (w := w) (w4 := w4) (show IsNds w none 0 D L from Or.inl rfl) hD H4.out.bel (fun i hi => absurd hi (Nat.not_lt_zero _)) htd HLN.out.1 hW (map_block HK4.out.1 (hW.block bm HK4.out.1.lt)) HK4.out.2 hz (by have := HLN.out.2; omega))).mono ?_
      rintro e w5 ⟨hb5, hcase⟩
      have H5 : Hid (On w a n c now d l w5) := H4.out.below hb5
      have hs5 : w.heap.size + 3 ≤ w5.heap.size := by have := hb5.size; omega
      have HB4 : Hid (w.heap.size + 3 ≤ w4.heap.size) := hs4
      clear hb5 n0 n1 n2 m0 m1 m2
      clear p0 p1 q0 q1 q2 q3 r0 r1 g0 g1
      obtain ⟨⟨p0, p1⟩, ⟨q0, q1, q2, q3⟩, r0, r1⟩ := H5.out.cells
      have g0 := H5.out.r.frozen 0
      have g1 := H5.out.r.frozen 1
      have n0 : w.heap.size < w5.heap.size := by omega
      have n1 : w.heap.size + 1 < w5.heap.size := by omega
      have n2 : w.heap.size + 1 + 1 < w5.heap.size := by omega
      have m0 : w.heap.size ≠ w5.heap.size := by omega
      have m1 : w.heap.size + 1 ≠ w5.heap.size := by omega
      have m2 : w.heap.size + 1 + 1 ≠ w5.heap.size := by omega
      rcases hcase with ⟨hbad, rfl⟩ | ⟨hkn, b, bc, M, rfl, hot⟩
      · have HC : Hid (backCode n D now d = 2) := code_bad hok HFR.out (Or.inl hbad)
        clear hbad
        have HE : Hid _ := H5.out.bfail (D := D) (z := 2) HC.out (by decide)
        clear HC
        go_wp2_with fail
        refine end_world (F := fun U => Blk U (w.heap.size + 1 + 1) #[.slice none 0 0, .int .i64 0] 33 ∧ BringPost w n D now d (.returned (.tuple #[.agg #[.slice none 0 0, .int .i64 0], .iface 125 (.agg #[.int .i64 2])])) U) HE.out ?_
        clear HE
        rintro U ⟨hr, hE⟩
        have e0 : U.cell? ⟨w.heap.size + 1 + 1, 0, none⟩ = some (.slice none 0 0) := hr.cell 0
        have e1 : U.cell? ⟨w.heap.size + 1 + 1, 1, none⟩ = some (.int .i64 0) := hr.cell 1
        exact bodyPost_ret (v := .tuple #[.agg #[.slice none 0 0, .int .i64 0], .iface 125 (.agg #[.int .i64 2])]) (by simp [results, Tryz.results79, go_sem, e0, e1]) rfl hE
      · have HKN : Hid (∀ i, i < d.ln → oneNd (fromN n d) D d i ≠ none) := hkn
        have HOT : Hid (OT w5 w4.heap.size 0 (fun _ => false) d.ln (fun _ => 0) (oneD (fromN n d) D d) M (.slice none 0 0) (.slice b d.ln bc)) := hot
        clear hkn hot
        go_wp2_with fail
        refine at_world (F := fun U => On w a n c now d l U ∧ Blk U w5.heap.size #[.slice b d.ln bc, .int .i64 d.date] 33 ∧ OT U w4.heap.size 0 (fun _ => false) d.ln (fun _ => 0) (oneD (fromN n d) D d) M (.slice none 0 0) (.slice b d.ln bc) ∧ w5.heap.size < U.heap.size) ⟨H5.out.below ((Below.refl _ _).alloc (Nat.le_refl _) _), Blk.new _ _ _, HOT.out.below ((Below.refl _ _).alloc (Nat.le_refl _) _), by simp⟩ ?_
        rintro U1 ⟨hU1, hUt, hUo, hUs⟩
        refine (implTreeOk b d.ln bc d.date (oneD (fromN n d) D d) M U1 hUo.nds HSZ.out.2 (by have := HLN.out.2; unfold maxLen; omega) HSZ.out.1 hfd.date).mono ?_
        rintro e w6 ⟨hb6, r, rfl, hr⟩
        have H6 : Hid (On w a n c now d l w6) := hU1.below hb6
        have HOT6 : Hid (OT w6 w4.heap.size 0 (fun _ => false) d.ln (fun _ => 0) (oneD (fromN n d) D d) M (.slice none 0 0) (.slice b d.ln bc)) := hUo.below hb6
        have hUt6 := hUt.below hb6 hUt.lt
        have t0 : w6.cell? ⟨w5.heap.size, 0, none⟩ = some (.slice b d.ln bc) := hUt6.cell 0
        have t1 : w6.cell? ⟨w5.heap.size, 1, none⟩ = some (.int .i64 d.date) := hUt6.cell 1
        have hs6 : w.heap.size + 3 ≤ w6.heap.size := by have := hb6.size; omega
        clear hb6 hU1 hUt hUo hUt6 HOT
        clear p0 p1 q0 q1 q2 q3 r0 r1 g0 g1
        obtain ⟨⟨p0, p1⟩, ⟨q0, q1, q2, q3⟩, r0, r1⟩ := H6.out.cells
        have g0 := H6.out.r.frozen 0
        have g1 := H6.out.r.frozen 1
        cases r with
        | false =>
          have HC : Hid (backCode n D now d = 2) := code_bad hok HFR.out (Or.inr (fun h => by have := hr.2 h; cases this))
          clear hr
          have HE : Hid _ := H6.out.bfail (D := D) (z := 2) HC.out (by decide)
          clear HC
          go_wp2_with fail
          refine end_world (F := fun U => Blk U (w.heap.size + 1 + 1) #[.slice none 0 0, .int .i64 0] 33 ∧ BringPost w n D now d (.returned (.tuple #[.agg #[.slice none 0 0, .int .i64 0], .iface 125 (.agg #[.int .i64 2])])) U) HE.out ?_
          clear HE
          rintro U ⟨hr, hE⟩
          have e0 : U.cell? ⟨w.heap.size + 1 + 1, 0, none⟩ = some (.slice none 0 0) := hr.cell 0
          have e1 : U.cell? ⟨w.heap.size + 1 + 1, 1, none⟩ = some (.int .i64 0) := hr.cell 1
          exact bodyPost_ret (v := .tuple #[.agg #[.slice none 0 0, .int .i64 0], .iface 125 (.agg #[.int .i64 2])]) (by simp [results, Tryz.results79, go_sem, e0, e1]) rfl hE
        | true =>
          have HE : Hid _ := H6.out.bfine (D := D) (code_fine hok HFR.out HKN.out (hr.1 rfl)) HB4.out HOT6.out
          clear hr
          go_wp2_with fail
          refine end_world (F := fun U => Blk U (w.heap.size + 1 + 1) #[.slice b d.ln bc, .int .i64 d.date] 33 ∧ BringPost w n D now d (.returned (.tuple #[.agg #[.slice b d.ln bc, .int .i64 d.date], .nilIface])) U) HE.out ?_
          clear HE
          rintro U ⟨hr, hE⟩
          have e0 : U.cell? ⟨w.heap.size + 1 + 1, 0, none⟩ = some (.slice b d.ln bc) := hr.cell 0
          have e1 : U.cell? ⟨w.heap.size + 1 + 1, 1, none⟩ = some (.int .i64 d.date) := hr.cell 1
          exact bodyPost_ret (v := .tuple #[.agg #[.slice b d.ln bc, .int .i64 d.date], .nilIface]) (by simp [results, Tryz.results79, go_sem, e0, e1]) rfl hE


/-- treeOrCode of a tree that was brought back. -/
theorem treeOrCode_nil (s : Value) (now : Int) (a : Option Addr) (n c : Nat) (hs : s = .slice a n c) (w : World) :
    Calls Tryz.prog 66 #[.agg #[s, .int .i64 now], .nilIface] w fun e w' => e = .returned (.tuple #[.agg #[s, .int .i64 now], .int .i64 0]) ∧ Below w.heap.size w w' := by
  subst hs
  go_enter Tryz.func66, Tryz.ntmps66
  go_wp2_with (go_at_call 96; refine (as_nil _ _).mono ?_; rintro e w' ⟨rfl, rfl⟩)
  refine end_world (F := fun U => Blk U (w.heap.size + 1) #[.slice a n c, .int .i64 now] 33 ∧ Below w.heap.size w U) ?_ ?_
  · obtain ⟨_, h1, _, hb, _⟩ := new3 w #[.slice a n c, .int .i64 now] 33 #[.slice a n c, .int .i64 now] 33 #[.int .i64 0] 125
    exact ⟨h1, hb⟩
  rintro U ⟨hr, hb⟩
  have e0 : U.cell? ⟨w.heap.size + 1, 0, none⟩ = some (.slice a n c) := hr.cell 0
  have e1 : U.cell? ⟨w.heap.size + 1, 1, none⟩ = some (.int .i64 now) := hr.cell 1
  exact bodyPost_ret (v := .tuple #[.agg #[.slice a n c, .int .i64 now], .int .i64 0]) (by simp [results, Tryz.results66, go_sem, e0, e1]) rfl ⟨rfl, hb⟩

/-- .. and of an error. -/
theorem treeOrCode_err (z now : Int) (a : Option Addr) (n c : Nat) (w : World) (hg : ErrType w) :
    Calls Tryz.prog 66 #[.agg #[.slice a n c, .int .i64 now], .iface 125 (.agg #[.int .i64 z])] w fun e w' => e = .returned (.tuple #[.agg #[.slice none 0 0, .int .i64 0], .int .i64 z]) ∧ Below w.heap.size w w' := by
  go_enter Tryz.func66, Tryz.ntmps66
  go_wp2_with fail
  refine at_world (F := New3 w #[.slice a n c, .int .i64 now] 33 #[.slice none 0 0, .int .i64 0] 33 #[.int .i64 0] 125) (new3 w _ _ _ _ _ _) ?_
  rintro W ⟨h0, h1, h2, hb, hs⟩
  refine (as_hit z ⟨w.heap.size + 1 + 1, 0, none⟩ (.int .i64 0) W (hg.bel hb) (h2.cell 0) (h2.frozen 0)).mono ?_
  rintro e w' ⟨rfl, W2, hb2, rfl⟩
  have h1' := h1.below hb2 (by omega)
  have h2' := h2.below hb2 (by omega)
  have r0 : W2.cell? ⟨w.heap.size + 1, 0, none⟩ = some (.slice none 0 0) := h1'.cell 0
  have r1 : W2.cell? ⟨w.heap.size + 1, 1, none⟩ = some (.int .i64 0) := h1'.cell 1
  have g0 := h1'.frozen 0
  have g1 := h1'.frozen 1
  have t0 : W2.cell? ⟨w.heap.size + 1 + 1, 0, none⟩ = some (.int .i64 0) := h2'.cell 0
  have HB : Hid (Below w.heap.size w W2 ∧ Blk W2 (w.heap.size + 1) #[.slice none 0 0, .int .i64 0] 33) := ⟨hb.trans (hb2.mono (by omega)), h1'⟩
  clear h0 h1 h2 hb hs hb2 h1' h2' hg
  go_wp2_with fail
  go_region
  go_wp2
  refine end_world (F := fun U => Blk U (w.heap.size + 1) #[.slice none 0 0, .int .i64 0] 33 ∧ Below w.heap.size w U) ⟨?_, ?_⟩ ?_
  · exact Blk.of_block (((HB.out.2.off _ (by omega)).set 0 _).set 1 _) rfl
  · exact (bel_put (bel_put (bel_put HB.out.1 _ (by omega)) _ (by omega)) _ (by omega)).drew
  rintro U ⟨hr, hb⟩
  have e0 : U.cell? ⟨w.heap.size + 1, 0, none⟩ = some (.slice none 0 0) := hr.cell 0
  have e1 : U.cell? ⟨w.heap.size + 1, 1, none⟩ = some (.int .i64 0) := hr.cell 1
  exact bodyPost_ret (v := .tuple #[.agg #[.slice none 0 0, .int .i64 0], .int .i64 z]) (by simp [results, Tryz.results66, go_sem, e0, e1]) rfl ⟨rfl, hb⟩

/-- What BackOne answers. -/
theorem implBackOne_any (a : Option Addr) (n c : Nat) (now : Int) (D : Nat → Nd) (L : Nat → Loc) (d : Dp) (l : DLoc) (w : World) (hg : ErrType w) (hS : IsNds w a n D L) (hD : DpIn w d l) (hn : n ≤ maxLen) (hf : FitAll n D) (hfd : d.Fits) (hnow : In64 now) (hsz : sizeTo D n + sizeTo d.nd d.m ≤ 1048576) :
    Calls Tryz.prog 49 #[trV a n c now, dpV d l] w (BackPost w n D now d) := by
  unfold trV dpV
  go_enter Tryz.func49, Tryz.ntmps49
  go_wp2_with fail
  refine at_world (F := fun W => On w a n c now d l W ∧ w.heap.size + 3 ≤ W.heap.size) ⟨on3 w a n c now d l, by simp⟩ ?_
  rintro W ⟨hO, hsW⟩
  refine (bringOne_any a n c now D L d l W (hS.below (Nat.le_refl _) hO.bel) (hD.below (Nat.le_refl _) hO.bel) hn hf hfd hnow hsz).mono ?_
  rintro e w1 ⟨hb1, hcase⟩
  have H1 : Hid (On w a n c now d l w1) := hO.below hb1
  have HG1 : Hid (ErrType w1) := (hg.bel hO.bel).bel hb1
  have hs1 : w.heap.size + 3 ≤ w1.heap.size := by have := hb1.size; omega
  have HsW : Hid (w.heap.size + 3 ≤ W.heap.size) := hsW
  clear hb1 hO hg hsW
  rcases hcase with ⟨hne, rfl⟩ | ⟨hz, b, bc, M, rfl, hot⟩
  · have HC : Hid (backCode n D now d ≠ 0) := hne
    clear hne
    go_wp2_with fail
    refine (treeOrCode_err (backCode n D now d) 0 none 0 0 w1 HG1.out).mono ?_
    rintro e w2 ⟨rfl, hb2⟩
    have H2 : Hid (On w a n c now d l w2) := H1.out.below hb2
    clear hb2
    obtain ⟨⟨p0, p1⟩, ⟨q0, q1, q2, q3⟩, r0, r1⟩ := H2.out.cells
    have g0 := H2.out.r.frozen 0
    have g1 := H2.out.r.frozen 1
    have HE : Hid _ := H2.out.fail (D := D) rfl HC.out
    go_wp2_with fail
    refine end_world (F := fun U => Blk U (w.heap.size + 1 + 1) #[.slice none 0 0, .int .i64 0] 33 ∧ BackPost w n D now d (.returned (.tuple #[.agg #[.slice none 0 0, .int .i64 0], .int .i64 (backCode n D now d)])) U) HE.out ?_
    clear HE
    rintro U ⟨hr, hE⟩
    have e0 : U.cell? ⟨w.heap.size + 1 + 1, 0, none⟩ = some (.slice none 0 0) := hr.cell 0
    have e1 : U.cell? ⟨w.heap.size + 1 + 1, 1, none⟩ = some (.int .i64 0) := hr.cell 1
    exact bodyPost_ret (v := .tuple #[.agg #[.slice none 0 0, .int .i64 0], .int .i64 (backCode n D now d)]) (by simp [results, Tryz.results49, go_sem, e0, e1]) rfl hE
  · have HC : Hid (backCode n D now d = 0 ∧ OT w1 W.heap.size 0 (fun _ => false) d.ln (fun _ => 0) (oneD (fromN n d) D d) M (.slice none 0 0) (.slice b d.ln bc)) := ⟨hz, hot⟩
    clear hz hot
    go_wp2_with fail
    refine (treeOrCode_nil _ d.date b d.ln bc rfl w1).mono ?_
    rintro e w2 ⟨rfl, hb2⟩
    have H2 : Hid (On w a n c now d l w2) := H1.out.below hb2
    have HE : Hid _ := H2.out.fine (D := D) HC.out.1 HsW.out (HC.out.2.below hb2)
    clear hb2
    obtain ⟨⟨p0, p1⟩, ⟨q0, q1, q2, q3⟩, r0, r1⟩ := H2.out.cells
    have g0 := H2.out.r.frozen 0
    have g1 := H2.out.r.frozen 1
    go_wp2_with fail
    refine end_world (F := fun U => Blk U (w.heap.size + 1 + 1) #[.slice b d.ln bc, .int .i64 d.date] 33 ∧ BackPost w n D now d (.returned (.tuple #[.agg #[.slice b d.ln bc, .int .i64 d.date], .int .i64 0])) U) HE.out ?_
    clear HE
    rintro U ⟨hr, hE⟩
    have e0 : U.cell? ⟨w.heap.size + 1 + 1, 0, none⟩ = some (.slice b d.ln bc) := hr.cell 0
    have e1 : U.cell? ⟨w.heap.size + 1 + 1, 1, none⟩ = some (.int .i64 d.date) := hr.cell 1
    exact bodyPost_ret (v := .tuple #[.agg #[.slice b d.ln bc, .int .i64 d.date], .int .i64 0]) (by simp [results, Tryz.results49, go_sem, e0, e1]) rfl hE
end Go.Proofs.YtakifcobofkheaaGreatDoor

/-
  What BackOne answers: one tree and one code for both.
-/
namespace Go.Proofs.YtakifcobofkheaaGreatDoor
open Go.RowKit Go.Deep
set_option linter.unusedVariables false
set_option linter.unusedSimpArgs false

/-- The tree that is brought back, and the code. -/
noncomputable def backTr (t : Tr) (d : Dp) : Tr := if backCode t.n t.D t.now d = 0 then ⟨d.ln, oneD (fromN t.n d) t.D d, d.date⟩ else trNone

theorem back_size {t : Tr} {d : Dp} (h : backCode t.n t.D t.now d = 0) : d.ln + sizeTo (oneD (fromN t.n d) t.D d) d.ln ≤ sizeTo t.D t.n + d.size := by
  obtain ⟨hok, _, _, _⟩ := code_zero h
  have h1 := one_small (n := fromN t.n d) (D := t.D) hok
  have h2 := sizeTo_mono t.D (fromN_le t.n d)
  unfold Dp.size
  omega

theorem back_small (t : Tr) (d : Dp) (ft : t.Fits) (fd : d.Fits) (hs : t.size + d.size ≤ 1048576) : SmTr (backTr t d) := by
  unfold backTr
  split
  · rename_i h
    obtain ⟨hok, _, _, hg⟩ := code_zero h
    have h1 := back_size h
    unfold Tr.size at hs
    exact good_small (t := ⟨d.ln, oneD (fromN t.n d) t.D d, d.date⟩) hg (oneD_fits (ft.nds.less (fromN_le t.n d)) fd _) (by show d.ln + sizeTo (oneD (fromN t.n d) t.D d) d.ln ≤ 1048576; omega)
  · exact trNone_small

theorem back_out (t : Tr) (d : Dp) {w : World} {e : Ending} {w' : World} (h : BackPost w t.n t.D t.now d e w') : Below w.heap.size w w' ∧ ∃ l, e = .returned (.tuple #[tV (backTr t d) l, .int .i64 (backCode t.n t.D t.now d)]) ∧ OwnTr w' w.heap.size (backTr t d) l := by
  obtain ⟨hb, hc⟩ := h
  refine ⟨hb, ?_⟩
  rcases hc with ⟨hne, rfl⟩ | ⟨hz, b, c, M, rfl, hot⟩
  · have e1 : backTr t d = trNone := by unfold backTr; rw [if_neg hne]
    rw [e1]
    exact ⟨⟨none, 0, fun _ => ⟨none, 0, none, 0⟩⟩, rfl, OT.start _ _ _ _ _ _⟩
  · have e1 : backTr t d = ⟨d.ln, oneD (fromN t.n d) t.D d, d.date⟩ := by unfold backTr; rw [if_pos hz]
    rw [e1, hz]
    exact ⟨⟨b, c, M⟩, rfl, hot⟩

theorem back_ans (t : Tr) (d : Dp) (ft : t.Fits) (fd : d.Fits) (hs : t.size + d.size ≤ 1048576) : ∃ (r : Tr) (z : Int), SmTr r ∧ ∀ w e w', BackPost w t.n t.D t.now d e w' → Below w.heap.size w w' ∧ ∃ l, e = .returned (.tuple #[tV r l, .int .i64 z]) ∧ OwnTr w' w.heap.size r l :=
  ⟨backTr t d, backCode t.n t.D t.now d, back_small t d ft fd hs, fun w e w' h => back_out t d h⟩

theorem specBackOne_law (t : Tr) (l : TLoc) (d : Dp) (k : DLoc) (w : World) (hT : TIn w t l) (hD : DpIn w d k) (ft : t.Fits) (fd : d.Fits) (hs : t.size + d.size ≤ 1048576) :
    Calls Tryz.prog 42 #[tV t l, dpV d k] w (BackPost w t.n t.D t.now d) :=
  specBackOne_any l.a t.n l.c t.now t.D l.L d k w hT hD ft.n ft.nds fd (by unfold Tr.size Dp.size at hs; omega)

theorem implBackOne_law (t : Tr) (l : TLoc) (d : Dp) (k : DLoc) (w : World) (hE : ErrType w) (hT : TIn w t l) (hD : DpIn w d k) (ft : t.Fits) (fd : d.Fits) (hs : t.size + d.size ≤ 1048576) :
    Calls Tryz.prog 49 #[tV t l, dpV d k] w (BackPost w t.n t.D t.now d) :=
  implBackOne_any l.a t.n l.c t.now t.D l.L d k w hE hT hD ft.n ft.nds fd ft.now (by unfold Tr.size Dp.size at hs; omega)
end Go.Proofs.YtakifcobofkheaaGreatDoor

/-
  Jobs: when one is right, its next place, what is left, and the tree of it. Plain facts.
-/
namespace Go.Proofs.YtakifcobofkheaaGreatDoor
open Go.RowKit Go.Deep
set_option linter.unusedVariables false
set_option linter.unusedSimpArgs false

/-- A job is right. -/
structure JobGood (j : Jb) : Prop where
  code : backCode j.t.n j.t.D j.t.now j.d = 0
  q : j.q ≤ j.d.ln
  none : j.d.since = 0 → j.t.n = 0 ∧ j.t.now = 0
  done : ∀ i, i < j.q → (oneD j.t.n j.t.D j.d i).same (j.e i) = true

theorem JobGood.fromN {j : Jb} (h : j.d.since = 0 → j.t.n = 0 ∧ j.t.now = 0) : fromN j.t.n j.d = j.t.n := by
  by_cases e : j.d.since = 0
  · rw [fromN_none e, (h e).1]
  · unfold Go.Proofs.YtakifcobofkheaaGreatDoor.fromN; rw [if_neg e]

theorem code_few {n : Nat} {D : Nat → Nd} {now : Int} {d : Dp} (h : backCode n D now d = 0) : d.since = 0 ∨ (TreeGood n D now ∧ now = d.since) := by
  obtain ⟨hok, h1, _, _⟩ := code_zero h
  have := ok_since hok
  by_cases e : d.since = 0
  · exact Or.inl e
  · exact Or.inr (h1 (by omega))

theorem JobGood.few {j : Jb} (h : JobGood j) : j.t.n ≤ 10 := by
  rcases code_few h.code with e | ⟨hg, _⟩
  · have := (h.none e).1; omega
  · exact hg.few

theorem JobGood.ok {j : Jb} (h : JobGood j) : j.d.ok = true := (code_zero h.code).1
theorem JobGood.ln {j : Jb} (h : JobGood j) : j.d.ln ≤ 10 := (ok_head1 h.ok).2
theorem JobGood.tree {j : Jb} (h : JobGood j) : TreeGood j.d.ln (oneD j.t.n j.t.D j.d) j.d.date := by
  have := (code_zero h.code).2.2.2
  rwa [JobGood.fromN h.none] at this
theorem JobGood.known {j : Jb} (h : JobGood j) : ∀ i, i < j.d.ln → oneNd j.t.n j.t.D j.d i ≠ Option.none := by
  have := (code_zero h.code).2.2.1
  rwa [JobGood.fromN h.none] at this

/-- The job of which nothing is done. -/
def newJb (t : Tr) (d : Dp) : Jb := ⟨if d.since = 0 then trNone else t, d, 0, fun _ => ndZero⟩
noncomputable def newAns (t : Tr) (d : Dp) : Jb := if backCode t.n t.D t.now d = 0 then newJb t d else jbNone
/-- .. with a place more. -/
def stepJb (j : Jb) : Jb := if j.q < j.d.ln then ⟨j.t, j.d, j.q + 1, fun i => if i = j.q then oneD j.t.n j.t.D j.d j.q else j.e i⟩ else j
noncomputable def stepAns (j : Jb) : Jb := open Classical in if JobGood j then stepJb j else jbNone
noncomputable def leftAns (j : Jb) : Int := open Classical in if JobGood j then (j.d.ln : Int) - (j.q : Int) else -1
noncomputable def treeAns (j : Jb) : Tr := if leftAns j = 0 then ⟨j.q, j.e, j.d.date⟩ else trNone
noncomputable def treeCode (j : Jb) : Int := if leftAns j = 0 then 0 else 3

theorem same_nn {a b : Nd} (h : a.same b = true) : b.nn = a.nn ∧ b.kn = a.kn := by
  unfold Nd.same at h
  simp only [Bool.and_eq_true, decide_eq_true_eq] at h
  omega

theorem tr_nds {t : Tr} (hs : t.size ≤ 1048576) (hg : TreeGood t.n t.D t.now) : ∀ i, i < t.n → (t.D i).nn ≤ 1000000 ∧ (t.D i).kn ≤ 1000000 := fun i hi => by
  have e := ndOk_kn (hg.nodes i hi)
  have hz := size_le_sizeTo t.D t.n i hi
  unfold Nd.size at hz
  unfold Tr.size at hs
  omega

theorem dp_nds {d : Dp} (hs : d.size ≤ 1048576) (hok : d.ok = true) : ∀ i, i < d.m → (d.nd i).nn ≤ 1000000 ∧ (d.nd i).kn ≤ 1000000 := fun i hi => by
  have e := ok_kn hok hi
  have hz := nd_sum hs hi
  omega

theorem one_nds {n : Nat} {D : Nat → Nd} {d : Dp} {now : Int} (hg : TreeGood d.ln (oneD n D d) now) (hs : sizeTo D n + sizeTo d.nd d.m ≤ 1048576) (hok : d.ok = true) : ∀ i, i < d.ln → (oneD n D d i).nn ≤ 1000000 ∧ (oneD n D d i).kn ≤ 1000000 ∧ (oneD n D d i).size ≤ 1048576 := fun i hi => by
  have e := ndOk_kn (hg.nodes i hi)
  have h1 := one_small (n := n) (D := D) hok
  have hz := size_le_sizeTo (oneD n D d) d.ln i hi
  have hz2 := hz
  unfold Nd.size at hz
  omega

theorem newAns_small {t : Tr} {d : Dp} (ft : t.Fits) (fd : d.Fits) (hs : t.size + d.size ≤ 1048576) : SmJb (newAns t d) := by
  unfold newAns
  split
  · rename_i h
    obtain ⟨hok, h1, _, _⟩ := code_zero h
    unfold newJb
    by_cases e : d.since = 0
    · rw [if_pos e]
      refine ⟨⟨trNone_small.fits, fd, by unfold maxLen; simp, fun i hi => absurd hi (Nat.not_lt_zero _)⟩, ⟨trNone_small.size, by show d.size ≤ _; omega, by simp, by simp [sizeTo], fun i hi => absurd hi (Nat.not_lt_zero _)⟩, fun i hi => absurd hi (Nat.not_lt_zero _), dp_nds (d := d) (by omega) hok, fun i hi => absurd hi (Nat.not_lt_zero _)⟩
    · rw [if_neg e]
      have hg := (h1 (by have := ok_since hok; omega)).1
      exact ⟨⟨ft, fd, by unfold maxLen; simp, fun i hi => absurd hi (Nat.not_lt_zero _)⟩, ⟨by show t.size ≤ _; omega, by show d.size ≤ _; omega, by simp, by simp [sizeTo], fun i hi => absurd hi (Nat.not_lt_zero _)⟩, tr_nds (t := t) (by omega) hg, dp_nds (d := d) (by omega) hok, fun i hi => absurd hi (Nat.not_lt_zero _)⟩
  · exact jbNone_small

theorem JobGood.t_nds {j : Jb} (h : JobGood j) (hs : j.t.size ≤ 1048576) : ∀ i, i < j.t.n → (j.t.D i).nn ≤ 1000000 ∧ (j.t.D i).kn ≤ 1000000 := by
  rcases code_few h.code with e | ⟨hg, _⟩
  · intro i hi
    have := (h.none e).1
    omega
  · exact tr_nds hs hg

theorem sizeTo_set {e : Nat → Nd} {x : Nd} {q : Nat} : sizeTo (fun i => if i = q then x else e i) (q + 1) = sizeTo e q + x.size := by
  rw [sizeTo_succ]
  have : ∀ k, k ≤ q → sizeTo (fun i => if i = q then x else e i) k = sizeTo e k := by
    intro k
    induction k with
    | zero => exact fun _ => rfl
    | succ k ih => intro hk; rw [sizeTo_succ, sizeTo_succ, ih (by omega), if_neg (by omega)]
  rw [this q (Nat.le_refl _)]
  simp

theorem stepAns_small {j : Jb} (fj : j.Fits) (hs : j.size ≤ 1048576) : SmJb (stepAns j) := by
  unfold stepAns
  split
  · rename_i h
    have hm := Jb.mid hs
    have hs' := hs
    unfold Jb.size Tr.size Dp.size at hs'
    have hone := one_nds h.tree (by omega) h.ok
    have hln := h.ln
    have hqn : ∀ i, i < j.q → (j.e i).nn ≤ 1000000 ∧ (j.e i).kn ≤ 1000000 := fun i hi => by
      obtain ⟨a1, a2⟩ := same_nn (h.done i hi)
      have := hone i (by have := h.q; omega)
      omega
    have hb : (∀ i, i < j.t.n → (j.t.D i).nn ≤ 1000000 ∧ (j.t.D i).kn ≤ 1000000) ∧ (∀ i, i < j.d.m → (j.d.nd i).nn ≤ 1000000 ∧ (j.d.nd i).kn ≤ 1000000) := ⟨h.t_nds hm.t, dp_nds hm.d h.ok⟩
    unfold stepJb
    split
    · rename_i hlt
      have hx := hone j.q hlt
      have hfx := oneD_fits fj.t.nds fj.d j.d.ln j.q hlt
      refine ⟨⟨fj.t, fj.d, by show j.q + 1 ≤ maxLen; unfold maxLen; omega, fun i hi => ?_⟩, ⟨hm.t, hm.d, by show j.q + 1 ≤ _; omega, ?_, fun i hi => ?_⟩, hb.1, hb.2, fun i hi => ?_⟩
      · show (if i = j.q then oneD j.t.n j.t.D j.d j.q else j.e i).Fits
        split
        · exact hfx
        · exact fj.e i (by have : i < j.q + 1 := hi; omega)
      · show sizeTo (fun i => if i = j.q then oneD j.t.n j.t.D j.d j.q else j.e i) (j.q + 1) ≤ _
        rw [sizeTo_set]
        have := hx.2.2
        omega
      · show (if i = j.q then oneD j.t.n j.t.D j.d j.q else j.e i).size ≤ _
        split
        · exact hx.2.2
        · exact hm.es i (by have : i < j.q + 1 := hi; omega)
      · show (if i = j.q then oneD j.t.n j.t.D j.d j.q else j.e i).nn ≤ _ ∧ (if i = j.q then oneD j.t.n j.t.D j.d j.q else j.e i).kn ≤ _
        split
        · exact ⟨hx.1, hx.2.1⟩
        · exact hqn i (by have : i < j.q + 1 := hi; omega)
    · exact ⟨fj, hm, hb.1, hb.2, hqn⟩
  · exact jbNone_small

theorem left_zero {j : Jb} (h : leftAns j = 0) : JobGood j ∧ j.q = j.d.ln := by
  unfold leftAns at h
  split at h
  · rename_i hg; exact ⟨hg, by omega⟩
  · omega

theorem treeAns_small {j : Jb} (fj : j.Fits) (hs : j.size ≤ 1048576) : SmTr (treeAns j) := by
  unfold treeAns
  split
  · rename_i h
    obtain ⟨hg, hq⟩ := left_zero h
    have hs' := hs
    unfold Jb.size Tr.size Dp.size at hs'
    have hone := one_nds hg.tree (by omega) hg.ok
    refine ⟨⟨fj.q, fj.e, fj.d.date⟩, by unfold Tr.size; show j.q + sizeTo j.e j.q ≤ _; omega, fun i hi => ?_⟩
    obtain ⟨a1, a2⟩ := same_nn (hg.done i hi)
    have := hone i (by have : i < j.q := hi; omega)
    show (j.e i).nn ≤ _ ∧ (j.e i).kn ≤ _
    omega
  · exact trNone_small
end Go.Proofs.YtakifcobofkheaaGreatDoor

/-
  What is held while a list of places grows in one cell of a variable. Plain facts.
-/
namespace Go.Proofs.YtakifcobofkheaaGreatDoor
open Go.RowKit Go.Deep
set_option linter.unusedVariables false
set_option linter.unusedSimpArgs false

/-- The variable in block V, which was there in W0: cell f holds the list; the lists are new since W0, all else is as it was. -/
structure GV (W0 : World) (V f : Nat) (ty : TypeId) (cs : Value → Array Value) (k : Nat) (a : Option Addr) (c : Nat) (E : Nat → Nd) (M : Nat → Loc) (W : World) : Prop where
  v : Blk W V (cs (.slice a k c)) ty
  gr : W0.grownBy W (some V)
  vl : V < W0.heap.size
  ot : OT W W0.heap.size 0 (fun _ => false) k (fun _ => 0) E M (.slice none 0 0) (.slice a k c)

section
variable {W0 W W1 W' : World} {V f : Nat} {ty : TypeId} {cs : Value → Array Value} {k : Nat} {a : Option Addr} {c : Nat} {E : Nat → Nd} {M : Nat → Loc}

theorem GV.start (h : Blk W0 V (cs (.slice none 0 0)) ty) (E : Nat → Nd) (M : Nat → Loc) : GV W0 V f ty cs 0 none 0 E M W0 := ⟨h, grown_refl _ _, h.lt, OT.start _ _ _ _ _ _⟩
theorem GV.below (h : GV W0 V f ty cs k a c E M W) (hb : Below W.heap.size W W') : GV W0 V f ty cs k a c E M W' := ⟨h.v.below hb h.v.lt, grown_trans h.gr (grown_of_below hb _), h.vl, h.ot.below hb⟩
theorem GV.size (h : GV W0 V f ty cs k a c E M W) : W0.heap.size ≤ W.heap.size := h.gr.size
theorem GV.keep (h : GV W0 V f ty cs k a c E M W) {b : Nat} (hb : b < W0.heap.size) (hV : b ≠ V) : W.heap[b]? = W0.heap[b]? := h.gr.block b hb (fun e => hV (Option.some.inj e))
theorem GV.own (h : GV W0 V f ty cs k a c E M W) : ∀ q, (Value.slice a k c).ownBlock = some q → W0.heap.size ≤ q ∧ q < W.heap.size := fun q e => owns_block h.ot.ownI e

theorem GV.item (h : GV W0 V f ty cs k a c E M W) (hset : ∀ s s' : Value, (cs s).setIfInBounds f s' = cs s') {x : Nd} {l : Loc} (hN : NewNn W x l W1) {b c' : Nat} (hg : W1.grownBy W' (Value.slice a k c).ownBlock)
    (hown : W'.ownsRow W0.heap.size 87 5 (.slice (some ⟨b, 0, none⟩) (k + 1) c') (k + 1) (rowsT (fun _ => 0) E M k ++ nt5 0 x l)) (hb : (Value.slice a k c).ownBlock = some b ∨ W1.heap.size ≤ b) :
    GV W0 V f ty cs (k + 1) (some ⟨b, 0, none⟩) c' (fun i => if i = k then x else E i) (fun i => if i = k then l else M i) (W'.setCell ⟨V, f, none⟩ (.slice (some ⟨b, 0, none⟩) (k + 1) c')) := by
  have h1 := h.below hN.bel
  have hvl := h.vl
  have hne : (Value.slice a k c).ownBlock ≠ some V := fun e => by have := h.own _ e; omega
  have hg' : W0.grownBy W' (some V) := ⟨hg.os.trans h1.gr.os, hg.tape.trans h1.gr.tape, hg.output.trans h1.gr.output, Nat.le_trans h1.gr.size hg.size, fun q hq hqV => (hg.block q (Nat.lt_of_lt_of_le hq h1.gr.size) (fun e => by have := h.own _ e.symm; omega)).trans (h1.gr.block q hq hqV)⟩
  refine ⟨?_, ⟨hg'.os, hg'.tape, hg'.output, by have := hg'.size; simpa [World.setCell] using this, fun q hq hqV => (blk_setCell_other _ _ _ _ (show q ≠ V from fun e => hqV (by rw [e]))).trans (hg'.block q hq hqV)⟩, hvl, ?_⟩
  · have := (h1.v.of_block (hg.block V h1.v.lt (fun e => hne e.symm))).set f (.slice (some ⟨b, 0, none⟩) (k + 1) c')
    rwa [hset] at this
  · exact (h.ot.more hN h.size hg hown hb).off _ hvl
end

/-- Both are as they were, where only a variable's block and new ones have turned. -/
theorem OwnTr.grown {W W' : World} {B : Nat} {t : Tr} {l : TLoc} (h : OwnTr W B t l) {V : Nat} (hg : W.grownBy W' (some V)) (hV : ¬ BkT t l V) : OwnTr W' B t l := h.keep fun b e => hg.block b (h.blk e).2 (fun e' => hV (Option.some.inj e' ▸ e))
theorem OwnDp.grown {W W' : World} {B : Nat} {d : Dp} {l : DLoc} (h : OwnDp W B d l) {V : Nat} (hg : W.grownBy W' (some V)) (hV : ¬ BkD d l V) : OwnDp W' B d l := h.keep fun b e => hg.block b (h.blk e).2 (fun e' => hV (Option.some.inj e' ▸ e))
end Go.Proofs.YtakifcobofkheaaGreatDoor

/-
  What l2Tree of the specification answers: the same tree in new memory.
-/
namespace Go.Proofs.YtakifcobofkheaaGreatDoor
open Go.RowKit Go.Deep
set_option linter.unusedVariables false
set_option linter.unusedSimpArgs false
set_option linter.unnecessarySimpa false

theorem blk_grownT {w w' : World} {b : Nat} {cs : Array Value} {t : TypeId} {r : Option Nat} (h : Blk w b cs t) (hg : w.grownBy w' r) (hr : r ≠ some b) : Blk w' b cs t := h.of_block (hg.block b h.lt (fun e => hr e.symm))

/-- The boxes. -/
structure Tc (w : World) (a : Option Addr) (n c : Nat) (now : Int) (W : World) : Prop where
  p : Blk W w.heap.size #[.slice a n c, .int .i64 now] 33
  r : Blk W (w.heap.size + 1) #[.slice none 0 0, .int .i64 0] 33
  bel : Below w.heap.size w W

theorem Tc.below {w : World} {a : Option Addr} {n c : Nat} {now : Int} {W W' : World} (h : Tc w a n c now W) (hb : Below W.heap.size W W') : Tc w a n c now W' := ⟨h.p.below hb h.p.lt, h.r.below hb h.r.lt, h.bel.trans (hb.mono h.bel.size)⟩

theorem Tc.of {w W0 : World} {a : Option Addr} {n c : Nat} {now : Int} (h : Tc w a n c now W0) {V : Nat} {t : Int} {k : Nat} {b : Option Addr} {bc : Nat} {E : Nat → Nd} {M : Nat → Loc} {W : World} (g : GT W0 V t k b bc E M W) (hV : w.heap.size + 1 < V) : Tc w a n c now W :=
  ⟨h.p.of_block (g.keep h.p.lt (by omega)), h.r.of_block (g.keep h.r.lt (by omega)), h.bel.grown g.gr (by have := h.bel.size; omega) (fun j e => by have := Option.some.inj e; omega)⟩

set_option maxRecDepth 100000 in
set_option maxHeartbeats 8000000 in
theorem l2Tree_any (a : Option Addr) (n c : Nat) (now : Int) (D : Nat → Nd) (L : Nat → Loc) (w : World) (hS : IsNds w a n D L) (hn : n ≤ 1000) (hsz : sizeTo D n ≤ 1048576) :
    Calls Tryz.prog 65 #[trV a n c now] w fun e w' => ∃ b bc M, e = .returned (.agg #[.slice b n bc, .int .i64 now]) ∧ Below w.heap.size w w' ∧ OT w' w.heap.size 0 (fun _ => false) n (fun _ => 0) D M (.slice none 0 0) (.slice b n bc) := by
  unfold trV
  obtain ⟨y0, hy, hy0, hy1, hy2⟩ := info_parts infoNode
  have htS := tr_small hsz
  go_enter Tryz.func65, Tryz.ntmps65
  go_wp2_with fail
  refine wp_world (F := fun W => Tc w a n c now W ∧ Blk W (w.heap.size + 1 + 1) #[.slice none 0 0, .int .i64 now] 33 ∧ w.heap.size + 3 ≤ W.heap.size) ?_ ?_
  · obtain ⟨h0, h1, h2, hb, hs⟩ := new3 w #[.slice a n c, .int .i64 now] 33 #[.slice none 0 0, .int .i64 0] 33 #[.slice none 0 0, .int .i64 now] 33
    exact ⟨⟨h0, h1, hb⟩, h2, by omega⟩
  rintro W0 ⟨hO, hV, hs0⟩
  have HO : Hid (Tc w a n c now W0) := hO
  have HG : Hid (GT W0 (w.heap.size + 1 + 1) now 0 none 0 (fun _ => ndZero) (fun _ => ⟨none, 0, none, 0⟩) W0) := GT.start hV _ _
  clear hO hV
  go_loopw [4] (fun i wr => ∃ (k : Nat) (b : Option Addr) (bc : Nat) (E : Nat → Nd) (M : Nat → Loc), k ≤ n ∧ i = .int .i64 k ∧ GT W0 (w.heap.size + 1 + 1) now k b bc E M wr ∧ ∀ i, i < k → E i = D i) (fun i _ => n - (intOf i).toNat)
  case atStart => exact ⟨0, none, 0, _, _, Nat.zero_le _, rfl, HG.out, fun i hi => absurd hi (Nat.not_lt_zero _)⟩
  case round =>
    obtain ⟨k, b, bc, E, M, hk, rfl, hin, hsel⟩ := hrel
    have HIN : Hid (GT W0 (w.heap.size + 1 + 1) now k b bc E M wr ∧ ∀ i, i < k → E i = D i) := ⟨hin, hsel⟩
    have HT : Hid (Tc w a n c now wr) := HO.out.of hin (by omega)
    have hsw : w.heap.size + 3 ≤ wr.heap.size := by have := hin.size; omega
    clear hin hsel
    have p0 : wr.cell? ⟨w.heap.size, 0, none⟩ = some (.slice a n c) := HT.out.p.cell 0
    have v0 : wr.cell? ⟨w.heap.size + 1 + 1, 0, none⟩ = some (.slice b k bc) := HIN.out.1.v.cell 0
    have v1 : wr.cell? ⟨w.heap.size + 1 + 1, 1, none⟩ = some (.int .i64 now) := HIN.out.1.v.cell 1
    by_cases hlt : k < n
    · have hlti : (k : Int) < (n : Int) := by omega
      obtain ⟨bT, oT, hT, hTl, hTc⟩ := (hS.below (Nat.le_refl _) HT.out.bel).at hlt
      have HTA : Hid (a = some ⟨bT, oT, none⟩) := hT
      clear hT hTc
      go_wp2_with fail
      have HW : Hid (bT < w.heap.size ∧ ∀ W', Below wr.heap.size wr W' → (W'.cell? ⟨w.heap.size + 1 + 1, 0, none⟩ = some (.slice b k bc) ∧ W'.cell? ⟨w.heap.size, 0, none⟩ = some (.slice (some ⟨bT, oT, none⟩) n c) ∧ W'.cell? ⟨bT, oT + k * 5, none⟩ = some (.int .i64 (D k).kind) ∧ W'.cell? ⟨bT, oT + k * 5 + 1, none⟩ = some (.string (D k).text) ∧ W'.cell? ⟨bT, oT + k * 5 + 2, none⟩ = some (.slice (L k).nA (D k).nn (L k).nc) ∧ W'.cell? ⟨bT, oT + k * 5 + 3, none⟩ = some (.slice (L k).kA (D k).kn (L k).kc) ∧ W'.cell? ⟨bT, oT + k * 5 + 4, none⟩ = some (.int .i64 (D k).turn)) ∧ NdIn W' (D k) (L k)) := by
        show _ ∧ _
        obtain ⟨bI, oI, hQ, hbl, _⟩ := hS.at hlt
        have hQT := HTA.out
        rw [hQ] at hQT
        obtain ⟨rfl, rfl⟩ : bI = bT ∧ oI = oT := by cases hQT; exact ⟨rfl, rfl⟩
        refine ⟨by omega, fun W' hW => ?_⟩
        have hcc : W'.cell? ⟨w.heap.size, 0, none⟩ = some (.slice a n c) := (HT.out.below hW).p.cell 0
        have hv3 : W'.cell? ⟨w.heap.size + 1 + 1, 0, none⟩ = some (.slice b k bc) := (HIN.out.1.below hW).v.cell 0
        obtain ⟨bI', oI', hQ', _, hc'⟩ := ((hS.below (Nat.le_refl _) HT.out.bel).below (Nat.le_refl _) hW).at hlt
        obtain ⟨d1, d2, d3, d4, d5, d6⟩ := hc' k hlt
        rw [hQ] at hQ'
        cases hQ'
        refine ⟨⟨hv3, ?_, d1, d2, d3, d4, d5⟩, d6⟩
        rw [← hQ]
        exact hcc
      obtain ⟨hbIl, hSt⟩ := HW.out
      have HSt : Hid _ := hSt
      have hsm := htS k hlt
      clear p0 v0 v1 hSt HW
      have hd5 : Below wr.heap.size wr wr.drew := below_drewN (Below.refl _ _) 1
      refine wp_region_noPanic ?_
      refine wp_region_peel2 (fun W' => W'.cell? ⟨w.heap.size + 1 + 1, 0, none⟩ = some (.slice b k bc) ∧ W'.cell? ⟨w.heap.size, 0, none⟩ = some (.slice (some ⟨bT, oT, none⟩) n c) ∧ W'.cell? ⟨bT, oT + k * 5, none⟩ = some (.int .i64 (D k).kind) ∧ W'.cell? ⟨bT, oT + k * 5 + 1, none⟩ = some (.string (D k).text) ∧ W'.cell? ⟨bT, oT + k * 5 + 2, none⟩ = some (.slice (L k).nA (D k).nn (L k).nc) ∧ W'.cell? ⟨bT, oT + k * 5 + 3, none⟩ = some (.slice (L k).kA (D k).kn (L k).kc) ∧ W'.cell? ⟨bT, oT + k * 5 + 4, none⟩ = some (.int .i64 (D k).turn)) _ _ (by kernel_rfl) rfl rfl (by kernel_rfl) (by kernel_rfl) ?_ (fun hHeld => ?_)
      · exact (HSt.out _ hd5).1
      simp only [List.pop_toArray, List.dropLast, List.size_toArray, List.length_cons, List.length_nil, Nat.reduceAdd, Nat.reduceSub, List.getElem_toArray, List.getElem_cons_succ, List.getElem_cons_zero]
      refine peel_take (i := 0) (oi := ?oi0y) (v := ?v0y) (fun _ _ _ _ _ h => h) hHeld ?hi0y (by kernel_rfl) (by kernel_rfl) (by kernel_rfl) ?hw0y ?hy0y ?rest0y
      case hi0y =>
        simp only [List.getElem?_toArray, List.getElem?_cons_zero]
        rfl
      case hw0y => rfl
      case hy0y =>
        intro w hSw
        obtain ⟨s0, s1, s2, s3, s4, s5, s6⟩ := hSw
        go_simp
        try with_reducible rfl
      try simp only [Act.put, List.setIfInBounds_toArray, List.set_cons_zero, List.set_cons_succ]
      refine peel_take (i := 1) (oi := ?oi1y) (v := ?v1y) (fun _ _ _ _ _ h => h) hHeld ?hi1y (by kernel_rfl) (by kernel_rfl) (by kernel_rfl) ?hw1y ?hy1y ?rest1y
      case hi1y =>
        simp only [List.getElem?_toArray, List.getElem?_cons_succ, List.getElem?_cons_zero]
        rfl
      case hw1y => rfl
      case hy1y =>
        intro w hSw
        obtain ⟨s0, s1, s2, s3, s4, s5, s6⟩ := hSw
        go_simp
        try with_reducible rfl
      try simp only [Act.put, List.setIfInBounds_toArray, List.set_cons_zero, List.set_cons_succ]
      refine peel_take (i := 2) (oi := ?oi2y) (v := ?v2y) (fun _ _ _ _ _ h => h) hHeld ?hi2y (by kernel_rfl) (by kernel_rfl) (by kernel_rfl) ?hw2y ?hy2y ?rest2y
      case hi2y =>
        simp only [List.getElem?_toArray, List.getElem?_cons_succ, List.getElem?_cons_zero]
        rfl
      case hw2y => rfl
      case hy2y =>
        intro w hSw
        obtain ⟨s0, s1, s2, s3, s4, s5, s6⟩ := hSw
        go_simp
        try with_reducible rfl
      try simp only [Act.put, List.setIfInBounds_toArray, List.set_cons_zero, List.set_cons_succ]
      refine peel_take (i := 3) (oi := ?oi3y) (v := ?v3y) (fun _ _ _ _ _ h => h) hHeld ?hi3y (by kernel_rfl) (by kernel_rfl) (by kernel_rfl) ?hw3y ?hy3y ?rest3y
      case hi3y =>
        simp only [List.getElem?_toArray, List.getElem?_cons_succ, List.getElem?_cons_zero]
        rfl
      case hw3y => rfl
      case hy3y =>
        intro w hSw
        obtain ⟨s0, s1, s2, s3, s4, s5, s6⟩ := hSw
        go_simp
        try with_reducible rfl
      try simp only [Act.put, List.setIfInBounds_toArray, List.set_cons_zero, List.set_cons_succ]
      refine peel_take (i := 4) (oi := ?oi4y) (v := ?v4y) (fun _ _ _ _ _ h => h) hHeld ?hi4y (by kernel_rfl) (by kernel_rfl) (by kernel_rfl) ?hw4y ?hy4y ?rest4y
      case hi4y =>
        simp only [List.getElem?_toArray, List.getElem?_cons_succ, List.getElem?_cons_zero]
        rfl
      case hw4y => rfl
      case hy4y =>
        intro w hSw
        obtain ⟨s0, s1, s2, s3, s4, s5, s6⟩ := hSw
        go_simp
        try with_reducible rfl
      try simp only [Act.put, List.setIfInBounds_toArray, List.set_cons_zero, List.set_cons_succ]
      refine peel_take (i := 5) (oi := ?oi5y) (v := ?v5y) (fun _ _ _ _ _ h => h) hHeld ?hi5y (by kernel_rfl) (by kernel_rfl) (by kernel_rfl) ?hw5y ?hy5y ?rest5y
      case hi5y =>
        simp only [List.getElem?_toArray, List.getElem?_cons_succ, List.getElem?_cons_zero]
        rfl
      case hw5y => rfl
      case hy5y =>
        intro w hSw
        obtain ⟨s0, s1, s2, s3, s4, s5, s6⟩ := hSw
        go_simp
        try with_reducible rfl
      try simp only [Act.put, List.setIfInBounds_toArray, List.set_cons_zero, List.set_cons_succ]
      refine peel_take (i := 6) (oi := ?oi6y) (v := ?v6y) (fun _ _ _ _ _ h => h) hHeld ?hi6y (by kernel_rfl) (by kernel_rfl) (by kernel_rfl) ?hw6y ?hy6y ?rest6y
      case hi6y =>
        simp only [List.getElem?_toArray, List.getElem?_cons_succ, List.getElem?_cons_zero]
        rfl
      case hw6y => rfl
      case hy6y =>
        intro w hSw
        obtain ⟨s0, s1, s2, s3, s4, s5, s6⟩ := hSw
        go_simp
        try with_reducible rfl
      try simp only [Act.put, List.setIfInBounds_toArray, List.set_cons_zero, List.set_cons_succ]
      refine wpAnyH_ready (rs := [7]) (by kernel_rfl) (by simp) ?_
      refine AllReadyH.cons (o := ?o7y) ?ho7y (fun K hK => ?st7y) AllReadyH.nil
      case ho7y =>
        simp only [List.getElem?_toArray, List.getElem?_cons_succ, List.getElem?_cons_zero]
        rfl
      go_simp
      refine (l2Copy_any (D k) (L k) wr.drew (HSt.out _ hd5).2 hsm.1 hsm.2.1).mono ?_
      rintro e W6 ⟨l5, rfl, hN5⟩
      unfold ndV
      have hb6 : Below wr.heap.size wr W6 := hd5.trans hN5.bel
      refine hK.out _ _ (HSt.out W6 hb6).1 (fun hHeld => ?re7y)
      clear hK K
      try simp only [Act.put, List.setIfInBounds_toArray, List.set_cons_zero, List.set_cons_succ]
      refine wpAnyH_ready (rs := [8]) (by kernel_rfl) (by simp) ?_
      refine AllReadyH.cons (o := ?o8y) ?ho8y (fun K hK => ?st8y) AllReadyH.nil
      case ho8y =>
        simp only [List.getElem?_toArray, List.getElem?_cons_succ, List.getElem?_cons_zero]
        rfl
      go_simp
      have hb7 : Below wr.heap.size wr (W6.alloc (.cells #[.int .i64 (D k).kind, .string (D k).text, .slice l5.nA (D k).nn l5.nc, .slice l5.kA (D k).kn l5.kc, .int .i64 (D k).turn] 87)) := hb6.alloc hb6.size _
      refine hK.out _ _ (HSt.out _ hb7).1 (fun hHeld => ?re8y)
      clear hK K
      try simp only [Act.put, List.setIfInBounds_toArray, List.set_cons_zero, List.set_cons_succ]
      refine wpAnyH_ready (rs := [9]) (by kernel_rfl) (by simp) ?_
      refine AllReadyH.cons (o := ?o9y) ?ho9y (fun K hK => ?st9y) AllReadyH.nil
      case ho9y =>
        simp only [List.getElem?_toArray, List.getElem?_cons_succ, List.getElem?_cons_zero]
        rfl
      have hD6 := HIN.out.1.below hb7
      have hN6 := hN5.new.alloc (.cells #[.int .i64 (D k).kind, .string (D k).text, .slice l5.nA (D k).nn l5.nc, .slice l5.kA (D k).kn l5.kc, .int .i64 (D k).turn] 87)
      have hneV : (Value.slice b k bc).ownBlock ≠ some (w.heap.size + 1 + 1) := fun e => by have := HIN.out.1.own _ e; omega
      have hbo5 : ∀ q, (Value.slice b k bc).ownBlock = some q → W0.heap.size ≤ q := fun q e => (HIN.out.1.own q e).1
      refine step_of (by rfl) (wp_append_src (.tmp 16) (.tmp 23) 31 rfl W0.heap.size 87 y0 (.agg #[.int .i64 0, .string ByteArray.empty, .slice none 0 0, .slice none 0 0, .int .i64 0]) 5 80 Tryz.underlying31 hy hy0 hy1 hy2 rfl (by decide) (.slice b k bc) k _ (by rfl) hD6.ot.ownI _ 1 _ (by rfl) (src_node W6 (D k) l5) (by unfold maxLen; omega) (by omega) (by have := hb7.size; have := HIN.out.1.size; omega) ?_)
      intro vI W7 hown hgrow hnil hat
      rcases hown.2 with ⟨_, h0⟩ | ⟨gI, cI, cur, hvI, _, _, _⟩
      · omega
      subst hvI
      have hbI : (Value.slice b k bc).ownBlock = some gI ∨ (W6.alloc (.cells #[.int .i64 (D k).kind, .string (D k).text, .slice l5.nA (D k).nn l5.nc, .slice l5.kA (D k).kn l5.kc, .int .i64 (D k).turn] 87)).heap.size ≤ gI := by
        rcases hat with e | e
        · exact Or.inl e.symm
        · right
          have e' : gI = (W6.alloc (.cells #[.int .i64 (D k).kind, .string (D k).text, .slice l5.nA (D k).nn l5.nc, .slice l5.kA (D k).kn l5.kc, .int .i64 (D k).turn] 87)).heap.size := by simpa [Value.ownBlock] using e
          omega
      have hV7 := blk_grownT hD6.v hgrow hneV
      have hHeld7 : W7.cell? ⟨w.heap.size + 1 + 1, 0, none⟩ = some (.slice b k bc) ∧ W7.cell? ⟨w.heap.size, 0, none⟩ = some (.slice (some ⟨bT, oT, none⟩) n c) ∧ W7.cell? ⟨bT, oT + k * 5, none⟩ = some (.int .i64 (D k).kind) ∧ W7.cell? ⟨bT, oT + k * 5 + 1, none⟩ = some (.string (D k).text) ∧ W7.cell? ⟨bT, oT + k * 5 + 2, none⟩ = some (.slice (L k).nA (D k).nn (L k).nc) ∧ W7.cell? ⟨bT, oT + k * 5 + 3, none⟩ = some (.slice (L k).kA (D k).kn (L k).kc) ∧ W7.cell? ⟨bT, oT + k * 5 + 4, none⟩ = some (.int .i64 (D k).turn) := by
        obtain ⟨e0, e1, e2, e3, e4, e5, e6⟩ := (HSt.out _ hb7).1
        have hlow : ∀ q o v, q < W0.heap.size → (W6.alloc (.cells #[.int .i64 (D k).kind, .string (D k).text, .slice l5.nA (D k).nn l5.nc, .slice l5.kA (D k).kn l5.kc, .int .i64 (D k).turn] 87)).cell? ⟨q, o, none⟩ = some v → W7.cell? ⟨q, o, none⟩ = some v := fun q o v hq h => hgrow.cell h (fun e => by have := hbo5 q e.symm; omega)
        exact ⟨hV7.cell 0, hlow _ _ _ (by omega) e1, hlow _ _ _ (by omega) e2, hlow _ _ _ (by omega) e3, hlow _ _ _ (by omega) e4, hlow _ _ _ (by omega) e5, hlow _ _ _ (by omega) e6⟩
      have H8 : Hid _ := (HIN.out.1.below hd5).item hN6 hgrow hown hbI
      refine hK.out _ _ hHeld7 (fun hHeld => ?re9y)
      clear hK K
      try simp only [Act.put, List.setIfInBounds_toArray, List.set_cons_zero, List.set_cons_succ]
      refine wpAnyH_done (by kernel_rfl) ?_ _
      show Oper.wp _ _ _ _ _ _
      have v07 : W7.cell? ⟨w.heap.size + 1 + 1, 0, none⟩ = some (.slice b k bc) := hV7.cell 0
      have f07 := hV7.frozen 0
      clear hown hgrow hnil hat hbI hV7 hHeld7 hN6 hD6 hN5 HSt hneV hHeld hd5 hb6 hb7 hsm hbo5
      go_simp
      show Oper.wp _ _ _ _ _ _
      go_simp
      refine NoPanic.normal ?_
      go_wp2_with fail
      go_roundw
      case rel => exact ⟨k + 1, some ⟨gI, 0, none⟩, cI, _, _, by omega, by go_num, H8.out, fun i hi => by
        by_cases e : i = k
        · subst e; simp
        · simp only [e, if_false]; exact HIN.out.2 i (by omega)⟩
      case measure => simp [intOf]; omega
    · obtain rfl : k = n := by omega
      have HOT : Hid (OT wr W0.heap.size 0 (fun _ => false) k (fun _ => 0) D M (.slice none 0 0) (.slice b k bc)) := HIN.out.1.ot.ext fun i hi => ⟨(HIN.out.2 i hi).symm, rfl⟩
      have r0 : wr.cell? ⟨w.heap.size + 1, 0, none⟩ = some (.slice none 0 0) := HT.out.r.cell 0
      have r1 : wr.cell? ⟨w.heap.size + 1, 1, none⟩ = some (.int .i64 0) := HT.out.r.cell 1
      have g0 := HT.out.r.frozen 0
      have g1 := HT.out.r.frozen 1
      go_wp2_with fail
      refine end_world (F := fun U => Blk U (w.heap.size + 1) #[.slice b k bc, .int .i64 now] 33 ∧ Below w.heap.size w U ∧ OT U w.heap.size 0 (fun _ => false) k (fun _ => 0) D M (.slice none 0 0) (.slice b k bc)) ⟨(HT.out.r.set 0 _).set 1 _, bel_put (bel_put HT.out.bel _ (by omega)) _ (by omega), OT.lower ((HOT.out.off _ (by omega)).off _ (by omega)) (by omega)⟩ ?_
      rintro U ⟨hr, hB, hot⟩
      have e0 : U.cell? ⟨w.heap.size + 1, 0, none⟩ = some (.slice b k bc) := hr.cell 0
      have e1 : U.cell? ⟨w.heap.size + 1, 1, none⟩ = some (.int .i64 now) := hr.cell 1
      exact bodyPost_ret (v := .agg #[.slice b k bc, .int .i64 now]) (by simp [results, Tryz.results65, go_sem, e0, e1]) rfl ⟨b, bc, M, rfl, hB, hot⟩

theorem l2Tree_own (t : Tr) (l : TLoc) (w : World) (hI : TIn w t l) (hn : t.n ≤ 1000) (hs : t.size ≤ 1048576) :
    Calls Tryz.prog 65 #[tV t l] w fun e w' => ∃ l', e = .returned (tV t l') ∧ Below w.heap.size w w' ∧ OwnTr w' w.heap.size t l' := by
  refine (l2Tree_any l.a t.n l.c t.now t.D l.L w hI hn (by unfold Tr.size at hs; omega)).mono ?_
  rintro e w' ⟨b, bc, M, rfl, hb, ho⟩
  exact ⟨⟨b, bc, M⟩, rfl, hb, ho⟩
end Go.Proofs.YtakifcobofkheaaGreatDoor

/-
  What l5Copy of the specification answers: the same, in new memory.
-/
namespace Go.Proofs.YtakifcobofkheaaGreatDoor
open Go.RowKit Go.Deep
set_option linter.unusedVariables false
set_option linter.unusedSimpArgs false
set_option linter.unnecessarySimpa false

/-- The boxes. -/
structure Dc (w : World) (d : Dp) (l : DLoc) (W : World) : Prop where
  p : Blk W w.heap.size (pC d l) 36
  r : Blk W (w.heap.size + 1) #[.int .i64 0, .int .i64 0, .slice none 0 0, .slice none 0 0] 36
  bel : Below w.heap.size w W

theorem Dc.below {w : World} {d : Dp} {l : DLoc} {W W' : World} (h : Dc w d l W) (hb : Below W.heap.size W W') : Dc w d l W' := ⟨h.p.below hb h.p.lt, h.r.below hb h.r.lt, h.bel.trans (hb.mono h.bel.size)⟩

/-- The blocks that are kept. -/
def DcX (w : World) (j : Nat) : Prop := j = w.heap.size ∨ j = w.heap.size + 1

theorem Dc.of {w W0 : World} {d : Dp} {l : DLoc} (h : Dc w d l W0) {B : Nat} {since date : Int} {n : Nat} {Z : Nat → Bool} {V : Nat} {lA : Option Addr} {lc m : Nat} {ia : Option Addr} {ic : Nat} {O : Nat → Int} {E : Nat → Nd} {M : Nat → Loc} {W : World} (g : GOf w W0 B (DcX w) since date n Z V lA lc m ia ic O E M W) : Dc w d l W :=
  ⟨h.p.of_block (g.kept _ (Or.inl rfl)), h.r.of_block (g.kept _ (Or.inr rfl)), g.bel⟩

set_option maxRecDepth 100000 in
set_option maxHeartbeats 8000000 in
theorem l5Copy_any (d : Dp) (l : DLoc) (w : World) (hD : DpIn w d l) (hok : d.ok = true) (hs : d.size ≤ 1048576) :
    Calls Tryz.prog 75 #[dpV d l] w fun e w' => ∃ l', e = .returned (dpV d l') ∧ Below w.heap.size w w' ∧ OwnDp w' w.heap.size d l' := by
  unfold dpV
  obtain ⟨q0, hq, hq0, hq1, hq2⟩ := info_parts infoBool
  obtain ⟨y0, hy, hy0, hy1, hy2⟩ := info_parts infoItem
  have hln1 := (ok_head1 hok).1
  have hln10 := (ok_head1 hok).2
  have hm10 := m_small hok
  go_enter Tryz.func75, Tryz.ntmps75
  go_wp2_with fail
  refine wp_world (F := fun W => Dc w d l W ∧ w.heap.size + 2 ≤ W.heap.size) ?_ ?_
  · obtain ⟨h0, h1, hb, hs'⟩ := new2 w (pC d l) 36 #[.int .i64 0, .int .i64 0, .slice none 0 0, .slice none 0 0] 36
    exact ⟨⟨h0, h1, hb⟩, by simp⟩
  rintro w2 ⟨hO, hs2⟩
  have H2 : Hid (Dc w d l w2) := hO
  clear hO
  have HX : Hid (∀ j, DcX w j → j < w2.heap.size) := fun j hj => by unfold DcX at hj; omega
  have HSrc : Hid (∀ W', Below w2.heap.size w2 W' → Src W' 1 (.slice l.lA d.ln l.lc) d.ln (boolv d.ln d.live)) := fun W' hW => bools_src ((hD.live.below (Nat.le_refl _) H2.out.bel).below (Nat.le_refl _) hW) hln1 _
  have HSt : Hid (∀ W', Below w2.heap.size w2 W' → W'.cell? ⟨w.heap.size, 0, none⟩ = some (.int .i64 d.since) ∧ W'.cell? ⟨w.heap.size, 1, none⟩ = some (.int .i64 d.date) ∧ W'.cell? ⟨w.heap.size, 2, none⟩ = some (.slice l.lA d.ln l.lc)) := fun W' hW => by
    have h := pC_cells (H2.out.below hW).p
    exact ⟨h.1, h.2.1, h.2.2.1⟩
  apply wp_cutqT (X := Nat) (Y := Nat) (Z := Nat) (U := Nat) (fun V g c' _ W => GOf w w2 w2.heap.size (DcX w) d.since d.date d.ln d.live V (some ⟨g, 0, none⟩) c' 0 none 0 (fun _ => 0) d.nd l.L W)
  · intro key
    have KEY : Hid _ := key
    clear key
    refine wp_region_noPanic ?_
    have hB0 : Below w2.heap.size w2 w2.drew := (Below.refl _ _).drew
    refine wp_region_peel (fun W' => W'.cell? ⟨w.heap.size, 0, none⟩ = some (.int .i64 d.since) ∧ W'.cell? ⟨w.heap.size, 1, none⟩ = some (.int .i64 d.date) ∧ W'.cell? ⟨w.heap.size, 2, none⟩ = some (.slice l.lA d.ln l.lc)) _ (by kernel_rfl) rfl (by kernel_rfl) ?_ (fun hHeld => ?_)
    · exact HSt.out _ hB0
    simp only [List.pop_toArray, List.dropLast, List.size_toArray, List.length_cons, List.length_nil, Nat.reduceAdd, Nat.reduceSub, List.getElem_toArray, List.getElem_cons_succ, List.getElem_cons_zero]
    refine peel_take (i := 0) (oi := ?oi0a) (v := ?v0a) (fun _ _ _ _ _ h => h) hHeld ?hi0a (by kernel_rfl) (by kernel_rfl) (by kernel_rfl) ?hw0a ?hy0a ?rest0a
    case hi0a =>
      simp only [List.getElem?_toArray, List.getElem?_cons_zero]
      rfl
    case hw0a => rfl
    case hy0a =>
      intro w hSw
      obtain ⟨s0, s1, s2⟩ := hSw
      go_simp
      try with_reducible rfl
    try simp only [Act.put, List.setIfInBounds_toArray, List.set_cons_zero, List.set_cons_succ]
    refine peel_take (i := 1) (oi := ?oi1a) (v := ?v1a) (fun _ _ _ _ _ h => h) hHeld ?hi1a (by kernel_rfl) (by kernel_rfl) (by kernel_rfl) ?hw1a ?hy1a ?rest1a
    case hi1a =>
      simp only [List.getElem?_toArray, List.getElem?_cons_succ, List.getElem?_cons_zero]
      rfl
    case hw1a => rfl
    case hy1a =>
      intro w hSw
      obtain ⟨s0, s1, s2⟩ := hSw
      go_simp
      try with_reducible rfl
    try simp only [Act.put, List.setIfInBounds_toArray, List.set_cons_zero, List.set_cons_succ]
    refine peel_take (i := 2) (oi := ?oi2a) (v := ?v2a) (fun _ _ _ _ _ h => h) hHeld ?hi2a (by kernel_rfl) (by kernel_rfl) (by kernel_rfl) ?hw2a ?hy2a ?rest2a
    case hi2a =>
      simp only [List.getElem?_toArray, List.getElem?_cons_succ, List.getElem?_cons_zero]
      rfl
    case hw2a => rfl
    case hy2a =>
      intro w hSw
      obtain ⟨s0, s1, s2⟩ := hSw
      go_simp
      try with_reducible rfl
    try simp only [Act.put, List.setIfInBounds_toArray, List.set_cons_zero, List.set_cons_succ]
    refine peel_take (i := 3) (oi := ?oi3a) (v := ?v3a) (fun _ _ _ _ _ h => h) hHeld ?hi3a (by kernel_rfl) (by kernel_rfl) (by kernel_rfl) ?hw3a ?hy3a ?rest3a
    case hi3a =>
      simp only [List.getElem?_toArray, List.getElem?_cons_succ, List.getElem?_cons_zero]
      rfl
    case hw3a => rfl
    case hy3a =>
      intro w hSw
      obtain ⟨s0, s1, s2⟩ := hSw
      go_simp
      try with_reducible rfl
    try simp only [Act.put, List.setIfInBounds_toArray, List.set_cons_zero, List.set_cons_succ]
    refine peel_take (i := 5) (oi := ?oi5a) (v := ?v5a) (fun _ _ _ _ _ h => h) hHeld ?hi5a (by kernel_rfl) (by kernel_rfl) (by kernel_rfl) ?hw5a ?hy5a ?rest5a
    case hi5a =>
      simp only [List.getElem?_toArray, List.getElem?_cons_succ, List.getElem?_cons_zero]
      rfl
    case hw5a => rfl
    case hy5a =>
      intro w hSw
      obtain ⟨s0, s1, s2⟩ := hSw
      go_simp
      try with_reducible rfl
    try simp only [Act.put, List.setIfInBounds_toArray, List.set_cons_zero, List.set_cons_succ]
    refine peel_take (i := 6) (oi := ?oi6a) (v := ?v6a) (fun _ _ _ _ _ h => h) hHeld ?hi6a (by kernel_rfl) (by kernel_rfl) (by kernel_rfl) ?hw6a ?hy6a ?rest6a
    case hi6a =>
      simp only [List.getElem?_toArray, List.getElem?_cons_succ, List.getElem?_cons_zero]
      rfl
    case hw6a => rfl
    case hy6a =>
      intro w hSw
      obtain ⟨s0, s1, s2⟩ := hSw
      go_simp
      try with_reducible rfl
    try simp only [Act.put, List.setIfInBounds_toArray, List.set_cons_zero, List.set_cons_succ]
    refine wpAnyH_ready (rs := [4, 9]) (by kernel_rfl) (by simp) ?_
    refine AllReadyH.cons (o := ?o4q1a) ?ho4q1a (fun K hK => ?st4q1a) ?more4q1a
    case ho4q1a =>
      simp only [List.getElem?_toArray, List.getElem?_cons_succ, List.getElem?_cons_zero]
      rfl
    case st4q1a =>
      go_simp
      have hBq1a : Below w2.heap.size w2 (w2.drew.alloc (.cells #[] 4)) := hB0.alloc hB0.size _
      have hoq1a : (w2.drew.alloc (.cells #[] 4)).ownsRow w2.heap.size 4 1 (.slice (some ⟨w2.heap.size, 0, none⟩) 0 0) 0 [] := by
        have h := owns_lit (w := w2.drew) hB0.size [] 4 1 0 rfl (by unfold maxLen; omega)
        simpa using h
      refine hK.out _ _ (HSt.out _ hBq1a) (fun hHeld => ?_)
      clear hK K
      try simp only [Act.put, List.setIfInBounds_toArray, List.set_cons_zero, List.set_cons_succ]
      refine wpAnyH_ready (rs := [7, 9]) (by kernel_rfl) (by simp) ?_
      refine AllReadyH.cons (o := ?o7q2a) ?ho7q2a (fun K hK => ?st7q2a) ?more7q2a
      case ho7q2a =>
        simp only [List.getElem?_toArray, List.getElem?_cons_succ, List.getElem?_cons_zero]
        rfl
      case st7q2a =>
        refine step_of (by rfl) (wp_append_src (.tmp 9) (.tmp 11) 25 rfl w2.heap.size 4 q0 (.bool false) 1 1 Tryz.underlying25 hq hq0 hq1 hq2 rfl (by decide) (.slice (some ⟨w2.heap.size, 0, none⟩) 0 0) 0 [] (by rfl) hoq1a _ d.ln (boolv d.ln d.live) (by rfl) (HSrc.out _ hBq1a) (by unfold maxLen; omega) (by omega) hBq1a.size ?_)
        intro vq2a wq2a hoq2a hgrq2a _ _
        rw [Nat.zero_add, List.nil_append] at hoq2a
        obtain ⟨g, c', rfl⟩ := bools_shape hoq2a hln1
        have hBq2a : Below w2.heap.size w2 wq2a := hBq1a.grown hgrq2a hBq1a.size (fun j e => (owns_block hoq1a e).1)
        refine hK.out _ _ (HSt.out _ hBq2a) (fun hHeld => ?_)
        clear hK K
        try simp only [Act.put, List.setIfInBounds_toArray, List.set_cons_zero, List.set_cons_succ]
        refine wpAnyH_ready (rs := [8, 9]) (by kernel_rfl) (by simp) ?_
        refine AllReadyH.cons (o := ?o8q3a) ?ho8q3a (fun K hK => ?st8q3a) ?more8q3a
        case ho8q3a =>
          simp only [List.getElem?_toArray, List.getElem?_cons_succ, List.getElem?_cons_zero]
          rfl
        case st8q3a =>
          go_simp
          refine hK.out _ _ hHeld (fun hHeld => ?_)
          clear hK K
          try simp only [Act.put, List.setIfInBounds_toArray, List.set_cons_zero, List.set_cons_succ]
          refine wpAnyH_ready (rs := [9]) (by kernel_rfl) (by simp) ?_
          refine AllReadyH.cons (o := ?o9q4a) ?ho9q4a (fun K hK => ?st9q4a) AllReadyH.nil
          case ho9q4a =>
            simp only [List.getElem?_toArray, List.getElem?_cons_succ, List.getElem?_cons_zero]
            rfl
          go_simp
          have hBq4a : Below w2.heap.size w2 (wq2a.alloc (.cells #[.int .i64 0, .int .i64 0, .slice none 0 0, .slice none 0 0] 36)) := hBq2a.alloc hBq2a.size _
          have hvq4a : Blk (wq2a.alloc (.cells #[.int .i64 0, .int .i64 0, .slice none 0 0, .slice none 0 0] 36)) (wq2a.heap.size) #[.int .i64 0, .int .i64 0, .slice none 0 0, .slice none 0 0] 36 := by
            have h := Blk.new wq2a #[.int .i64 0, .int .i64 0, .slice none 0 0, .slice none 0 0] 36
            simpa using h
          have hoq4a := hoq2a.alloc (.cells #[.int .i64 0, .int .i64 0, .slice none 0 0, .slice none 0 0] 36)
          have hVq4a : w2.heap.size ≤ wq2a.heap.size := by
            have h := hBq2a.size
            simpa using h
          refine hK.out _ _ (HSt.out _ hBq4a) (fun hHeld => ?_)
          clear hK K
          try simp only [Act.put, List.setIfInBounds_toArray, List.set_cons_zero, List.set_cons_succ]
          refine wpAnyH_done (by kernel_rfl) ?_ _
          have HS : Hid _ := GOf.start1 (w := w) (since := d.since) (date := d.date) (O := fun _ => 0) (E := d.nd) (M := l.L) H2.out.bel HX.out hBq2a hoq2a
          show Oper.wp _ _ _ _ _ _
          go_simp
          generalize hV : wq2a.heap.size = V
          generalize he0 : w2.heap.size = e0
          exact NoPanic.normal (KEY.out V g c' e0 _ (by first | (rw [← hV]; exact HS.out) | (rw [← hV, ← he0]; exact HS.out) | (subst hV; subst he0; exact HS.out)))
        refine AllReadyH.cons (o := ?o9q3b) ?ho9q3b (fun K hK => ?st9q3b) AllReadyH.nil
        case ho9q3b =>
          simp only [List.getElem?_toArray, List.getElem?_cons_succ, List.getElem?_cons_zero]
          rfl
        go_simp
        have hBq3b : Below w2.heap.size w2 (wq2a.alloc (.cells #[.int .i64 0, .int .i64 0, .slice none 0 0, .slice none 0 0] 36)) := hBq2a.alloc hBq2a.size _
        have hvq3b : Blk (wq2a.alloc (.cells #[.int .i64 0, .int .i64 0, .slice none 0 0, .slice none 0 0] 36)) (wq2a.heap.size) #[.int .i64 0, .int .i64 0, .slice none 0 0, .slice none 0 0] 36 := by
          have h := Blk.new wq2a #[.int .i64 0, .int .i64 0, .slice none 0 0, .slice none 0 0] 36
          simpa using h
        have hoq3b := hoq2a.alloc (.cells #[.int .i64 0, .int .i64 0, .slice none 0 0, .slice none 0 0] 36)
        have hVq3b : w2.heap.size ≤ wq2a.heap.size := by
          have h := hBq2a.size
          simpa using h
        refine hK.out _ _ (HSt.out _ hBq3b) (fun hHeld => ?_)
        clear hK K
        try simp only [Act.put, List.setIfInBounds_toArray, List.set_cons_zero, List.set_cons_succ]
        refine wpAnyH_ready (rs := [8]) (by kernel_rfl) (by simp) ?_
        refine AllReadyH.cons (o := ?o8q6a) ?ho8q6a (fun K hK => ?st8q6a) AllReadyH.nil
        case ho8q6a =>
          simp only [List.getElem?_toArray, List.getElem?_cons_succ, List.getElem?_cons_zero]
          rfl
        go_simp
        refine hK.out _ _ hHeld (fun hHeld => ?_)
        clear hK K
        try simp only [Act.put, List.setIfInBounds_toArray, List.set_cons_zero, List.set_cons_succ]
        refine wpAnyH_done (by kernel_rfl) ?_ _
        have HS : Hid _ := GOf.start1 (w := w) (since := d.since) (date := d.date) (O := fun _ => 0) (E := d.nd) (M := l.L) H2.out.bel HX.out hBq2a hoq2a
        show Oper.wp _ _ _ _ _ _
        go_simp
        generalize hV : wq2a.heap.size = V
        generalize he0 : w2.heap.size = e0
        exact NoPanic.normal (KEY.out V g c' e0 _ (by first | (rw [← hV]; exact HS.out) | (rw [← hV, ← he0]; exact HS.out) | (subst hV; subst he0; exact HS.out)))
      refine AllReadyH.cons (o := ?o9q2b) ?ho9q2b (fun K hK => ?st9q2b) AllReadyH.nil
      case ho9q2b =>
        simp only [List.getElem?_toArray, List.getElem?_cons_succ, List.getElem?_cons_zero]
        rfl
      go_simp
      have hBq2b : Below w2.heap.size w2 ((w2.drew.alloc (.cells #[] 4)).alloc (.cells #[.int .i64 0, .int .i64 0, .slice none 0 0, .slice none 0 0] 36)) := hBq1a.alloc hBq1a.size _
      have hvq2b : Blk ((w2.drew.alloc (.cells #[] 4)).alloc (.cells #[.int .i64 0, .int .i64 0, .slice none 0 0, .slice none 0 0] 36)) (w2.heap.size + 1) #[.int .i64 0, .int .i64 0, .slice none 0 0, .slice none 0 0] 36 := by
        have h := Blk.new (w2.drew.alloc (.cells #[] 4)) #[.int .i64 0, .int .i64 0, .slice none 0 0, .slice none 0 0] 36
        simpa using h
      have hoq2b := hoq1a.alloc (.cells #[.int .i64 0, .int .i64 0, .slice none 0 0, .slice none 0 0] 36)
      have hVq2b : w2.heap.size ≤ w2.heap.size + 1 := by
        have h := hBq1a.size
        simpa using h
      refine hK.out _ _ (HSt.out _ hBq2b) (fun hHeld => ?_)
      clear hK K
      try simp only [Act.put, List.setIfInBounds_toArray, List.set_cons_zero, List.set_cons_succ]
      refine wpAnyH_ready (rs := [7]) (by kernel_rfl) (by simp) ?_
      refine AllReadyH.cons (o := ?o7q8a) ?ho7q8a (fun K hK => ?st7q8a) AllReadyH.nil
      case ho7q8a =>
        simp only [List.getElem?_toArray, List.getElem?_cons_succ, List.getElem?_cons_zero]
        rfl
      refine step_of (by rfl) (wp_append_src (.tmp 9) (.tmp 11) 25 rfl w2.heap.size 4 q0 (.bool false) 1 1 Tryz.underlying25 hq hq0 hq1 hq2 rfl (by decide) (.slice (some ⟨w2.heap.size, 0, none⟩) 0 0) 0 [] (by rfl) hoq2b _ d.ln (boolv d.ln d.live) (by rfl) (HSrc.out _ hBq2b) (by unfold maxLen; omega) (by omega) hBq2b.size ?_)
      intro vq8a wq8a hoq8a hgrq8a _ _
      rw [Nat.zero_add, List.nil_append] at hoq8a
      obtain ⟨g, c', rfl⟩ := bools_shape hoq8a hln1
      have hBq8a : Below w2.heap.size w2 wq8a := hBq2b.grown hgrq8a hBq2b.size (fun j e => (owns_block hoq2b e).1)
      have hvq8a : Blk wq8a (w2.heap.size + 1) #[.int .i64 0, .int .i64 0, .slice none 0 0, .slice none 0 0] 36 := blk_grown hvq2b hgrq8a (own_ne hoq2b hvq2b (by decide))
      refine hK.out _ _ (HSt.out _ hBq8a) (fun hHeld => ?_)
      clear hK K
      try simp only [Act.put, List.setIfInBounds_toArray, List.set_cons_zero, List.set_cons_succ]
      refine wpAnyH_ready (rs := [8]) (by kernel_rfl) (by simp) ?_
      refine AllReadyH.cons (o := ?o8q9a) ?ho8q9a (fun K hK => ?st8q9a) AllReadyH.nil
      case ho8q9a =>
        simp only [List.getElem?_toArray, List.getElem?_cons_succ, List.getElem?_cons_zero]
        rfl
      go_simp
      refine hK.out _ _ hHeld (fun hHeld => ?_)
      clear hK K
      try simp only [Act.put, List.setIfInBounds_toArray, List.set_cons_zero, List.set_cons_succ]
      refine wpAnyH_done (by kernel_rfl) ?_ _
      have z0 := hvq8a.cell 0
      have z1 := hvq8a.cell 1
      have z2 := hvq8a.cell 2
      have z3 := hvq8a.cell 3
      have f0 := hvq8a.frozen 0
      have f1 := hvq8a.frozen 1
      have f2 := hvq8a.frozen 2
      have f3 := hvq8a.frozen 3
      simp at z0 z1 z2 z3
      have HS : Hid _ := GOf.start4 (w := w) (since := d.since) (date := d.date) (O := fun _ => 0) (E := d.nd) (M := l.L) H2.out.bel HX.out hBq8a hVq2b hvq8a hoq8a
      show Oper.wp _ _ _ _ _ _
      go_simp
      generalize hV : w2.heap.size + 1 = V
      generalize he0 : w2.heap.size = e0
      exact NoPanic.normal (KEY.out V g c' e0 _ (by first | (rw [← hV]; exact HS.out) | (rw [← hV, ← he0]; exact HS.out) | (subst hV; subst he0; exact HS.out)))
    refine AllReadyH.cons (o := ?o9q1b) ?ho9q1b (fun K hK => ?st9q1b) AllReadyH.nil
    case ho9q1b =>
      simp only [List.getElem?_toArray, List.getElem?_cons_succ, List.getElem?_cons_zero]
      rfl
    go_simp
    have hBq1b : Below w2.heap.size w2 (w2.drew.alloc (.cells #[.int .i64 0, .int .i64 0, .slice none 0 0, .slice none 0 0] 36)) := hB0.alloc hB0.size _
    have hvq1b : Blk (w2.drew.alloc (.cells #[.int .i64 0, .int .i64 0, .slice none 0 0, .slice none 0 0] 36)) (w2.heap.size) #[.int .i64 0, .int .i64 0, .slice none 0 0, .slice none 0 0] 36 := by
      have h := Blk.new w2.drew #[.int .i64 0, .int .i64 0, .slice none 0 0, .slice none 0 0] 36
      simpa using h
    have hVq1b : w2.heap.size ≤ w2.heap.size := by
      have h := hB0.size
      simpa using h
    refine hK.out _ _ (HSt.out _ hBq1b) (fun hHeld => ?_)
    clear hK K
    try simp only [Act.put, List.setIfInBounds_toArray, List.set_cons_zero, List.set_cons_succ]
    refine wpAnyH_ready (rs := [4]) (by kernel_rfl) (by simp) ?_
    refine AllReadyH.cons (o := ?o4q11a) ?ho4q11a (fun K hK => ?st4q11a) AllReadyH.nil
    case ho4q11a =>
      simp only [List.getElem?_toArray, List.getElem?_cons_succ, List.getElem?_cons_zero]
      rfl
    go_simp
    have hBq11a : Below w2.heap.size w2 ((w2.drew.alloc (.cells #[.int .i64 0, .int .i64 0, .slice none 0 0, .slice none 0 0] 36)).alloc (.cells #[] 4)) := hBq1b.alloc hBq1b.size _
    have hoq11a : ((w2.drew.alloc (.cells #[.int .i64 0, .int .i64 0, .slice none 0 0, .slice none 0 0] 36)).alloc (.cells #[] 4)).ownsRow w2.heap.size 4 1 (.slice (some ⟨w2.heap.size + 1, 0, none⟩) 0 0) 0 [] := by
      have h := owns_lit (w := (w2.drew.alloc (.cells #[.int .i64 0, .int .i64 0, .slice none 0 0, .slice none 0 0] 36))) hBq1b.size [] 4 1 0 rfl (by unfold maxLen; omega)
      simpa using h
    have hvq11a : Blk ((w2.drew.alloc (.cells #[.int .i64 0, .int .i64 0, .slice none 0 0, .slice none 0 0] 36)).alloc (.cells #[] 4)) (w2.heap.size) #[.int .i64 0, .int .i64 0, .slice none 0 0, .slice none 0 0] 36 := hvq1b.alloc _
    refine hK.out _ _ (HSt.out _ hBq11a) (fun hHeld => ?_)
    clear hK K
    try simp only [Act.put, List.setIfInBounds_toArray, List.set_cons_zero, List.set_cons_succ]
    refine wpAnyH_ready (rs := [7]) (by kernel_rfl) (by simp) ?_
    refine AllReadyH.cons (o := ?o7q12a) ?ho7q12a (fun K hK => ?st7q12a) AllReadyH.nil
    case ho7q12a =>
      simp only [List.getElem?_toArray, List.getElem?_cons_succ, List.getElem?_cons_zero]
      rfl
    refine step_of (by rfl) (wp_append_src (.tmp 9) (.tmp 11) 25 rfl w2.heap.size 4 q0 (.bool false) 1 1 Tryz.underlying25 hq hq0 hq1 hq2 rfl (by decide) (.slice (some ⟨w2.heap.size + 1, 0, none⟩) 0 0) 0 [] (by rfl) hoq11a _ d.ln (boolv d.ln d.live) (by rfl) (HSrc.out _ hBq11a) (by unfold maxLen; omega) (by omega) hBq11a.size ?_)
    intro vq12a wq12a hoq12a hgrq12a _ _
    rw [Nat.zero_add, List.nil_append] at hoq12a
    obtain ⟨g, c', rfl⟩ := bools_shape hoq12a hln1
    have hBq12a : Below w2.heap.size w2 wq12a := hBq11a.grown hgrq12a hBq11a.size (fun j e => (owns_block hoq11a e).1)
    have hvq12a : Blk wq12a (w2.heap.size) #[.int .i64 0, .int .i64 0, .slice none 0 0, .slice none 0 0] 36 := blk_grown hvq11a hgrq12a (own_ne hoq11a hvq11a (by decide))
    refine hK.out _ _ (HSt.out _ hBq12a) (fun hHeld => ?_)
    clear hK K
    try simp only [Act.put, List.setIfInBounds_toArray, List.set_cons_zero, List.set_cons_succ]
    refine wpAnyH_ready (rs := [8]) (by kernel_rfl) (by simp) ?_
    refine AllReadyH.cons (o := ?o8q13a) ?ho8q13a (fun K hK => ?st8q13a) AllReadyH.nil
    case ho8q13a =>
      simp only [List.getElem?_toArray, List.getElem?_cons_succ, List.getElem?_cons_zero]
      rfl
    go_simp
    refine hK.out _ _ hHeld (fun hHeld => ?_)
    clear hK K
    try simp only [Act.put, List.setIfInBounds_toArray, List.set_cons_zero, List.set_cons_succ]
    refine wpAnyH_done (by kernel_rfl) ?_ _
    have z0 := hvq12a.cell 0
    have z1 := hvq12a.cell 1
    have z2 := hvq12a.cell 2
    have z3 := hvq12a.cell 3
    have f0 := hvq12a.frozen 0
    have f1 := hvq12a.frozen 1
    have f2 := hvq12a.frozen 2
    have f3 := hvq12a.frozen 3
    simp at z0 z1 z2 z3
    have HS : Hid _ := GOf.start4 (w := w) (since := d.since) (date := d.date) (O := fun _ => 0) (E := d.nd) (M := l.L) H2.out.bel HX.out hBq12a hVq1b hvq12a hoq12a
    show Oper.wp _ _ _ _ _ _
    go_simp
    generalize he0 : w2.heap.size + 1 = e0
    generalize hV : w2.heap.size = V
    exact NoPanic.normal (KEY.out V g c' e0 _ (by first | (rw [← hV]; exact HS.out) | (rw [← hV, ← he0]; exact HS.out) | (subst hV; subst he0; exact HS.out)))
  · intro V g c' e0 W3 hG
    have HG : Hid _ := hG
    clear hG HX HSrc HSt
    go_wp2_with fail
    go_loopw [4] (fun i wr => ∃ (k : Nat) (ia : Option Addr) (ic : Nat) (O : Nat → Int) (E : Nat → Nd) (M : Nat → Loc), k ≤ d.m ∧ i = .int .i64 k ∧ GOf w w2 w2.heap.size (DcX w) d.since d.date d.ln d.live V (some ⟨g, 0, none⟩) c' k ia ic O E M wr ∧ ∀ i, i < k → O i = d.ino i ∧ E i = d.nd i) (fun i _ => d.m - (intOf i).toNat)
    case atStart => exact ⟨0, none, 0, _, _, _, Nat.zero_le _, rfl, HG.out, fun i hi => absurd hi (Nat.not_lt_zero _)⟩
    case round =>
      obtain ⟨k, ia, ic, O, E, M, hk, rfl, hin, hsel⟩ := hrel
      have HIN : Hid (GOf w w2 w2.heap.size (DcX w) d.since d.date d.ln d.live V (some ⟨g, 0, none⟩) c' k ia ic O E M wr ∧ ∀ i, i < k → O i = d.ino i ∧ E i = d.nd i) := ⟨hin, hsel⟩
      have HT : Hid (Dc w d l wr) := H2.out.of hin
      clear hin hsel
      obtain ⟨p0, p1, p2, p3⟩ := pC_cells HT.out.p
      by_cases hlt : k < d.m
      · have hlti : (k : Int) < (d.m : Int) := by omega
        go_wp2_with fail
        have HW : Hid (∃ bI oI, bI < w2.heap.size ∧ ∀ W', Below wr.heap.size wr W' → (W'.cell? ⟨V, 3, none⟩ = some (.slice ia k ic) ∧ W'.cell? ⟨w.heap.size, 3, none⟩ = some (.slice (some ⟨bI, oI, none⟩) d.m l.ic) ∧ W'.cell? ⟨bI, oI + k * 6, none⟩ = some (.int .i64 (d.ino k)) ∧ W'.cell? ⟨bI, oI + k * 6 + 1, none⟩ = some (.int .i64 (d.nd k).kind) ∧ W'.cell? ⟨bI, oI + k * 6 + 1 + 1, none⟩ = some (.string (d.nd k).text) ∧ W'.cell? ⟨bI, oI + k * 6 + 1 + 2, none⟩ = some (.slice (l.L k).nA (d.nd k).nn (l.L k).nc) ∧ W'.cell? ⟨bI, oI + k * 6 + 1 + 3, none⟩ = some (.slice (l.L k).kA (d.nd k).kn (l.L k).kc) ∧ W'.cell? ⟨bI, oI + k * 6 + 1 + 4, none⟩ = some (.int .i64 (d.nd k).turn)) ∧ NdIn W' (d.nd k) (l.L k)) := by
          show ∃ _, _
          obtain ⟨bI, oI, hQ, hbl, _⟩ := hD.items.at hlt
          refine ⟨bI, oI, by omega, fun W' hW => ?_⟩
          have hcc := pC_cells (HT.out.below hW).p
          have hv3 : W'.cell? ⟨V, 3, none⟩ = some (.slice ia k ic) := (HIN.out.1.below hW).v.cell 3
          obtain ⟨bI', oI', hQ', _, hc'⟩ := ((hD.items.below (Nat.le_refl _) HT.out.bel).below (Nat.le_refl _) hW).at hlt
          obtain ⟨d0, d1, d2, d3, d4, d5, d6⟩ := hc' k hlt
          rw [hQ] at hQ'
          cases hQ'
          refine ⟨⟨hv3, ?_, d0, d1, d2, d3, d4, d5⟩, d6⟩
          rw [← hQ]
          exact hcc.2.2.2
        obtain ⟨bI, oI, hbIl, hSt⟩ := HW.out
        have HSt : Hid _ := hSt
        have hsm := dp_of_small hs k hlt
        clear p0 p1 p2 p3 hSt HW
        have hd5 : Below wr.heap.size wr wr.drew := below_drewN (Below.refl _ _) 1
        refine wp_region_noPanic ?_
        refine wp_region_peel2 (fun W' => W'.cell? ⟨V, 3, none⟩ = some (.slice ia k ic) ∧ W'.cell? ⟨w.heap.size, 3, none⟩ = some (.slice (some ⟨bI, oI, none⟩) d.m l.ic) ∧ W'.cell? ⟨bI, oI + k * 6, none⟩ = some (.int .i64 (d.ino k)) ∧ W'.cell? ⟨bI, oI + k * 6 + 1, none⟩ = some (.int .i64 (d.nd k).kind) ∧ W'.cell? ⟨bI, oI + k * 6 + 1 + 1, none⟩ = some (.string (d.nd k).text) ∧ W'.cell? ⟨bI, oI + k * 6 + 1 + 2, none⟩ = some (.slice (l.L k).nA (d.nd k).nn (l.L k).nc) ∧ W'.cell? ⟨bI, oI + k * 6 + 1 + 3, none⟩ = some (.slice (l.L k).kA (d.nd k).kn (l.L k).kc) ∧ W'.cell? ⟨bI, oI + k * 6 + 1 + 4, none⟩ = some (.int .i64 (d.nd k).turn)) _ _ (by kernel_rfl) rfl rfl (by kernel_rfl) (by kernel_rfl) ?_ (fun hHeld => ?_)
        · exact (HSt.out _ hd5).1
        simp only [List.pop_toArray, List.dropLast, List.size_toArray, List.length_cons, List.length_nil, Nat.reduceAdd, Nat.reduceSub, List.getElem_toArray, List.getElem_cons_succ, List.getElem_cons_zero]
        refine peel_take (i := 0) (oi := ?oi0x) (v := ?v0x) (fun _ _ _ _ _ h => h) hHeld ?hi0x (by kernel_rfl) (by kernel_rfl) (by kernel_rfl) ?hw0x ?hy0x ?rest0x
        case hi0x =>
          simp only [List.getElem?_toArray, List.getElem?_cons_zero]
          rfl
        case hw0x => rfl
        case hy0x =>
          intro w hSw
          obtain ⟨s0, s1, s2, s3, s4, s5, s6, s7⟩ := hSw
          go_simp
          try with_reducible rfl
        try simp only [Act.put, List.setIfInBounds_toArray, List.set_cons_zero, List.set_cons_succ]
        refine peel_take (i := 1) (oi := ?oi1x) (v := ?v1x) (fun _ _ _ _ _ h => h) hHeld ?hi1x (by kernel_rfl) (by kernel_rfl) (by kernel_rfl) ?hw1x ?hy1x ?rest1x
        case hi1x =>
          simp only [List.getElem?_toArray, List.getElem?_cons_succ, List.getElem?_cons_zero]
          rfl
        case hw1x => rfl
        case hy1x =>
          intro w hSw
          obtain ⟨s0, s1, s2, s3, s4, s5, s6, s7⟩ := hSw
          go_simp
          try with_reducible rfl
        try simp only [Act.put, List.setIfInBounds_toArray, List.set_cons_zero, List.set_cons_succ]
        refine peel_take (i := 2) (oi := ?oi2x) (v := ?v2x) (fun _ _ _ _ _ h => h) hHeld ?hi2x (by kernel_rfl) (by kernel_rfl) (by kernel_rfl) ?hw2x ?hy2x ?rest2x
        case hi2x =>
          simp only [List.getElem?_toArray, List.getElem?_cons_succ, List.getElem?_cons_zero]
          rfl
        case hw2x => rfl
        case hy2x =>
          intro w hSw
          obtain ⟨s0, s1, s2, s3, s4, s5, s6, s7⟩ := hSw
          go_simp
          try with_reducible rfl
        try simp only [Act.put, List.setIfInBounds_toArray, List.set_cons_zero, List.set_cons_succ]
        refine peel_take (i := 3) (oi := ?oi3x) (v := ?v3x) (fun _ _ _ _ _ h => h) hHeld ?hi3x (by kernel_rfl) (by kernel_rfl) (by kernel_rfl) ?hw3x ?hy3x ?rest3x
        case hi3x =>
          simp only [List.getElem?_toArray, List.getElem?_cons_succ, List.getElem?_cons_zero]
          rfl
        case hw3x => rfl
        case hy3x =>
          intro w hSw
          obtain ⟨s0, s1, s2, s3, s4, s5, s6, s7⟩ := hSw
          go_simp
          try with_reducible rfl
        try simp only [Act.put, List.setIfInBounds_toArray, List.set_cons_zero, List.set_cons_succ]
        refine peel_take (i := 4) (oi := ?oi4x) (v := ?v4x) (fun _ _ _ _ _ h => h) hHeld ?hi4x (by kernel_rfl) (by kernel_rfl) (by kernel_rfl) ?hw4x ?hy4x ?rest4x
        case hi4x =>
          simp only [List.getElem?_toArray, List.getElem?_cons_succ, List.getElem?_cons_zero]
          rfl
        case hw4x => rfl
        case hy4x =>
          intro w hSw
          obtain ⟨s0, s1, s2, s3, s4, s5, s6, s7⟩ := hSw
          go_simp
          try with_reducible rfl
        try simp only [Act.put, List.setIfInBounds_toArray, List.set_cons_zero, List.set_cons_succ]
        refine peel_take (i := 5) (oi := ?oi5x) (v := ?v5x) (fun _ _ _ _ _ h => h) hHeld ?hi5x (by kernel_rfl) (by kernel_rfl) (by kernel_rfl) ?hw5x ?hy5x ?rest5x
        case hi5x =>
          simp only [List.getElem?_toArray, List.getElem?_cons_succ, List.getElem?_cons_zero]
          rfl
        case hw5x => rfl
        case hy5x =>
          intro w hSw
          obtain ⟨s0, s1, s2, s3, s4, s5, s6, s7⟩ := hSw
          go_simp
          try with_reducible rfl
        try simp only [Act.put, List.setIfInBounds_toArray, List.set_cons_zero, List.set_cons_succ]
        refine peel_take (i := 6) (oi := ?oi6x) (v := ?v6x) (fun _ _ _ _ _ h => h) hHeld ?hi6x (by kernel_rfl) (by kernel_rfl) (by kernel_rfl) ?hw6x ?hy6x ?rest6x
        case hi6x =>
          simp only [List.getElem?_toArray, List.getElem?_cons_succ, List.getElem?_cons_zero]
          rfl
        case hw6x => rfl
        case hy6x =>
          intro w hSw
          obtain ⟨s0, s1, s2, s3, s4, s5, s6, s7⟩ := hSw
          go_simp
          try with_reducible rfl
        try simp only [Act.put, List.setIfInBounds_toArray, List.set_cons_zero, List.set_cons_succ]
        refine peel_take (i := 7) (oi := ?oi7x) (v := ?v7x) (fun _ _ _ _ _ h => h) hHeld ?hi7x (by kernel_rfl) (by kernel_rfl) (by kernel_rfl) ?hw7x ?hy7x ?rest7x
        case hi7x =>
          simp only [List.getElem?_toArray, List.getElem?_cons_succ, List.getElem?_cons_zero]
          rfl
        case hw7x => rfl
        case hy7x =>
          intro w hSw
          obtain ⟨s0, s1, s2, s3, s4, s5, s6, s7⟩ := hSw
          go_simp
          try with_reducible rfl
        try simp only [Act.put, List.setIfInBounds_toArray, List.set_cons_zero, List.set_cons_succ]
        refine peel_take (i := 8) (oi := ?oi8x) (v := ?v8x) (fun _ _ _ _ _ h => h) hHeld ?hi8x (by kernel_rfl) (by kernel_rfl) (by kernel_rfl) ?hw8x ?hy8x ?rest8x
        case hi8x =>
          simp only [List.getElem?_toArray, List.getElem?_cons_succ, List.getElem?_cons_zero]
          rfl
        case hw8x => rfl
        case hy8x =>
          intro w hSw
          obtain ⟨s0, s1, s2, s3, s4, s5, s6, s7⟩ := hSw
          go_simp
          try with_reducible rfl
        try simp only [Act.put, List.setIfInBounds_toArray, List.set_cons_zero, List.set_cons_succ]
        refine peel_take (i := 9) (oi := ?oi9x) (v := ?v9x) (fun _ _ _ _ _ h => h) hHeld ?hi9x (by kernel_rfl) (by kernel_rfl) (by kernel_rfl) ?hw9x ?hy9x ?rest9x
        case hi9x =>
          simp only [List.getElem?_toArray, List.getElem?_cons_succ, List.getElem?_cons_zero]
          rfl
        case hw9x => rfl
        case hy9x =>
          intro w hSw
          obtain ⟨s0, s1, s2, s3, s4, s5, s6, s7⟩ := hSw
          go_simp
          try with_reducible rfl
        try simp only [Act.put, List.setIfInBounds_toArray, List.set_cons_zero, List.set_cons_succ]
        refine peel_take (i := 10) (oi := ?oi10x) (v := ?v10x) (fun _ _ _ _ _ h => h) hHeld ?hi10x (by kernel_rfl) (by kernel_rfl) (by kernel_rfl) ?hw10x ?hy10x ?rest10x
        case hi10x =>
          simp only [List.getElem?_toArray, List.getElem?_cons_succ, List.getElem?_cons_zero]
          rfl
        case hw10x => rfl
        case hy10x =>
          intro w hSw
          obtain ⟨s0, s1, s2, s3, s4, s5, s6, s7⟩ := hSw
          go_simp
          try with_reducible rfl
        try simp only [Act.put, List.setIfInBounds_toArray, List.set_cons_zero, List.set_cons_succ]
        refine peel_take (i := 11) (oi := ?oi11x) (v := ?v11x) (fun _ _ _ _ _ h => h) hHeld ?hi11x (by kernel_rfl) (by kernel_rfl) (by kernel_rfl) ?hw11x ?hy11x ?rest11x
        case hi11x =>
          simp only [List.getElem?_toArray, List.getElem?_cons_succ, List.getElem?_cons_zero]
          rfl
        case hw11x => rfl
        case hy11x =>
          intro w hSw
          obtain ⟨s0, s1, s2, s3, s4, s5, s6, s7⟩ := hSw
          go_simp
          try with_reducible rfl
        try simp only [Act.put, List.setIfInBounds_toArray, List.set_cons_zero, List.set_cons_succ]
        refine peel_take (i := 12) (oi := ?oi12x) (v := ?v12x) (fun _ _ _ _ _ h => h) hHeld ?hi12x (by kernel_rfl) (by kernel_rfl) (by kernel_rfl) ?hw12x ?hy12x ?rest12x
        case hi12x =>
          simp only [List.getElem?_toArray, List.getElem?_cons_succ, List.getElem?_cons_zero]
          rfl
        case hw12x => rfl
        case hy12x =>
          intro w hSw
          obtain ⟨s0, s1, s2, s3, s4, s5, s6, s7⟩ := hSw
          go_simp
          try with_reducible rfl
        try simp only [Act.put, List.setIfInBounds_toArray, List.set_cons_zero, List.set_cons_succ]
        refine peel_take (i := 13) (oi := ?oi13x) (v := ?v13x) (fun _ _ _ _ _ h => h) hHeld ?hi13x (by kernel_rfl) (by kernel_rfl) (by kernel_rfl) ?hw13x ?hy13x ?rest13x
        case hi13x =>
          simp only [List.getElem?_toArray, List.getElem?_cons_succ, List.getElem?_cons_zero]
          rfl
        case hw13x => rfl
        case hy13x =>
          intro w hSw
          obtain ⟨s0, s1, s2, s3, s4, s5, s6, s7⟩ := hSw
          go_simp
          try with_reducible rfl
        try simp only [Act.put, List.setIfInBounds_toArray, List.set_cons_zero, List.set_cons_succ]
        refine wpAnyH_ready (rs := [14]) (by kernel_rfl) (by simp) ?_
        refine AllReadyH.cons (o := ?o14x) ?ho14x (fun K hK => ?st14x) AllReadyH.nil
        case ho14x =>
          simp only [List.getElem?_toArray, List.getElem?_cons_succ, List.getElem?_cons_zero]
          rfl
        go_simp
        refine (l2Copy_any (d.nd k) (l.L k) wr.drew (HSt.out _ hd5).2 hsm.1 hsm.2.1).mono ?_
        rintro e W6 ⟨l5, rfl, hN5⟩
        unfold ndV
        have hb6 : Below wr.heap.size wr W6 := hd5.trans hN5.bel
        refine hK.out _ _ (HSt.out W6 hb6).1 (fun hHeld => ?re9x)
        clear hK K
        try simp only [Act.put, List.setIfInBounds_toArray, List.set_cons_zero, List.set_cons_succ]
        refine wpAnyH_ready (rs := [15]) (by kernel_rfl) (by simp) ?_
        refine AllReadyH.cons (o := ?o15x) ?ho15x (fun K hK => ?st15x) AllReadyH.nil
        case ho15x =>
          simp only [List.getElem?_toArray, List.getElem?_cons_succ, List.getElem?_cons_zero]
          rfl
        go_simp
        refine hK.out _ _ (HSt.out W6 hb6).1 (fun hHeld => ?re10x)
        clear hK K
        try simp only [Act.put, List.setIfInBounds_toArray, List.set_cons_zero, List.set_cons_succ]
        refine wpAnyH_ready (rs := [16]) (by kernel_rfl) (by simp) ?_
        refine AllReadyH.cons (o := ?o16x) ?ho16x (fun K hK => ?st16x) AllReadyH.nil
        case ho16x =>
          simp only [List.getElem?_toArray, List.getElem?_cons_succ, List.getElem?_cons_zero]
          rfl
        go_simp
        have hb7 : Below wr.heap.size wr (W6.alloc (.cells #[.int .i64 (d.ino k), .int .i64 (d.nd k).kind, .string (d.nd k).text, .slice l5.nA (d.nd k).nn l5.nc, .slice l5.kA (d.nd k).kn l5.kc, .int .i64 (d.nd k).turn] 113)) := hb6.alloc hb6.size _
        refine hK.out _ _ (HSt.out _ hb7).1 (fun hHeld => ?re11x)
        clear hK K
        try simp only [Act.put, List.setIfInBounds_toArray, List.set_cons_zero, List.set_cons_succ]
        refine wpAnyH_ready (rs := [17]) (by kernel_rfl) (by simp) ?_
        refine AllReadyH.cons (o := ?o17x) ?ho17x (fun K hK => ?st17x) AllReadyH.nil
        case ho17x =>
          simp only [List.getElem?_toArray, List.getElem?_cons_succ, List.getElem?_cons_zero]
          rfl
        have hD6 := HIN.out.1.below hb7
        have hN6 := hN5.new.alloc (.cells #[.int .i64 (d.ino k), .int .i64 (d.nd k).kind, .string (d.nd k).text, .slice l5.nA (d.nd k).nn l5.nc, .slice l5.kA (d.nd k).kn l5.kc, .int .i64 (d.nd k).turn] 113)
        have hB5 : w2.heap.size ≤ wr.heap.size := by have h := owns_block HIN.out.1.od.ownL (show (Value.slice (some ⟨g, 0, none⟩) d.ln c').ownBlock = some g from rfl); omega
        have hneV : (Value.slice ia k ic).ownBlock ≠ some V := fun e => (HIN.out.1.off 1 V (by omega) (by simpa [valD] using e)).2 rfl
        have hbo5 : ∀ q, (Value.slice ia k ic).ownBlock = some q → w2.heap.size ≤ q := fun q e => (owns_block HIN.out.1.od.ownI e).1
        refine step_of (by rfl) (wp_append_src (.tmp 22) (.tmp 37) 34 rfl w2.heap.size 113 y0 (.agg #[.int .i64 0, .int .i64 0, .string ByteArray.empty, .slice none 0 0, .slice none 0 0, .int .i64 0]) 6 88 Tryz.underlying34 hy hy0 hy1 hy2 rfl (by decide) (.slice ia k ic) k _ (by rfl) hD6.od.ownI _ 1 _ (by rfl) (src_item W6 (d.ino k) (d.nd k) l5) (by unfold maxLen; omega) (by omega) (by have := hb7.size; omega) ?_)
        intro vI W7 hown hgrow hnil hat
        rcases hown.2 with ⟨_, h0⟩ | ⟨gI, cI, cur, hvI, _, _, _⟩
        · omega
        subst hvI
        have hbI : (Value.slice ia k ic).ownBlock = some gI ∨ (W6.alloc (.cells #[.int .i64 (d.ino k), .int .i64 (d.nd k).kind, .string (d.nd k).text, .slice l5.nA (d.nd k).nn l5.nc, .slice l5.kA (d.nd k).kn l5.kc, .int .i64 (d.nd k).turn] 113)).heap.size ≤ gI := by
          rcases hat with e | e
          · exact Or.inl e.symm
          · right
            have e' : gI = (W6.alloc (.cells #[.int .i64 (d.ino k), .int .i64 (d.nd k).kind, .string (d.nd k).text, .slice l5.nA (d.nd k).nn l5.nc, .slice l5.kA (d.nd k).kn l5.kc, .int .i64 (d.nd k).turn] 113)).heap.size := by simpa [Value.ownBlock] using e
            omega
        have hV7 := blk_grown hD6.v hgrow hneV
        have hHeld7 : W7.cell? ⟨V, 3, none⟩ = some (.slice ia k ic) ∧ W7.cell? ⟨w.heap.size, 3, none⟩ = some (.slice (some ⟨bI, oI, none⟩) d.m l.ic) ∧ W7.cell? ⟨bI, oI + k * 6, none⟩ = some (.int .i64 (d.ino k)) ∧ W7.cell? ⟨bI, oI + k * 6 + 1, none⟩ = some (.int .i64 (d.nd k).kind) ∧ W7.cell? ⟨bI, oI + k * 6 + 1 + 1, none⟩ = some (.string (d.nd k).text) ∧ W7.cell? ⟨bI, oI + k * 6 + 1 + 2, none⟩ = some (.slice (l.L k).nA (d.nd k).nn (l.L k).nc) ∧ W7.cell? ⟨bI, oI + k * 6 + 1 + 3, none⟩ = some (.slice (l.L k).kA (d.nd k).kn (l.L k).kc) ∧ W7.cell? ⟨bI, oI + k * 6 + 1 + 4, none⟩ = some (.int .i64 (d.nd k).turn) := by
          obtain ⟨e0, e1, e2, e3, e4, e5, e6, e7⟩ := (HSt.out _ hb7).1
          have hlow : ∀ q o v, q < w2.heap.size → (W6.alloc (.cells #[.int .i64 (d.ino k), .int .i64 (d.nd k).kind, .string (d.nd k).text, .slice l5.nA (d.nd k).nn l5.nc, .slice l5.kA (d.nd k).kn l5.kc, .int .i64 (d.nd k).turn] 113)).cell? ⟨q, o, none⟩ = some v → W7.cell? ⟨q, o, none⟩ = some v := fun q o v hq h => hgrow.cell h (fun e => by have := hbo5 q e.symm; omega)
          have hwlt := hs2
          exact ⟨hV7.cell 3, hlow _ _ _ (by omega) e1, hlow _ _ _ hbIl e2, hlow _ _ _ hbIl e3, hlow _ _ _ hbIl e4, hlow _ _ _ hbIl e5, hlow _ _ _ hbIl e6, hlow _ _ _ hbIl e7⟩
        have H8 : Hid _ := (HIN.out.1.below hd5).item hN6 (by have := hd5.size; omega) hgrow hown hbI
        have v37 : W7.cell? ⟨V, 3, none⟩ = some (.slice ia k ic) := hV7.cell 3
        have f37 := hV7.frozen 3
        refine hK.out _ _ hHeld7 (fun hHeld => ?re12x)
        clear hK K
        try simp only [Act.put, List.setIfInBounds_toArray, List.set_cons_zero, List.set_cons_succ]
        refine wpAnyH_done (by kernel_rfl) ?_ _
        show Oper.wp _ _ _ _ _ _
        clear hown hgrow hnil hat hbI hV7 hHeld7 hN6 hD6 hN5 HSt hneV hHeld hd5 hb6 hb7 hsm hbo5 hB5
        go_simp
        show Oper.wp _ _ _ _ _ _
        go_simp
        refine NoPanic.normal ?_
        go_wp2_with fail
        go_roundw
        case rel => exact ⟨k + 1, some ⟨gI, 0, none⟩, cI, _, _, _, by omega, by go_num, H8.out, fun i hi => by
          by_cases e : i = k
          · subst e; simp
          · simp only [e, if_false]; exact HIN.out.2 i (by omega)⟩
        case measure => simp [intOf]; omega
      · obtain rfl : k = d.m := by omega
        have HOWN : Hid (OwnDp wr w2.heap.size d ⟨some ⟨g, 0, none⟩, c', ia, ic, M⟩) := HIN.out.1.od.ext fun i hi => ⟨((HIN.out.2 i hi).1).symm, ((HIN.out.2 i hi).2).symm⟩
        have v0 : wr.cell? ⟨V, 0, none⟩ = some (.int .i64 d.since) := HIN.out.1.v.cell 0
        have v1 : wr.cell? ⟨V, 1, none⟩ = some (.int .i64 d.date) := HIN.out.1.v.cell 1
        have v2 : wr.cell? ⟨V, 2, none⟩ = some (.slice (some ⟨g, 0, none⟩) d.ln c') := HIN.out.1.v.cell 2
        have v3 : wr.cell? ⟨V, 3, none⟩ = some (.slice ia d.m ic) := HIN.out.1.v.cell 3
        have r0 : wr.cell? ⟨w.heap.size + 1, 0, none⟩ = some (.int .i64 0) := HT.out.r.cell 0
        have r1 : wr.cell? ⟨w.heap.size + 1, 1, none⟩ = some (.int .i64 0) := HT.out.r.cell 1
        have r2 : wr.cell? ⟨w.heap.size + 1, 2, none⟩ = some (.slice none 0 0) := HT.out.r.cell 2
        have r3 : wr.cell? ⟨w.heap.size + 1, 3, none⟩ = some (.slice none 0 0) := HT.out.r.cell 3
        have g0 := HT.out.r.frozen 0
        have g1 := HT.out.r.frozen 1
        have g2 := HT.out.r.frozen 2
        have g3 := HT.out.r.frozen 3
        have hwl : w.heap.size + 1 < w2.heap.size := by omega
        go_wp2_with fail
        refine end_world (F := fun U => Blk U (w.heap.size + 1) #[.int .i64 d.since, .int .i64 d.date, .slice (some ⟨g, 0, none⟩) d.ln c', .slice ia d.m ic] 36 ∧ Below w.heap.size w U ∧ OwnDp U w2.heap.size d ⟨some ⟨g, 0, none⟩, c', ia, ic, M⟩) ⟨(((HT.out.r.set 0 _).set 1 _).set 2 _).set 3 _, bel_put (bel_put (bel_put (bel_put HT.out.bel _ (by omega)) _ (by omega)) _ (by omega)) _ (by omega), OD.off (OD.off (OD.off (OD.off HOWN.out _ hwl) _ hwl) _ hwl) _ hwl⟩ ?_
        clear p0 p1 p2 p3 r0 r1 r2 r3 g0 g1 g2 g3 v0 v1 v2 v3
        rintro U ⟨hr, hBU, hod⟩
        have r0 : U.cell? ⟨w.heap.size + 1, 0, none⟩ = some (.int .i64 d.since) := hr.cell 0
        have r1 : U.cell? ⟨w.heap.size + 1, 1, none⟩ = some (.int .i64 d.date) := hr.cell 1
        have r2 : U.cell? ⟨w.heap.size + 1, 2, none⟩ = some (.slice (some ⟨g, 0, none⟩) d.ln c') := hr.cell 2
        have r3 : U.cell? ⟨w.heap.size + 1, 3, none⟩ = some (.slice ia d.m ic) := hr.cell 3
        exact bodyPost_ret (v := .agg #[.int .i64 d.since, .int .i64 d.date, .slice (some ⟨g, 0, none⟩) d.ln c', .slice ia d.m ic]) (by simp [results, Tryz.results75, go_sem, r0, r1, r2, r3]) rfl ⟨⟨some ⟨g, 0, none⟩, c', ia, ic, M⟩, rfl, hBU, OD.lower hod (by omega)⟩
end Go.Proofs.YtakifcobofkheaaGreatDoor

/-
  Cuts behind a piece of code, of up to seven letters.
-/
namespace Go.Proofs.YtakifcobofkheaaGreatDoor
open Go.RowKit

theorem wp_cn1 {X : Type} (F : X → World → Prop) {P : Program} {c : Code} {Q : Exit → Act → World → Prop} {a : Act} {w : World} (A : X → Act)
    (leaf : (∀ x W, F x W → Q .normal (A x) W) → c.wp P Q a w) (k : ∀ x W, F x W → Q .normal (A x) W) : c.wp P Q a w := leaf k

theorem wp_cn2 {X Y : Type} (F : X → Y → World → Prop) {P : Program} {c : Code} {Q : Exit → Act → World → Prop} {a : Act} {w : World} (A : X → Y → Act)
    (leaf : (∀ x y W, F x y W → Q .normal (A x y) W) → c.wp P Q a w) (k : ∀ x y W, F x y W → Q .normal (A x y) W) : c.wp P Q a w := leaf k

theorem wp_cn3 {X Y Z : Type} (F : X → Y → Z → World → Prop) {P : Program} {c : Code} {Q : Exit → Act → World → Prop} {a : Act} {w : World} (A : X → Y → Z → Act)
    (leaf : (∀ x y z W, F x y z W → Q .normal (A x y z) W) → c.wp P Q a w) (k : ∀ x y z W, F x y z W → Q .normal (A x y z) W) : c.wp P Q a w := leaf k

theorem wp_cn4 {X Y Z U : Type} (F : X → Y → Z → U → World → Prop) {P : Program} {c : Code} {Q : Exit → Act → World → Prop} {a : Act} {w : World} (A : X → Y → Z → U → Act)
    (leaf : (∀ x y z u W, F x y z u W → Q .normal (A x y z u) W) → c.wp P Q a w) (k : ∀ x y z u W, F x y z u W → Q .normal (A x y z u) W) : c.wp P Q a w := leaf k

theorem wp_cn5 {X Y Z U V : Type} (F : X → Y → Z → U → V → World → Prop) {P : Program} {c : Code} {Q : Exit → Act → World → Prop} {a : Act} {w : World} (A : X → Y → Z → U → V → Act)
    (leaf : (∀ x y z u v W, F x y z u v W → Q .normal (A x y z u v) W) → c.wp P Q a w) (k : ∀ x y z u v W, F x y z u v W → Q .normal (A x y z u v) W) : c.wp P Q a w := leaf k

theorem wp_cn6 {X Y Z U V S : Type} (F : X → Y → Z → U → V → S → World → Prop) {P : Program} {c : Code} {Q : Exit → Act → World → Prop} {a : Act} {w : World} (A : X → Y → Z → U → V → S → Act)
    (leaf : (∀ x y z u v s W, F x y z u v s W → Q .normal (A x y z u v s) W) → c.wp P Q a w) (k : ∀ x y z u v s W, F x y z u v s W → Q .normal (A x y z u v s) W) : c.wp P Q a w := leaf k

theorem wp_cn7 {X Y Z U V S T : Type} (F : X → Y → Z → U → V → S → T → World → Prop) {P : Program} {c : Code} {Q : Exit → Act → World → Prop} {a : Act} {w : World} (A : X → Y → Z → U → V → S → T → Act)
    (leaf : (∀ x y z u v s t W, F x y z u v s t W → Q .normal (A x y z u v s t) W) → c.wp P Q a w) (k : ∀ x y z u v s t W, F x y z u v s t W → Q .normal (A x y z u v s t) W) : c.wp P Q a w := leaf k
end Go.Proofs.YtakifcobofkheaaGreatDoor

/-
  What l9Copy of the specification answers: the same job, in new memory.
-/
namespace Go.Proofs.YtakifcobofkheaaGreatDoor
open Go.RowKit Go.Deep
set_option linter.unusedVariables false
set_option linter.unusedSimpArgs false
set_option linter.unnecessarySimpa false

/-- The boxes. -/
structure Jc (w : World) (j : Jb) (l : JLoc) (W : World) : Prop where
  p : Blk W w.heap.size (jC j l) 38
  r : Blk W (w.heap.size + 1) #[.slice none 0 0, .int .i64 0, .int .i64 0, .int .i64 0, .slice none 0 0, .slice none 0 0, .slice none 0 0] 38
  bel : Below w.heap.size w W

theorem Jc.below {w : World} {j : Jb} {l : JLoc} {W W' : World} (h : Jc w j l W) (hb : Below W.heap.size W W') : Jc w j l W' := ⟨h.p.below hb h.p.lt, h.r.below hb h.r.lt, h.bel.trans (hb.mono h.bel.size)⟩

/-- The variable's cells: a tree, something kept, and the list. -/
def jcs (j : Jb) (k1 : TLoc) (k2 : DLoc) (s : Value) : Array Value := #[.slice k1.a j.t.n k1.c, .int .i64 j.t.now, .int .i64 j.d.since, .int .i64 j.d.date, .slice k2.lA j.d.ln k2.lc, .slice k2.iA j.d.m k2.ic, s]

/-- What is known ahead of the loop. -/
structure Jv (w : World) (j : Jb) (l : JLoc) (k1 : TLoc) (k2 : DLoc) (V : Nat) (W : World) : Prop where
  c : Jc w j l W
  v : Blk W V (jcs j k1 k2 (.slice none 0 0)) 38
  vl : w.heap.size + 2 ≤ V
  t : OwnTr W (w.heap.size + 2) j.t k1
  d : OwnDp W (w.heap.size + 2) j.d k2
  td : ∀ b, BkT j.t k1 b → ¬ BkD j.d k2 b
  tv : ¬ BkT j.t k1 V
  dv : ¬ BkD j.d k2 V

theorem Jc.of {w W0 : World} {j : Jb} {l : JLoc} (h : Jc w j l W0) {V k : Nat} {cs : Value → Array Value} {b : Option Addr} {bc : Nat} {E : Nat → Nd} {M : Nat → Loc} {W : World} (g : GV W0 V 6 38 cs k b bc E M W) (hV : w.heap.size + 2 ≤ V) : Jc w j l W :=
  ⟨h.p.of_block (g.keep h.p.lt (by omega)), h.r.of_block (g.keep h.r.lt (by omega)), h.bel.grown g.gr (by have := h.bel.size; omega) (fun j e => by have := Option.some.inj e; omega)⟩

set_option maxRecDepth 100000 in
set_option maxHeartbeats 8000000 in
theorem l9Copy_any (j : Jb) (l : JLoc) (w : World) (hJ : JIn w j l) (hok : j.d.ok = true) (hn : j.t.n ≤ 10) (hq10 : j.q ≤ 10) (hst : j.t.size ≤ 1048576) (hsd : j.d.size ≤ 1048576) (hse : ∀ i, i < j.q → (j.e i).size ≤ 1048576) :
    Calls Tryz.prog 44 #[jV j l] w fun e w' => ∃ l', e = .returned (jV j l') ∧ Below w.heap.size w w' ∧ OwnJb w' w.heap.size j l' := by
  unfold jV
  obtain ⟨y0, hy, hy0, hy1, hy2⟩ := info_parts infoNode
  go_enter Tryz.func44, Tryz.ntmps44
  go_wp2_with fail
  refine wp_world (F := fun W => Jc w j l W ∧ w.heap.size + 2 ≤ W.heap.size) ?_ ?_
  · obtain ⟨h0, h1, hb, hs'⟩ := new2 w (jC j l) 38 #[.slice none 0 0, .int .i64 0, .int .i64 0, .int .i64 0, .slice none 0 0, .slice none 0 0, .slice none 0 0] 38
    exact ⟨⟨h0, h1, hb⟩, by simp⟩
  rintro w2 ⟨hO, hs2⟩
  have H2 : Hid (Jc w j l w2) := hO
  clear hO
  have HSt : Hid (∀ W', Below w2.heap.size w2 W' → W'.cell? ⟨w.heap.size, 0, none⟩ = some (.slice l.t.a j.t.n l.t.c) ∧ W'.cell? ⟨w.heap.size, 1, none⟩ = some (.int .i64 j.t.now) ∧ W'.cell? ⟨w.heap.size, 2, none⟩ = some (.int .i64 j.d.since) ∧ W'.cell? ⟨w.heap.size, 3, none⟩ = some (.int .i64 j.d.date) ∧ W'.cell? ⟨w.heap.size, 4, none⟩ = some (.slice l.d.lA j.d.ln l.d.lc) ∧ W'.cell? ⟨w.heap.size, 5, none⟩ = some (.slice l.d.iA j.d.m l.d.ic)) := fun W' hW => by
    obtain ⟨p0, p1, p2, p3, p4, p5, p6⟩ := jC_cells (H2.out.below hW).p
    exact ⟨p0, p1, p2, p3, p4, p5⟩
  apply wp_cn3 (X := TLoc) (Y := DLoc) (Z := Nat) (fun k1 k2 V W => Jv w j l k1 k2 V W)
  · intro key
    have KEY : Hid _ := key
    clear key
    refine wp_region_noPanic ?_
    have hB0 : Below w2.heap.size w2 w2.drew := (Below.refl _ _).drew
    refine wp_region_peel (fun W' => W'.cell? ⟨w.heap.size, 0, none⟩ = some (.slice l.t.a j.t.n l.t.c) ∧ W'.cell? ⟨w.heap.size, 1, none⟩ = some (.int .i64 j.t.now) ∧ W'.cell? ⟨w.heap.size, 2, none⟩ = some (.int .i64 j.d.since) ∧ W'.cell? ⟨w.heap.size, 3, none⟩ = some (.int .i64 j.d.date) ∧ W'.cell? ⟨w.heap.size, 4, none⟩ = some (.slice l.d.lA j.d.ln l.d.lc) ∧ W'.cell? ⟨w.heap.size, 5, none⟩ = some (.slice l.d.iA j.d.m l.d.ic)) _ (by kernel_rfl) rfl (by kernel_rfl) ?_ (fun hHeld => ?_)
    · exact HSt.out _ hB0
    simp only [List.pop_toArray, List.dropLast, List.size_toArray, List.length_cons, List.length_nil, Nat.reduceAdd, Nat.reduceSub, List.getElem_toArray, List.getElem_cons_succ, List.getElem_cons_zero]
    refine peel_take (i := 0) (oi := ?oi0a) (v := ?v0a) (fun _ _ _ _ _ h => h) hHeld ?hi0a (by kernel_rfl) (by kernel_rfl) (by kernel_rfl) ?hw0a ?hy0a ?rest0a
    case hi0a =>
      simp only [List.getElem?_toArray, List.getElem?_cons_zero]
      rfl
    case hw0a => rfl
    case hy0a =>
      intro w hSw
      obtain ⟨s0, s1, s2, s3, s4, s5⟩ := hSw
      go_simp
      try with_reducible rfl
    try simp only [Act.put, List.setIfInBounds_toArray, List.set_cons_zero, List.set_cons_succ]
    refine peel_take (i := 1) (oi := ?oi1a) (v := ?v1a) (fun _ _ _ _ _ h => h) hHeld ?hi1a (by kernel_rfl) (by kernel_rfl) (by kernel_rfl) ?hw1a ?hy1a ?rest1a
    case hi1a =>
      simp only [List.getElem?_toArray, List.getElem?_cons_succ, List.getElem?_cons_zero]
      rfl
    case hw1a => rfl
    case hy1a =>
      intro w hSw
      obtain ⟨s0, s1, s2, s3, s4, s5⟩ := hSw
      go_simp
      try with_reducible rfl
    try simp only [Act.put, List.setIfInBounds_toArray, List.set_cons_zero, List.set_cons_succ]
    refine peel_take (i := 3) (oi := ?oi3a) (v := ?v3a) (fun _ _ _ _ _ h => h) hHeld ?hi3a (by kernel_rfl) (by kernel_rfl) (by kernel_rfl) ?hw3a ?hy3a ?rest3a
    case hi3a =>
      simp only [List.getElem?_toArray, List.getElem?_cons_succ, List.getElem?_cons_zero]
      rfl
    case hw3a => rfl
    case hy3a =>
      intro w hSw
      obtain ⟨s0, s1, s2, s3, s4, s5⟩ := hSw
      go_simp
      try with_reducible rfl
    try simp only [Act.put, List.setIfInBounds_toArray, List.set_cons_zero, List.set_cons_succ]
    refine peel_take (i := 4) (oi := ?oi4a) (v := ?v4a) (fun _ _ _ _ _ h => h) hHeld ?hi4a (by kernel_rfl) (by kernel_rfl) (by kernel_rfl) ?hw4a ?hy4a ?rest4a
    case hi4a =>
      simp only [List.getElem?_toArray, List.getElem?_cons_succ, List.getElem?_cons_zero]
      rfl
    case hw4a => rfl
    case hy4a =>
      intro w hSw
      obtain ⟨s0, s1, s2, s3, s4, s5⟩ := hSw
      go_simp
      try with_reducible rfl
    try simp only [Act.put, List.setIfInBounds_toArray, List.set_cons_zero, List.set_cons_succ]
    refine wpAnyH_ready (rs := [2, 7]) (by kernel_rfl) (by simp) ?_
    refine AllReadyH.cons (o := ?o2q1a) ?ho2q1a (fun K hK => ?st2q1a) ?more2q1a
    case ho2q1a =>
      simp only [List.getElem?_toArray, List.getElem?_cons_succ, List.getElem?_cons_zero]
      rfl
    case st2q1a =>
      go_simp
      refine (l2Tree_own j.t l.t _ ((hJ.t.below (Nat.le_refl _) H2.out.bel).below (Nat.le_refl _) hB0) (by omega) hst).mono ?_
      rintro e wq1a ⟨k1, rfl, hbc, ho1q1a⟩
      unfold tV
      have hBq1a : Below w2.heap.size w2 wq1a := hB0.trans (hbc.mono hB0.size)
      have holq1a := ho1q1a.lower hB0.size
      clear hbc
      refine hK.out _ _ (HSt.out _ hBq1a) (fun hHeld => ?_)
      clear hK K
      try simp only [Act.put, List.setIfInBounds_toArray, List.set_cons_zero, List.set_cons_succ]
      refine wpAnyH_ready (rs := [5, 7]) (by kernel_rfl) (by simp) ?_
      refine AllReadyH.cons (o := ?o5q2a) ?ho5q2a (fun K hK => ?st5q2a) ?more5q2a
      case ho5q2a =>
        simp only [List.getElem?_toArray, List.getElem?_cons_succ, List.getElem?_cons_zero]
        rfl
      case st5q2a =>
        go_simp
        have htlq2a : ∀ b, BkT j.t k1 b → b < (wq1a).heap.size := fun b e => (holq1a.blk e).2
        refine (l5Copy_any j.d l.d _ ((hJ.d.below (Nat.le_refl _) H2.out.bel).below (Nat.le_refl _) hBq1a) hok hsd).mono ?_
        rintro e wq2a ⟨k2, rfl, hbc, ho2q2a⟩
        unfold dpV
        have hBq2a : Below w2.heap.size w2 wq2a := hBq1a.trans (hbc.mono hBq1a.size)
        have htq2a := holq1a.below hbc
        have htdq2a : ∀ b, BkT j.t k1 b → ¬ BkD j.d k2 b := fun b e1 e2 => by have h1 := htlq2a b e1; have h2 := (ho2q2a.blk e2).1; omega
        have holq2a := ho2q2a.lower hBq1a.size
        clear hbc
        refine hK.out _ _ (HSt.out _ hBq2a) (fun hHeld => ?_)
        clear hK K
        try simp only [Act.put, List.setIfInBounds_toArray, List.set_cons_zero, List.set_cons_succ]
        refine wpAnyH_ready (rs := [6, 7]) (by kernel_rfl) (by simp) ?_
        refine AllReadyH.cons (o := ?o6q3a) ?ho6q3a (fun K hK => ?st6q3a) ?more6q3a
        case ho6q3a =>
          simp only [List.getElem?_toArray, List.getElem?_cons_succ, List.getElem?_cons_zero]
          rfl
        case st6q3a =>
          go_simp
          refine hK.out _ _ hHeld (fun hHeld => ?_)
          clear hK K
          try simp only [Act.put, List.setIfInBounds_toArray, List.set_cons_zero, List.set_cons_succ]
          refine wpAnyH_ready (rs := [7]) (by kernel_rfl) (by simp) ?_
          refine AllReadyH.cons (o := ?o7q4a) ?ho7q4a (fun K hK => ?st7q4a) AllReadyH.nil
          case ho7q4a =>
            simp only [List.getElem?_toArray, List.getElem?_cons_succ, List.getElem?_cons_zero]
            rfl
          go_simp
          have hBq4a : Below w2.heap.size w2 (wq2a.alloc (.cells #[.slice none 0 0, .int .i64 0, .int .i64 0, .int .i64 0, .slice none 0 0, .slice none 0 0, .slice none 0 0] 38)) := hBq2a.alloc hBq2a.size _
          have hvq4a : Blk (wq2a.alloc (.cells #[.slice none 0 0, .int .i64 0, .int .i64 0, .int .i64 0, .slice none 0 0, .slice none 0 0, .slice none 0 0] 38)) (wq2a.heap.size) #[.slice none 0 0, .int .i64 0, .int .i64 0, .int .i64 0, .slice none 0 0, .slice none 0 0, .slice none 0 0] 38 := by
            have h := Blk.new wq2a #[.slice none 0 0, .int .i64 0, .int .i64 0, .int .i64 0, .slice none 0 0, .slice none 0 0, .slice none 0 0] 38
            simpa using h
          have hVq4a : w2.heap.size ≤ wq2a.heap.size := by
            have h := hBq2a.size
            simpa using h
          have htq4a := htq2a.below ((Below.refl _ _).alloc (Nat.le_refl _) (.cells #[.slice none 0 0, .int .i64 0, .int .i64 0, .int .i64 0, .slice none 0 0, .slice none 0 0, .slice none 0 0] 38))
          have htvq4a : ¬ BkT j.t k1 (wq2a.heap.size) := fun e => by have h := (htq2a.blk e).2; simp at h
          have hdq4a := holq2a.below ((Below.refl _ _).alloc (Nat.le_refl _) (.cells #[.slice none 0 0, .int .i64 0, .int .i64 0, .int .i64 0, .slice none 0 0, .slice none 0 0, .slice none 0 0] 38))
          have hdvq4a : ¬ BkD j.d k2 (wq2a.heap.size) := fun e => by have h := (holq2a.blk e).2; simp at h
          refine hK.out _ _ (HSt.out _ hBq4a) (fun hHeld => ?_)
          clear hK K
          try simp only [Act.put, List.setIfInBounds_toArray, List.set_cons_zero, List.set_cons_succ]
          refine wpAnyH_done (by kernel_rfl) ?_ _
          have HS : Hid (∀ U, U = wq2a.alloc (.cells (jcs j k1 k2 (.slice none 0 0)) 38) → Jv w j l k1 k2 (wq2a.heap.size) U) := fun U e => by
            subst e
            have hb : Below wq2a.heap.size wq2a (wq2a.alloc (.cells (jcs j k1 k2 (.slice none 0 0)) 38)) := (Below.refl _ _).alloc (Nat.le_refl _) _
            exact ⟨H2.out.below (hBq2a.trans (hb.mono hBq2a.size)), Blk.new _ _ _, by have := hVq4a; omega, (htq2a.below hb).lower hs2, (holq2a.below hb).lower hs2, htdq2a, htvq4a, hdvq4a⟩
          show Oper.wp _ _ _ _ _ _
          go_simp
          generalize hV : wq2a.heap.size = V
          exact NoPanic.normal (KEY.out k1 k2 V _ (by rw [← hV]; exact HS.out _ rfl))
        refine AllReadyH.cons (o := ?o7q3b) ?ho7q3b (fun K hK => ?st7q3b) AllReadyH.nil
        case ho7q3b =>
          simp only [List.getElem?_toArray, List.getElem?_cons_succ, List.getElem?_cons_zero]
          rfl
        go_simp
        have hBq3b : Below w2.heap.size w2 (wq2a.alloc (.cells #[.slice none 0 0, .int .i64 0, .int .i64 0, .int .i64 0, .slice none 0 0, .slice none 0 0, .slice none 0 0] 38)) := hBq2a.alloc hBq2a.size _
        have hvq3b : Blk (wq2a.alloc (.cells #[.slice none 0 0, .int .i64 0, .int .i64 0, .int .i64 0, .slice none 0 0, .slice none 0 0, .slice none 0 0] 38)) (wq2a.heap.size) #[.slice none 0 0, .int .i64 0, .int .i64 0, .int .i64 0, .slice none 0 0, .slice none 0 0, .slice none 0 0] 38 := by
          have h := Blk.new wq2a #[.slice none 0 0, .int .i64 0, .int .i64 0, .int .i64 0, .slice none 0 0, .slice none 0 0, .slice none 0 0] 38
          simpa using h
        have hVq3b : w2.heap.size ≤ wq2a.heap.size := by
          have h := hBq2a.size
          simpa using h
        have htq3b := htq2a.below ((Below.refl _ _).alloc (Nat.le_refl _) (.cells #[.slice none 0 0, .int .i64 0, .int .i64 0, .int .i64 0, .slice none 0 0, .slice none 0 0, .slice none 0 0] 38))
        have htvq3b : ¬ BkT j.t k1 (wq2a.heap.size) := fun e => by have h := (htq2a.blk e).2; simp at h
        have hdq3b := holq2a.below ((Below.refl _ _).alloc (Nat.le_refl _) (.cells #[.slice none 0 0, .int .i64 0, .int .i64 0, .int .i64 0, .slice none 0 0, .slice none 0 0, .slice none 0 0] 38))
        have hdvq3b : ¬ BkD j.d k2 (wq2a.heap.size) := fun e => by have h := (holq2a.blk e).2; simp at h
        refine hK.out _ _ (HSt.out _ hBq3b) (fun hHeld => ?_)
        clear hK K
        try simp only [Act.put, List.setIfInBounds_toArray, List.set_cons_zero, List.set_cons_succ]
        refine wpAnyH_ready (rs := [6]) (by kernel_rfl) (by simp) ?_
        refine AllReadyH.cons (o := ?o6q6a) ?ho6q6a (fun K hK => ?st6q6a) AllReadyH.nil
        case ho6q6a =>
          simp only [List.getElem?_toArray, List.getElem?_cons_succ, List.getElem?_cons_zero]
          rfl
        go_simp
        refine hK.out _ _ hHeld (fun hHeld => ?_)
        clear hK K
        try simp only [Act.put, List.setIfInBounds_toArray, List.set_cons_zero, List.set_cons_succ]
        refine wpAnyH_done (by kernel_rfl) ?_ _
        have HS : Hid (∀ U, U = wq2a.alloc (.cells (jcs j k1 k2 (.slice none 0 0)) 38) → Jv w j l k1 k2 (wq2a.heap.size) U) := fun U e => by
          subst e
          have hb : Below wq2a.heap.size wq2a (wq2a.alloc (.cells (jcs j k1 k2 (.slice none 0 0)) 38)) := (Below.refl _ _).alloc (Nat.le_refl _) _
          exact ⟨H2.out.below (hBq2a.trans (hb.mono hBq2a.size)), Blk.new _ _ _, by have := hVq3b; omega, (htq2a.below hb).lower hs2, (holq2a.below hb).lower hs2, htdq2a, htvq3b, hdvq3b⟩
        show Oper.wp _ _ _ _ _ _
        go_simp
        generalize hV : wq2a.heap.size = V
        exact NoPanic.normal (KEY.out k1 k2 V _ (by rw [← hV]; exact HS.out _ rfl))
      refine AllReadyH.cons (o := ?o7q2b) ?ho7q2b (fun K hK => ?st7q2b) AllReadyH.nil
      case ho7q2b =>
        simp only [List.getElem?_toArray, List.getElem?_cons_succ, List.getElem?_cons_zero]
        rfl
      go_simp
      have hBq2b : Below w2.heap.size w2 (wq1a.alloc (.cells #[.slice none 0 0, .int .i64 0, .int .i64 0, .int .i64 0, .slice none 0 0, .slice none 0 0, .slice none 0 0] 38)) := hBq1a.alloc hBq1a.size _
      have hvq2b : Blk (wq1a.alloc (.cells #[.slice none 0 0, .int .i64 0, .int .i64 0, .int .i64 0, .slice none 0 0, .slice none 0 0, .slice none 0 0] 38)) (wq1a.heap.size) #[.slice none 0 0, .int .i64 0, .int .i64 0, .int .i64 0, .slice none 0 0, .slice none 0 0, .slice none 0 0] 38 := by
        have h := Blk.new wq1a #[.slice none 0 0, .int .i64 0, .int .i64 0, .int .i64 0, .slice none 0 0, .slice none 0 0, .slice none 0 0] 38
        simpa using h
      have hVq2b : w2.heap.size ≤ wq1a.heap.size := by
        have h := hBq1a.size
        simpa using h
      have htq2b := holq1a.below ((Below.refl _ _).alloc (Nat.le_refl _) (.cells #[.slice none 0 0, .int .i64 0, .int .i64 0, .int .i64 0, .slice none 0 0, .slice none 0 0, .slice none 0 0] 38))
      have htvq2b : ¬ BkT j.t k1 (wq1a.heap.size) := fun e => by have h := (holq1a.blk e).2; simp at h
      refine hK.out _ _ (HSt.out _ hBq2b) (fun hHeld => ?_)
      clear hK K
      try simp only [Act.put, List.setIfInBounds_toArray, List.set_cons_zero, List.set_cons_succ]
      refine wpAnyH_ready (rs := [5]) (by kernel_rfl) (by simp) ?_
      refine AllReadyH.cons (o := ?o5q8a) ?ho5q8a (fun K hK => ?st5q8a) AllReadyH.nil
      case ho5q8a =>
        simp only [List.getElem?_toArray, List.getElem?_cons_succ, List.getElem?_cons_zero]
        rfl
      go_simp
      have htlq8a : ∀ b, BkT j.t k1 b → b < ((wq1a.alloc (.cells #[.slice none 0 0, .int .i64 0, .int .i64 0, .int .i64 0, .slice none 0 0, .slice none 0 0, .slice none 0 0] 38))).heap.size := fun b e => (htq2b.blk e).2
      refine (l5Copy_any j.d l.d _ ((hJ.d.below (Nat.le_refl _) H2.out.bel).below (Nat.le_refl _) hBq2b) hok hsd).mono ?_
      rintro e wq8a ⟨k2, rfl, hbc, ho2q8a⟩
      unfold dpV
      have hBq8a : Below w2.heap.size w2 wq8a := hBq2b.trans (hbc.mono hBq2b.size)
      have htq8a := htq2b.below hbc
      have htdq8a : ∀ b, BkT j.t k1 b → ¬ BkD j.d k2 b := fun b e1 e2 => by have h1 := htlq8a b e1; have h2 := (ho2q8a.blk e2).1; omega
      have hvq8a : Blk wq8a (wq1a.heap.size) #[.slice none 0 0, .int .i64 0, .int .i64 0, .int .i64 0, .slice none 0 0, .slice none 0 0, .slice none 0 0] 38 := hvq2b.below hbc hvq2b.lt
      have hltq8a : wq1a.heap.size < wq8a.heap.size := hvq8a.lt
      have hdvq8a : ¬ BkD j.d k2 (wq1a.heap.size) := fun e => by have h1 := (ho2q8a.blk e).1; have h2 := hvq2b.lt; omega
      have holq8a := ho2q8a.lower hBq2b.size
      clear hbc
      refine hK.out _ _ (HSt.out _ hBq8a) (fun hHeld => ?_)
      clear hK K
      try simp only [Act.put, List.setIfInBounds_toArray, List.set_cons_zero, List.set_cons_succ]
      refine wpAnyH_ready (rs := [6]) (by kernel_rfl) (by simp) ?_
      refine AllReadyH.cons (o := ?o6q9a) ?ho6q9a (fun K hK => ?st6q9a) AllReadyH.nil
      case ho6q9a =>
        simp only [List.getElem?_toArray, List.getElem?_cons_succ, List.getElem?_cons_zero]
        rfl
      go_simp
      refine hK.out _ _ hHeld (fun hHeld => ?_)
      clear hK K
      try simp only [Act.put, List.setIfInBounds_toArray, List.set_cons_zero, List.set_cons_succ]
      refine wpAnyH_done (by kernel_rfl) ?_ _
      have z0 := hvq8a.cell 0
      have z1 := hvq8a.cell 1
      have z2 := hvq8a.cell 2
      have z3 := hvq8a.cell 3
      have z4 := hvq8a.cell 4
      have z5 := hvq8a.cell 5
      have z6 := hvq8a.cell 6
      have f0 := hvq8a.frozen 0
      have f1 := hvq8a.frozen 1
      have f2 := hvq8a.frozen 2
      have f3 := hvq8a.frozen 3
      have f4 := hvq8a.frozen 4
      have f5 := hvq8a.frozen 5
      have f6 := hvq8a.frozen 6
      simp at z0 z1 z2 z3 z4 z5 z6
      have HS : Hid (∀ U, U = (((((((wq8a.setCell ⟨wq1a.heap.size, 0, none⟩ (.slice k1.a j.t.n k1.c)).setCell ⟨wq1a.heap.size, 1, none⟩ (.int .i64 j.t.now)).setCell ⟨wq1a.heap.size, 2, none⟩ (.int .i64 j.d.since)).setCell ⟨wq1a.heap.size, 3, none⟩ (.int .i64 j.d.date)).setCell ⟨wq1a.heap.size, 4, none⟩ (.slice k2.lA j.d.ln k2.lc)).setCell ⟨wq1a.heap.size, 5, none⟩ (.slice k2.iA j.d.m k2.ic)).setCell ⟨wq1a.heap.size, 6, none⟩ (.slice none 0 0)) → Jv w j l k1 k2 (wq1a.heap.size) U) := fun U e => by
        subst e
        have hk : ∀ b, b ≠ wq1a.heap.size → (((((((wq8a.setCell ⟨wq1a.heap.size, 0, none⟩ (.slice k1.a j.t.n k1.c)).setCell ⟨wq1a.heap.size, 1, none⟩ (.int .i64 j.t.now)).setCell ⟨wq1a.heap.size, 2, none⟩ (.int .i64 j.d.since)).setCell ⟨wq1a.heap.size, 3, none⟩ (.int .i64 j.d.date)).setCell ⟨wq1a.heap.size, 4, none⟩ (.slice k2.lA j.d.ln k2.lc)).setCell ⟨wq1a.heap.size, 5, none⟩ (.slice k2.iA j.d.m k2.ic)).setCell ⟨wq1a.heap.size, 6, none⟩ (.slice none 0 0)).heap[b]? = wq8a.heap[b]? := fun b hb => by
          refine (blk_setCell_other _ _ _ _ (show b ≠ _ from hb)).trans ((blk_setCell_other _ _ _ _ (show b ≠ _ from hb)).trans ((blk_setCell_other _ _ _ _ (show b ≠ _ from hb)).trans ((blk_setCell_other _ _ _ _ (show b ≠ _ from hb)).trans ((blk_setCell_other _ _ _ _ (show b ≠ _ from hb)).trans ((blk_setCell_other _ _ _ _ (show b ≠ _ from hb)).trans (blk_setCell_other _ _ _ _ (show b ≠ _ from hb)))))))
        exact ⟨⟨(H2.out.below hBq8a).p.of_block (hk _ (by have := hVq2b; omega)), (H2.out.below hBq8a).r.of_block (hk _ (by have := hVq2b; omega)), H2.out.bel.trans ((bel_put (bel_put (bel_put (bel_put (bel_put (bel_put (bel_put hBq8a _ hVq2b) _ hVq2b) _ hVq2b) _ hVq2b) _ hVq2b) _ hVq2b) _ hVq2b).mono H2.out.bel.size)⟩, (((((((hvq8a.set 0 _).set 1 _).set 2 _).set 3 _).set 4 _).set 5 _).set 6 _), by have := hVq2b; omega, (htq8a.keep fun b e => hk b (fun e' => htvq2b (e' ▸ e))).lower hs2, (holq8a.keep fun b e => hk b (fun e' => hdvq8a (e' ▸ e))).lower hs2, htdq8a, htvq2b, hdvq8a⟩
      show Oper.wp _ _ _ _ _ _
      go_simp
      generalize hV : wq1a.heap.size = V
      exact NoPanic.normal (KEY.out k1 k2 V _ (by rw [← hV]; exact HS.out _ rfl))
    refine AllReadyH.cons (o := ?o7q1b) ?ho7q1b (fun K hK => ?st7q1b) AllReadyH.nil
    case ho7q1b =>
      simp only [List.getElem?_toArray, List.getElem?_cons_succ, List.getElem?_cons_zero]
      rfl
    go_simp
    have hBq1b : Below w2.heap.size w2 (w2.drew.alloc (.cells #[.slice none 0 0, .int .i64 0, .int .i64 0, .int .i64 0, .slice none 0 0, .slice none 0 0, .slice none 0 0] 38)) := hB0.alloc hB0.size _
    have hvq1b : Blk (w2.drew.alloc (.cells #[.slice none 0 0, .int .i64 0, .int .i64 0, .int .i64 0, .slice none 0 0, .slice none 0 0, .slice none 0 0] 38)) (w2.heap.size) #[.slice none 0 0, .int .i64 0, .int .i64 0, .int .i64 0, .slice none 0 0, .slice none 0 0, .slice none 0 0] 38 := by
      have h := Blk.new w2.drew #[.slice none 0 0, .int .i64 0, .int .i64 0, .int .i64 0, .slice none 0 0, .slice none 0 0, .slice none 0 0] 38
      simpa using h
    have hVq1b : w2.heap.size ≤ w2.heap.size := by
      have h := hB0.size
      simpa using h
    refine hK.out _ _ (HSt.out _ hBq1b) (fun hHeld => ?_)
    clear hK K
    try simp only [Act.put, List.setIfInBounds_toArray, List.set_cons_zero, List.set_cons_succ]
    refine wpAnyH_ready (rs := [2]) (by kernel_rfl) (by simp) ?_
    refine AllReadyH.cons (o := ?o2q11a) ?ho2q11a (fun K hK => ?st2q11a) AllReadyH.nil
    case ho2q11a =>
      simp only [List.getElem?_toArray, List.getElem?_cons_succ, List.getElem?_cons_zero]
      rfl
    go_simp
    refine (l2Tree_own j.t l.t _ ((hJ.t.below (Nat.le_refl _) H2.out.bel).below (Nat.le_refl _) hBq1b) (by omega) hst).mono ?_
    rintro e wq11a ⟨k1, rfl, hbc, ho1q11a⟩
    unfold tV
    have hBq11a : Below w2.heap.size w2 wq11a := hBq1b.trans (hbc.mono hBq1b.size)
    have hvq11a : Blk wq11a (w2.heap.size) #[.slice none 0 0, .int .i64 0, .int .i64 0, .int .i64 0, .slice none 0 0, .slice none 0 0, .slice none 0 0] 38 := hvq1b.below hbc hvq1b.lt
    have hltq11a : w2.heap.size < wq11a.heap.size := hvq11a.lt
    have htvq11a : ¬ BkT j.t k1 (w2.heap.size) := fun e => by have h1 := (ho1q11a.blk e).1; have h2 := hvq1b.lt; omega
    have holq11a := ho1q11a.lower hBq1b.size
    clear hbc
    refine hK.out _ _ (HSt.out _ hBq11a) (fun hHeld => ?_)
    clear hK K
    try simp only [Act.put, List.setIfInBounds_toArray, List.set_cons_zero, List.set_cons_succ]
    refine wpAnyH_ready (rs := [5]) (by kernel_rfl) (by simp) ?_
    refine AllReadyH.cons (o := ?o5q12a) ?ho5q12a (fun K hK => ?st5q12a) AllReadyH.nil
    case ho5q12a =>
      simp only [List.getElem?_toArray, List.getElem?_cons_succ, List.getElem?_cons_zero]
      rfl
    go_simp
    have htlq12a : ∀ b, BkT j.t k1 b → b < (wq11a).heap.size := fun b e => (holq11a.blk e).2
    refine (l5Copy_any j.d l.d _ ((hJ.d.below (Nat.le_refl _) H2.out.bel).below (Nat.le_refl _) hBq11a) hok hsd).mono ?_
    rintro e wq12a ⟨k2, rfl, hbc, ho2q12a⟩
    unfold dpV
    have hBq12a : Below w2.heap.size w2 wq12a := hBq11a.trans (hbc.mono hBq11a.size)
    have htq12a := holq11a.below hbc
    have htdq12a : ∀ b, BkT j.t k1 b → ¬ BkD j.d k2 b := fun b e1 e2 => by have h1 := htlq12a b e1; have h2 := (ho2q12a.blk e2).1; omega
    have hvq12a : Blk wq12a (w2.heap.size) #[.slice none 0 0, .int .i64 0, .int .i64 0, .int .i64 0, .slice none 0 0, .slice none 0 0, .slice none 0 0] 38 := hvq11a.below hbc hvq11a.lt
    have hltq12a : w2.heap.size < wq12a.heap.size := hvq12a.lt
    have hdvq12a : ¬ BkD j.d k2 (w2.heap.size) := fun e => by have h1 := (ho2q12a.blk e).1; have h2 := hvq11a.lt; omega
    have holq12a := ho2q12a.lower hBq11a.size
    clear hbc
    refine hK.out _ _ (HSt.out _ hBq12a) (fun hHeld => ?_)
    clear hK K
    try simp only [Act.put, List.setIfInBounds_toArray, List.set_cons_zero, List.set_cons_succ]
    refine wpAnyH_ready (rs := [6]) (by kernel_rfl) (by simp) ?_
    refine AllReadyH.cons (o := ?o6q13a) ?ho6q13a (fun K hK => ?st6q13a) AllReadyH.nil
    case ho6q13a =>
      simp only [List.getElem?_toArray, List.getElem?_cons_succ, List.getElem?_cons_zero]
      rfl
    go_simp
    refine hK.out _ _ hHeld (fun hHeld => ?_)
    clear hK K
    try simp only [Act.put, List.setIfInBounds_toArray, List.set_cons_zero, List.set_cons_succ]
    refine wpAnyH_done (by kernel_rfl) ?_ _
    have z0 := hvq12a.cell 0
    have z1 := hvq12a.cell 1
    have z2 := hvq12a.cell 2
    have z3 := hvq12a.cell 3
    have z4 := hvq12a.cell 4
    have z5 := hvq12a.cell 5
    have z6 := hvq12a.cell 6
    have f0 := hvq12a.frozen 0
    have f1 := hvq12a.frozen 1
    have f2 := hvq12a.frozen 2
    have f3 := hvq12a.frozen 3
    have f4 := hvq12a.frozen 4
    have f5 := hvq12a.frozen 5
    have f6 := hvq12a.frozen 6
    simp at z0 z1 z2 z3 z4 z5 z6
    have HS : Hid (∀ U, U = (((((((wq12a.setCell ⟨w2.heap.size, 0, none⟩ (.slice k1.a j.t.n k1.c)).setCell ⟨w2.heap.size, 1, none⟩ (.int .i64 j.t.now)).setCell ⟨w2.heap.size, 2, none⟩ (.int .i64 j.d.since)).setCell ⟨w2.heap.size, 3, none⟩ (.int .i64 j.d.date)).setCell ⟨w2.heap.size, 4, none⟩ (.slice k2.lA j.d.ln k2.lc)).setCell ⟨w2.heap.size, 5, none⟩ (.slice k2.iA j.d.m k2.ic)).setCell ⟨w2.heap.size, 6, none⟩ (.slice none 0 0)) → Jv w j l k1 k2 (w2.heap.size) U) := fun U e => by
      subst e
      have hk : ∀ b, b ≠ w2.heap.size → (((((((wq12a.setCell ⟨w2.heap.size, 0, none⟩ (.slice k1.a j.t.n k1.c)).setCell ⟨w2.heap.size, 1, none⟩ (.int .i64 j.t.now)).setCell ⟨w2.heap.size, 2, none⟩ (.int .i64 j.d.since)).setCell ⟨w2.heap.size, 3, none⟩ (.int .i64 j.d.date)).setCell ⟨w2.heap.size, 4, none⟩ (.slice k2.lA j.d.ln k2.lc)).setCell ⟨w2.heap.size, 5, none⟩ (.slice k2.iA j.d.m k2.ic)).setCell ⟨w2.heap.size, 6, none⟩ (.slice none 0 0)).heap[b]? = wq12a.heap[b]? := fun b hb => by
        refine (blk_setCell_other _ _ _ _ (show b ≠ _ from hb)).trans ((blk_setCell_other _ _ _ _ (show b ≠ _ from hb)).trans ((blk_setCell_other _ _ _ _ (show b ≠ _ from hb)).trans ((blk_setCell_other _ _ _ _ (show b ≠ _ from hb)).trans ((blk_setCell_other _ _ _ _ (show b ≠ _ from hb)).trans ((blk_setCell_other _ _ _ _ (show b ≠ _ from hb)).trans (blk_setCell_other _ _ _ _ (show b ≠ _ from hb)))))))
      exact ⟨⟨(H2.out.below hBq12a).p.of_block (hk _ (by have := hVq1b; omega)), (H2.out.below hBq12a).r.of_block (hk _ (by have := hVq1b; omega)), H2.out.bel.trans ((bel_put (bel_put (bel_put (bel_put (bel_put (bel_put (bel_put hBq12a _ hVq1b) _ hVq1b) _ hVq1b) _ hVq1b) _ hVq1b) _ hVq1b) _ hVq1b).mono H2.out.bel.size)⟩, (((((((hvq12a.set 0 _).set 1 _).set 2 _).set 3 _).set 4 _).set 5 _).set 6 _), by have := hVq1b; omega, (htq12a.keep fun b e => hk b (fun e' => htvq11a (e' ▸ e))).lower hs2, (holq12a.keep fun b e => hk b (fun e' => hdvq12a (e' ▸ e))).lower hs2, htdq12a, htvq11a, hdvq12a⟩
    show Oper.wp _ _ _ _ _ _
    go_simp
    generalize hV : w2.heap.size = V
    exact NoPanic.normal (KEY.out k1 k2 V _ (by rw [← hV]; exact HS.out _ rfl))
  · intro k1 k2 V w3 hG
    have HJV : Hid (Jv w j l k1 k2 V w3) := hG
    have hs3 : w.heap.size + 2 ≤ w3.heap.size := by have h1 := hG.v.lt; have h2 := hG.vl; omega
    have hVw := hG.vl
    have HG : Hid (GV w3 V 6 38 (jcs j k1 k2) 0 none 0 (fun _ => ndZero) (fun _ => ⟨none, 0, none, 0⟩) w3) := GV.start hG.v _ _
    clear hG HSt H2
    go_wp2_with fail
    go_loopw [4] (fun i wr => ∃ (k : Nat) (b : Option Addr) (bc : Nat) (E : Nat → Nd) (M : Nat → Loc), k ≤ j.q ∧ i = .int .i64 k ∧ GV w3 V 6 38 (jcs j k1 k2) k b bc E M wr ∧ ∀ i, i < k → E i = j.e i) (fun i _ => j.q - (intOf i).toNat)
    case atStart => exact ⟨0, none, 0, _, _, Nat.zero_le _, rfl, HG.out, fun i hi => absurd hi (Nat.not_lt_zero _)⟩
    case round =>
      obtain ⟨k, b, bc, E, M, hk, rfl, hin, hsel⟩ := hrel
      have HIN : Hid (GV w3 V 6 38 (jcs j k1 k2) k b bc E M wr ∧ ∀ i, i < k → E i = j.e i) := ⟨hin, hsel⟩
      have HT : Hid (Jc w j l wr) := HJV.out.c.of hin hVw
      have hsw : w3.heap.size ≤ wr.heap.size := hin.size
      clear hin hsel
      have p6 : wr.cell? ⟨w.heap.size, 6, none⟩ = some (.slice l.e j.q l.f) := HT.out.p.cell 6
      have v6 : wr.cell? ⟨V, 6, none⟩ = some (.slice b k bc) := HIN.out.1.v.cell 6
      by_cases hlt : k < j.q
      · have hlti : (k : Int) < (j.q : Int) := by omega
        obtain ⟨bT, oT, hT, hTl, hTc⟩ := (hJ.e.below (Nat.le_refl _) HT.out.bel).at hlt
        have HTA : Hid (l.e = some ⟨bT, oT, none⟩) := hT
        clear hT hTc
        go_wp2_with fail
        have HW : Hid (bT < w.heap.size ∧ ∀ W', Below wr.heap.size wr W' → (W'.cell? ⟨V, 6, none⟩ = some (.slice b k bc) ∧ W'.cell? ⟨w.heap.size, 6, none⟩ = some (.slice (some ⟨bT, oT, none⟩) j.q l.f) ∧ W'.cell? ⟨bT, oT + k * 5, none⟩ = some (.int .i64 (j.e k).kind) ∧ W'.cell? ⟨bT, oT + k * 5 + 1, none⟩ = some (.string (j.e k).text) ∧ W'.cell? ⟨bT, oT + k * 5 + 2, none⟩ = some (.slice (l.g k).nA (j.e k).nn (l.g k).nc) ∧ W'.cell? ⟨bT, oT + k * 5 + 3, none⟩ = some (.slice (l.g k).kA (j.e k).kn (l.g k).kc) ∧ W'.cell? ⟨bT, oT + k * 5 + 4, none⟩ = some (.int .i64 (j.e k).turn)) ∧ NdIn W' (j.e k) (l.g k)) := by
          show _ ∧ _
          obtain ⟨bI, oI, hQ, hbl, _⟩ := hJ.e.at hlt
          have hQT := HTA.out
          rw [hQ] at hQT
          obtain ⟨rfl, rfl⟩ : bI = bT ∧ oI = oT := by cases hQT; exact ⟨rfl, rfl⟩
          refine ⟨by omega, fun W' hW => ?_⟩
          have hcc : W'.cell? ⟨w.heap.size, 6, none⟩ = some (.slice l.e j.q l.f) := (HT.out.below hW).p.cell 6
          have hv3 : W'.cell? ⟨V, 6, none⟩ = some (.slice b k bc) := (HIN.out.1.below hW).v.cell 6
          obtain ⟨bI', oI', hQ', _, hc'⟩ := ((hJ.e.below (Nat.le_refl _) HT.out.bel).below (Nat.le_refl _) hW).at hlt
          obtain ⟨d1, d2, d3, d4, d5, d6⟩ := hc' k hlt
          rw [hQ] at hQ'
          cases hQ'
          refine ⟨⟨hv3, ?_, d1, d2, d3, d4, d5⟩, d6⟩
          rw [← hQ]
          exact hcc
        obtain ⟨hbIl, hSt⟩ := HW.out
        have HSt : Hid _ := hSt
        have hsm := hse k hlt
        unfold Nd.size at hsm
        clear p6 v6 hSt HW
        have hd5 : Below wr.heap.size wr wr.drew := below_drewN (Below.refl _ _) 1
        refine wp_region_noPanic ?_
        refine wp_region_peel2 (fun W' => W'.cell? ⟨V, 6, none⟩ = some (.slice b k bc) ∧ W'.cell? ⟨w.heap.size, 6, none⟩ = some (.slice (some ⟨bT, oT, none⟩) j.q l.f) ∧ W'.cell? ⟨bT, oT + k * 5, none⟩ = some (.int .i64 (j.e k).kind) ∧ W'.cell? ⟨bT, oT + k * 5 + 1, none⟩ = some (.string (j.e k).text) ∧ W'.cell? ⟨bT, oT + k * 5 + 2, none⟩ = some (.slice (l.g k).nA (j.e k).nn (l.g k).nc) ∧ W'.cell? ⟨bT, oT + k * 5 + 3, none⟩ = some (.slice (l.g k).kA (j.e k).kn (l.g k).kc) ∧ W'.cell? ⟨bT, oT + k * 5 + 4, none⟩ = some (.int .i64 (j.e k).turn)) _ _ (by kernel_rfl) rfl rfl (by kernel_rfl) (by kernel_rfl) ?_ (fun hHeld => ?_)
        · exact (HSt.out _ hd5).1
        simp only [List.pop_toArray, List.dropLast, List.size_toArray, List.length_cons, List.length_nil, Nat.reduceAdd, Nat.reduceSub, List.getElem_toArray, List.getElem_cons_succ, List.getElem_cons_zero]
        refine peel_take (i := 0) (oi := ?oi0y) (v := ?v0y) (fun _ _ _ _ _ h => h) hHeld ?hi0y (by kernel_rfl) (by kernel_rfl) (by kernel_rfl) ?hw0y ?hy0y ?rest0y
        case hi0y =>
          simp only [List.getElem?_toArray, List.getElem?_cons_zero]
          rfl
        case hw0y => rfl
        case hy0y =>
          intro w hSw
          obtain ⟨s0, s1, s2, s3, s4, s5, s6⟩ := hSw
          go_simp
          try with_reducible rfl
        try simp only [Act.put, List.setIfInBounds_toArray, List.set_cons_zero, List.set_cons_succ]
        refine peel_take (i := 1) (oi := ?oi1y) (v := ?v1y) (fun _ _ _ _ _ h => h) hHeld ?hi1y (by kernel_rfl) (by kernel_rfl) (by kernel_rfl) ?hw1y ?hy1y ?rest1y
        case hi1y =>
          simp only [List.getElem?_toArray, List.getElem?_cons_succ, List.getElem?_cons_zero]
          rfl
        case hw1y => rfl
        case hy1y =>
          intro w hSw
          obtain ⟨s0, s1, s2, s3, s4, s5, s6⟩ := hSw
          go_simp
          try with_reducible rfl
        try simp only [Act.put, List.setIfInBounds_toArray, List.set_cons_zero, List.set_cons_succ]
        refine peel_take (i := 2) (oi := ?oi2y) (v := ?v2y) (fun _ _ _ _ _ h => h) hHeld ?hi2y (by kernel_rfl) (by kernel_rfl) (by kernel_rfl) ?hw2y ?hy2y ?rest2y
        case hi2y =>
          simp only [List.getElem?_toArray, List.getElem?_cons_succ, List.getElem?_cons_zero]
          rfl
        case hw2y => rfl
        case hy2y =>
          intro w hSw
          obtain ⟨s0, s1, s2, s3, s4, s5, s6⟩ := hSw
          go_simp
          try with_reducible rfl
        try simp only [Act.put, List.setIfInBounds_toArray, List.set_cons_zero, List.set_cons_succ]
        refine peel_take (i := 3) (oi := ?oi3y) (v := ?v3y) (fun _ _ _ _ _ h => h) hHeld ?hi3y (by kernel_rfl) (by kernel_rfl) (by kernel_rfl) ?hw3y ?hy3y ?rest3y
        case hi3y =>
          simp only [List.getElem?_toArray, List.getElem?_cons_succ, List.getElem?_cons_zero]
          rfl
        case hw3y => rfl
        case hy3y =>
          intro w hSw
          obtain ⟨s0, s1, s2, s3, s4, s5, s6⟩ := hSw
          go_simp
          try with_reducible rfl
        try simp only [Act.put, List.setIfInBounds_toArray, List.set_cons_zero, List.set_cons_succ]
        refine peel_take (i := 4) (oi := ?oi4y) (v := ?v4y) (fun _ _ _ _ _ h => h) hHeld ?hi4y (by kernel_rfl) (by kernel_rfl) (by kernel_rfl) ?hw4y ?hy4y ?rest4y
        case hi4y =>
          simp only [List.getElem?_toArray, List.getElem?_cons_succ, List.getElem?_cons_zero]
          rfl
        case hw4y => rfl
        case hy4y =>
          intro w hSw
          obtain ⟨s0, s1, s2, s3, s4, s5, s6⟩ := hSw
          go_simp
          try with_reducible rfl
        try simp only [Act.put, List.setIfInBounds_toArray, List.set_cons_zero, List.set_cons_succ]
        refine peel_take (i := 5) (oi := ?oi5y) (v := ?v5y) (fun _ _ _ _ _ h => h) hHeld ?hi5y (by kernel_rfl) (by kernel_rfl) (by kernel_rfl) ?hw5y ?hy5y ?rest5y
        case hi5y =>
          simp only [List.getElem?_toArray, List.getElem?_cons_succ, List.getElem?_cons_zero]
          rfl
        case hw5y => rfl
        case hy5y =>
          intro w hSw
          obtain ⟨s0, s1, s2, s3, s4, s5, s6⟩ := hSw
          go_simp
          try with_reducible rfl
        try simp only [Act.put, List.setIfInBounds_toArray, List.set_cons_zero, List.set_cons_succ]
        refine peel_take (i := 6) (oi := ?oi6y) (v := ?v6y) (fun _ _ _ _ _ h => h) hHeld ?hi6y (by kernel_rfl) (by kernel_rfl) (by kernel_rfl) ?hw6y ?hy6y ?rest6y
        case hi6y =>
          simp only [List.getElem?_toArray, List.getElem?_cons_succ, List.getElem?_cons_zero]
          rfl
        case hw6y => rfl
        case hy6y =>
          intro w hSw
          obtain ⟨s0, s1, s2, s3, s4, s5, s6⟩ := hSw
          go_simp
          try with_reducible rfl
        try simp only [Act.put, List.setIfInBounds_toArray, List.set_cons_zero, List.set_cons_succ]
        refine wpAnyH_ready (rs := [7]) (by kernel_rfl) (by simp) ?_
        refine AllReadyH.cons (o := ?o7y) ?ho7y (fun K hK => ?st7y) AllReadyH.nil
        case ho7y =>
          simp only [List.getElem?_toArray, List.getElem?_cons_succ, List.getElem?_cons_zero]
          rfl
        go_simp
        refine (l2Copy_any (j.e k) (l.g k) wr.drew (HSt.out _ hd5).2 (by omega) (by omega)).mono ?_
        rintro e W6 ⟨l5, rfl, hN5⟩
        unfold ndV
        have hb6 : Below wr.heap.size wr W6 := hd5.trans hN5.bel
        refine hK.out _ _ (HSt.out W6 hb6).1 (fun hHeld => ?re7y)
        clear hK K
        try simp only [Act.put, List.setIfInBounds_toArray, List.set_cons_zero, List.set_cons_succ]
        refine wpAnyH_ready (rs := [8]) (by kernel_rfl) (by simp) ?_
        refine AllReadyH.cons (o := ?o8y) ?ho8y (fun K hK => ?st8y) AllReadyH.nil
        case ho8y =>
          simp only [List.getElem?_toArray, List.getElem?_cons_succ, List.getElem?_cons_zero]
          rfl
        go_simp
        have hb7 : Below wr.heap.size wr (W6.alloc (.cells #[.int .i64 (j.e k).kind, .string (j.e k).text, .slice l5.nA (j.e k).nn l5.nc, .slice l5.kA (j.e k).kn l5.kc, .int .i64 (j.e k).turn] 87)) := hb6.alloc hb6.size _
        refine hK.out _ _ (HSt.out _ hb7).1 (fun hHeld => ?re8y)
        clear hK K
        try simp only [Act.put, List.setIfInBounds_toArray, List.set_cons_zero, List.set_cons_succ]
        refine wpAnyH_ready (rs := [9]) (by kernel_rfl) (by simp) ?_
        refine AllReadyH.cons (o := ?o9y) ?ho9y (fun K hK => ?st9y) AllReadyH.nil
        case ho9y =>
          simp only [List.getElem?_toArray, List.getElem?_cons_succ, List.getElem?_cons_zero]
          rfl
        have hD6 := HIN.out.1.below hb7
        have hN6 := hN5.new.alloc (.cells #[.int .i64 (j.e k).kind, .string (j.e k).text, .slice l5.nA (j.e k).nn l5.nc, .slice l5.kA (j.e k).kn l5.kc, .int .i64 (j.e k).turn] 87)
        have hvl := HIN.out.1.vl
        have hneV : (Value.slice b k bc).ownBlock ≠ some V := fun e => by have := HIN.out.1.own _ e; omega
        have hbo5 : ∀ q, (Value.slice b k bc).ownBlock = some q → w3.heap.size ≤ q := fun q e => (HIN.out.1.own q e).1
        refine step_of (by rfl) (wp_append_src (.tmp 20) (.tmp 27) 31 rfl w3.heap.size 87 y0 (.agg #[.int .i64 0, .string ByteArray.empty, .slice none 0 0, .slice none 0 0, .int .i64 0]) 5 80 Tryz.underlying31 hy hy0 hy1 hy2 rfl (by decide) (.slice b k bc) k _ (by rfl) hD6.ot.ownI _ 1 _ (by rfl) (src_node W6 (j.e k) l5) (by unfold maxLen; omega) (by omega) (by have := hb7.size; have := HIN.out.1.size; omega) ?_)
        intro vI W7 hown hgrow hnil hat
        rcases hown.2 with ⟨_, h0⟩ | ⟨gI, cI, cur, hvI, _, _, _⟩
        · omega
        subst hvI
        have hbI : (Value.slice b k bc).ownBlock = some gI ∨ (W6.alloc (.cells #[.int .i64 (j.e k).kind, .string (j.e k).text, .slice l5.nA (j.e k).nn l5.nc, .slice l5.kA (j.e k).kn l5.kc, .int .i64 (j.e k).turn] 87)).heap.size ≤ gI := by
          rcases hat with e | e
          · exact Or.inl e.symm
          · right
            have e' : gI = (W6.alloc (.cells #[.int .i64 (j.e k).kind, .string (j.e k).text, .slice l5.nA (j.e k).nn l5.nc, .slice l5.kA (j.e k).kn l5.kc, .int .i64 (j.e k).turn] 87)).heap.size := by simpa [Value.ownBlock] using e
            omega
        have hV7 := blk_grownT hD6.v hgrow hneV
        have hHeld7 : W7.cell? ⟨V, 6, none⟩ = some (.slice b k bc) ∧ W7.cell? ⟨w.heap.size, 6, none⟩ = some (.slice (some ⟨bT, oT, none⟩) j.q l.f) ∧ W7.cell? ⟨bT, oT + k * 5, none⟩ = some (.int .i64 (j.e k).kind) ∧ W7.cell? ⟨bT, oT + k * 5 + 1, none⟩ = some (.string (j.e k).text) ∧ W7.cell? ⟨bT, oT + k * 5 + 2, none⟩ = some (.slice (l.g k).nA (j.e k).nn (l.g k).nc) ∧ W7.cell? ⟨bT, oT + k * 5 + 3, none⟩ = some (.slice (l.g k).kA (j.e k).kn (l.g k).kc) ∧ W7.cell? ⟨bT, oT + k * 5 + 4, none⟩ = some (.int .i64 (j.e k).turn) := by
          obtain ⟨e0, e1, e2, e3, e4, e5, e6⟩ := (HSt.out _ hb7).1
          have hlow : ∀ q o v, q < w3.heap.size → (W6.alloc (.cells #[.int .i64 (j.e k).kind, .string (j.e k).text, .slice l5.nA (j.e k).nn l5.nc, .slice l5.kA (j.e k).kn l5.kc, .int .i64 (j.e k).turn] 87)).cell? ⟨q, o, none⟩ = some v → W7.cell? ⟨q, o, none⟩ = some v := fun q o v hq h => hgrow.cell h (fun e => by have := hbo5 q e.symm; omega)
          exact ⟨hV7.cell 6, hlow _ _ _ (by omega) e1, hlow _ _ _ (by omega) e2, hlow _ _ _ (by omega) e3, hlow _ _ _ (by omega) e4, hlow _ _ _ (by omega) e5, hlow _ _ _ (by omega) e6⟩
        have H8 : Hid _ := (HIN.out.1.below hd5).item (f := 6) (fun _ _ => rfl) hN6 hgrow hown hbI
        refine hK.out _ _ hHeld7 (fun hHeld => ?re9y)
        clear hK K
        try simp only [Act.put, List.setIfInBounds_toArray, List.set_cons_zero, List.set_cons_succ]
        refine wpAnyH_done (by kernel_rfl) ?_ _
        show Oper.wp _ _ _ _ _ _
        have v07 : W7.cell? ⟨V, 6, none⟩ = some (.slice b k bc) := hV7.cell 6
        have f07 := hV7.frozen 6
        clear hown hgrow hnil hat hbI hV7 hHeld7 hN6 hD6 hN5 HSt hneV hHeld hd5 hb6 hb7 hsm hbo5
        go_simp
        show Oper.wp _ _ _ _ _ _
        go_simp
        refine NoPanic.normal ?_
        go_wp2_with fail
        go_roundw
        case rel => exact ⟨k + 1, some ⟨gI, 0, none⟩, cI, _, _, by omega, by go_num, H8.out, fun i hi => by
          by_cases e : i = k
          · subst e; simp
          · simp only [e, if_false]; exact HIN.out.2 i (by omega)⟩
        case measure => simp [intOf]; omega
      · obtain rfl : k = j.q := by omega
        have HOT : Hid (OwnJb wr (w.heap.size + 2) j ⟨k1, k2, b, bc, M⟩) := by
          have hE : OwnTr wr w3.heap.size j.dn ⟨b, bc, M⟩ := HIN.out.1.ot.ext fun i hi => ⟨(HIN.out.2 i hi).symm, rfl⟩
          have hEb : ∀ q, BkT j.dn ⟨b, bc, M⟩ q → w3.heap.size ≤ q := fun q e => (hE.blk e).1
          exact ⟨HJV.out.t.grown HIN.out.1.gr HJV.out.tv, HJV.out.d.grown HIN.out.1.gr HJV.out.dv, hE.lower hs3, HJV.out.td, fun q e1 e2 => by have h1 := (HJV.out.t.blk e1).2; have h2 := hEb q e2; omega, fun q e1 e2 => by have h1 := (HJV.out.d.blk e1).2; have h2 := hEb q e2; omega⟩
        have v0 : wr.cell? ⟨V, 0, none⟩ = some (.slice k1.a j.t.n k1.c) := HIN.out.1.v.cell 0
        have v1 : wr.cell? ⟨V, 1, none⟩ = some (.int .i64 j.t.now) := HIN.out.1.v.cell 1
        have v2 : wr.cell? ⟨V, 2, none⟩ = some (.int .i64 j.d.since) := HIN.out.1.v.cell 2
        have v3 : wr.cell? ⟨V, 3, none⟩ = some (.int .i64 j.d.date) := HIN.out.1.v.cell 3
        have v4 : wr.cell? ⟨V, 4, none⟩ = some (.slice k2.lA j.d.ln k2.lc) := HIN.out.1.v.cell 4
        have v5 : wr.cell? ⟨V, 5, none⟩ = some (.slice k2.iA j.d.m k2.ic) := HIN.out.1.v.cell 5
        have r0 : wr.cell? ⟨w.heap.size + 1, 0, none⟩ = some (.slice none 0 0) := HT.out.r.cell 0
        have r1 : wr.cell? ⟨w.heap.size + 1, 1, none⟩ = some (.int .i64 0) := HT.out.r.cell 1
        have r2 : wr.cell? ⟨w.heap.size + 1, 2, none⟩ = some (.int .i64 0) := HT.out.r.cell 2
        have r3 : wr.cell? ⟨w.heap.size + 1, 3, none⟩ = some (.int .i64 0) := HT.out.r.cell 3
        have r4 : wr.cell? ⟨w.heap.size + 1, 4, none⟩ = some (.slice none 0 0) := HT.out.r.cell 4
        have r5 : wr.cell? ⟨w.heap.size + 1, 5, none⟩ = some (.slice none 0 0) := HT.out.r.cell 5
        have r6 : wr.cell? ⟨w.heap.size + 1, 6, none⟩ = some (.slice none 0 0) := HT.out.r.cell 6
        have g0 := HT.out.r.frozen 0
        have g1 := HT.out.r.frozen 1
        have g2 := HT.out.r.frozen 2
        have g3 := HT.out.r.frozen 3
        have g4 := HT.out.r.frozen 4
        have g5 := HT.out.r.frozen 5
        have g6 := HT.out.r.frozen 6
        go_wp2_with fail
        refine end_world (F := fun U => Blk U (w.heap.size + 1) (jC j ⟨k1, k2, b, bc, M⟩) 38 ∧ Below w.heap.size w U ∧ OwnJb U (w.heap.size + 2) j ⟨k1, k2, b, bc, M⟩) ⟨((((((HT.out.r.set 0 _).set 1 _).set 2 _).set 3 _).set 4 _).set 5 _).set 6 _,
          bel_put (bel_put (bel_put (bel_put (bel_put (bel_put (bel_put HT.out.bel _ (by omega)) _ (by omega)) _ (by omega)) _ (by omega)) _ (by omega)) _ (by omega)) _ (by omega),
          ((((((HOT.out.put _ (by omega)).put _ (by omega)).put _ (by omega)).put _ (by omega)).put _ (by omega)).put _ (by omega)).put _ (by omega)⟩ ?_
        clear p6 v6 v0 v1 v2 v3 v4 v5 r0 r1 r2 r3 r4 r5 r6 g0 g1 g2 g3 g4 g5 g6
        rintro U ⟨hr, hB, hO⟩
        obtain ⟨r0, r1, r2, r3, r4, r5, r6⟩ := jC_cells hr
        exact bodyPost_ret (v := .agg #[.slice k1.a j.t.n k1.c, .int .i64 j.t.now, .int .i64 j.d.since, .int .i64 j.d.date, .slice k2.lA j.d.ln k2.lc, .slice k2.iA j.d.m k2.ic, .slice b j.q bc]) (by simp [results, Tryz.results44, go_sem, r0, r1, r2, r3, r4, r5, r6]) rfl ⟨⟨k1, k2, b, bc, M⟩, rfl, hB, hO.lower (by omega)⟩
end Go.Proofs.YtakifcobofkheaaGreatDoor

/-
  What JobNew of the specification answers.
-/
namespace Go.Proofs.YtakifcobofkheaaGreatDoor
open Go.RowKit Go.Deep
set_option linter.unusedVariables false
set_option linter.unusedSimpArgs false
set_option linter.unnecessarySimpa false

/-- A job and a code, in new memory. -/
def JPost (w : World) (j : Jb) (z : Int) (e : Ending) (w' : World) : Prop := Below w.heap.size w w' ∧ ∃ l, e = .returned (.tuple #[jV j l, .int .i64 z]) ∧ OwnJb w' w.heap.size j l
/-- A job. -/
def JPost1 (w : World) (j : Jb) (e : Ending) (w' : World) : Prop := Below w.heap.size w w' ∧ ∃ l, e = .returned (jV j l) ∧ OwnJb w' w.heap.size j l

theorem ownJb_none (W : World) (B : Nat) : OwnJb W B jbNone ⟨⟨none, 0, fun _ => ⟨none, 0, none, 0⟩⟩, ⟨none, 0, none, 0, fun _ => ⟨none, 0, none, 0⟩⟩, none, 0, fun _ => ⟨none, 0, none, 0⟩⟩ := by
  have hT : ∀ b, ¬ BkT trNone ⟨none, 0, fun _ => ⟨none, 0, none, 0⟩⟩ b := by
    rintro b ⟨d, hd, e⟩
    have : d = 0 ∨ d = 1 := by unfold trNone at hd; simp only at hd; omega
    rcases this with rfl | rfl <;> simp [valT, Value.ownBlock] at e
  refine ⟨OT.start _ _ _ _ _ _, OD.start _ _ _ _ _ _, OT.start _ _ _ _ _ _, fun b h1 => absurd h1 (hT b), fun b h1 => absurd h1 (hT b), fun b _ h2 => hT b h2⟩

theorem blk7 {W : World} {b : Nat} {ty : TypeId} {u0 u1 u2 u3 u4 u5 u6 : Value} (h : Blk W b #[u0, u1, u2, u3, u4, u5, u6] ty) (v0 v1 v2 v3 v4 v5 v6 : Value) : Blk (((((((W.setCell ⟨b, 0, none⟩ v0).setCell ⟨b, 1, none⟩ v1).setCell ⟨b, 2, none⟩ v2).setCell ⟨b, 3, none⟩ v3).setCell ⟨b, 4, none⟩ v4).setCell ⟨b, 5, none⟩ v5).setCell ⟨b, 6, none⟩ v6) b #[v0, v1, v2, v3, v4, v5, v6] ty := by
  have h0 : Blk _ b #[v0, u1, u2, u3, u4, u5, u6] ty := h.set 0 v0
  have h1 : Blk _ b #[v0, v1, u2, u3, u4, u5, u6] ty := h0.set 1 v1
  have h2 : Blk _ b #[v0, v1, v2, u3, u4, u5, u6] ty := h1.set 2 v2
  have h3 : Blk _ b #[v0, v1, v2, v3, u4, u5, u6] ty := h2.set 3 v3
  have h4 : Blk _ b #[v0, v1, v2, v3, v4, u5, u6] ty := h3.set 4 v4
  have h5 : Blk _ b #[v0, v1, v2, v3, v4, v5, u6] ty := h4.set 5 v5
  have h6 : Blk _ b #[v0, v1, v2, v3, v4, v5, v6] ty := h5.set 6 v6
  exact h6
theorem bel7 {W w : World} {B b : Nat} (h : Below B w W) (hb : B ≤ b) (v0 v1 v2 v3 v4 v5 v6 : Value) : Below B w (((((((W.setCell ⟨b, 0, none⟩ v0).setCell ⟨b, 1, none⟩ v1).setCell ⟨b, 2, none⟩ v2).setCell ⟨b, 3, none⟩ v3).setCell ⟨b, 4, none⟩ v4).setCell ⟨b, 5, none⟩ v5).setCell ⟨b, 6, none⟩ v6) := bel_put (bel_put (bel_put (bel_put (bel_put (bel_put (bel_put h _ hb) _ hb) _ hb) _ hb) _ hb) _ hb) _ hb
theorem jb7 {W : World} {B b : Nat} {j : Jb} {l : JLoc} (h : OwnJb W B j l) (hb : b < B) (v0 v1 v2 v3 v4 v5 v6 : Value) : OwnJb (((((((W.setCell ⟨b, 0, none⟩ v0).setCell ⟨b, 1, none⟩ v1).setCell ⟨b, 2, none⟩ v2).setCell ⟨b, 3, none⟩ v3).setCell ⟨b, 4, none⟩ v4).setCell ⟨b, 5, none⟩ v5).setCell ⟨b, 6, none⟩ v6) B j l := ((((((h.put v0 hb).put v1 hb).put v2 hb).put v3 hb).put v4 hb).put v5 hb).put v6 hb

/-- The boxes of JobNew's. -/
structure Jn (w : World) (t : Tr) (l : TLoc) (d : Dp) (k : DLoc) (W : World) : Prop where
  p : Blk W w.heap.size (tC t l) 33
  q : Blk W (w.heap.size + 1) (pC d k) 36
  r : Blk W (w.heap.size + 1 + 1) #[.slice none 0 0, .int .i64 0, .int .i64 0, .int .i64 0, .slice none 0 0, .slice none 0 0, .slice none 0 0] 38
  bel : Below w.heap.size w W

theorem Jn.below {w : World} {t : Tr} {l : TLoc} {d : Dp} {k : DLoc} {W W' : World} (h : Jn w t l d k W) (hb : Below W.heap.size W W') : Jn w t l d k W' := ⟨h.p.below hb h.p.lt, h.q.below hb h.q.lt, h.r.below hb h.r.lt, h.bel.trans (hb.mono h.bel.size)⟩

theorem l9From_any (t : Tr) (l : TLoc) (d : Dp) (k : DLoc) (w : World) :
    Calls Tryz.prog 45 #[tV t l, dpV d k] w fun e w' => Below w.heap.size w w' ∧ e = .returned (if d.since = 0 then tV trNone ⟨none, 0, l.L⟩ else tV t l) := by
  unfold tV dpV trNone
  by_cases hsi : d.since = 0
  · rw [if_pos hsi]
    have hb1 : (d.since == 0) = true := by simp [hsi]
    clear hsi
    go_enter Tryz.func45, Tryz.ntmps45
    go_wp2_with fail
    refine end_world (F := fun U => Blk U (w.heap.size + 1 + 1) #[.slice none 0 0, .int .i64 0] 33 ∧ Below w.heap.size w U) ?_ ?_
    · obtain ⟨h0, h1, h2, hb, _⟩ := new3 w (tC t l) 33 (pC d k) 36 #[.slice none 0 0, .int .i64 0] 33
      exact ⟨h2, hb⟩
    rintro U ⟨hr, hB⟩
    have e0 : U.cell? ⟨w.heap.size + 1 + 1, 0, none⟩ = some (.slice none 0 0) := hr.cell 0
    have e1 : U.cell? ⟨w.heap.size + 1 + 1, 1, none⟩ = some (.int .i64 0) := hr.cell 1
    exact bodyPost_ret (v := .agg #[.slice none 0 0, .int .i64 0]) (by simp [results, Tryz.results45, go_sem, e0, e1]) rfl ⟨hB, rfl⟩
    -- exact (((Below.refl _ _).alloc (Nat.le_refl _) _).alloc (by simp) _).alloc (by simp; omega) _
  · rw [if_neg hsi]
    have hb1 : (d.since == 0) = false := by simp [hsi]
    clear hsi
    go_enter Tryz.func45, Tryz.ntmps45
    go_wp2_with fail
    refine end_world (F := fun U => Blk U (w.heap.size + 1 + 1) #[.slice l.a t.n l.c, .int .i64 t.now] 33 ∧ Below w.heap.size w U) ?_ ?_
    · obtain ⟨h0, h1, h2, hb, _⟩ := new3 w (tC t l) 33 (pC d k) 36 #[.slice l.a t.n l.c, .int .i64 t.now] 33
      exact ⟨h2, hb⟩
    rintro U ⟨hr, hB⟩
    have e0 : U.cell? ⟨w.heap.size + 1 + 1, 0, none⟩ = some (.slice l.a t.n l.c) := hr.cell 0
    have e1 : U.cell? ⟨w.heap.size + 1 + 1, 1, none⟩ = some (.int .i64 t.now) := hr.cell 1
    exact bodyPost_ret (v := .agg #[.slice l.a t.n l.c, .int .i64 t.now]) (by simp [results, Tryz.results45, go_sem, e0, e1]) rfl ⟨hB, rfl⟩
    -- exact (((Below.refl _ _).alloc (Nat.le_refl _) _).alloc (by simp) _).alloc (by simp; omega) _

set_option maxRecDepth 100000 in
set_option maxHeartbeats 8000000 in
theorem specJobNew_any (t : Tr) (l : TLoc) (d : Dp) (k : DLoc) (w : World) (hT : TIn w t l) (hD : DpIn w d k) (ft : t.Fits) (fd : d.Fits) (hs : t.size + d.size ≤ 1048576) :
    Calls Tryz.prog 11 #[tV t l, dpV d k] w (JPost w (newAns t d) (backCode t.n t.D t.now d)) := by
  unfold tV dpV
  go_enter Tryz.func11, Tryz.ntmps11
  go_wp2_with fail
  refine at_world (F := fun W => Jn w t l d k W ∧ w.heap.size + 3 ≤ W.heap.size) ?_ ?_
  · obtain ⟨h0, h1, h2, hb, _⟩ := new3 w (tC t l) 33 (pC d k) 36 #[.slice none 0 0, .int .i64 0, .int .i64 0, .int .i64 0, .slice none 0 0, .slice none 0 0, .slice none 0 0] 38
    exact ⟨⟨h0, h1, h2, hb⟩, by simp⟩
  rintro W ⟨hO, hsW⟩
  refine (specBackOne_law t l d k W (hT.below (Nat.le_refl _) hO.bel) (hD.below (Nat.le_refl _) hO.bel) ft fd hs).mono ?_
  intro e w1 hpost
  obtain ⟨hb1, lr, rfl, hown⟩ := back_out t d hpost
  unfold tV
  have H1 : Hid (Jn w t l d k w1) := hO.below hb1
  have hs1 : w.heap.size + 3 ≤ w1.heap.size := by have := hb1.size; omega
  have HX : Hid (TIn w1 (backTr t d) lr) := hown.tIn
  clear hb1 hO hsW hpost hown
  have n0 : w.heap.size < w1.heap.size := by omega
  have m0 : w.heap.size ≠ w1.heap.size := by omega
  have n1 : w.heap.size + 1 < w1.heap.size := by omega
  have m1 : w.heap.size + 1 ≠ w1.heap.size := by omega
  have n2 : w.heap.size + 1 + 1 < w1.heap.size := by omega
  have m2 : w.heap.size + 1 + 1 ≠ w1.heap.size := by omega
  obtain ⟨p0, p1⟩ := tC_cells H1.out.p
  obtain ⟨q0, q1, q2, q3⟩ := pC_cells H1.out.q
  have r0 : w1.cell? ⟨w.heap.size + 1 + 1, 0, none⟩ = some (.slice none 0 0) := H1.out.r.cell 0
  have r1 : w1.cell? ⟨w.heap.size + 1 + 1, 1, none⟩ = some (.int .i64 0) := H1.out.r.cell 1
  have r2 : w1.cell? ⟨w.heap.size + 1 + 1, 2, none⟩ = some (.int .i64 0) := H1.out.r.cell 2
  have r3 : w1.cell? ⟨w.heap.size + 1 + 1, 3, none⟩ = some (.int .i64 0) := H1.out.r.cell 3
  have r4 : w1.cell? ⟨w.heap.size + 1 + 1, 4, none⟩ = some (.slice none 0 0) := H1.out.r.cell 4
  have r5 : w1.cell? ⟨w.heap.size + 1 + 1, 5, none⟩ = some (.slice none 0 0) := H1.out.r.cell 5
  have r6 : w1.cell? ⟨w.heap.size + 1 + 1, 6, none⟩ = some (.slice none 0 0) := H1.out.r.cell 6
  have g0 := H1.out.r.frozen 0
  have g1 := H1.out.r.frozen 1
  have g2 := H1.out.r.frozen 2
  have g3 := H1.out.r.frozen 3
  have g4 := H1.out.r.frozen 4
  have g5 := H1.out.r.frozen 5
  have g6 := H1.out.r.frozen 6
  by_cases hz : backCode t.n t.D t.now d = 0
  · have hzb : (backCode t.n t.D t.now d != 0) = false := by simp [hz]
    have HZ : Hid (backCode t.n t.D t.now d = 0) := hz
    have HTR : Hid (backTr t d = ⟨d.ln, oneD (fromN t.n d) t.D d, d.date⟩) := by show _ = _; unfold backTr; rw [if_pos hz]
    have HSMT : Hid (SmTr (backTr t d)) := back_small t d ft fd hs
    clear hz
    have HT1 : Hid (tV (backTr t d) lr = tV (backTr t d) lr) := rfl
    have HJ2 : Hid (∀ U, U = w1.alloc (.cells #[.slice lr.a (backTr t d).n lr.c, .int .i64 (backTr t d).now] 33) → Jn w t l d k U ∧ TIn U (backTr t d) lr ∧ w.heap.size + 3 ≤ U.heap.size) := fun U e => by
      have hb : Below w1.heap.size w1 U := by rw [e]; exact (Below.refl _ _).alloc (Nat.le_refl _) _
      exact ⟨H1.out.below hb, HX.out.below (Nat.le_refl _) hb, Nat.le_trans hs1 hb.size⟩
    go_wp2_with fail
    refine at_world (F := fun U => Jn w t l d k U ∧ TIn U (backTr t d) lr ∧ w.heap.size + 3 ≤ U.heap.size) (HJ2.out _ rfl) ?_
    clear HJ2 n0 n1 n2 m0 m1 m2 p0 p1 q0 q1 q2 q3 r0 r1 r2 r3 r4 r5 r6 g0 g1 g2 g3 g4 g5 g6 H1 hs1 HX HT1
    rintro W2 ⟨hj2, hx2, hs2⟩
    refine (specTreeOk_any lr.a (backTr t d).n lr.c (backTr t d).now (backTr t d).D lr.L W2 hx2 HSMT.out.fits.nds HSMT.out.fits.n (by have := HSMT.out.size; unfold Tr.size at this; omega)).mono ?_
    rintro e w3 ⟨hb3, r, rfl, hr⟩
    obtain rfl : r = true := hr.2 (by rw [HTR.out]; exact (code_zero HZ.out).2.2.2)
    have H3 : Hid (Jn w t l d k w3) := hj2.below hb3
    have hs3 : w.heap.size + 3 ≤ w3.heap.size := by have := hb3.size; omega
    clear hj2 hx2 hs2 hb3 hr
    obtain ⟨hok, hsn, _, hgd⟩ := code_zero HZ.out
    have HOK : Hid (d.ok = true ∧ (newJb t d).t.n ≤ 10 ∧ (newJb t d).t.size ≤ 1048576) := by
      have hsi := ok_since hok
      refine ⟨hok, ?_, ?_⟩
      · unfold newJb
        by_cases e : d.since = 0
        · rw [if_pos e]; show (0 : Nat) ≤ 10; omega
        · rw [if_neg e]; exact (hsn (by omega)).1.few
      · unfold newJb
        by_cases e : d.since = 0
        · rw [if_pos e]; exact trNone_small.size
        · rw [if_neg e]; show t.size ≤ _; omega
    have HA : Hid (newAns t d = newJb t d) := by show _ = _; unfold newAns; rw [if_pos HZ.out]
    clear hok hsn hgd
    have HSt : Hid (∀ W', Below w3.heap.size w3 W' → W'.cell? ⟨w.heap.size, 0, none⟩ = some (.slice l.a t.n l.c) ∧ W'.cell? ⟨w.heap.size, 1, none⟩ = some (.int .i64 t.now) ∧ W'.cell? ⟨w.heap.size + 1, 0, none⟩ = some (.int .i64 d.since) ∧ W'.cell? ⟨w.heap.size + 1, 1, none⟩ = some (.int .i64 d.date) ∧ W'.cell? ⟨w.heap.size + 1, 2, none⟩ = some (.slice k.lA d.ln k.lc) ∧ W'.cell? ⟨w.heap.size + 1, 3, none⟩ = some (.slice k.iA d.m k.ic)) := fun W' hW => by
      have h := H3.out.below hW
      obtain ⟨p0, p1⟩ := tC_cells h.p
      obtain ⟨q0, q1, q2, q3⟩ := pC_cells h.q
      exact ⟨p0, p1, q0, q1, q2, q3⟩
    go_wp2_with fail
    refine wp_region_noPanic ?_
    have hB0 : Below w3.heap.size w3 w3.drew := (Below.refl _ _).drew
    refine wp_region_peel2 (fun W' => W'.cell? ⟨w.heap.size, 0, none⟩ = some (.slice l.a t.n l.c) ∧ W'.cell? ⟨w.heap.size, 1, none⟩ = some (.int .i64 t.now) ∧ W'.cell? ⟨w.heap.size + 1, 0, none⟩ = some (.int .i64 d.since) ∧ W'.cell? ⟨w.heap.size + 1, 1, none⟩ = some (.int .i64 d.date) ∧ W'.cell? ⟨w.heap.size + 1, 2, none⟩ = some (.slice k.lA d.ln k.lc) ∧ W'.cell? ⟨w.heap.size + 1, 3, none⟩ = some (.slice k.iA d.m k.ic)) _ _ (by kernel_rfl) rfl rfl (by kernel_rfl) (by kernel_rfl) ?_ (fun hHeld => ?_)
    · exact HSt.out _ hB0
    simp only [List.pop_toArray, List.dropLast, List.size_toArray, List.length_cons, List.length_nil, Nat.reduceAdd, Nat.reduceSub, List.getElem_toArray, List.getElem_cons_succ, List.getElem_cons_zero]
    refine peel_take (i := 0) (oi := ?oi0a) (v := ?v0a) (fun _ _ _ _ _ h => h) hHeld ?hi0a (by kernel_rfl) (by kernel_rfl) (by kernel_rfl) ?hw0a ?hy0a ?rest0a
    case hi0a =>
      simp only [List.getElem?_toArray, List.getElem?_cons_zero]
      rfl
    case hw0a => rfl
    case hy0a =>
      intro w hSw
      obtain ⟨s0, s1, s2, s3, s4, s5⟩ := hSw
      go_simp
      try with_reducible rfl
    try simp only [Act.put, List.setIfInBounds_toArray, List.set_cons_zero, List.set_cons_succ]
    refine peel_take (i := 1) (oi := ?oi1a) (v := ?v1a) (fun _ _ _ _ _ h => h) hHeld ?hi1a (by kernel_rfl) (by kernel_rfl) (by kernel_rfl) ?hw1a ?hy1a ?rest1a
    case hi1a =>
      simp only [List.getElem?_toArray, List.getElem?_cons_succ, List.getElem?_cons_zero]
      rfl
    case hw1a => rfl
    case hy1a =>
      intro w hSw
      obtain ⟨s0, s1, s2, s3, s4, s5⟩ := hSw
      go_simp
      try with_reducible rfl
    try simp only [Act.put, List.setIfInBounds_toArray, List.set_cons_zero, List.set_cons_succ]
    refine peel_take (i := 3) (oi := ?oi3a) (v := ?v3a) (fun _ _ _ _ _ h => h) hHeld ?hi3a (by kernel_rfl) (by kernel_rfl) (by kernel_rfl) ?hw3a ?hy3a ?rest3a
    case hi3a =>
      simp only [List.getElem?_toArray, List.getElem?_cons_succ, List.getElem?_cons_zero]
      rfl
    case hw3a => rfl
    case hy3a =>
      intro w hSw
      obtain ⟨s0, s1, s2, s3, s4, s5⟩ := hSw
      go_simp
      try with_reducible rfl
    try simp only [Act.put, List.setIfInBounds_toArray, List.set_cons_zero, List.set_cons_succ]
    refine wpAnyH_ready (rs := [2]) (by kernel_rfl) (by simp) ?_
    refine AllReadyH.cons (o := ?o2a) ?ho2a (fun K hK => ?st2a) AllReadyH.nil
    case ho2a =>
      simp only [List.getElem?_toArray, List.getElem?_cons_succ, List.getElem?_cons_zero]
      rfl
    go_simp
    refine (l9From_any t l d k _).mono ?_
    rintro e w4 ⟨hb4, rfl⟩
    have hB4 : Below w3.heap.size w3 w4 := hB0.trans (hb4.mono hB0.size)
    clear hb4
    refine hK.out _ _ (HSt.out _ hB4) (fun hHeld => ?_)
    clear hK K
    try simp only [Act.put, List.setIfInBounds_toArray, List.set_cons_zero, List.set_cons_succ]
    refine wpAnyH_ready (rs := [4]) (by kernel_rfl) (by simp) ?_
    refine AllReadyH.cons (o := ?o4b) ?ho4b (fun K hK => ?st4b) AllReadyH.nil
    case ho4b =>
      simp only [List.getElem?_toArray, List.getElem?_cons_succ, List.getElem?_cons_zero]
      rfl
    have HV : Hid (∃ lf : TLoc, (if d.since = 0 then tV trNone ⟨none, 0, l.L⟩ else tV t l) = .agg #[.slice lf.a (newJb t d).t.n lf.c, .int .i64 (newJb t d).t.now] ∧ JIn w4 (newJb t d) ⟨lf, k, none, 0, fun _ => ⟨none, 0, none, 0⟩⟩) := by
      have hD4 := (hD.below (Nat.le_refl _) H3.out.bel).below (Nat.le_refl _) hB4
      have hT4 := (hT.below (Nat.le_refl _) H3.out.bel).below (Nat.le_refl _) hB4
      by_cases e : d.since = 0
      · refine ⟨⟨none, 0, l.L⟩, ?_, ?_⟩
        · rw [if_pos e]; unfold newJb; rw [if_pos e]; rfl
        · refine ⟨?_, hD4, Or.inl rfl⟩
          unfold newJb; rw [if_pos e]; exact Or.inl rfl
      · refine ⟨l, ?_, ?_⟩
        · rw [if_neg e]; unfold newJb; rw [if_neg e]; rfl
        · refine ⟨?_, hD4, Or.inl rfl⟩
          unfold newJb; rw [if_neg e]; exact hT4
    obtain ⟨lf, hlf, hJI⟩ := HV.out
    rw [hlf]
    have HJI : Hid _ := hJI
    clear hlf hJI HV
    go_simp
    refine hK.out _ _ (HSt.out _ hB4) (fun hHeld => ?_)
    clear hK K
    try simp only [Act.put, List.setIfInBounds_toArray, List.set_cons_zero, List.set_cons_succ]
    refine wpAnyH_ready (rs := [5]) (by kernel_rfl) (by simp) ?_
    refine AllReadyH.cons (o := ?o5c) ?ho5c (fun K hK => ?st5c) AllReadyH.nil
    case ho5c =>
      simp only [List.getElem?_toArray, List.getElem?_cons_succ, List.getElem?_cons_zero]
      rfl
    go_simp
    refine (l9Copy_any (newJb t d) ⟨lf, k, none, 0, fun _ => ⟨none, 0, none, 0⟩⟩ w4 HJI.out HOK.out.1 HOK.out.2.1 (by unfold newJb; simp) HOK.out.2.2 (by show d.size ≤ _; omega) (fun i hi => absurd hi (Nat.not_lt_zero _))).mono ?_
    rintro e w5 ⟨lj, rfl, hb5, hown⟩
    unfold jV
    have hB5 : Below w3.heap.size w3 w5 := hB4.trans (hb5.mono hB4.size)
    have HJ : Hid (Jn w t l d k w5 ∧ OwnJb w5 (w.heap.size + 3) (newJb t d) lj) := ⟨H3.out.below hB5, hown.lower (by have := hB4.size; omega)⟩
    clear hb5 hown
    refine hK.out _ _ (HSt.out _ hB5) (fun hHeld => ?_)
    clear hK K
    try simp only [Act.put, List.setIfInBounds_toArray, List.set_cons_zero, List.set_cons_succ]
    refine wpAnyH_done (by kernel_rfl) ?_ _
    show Oper.wp _ _ _ _ _ _
    have r0 : w5.cell? ⟨w.heap.size + 1 + 1, 0, none⟩ = some (.slice none 0 0) := HJ.out.1.r.cell 0
    have r1 : w5.cell? ⟨w.heap.size + 1 + 1, 1, none⟩ = some (.int .i64 0) := HJ.out.1.r.cell 1
    have r2 : w5.cell? ⟨w.heap.size + 1 + 1, 2, none⟩ = some (.int .i64 0) := HJ.out.1.r.cell 2
    have r3 : w5.cell? ⟨w.heap.size + 1 + 1, 3, none⟩ = some (.int .i64 0) := HJ.out.1.r.cell 3
    have r4 : w5.cell? ⟨w.heap.size + 1 + 1, 4, none⟩ = some (.slice none 0 0) := HJ.out.1.r.cell 4
    have r5 : w5.cell? ⟨w.heap.size + 1 + 1, 5, none⟩ = some (.slice none 0 0) := HJ.out.1.r.cell 5
    have r6 : w5.cell? ⟨w.heap.size + 1 + 1, 6, none⟩ = some (.slice none 0 0) := HJ.out.1.r.cell 6
    have g0 := HJ.out.1.r.frozen 0
    have g1 := HJ.out.1.r.frozen 1
    have g2 := HJ.out.1.r.frozen 2
    have g3 := HJ.out.1.r.frozen 3
    have g4 := HJ.out.1.r.frozen 4
    have g5 := HJ.out.1.r.frozen 5
    have g6 := HJ.out.1.r.frozen 6
    have HE : Hid (∀ U, U = (((((((w5.setCell ⟨w.heap.size + 1 + 1, 0, none⟩ (.slice lj.t.a (newJb t d).t.n lj.t.c)).setCell ⟨w.heap.size + 1 + 1, 1, none⟩ (.int .i64 (newJb t d).t.now)).setCell ⟨w.heap.size + 1 + 1, 2, none⟩ (.int .i64 (newJb t d).d.since)).setCell ⟨w.heap.size + 1 + 1, 3, none⟩ (.int .i64 (newJb t d).d.date)).setCell ⟨w.heap.size + 1 + 1, 4, none⟩ (.slice lj.d.lA (newJb t d).d.ln lj.d.lc)).setCell ⟨w.heap.size + 1 + 1, 5, none⟩ (.slice lj.d.iA (newJb t d).d.m lj.d.ic)).setCell ⟨w.heap.size + 1 + 1, 6, none⟩ (.slice lj.e (newJb t d).q lj.f)) → Blk U (w.heap.size + 1 + 1) (jC (newJb t d) lj) 38 ∧ JPost w (newAns t d) (backCode t.n t.D t.now d) (.returned (.tuple #[jV (newJb t d) lj, .int .i64 0])) U) := fun U e => by
      subst e
      rw [HA.out, HZ.out]
      exact ⟨blk7 HJ.out.1.r _ _ _ _ _ _ _, bel7 HJ.out.1.bel (by omega) _ _ _ _ _ _ _, lj, rfl, (jb7 HJ.out.2 (by omega) _ _ _ _ _ _ _).lower (by omega)⟩
    clear HSt hHeld hB0 hB4 hB5 HJ
    go_simp
    show Oper.wp _ _ _ _ _ _
    go_simp
    refine NoPanic.normal ?_
    go_wp2_with fail
    refine end_world (F := fun U => Blk U (w.heap.size + 1 + 1) (jC (newJb t d) lj) 38 ∧ JPost w (newAns t d) (backCode t.n t.D t.now d) (.returned (.tuple #[jV (newJb t d) lj, .int .i64 0])) U) (HE.out _ rfl) ?_
    clear HE r0 r1 r2 r3 r4 r5 r6 g0 g1 g2 g3 g4 g5 g6
    rintro U ⟨hr, hE⟩
    obtain ⟨e0, e1, e2, e3, e4, e5, e6⟩ := jC_cells hr
    exact bodyPost_ret (v := .tuple #[jV (newJb t d) lj, .int .i64 0]) (by unfold jV; simp [results, Tryz.results11, go_sem, e0, e1, e2, e3, e4, e5, e6]) rfl hE
  · have hzb : (backCode t.n t.D t.now d != 0) = true := by simp [hz]
    have HA : Hid (newAns t d = jbNone) := by show _ = _; unfold newAns; rw [if_neg hz]
    clear hz
    have HE : Hid (∀ U, U = ((((((((w1.setCell ⟨w.heap.size + 1 + 1, 0, none⟩ (.slice none 0 0)).setCell ⟨w.heap.size + 1 + 1, 1, none⟩ (.int .i64 0)).setCell ⟨w.heap.size + 1 + 1, 2, none⟩ (.int .i64 0)).setCell ⟨w.heap.size + 1 + 1, 3, none⟩ (.int .i64 0)).setCell ⟨w.heap.size + 1 + 1, 4, none⟩ (.slice none 0 0)).setCell ⟨w.heap.size + 1 + 1, 5, none⟩ (.slice none 0 0)).setCell ⟨w.heap.size + 1 + 1, 6, none⟩ (.slice none 0 0)).alloc (.cells #[.slice lr.a (backTr t d).n lr.c, .int .i64 (backTr t d).now] 33)) → Blk U (w.heap.size + 1 + 1) #[.slice none 0 0, .int .i64 0, .int .i64 0, .int .i64 0, .slice none 0 0, .slice none 0 0, .slice none 0 0] 38 ∧ JPost w (newAns t d) (backCode t.n t.D t.now d) (.returned (.tuple #[.agg #[.slice none 0 0, .int .i64 0, .int .i64 0, .int .i64 0, .slice none 0 0, .slice none 0 0, .slice none 0 0], .int .i64 (backCode t.n t.D t.now d)])) U) := fun U e => by
      subst e
      rw [HA.out]
      exact ⟨(blk7 H1.out.r _ _ _ _ _ _ _).alloc _, (bel7 H1.out.bel (by omega) _ _ _ _ _ _ _).alloc (bel7 H1.out.bel (by omega) _ _ _ _ _ _ _).size _, _, rfl, ownJb_none _ _⟩
    go_wp2_with fail
    refine end_world (F := fun U => Blk U (w.heap.size + 1 + 1) #[.slice none 0 0, .int .i64 0, .int .i64 0, .int .i64 0, .slice none 0 0, .slice none 0 0, .slice none 0 0] 38 ∧ JPost w (newAns t d) (backCode t.n t.D t.now d) (.returned (.tuple #[.agg #[.slice none 0 0, .int .i64 0, .int .i64 0, .int .i64 0, .slice none 0 0, .slice none 0 0, .slice none 0 0], .int .i64 (backCode t.n t.D t.now d)])) U) (HE.out _ rfl) ?_
    clear HE
    rintro U ⟨hr, hE⟩
    have e0 : U.cell? ⟨w.heap.size + 1 + 1, 0, none⟩ = some (.slice none 0 0) := hr.cell 0
    have e1 : U.cell? ⟨w.heap.size + 1 + 1, 1, none⟩ = some (.int .i64 0) := hr.cell 1
    have e2 : U.cell? ⟨w.heap.size + 1 + 1, 2, none⟩ = some (.int .i64 0) := hr.cell 2
    have e3 : U.cell? ⟨w.heap.size + 1 + 1, 3, none⟩ = some (.int .i64 0) := hr.cell 3
    have e4 : U.cell? ⟨w.heap.size + 1 + 1, 4, none⟩ = some (.slice none 0 0) := hr.cell 4
    have e5 : U.cell? ⟨w.heap.size + 1 + 1, 5, none⟩ = some (.slice none 0 0) := hr.cell 5
    have e6 : U.cell? ⟨w.heap.size + 1 + 1, 6, none⟩ = some (.slice none 0 0) := hr.cell 6
    exact bodyPost_ret (v := .tuple #[.agg #[.slice none 0 0, .int .i64 0, .int .i64 0, .int .i64 0, .slice none 0 0, .slice none 0 0, .slice none 0 0], .int .i64 (backCode t.n t.D t.now d)]) (by simp [results, Tryz.results11, go_sem, e0, e1, e2, e3, e4, e5, e6]) rfl hE
end Go.Proofs.YtakifcobofkheaaGreatDoor

/-
  What copyTree, copyDump and copyJob of the program answer: the same, in new memory.
-/
namespace Go.Proofs.YtakifcobofkheaaGreatDoor
open Go.RowKit Go.Deep
set_option linter.unusedVariables false
set_option linter.unusedSimpArgs false
set_option linter.unnecessarySimpa false

/-- A box and a result's. -/
structure Bx (w : World) (cs : Array Value) (t : TypeId) (zs : Array Value) (u : TypeId) (W : World) : Prop where
  p : Blk W w.heap.size cs t
  r : Blk W (w.heap.size + 1) zs u
  bel : Below w.heap.size w W
  size : w.heap.size + 2 ≤ W.heap.size

theorem Bx.below {w : World} {cs zs : Array Value} {t u : TypeId} {W W' : World} (h : Bx w cs t zs u W) (hb : Below W.heap.size W W') : Bx w cs t zs u W' := ⟨h.p.below hb h.p.lt, h.r.below hb h.r.lt, h.bel.trans (hb.mono h.bel.size), Nat.le_trans h.size hb.size⟩
theorem bx2 (w : World) (cs : Array Value) (t : TypeId) (zs : Array Value) (u : TypeId) : Bx w cs t zs u ((w.alloc (.cells cs t)).alloc (.cells zs u)) := by
  obtain ⟨h0, h1, hb, _⟩ := new2 w cs t zs u
  exact ⟨h0, h1, hb, by simp⟩

/-- .. and a list of places that has grown since. -/
structure Bn (w : World) (cs : Array Value) (t : TypeId) (zs : Array Value) (u : TypeId) (k : Nat) (b : Option Addr) (bc : Nat) (E : Nat → Nd) (M : Nat → Loc) (W : World) : Prop where
  bx : Bx w cs t zs u W
  ot : OT W (w.heap.size + 2) 0 (fun _ => false) k (fun _ => 0) E M (.slice none 0 0) (.slice b k bc)

theorem Bn.below {w : World} {cs zs : Array Value} {t u : TypeId} {k : Nat} {b : Option Addr} {bc : Nat} {E : Nat → Nd} {M : Nat → Loc} {W W' : World} (h : Bn w cs t zs u k b bc E M W) (hb : Below W.heap.size W W') : Bn w cs t zs u k b bc E M W' := ⟨h.bx.below hb, h.ot.below hb⟩

theorem Bn.item {w : World} {cs zs : Array Value} {t u : TypeId} {k : Nat} {b : Option Addr} {bc : Nat} {E : Nat → Nd} {M : Nat → Loc} {W W1 W' : World} (h : Bn w cs t zs u k b bc E M W) {x : Nd} {l : Loc} (hN : NewNn W x l W1) {g c' : Nat} (hg : W1.grownBy W' (Value.slice b k bc).ownBlock)
    (hown : W'.ownsRow (w.heap.size + 2) 87 5 (.slice (some ⟨g, 0, none⟩) (k + 1) c') (k + 1) (rowsT (fun _ => 0) E M k ++ nt5 0 x l)) (hb : (Value.slice b k bc).ownBlock = some g ∨ W1.heap.size ≤ g) :
    Bn w cs t zs u (k + 1) (some ⟨g, 0, none⟩) c' (fun i => if i = k then x else E i) (fun i => if i = k then l else M i) W' := by
  have h1 := h.bx.below hN.bel
  have hbo : ∀ q, (Value.slice b k bc).ownBlock = some q → w.heap.size + 2 ≤ q := fun q e => (owns_block h.ot.ownI e).1
  exact ⟨⟨h1.p.of_block (hg.block _ h1.p.lt (fun e => by have := hbo _ e.symm; omega)), h1.r.of_block (hg.block _ h1.r.lt (fun e => by have := hbo _ e.symm; omega)), h1.bel.grown hg h1.bel.size (fun q e => by have := hbo q e; omega), Nat.le_trans h1.size hg.size⟩, h.ot.more hN h.bx.size hg hown hb⟩

set_option maxRecDepth 100000 in
set_option maxHeartbeats 8000000 in
theorem copyTree_any (t : Tr) (l : TLoc) (w : World) (hT : TIn w t l) (hn : t.n ≤ 1000) (hs : t.size ≤ 1048576) :
    Calls Tryz.prog 51 #[tV t l] w fun e w' => ∃ l', e = .returned (tV t l') ∧ Below w.heap.size w w' ∧ OwnTr w' w.heap.size t l' := by
  unfold tV
  obtain ⟨y0, hy, hy0, hy1, hy2⟩ := info_parts infoNode
  have htS := tr_small (show sizeTo t.D t.n ≤ 1048576 by unfold Tr.size at hs; omega)
  go_enter Tryz.func51, Tryz.ntmps51
  go_wp2_with fail
  refine wp_world (F := Bx w (tC t l) 33 #[.slice none 0 0, .int .i64 0] 33) (bx2 w _ _ _ _) ?_
  intro W hP
  have HP : Hid _ := hP
  clear hP
  have p0 : W.cell? ⟨w.heap.size, 0, none⟩ = some (.slice l.a t.n l.c) := HP.out.p.cell 0
  go_wp2_with fail
  go_loopw [3, 9] (fun v i wr => ∃ (k : Nat) (b : Option Addr) (bc : Nat) (E : Nat → Nd) (M : Nat → Loc), k ≤ t.n ∧ v = .slice b k bc ∧ i = .int .i64 k ∧ Bn w (tC t l) 33 #[.slice none 0 0, .int .i64 0] 33 k b bc E M wr ∧ ∀ i, i < k → E i = t.D i) (fun _ i _ => t.n - (intOf i).toNat)
  case atStart => exact ⟨0, none, 0, fun _ => ndZero, fun _ => ⟨none, 0, none, 0⟩, Nat.zero_le _, rfl, rfl, ⟨HP.out, OT.start _ _ _ _ _ _⟩, fun i hi => absurd hi (Nat.not_lt_zero _)⟩
  case round =>
    obtain ⟨k, b, bc, E, M, hk, rfl, rfl, hin, hsel⟩ := hrel
    have HIN : Hid (Bn w (tC t l) 33 #[.slice none 0 0, .int .i64 0] 33 k b bc E M wr ∧ ∀ i, i < k → E i = t.D i) := ⟨hin, hsel⟩
    have hsw : w.heap.size + 2 ≤ wr.heap.size := hin.bx.size
    clear hin hsel
    by_cases hlt : k < t.n
    · have hlti : (k : Int) < (t.n : Int) := by omega
      obtain ⟨bI, oI, hQ, hQl, hQc⟩ := (hT.below (Nat.le_refl _) HIN.out.1.bx.bel).at hlt
      obtain ⟨d1, d2, d3, d4, d5, d6⟩ := hQc k hlt
      have HN : Hid (NdIn wr (t.D k) (l.L k)) := d6
      have hsm := htS k hlt
      rw [hQ]
      have HA : Hid (l.a = some ⟨bI, oI, none⟩) := hQ
      clear hQ hQc d6
      go_wp2_with fail
      refine at_world (F := fun U => Bn w (tC t l) 33 #[.slice none 0 0, .int .i64 0] 33 k b bc E M U ∧ NdIn U (t.D k) (l.L k)) ⟨HIN.out.1.below ((Below.refl _ _).alloc (Nat.le_refl _) _), HN.out.below (Nat.le_refl _) ((Below.refl _ _).alloc (Nat.le_refl _) _)⟩ ?_
      rintro U ⟨hU, hNU⟩
      refine (copyNode_any (t.D k) (l.L k) U hNU hsm.1 hsm.2.1 hsm.2.2.1 hsm.2.2.2).mono ?_
      rintro e W6 ⟨l5, rfl, hN5⟩
      unfold ndV
      have HU : Hid (Bn w (tC t l) 33 #[.slice none 0 0, .int .i64 0] 33 k b bc E M U ∧ NewNn U (t.D k) l5 W6 ∧ w.heap.size + 2 ≤ W6.heap.size) := ⟨hU, hN5, by have := hU.bx.size; have := hN5.bel.size; omega⟩
      clear hU hNU hN5
      go_wp2_with (at_builtin; go_must (refine wpList_append_src (by rfl) _ _ 31 rfl (w.heap.size + 2) 87 y0 (.agg #[.int .i64 0, .string ByteArray.empty, .slice none 0 0, .slice none 0 0, .int .i64 0]) 5 80 Tryz.underlying31 hy hy0 hy1 hy2 rfl (by decide) (.slice b k bc) k (rowsT (fun _ => 0) E M k) (by rfl) ((HU.out.1.below HU.out.2.1.bel).ot.ownI.alloc _) _ 1 _ (by rfl) (src_node W6 (t.D k) l5) (by unfold maxLen; omega) (by omega) (by have := HU.out.2.2; simp; omega) ?_))
      intro vI W7 hown hgrow hnil hat
      rcases hown.2 with ⟨_, h0⟩ | ⟨gI, cI, cur, hvI, _, _, _⟩
      · omega
      subst hvI
      have hbI : (Value.slice b k bc).ownBlock = some gI ∨ (W6.alloc (.cells #[.int .i64 (t.D k).kind, .string (t.D k).text, .slice (l5).nA (t.D k).nn (l5).nc, .slice (l5).kA (t.D k).kn (l5).kc, .int .i64 (t.D k).turn] 87)).heap.size ≤ gI := by
        rcases hat with e | e
        · exact Or.inl e.symm
        · right
          have e' : gI = (W6.alloc (.cells #[.int .i64 (t.D k).kind, .string (t.D k).text, .slice (l5).nA (t.D k).nn (l5).nc, .slice (l5).kA (t.D k).kn (l5).kc, .int .i64 (t.D k).turn] 87)).heap.size := by simpa [Value.ownBlock] using e
          omega
      have H8 : Hid _ := HU.out.1.item (HU.out.2.1.alloc (.cells #[.int .i64 (t.D k).kind, .string (t.D k).text, .slice (l5).nA (t.D k).nn (l5).nc, .slice (l5).kA (t.D k).kn (l5).kc, .int .i64 (t.D k).turn] 87)) hgrow hown hbI
      clear hown hgrow hnil hat hbI
      go_wp2_with fail
      go_roundw
      case rel => exact ⟨k + 1, some ⟨gI, 0, none⟩, cI, _, _, by omega, by go_num, by go_num, H8.out, fun i hi => by
        by_cases e : i = k
        · subst e; simp
        · simp only [e, if_false]; exact HIN.out.2 i (by omega)⟩
      case measure => simp [intOf]; omega
    · obtain rfl : k = t.n := by omega
      have HOT : Hid (OwnTr wr (w.heap.size + 2) ⟨t.n, t.D, 0⟩ ⟨b, bc, M⟩) := HIN.out.1.ot.ext fun i hi => ⟨(HIN.out.2 i hi).symm, rfl⟩
      have r0 : wr.cell? ⟨w.heap.size + 1, 0, none⟩ = some (.slice none 0 0) := HIN.out.1.bx.r.cell 0
      have r1 : wr.cell? ⟨w.heap.size + 1, 1, none⟩ = some (.int .i64 0) := HIN.out.1.bx.r.cell 1
      have p1 : wr.cell? ⟨w.heap.size, 1, none⟩ = some (.int .i64 t.now) := HIN.out.1.bx.p.cell 1
      have g0 := HIN.out.1.bx.r.frozen 0
      have g1 := HIN.out.1.bx.r.frozen 1
      go_wp2_with fail
      refine end_world (F := fun U => Blk U (w.heap.size + 1) #[.slice b t.n bc, .int .i64 t.now] 33 ∧ Below w.heap.size w U ∧ OwnTr U (w.heap.size + 2) t ⟨b, bc, M⟩) ⟨(HIN.out.1.bx.r.set 0 _).set 1 _, bel_put (bel_put HIN.out.1.bx.bel _ (by omega)) _ (by omega), OwnTr.put (OwnTr.put (show OwnTr wr (w.heap.size + 2) t ⟨b, bc, M⟩ from HOT.out) _ (by omega)) _ (by omega)⟩ ?_
      clear r0 r1 g0 g1 p1
      rintro U ⟨hr, hB, hot⟩
      have e0 : U.cell? ⟨w.heap.size + 1, 0, none⟩ = some (.slice b t.n bc) := hr.cell 0
      have e1 : U.cell? ⟨w.heap.size + 1, 1, none⟩ = some (.int .i64 t.now) := hr.cell 1
      exact bodyPost_ret (v := .agg #[.slice b t.n bc, .int .i64 t.now]) (by simp [results, Tryz.results51, go_sem, e0, e1]) rfl ⟨⟨b, bc, M⟩, rfl, hB, hot.lower (by omega)⟩
/-- What is held while what is kept is copied: the truth values are, the places are being. -/
structure Bd (w : World) (d : Dp) (l : DLoc) (B g c m : Nat) (ia : Option Addr) (ic : Nat) (O : Nat → Int) (E : Nat → Nd) (M : Nat → Loc) (W : World) : Prop where
  bx : Bx w (pC d l) 36 #[.int .i64 0, .int .i64 0, .slice none 0 0, .slice none 0 0] 36 W
  live : W.ownsRow (w.heap.size + 2) 4 1 (.slice (some ⟨g, 0, none⟩) d.ln c) d.ln (boolv d.ln d.live)
  gl : g < B
  b0 : w.heap.size + 2 ≤ B
  bw : B ≤ W.heap.size
  od : OD W B 0 (fun _ => false) m O E M (.slice none 0 0) (.slice ia m ic)

theorem Bd.below {w : World} {d : Dp} {l : DLoc} {B g c m : Nat} {ia : Option Addr} {ic : Nat} {O : Nat → Int} {E : Nat → Nd} {M : Nat → Loc} {W W' : World} (h : Bd w d l B g c m ia ic O E M W) (hb : Below W.heap.size W W') : Bd w d l B g c m ia ic O E M W' :=
  ⟨h.bx.below hb, owns_same h.live fun b e => hb.block b (owns_block h.live e).2, h.gl, h.b0, Nat.le_trans h.bw hb.size, h.od.below hb⟩

theorem Bd.item {w : World} {d : Dp} {l : DLoc} {B g c m : Nat} {ia : Option Addr} {ic : Nat} {O : Nat → Int} {E : Nat → Nd} {M : Nat → Loc} {W W1 W' : World} (h : Bd w d l B g c m ia ic O E M W) {o : Int} {x : Nd} {lx : Loc} (hN : NewNn W x lx W1) {b c' : Nat} (hg : W1.grownBy W' (Value.slice ia m ic).ownBlock)
    (hown : W'.ownsRow B 113 6 (.slice (some ⟨b, 0, none⟩) (m + 1) c') (m + 1) (rowsI O E M m ++ it6 o x lx)) (hb : (Value.slice ia m ic).ownBlock = some b ∨ W1.heap.size ≤ b) :
    Bd w d l B g c (m + 1) (some ⟨b, 0, none⟩) c' (fun i => if i = m then o else O i) (fun i => if i = m then x else E i) (fun i => if i = m then lx else M i) W' := by
  have h1 := h.below hN.bel
  have hb0 := h.b0
  have hgl := h.gl
  have hbo : ∀ q, (Value.slice ia m ic).ownBlock = some q → B ≤ q := fun q e => (owns_block h.od.ownI e).1
  refine ⟨⟨h1.bx.p.of_block (hg.block _ h1.bx.p.lt (fun e => by have := hbo _ e.symm; omega)), h1.bx.r.of_block (hg.block _ h1.bx.r.lt (fun e => by have := hbo _ e.symm; omega)), h1.bx.bel.grown hg h1.bx.bel.size (fun q e => by have := hbo q e; omega), Nat.le_trans h1.bx.size hg.size⟩, owns_kept h1.live hg (fun b' e e' => ?_), hgl, hb0, Nat.le_trans h1.bw hg.size, h.od.item hN h.bw hg hown (fun b' e => ?_)⟩
  · have e1 : g = b' := by simpa [Value.ownBlock] using e
    have := hbo b' e'
    omega
  · have e1 : b = b' := by simpa [Value.ownBlock] using e
    subst e1
    exact hb

set_option maxRecDepth 100000 in
set_option maxHeartbeats 8000000 in
theorem copyDump_any (d : Dp) (l : DLoc) (w : World) (hD : DpIn w d l) (hok : d.ok = true) (hs : d.size ≤ 1048576) :
    Calls Tryz.prog 50 #[dpV d l] w fun e w' => ∃ l', e = .returned (dpV d l') ∧ Below w.heap.size w w' ∧ OwnDp w' w.heap.size d l' := by
  unfold dpV
  obtain ⟨q0, hq, hq0, hq1, hq2⟩ := info_parts infoBool
  obtain ⟨y0, hy, hy0, hy1, hy2⟩ := info_parts infoItem
  have hln1 := (ok_head1 hok).1
  have hln10 := (ok_head1 hok).2
  have hm10 := m_small hok
  go_enter Tryz.func50, Tryz.ntmps50
  have HP : Hid (Bx w (pC d l) 36 #[.int .i64 0, .int .i64 0, .slice none 0 0, .slice none 0 0] 36 ((w.alloc (.cells #[.int .i64 d.since, .int .i64 d.date, .slice l.lA d.ln l.lc, .slice l.iA d.m l.ic] 36)).alloc (.cells #[.int .i64 0, .int .i64 0, .slice none 0 0, .slice none 0 0] 36))) := bx2 w _ _ _ _
  have hPs : w.heap.size + 2 ≤ (((w.alloc (.cells #[.int .i64 d.since, .int .i64 d.date, .slice l.lA d.ln l.lc, .slice l.iA d.m l.ic] 36)).alloc (.cells #[.int .i64 0, .int .i64 0, .slice none 0 0, .slice none 0 0] 36))).heap.size := HP.out.size
  go_wp2_with (at_builtin; go_must (refine wpList_append_src (by rfl) _ _ 25 rfl (w.heap.size + 2) 4 q0 (.bool false) 1 1 Tryz.underlying25 hq hq0 hq1 hq2 rfl (by decide) (.slice none 0 0) 0 [] (by rfl) (World.ownsRow_nil _ _ _ _) _ d.ln (boolv d.ln d.live) (by rfl) (bools_src (hD.live.below (Nat.le_refl _) HP.out.bel) hln1 _) (by unfold maxLen; omega) (by omega) hPs ?_))
  intro vL W2 hownL hgrowL hnilL hatL
  obtain ⟨g, c', rfl⟩ := bools_shape hownL hln1
  have HB : Hid (Bd w d l W2.heap.size g c' 0 none 0 (fun _ => 0) d.nd l.L W2) := by
    have hno : (Value.slice none 0 0).ownBlock = none := rfl
    have hgr : ∀ b, b < (((w.alloc (.cells #[.int .i64 d.since, .int .i64 d.date, .slice l.lA d.ln l.lc, .slice l.iA d.m l.ic] 36)).alloc (.cells #[.int .i64 0, .int .i64 0, .slice none 0 0, .slice none 0 0] 36))).heap.size → W2.heap[b]? = (((w.alloc (.cells #[.int .i64 d.since, .int .i64 d.date, .slice l.lA d.ln l.lc, .slice l.iA d.m l.ic] 36)).alloc (.cells #[.int .i64 0, .int .i64 0, .slice none 0 0, .slice none 0 0] 36))).heap[b]? := fun b hb => hgrowL.block b hb (by rw [hno]; simp)
    exact ⟨⟨HP.out.p.of_block (hgr _ HP.out.p.lt), HP.out.r.of_block (hgr _ HP.out.r.lt), HP.out.bel.grown hgrowL HP.out.bel.size (fun q e => by rw [hno] at e; cases e), Nat.le_trans hPs hgrowL.size⟩, hownL, (owns_block hownL rfl).2, Nat.le_trans hPs hgrowL.size, Nat.le_refl _, OD.start _ _ _ _ _ _⟩
  clear hownL hgrowL hnilL hatL HP hPs
  obtain ⟨p0, p1, p2, p3⟩ := pC_cells HB.out.bx.p
  generalize hB2 : W2.heap.size = B at *
  clear hB2
  go_wp2_with fail
  go_loopw [4, 14] (fun v i wr => ∃ (k : Nat) (ia : Option Addr) (ic : Nat) (O : Nat → Int) (E : Nat → Nd) (M : Nat → Loc), k ≤ d.m ∧ v = .slice ia k ic ∧ i = .int .i64 k ∧ Bd w d l B g c' k ia ic O E M wr ∧ ∀ i, i < k → O i = d.ino i ∧ E i = d.nd i) (fun _ i _ => d.m - (intOf i).toNat)
  case atStart => exact ⟨0, none, 0, _, _, _, Nat.zero_le _, rfl, rfl, HB.out, fun i hi => absurd hi (Nat.not_lt_zero _)⟩
  case round =>
    obtain ⟨k, ia, ic, O, E, M, hk, rfl, rfl, hin, hsel⟩ := hrel
    have HIN : Hid (Bd w d l B g c' k ia ic O E M wr ∧ ∀ i, i < k → O i = d.ino i ∧ E i = d.nd i) := ⟨hin, hsel⟩
    have hsw : B ≤ wr.heap.size := hin.bw
    clear hin hsel p0 p1 p2 p3
    by_cases hlt : k < d.m
    · have hlti : (k : Int) < (d.m : Int) := by omega
      obtain ⟨bI, oI, hQ, hQl, hQc⟩ := (hD.items.below (Nat.le_refl _) HIN.out.1.bx.bel).at hlt
      obtain ⟨d0, d1, d2, d3, d4, d5, d6⟩ := hQc k hlt
      have HN : Hid (NdIn wr (d.nd k) (l.L k)) := d6
      have hsm := dp_of_small hs k hlt
      rw [hQ]
      have HA : Hid (l.iA = some ⟨bI, oI, none⟩) := hQ
      clear hQ hQc d6
      go_wp2_with fail
      refine wp_world (F := fun U => Blk U wr.heap.size #[.int .i64 (d.ino k), .int .i64 (d.nd k).kind, .string (d.nd k).text, .slice (l.L k).nA (d.nd k).nn (l.L k).nc, .slice (l.L k).kA (d.nd k).kn (l.L k).kc, .int .i64 (d.nd k).turn] 113 ∧ Bd w d l B g c' k ia ic O E M U ∧ NdIn U (d.nd k) (l.L k)) ?_ ?_
      · obtain ⟨h0, hb, _⟩ := new1 wr #[.int .i64 (d.ino k), .int .i64 (d.nd k).kind, .string (d.nd k).text, .slice (l.L k).nA (d.nd k).nn (l.L k).nc, .slice (l.L k).kA (d.nd k).kn (l.L k).kc, .int .i64 (d.nd k).turn] 113
        exact ⟨h0, HIN.out.1.below hb, HN.out.below (Nat.le_refl _) hb⟩
      rintro U ⟨hx, hU, hNU⟩
      have HU : Hid (Bd w d l B g c' k ia ic O E M U ∧ NdIn U (d.nd k) (l.L k)) := ⟨hU, hNU⟩
      have HX : Hid (Blk U wr.heap.size _ _) := hx
      have hXW : wr.heap.size ≤ wr.heap.size := Nat.le_refl _
      have HXW : Hid (∀ q, (Value.slice ia k ic).ownBlock = some q → q < wr.heap.size) := fun q e => (owns_block HIN.out.1.od.ownI e).2
      clear hXW
      generalize wr.heap.size = X at *
      clear hx hU hNU d0 d1 d2 d3 d4 d5 HN hQl
      have HSt : Hid (∀ W', Below U.heap.size U W' → W'.cell? ⟨X, 0, none⟩ = some (.int .i64 (d.ino k)) ∧ W'.cell? ⟨X, 1, none⟩ = some (.int .i64 (d.nd k).kind) ∧ W'.cell? ⟨X, 2, none⟩ = some (.string (d.nd k).text) ∧ W'.cell? ⟨X, 3, none⟩ = some (.slice (l.L k).nA (d.nd k).nn (l.L k).nc) ∧ W'.cell? ⟨X, 4, none⟩ = some (.slice (l.L k).kA (d.nd k).kn (l.L k).kc) ∧ W'.cell? ⟨X, 5, none⟩ = some (.int .i64 (d.nd k).turn)) := fun W' hW => by
        have h := HX.out.below hW HX.out.lt
        exact ⟨h.cell 0, h.cell 1, h.cell 2, h.cell 3, h.cell 4, h.cell 5⟩
      have hd5 : Below U.heap.size U U.drew := below_drewN (Below.refl _ _) 1
      refine wp_region_noPanic ?_
      refine wp_region_peel (fun W' => W'.cell? ⟨X, 0, none⟩ = some (.int .i64 (d.ino k)) ∧ W'.cell? ⟨X, 1, none⟩ = some (.int .i64 (d.nd k).kind) ∧ W'.cell? ⟨X, 2, none⟩ = some (.string (d.nd k).text) ∧ W'.cell? ⟨X, 3, none⟩ = some (.slice (l.L k).nA (d.nd k).nn (l.L k).nc) ∧ W'.cell? ⟨X, 4, none⟩ = some (.slice (l.L k).kA (d.nd k).kn (l.L k).kc) ∧ W'.cell? ⟨X, 5, none⟩ = some (.int .i64 (d.nd k).turn)) _ (by kernel_rfl) rfl (by kernel_rfl) ?_ (fun hHeld => ?_)
      · exact HSt.out _ hd5
      simp only [List.pop_toArray, List.dropLast, List.size_toArray, List.length_cons, List.length_nil, Nat.reduceAdd, Nat.reduceSub, List.getElem_toArray, List.getElem_cons_succ, List.getElem_cons_zero]
      refine peel_take (i := 0) (oi := ?oi0d) (v := ?v0d) (fun _ _ _ _ _ h => h) hHeld ?hi0d (by kernel_rfl) (by kernel_rfl) (by kernel_rfl) ?hw0d ?hy0d ?rest0d
      case hi0d =>
        simp only [List.getElem?_toArray, List.getElem?_cons_zero]
        rfl
      case hw0d => rfl
      case hy0d =>
        intro w hSw
        obtain ⟨s0, s1, s2, s3, s4, s5⟩ := hSw
        go_simp
        try with_reducible rfl
      try simp only [Act.put, List.setIfInBounds_toArray, List.set_cons_zero, List.set_cons_succ]
      refine peel_take (i := 1) (oi := ?oi1d) (v := ?v1d) (fun _ _ _ _ _ h => h) hHeld ?hi1d (by kernel_rfl) (by kernel_rfl) (by kernel_rfl) ?hw1d ?hy1d ?rest1d
      case hi1d =>
        simp only [List.getElem?_toArray, List.getElem?_cons_succ, List.getElem?_cons_zero]
        rfl
      case hw1d => rfl
      case hy1d =>
        intro w hSw
        obtain ⟨s0, s1, s2, s3, s4, s5⟩ := hSw
        go_simp
        try with_reducible rfl
      try simp only [Act.put, List.setIfInBounds_toArray, List.set_cons_zero, List.set_cons_succ]
      refine peel_take (i := 2) (oi := ?oi2d) (v := ?v2d) (fun _ _ _ _ _ h => h) hHeld ?hi2d (by kernel_rfl) (by kernel_rfl) (by kernel_rfl) ?hw2d ?hy2d ?rest2d
      case hi2d =>
        simp only [List.getElem?_toArray, List.getElem?_cons_succ, List.getElem?_cons_zero]
        rfl
      case hw2d => rfl
      case hy2d =>
        intro w hSw
        obtain ⟨s0, s1, s2, s3, s4, s5⟩ := hSw
        go_simp
        try with_reducible rfl
      try simp only [Act.put, List.setIfInBounds_toArray, List.set_cons_zero, List.set_cons_succ]
      refine peel_take (i := 3) (oi := ?oi3d) (v := ?v3d) (fun _ _ _ _ _ h => h) hHeld ?hi3d (by kernel_rfl) (by kernel_rfl) (by kernel_rfl) ?hw3d ?hy3d ?rest3d
      case hi3d =>
        simp only [List.getElem?_toArray, List.getElem?_cons_succ, List.getElem?_cons_zero]
        rfl
      case hw3d => rfl
      case hy3d =>
        intro w hSw
        obtain ⟨s0, s1, s2, s3, s4, s5⟩ := hSw
        go_simp
        try with_reducible rfl
      try simp only [Act.put, List.setIfInBounds_toArray, List.set_cons_zero, List.set_cons_succ]
      refine peel_take (i := 4) (oi := ?oi4d) (v := ?v4d) (fun _ _ _ _ _ h => h) hHeld ?hi4d (by kernel_rfl) (by kernel_rfl) (by kernel_rfl) ?hw4d ?hy4d ?rest4d
      case hi4d =>
        simp only [List.getElem?_toArray, List.getElem?_cons_succ, List.getElem?_cons_zero]
        rfl
      case hw4d => rfl
      case hy4d =>
        intro w hSw
        obtain ⟨s0, s1, s2, s3, s4, s5⟩ := hSw
        go_simp
        try with_reducible rfl
      try simp only [Act.put, List.setIfInBounds_toArray, List.set_cons_zero, List.set_cons_succ]
      refine wpAnyH_ready (rs := [5]) (by kernel_rfl) (by simp) ?_
      refine AllReadyH.cons (o := ?o5d) ?ho5d (fun K hK => ?st5d) AllReadyH.nil
      case ho5d =>
        simp only [List.getElem?_toArray, List.getElem?_cons_succ, List.getElem?_cons_zero]
        rfl
      go_simp
      refine (copyNode_any (d.nd k) (l.L k) U.drew (HU.out.2.below (Nat.le_refl _) hd5) hsm.1 hsm.2.1 hsm.2.2.1 hsm.2.2.2).mono ?_
      rintro e W6 ⟨l5, rfl, hN5⟩
      unfold ndV
      have hb6 : Below U.heap.size U W6 := hd5.trans hN5.bel
      refine hK.out _ _ (HSt.out W6 hb6) (fun hHeld => ?_)
      clear hK K
      try simp only [Act.put, List.setIfInBounds_toArray, List.set_cons_zero, List.set_cons_succ]
      refine wpAnyH_ready (rs := [6]) (by kernel_rfl) (by simp) ?_
      refine AllReadyH.cons (o := ?o6d) ?ho6d (fun K hK => ?st6d) AllReadyH.nil
      case ho6d =>
        simp only [List.getElem?_toArray, List.getElem?_cons_succ, List.getElem?_cons_zero]
        rfl
      go_simp
      refine hK.out _ _ (HSt.out W6 hb6) (fun hHeld => ?_)
      clear hK K
      try simp only [Act.put, List.setIfInBounds_toArray, List.set_cons_zero, List.set_cons_succ]
      refine wpAnyH_ready (rs := [7]) (by kernel_rfl) (by simp) ?_
      refine AllReadyH.cons (o := ?o7d) ?ho7d (fun K hK => ?st7d) AllReadyH.nil
      case ho7d =>
        simp only [List.getElem?_toArray, List.getElem?_cons_succ, List.getElem?_cons_zero]
        rfl
      go_simp
      have hb7 : Below U.heap.size U (W6.alloc (.cells #[.int .i64 (d.ino k), .int .i64 (d.nd k).kind, .string (d.nd k).text, .slice l5.nA (d.nd k).nn l5.nc, .slice l5.kA (d.nd k).kn l5.kc, .int .i64 (d.nd k).turn] 113)) := hb6.alloc hb6.size _
      refine hK.out _ _ (HSt.out _ hb7) (fun hHeld => ?_)
      clear hK K
      try simp only [Act.put, List.setIfInBounds_toArray, List.set_cons_zero, List.set_cons_succ]
      refine wpAnyH_ready (rs := [8]) (by kernel_rfl) (by simp) ?_
      refine AllReadyH.cons (o := ?o8d) ?ho8d (fun K hK => ?st8d) AllReadyH.nil
      case ho8d =>
        simp only [List.getElem?_toArray, List.getElem?_cons_succ, List.getElem?_cons_zero]
        rfl
      have hD6 := HU.out.1.below hb7
      have hN6 := hN5.alloc (.cells #[.int .i64 (d.ino k), .int .i64 (d.nd k).kind, .string (d.nd k).text, .slice l5.nA (d.nd k).nn l5.nc, .slice l5.kA (d.nd k).kn l5.kc, .int .i64 (d.nd k).turn] 113)
      refine step_of (by rfl) (wp_append_src (.tmp 18) (.tmp 25) 34 rfl B 113 y0 (.agg #[.int .i64 0, .int .i64 0, .string ByteArray.empty, .slice none 0 0, .slice none 0 0, .int .i64 0]) 6 88 Tryz.underlying34 hy hy0 hy1 hy2 rfl (by decide) (.slice ia k ic) k _ (by rfl) hD6.od.ownI _ 1 _ (by rfl) (src_item W6 (d.ino k) (d.nd k) l5) (by unfold maxLen; omega) (by omega) hD6.bw ?_)
      intro vI W7 hown hgrow hnil hat
      rcases hown.2 with ⟨_, h0⟩ | ⟨gI, cI, cur, hvI, _, _, _⟩
      · omega
      subst hvI
      have hbI : (Value.slice ia k ic).ownBlock = some gI ∨ (W6.alloc (.cells #[.int .i64 (d.ino k), .int .i64 (d.nd k).kind, .string (d.nd k).text, .slice l5.nA (d.nd k).nn l5.nc, .slice l5.kA (d.nd k).kn l5.kc, .int .i64 (d.nd k).turn] 113)).heap.size ≤ gI := by
        rcases hat with e | e
        · exact Or.inl e.symm
        · right
          have e' : gI = (W6.alloc (.cells #[.int .i64 (d.ino k), .int .i64 (d.nd k).kind, .string (d.nd k).text, .slice l5.nA (d.nd k).nn l5.nc, .slice l5.kA (d.nd k).kn l5.kc, .int .i64 (d.nd k).turn] 113)).heap.size := by simpa [Value.ownBlock] using e
          omega
      have H8 : Hid _ := (HU.out.1.below hd5).item hN6 hgrow hown hbI
      have hXB : (Value.slice ia k ic).ownBlock ≠ some X ∨ True := Or.inr trivial
      have hHeld7 : W7.cell? ⟨X, 0, none⟩ = some (.int .i64 (d.ino k)) ∧ W7.cell? ⟨X, 1, none⟩ = some (.int .i64 (d.nd k).kind) ∧ W7.cell? ⟨X, 2, none⟩ = some (.string (d.nd k).text) ∧ W7.cell? ⟨X, 3, none⟩ = some (.slice (l.L k).nA (d.nd k).nn (l.L k).nc) ∧ W7.cell? ⟨X, 4, none⟩ = some (.slice (l.L k).kA (d.nd k).kn (l.L k).kc) ∧ W7.cell? ⟨X, 5, none⟩ = some (.int .i64 (d.nd k).turn) := by
        have hX7 : Blk W7 X #[.int .i64 (d.ino k), .int .i64 (d.nd k).kind, .string (d.nd k).text, .slice (l.L k).nA (d.nd k).nn (l.L k).nc, .slice (l.L k).kA (d.nd k).kn (l.L k).kc, .int .i64 (d.nd k).turn] 113 := by
          refine blk_grownT (HX.out.below hb7 HX.out.lt) hgrow (fun e => ?_)
          have := HXW.out X e
          omega
        exact ⟨hX7.cell 0, hX7.cell 1, hX7.cell 2, hX7.cell 3, hX7.cell 4, hX7.cell 5⟩
      refine hK.out _ _ hHeld7 (fun hHeld => ?_)
      clear hK K
      try simp only [Act.put, List.setIfInBounds_toArray, List.set_cons_zero, List.set_cons_succ]
      refine wpAnyH_done (by kernel_rfl) ?_ _
      show Oper.wp _ _ _ _ _ _
      clear hown hgrow hnil hat hbI hHeld7 hN6 hD6 hN5 HSt hHeld hd5 hb6 hb7 hsm hXB
      go_simp
      refine NoPanic.normal ?_
      go_wp2_with fail
      go_roundw
      case rel => exact ⟨k + 1, some ⟨gI, 0, none⟩, cI, _, _, _, by omega, by go_num, by go_num, H8.out, fun i hi => by
        by_cases e : i = k
        · subst e; simp
        · simp only [e, if_false]; exact HIN.out.2 i (by omega)⟩
      case measure => simp [intOf]; omega
    · obtain rfl : k = d.m := by omega
      have HOWN : Hid (OwnDp wr (w.heap.size + 2) d ⟨some ⟨g, 0, none⟩, c', ia, ic, M⟩) := (HIN.out.1.od.withLive (Z := d.live) HIN.out.1.live HIN.out.1.b0 (fun b e => by
        have e1 : g = b := by simpa [Value.ownBlock] using e
        exact e1 ▸ HIN.out.1.gl)).ext fun i hi => ⟨((HIN.out.2 i hi).1).symm, ((HIN.out.2 i hi).2).symm⟩
      obtain ⟨p0, p1, p2, p3⟩ := pC_cells HIN.out.1.bx.p
      have r0 : wr.cell? ⟨w.heap.size + 1, 0, none⟩ = some (.int .i64 0) := HIN.out.1.bx.r.cell 0
      have r1 : wr.cell? ⟨w.heap.size + 1, 1, none⟩ = some (.int .i64 0) := HIN.out.1.bx.r.cell 1
      have r2 : wr.cell? ⟨w.heap.size + 1, 2, none⟩ = some (.slice none 0 0) := HIN.out.1.bx.r.cell 2
      have r3 : wr.cell? ⟨w.heap.size + 1, 3, none⟩ = some (.slice none 0 0) := HIN.out.1.bx.r.cell 3
      have g0 := HIN.out.1.bx.r.frozen 0
      have g1 := HIN.out.1.bx.r.frozen 1
      have g2 := HIN.out.1.bx.r.frozen 2
      have g3 := HIN.out.1.bx.r.frozen 3
      go_wp2_with fail
      refine end_world (F := fun U => Blk U (w.heap.size + 1) #[.int .i64 d.since, .int .i64 d.date, .slice (some ⟨g, 0, none⟩) d.ln c', .slice ia d.m ic] 36 ∧ Below w.heap.size w U ∧ OwnDp U (w.heap.size + 2) d ⟨some ⟨g, 0, none⟩, c', ia, ic, M⟩) ⟨(((HIN.out.1.bx.r.set 0 _).set 1 _).set 2 _).set 3 _, bel_put (bel_put (bel_put (bel_put HIN.out.1.bx.bel _ (by omega)) _ (by omega)) _ (by omega)) _ (by omega), OD.off (OD.off (OD.off (OD.off HOWN.out _ (by omega)) _ (by omega)) _ (by omega)) _ (by omega)⟩ ?_
      clear p0 p1 p2 p3 r0 r1 r2 r3 g0 g1 g2 g3
      rintro U ⟨hr, hBU, hod⟩
      have r0 : U.cell? ⟨w.heap.size + 1, 0, none⟩ = some (.int .i64 d.since) := hr.cell 0
      have r1 : U.cell? ⟨w.heap.size + 1, 1, none⟩ = some (.int .i64 d.date) := hr.cell 1
      have r2 : U.cell? ⟨w.heap.size + 1, 2, none⟩ = some (.slice (some ⟨g, 0, none⟩) d.ln c') := hr.cell 2
      have r3 : U.cell? ⟨w.heap.size + 1, 3, none⟩ = some (.slice ia d.m ic) := hr.cell 3
      exact bodyPost_ret (v := .agg #[.int .i64 d.since, .int .i64 d.date, .slice (some ⟨g, 0, none⟩) d.ln c', .slice ia d.m ic]) (by simp [results, Tryz.results50, go_sem, r0, r1, r2, r3]) rfl ⟨⟨some ⟨g, 0, none⟩, c', ia, ic, M⟩, rfl, hBU, OD.lower hod (by omega)⟩

set_option maxRecDepth 100000 in
set_option maxHeartbeats 8000000 in
theorem copyJob_any (j : Jb) (l : JLoc) (w : World) (hJ : JIn w j l) (hok : j.d.ok = true) (hn : j.t.n ≤ 10) (hq10 : j.q ≤ 10) (hst : j.t.size ≤ 1048576) (hsd : j.d.size ≤ 1048576) (hse : sizeTo j.e j.q ≤ 1048576) :
    Calls Tryz.prog 63 #[jV j l] w (JPost1 w j) := by
  unfold jV
  obtain ⟨y0, hy, hy0, hy1, hy2⟩ := info_parts infoNode
  have htS := tr_small hse
  go_enter Tryz.func63, Tryz.ntmps63
  go_wp2_with fail
  refine wp_world (F := Bx w (jC j l) 38 #[.slice none 0 0, .int .i64 0, .int .i64 0, .int .i64 0, .slice none 0 0, .slice none 0 0, .slice none 0 0] 38) (bx2 w _ _ _ _) ?_
  intro W hP
  have HP : Hid _ := hP
  clear hP
  have p6 : W.cell? ⟨w.heap.size, 6, none⟩ = some (.slice l.e j.q l.f) := HP.out.p.cell 6
  go_wp2_with fail
  go_loopw [3, 9] (fun v i wr => ∃ (k : Nat) (b : Option Addr) (bc : Nat) (E : Nat → Nd) (M : Nat → Loc), k ≤ j.q ∧ v = .slice b k bc ∧ i = .int .i64 k ∧ Bn w (jC j l) 38 #[.slice none 0 0, .int .i64 0, .int .i64 0, .int .i64 0, .slice none 0 0, .slice none 0 0, .slice none 0 0] 38 k b bc E M wr ∧ ∀ i, i < k → E i = j.e i) (fun _ i _ => j.q - (intOf i).toNat)
  case atStart => exact ⟨0, none, 0, fun _ => ndZero, fun _ => ⟨none, 0, none, 0⟩, Nat.zero_le _, rfl, rfl, ⟨HP.out, OT.start _ _ _ _ _ _⟩, fun i hi => absurd hi (Nat.not_lt_zero _)⟩
  case round =>
    obtain ⟨k, b, bc, E, M, hk, rfl, rfl, hin, hsel⟩ := hrel
    have HIN : Hid (Bn w (jC j l) 38 #[.slice none 0 0, .int .i64 0, .int .i64 0, .int .i64 0, .slice none 0 0, .slice none 0 0, .slice none 0 0] 38 k b bc E M wr ∧ ∀ i, i < k → E i = j.e i) := ⟨hin, hsel⟩
    have hsw : w.heap.size + 2 ≤ wr.heap.size := hin.bx.size
    clear hin hsel
    by_cases hlt : k < j.q
    · have hlti : (k : Int) < (j.q : Int) := by omega
      obtain ⟨bI, oI, hQ, hQl, hQc⟩ := (hJ.e.below (Nat.le_refl _) HIN.out.1.bx.bel).at hlt
      obtain ⟨d1, d2, d3, d4, d5, d6⟩ := hQc k hlt
      have HN : Hid (NdIn wr (j.e k) (l.g k)) := d6
      have hsm := htS k hlt
      rw [hQ]
      have HA : Hid (l.e = some ⟨bI, oI, none⟩) := hQ
      clear hQ hQc d6
      go_wp2_with fail
      refine at_world (F := fun U => Bn w (jC j l) 38 #[.slice none 0 0, .int .i64 0, .int .i64 0, .int .i64 0, .slice none 0 0, .slice none 0 0, .slice none 0 0] 38 k b bc E M U ∧ NdIn U (j.e k) (l.g k)) ⟨HIN.out.1.below ((Below.refl _ _).alloc (Nat.le_refl _) _), HN.out.below (Nat.le_refl _) ((Below.refl _ _).alloc (Nat.le_refl _) _)⟩ ?_
      rintro U ⟨hU, hNU⟩
      refine (copyNode_any (j.e k) (l.g k) U hNU hsm.1 hsm.2.1 hsm.2.2.1 hsm.2.2.2).mono ?_
      rintro e W6 ⟨l5, rfl, hN5⟩
      unfold ndV
      have HU : Hid (Bn w (jC j l) 38 #[.slice none 0 0, .int .i64 0, .int .i64 0, .int .i64 0, .slice none 0 0, .slice none 0 0, .slice none 0 0] 38 k b bc E M U ∧ NewNn U (j.e k) l5 W6 ∧ w.heap.size + 2 ≤ W6.heap.size) := ⟨hU, hN5, by have := hU.bx.size; have := hN5.bel.size; omega⟩
      clear hU hNU hN5
      go_wp2_with (at_builtin; go_must (refine wpList_append_src (by rfl) _ _ 31 rfl (w.heap.size + 2) 87 y0 (.agg #[.int .i64 0, .string ByteArray.empty, .slice none 0 0, .slice none 0 0, .int .i64 0]) 5 80 Tryz.underlying31 hy hy0 hy1 hy2 rfl (by decide) (.slice b k bc) k (rowsT (fun _ => 0) E M k) (by rfl) ((HU.out.1.below HU.out.2.1.bel).ot.ownI.alloc _) _ 1 _ (by rfl) (src_node W6 (j.e k) l5) (by unfold maxLen; omega) (by omega) (by have := HU.out.2.2; simp; omega) ?_))
      intro vI W7 hown hgrow hnil hat
      rcases hown.2 with ⟨_, h0⟩ | ⟨gI, cI, cur, hvI, _, _, _⟩
      · omega
      subst hvI
      have hbI : (Value.slice b k bc).ownBlock = some gI ∨ (W6.alloc (.cells #[.int .i64 (j.e k).kind, .string (j.e k).text, .slice (l5).nA (j.e k).nn (l5).nc, .slice (l5).kA (j.e k).kn (l5).kc, .int .i64 (j.e k).turn] 87)).heap.size ≤ gI := by
        rcases hat with e | e
        · exact Or.inl e.symm
        · right
          have e' : gI = (W6.alloc (.cells #[.int .i64 (j.e k).kind, .string (j.e k).text, .slice (l5).nA (j.e k).nn (l5).nc, .slice (l5).kA (j.e k).kn (l5).kc, .int .i64 (j.e k).turn] 87)).heap.size := by simpa [Value.ownBlock] using e
          omega
      have H8 : Hid _ := HU.out.1.item (HU.out.2.1.alloc (.cells #[.int .i64 (j.e k).kind, .string (j.e k).text, .slice (l5).nA (j.e k).nn (l5).nc, .slice (l5).kA (j.e k).kn (l5).kc, .int .i64 (j.e k).turn] 87)) hgrow hown hbI
      clear hown hgrow hnil hat hbI
      go_wp2_with fail
      go_roundw
      case rel => exact ⟨k + 1, some ⟨gI, 0, none⟩, cI, _, _, by omega, by go_num, by go_num, H8.out, fun i hi => by
        by_cases e : i = k
        · subst e; simp
        · simp only [e, if_false]; exact HIN.out.2 i (by omega)⟩
      case measure => simp [intOf]; omega
    · obtain rfl : k = j.q := by omega
      have HOT : Hid (OwnTr wr (w.heap.size + 2) ⟨j.q, j.e, 0⟩ ⟨b, bc, M⟩) := HIN.out.1.ot.ext fun i hi => ⟨(HIN.out.2 i hi).symm, rfl⟩
      have HX : Hid (Bx w (jC j l) 38 #[.slice none 0 0, .int .i64 0, .int .i64 0, .int .i64 0, .slice none 0 0, .slice none 0 0, .slice none 0 0] 38 wr ∧ OwnTr wr (w.heap.size + 2) j.dn ⟨b, bc, M⟩) := ⟨HIN.out.1.bx, HOT.out⟩
      clear HIN HOT
      have HSt : Hid (∀ W', Below wr.heap.size wr W' → W'.cell? ⟨w.heap.size, 0, none⟩ = some (.slice l.t.a j.t.n l.t.c) ∧ W'.cell? ⟨w.heap.size, 1, none⟩ = some (.int .i64 j.t.now) ∧ W'.cell? ⟨w.heap.size, 2, none⟩ = some (.int .i64 j.d.since) ∧ W'.cell? ⟨w.heap.size, 3, none⟩ = some (.int .i64 j.d.date) ∧ W'.cell? ⟨w.heap.size, 4, none⟩ = some (.slice l.d.lA j.d.ln l.d.lc) ∧ W'.cell? ⟨w.heap.size, 5, none⟩ = some (.slice l.d.iA j.d.m l.d.ic)) := fun W' hW => by
        obtain ⟨p0, p1, p2, p3, p4, p5, p6⟩ := jC_cells (HX.out.1.below hW).p
        exact ⟨p0, p1, p2, p3, p4, p5⟩
      have hd0 : Below wr.heap.size wr wr.drew := below_drewN (Below.refl _ _) 1
      go_wp2_with fail
      refine wp_region_noPanic ?_
      refine wp_region_peel (fun W' => W'.cell? ⟨w.heap.size, 0, none⟩ = some (.slice l.t.a j.t.n l.t.c) ∧ W'.cell? ⟨w.heap.size, 1, none⟩ = some (.int .i64 j.t.now) ∧ W'.cell? ⟨w.heap.size, 2, none⟩ = some (.int .i64 j.d.since) ∧ W'.cell? ⟨w.heap.size, 3, none⟩ = some (.int .i64 j.d.date) ∧ W'.cell? ⟨w.heap.size, 4, none⟩ = some (.slice l.d.lA j.d.ln l.d.lc) ∧ W'.cell? ⟨w.heap.size, 5, none⟩ = some (.slice l.d.iA j.d.m l.d.ic)) _ (by kernel_rfl) rfl (by kernel_rfl) ?_ (fun hHeld => ?_)
      · exact HSt.out _ hd0
      simp only [List.pop_toArray, List.dropLast, List.size_toArray, List.length_cons, List.length_nil, Nat.reduceAdd, Nat.reduceSub, List.getElem_toArray, List.getElem_cons_succ, List.getElem_cons_zero]
      refine peel_take (i := 0) (oi := ?oi0e) (v := ?v0e) (fun _ _ _ _ _ h => h) hHeld ?hi0e (by kernel_rfl) (by kernel_rfl) (by kernel_rfl) ?hw0e ?hy0e ?rest0e
      case hi0e =>
        simp only [List.getElem?_toArray, List.getElem?_cons_zero]
        rfl
      case hw0e => rfl
      case hy0e =>
        intro w hSw
        obtain ⟨s0, s1, s2, s3, s4, s5⟩ := hSw
        go_simp
        try with_reducible rfl
      try simp only [Act.put, List.setIfInBounds_toArray, List.set_cons_zero, List.set_cons_succ]
      refine peel_take (i := 1) (oi := ?oi1e) (v := ?v1e) (fun _ _ _ _ _ h => h) hHeld ?hi1e (by kernel_rfl) (by kernel_rfl) (by kernel_rfl) ?hw1e ?hy1e ?rest1e
      case hi1e =>
        simp only [List.getElem?_toArray, List.getElem?_cons_succ, List.getElem?_cons_zero]
        rfl
      case hw1e => rfl
      case hy1e =>
        intro w hSw
        obtain ⟨s0, s1, s2, s3, s4, s5⟩ := hSw
        go_simp
        try with_reducible rfl
      try simp only [Act.put, List.setIfInBounds_toArray, List.set_cons_zero, List.set_cons_succ]
      refine peel_take (i := 3) (oi := ?oi3e) (v := ?v3e) (fun _ _ _ _ _ h => h) hHeld ?hi3e (by kernel_rfl) (by kernel_rfl) (by kernel_rfl) ?hw3e ?hy3e ?rest3e
      case hi3e =>
        simp only [List.getElem?_toArray, List.getElem?_cons_succ, List.getElem?_cons_zero]
        rfl
      case hw3e => rfl
      case hy3e =>
        intro w hSw
        obtain ⟨s0, s1, s2, s3, s4, s5⟩ := hSw
        go_simp
        try with_reducible rfl
      try simp only [Act.put, List.setIfInBounds_toArray, List.set_cons_zero, List.set_cons_succ]
      refine peel_take (i := 4) (oi := ?oi4e) (v := ?v4e) (fun _ _ _ _ _ h => h) hHeld ?hi4e (by kernel_rfl) (by kernel_rfl) (by kernel_rfl) ?hw4e ?hy4e ?rest4e
      case hi4e =>
        simp only [List.getElem?_toArray, List.getElem?_cons_succ, List.getElem?_cons_zero]
        rfl
      case hw4e => rfl
      case hy4e =>
        intro w hSw
        obtain ⟨s0, s1, s2, s3, s4, s5⟩ := hSw
        go_simp
        try with_reducible rfl
      try simp only [Act.put, List.setIfInBounds_toArray, List.set_cons_zero, List.set_cons_succ]
      refine peel_take (i := 6) (oi := ?oi6e) (v := ?v6e) (fun _ _ _ _ _ h => h) hHeld ?hi6e (by kernel_rfl) (by kernel_rfl) (by kernel_rfl) ?hw6e ?hy6e ?rest6e
      case hi6e =>
        simp only [List.getElem?_toArray, List.getElem?_cons_succ, List.getElem?_cons_zero]
        rfl
      case hw6e => rfl
      case hy6e =>
        intro w hSw
        obtain ⟨s0, s1, s2, s3, s4, s5⟩ := hSw
        go_simp
        try with_reducible rfl
      try simp only [Act.put, List.setIfInBounds_toArray, List.set_cons_zero, List.set_cons_succ]
      refine wpAnyH_ready (rs := [2]) (by kernel_rfl) (by simp) ?_
      refine AllReadyH.cons (o := ?o2e) ?ho2e (fun K hK => ?st2e) AllReadyH.nil
      case ho2e =>
        simp only [List.getElem?_toArray, List.getElem?_cons_succ, List.getElem?_cons_zero]
        rfl
      go_simp
      refine (copyTree_any j.t l.t wr.drew ((hJ.t.below (Nat.le_refl _) HX.out.1.bel).below (Nat.le_refl _) hd0) (by omega) hst).mono ?_
      rintro e w4 ⟨k1, rfl, hb4, ho4⟩
      unfold tV
      have hB4 : Below wr.heap.size wr w4 := hd0.trans (hb4.mono hd0.size)
      have H4 : Hid (OwnTr w4 wr.heap.size j.t k1) := ho4.lower hd0.size
      clear hb4 ho4
      refine hK.out _ _ (HSt.out _ hB4) (fun hHeld => ?_)
      clear hK K
      try simp only [Act.put, List.setIfInBounds_toArray, List.set_cons_zero, List.set_cons_succ]
      refine wpAnyH_ready (rs := [5]) (by kernel_rfl) (by simp) ?_
      refine AllReadyH.cons (o := ?o5e) ?ho5e (fun K hK => ?st5e) AllReadyH.nil
      case ho5e =>
        simp only [List.getElem?_toArray, List.getElem?_cons_succ, List.getElem?_cons_zero]
        rfl
      go_simp
      refine (copyDump_any j.d l.d w4 ((hJ.d.below (Nat.le_refl _) HX.out.1.bel).below (Nat.le_refl _) hB4) hok hsd).mono ?_
      rintro e w5 ⟨k2, rfl, hb5, ho5⟩
      unfold dpV
      have hB5 : Below wr.heap.size wr w5 := hB4.trans (hb5.mono hB4.size)
      have HJ : Hid (Bx w (jC j l) 38 #[.slice none 0 0, .int .i64 0, .int .i64 0, .int .i64 0, .slice none 0 0, .slice none 0 0, .slice none 0 0] 38 w5 ∧ OwnJb w5 (w.heap.size + 2) j ⟨k1, k2, b, bc, M⟩) := by
        have hE := HX.out.2.below hB5
        have hT := H4.out.below hb5
        have hEt : ∀ q, BkT j.dn ⟨b, bc, M⟩ q → q < wr.heap.size := fun q e => (HX.out.2.blk e).2
        have hTt : ∀ q, BkT j.t k1 q → wr.heap.size ≤ q ∧ q < w4.heap.size := fun q e => H4.out.blk e
        have hDt : ∀ q, BkD j.d k2 q → w4.heap.size ≤ q := fun q e => (ho5.blk e).1
        have hs4 := hB4.size
        exact ⟨HX.out.1.below hB5, hT.lower hsw, ho5.lower (by omega), hE, fun q e1 e2 => by have h1 := (hTt q e1).2; have h2 := hDt q e2; omega, fun q e1 e2 => by have h1 := (hTt q e1).1; have h2 := hEt q e2; omega, fun q e1 e2 => by have h1 := hDt q e1; have h2 := hEt q e2; omega⟩
      clear hb5 ho5
      refine hK.out _ _ (HSt.out _ hB5) (fun hHeld => ?_)
      clear hK K
      try simp only [Act.put, List.setIfInBounds_toArray, List.set_cons_zero, List.set_cons_succ]
      refine wpAnyH_ready (rs := [7]) (by kernel_rfl) (by simp) ?_
      refine AllReadyH.cons (o := ?o7e) ?ho7e (fun K hK => ?st7e) AllReadyH.nil
      case ho7e =>
        simp only [List.getElem?_toArray, List.getElem?_cons_succ, List.getElem?_cons_zero]
        rfl
      go_simp
      refine hK.out _ _ (HSt.out _ hB5) (fun hHeld => ?_)
      clear hK K
      try simp only [Act.put, List.setIfInBounds_toArray, List.set_cons_zero, List.set_cons_succ]
      refine wpAnyH_done (by kernel_rfl) ?_ _
      show Oper.wp _ _ _ _ _ _
      have r0 : w5.cell? ⟨w.heap.size + 1, 0, none⟩ = some (.slice none 0 0) := HJ.out.1.r.cell 0
      have g0 := HJ.out.1.r.frozen 0
      have r1 : w5.cell? ⟨w.heap.size + 1, 1, none⟩ = some (.int .i64 0) := HJ.out.1.r.cell 1
      have g1 := HJ.out.1.r.frozen 1
      have r2 : w5.cell? ⟨w.heap.size + 1, 2, none⟩ = some (.int .i64 0) := HJ.out.1.r.cell 2
      have g2 := HJ.out.1.r.frozen 2
      have r3 : w5.cell? ⟨w.heap.size + 1, 3, none⟩ = some (.int .i64 0) := HJ.out.1.r.cell 3
      have g3 := HJ.out.1.r.frozen 3
      have r4 : w5.cell? ⟨w.heap.size + 1, 4, none⟩ = some (.slice none 0 0) := HJ.out.1.r.cell 4
      have g4 := HJ.out.1.r.frozen 4
      have r5 : w5.cell? ⟨w.heap.size + 1, 5, none⟩ = some (.slice none 0 0) := HJ.out.1.r.cell 5
      have g5 := HJ.out.1.r.frozen 5
      have r6 : w5.cell? ⟨w.heap.size + 1, 6, none⟩ = some (.slice none 0 0) := HJ.out.1.r.cell 6
      have g6 := HJ.out.1.r.frozen 6
      have HE : Hid (∀ U, U = (((((((w5.setCell ⟨w.heap.size + 1, 0, none⟩ (.slice k1.a j.t.n k1.c)).setCell ⟨w.heap.size + 1, 1, none⟩ (.int .i64 j.t.now)).setCell ⟨w.heap.size + 1, 2, none⟩ (.int .i64 j.d.since)).setCell ⟨w.heap.size + 1, 3, none⟩ (.int .i64 j.d.date)).setCell ⟨w.heap.size + 1, 4, none⟩ (.slice k2.lA j.d.ln k2.lc)).setCell ⟨w.heap.size + 1, 5, none⟩ (.slice k2.iA j.d.m k2.ic)).setCell ⟨w.heap.size + 1, 6, none⟩ (.slice b j.q bc)) → Blk U (w.heap.size + 1) (jC j ⟨k1, k2, b, bc, M⟩) 38 ∧ JPost1 w j (.returned (jV j ⟨k1, k2, b, bc, M⟩)) U) := fun U e => by
        subst e
        exact ⟨blk7 HJ.out.1.r _ _ _ _ _ _ _, bel7 HJ.out.1.bel (by omega) _ _ _ _ _ _ _, _, rfl, (jb7 HJ.out.2 (by omega) _ _ _ _ _ _ _).lower (by omega)⟩
      clear HSt hHeld hd0 hB4 hB5 HJ HX H4
      go_simp
      refine NoPanic.normal ?_
      go_wp2_with fail
      refine end_world (F := fun U => Blk U (w.heap.size + 1) (jC j ⟨k1, k2, b, bc, M⟩) 38 ∧ JPost1 w j (.returned (jV j ⟨k1, k2, b, bc, M⟩)) U) (HE.out _ rfl) ?_
      clear HE r0 r1 r2 r3 r4 r5 r6 g0 g1 g2 g3 g4 g5 g6
      rintro U ⟨hr, hE⟩
      obtain ⟨e0, e1, e2, e3, e4, e5, e6⟩ := jC_cells hr
      exact bodyPost_ret (v := jV j ⟨k1, k2, b, bc, M⟩) (by unfold jV; simp [results, Tryz.results63, go_sem, e0, e1, e2, e3, e4, e5, e6]) rfl hE
end Go.Proofs.YtakifcobofkheaaGreatDoor
