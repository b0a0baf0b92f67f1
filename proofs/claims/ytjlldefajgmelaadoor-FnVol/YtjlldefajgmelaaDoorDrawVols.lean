/-
  What the draw of pieces gives: few of them, and small.
-/
import Derived.Test.YtjlldefajgmelaaDoorVosApp
import Derived.Test.YtjlldefajgmelaaDoorDrawCut
import Derived.Deep.RegionLaw
import Derived.Deep.RegionWith
import Derived.BigRegion
import Derived.Test.YtjlldefajgmelaaDoorSpecCutV
import Derived.Test.YtjlldefajgmelaaDoorCut2
namespace Go.Proofs.YtjlldefajgmelaaDoor
open Go.RowKit Go.Deep
set_option linter.unusedVariables false

/-- A piece whose parts are small. -/
def Vo.Few (v : Vo) : Prop := (0 ≤ v.num ∧ v.num ≤ 100) ∧ (0 ≤ v.cnt ∧ v.cnt ≤ 100) ∧ (0 ≤ v.sum ∧ v.sum ≤ 10000) ∧ v.text.size ≤ 100
theorem few_cat {n m : Nat} {E F : Nat → Vo} (hE : ∀ i, i < n → (E i).Few) (hF : ∀ i, i < m → (F i).Few) : ∀ i, i < n + m → (catV n E F i).Few := by
  intro i hi
  unfold catV
  split
  · rename_i h; exact hE i h
  · exact hF _ (by omega)

theorem few_piece (s : ByteArray) (z : Int) (hs : s.size ≤ 66) : ∀ i, i < cutN s z → (piece s z.toNat (ofN s.size z.toNat) i).Few := by
  intro i hi
  have hf := cutN_few s z
  unfold cutN at hi hf
  by_cases h : cutOk s z = true
  · rw [if_pos h] at hi hf
    have h1 := sumB_lt (s.extract (i * z.toNat) (endAt s z.toNat i))
    refine ⟨⟨?_, ?_⟩, ⟨?_, ?_⟩, ⟨?_, ?_⟩, ?_⟩ <;> unfold piece <;> dsimp only <;> try omega
    rw [ByteArray.size_extract]
    omega
  · rw [if_neg h] at hi; omega

/-- What holds of the pieces that are being drawn, in a block of their own. -/
structure V8 (w W : World) (r : Nat) (a : Option Addr) (len cap : Nat) (zs : Nat → Int) (g n c : Nat) (E : Nat → Vo) (q : Nat) : Prop where
  own : OwnV W w.heap.size (.slice (some ⟨g, 0, none⟩) n c) n E
  few : ∀ i, i < n → (E i).Few
  gr : w.grownBy W (some r)
  rd : IsRd W r a len cap zs q

theorem V8.pick {w W W' : World} {r : Nat} {a : Option Addr} {len cap : Nat} {zs : Nat → Int} {g n c : Nat} {E : Nat → Vo} {q q' : Nat} (h : V8 w W r a len cap zs g n c E q) (hr : r < w.heap.size) (hg : W.grownBy W' (some r)) (hR : IsRd W' r a len cap zs q') : V8 w W' r a len cap zs g n c E q' :=
  ⟨vowns_same h.own (fun b hb => hg.block b (vowns_block h.own hb).2 (fun e => by have := (vowns_block h.own hb).1; cases e; omega)), h.few, grown_trans h.gr hg, hR⟩

theorem V8.turn {B : Nat} {w W W' : World} {r : Nat} {a : Option Addr} {len cap : Nat} {zs : Nat → Int} {g n c : Nat} {E : Nat → Vo} {q : Nat} {n' : Nat} {E' : Nat → Vo} {v' : Value} (h : V8 w W r a len cap zs g n c E q) (hr : r < w.heap.size) (hB : w.heap.size ≤ B) (hR : RgV B W W' v' n' E') (hf : ∀ i, i < n' → (E' i).Few) :
    ∃ b c', v' = .slice b n' c' ∧ OwnV W' w.heap.size (.slice b n' c') n' E' ∧ (∀ i, i < n' → (E' i).Few) ∧ w.grownBy W' (some r) ∧ IsRd W' r a len cap zs q := by
  obtain ⟨b, c', rfl, _⟩ := hR.own.lies
  have hb := hR.bel
  refine ⟨b, c', rfl, hR.own.lower hB, hf, ?_, h.rd.kept fun k hk => hb.block k (by omega)⟩
  have hs := h.gr.size
  exact ⟨hb.os.trans h.gr.os, hb.tape.trans h.gr.tape, hb.output.trans h.gr.output, Nat.le_trans hs hb.size, fun k hk hne => (hb.block k (by omega)).trans (h.gr.block k hk hne)⟩

theorem vov_sum (n k : Nat) (E : Nat → Vo) (z : Int) (hk : k < n) : (vov n E).set (k * 4 + 2) (.int .i64 z) = vov n (fun i => if i = k then ⟨(E k).num, (E k).cnt, z, (E k).text⟩ else E i) := by
  apply List.ext_getElem?
  intro j
  rw [List.getElem?_set]
  by_cases hj : j < n * 4
  · by_cases e : k * 4 + 2 = j
    · subst e
      rw [if_pos rfl, if_pos (by rw [vov_len]; omega), vov_get hj, show (k * 4 + 2) / 4 = k by omega, show (k * 4 + 2) % 4 = 2 by omega]
      simp [cellOf]
    · rw [if_neg e, vov_get hj, vov_get hj]
      by_cases e2 : j / 4 = k
      · have h2 : j % 4 ≠ 2 := by omega
        rw [e2, if_pos rfl]
        unfold cellOf
        simp [h2]
      · rw [if_neg e2]
  · rw [if_neg (by omega), List.getElem?_eq_none (by rw [vov_len]; omega), List.getElem?_eq_none (by rw [vov_len]; omega)]

theorem V8.put {w W W' : World} {r : Nat} {a : Option Addr} {len cap : Nat} {zs : Nat → Int} {g n c : Nat} {E : Nat → Vo} {q b : Nat} (h : V8 w W r a len cap zs g n c E q) (hr : r < w.heap.size) (hg : W.grownBy W' (some b)) (hb : w.heap.size ≤ b) : w.grownBy W' (some r) ∧ IsRd W' r a len cap zs q := by
  have hs := h.gr.size
  exact ⟨⟨hg.os.trans h.gr.os, hg.tape.trans h.gr.tape, hg.output.trans h.gr.output, Nat.le_trans hs hg.size, fun k hk hne => (hg.block k (by omega) (fun e => by cases e; omega)).trans (h.gr.block k hk hne)⟩,
    h.rd.kept fun k hk => hg.block k (by omega) (fun e => by cases e; omega)⟩

theorem vov_snoc (n : Nat) (E : Nat → Vo) (v : Vo) : vov n E ++ voc v = vov (n + 1) (catV n E (fun _ => v)) := by
  have h : vov 1 (fun _ => v) = voc v := by rw [vov_succ, vov_zero, List.nil_append]
  rw [← h, vov_add]

theorem V8.rg {w W : World} {r : Nat} {a : Option Addr} {len cap : Nat} {zs : Nat → Int} {g n c : Nat} {E : Nat → Vo} {q : Nat} (h : V8 w W r a len cap zs g n c E q) : RgV w.heap.size W W (.slice (some ⟨g, 0, none⟩) n c) n E := ⟨Below.refl _ _, h.gr.size, h.own, by simp⟩
theorem V8.rgd {w W : World} {r : Nat} {a : Option Addr} {len cap : Nat} {zs : Nat → Int} {g n c : Nat} {E : Nat → Vo} {q : Nat} (h : V8 w W r a len cap zs g n c E q) : RgV w.heap.size W W.drew (.slice (some ⟨g, 0, none⟩) n c) n E := ⟨below_drewN (Below.refl _ _) 1, h.gr.size, h.own.below (below_drewN (Below.refl _ _) 1), by simp⟩

theorem cells_one (W : World) (v : Vo) : ∀ j u, (vov 1 (fun _ => v))[j]? = some u → (W.alloc (.cells #[.int .i64 v.num, .int .i64 v.cnt, .int .i64 v.sum, .string v.text] 24)).cell? ((⟨W.heap.size, 0, none⟩ : Addr).add j) = some u := by
  have h : vov 1 (fun _ => v) = voc v := by rw [vov_succ, vov_zero, List.nil_append]
  rw [h]
  exact voc_cells W v

/-- A piece whose parts are small, be it bent. -/
def Vo.Small (v : Vo) : Prop := (0 ≤ v.num ∧ v.num ≤ 200) ∧ (0 ≤ v.cnt ∧ v.cnt ≤ 200) ∧ (0 ≤ v.sum ∧ v.sum ≤ 20000) ∧ v.text.size ≤ 200
theorem Vo.Few.small {v : Vo} (h : v.Few) : v.Small := by
  obtain ⟨⟨a1, a2⟩, ⟨b1, b2⟩, ⟨c1, c2⟩, d⟩ := h
  exact ⟨⟨a1, by omega⟩, ⟨b1, by omega⟩, ⟨c1, by omega⟩, by omega⟩

set_option maxHeartbeats 2000000 in
theorem l8Vols_any (w : World) (r : Nat) (a : Option Addr) (len cap : Nat) (zs : Nat → Int) (p : Nat) (hR : IsRd w r a len cap zs p) (hp : p ≤ 900000) :
    Calls Tryd.prog 28 #[.pointer (some ⟨r, 0, none⟩)] w fun e w' => ∃ (n c : Nat) (b : Option Addr) (E : Nat → Vo) (q : Nat), e = .returned (.slice b n c) ∧ n ≤ 41 ∧ OwnV w' w.heap.size (.slice b n c) n E ∧ (∀ i, i < n → (E i).Small) ∧ w.grownBy w' (some r) ∧ IsRd w' r a len cap zs q ∧ q ≤ p + 20 := by
  have HL : Hid (r < w.heap.size) := hR.lt
  go_enter Tryd.func28, Tryd.ntmps28
  go_wp2_with fail
  refine (l8Text_any w r a len cap zs p hR (by omega)).mono ?_
  rintro e w1 ⟨s, q, rfl, hs, hg1, hR1, hq⟩
  go_wp2_with fail
  refine (pick_any w1 r a len cap zs q 9 hR1 (by omega) (by omega) (by omega)).mono ?_
  rintro e w2 ⟨x, rfl, hx0, hx1, hg2, hR2⟩
  have hg12 := grown_trans hg1 hg2
  clear hR hR1 hg1 hg2
  go_wp2_with fail
  refine (specTapeCut_any s (1 + x) w2 (by unfold maxLen; omega) (by constructor <;> omega)).mono ?_
  rintro e w3 ⟨b, c, rfl, hb3, ho3⟩
  have hfew := few_piece s (1 + x) hs
  have hn40 := cutN_few s (1 + x)
  have hR3 : IsRd w3 r a len cap zs (q + 1) := hR2.kept fun k hk => hb3.block k (by have := hR2.lt; omega)
  have hg3 : w.grownBy w3 (some r) := grown_trans hg12 ⟨hb3.os, hb3.tape, hb3.output, hb3.size, fun k hk _ => hb3.block k hk⟩
  have ho : OwnV w3 w.heap.size (.slice b (cutN s (1 + x)) c) _ _ := ho3.lower hg12.size
  generalize cutN s (1 + x) = n at *
  generalize piece s (1 + x).toNat (ofN s.size (1 + x).toNat) = E at *
  generalize cutOk s (1 + x) = ok at *
  have HQ : Hid (q ≤ p + 12) := hq
  clear hR2 hb3 ho3 hg12 hx0 hx1 hs hq
  by_cases hn : n = 0
  · subst hn
    have HO : Hid _ := And.intro ho (And.intro hfew (And.intro hg3 hR3))
    clear ho hfew hg3 hR3
    go_wp2
    go_ret
    exact ⟨0, c, b, E, q + 1, rfl, by omega, HO.out.1, fun i hi => (HO.out.2.1 i hi).small, HO.out.2.2.1, HO.out.2.2.2, by have := HQ.out; omega⟩
  · obtain ⟨g, rfl, hgl⟩ := vowns_addr ho (by omega)
    have hn0 : ((n : Int) == 0) = false := by simp; omega
    have HV : Hid (V8 w w3 r a len cap zs g n c E (q + 1)) := ⟨ho, hfew, hg3, hR3⟩
    clear ho hfew hg3 hR3
    go_wp2_with fail
    refine (pick_any w3 r a len cap zs (q + 1) (n : Int) HV.out.rd (by have := HQ.out; omega) (by omega) (by omega)).mono ?_
    rintro e W ⟨k, rfl, hk0, hk1, hg4, hR4⟩
    obtain ⟨k, rfl⟩ := Int.eq_ofNat_of_zero_le hk0
    have HV4 : Hid (V8 w W r a len cap zs g n c E (q + 1 + 1)) := HV.out.pick HL.out hg4 hR4
    clear HV hg4 hR4 hk0
    have hkn : k < n := by omega
    have hcap := HV4.out.own.cap
    have hsT : ∀ w, (Instr.sliceAt 47 (.slice (some ⟨g, 0, none⟩) n c) (some (.int .i64 (k : Int))) none none).run Tryd.prog w = .ok (.slice (some ⟨g, k * 4, none⟩) (n - k) (c - k)) w := fun w => by rw [slice_tailV g 0 n c k (by omega) (by omega), Nat.zero_add]
    have hsH : ∀ w, (Instr.sliceAt 47 (.slice (some ⟨g, 0, none⟩) n c) none (some (.int .i64 (k : Int))) none).run Tryd.prog w = .ok (.slice (some ⟨g, 0, none⟩) k c) w := slice_headV g 0 n c k (by omega)
    have HP2 : Hid (∀ W', Below W.heap.size W W' → ∀ j u, (vov (n - k) (fun i => E (k + i)))[j]? = some u → W'.cell? ((⟨g, k * 4, none⟩ : Addr).add j) = some u) := fun W' hb => by
      have h := pieceV (HV4.out.own.below hb) k (n - k) (by omega)
      rwa [Nat.zero_add] at h
    have HP1 : Hid (∀ W', Below W.heap.size W W' → ∀ j u, (vov k E)[j]? = some u → W'.cell? ((⟨g, 0, none⟩ : Addr).add j) = some u) := fun W' hb => by
      have h := pieceV (HV4.out.own.below hb) 0 k (by omega)
      simpa using h
    have hn1000 : n - k ≤ 1000 := by omega
    have hgW := hcap.2.2
    obtain ⟨u0, c00⟩ : ∃ u0, W.cell? ⟨g, 0, none⟩ = some u0 := by
      have h := HP1.out W (Below.refl _ _)
      have h2 := pieceV HV4.out.own 0 n (by omega) 0 (cellOf (E (0 + 0 / 4)) (0 % 4)) (vov_get (by omega))
      exact ⟨_, by simpa [Addr.add] using h2⟩
    go_wp2_with fail
    apply wp_cut2 (X := Value) (Y := Value) (fun v5 v6 W' => RgV W.heap.size W W' v6 (0 + (n - k) + k) (catV (0 + (n - k)) (catV 0 E (fun i => E (k + i))) E))
    · intro key
      have KEY : Hid _ := key
      clear key
      go_region_held3 (fun W' => W'.cell? ⟨g, 0, none⟩ = some u0) (go_keep) (first
        | (refine appV (M := E) (m := k) (by rfl) (.tmp 27) (.tmp 30) (by rfl) (by exact hA5) (HP1.out _ (by exact hA5.bel)) (by omega) (by omega) (by rfl) (by rfl) ?_
           intro v6 w6 hA6 hg6
           have k6 : w6.cell? ⟨g, 0, none⟩ = some u0 := (hA6.bel.cell (p := ⟨g, 0, none⟩) hgW).trans c00)
        | (refine appV (M := fun i => E (k + i)) (m := n - k) (by rfl) (.tmp 23) (.tmp 26) (by rfl) (by exact rgV_new (wr := W) (Nat.le_refl _) E) (HP2.out _ (by exact (rgV_new (wr := W) (Nat.le_refl _) E).bel)) (by omega) (by omega) (by rfl) (by rfl) ?_
           intro v5 w5 hA5 hg5
           have k5 : w5.cell? ⟨g, 0, none⟩ = some u0 := (hA5.bel.cell (p := ⟨g, 0, none⟩) hgW).trans c00))
      all_goals exact KEY.out v5 v6 w6 hA6
    · intro v5 v6 W1 hR
      have e : 0 + (n - k) + k = n := by omega
      have hf := few_cat (n := 0 + (n - k)) (m := k) (few_cat (n := 0) (m := n - k) (E := E) (F := fun i => E (k + i)) (fun i hi => by omega) (fun i hi => HV4.out.few (k + i) (by omega))) (fun i hi => HV4.out.few i (by omega))
      rw [e] at hR hf
      obtain ⟨b1, c1, rfl, ho1, hf1, hg1, hr1⟩ := HV4.out.turn HL.out HV4.out.gr.size hR hf
      clear hR hf e
      generalize (catV (0 + (n - k)) (catV 0 E (fun i => E (k + i))) E) = E1 at *
      obtain ⟨g1, rfl, hgl1⟩ := vowns_addr ho1 (by omega)
      have HV1 : Hid (V8 w W1 r a len cap zs g1 n c1 E1 (q + 1 + 1)) := ⟨ho1, hf1, hg1, hr1⟩
      clear ho1 hf1 hg1 hr1 HV4 HP1 HP2 c00 hsT hsH hgW hcap hgl hgl1 hn1000
      go_wp2_with fail
      refine (pick_any W1 r a len cap zs (q + 1 + 1) 12 HV1.out.rd (by have := HQ.out; omega) (by omega) (by omega)).mono ?_
      rintro e W2 ⟨y, rfl, hy0, hy1, hg2, hR2⟩
      have HV : Hid (V8 w W2 r a len cap zs g1 n c1 E1 (q + 1 + 1 + 1)) := HV1.out.pick HL.out hg2 hR2
      clear HV1 hg2 hR2 hy0 hy1
      have hcap := HV.out.own.cap
      obtain ⟨⟨a1, a2⟩, ⟨b1, b2⟩, ⟨c1', c2'⟩, d1⟩ := HV.out.few k hkn
      by_cases h0 : y = 0
      · have y0 : (y == 0) = true := by rw [h0]; rfl
        have hrow : W2.ownsRow w.heap.size 24 4 (.slice (some ⟨g1, 0, none⟩) n c1) n (vov n E1) := HV.out.own
        have hc2 := hrow.cellAt (k * 4 + 2) (by omega)
        have hf2 := hrow.frozenAt (k * 4 + 2)
        rw [(vov_at (E := E1) hkn).2.2.1] at hc2
        have hwr : IntKind.i64.wrap ((E1 k).sum + 1) = (E1 k).sum + 1 := wrap_i64 _ (by omega) (by omega)
        have R1 := hrow.stored (k * 4 + 2) (.int .i64 ((E1 k).sum + 1))
        rw [vov_sum n k E1 _ hkn] at R1
        have HR : Hid _ := R1
        clear hrow R1 h0
        have hkn' : (k : Int) < (n : Int) := by omega
        go_wp2
        go_ret
        have hp := HV.out.put HL.out HR.out.2 hcap.2.1
        refine ⟨n, c1, _, _, q + 1 + 1 + 1, rfl, by omega, HR.out.1, fun i hi => ?_, hp.1, hp.2, by have := HQ.out; omega⟩
        by_cases e : i = k
        · rw [if_pos e]
          exact ⟨⟨a1, by dsimp only; omega⟩, ⟨b1, by dsimp only; omega⟩, ⟨by dsimp only; omega, by dsimp only; omega⟩, by dsimp only; omega⟩
        · rw [if_neg e]
          exact (HV.out.few i hi).small
      · have y0 : (y == 0) = false := beq_eq_false_iff_ne.2 h0
        by_cases h1 : y = 1
        · have y1 : (y == 1) = true := by rw [h1]; rfl
          have hkn1 : (k : Int) + 1 ≤ (n : Int) := by omega
          have hk0' : (0 : Int) ≤ (k : Int) := by omega
          have hwk : IntKind.i64.wrap ((k : Int) + 1) = (k : Int) + 1 := wrap_i64 _ (by omega) (by omega)
          have hsA : ∀ w, (Instr.sliceAt 47 (.slice (some ⟨g1, 0, none⟩) n c1) none (some (.int .i64 (k : Int))) none).run Tryd.prog w = .ok (.slice (some ⟨g1, 0, none⟩) k c1) w := slice_headV g1 0 n c1 k (by omega)
          have r0 := HV.out.rd.c0
          have hrW : r < W2.heap.size := HV.out.rd.lt
          have HH : Hid (RgV w.heap.size W2 W2.drew (.slice (some ⟨g1, 0, none⟩) k c1) k E1) := HV.out.rgd.head k (by omega)
          obtain ⟨to, tc, _, HB, HP⟩ : ∃ to tc : Nat, ∃ _ : Unit, Hid (∀ w, (Instr.sliceAt 47 (.slice (some ⟨g1, 0, none⟩) n c1) (some (.int .i64 ((k : Int) + 1))) none none).run Tryd.prog w = .ok (.slice (some ⟨g1, to, none⟩) (n - (k + 1)) tc) w) ∧ Hid (∀ j u, (vov (n - (k + 1)) (fun i => E1 (k + 1 + i)))[j]? = some u → W2.drew.cell? ((⟨g1, to, none⟩ : Addr).add j) = some u) := by
            have ek : ((k + 1 : Nat) : Int) = (k : Int) + 1 := by omega
            by_cases hce : c1 = k + 1
            · obtain rfl : n = k + 1 := by omega
              subst hce
              refine ⟨0, 0, (), fun w => ?_, fun j u hu => ?_⟩
              · rw [← ek, slice_noneV, show k + 1 - (k + 1) = 0 by omega]
              · rw [show k + 1 - (k + 1) = 0 by omega, vov_zero] at hu; simp at hu
            · refine ⟨(k + 1) * 4, c1 - (k + 1), (), fun w => ?_, ?_⟩
              · rw [← ek, slice_tailV g1 0 n c1 (k + 1) (by omega) hce, Nat.zero_add]
              · have h := pieceV HV.out.rgd.own (k + 1) (n - (k + 1)) (by omega)
                rwa [Nat.zero_add] at h
          have hsB := HB.out
          clear HB h0 h1
          go_wp2_with fail
          go_region_held3 (fun W' => W'.cell? ⟨r, 0, none⟩ = some (.slice a len cap)) (go_keep) (first
            | (refine appV (M := fun i => E1 (k + 1 + i)) (m := n - (k + 1)) (by rfl) (.tmp 50) (.tmp 54) (by rfl) (by exact HH.out) (by exact HP.out) (by omega) (by omega) (by rfl) (by rfl) ?_
               intro v6 w6 hA6 hg6
               have k6 : w6.cell? ⟨r, 0, none⟩ = some (.slice a len cap) := (hA6.bel.cell (p := ⟨r, 0, none⟩) HL.out).trans r0))
          all_goals
            obtain ⟨b6, c6, rfl, ho6, hf6, hgr6, hrd6⟩ := HV.out.turn HL.out (Nat.le_refl _) hA6 (few_cat (fun i hi => HV.out.few i (by omega)) (fun i hi => HV.out.few (k + 1 + i) (by omega)))
            have HF : Hid _ := And.intro ho6 (And.intro hf6 (And.intro hgr6 hrd6))
            clear ho6 hf6 hgr6 hrd6 hA6 hg6 k6 hsA hsB r0
            have en : k + (n - (k + 1)) ≤ 41 := by omega
            go_wp2
            go_ret
            exact ⟨_, c6, b6, _, q + 1 + 1 + 1, rfl, en, HF.out.1, fun i hi => (HF.out.2.1 i hi).small, HF.out.2.2.1, HF.out.2.2.2, by have := HQ.out; omega⟩
        · have y1 : (y == 1) = false := beq_eq_false_iff_ne.2 h1
          by_cases h2 : y = 2
          · have y2 : (y == 2) = true := by rw [h2]; rfl
            have hrow : W2.ownsRow w.heap.size 24 4 (.slice (some ⟨g1, 0, none⟩) n c1) n (vov n E1) := HV.out.own
            have d0 := hrow.cellAt (k * 4) (by omega)
            have d1 := hrow.cellAt (k * 4 + 1) (by omega)
            have d2 := hrow.cellAt (k * 4 + 2) (by omega)
            have d3 := hrow.cellAt (k * 4 + 3) (by omega)
            rw [(vov_at (E := E1) hkn).1] at d0
            rw [(vov_at (E := E1) hkn).2.1] at d1
            rw [(vov_at (E := E1) hkn).2.2.1] at d2
            rw [(vov_at (E := E1) hkn).2.2.2] at d3
            have hkn' : (k : Int) < (n : Int) := by omega
            have hwl := HV.out.gr.size
            obtain ⟨i0, hi, hz0, hz1, hz2⟩ := info_parts infoVol
            clear h0 h1 h2
            go_wp2_with (at_builtin; refine wpList_append_own _ rfl _ _ 47 rfl w.heap.size 24 i0 (.agg #[.int .i64 0, .int .i64 0, .int .i64 0, .string ⟨#[]⟩]) 4 40 Tryd.underlying47 hi hz0 hz1 hz2 rfl (by decide) _ _ _ rfl (hrow.alloc _) ⟨_, 0, none⟩ 1 1 (voc (E1 k)) rfl rfl ?c1x ?c2x ?c3x ?c4x ?c5x ?_)
            case c1x => exact voc_cells _ _
            case c2x => exact voc_one _
            case c3x => unfold maxLen; omega
            case c4x => omega
            case c5x => simp; omega
            intro v' w3 hown hgrow hnil
            rw [vov_snoc] at hown
            have hR3 : RgV w.heap.size W2 w3 v' (n + 1) (catV n E1 (fun _ => E1 k)) := ⟨(((Below.refl _ _).mono hwl).alloc hwl _).grown hgrow (by simp; omega) (fun g hg => (vowns_block hrow hg).1), by have := hgrow.size; simp at this; omega, hown, hnil⟩
            obtain ⟨b6, c6, rfl, ho6, hf6, hgr6, hrd6⟩ := HV.out.turn HL.out (Nat.le_refl _) hR3 (few_cat (fun i hi => HV.out.few i hi) (fun i hi => HV.out.few k hkn))
            have HF : Hid _ := And.intro ho6 (And.intro hf6 (And.intro hgr6 hrd6))
            clear ho6 hf6 hgr6 hrd6 hR3 hown hgrow hnil hrow d0 d1 d2 d3
            go_wp2
            go_ret
            exact ⟨n + 1, c6, b6, _, q + 1 + 1 + 1, rfl, by omega, HF.out.1, fun i hi => (HF.out.2.1 i hi).small, HF.out.2.2.1, HF.out.2.2.2, by have := HQ.out; omega⟩
          · have y2 : (y == 2) = false := beq_eq_false_iff_ne.2 h2
            by_cases h3 : y = 3
            · have y3 : (y == 3) = true := by rw [h3]; rfl
              have hrow : W2.ownsRow w.heap.size 24 4 (.slice (some ⟨g1, 0, none⟩) n c1) n (vov n E1) := HV.out.own
              have d0 := hrow.cellAt (k * 4) (by omega)
              have d1 := hrow.cellAt (k * 4 + 1) (by omega)
              rw [(vov_at (E := E1) hkn).1] at d0
              rw [(vov_at (E := E1) hkn).2.1] at d1
              have hkn' : (k : Int) < (n : Int) := by omega
              have hk0' : (0 : Int) ≤ (k : Int) := by omega
              have hgW := hcap.2.2
              have HTS : Hid (∀ W, Calls Tryd.prog 22 #[.string ⟨#[122, 122]⟩] W fun e w' => e = .returned (.int .i64 (sumB ⟨#[122, 122]⟩ : Nat)) ∧ w' = W) := fun W => specTapeSum_any ⟨#[122, 122]⟩ W (by decide)
              have hz := sumB_lt ⟨#[122, 122]⟩
              generalize sumB ⟨#[122, 122]⟩ = z at *
              have hfz : (⟨(E1 k).num, (E1 k).cnt, (z : Int), ⟨#[122, 122]⟩⟩ : Vo).Few := ⟨⟨a1, a2⟩, ⟨b1, b2⟩, ⟨by dsimp only; omega, by dsimp only; omega⟩, by show (2 : Nat) ≤ 100; omega⟩
              have HG : Hid (RgV w.heap.size W2 W2.drew (.slice (some ⟨g1, 0, none⟩) n c1) n E1) := HV.out.rgd
              have HC : Hid (∀ W : World, ∀ j u, (vov 1 (fun _ => (⟨(E1 k).num, (E1 k).cnt, (z : Int), ⟨#[122, 122]⟩⟩ : Vo)))[j]? = some u → (W.alloc (.cells #[.int .i64 (E1 k).num, .int .i64 (E1 k).cnt, .int .i64 (z : Int), .string ⟨#[122, 122]⟩] 24)).cell? ((⟨W.heap.size, 0, none⟩ : Addr).add j) = some u) := fun W => cells_one W ⟨(E1 k).num, (E1 k).cnt, (z : Int), ⟨#[122, 122]⟩⟩
              clear h0 h1 h2 h3 hrow
              go_wp2_with fail
              go_region_law (first
                | (refine appV (M := fun _ => ⟨(E1 k).num, (E1 k).cnt, (z : Int), ⟨#[122, 122]⟩⟩) (m := 1) (by rfl) (.tmp 67) (.tmp 80) (by rfl) (by exact HG.out.alloc _) (by exact HC.out _) (by omega) (by omega) (by rfl) (by rfl) ?_
                   intro v6 w6 hA6 hg6)
                | (go_simp
                   go_at_call 22
                   refine (HTS.out _).mono ?_
                   rintro e w9 ⟨rfl, rfl⟩))
              all_goals
                obtain ⟨b6, c6, rfl, ho6, hf6, hgr6, hrd6⟩ := HV.out.turn HL.out (Nat.le_refl _) hA6 (few_cat (fun i hi => HV.out.few i hi) (fun i hi => hfz))
                have HF : Hid _ := And.intro ho6 (And.intro hf6 (And.intro hgr6 hrd6))
                clear ho6 hf6 hgr6 hrd6 hA6 hg6 d0 d1 HG HC HTS
                go_wp2
                go_ret
                exact ⟨n + 1, c6, b6, _, q + 1 + 1 + 1, rfl, by omega, HF.out.1, fun i hi => (HF.out.2.1 i hi).small, HF.out.2.2.1, HF.out.2.2.2, by have := HQ.out; omega⟩
            · have y3 : (y == 3) = false := beq_eq_false_iff_ne.2 h3
              clear h0 h1 h2 h3
              go_wp2
              go_ret
              exact ⟨n, c1, _, E1, q + 1 + 1 + 1, rfl, by omega, HV.out.own, fun i hi => (HV.out.few i hi).small, HV.out.gr, HV.out.rd, by have := HQ.out; omega⟩
end Go.Proofs.YtjlldefajgmelaaDoor
