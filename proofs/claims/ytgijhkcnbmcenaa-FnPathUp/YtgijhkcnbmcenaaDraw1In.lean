/-
  What the draw of two ways gives: two lists of at most nine texts of at most five letters each, in new memory; nothing that was there turns.
-/
import Derived.Test.YtgijhkcnbmcenaaDraw1
namespace Go.Proofs.Ytgijhkcnbmcenaa
open Go.RowKit
set_option linter.unusedVariables false

theorem take_cells {w : World} {g : Nat} {L : List ByteArray} (hc : ∀ i, i < L.length → w.cell? ⟨g, 0 + i, none⟩ = some (.string (L.getD i ByteArray.empty))) (k : Nat) :
    ∀ j u, (strv (L.take k))[j]? = some u → w.cell? ((⟨g, 0, none⟩ : Addr).add j) = some u := by
  intro j u h
  rw [show (⟨g, 0, none⟩ : Addr).add j = ⟨g, 0 + j, none⟩ by unfold Addr.add; split <;> simp_all]
  have hj : j < (strv (L.take k)).length := by
    by_cases hh : j < (strv (L.take k)).length
    · exact hh
    · rw [List.getElem?_eq_none (by omega)] at h; cases h
  rw [strv_length, List.length_take] at hj
  rw [hc j (by omega), ← h]
  simp [strv, List.getElem?_take_of_lt (show j < k by omega), show j < L.length by omega]

theorem all_take {L : List ByteArray} {k m : Nat} (h : (L.all fun s => decide (s.size ≤ k)) = true) : ((L.take m).all fun s => decide (s.size ≤ k)) = true := by
  rw [List.all_eq_true] at *
  intro s hs
  exact h s (List.mem_of_mem_take hs)

set_option maxHeartbeats 1000000 in
theorem drawPathIn_any (w : World) (a : Option Addr) (len cap : Nat) (zs : Nat → Int) (hc : IsCode w a len zs) (hlen : len ≤ maxLen) (hcap : len ≤ cap) :
    Calls Try.prog 20 #[.slice a len cap] w fun e w' => ∃ g n c S g' m c' T, e = .returned (.tuple #[.slice (some ⟨g, 0, none⟩) n c, .slice (some ⟨g', 0, none⟩) m c']) ∧ Drawn w' g n c S ∧ Drawn w' g' m c' T ∧ Below w.heap.size w w' := by
  obtain ⟨i0, hi, hz0, hz1, hz2⟩ := info_parts infoStr
  go_enter Try.func20, Try.ntmps20
  go_wp2_with fail
  refine (l11Open_any w a len cap zs hlen hcap hc).mono ?_
  rintro e w1 ⟨rfl, hb1, len', hR⟩
  have HL1 : Hid (w.heap.size < w1.heap.size) := hR.lt
  go_wp2_with fail
  refine (l1Bent_any _ w.heap.size a len' cap zs 0 hR (by omega)).mono ?_
  rintro e w2 ⟨v, L, q, rfl, hO, h9, h5, hg, hR2, hq⟩
  have HB2 : Hid (Below w.heap.size w w2) := below_grown hb1 (Nat.le_refl _) hg
  have HA : Hid ((L.all fun s => decide (s.size ≤ 5)) = true) := h5
  clear h5 hb1 hR hc
  go_wp2_with fail
  refine (pick_any _ w.heap.size a len' cap zs q 2 hR2 (by omega) (by omega) (by omega)).mono ?_
  rintro e w3 ⟨x, rfl, hx0, hx1, hg3, hR3⟩
  have hO3 : OwnsStrs w3 w1.heap.size v L := hO.grown hg3 HL1.out
  have HB3 : Hid (Below w.heap.size w w3) := below_grown HB2.out (Nat.le_refl _) hg3
  have hsz3 : w1.heap.size ≤ w3.heap.size := Nat.le_trans hg.size hg3.size
  have hlt3 := hR3.lt
  clear hO hg hg3 hR2 HB2
  obtain ⟨g, c, rfl, hgB, hglt, hcells, hLc, hcm⟩ := hO3.hands
  have HM : Hid (c ≤ maxLen) := hcm
  have HC : Hid (∀ i, i < L.length → w3.cell? ⟨g, 0 + i, none⟩ = some (.string (L.getD i ByteArray.empty))) := hcells
  unfold maxLen at hcm
  clear hO3 hcells
  by_cases hx : x = 0
  · subst hx
    go_wp2_with fail
    refine (pick_any _ w.heap.size a len' cap zs (q + 1) (L.length + 1) (hR3.alloc _) (by omega) (by omega) (by omega)).mono ?_
    rintro e w4 ⟨x, rfl, hy0, hy1, hg4, hR4⟩
    obtain ⟨k, rfl⟩ := Int.eq_ofNat_of_zero_le hy0
    have hkL : k ≤ L.length := by omega
    have hO4 : OwnsStrs w4 w3.heap.size (.slice (some ⟨w3.heap.size, 0, none⟩) 0 0) [] := (owns_empty w3).grown hg4 hlt3
    have hgg : w3.grownBy w4 (some w.heap.size) := grown_trans (grown_alloc w3 _ _) hg4
    have hc4 : ∀ i, i < L.length → w4.cell? ⟨g, 0 + i, none⟩ = some (.string (L.getD i ByteArray.empty)) := fun i hi => hgg.cell (HC.out i hi) (by have := HL1.out; simp; omega)
    have HC4 : Hid (∀ j u, (strv (L.take k))[j]? = some u → w4.cell? ((⟨g, 0, none⟩ : Addr).add j) = some u) := take_cells hc4 k
    have HC5 : Hid (∀ i, i < L.length → w4.cell? ⟨g, 0 + i, none⟩ = some (.string (L.getD i ByteArray.empty))) := hc4
    have HB4 : Hid (Below w.heap.size w w4) := below_grown HB3.out (Nat.le_refl _) hgg
    have hsz4 : w3.heap.size < w4.heap.size := by have := hg4.size; simp at this; omega
    have hkt : (strv (L.take k)).length = k * 1 := by rw [strv_length, List.length_take]; omega
    clear hc4 hgg hg4 HC hR3 HB3 hy0 hx0 hx1
    go_wp2_with (at_builtin; refine wpList_append_own _ rfl _ _ 23 rfl w3.heap.size 9 i0 (.string ByteArray.empty) 1 16 Try.underlying23 hi hz0 hz1 hz2 rfl (by decide) _ _ _ rfl hO4.1 ⟨g, 0, none⟩ k c (strv (L.take k)) rfl hkt HC4.out (strv_one _) ?c3 ?c4 ?c5 ?_)
    case c3 => unfold maxLen; simp; omega
    case c4 => simp; omega
    case c5 => omega
    intro v' w5 hown hgrow hnil
    have hO5 : OwnsStrs w5 w3.heap.size v' (L.take k) := by
      refine ⟨?_, hnil⟩
      rw [show (L.take k).length = k by rw [List.length_take]; omega]
      exact hown
    have HB5 : Hid (Below w.heap.size w w5) := HB4.out.grown hgrow HB4.out.size (fun j e => by simp [Value.ownBlock] at e; omega)
    have HD1 : Hid (Drawn w5 g L.length c (fun i => L.getD i ByteArray.empty)) :=
      ⟨Nat.lt_of_lt_of_le hglt (Nat.le_trans (Nat.le_of_lt hsz4) hgrow.size), fun i hi => hgrow.cell (HC5.out i hi) (by simp [Value.ownBlock]; omega), hLc, HM.out, h9, list_size HA.out⟩
    obtain ⟨g', c', rfl, hD⟩ := hO5.drawn (by rw [List.length_take]; omega) (all_take HA.out)
    have HD2 : Hid _ := hD
    clear hD hO5 hown hgrow hnil HC4 HC5 HB4 hO4 hR4
    go_wp2
    go_ret2
    exact ⟨g, _, c, _, g', _, c', _, rfl, HD1.out, HD2.out, HB5.out⟩
  · have hb0 : (x == 0) = false := by simp; exact hx
    go_wp2_with fail
    refine (l1Bent_any _ w.heap.size a len' cap zs (q + 1) hR3 (by omega)).mono ?_
    rintro e w4 ⟨v', M, q2, rfl, hO4, m9, m5, hg4, hR4, hq2⟩
    have HB4 : Hid (Below w.heap.size w w4) := below_grown HB3.out (Nat.le_refl _) hg4
    have HD1 : Hid (Drawn w4 g L.length c (fun i => L.getD i ByteArray.empty)) :=
      ⟨Nat.lt_of_lt_of_le hglt hg4.size, fun i hi => hg4.cell (HC.out i hi) (by have := HL1.out; simp; omega), hLc, HM.out, h9, list_size HA.out⟩
    obtain ⟨g', c', rfl, hD⟩ := hO4.drawn m9 m5
    have HD2 : Hid _ := hD
    clear hD hO4 hg4 hR4 HC HB3 hR3
    go_wp2
    go_ret2
    exact ⟨g, _, c, _, g', _, c', _, rfl, HD1.out, HD2.out, HB4.out⟩

theorem Drawn.drewN {w : World} {g n cap : Nat} {S : Nat → ByteArray} (h : Drawn w g n cap S) (q : Nat) : Drawn (w.drewN q) g n cap S := h.below (below_drewN (Below.refl _ _) q)
end Go.Proofs.Ytgijhkcnbmcenaa
