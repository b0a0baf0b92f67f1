/-
  What the draw of a text to be read gives: some text of at most 60 bytes; nothing that was there turns.
-/
import Derived.Test.YtgijhkcnbmcenaaDraw1
import Derived.Test.YtgijhkcnbmcenaaText
import Derived.Deep.RegionWith
namespace Go.Proofs.Ytgijhkcnbmcenaa
open Go.RowKit
set_option linter.unusedVariables false

theorem IsRd.drew {W : World} {r : Nat} {a : Option Addr} {len cap : Nat} {zs : Nat → Int} {p : Nat} (h : IsRd W r a len cap zs p) : IsRd W.drew r a len cap zs p := h.kept fun _ _ => rfl

def torn6 : List ByteArray := [⟨#[]⟩, ⟨#[47]⟩, ⟨#[97]⟩, ⟨#[47, 47]⟩, ⟨#[65]⟩, ⟨#[47, 98]⟩]

theorem dtext_len {n : Nat} {S : Nat → ByteArray} : (textOf n S).length ≤ 25 := by
  unfold textOf
  split
  · rename_i h
    have hn : namesOk n S = true := by unfold pathOk at h; simp at h; exact h.1
    have h5 : n ≤ 5 := by unfold pathOk at h; simp at h; exact h.2
    unfold pathText
    split
    · simp
    · have := joinTo_len hn n (Nat.le_refl _); omega
  · simp

theorem slice_end (t : List UInt8) (k z : Nat) (h : k + z ≤ t.length) (wx : World) : (Instr.slice 9 (.string ⟨t.toArray⟩) (some (.int .i64 ((k : Int) + (z : Int)))) none none).run Try.prog wx = .ok (.string ((⟨t.toArray⟩ : ByteArray).extract (k + z) t.length)) wx := by
  have hs : ((⟨t.toArray⟩ : ByteArray).size : Int) = (t.length : Int) := by show ((t.toArray.size : Nat) : Int) = _; rw [List.size_toArray]
  have h1 := run_slice_string_l (P := Try.prog) (t := 9) (s := ⟨t.toArray⟩) (w := wx) Try.underlying9 .i64 ((k : Int) + (z : Int)) (by omega) (by rw [hs]; omega)
  rw [h1]
  have e1 : ((k : Int) + (z : Int)).toNat = k + z := by omega
  have e2 : (⟨t.toArray⟩ : ByteArray).size = t.length := by show t.toArray.size = _; rw [List.size_toArray]
  rw [e1, e2]

set_option maxHeartbeats 4000000 in
theorem drawPathRead_any (w : World) (a : Option Addr) (len cap : Nat) (zs : Nat → Int) (hc : IsCode w a len zs) (hlen : len ≤ maxLen) (hcap : len ≤ cap) :
    Calls Try.prog 15 #[.slice a len cap] w fun e w' => ∃ s : ByteArray, e = .returned (.string s) ∧ s.size ≤ 60 ∧ Below w.heap.size w w' := by
  go_enter Try.func15, Try.ntmps15
  go_wp2_with fail
  refine (l11Open_any w a len cap zs hlen hcap hc).mono ?_
  rintro e w1 ⟨rfl, hb1, len', hR⟩
  have HL : Hid (w.heap.size < w1.heap.size) := hR.lt
  go_wp2_with fail
  refine (l1Bent_any _ w.heap.size a len' cap zs 0 hR (by omega)).mono ?_
  rintro e w2 ⟨v, L, q, rfl, hO, h9, h5, hg, hR2, hq⟩
  have hB2 : Below w.heap.size w w2 := below_grown hb1 (Nat.le_refl _) hg
  obtain ⟨g, c, rfl, hD⟩ := hO.drawn h9 h5
  clear hO hg hR hb1 hc
  go_wp2_with fail
  refine (specPathText_any _ L.length c (fun i => L.getD i ByteArray.empty) _ hD.strs hD.small hD.len).mono ?_
  rintro e w3 ⟨rfl, hw3⟩
  subst hw3
  have lX : (textOf L.length (fun i => L.getD i ByteArray.empty)).length ≤ 25 := dtext_len
  generalize textOf L.length (fun i => L.getD i ByteArray.empty) = t at lX ⊢
  clear hD h9 h5
  by_cases h0 : t.length = 0
  · have h0b : ((t.length : Int) == 0) = true := by rw [beq_iff_eq]; omega
    have HB : Hid _ := hB2
    have HT : Hid (t.length = 0) := h0
    clear hB2 hR2 h0
    go_wp2
    go_ret
    exact ⟨_, rfl, by show t.toArray.size ≤ 60; rw [List.size_toArray]; omega, HB.out⟩
  · have h0b : ((t.length : Int) == 0) = false := by rw [beq_eq_false_iff_ne]; omega
    go_wp2_with fail
    refine (pick_any _ w.heap.size a len' cap zs q 2 hR2 (by omega) (by omega) (by omega)).mono ?_
    rintro e w4 ⟨x, rfl, hx0, hx1, hg4, hR4⟩
    have hB4 : Below w.heap.size w w4 := below_grown hB2 (Nat.le_refl _) hg4
    clear hB2 hR2 hg4
    by_cases hx : x = 0
    · subst hx
      have HB : Hid _ := hB4
      clear hB4 hR4
      go_wp2
      go_ret
      exact ⟨_, rfl, by show t.toArray.size ≤ 60; rw [List.size_toArray]; omega, HB.out⟩
    · have hxb : (x == 0) = false := by simp; exact hx
      go_wp2_with fail
      refine (pick_any _ w.heap.size a len' cap zs (q + 1) t.length hR4 (by omega) (by omega) (by omega)).mono ?_
      rintro e w5 ⟨y, rfl, hy0, hy1, hg5, hR5⟩
      have hB5 : Below w.heap.size w w5 := below_grown hB4 (Nat.le_refl _) hg5
      obtain ⟨k, rfl⟩ := Int.eq_ofNat_of_zero_le hy0
      have hkt : k < t.length := by omega
      clear hB4 hR4 hg5 hy0
      have H6 : Hid (∀ i, i < 6 → (w5.alloc (.cells #[.string ⟨#[]⟩, .string ⟨#[47]⟩, .string ⟨#[97]⟩, .string ⟨#[47, 47]⟩, .string ⟨#[65]⟩, .string ⟨#[47, 98]⟩] 9)).drew.cell? ⟨w5.heap.size, 0 + i, none⟩ = some (.string (torn6.getD i ByteArray.empty))) := new_strs w5 torn6
      have HR5 : Hid (IsRd w5 w.heap.size a len' cap zs (q + 1 + 1)) := hR5
      have HB5 : Hid (Below w.heap.size w w5) := hB5
      have HLT : Hid (w.heap.size < w5.heap.size) := hR5.lt
      clear hR5 hB5
      have hts : (⟨t.toArray⟩ : ByteArray).size = t.length := by show t.toArray.size = _; rw [List.size_toArray]
      have hex : ∀ x y, ((⟨t.toArray⟩ : ByteArray).extract x y).size ≤ 25 := fun x y => by rw [ByteArray.size_extract, hts]; omega
      clear hts
      have hex1 := hex 0 k
      have HEX : Hid _ := hex
      clear hex
      go_wp2
      go_region_with (first
        | (go_at_call 31; refine (of_any _ w.heap.size a len' cap zs (q + 1 + 1) (IsRd.drew (HR5.out.alloc _)) (by omega) w5.heap.size 0 6 6 (fun i => torn6.getD i ByteArray.empty) (by have := HLT.out; omega) (by omega) (by omega) H6.out).mono ?_; rintro e w6 ⟨i, hi6, he, hg6, hR6⟩; obtain ⟨s6, hs6, he6⟩ : ∃ s6 : ByteArray, s6.size ≤ 2 ∧ e = .returned (.string s6) := ⟨_, getD_size rfl i, he⟩; clear he; subst he6)
        | (go_at_call 30; refine (pick_any _ w.heap.size a len' cap zs (q + 1 + 1 + 1) 2 (by assumption) (by omega) (by omega) (by omega)).mono ?_; rintro e w7 ⟨z, rfl, hz0, hz1, hg7, hR7⟩; obtain ⟨z', rfl⟩ := Int.eq_ofNat_of_zero_le hz0; have hkz : (k : Int) + (z' : Int) ≤ (t.length : Int) := (by omega); have hkz2 : k + z' ≤ t.length := (by omega); have hkz3 : (0 : Int) ≤ (k : Int) + (z' : Int) := (by omega); have hwr := wrap_i64 ((k : Int) + (z' : Int)) (by omega) (by omega); have hsl := slice_end t k z' hkz2; have hex2 := HEX.out (k + z') t.length))
      all_goals
        have HF : Hid (Below w.heap.size w w7) := below_grown (below_grown ((HB5.out.alloc (Nat.le_of_lt HLT.out) _).drew) (Nat.le_refl _) hg6) (Nat.le_refl _) hg7
        have HSZ : Hid (((⟨t.toArray⟩ : ByteArray).extract 0 k ++ s6 ++ (⟨t.toArray⟩ : ByteArray).extract (k + z') t.length).size ≤ 60) := by
          show _ ≤ 60
          rw [ByteArray.size_append, ByteArray.size_append]
          omega
        clear hg6 hg7 hR6 hR7 HR5 HB5 H6
        go_wp2
        go_ret
        exact ⟨_, rfl, HSZ.out, HF.out⟩
end Go.Proofs.Ytgijhkcnbmcenaa
