/-
  What the draw of a piece's text, perhaps torn, gives: some text of at most 1200 bytes; nothing that was there turns.
-/
import Derived.Test.YtjlldefajgmelaaDoorDrawVolT
import Derived.Test.YtjlldefajgmelaaDoorSpecVolText
import Derived.Deep.RegionWith
namespace Go.Proofs.YtjlldefajgmelaaDoor
open Go.RowKit
set_option linter.unusedVariables false

theorem IsRd.drew {W : World} {r : Nat} {a : Option Addr} {len cap : Nat} {zs : Nat → Int} {p : Nat} (h : IsRd W r a len cap zs p) : IsRd W.drew r a len cap zs p := h.kept fun _ _ => rfl

def torn6 : List ByteArray := [⟨#[]⟩, ⟨#[48]⟩, ⟨#[10]⟩, ⟨#[32]⟩, ⟨#[97]⟩, ⟨#[49]⟩]

theorem dec_len : ∀ (k m : Nat), m < 10 ^ (k + 1) → (Lib.decDigits m).length ≤ k + 1
  | 0, m, h => by rw [decDigits_last (by simpa using h)]; simp
  | k + 1, m, h => by
    by_cases h10 : m < 10
    · rw [decDigits_last h10]; simp
    · rw [decDigits_step h10, List.length_append]
      have := dec_len k (m / 10) (by rw [Nat.pow_succ] at h; omega)
      simp; omega

theorem dec20 {n : Nat} (h : n < 10000) : (decB n).size ≤ 20 := by
  have := dec_len 3 n (by simpa using h)
  show (Lib.decDigits n).toArray.size ≤ 20
  rw [List.size_toArray]; omega

theorem volT_size {v : Vo} (h : v.Tiny) : (volT v).size ≤ 400 := by
  unfold volT
  split
  · rename_i hok
    obtain ⟨h1, h2, h3, h4, h5, h6⟩ := voOk_iff.1 hok
    have hs : v.sum < 9973 := by rw [h6]; have := sumB_lt v.text; omega
    have d1 : (decB v.num.toNat).size ≤ 20 := dec20 (by omega)
    have d2 : (decB v.cnt.toNat).size ≤ 20 := dec20 (by omega)
    have d3 : (decB v.sum.toNat).size ≤ 20 := dec20 (by omega)
    have h7 := h.2.2.2
    have e1 : (⟨#[118, 111, 108, 32]⟩ : ByteArray).size = 4 := rfl
    have e2 : (⟨#[32]⟩ : ByteArray).size = 1 := rfl
    have e3 : (⟨#[10]⟩ : ByteArray).size = 1 := rfl
    rw [ByteArray.size_append, ByteArray.size_append, ByteArray.size_append, ByteArray.size_append, ByteArray.size_append, ByteArray.size_append, ByteArray.size_append, e1, e2, e3]
    omega
  · show (0 : Nat) ≤ 400; omega

theorem slice_end (t : List UInt8) (k z : Nat) (h : k + z ≤ t.length) (wx : World) : (Instr.slice 9 (.string ⟨t.toArray⟩) (some (.int .i64 ((k : Int) + (z : Int)))) none none).run Tryd.prog wx = .ok (.string ((⟨t.toArray⟩ : ByteArray).extract (k + z) t.length)) wx := by
  have hs : ((⟨t.toArray⟩ : ByteArray).size : Int) = (t.length : Int) := by show ((t.toArray.size : Nat) : Int) = _; rw [List.size_toArray]
  have h1 := run_slice_string_l (P := Tryd.prog) (t := 9) (s := ⟨t.toArray⟩) (w := wx) Tryd.underlying9 .i64 ((k : Int) + (z : Int)) (by omega) (by rw [hs]; omega)
  rw [h1]
  have e1 : ((k : Int) + (z : Int)).toNat = k + z := by omega
  have e2 : (⟨t.toArray⟩ : ByteArray).size = t.length := by show t.toArray.size = _; rw [List.size_toArray]
  rw [e1, e2]

set_option maxHeartbeats 4000000 in
theorem drawVolRead_any (w : World) (a : Option Addr) (len cap : Nat) (zs : Nat → Int) (hc : IsCode w a len zs) (hlen : len ≤ maxLen) (hcap : len ≤ cap) :
    Calls Tryd.prog 12 #[.slice a len cap] w fun e w' => ∃ s : ByteArray, e = .returned (.string s) ∧ s.size ≤ 1200 ∧ Below w.heap.size w w' := by
  go_enter Tryd.func12, Tryd.ntmps12
  go_wp2_with fail
  refine (l11Open_any w a len cap zs hlen hcap hc).mono ?_
  rintro e w1 ⟨rfl, hb1, len', hR⟩
  have HL : Hid (w.heap.size < w1.heap.size) := hR.lt
  go_wp2_with fail
  refine (l8Vol_any _ w.heap.size a len' cap zs 0 hR (by omega)).mono ?_
  rintro e w2 ⟨v, q, rfl, hv, hg, hR0, hq⟩
  unfold voV
  have hB0 : Below w.heap.size w w2 := below_grown hb1 (Nat.le_refl _) hg
  clear hg hR hb1 hc
  go_wp2_with fail
  refine (specVolText_any v w2 (by have := hv.2.2.2; unfold maxLen; omega)).mono ?_
  rintro e w3 ⟨hb3, rfl⟩
  have hR2 : IsRd w3 w.heap.size a len' cap zs q := hR0.kept fun k hk => hb3.block k (by have := hR0.lt; omega)
  have hB2 : Below w.heap.size w w3 := hB0.trans (hb3.mono hB0.size)
  have lX : (volT v).data.toList.length ≤ 400 := by have := volT_size hv; simpa using this
  obtain ⟨t, ht⟩ : ∃ t, t = (volT v).data.toList := ⟨_, rfl⟩
  have et : volT v = ⟨t.toArray⟩ := by rw [ht]
  rw [et]
  rw [← ht] at lX
  clear et ht hB0 hR0 hb3 hv
  by_cases h0 : t.length = 0
  · have h0b : ((t.length : Int) == 0) = true := by rw [beq_iff_eq]; omega
    have HB : Hid _ := hB2
    have HT : Hid (t.length = 0) := h0
    clear hB2 hR2 h0
    go_wp2
    go_ret
    exact ⟨_, rfl, by show t.toArray.size ≤ 1200; rw [List.size_toArray]; omega, HB.out⟩
  · have h0b : ((t.length : Int) == 0) = false := by rw [beq_eq_false_iff_ne]; omega
    go_wp2_with fail
    refine (pick_any _ w.heap.size a len' cap zs q 2 hR2 (by omega) (by omega) (by omega)).mono ?_
    rintro e w4 ⟨x, rfl, hx0, hx1, hg4, hR4⟩
    have hB4 : Below w.heap.size w w4 := below_grown hB2 (Nat.le_refl _) hg4
    clear hB2 hR2 hg4
    by_cases hx : x = 0
    · subst hx
      have HB : Hid _ := hB4
      clear hB4 hR4
      go_wp2
      go_ret
      exact ⟨_, rfl, by show t.toArray.size ≤ 1200; rw [List.size_toArray]; omega, HB.out⟩
    · have hxb : (x == 0) = false := by simp; exact hx
      go_wp2_with fail
      refine (pick_any _ w.heap.size a len' cap zs (q + 1) t.length hR4 (by omega) (by omega) (by omega)).mono ?_
      rintro e w5 ⟨y, rfl, hy0, hy1, hg5, hR5⟩
      have hB5 : Below w.heap.size w w5 := below_grown hB4 (Nat.le_refl _) hg5
      obtain ⟨k, rfl⟩ := Int.eq_ofNat_of_zero_le hy0
      have hkt : k < t.length := by omega
      clear hB4 hR4 hg5 hy0
      have H6 : Hid (∀ i, i < 6 → (w5.alloc (.cells #[.string ⟨#[]⟩, .string ⟨#[48]⟩, .string ⟨#[10]⟩, .string ⟨#[32]⟩, .string ⟨#[97]⟩, .string ⟨#[49]⟩] 9)).drew.cell? ⟨w5.heap.size, 0 + i, none⟩ = some (.string (torn6.getD i ByteArray.empty))) := new_strs w5 torn6
      have HR5 : Hid (IsRd w5 w.heap.size a len' cap zs (q + 1 + 1)) := hR5
      have HB5 : Hid (Below w.heap.size w w5) := hB5
      have HLT : Hid (w.heap.size < w5.heap.size) := hR5.lt
      clear hR5 hB5
      have hts : (⟨t.toArray⟩ : ByteArray).size = t.length := by show t.toArray.size = _; rw [List.size_toArray]
      have hex : ∀ x y, ((⟨t.toArray⟩ : ByteArray).extract x y).size ≤ 400 := fun x y => by rw [ByteArray.size_extract, hts]; omega
      clear hts
      have hex1 := hex 0 k
      have HEX : Hid _ := hex
      clear hex
      go_wp2
      go_region_with (first
        | (go_at_call 24; refine (of_any _ w.heap.size a len' cap zs (q + 1 + 1) (IsRd.drew (HR5.out.alloc _)) (by omega) w5.heap.size 0 6 6 (fun i => torn6.getD i ByteArray.empty) (by have := HLT.out; omega) (by omega) (by omega) H6.out).mono ?_; rintro e w6 ⟨i, hi6, he, hg6, hR6⟩; obtain ⟨s6, hs6, he6⟩ : ∃ s6 : ByteArray, s6.size ≤ 2 ∧ e = .returned (.string s6) := ⟨_, getD_size rfl i, he⟩; clear he; subst he6)
        | (go_at_call 23; refine (pick_any _ w.heap.size a len' cap zs (q + 1 + 1 + 1) 2 (by assumption) (by omega) (by omega) (by omega)).mono ?_; rintro e w7 ⟨z, rfl, hz0, hz1, hg7, hR7⟩; obtain ⟨z', rfl⟩ := Int.eq_ofNat_of_zero_le hz0; have hkz : (k : Int) + (z' : Int) ≤ (t.length : Int) := (by omega); have hkz2 : k + z' ≤ t.length := (by omega); have hkz3 : (0 : Int) ≤ (k : Int) + (z' : Int) := (by omega); have hwr := wrap_i64 ((k : Int) + (z' : Int)) (by omega) (by omega); have hsl := slice_end t k z' hkz2; have hex2 := HEX.out (k + z') t.length))
      all_goals
        have HF : Hid (Below w.heap.size w w7) := below_grown (below_grown ((HB5.out.alloc (Nat.le_of_lt HLT.out) _).drew) (Nat.le_refl _) hg6) (Nat.le_refl _) hg7
        have HSZ : Hid (((⟨t.toArray⟩ : ByteArray).extract 0 k ++ s6 ++ (⟨t.toArray⟩ : ByteArray).extract (k + z') t.length).size ≤ 1200) := by
          show _ ≤ 1200
          rw [ByteArray.size_append, ByteArray.size_append]
          omega
        clear hg6 hg7 hR6 hR7 HR5 HB5 H6
        go_wp2
        go_ret
        exact ⟨_, rfl, HSZ.out, HF.out⟩
end Go.Proofs.YtjlldefajgmelaaDoor
