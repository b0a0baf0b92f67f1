/-
  What pick, of and l11Open do: the reader of a code gives, at each call, some number below the one it is asked for, and turns nothing but its own place.
-/
import Derived.Test.YtjlldefajgmelaaDoorOwns
namespace Go.Proofs.YtjlldefajgmelaaDoor
open Go.RowKit
set_option linter.unusedVariables false

/-- Block r is a reader of a code of len bytes, at place p. -/
structure IsRd (W : World) (r : Nat) (a : Option Addr) (len cap : Nat) (zs : Nat → Int) (p : Nat) : Prop where
  blk : W.heap[r]? = some (.cells #[.slice a len cap, .int .i64 p] 52 (0, 0))
  few : len ≤ 2000
  code : len = 0 ∨ ∃ b off, a = some ⟨b, off, none⟩ ∧ b < r ∧ ∀ i, i < len → W.cell? ⟨b, off + i, none⟩ = some (.int .u8 (zs i)) ∧ 0 ≤ zs i ∧ zs i ≤ 255

theorem IsRd.c0 {W : World} {r : Nat} {a : Option Addr} {len cap : Nat} {zs : Nat → Int} {p : Nat} (h : IsRd W r a len cap zs p) : W.cell? ⟨r, 0, none⟩ = some (.slice a len cap) := by
  simp [World.cell?, h.blk]
theorem IsRd.c1 {W : World} {r : Nat} {a : Option Addr} {len cap : Nat} {zs : Nat → Int} {p : Nat} (h : IsRd W r a len cap zs p) : W.cell? ⟨r, 1, none⟩ = some (.int .i64 p) := by
  simp [World.cell?, h.blk]
theorem IsRd.fz {W : World} {r : Nat} {a : Option Addr} {len cap : Nat} {zs : Nat → Int} {p : Nat} (h : IsRd W r a len cap zs p) (i : Nat) : W.frozen? ⟨r, i, none⟩ = false := by
  simp [World.frozen?, h.blk]
theorem IsRd.lt {W : World} {r : Nat} {a : Option Addr} {len cap : Nat} {zs : Nat → Int} {p : Nat} (h : IsRd W r a len cap zs p) : r < W.heap.size := by
  obtain ⟨hlt, _⟩ := Array.getElem?_eq_some_iff.1 h.blk
  exact hlt

theorem IsRd.kept {W W' : World} {r : Nat} {a : Option Addr} {len cap : Nat} {zs : Nat → Int} {p : Nat} (h : IsRd W r a len cap zs p) (hb : ∀ k, k ≤ r → W'.heap[k]? = W.heap[k]?) : IsRd W' r a len cap zs p := by
  refine ⟨(hb r (Nat.le_refl _)).trans h.blk, h.few, ?_⟩
  rcases h.code with h0 | ⟨b, off, ha, hlt, hc⟩
  · exact Or.inl h0
  · exact Or.inr ⟨b, off, ha, hlt, fun i hi => ⟨(World.cell?_of_block (a := ⟨b, off + i, none⟩) (hb b (by omega))).trans (hc i hi).1, (hc i hi).2⟩⟩

/-- Behind the store into the reader's place. -/
theorem IsRd.next {W : World} {r : Nat} {a : Option Addr} {len cap : Nat} {zs : Nat → Int} {p : Nat} (h : IsRd W r a len cap zs p) : IsRd (W.setCell ⟨r, 1, none⟩ (.int .i64 ((p : Int) + 1))) r a len cap zs (p + 1) := by
  refine ⟨?_, h.few, ?_⟩
  · simp [World.setCell, Array.getElem?_modify, h.blk]
  · rcases h.code with h0 | ⟨b, off, ha, hlt, hc⟩
    · exact Or.inl h0
    · exact Or.inr ⟨b, off, ha, hlt, fun i hi => ⟨(World.cell?_of_block (a := ⟨b, off + i, none⟩) (Below.heap_setCell _ _ _ _ (by show b ≠ r; omega))).trans (hc i hi).1, (hc i hi).2⟩⟩

theorem grown_set (w : World) (r o : Nat) (v : Value) (q : Nat) : w.grownBy ((w.setCell ⟨r, o, none⟩ v).drewN q) (some r) :=
  ⟨rfl, rfl, rfl, by simp [World.setCell], fun k hk hne => Below.heap_setCell w ⟨r, o, none⟩ v k (fun e => hne (by rw [e]))⟩

theorem IsRd.drewN {W : World} {r : Nat} {a : Option Addr} {len cap : Nat} {zs : Nat → Int} {p : Nat} (h : IsRd W r a len cap zs p) (q : Nat) : IsRd (W.drewN q) r a len cap zs p :=
  h.kept fun _ _ => rfl

theorem ret_i64 {a b : Int} (h : a = b) : Ending.returned (.int .i64 a) = .returned (.int .i64 b) := by rw [h]

theorem wrap_i64 (n : Int) (h0 : 0 ≤ n) (h1 : n < 9223372036854775808) : IntKind.i64.wrap n = n := by
  simp [IntKind.wrap, IntKind.bits, IntKind.signed]; omega

theorem xor_i64 (a b : Nat) (ha : a < 1152921504606846976) (hb : b < 1152921504606846976) : bits .xor .i64 (a : Int) (b : Int) = ((a ^^^ b : Nat) : Int) := by
  have hx : a ^^^ b < 2 ^ 60 := Nat.xor_lt_two_pow (by omega) (by omega)
  have h1 : (BitVec.ofInt 64 (a : Int)).toNat = a := by
    rw [BitVec.ofInt_natCast, BitVec.toNat_ofNat]; exact Nat.mod_eq_of_lt (by omega)
  have h2 : (BitVec.ofInt 64 (b : Int)).toNat = b := by
    rw [BitVec.ofInt_natCast, BitVec.toNat_ofNat]; exact Nat.mod_eq_of_lt (by omega)
  show IntKind.i64.wrap ((BitVec.ofInt 64 (a : Int) ^^^ BitVec.ofInt 64 (b : Int)).toNat : Int) = _
  rw [BitVec.toNat_xor, h1, h2, wrap_i64 _ (by omega) (by omega)]

/-- What is drawn behind the code's end is no less than 0. -/
theorem mix_nonneg (X : Int) (h0 : 0 ≤ X) (h1 : X < 1152921504606846976) : 0 ≤ bits .xor .i64 X (X / 64) := by
  obtain ⟨x, rfl⟩ := Int.eq_ofNat_of_zero_le h0
  have e : ((x : Int) / 64) = ((x / 64 : Nat) : Int) := by omega
  rw [e, xor_i64 x (x / 64) (by omega) (by omega)]
  omega

set_option maxHeartbeats 1000000 in
theorem pick_any (w : World) (r : Nat) (a : Option Addr) (len cap : Nat) (zs : Nat → Int) (p : Nat) (n : Int) (hR : IsRd w r a len cap zs p) (hp : p ≤ 1000000) (h1 : 1 ≤ n) (h2 : n ≤ 1000000) :
    Calls Tryd.prog 23 #[.pointer (some ⟨r, 0, none⟩), .int .i64 n] w fun e w' => ∃ x : Int, e = .returned (.int .i64 x) ∧ 0 ≤ x ∧ x < n ∧ w.grownBy w' (some r) ∧ IsRd w' r a len cap zs (p + 1) := by
  have c0 := hR.c0
  have c1 := hR.c1
  have fz := hR.fz
  have hf := hR.few
  have N0 := hR.next.c0
  have N1 := hR.next.c1
  have HN : Hid _ := hR.next
  have hn1 : decide (n < 1) = false := by simp; omega
  by_cases h0 : len = 0
  · subst h0
    clear hR
    go_enter Tryd.func23, Tryd.ntmps23
    go_wp2
    go_ret
    exact ⟨0, rfl, by omega, by omega, grown_set w r 1 _ 0, HN.out⟩
  · obtain ⟨b, off, rfl, hlt, hc⟩ := hR.code.resolve_left h0
    have hne : ((len : Int) == 0) = false := by simp; omega
    have NC : ∀ i, i < len → (w.setCell ⟨r, 1, none⟩ (.int .i64 ((p : Int) + 1))).cell? ⟨b, off + i, none⟩ = some (.int .u8 (zs i)) := fun i hi =>
      (World.cell?_of_block (a := ⟨b, off + i, none⟩) (Below.heap_setCell _ _ _ _ (by show b ≠ r; omega))).trans (hc i hi).1
    clear hR
    by_cases hpl : p < len
    · have hcp := NC p hpl
      have hz := (hc p hpl).2
      have hpl' : (p : Int) < (len : Int) := by omega
      clear NC hc
      go_enter Tryd.func23, Tryd.ntmps23
      go_wp2
      go_ret
      refine ⟨_, rfl, ?_, ?_, grown_set w r 1 _ 0, HN.out⟩
      · exact Int.emod_nonneg _ (by omega)
      · exact Int.emod_lt_of_pos _ (by omega)
    · have hd : decide ((p : Int) < (len : Int)) = false := by simp; omega
      have hlp : 0 < len := by omega
      have i1 : p % len < len := Nat.mod_lt _ hlp
      have i2 : (p * 7 + 3) % len < len := Nat.mod_lt _ hlp
      have e1 : ((p : Int) % (len : Int)).toNat = p % len := by omega
      have e2 : (((p : Int) * 7 + 3) % (len : Int)).toNat = (p * 7 + 3) % len := by rw [show ((p : Int) * 7 + 3) = ((p * 7 + 3 : Nat) : Int) from by omega, ← Int.natCast_emod, Int.toNat_natCast]
      have a1 := NC _ i1
      have a2 := NC _ i2
      have z1 := (hc _ i1).2
      have z2 := (hc _ i2).2
      have a3 := a2
      rw [← e2] at a3
      have b1 : 0 ≤ (p : Int) % (len : Int) := Int.emod_nonneg _ (by omega)
      have b2 : (p : Int) % (len : Int) < (len : Int) := Int.emod_lt_of_pos _ (by omega)
      have b3 : 0 ≤ ((p : Int) * 7 + 3) % (len : Int) := Int.emod_nonneg _ (by omega)
      have b4 : ((p : Int) * 7 + 3) % (len : Int) < (len : Int) := Int.emod_lt_of_pos _ (by omega)
      have d1 : 0 ≤ (p : Int) / (len : Int) := Int.ediv_nonneg (by omega) (by omega)
      have d2 : (p : Int) / (len : Int) ≤ 1000000 := by
        have : (p : Int) / (len : Int) ≤ p := Int.ediv_le_self _ (by omega)
        omega
      clear NC hc i1 i2 e1 e2
      go_enter Tryd.func23, Tryd.ntmps23
      go_wp2
      go_quiet (fail)
      go_wp2
      go_ret
      refine ⟨_, rfl, ?_, ?_, grown_set w r 1 _ nq, HN.out.drewN nq⟩
      · exact Int.tmod_nonneg _ (mix_nonneg _ (by omega) (by omega))
      · exact Int.tmod_lt_of_pos _ (by omega)

set_option maxHeartbeats 400000 in
theorem of_any (w : World) (r : Nat) (a : Option Addr) (len cap : Nat) (zs : Nat → Int) (p : Nat) (hR : IsRd w r a len cap zs p) (hp : p ≤ 1000000)
    (b off m c : Nat) (S : Nat → ByteArray) (hb : b ≠ r) (hm : 1 ≤ m) (hm2 : m ≤ 1000) (hc : ∀ i, i < m → w.cell? ⟨b, off + i, none⟩ = some (.string (S i))) :
    Calls Tryd.prog 24 #[.pointer (some ⟨r, 0, none⟩), .slice (some ⟨b, off, none⟩) m c] w fun e w' => ∃ i, i < m ∧ e = .returned (.string (S i)) ∧ w.grownBy w' (some r) ∧ IsRd w' r a len cap zs (p + 1) := by
  go_enter Tryd.func24, Tryd.ntmps24
  go_wp2_with fail
  refine (pick_any w r a len cap zs p m hR hp (by omega) (by omega)).mono ?_
  rintro e w1 ⟨x, rfl, hx0, hx1, hg, hR1⟩
  obtain ⟨i, rfl⟩ := Int.eq_ofNat_of_zero_le hx0
  have hi : i < m := by omega
  have hci : w1.cell? ⟨b, off + i, none⟩ = some (.string (S i)) := hg.cell (hc i hi) (by simp; exact hb)
  have HG : Hid (w.grownBy w1 (some r)) := hg
  have HR : Hid (IsRd w1 r a len cap zs (p + 1)) := hR1
  clear hc hg hR1 hR
  go_wp2
  go_ret
  exact ⟨i, hi, rfl, HG.out, HR.out⟩

theorem u8_bounds {n : Int} (h : (Lit.int .u8 n).wf = true) : 0 ≤ n ∧ n ≤ 255 := by
  simpa [Lit.wf, IntKind.min, IntKind.max, IntKind.signed, IntKind.bits] using h

set_option maxHeartbeats 400000 in
/-- The reader of a code: the code's first 2000 bytes, from place 0 on. -/
theorem l11Open_any (w : World) (a : Option Addr) (len cap : Nat) (zs : Nat → Int) (hlen : len ≤ maxLen) (hcap : len ≤ cap)
    (hcode : len = 0 ∨ ∃ b off, a = some ⟨b, off, none⟩ ∧ b < w.heap.size ∧ ∀ i, i < len → w.cell? ⟨b, off + i, none⟩ = some (.int .u8 (zs i)) ∧ 0 ≤ zs i ∧ zs i ≤ 255) :
    Calls Tryd.prog 17 #[.slice a len cap] w fun e w' => e = .returned (.pointer (some ⟨w.heap.size, 0, none⟩)) ∧ Below w.heap.size w w' ∧ ∃ len', IsRd w' w.heap.size a len' cap zs 0 := by
  unfold maxLen at hlen
  have HC : Hid _ := hcode
  clear hcode
  have key : ∀ l, l ≤ len → l ≤ 2000 → IsRd (w.alloc (.cells #[.slice a l cap, .int .i64 0] 52)) w.heap.size a l cap zs 0 := fun l hl hl2 => by
    refine ⟨new_block _ _, hl2, ?_⟩
    rcases HC.out with h | ⟨b, off, ha, hb, hc⟩
    · exact Or.inl (by omega)
    · exact Or.inr ⟨b, off, ha, hb, fun i hi => ⟨(World.cell?_of_block (a := ⟨b, off + i, none⟩) (Below.heap_alloc _ _ b hb)).trans (hc i (by omega)).1, (hc i (by omega)).2⟩⟩
  have HK : Hid _ := key
  clear key
  by_cases h : (2000 : Int) < len
  · go_enter Tryd.func17, Tryd.ntmps17
    go_wp2
    go_ret
    exact ⟨rfl, (Below.refl _ _).alloc (Nat.le_refl _) _, 2000, HK.out 2000 (by omega) (by omega)⟩
  · go_enter Tryd.func17, Tryd.ntmps17
    go_wp2
    go_ret
    exact ⟨rfl, (Below.refl _ _).alloc (Nat.le_refl _) _, len, HK.out len (by omega) (by omega)⟩
end Go.Proofs.YtjlldefajgmelaaDoor
