/-
  The sum of a text with a byte turned is another one.
-/
import Derived.Test.YtjlldefajgmelaaDoorSumMath
import Derived.Test.YtjlldefajgmelaaDoorRd
import Derived.Lib.ConvBytes
import Derived.Laws.IdiomStrings
namespace Go.Proofs.YtjlldefajgmelaaDoor
open Go.RowKit
set_option linter.unusedVariables false

theorem sumStep_inj {n m : Nat} (hn : n < 9973) (hm : m < 9973) (b : UInt8) (h : n ≠ m) : sumStep n b ≠ sumStep m b := by
  unfold sumStep
  generalize b.toNat = c
  omega

theorem sumStep_other {n : Nat} {b c : UInt8} (h : b ≠ c) : sumStep n b ≠ sumStep n c := by
  have h1 : b.toNat ≠ c.toNat := fun e => h (UInt8.toNat_inj.1 e)
  have h2 := UInt8.toNat_lt b
  have h3 := UInt8.toNat_lt c
  unfold sumStep
  omega

theorem foldl_inj : ∀ (l : List UInt8) {n m : Nat}, n < 9973 → m < 9973 → n ≠ m → l.foldl sumStep n ≠ l.foldl sumStep m
  | [], n, m, _, _, h => h
  | b :: l, n, m, hn, hm, h => by
    rw [List.foldl_cons, List.foldl_cons]
    exact foldl_inj l (sumStep_lt n b) (sumStep_lt m b) (sumStep_inj hn hm b h)

theorem sumOf_set (l : List UInt8) (k : Nat) (hk : k < l.length) (c : UInt8) (h : l[k] ≠ c) : sumOf (l.set k c) ≠ sumOf l := by
  have e1 : l = l.take k ++ l[k] :: l.drop (k + 1) := by rw [List.getElem_cons_drop, List.take_append_drop]
  have e2 : l.set k c = l.take k ++ c :: l.drop (k + 1) := by rw [List.set_eq_take_append_cons_drop, if_pos hk]
  rw [e2]
  conv => rhs; rw [e1]
  rw [sumOf_append, sumOf_append, List.foldl_cons, List.foldl_cons]
  exact foldl_inj _ (sumStep_lt _ _) (sumStep_lt _ _) (sumStep_other (Ne.symm h))

theorem sumB_append (s t : ByteArray) : sumB (s ++ t) = t.data.toList.foldl sumStep (sumB s) := by
  unfold sumB
  rw [show (s ++ t).data.toList = s.data.toList ++ t.data.toList from by simp, sumOf_append]

theorem fold_take (t : ByteArray) (n k : Nat) (h : k < t.size) : (t.data.toList.take (k + 1)).foldl sumStep n = ((t.data.toList.take k).foldl sumStep n * 31 + (t[k]).toNat + 1) % 9973 := by
  rw [take_snoc t k h, List.foldl_append]; rfl

theorem xor_u8 (x : UInt8) (c : Nat) (hc : c < 256) : bits .xor .u8 (x.toNat : Int) (c : Int) = ((x ^^^ UInt8.ofNat c).toNat : Int) := by
  have hx := UInt8.toNat_lt x
  have h1 : (BitVec.ofInt 8 (x.toNat : Int)).toNat = x.toNat := by
    rw [BitVec.ofInt_natCast, BitVec.toNat_ofNat]; exact Nat.mod_eq_of_lt (by omega)
  have h2 : (BitVec.ofInt 8 (c : Int)).toNat = c := by
    rw [BitVec.ofInt_natCast, BitVec.toNat_ofNat]; exact Nat.mod_eq_of_lt (by omega)
  have h3 : x.toNat ^^^ c < 2 ^ 8 := Nat.xor_lt_two_pow (by omega) (by omega)
  show IntKind.u8.wrap ((BitVec.ofInt 8 (x.toNat : Int) ^^^ BitVec.ofInt 8 (c : Int)).toNat : Int) = _
  rw [BitVec.toNat_xor, h1, h2, UInt8.toNat_xor, UInt8.toNat_ofNat', Nat.mod_eq_of_lt hc]
  simp [IntKind.wrap, IntKind.bits, IntKind.signed]
  omega

theorem xor_ne (x y : UInt8) (hy : y ≠ 0) : x ≠ x ^^^ y := by
  intro h
  apply hy
  have := congrArg (x ^^^ ·) h
  simp only [← UInt8.xor_assoc, UInt8.xor_self, UInt8.zero_xor] at this
  exact this.symm
end Go.Proofs.YtjlldefajgmelaaDoor
