/-
  What l11Cut of the specification answers at every text of at most 1048576 bytes, cut at its spaces: its pieces, in new memory.
-/
import Derived.Test.YtjlldefajgmelaaDoorOwns
import Derived.Test.YtjlldefajgmelaaDoorCutSp
namespace Go.Proofs.YtjlldefajgmelaaDoor
open Go.RowKit
set_option linter.unusedVariables false

theorem take_drop_self (l : List UInt8) (k : Nat) : (l.take k).drop k = [] := List.drop_eq_nil_of_le (by rw [List.length_take]; omega)

set_option maxHeartbeats 1000000 in
theorem l11Cut_any (s : ByteArray) (w : World) (hs : s.size ≤ 1048576) :
    Calls Tryd.prog 26 #[.string s, .int .u8 32] w fun e w' => ∃ (v : Value) (L : List ByteArray), e = .returned v ∧ OwnsStrs w' w.heap.size v L ∧ L.map bytes = cut (bytes s) ∧ L.length ≤ s.size + 1 ∧ Below w.heap.size w w' := by
  obtain ⟨i0, hi, hz0, hz1, hz2⟩ := info_parts infoStr
  go_enter Tryd.func26, Tryd.ntmps26
  go_wp2
  go_loopw [5, 6, 7] (fun v f i wr => ∃ (k fr : Nat) (L : List ByteArray), i = .int .i64 k ∧ f = .int .i64 fr ∧ OwnsStrs wr w.heap.size v L ∧ Below w.heap.size w wr ∧ L.length ≤ k ∧
    ((k ≤ s.size ∧ fr ≤ k ∧ cst (s.data.toList.take k) = (L.map bytes, (s.data.toList.take k).drop fr)) ∨ (k = s.size + 1 ∧ L.map bytes = cut (bytes s)))) (fun _ _ i _ => s.size + 2 - (intOf i).toNat)
  case atStart => exact ⟨0, 0, [], rfl, rfl, owns_empty w, (Below.refl _ _).alloc (Nat.le_refl _) _, Nat.zero_le _, Or.inl ⟨Nat.zero_le _, Nat.le_refl _, rfl⟩⟩
  case round =>
    obtain ⟨k, fr, L, rfl, rfl, hO, hB, hLk, hst⟩ := hrel
    have hsz : w.heap.size ≤ wr.heap.size := hB.size
    rcases hst with ⟨hk, hfr, hc⟩ | ⟨hk, hc⟩
    · have HC : Hid (cst (s.data.toList.take k) = (L.map bytes, (s.data.toList.take k).drop fr)) := hc
      have HB : Hid (Below w.heap.size w wr) := hB
      have hki : (k : Int) ≤ (s.size : Int) := by omega
      clear hc hB
      by_cases hlt : k < s.size
      · have hke : ((k : Int) == (s.size : Int)) = false := by simp; omega
        cases hsl : ((s[k].toNat : Int) == 32)
        · have HO : Hid _ := hO
          clear hO
          go_wp2
          go_roundw
          case rel => exact ⟨k + 1, fr, L, by go_num, rfl, HO.out, HB.out, by omega, Or.inl ⟨by omega, by omega, cst_other hlt hfr (slash_not hsl) HC.out⟩⟩
          case measure => simp [intOf]; omega
        · go_wp2_with (at_builtin; refine wpList_append_own _ rfl _ _ 41 rfl w.heap.size 9 i0 (.string ByteArray.empty) 1 16 Tryd.underlying41 hi hz0 hz1 hz2 rfl (by decide) _ _ _ rfl (hO.alloc _).1 ⟨wr.heap.size, 0, none⟩ 1 1 (strv [s.extract fr k]) rfl rfl ?c1 ?c2 ?c3 ?c4 ?c5 ?_)
          case c1 => exact strv_cells wr [s.extract fr k]
          case c2 => exact strv_one _
          case c3 => unfold maxLen; omega
          case c4 => omega
          case c5 => simp; omega
          intro v' w1 hown hgrow hnil
          obtain ⟨hO1, hB1, _⟩ := own_append (HB.out.alloc hsz _) (by simp; omega) (hO.alloc _) rfl hown hgrow hnil
          have HO1 : Hid _ := hO1
          have HB1 : Hid _ := hB1
          clear hown hgrow hnil hO hO1 hB1
          go_wp2
          go_roundw
          case rel => exact ⟨k + 1, k + 1, L ++ [s.extract fr k], by go_num, by go_num, HO1.out, HB1.out, by rw [List.length_append]; simp; omega, Or.inl ⟨by omega, Nat.le_refl _, by rw [cst_slash hlt (slash_nat hsl) HC.out, take_drop_self, List.map_append, List.map_cons, List.map_nil, bytes_cut]⟩⟩
          case measure => simp [intOf]; omega
      · have hke : ((k : Int) == (s.size : Int)) = true := by simp; omega
        have HK : Hid (k = s.size) := show k = s.size by omega
        go_wp2_with (at_builtin; refine wpList_append_own _ rfl _ _ 41 rfl w.heap.size 9 i0 (.string ByteArray.empty) 1 16 Tryd.underlying41 hi hz0 hz1 hz2 rfl (by decide) _ _ _ rfl (hO.alloc _).1 ⟨wr.heap.size, 0, none⟩ 1 1 (strv [s.extract fr k]) rfl rfl ?d1 ?d2 ?d3 ?d4 ?d5 ?_)
        case d1 => exact strv_cells wr [s.extract fr k]
        case d2 => exact strv_one _
        case d3 => unfold maxLen; omega
        case d4 => omega
        case d5 => simp; omega
        intro v' w1 hown hgrow hnil
        obtain ⟨hO1, hB1, _⟩ := own_append (HB.out.alloc hsz _) (by simp; omega) (hO.alloc _) rfl hown hgrow hnil
        have HO1 : Hid _ := hO1
        have HB1 : Hid _ := hB1
        clear hown hgrow hnil hO hO1 hB1
        go_wp2
        go_roundw
        case rel => exact ⟨k + 1, k + 1, L ++ [s.extract fr k], by go_num, by go_num, HO1.out, HB1.out, by rw [List.length_append]; simp; omega, Or.inr ⟨by have := HK.out; omega, by
          have h := cut_whole HC.out (by have := HK.out; omega)
          show _ = cut s.data.toList
          rw [h, List.map_append, List.map_cons, List.map_nil, HK.out]⟩⟩
        case measure => simp [intOf]; omega
    · have hd : s.size < k := by omega
      have HO : Hid _ := hO
      have HB : Hid _ := hB
      have HC : Hid _ := hc
      have hL : L.length ≤ s.size + 1 := by omega
      have HK : Hid (k = s.size + 1) := hk
      clear hO hB hc hk hLk
      go_wp2
      go_ret
      exact ⟨_, L, rfl, HO.out, HC.out, hL, HB.out⟩
end Go.Proofs.YtjlldefajgmelaaDoor
