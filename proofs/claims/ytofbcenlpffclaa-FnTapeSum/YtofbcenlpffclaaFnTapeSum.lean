/-
  For every two codes, FnTapeSum answers true: TapeSum of a drawn text is the document's and below 9973; that of two texts is made of that of the first one; that of nothing is 0; with one byte turned the sum is another. And the codes read afterwards as they read before. No condition.
-/
import Derived.Test.YtofbcenlpffclaaOpenCode
import Derived.Test.YtofbcenlpffclaaDrawTape
import Derived.Test.YtofbcenlpffclaaSpecSum
import Derived.Test.YtofbcenlpffclaaImplSum
import Derived.Test.YtofbcenlpffclaaSumMore
import Derived.Lib.SmallJoins
namespace Go.Proofs.Ytofbcenlpffclaa.fnTapeSum
open Go.ChangeShapes Go.WideShapes Go.ChangeAt Go.RowKit
set_option linter.unusedVariables false

theorem sum_empty : sumB ⟨#[]⟩ = 0 := rfl

theorem World.cell?_setCell_far' (U : World) (b k j : Nat) (v : Value) (h : k ≠ j) : (U.setCell ⟨b, k, none⟩ v).cell? ⟨b, j, none⟩ = U.cell? ⟨b, j, none⟩ := by
  refine World.cell?_setCell_other U _ _ v ?_
  intro e
  injection e with _ h2
  exact h h2

theorem bytes_frozen (W : World) (s : ByteArray) (j : Nat) (hj : j < s.size) : (Lib.bytesWorld W 5 s).frozen? ⟨W.heap.size, j, none⟩ = false := by
  have hsz : s.size ≤ (Lib.bytesCells W 5 s).size := by simp [Lib.bytesCells]
  simp [World.frozen?, Lib.bytesWorld_at_new]
  omega

theorem getD_byte (s : ByteArray) (k : Nat) (hk : k < s.size) : s.data.toList.getD k 0 = s[k] := by
  rw [List.getD_eq_getElem?_getD, List.getElem?_eq_getElem (by simpa using hk)]; rfl

/-- What the bytes of a text are in a new block, one of them turned. -/
theorem turned_cells {W : World} {s : ByteArray} {k : Nat} (hk : k < s.size) (j : Nat) (hj : j < (s.data.toList.set k (s[k] ^^^ 1)).length) :
    ((Lib.bytesWorld W 5 s).setCell ⟨W.heap.size, k, none⟩ (.int .u8 ((s[k] ^^^ 1).toNat : Int))).cell? ((⟨W.heap.size, 0, none⟩ : Addr).add j) = some (.int .u8 (((s.data.toList.set k (s[k] ^^^ 1))[j]).toNat : Int)) := by
  have hjs : j < s.size := by simpa using hj
  rw [add_plain, Nat.zero_add]
  have hb := Lib.bytesWorld_cell W 5 s
  by_cases e : j = k
  · subst e
    have h1 := hb j hjs
    have h2 := World.cell?_setCell_same (w := Lib.bytesWorld W 5 s) (a := ⟨W.heap.size, j, none⟩) (v := .int .u8 ((s[j] ^^^ 1).toNat : Int)) h1
    rw [h2]
    simp
  · rw [World.cell?_setCell_far' (Lib.bytesWorld W 5 s) W.heap.size k j _ (Ne.symm e), hb j hjs]
    simp [Ne.symm e, hjs]

theorem back_conv (W : World) (s : ByteArray) (k : Nat) (hk : k < s.size) (l2 : List UInt8) (hl2 : l2 = s.data.toList.set k (s[k] ^^^ 1)) :
    (convert 22 9 (.slice (some ⟨W.heap.size, 0, none⟩) s.size (grownCap W s.size 0 5))).run Try.prog ((Lib.bytesWorld W 5 s).setCell ⟨W.heap.size, k, none⟩ (.int .u8 ((s[k] ^^^ 1).toNat : Int))) = .ok (.string ⟨l2.toArray⟩) ((Lib.bytesWorld W 5 s).setCell ⟨W.heap.size, k, none⟩ (.int .u8 ((s[k] ^^^ 1).toNat : Int))) := by
  have h := run_convert_bytes_back (P := Try.prog) ((Lib.bytesWorld W 5 s).setCell ⟨W.heap.size, k, none⟩ (.int .u8 ((s[k] ^^^ 1).toNat : Int))) 22 9 5 ⟨W.heap.size, 0, none⟩ (grownCap W s.size 0 5) l2 Try.underlying22 Try.underlying5 Try.underlying9 (fun j hj => by
    subst hl2
    exact turned_cells hk j hj)
  have hlen : l2.length = s.size := by rw [hl2]; simp
  rwa [hlen] at h

set_option maxHeartbeats 4000000 in
theorem walk (a0 : Option Addr) (len0 cap0 : Nat) (zs0 : Nat → Int) (a1 : Option Addr) (len1 cap1 : Nat) (zs1 : Nat → Int) (w : World) (hc0 : IsCode w a0 len0 zs0) (hlen0 : len0 ≤ maxLen) (hcap0 : len0 ≤ cap0)
    (hc1 : IsCode w a1 len1 zs1) (hlen1 : len1 ≤ maxLen) (hcap1 : len1 ≤ cap1) :
    Calls Try.prog 3 #[.slice a0 len0 cap0, .slice a1 len1 cap1] w fun e w' => e = .returned (.bool true) ∧ Below w.heap.size w w' := by
  have l0 := hlen0
  have l1 := hlen1
  unfold maxLen at l0 l1
  by_cases hbig0 : (1048576 : Int) < len0
  · have hb : decide ((1048576 : Int) < len0) = true := by simp; omega
    go_enter Try.func3, Try.ntmps3
    go_wp2
    go_ret
    exact ⟨rfl, Below.refl _ _⟩
  · have hb0 : decide ((1048576 : Int) < len0) = false := by simp; omega
    by_cases hbig1 : (1048576 : Int) < len1
    · have hb : decide ((1048576 : Int) < len1) = true := by simp; omega
      go_enter Try.func3, Try.ntmps3
      go_wp2
      go_ret
      exact ⟨rfl, Below.refl _ _⟩
    · have hb1 : decide ((1048576 : Int) < len1) = false := by simp; omega
      go_enter Try.func3, Try.ntmps3
      go_wp2_with fail
      refine (drawTapeSum_any w a0 len0 cap0 zs0 hc0 hlen0 hcap0).mono ?_
      rintro e w1 ⟨s, rfl, hs, hB1⟩
      have hsm : s.size ≤ maxLen := by unfold maxLen; omega
      have hc1' : IsCode w1 a1 len1 zs1 := hc1.below hB1
      have HB1 : Hid (Below w.heap.size w w1) := hB1
      have hge1 : w.heap.size ≤ w1.heap.size := hB1.size
      clear hB1
      go_wp2_with fail
      refine (implTapeSum_any s w1 hsm).mono ?_
      rintro e w2 ⟨rfl, rfl⟩
      go_wp2_with fail
      refine (specTapeSum_any s w2 hsm).mono ?_
      rintro e w3 ⟨rfl, rfl⟩
      have hne : (((sumB s : Nat) : Int) != ((sumB s : Nat) : Int)) = false := by simp
      have hlt0 : decide (((sumB s : Nat) : Int) < 0) = false := by simp
      have hlt1 : decide ((9973 : Int) ≤ ((sumB s : Nat) : Int)) = false := by have := sumB_lt s; simp; omega
      go_wp2_with fail
      refine (drawTapeSum_any w3 a1 len1 cap1 zs1 hc1' hlen1 hcap1).mono ?_
      rintro e w4 ⟨t, rfl, ht, hB4⟩
      have HB4 : Hid (Below w.heap.size w w4) := HB1.out.trans (hB4.mono hge1)
      clear hB4 hc1' HB1 hge1 hc0 hc1
      have hsz4 : w.heap.size ≤ w4.heap.size := HB4.out.size
      go_wp2
      go_loopw [8, 9] (fun m i wr => ∃ k : Nat, k ≤ t.size ∧ i = .int .i64 k ∧ m = .int .i64 ((t.data.toList.take k).foldl sumStep (sumB s) : Nat) ∧ wr = w4) (fun _ i _ => t.size - (intOf i).toNat)
      case atStart => exact ⟨0, Nat.zero_le _, rfl, rfl, rfl⟩
      case round =>
        obtain ⟨k, hk, rfl, rfl, rfl⟩ := hrel
        by_cases hlt : k < t.size
        · have hst := fold_take t (sumB s) k hlt
          have hb := foldl_sum_lt (t.data.toList.take k) _ (sumB_lt s)
          have hc := UInt8.toNat_lt t[k]
          generalize (t.data.toList.take k).foldl sumStep (sumB s) = g at hst hb ⊢
          go_wp2
          go_roundw
          case rel => exact ⟨k + 1, by omega, by go_num, by rw [hst]; congr 1, by trivial⟩
          case measure => simp [intOf]; omega
        · have hfull : (t.data.toList.take k).foldl sumStep (sumB s) = sumB (s ++ t) := by
            rw [sumB_append, List.take_of_length_le (by simp; omega)]
          rw [hfull]
          clear hfull
          have hst2 : (s ++ t).size ≤ maxLen := by rw [size_add]; unfold maxLen; omega
          have hne2 : (((sumB (s ++ t) : Nat) : Int) != ((sumB (s ++ t) : Nat) : Int)) = false := by simp
          go_wp2_with fail
          refine (implTapeSum_any (s ++ t) wr hst2).mono ?_
          rintro e w5 ⟨rfl, rfl⟩
          go_wp2_with fail
          refine (implTapeSum_any ⟨#[]⟩ w5 (by unfold maxLen; simp [ByteArray.size])).mono ?_
          rintro e w6 ⟨rfl, rfl⟩
          rw [sum_empty]
          by_cases hs0 : s.size = 0
          · have hz : ((s.size : Int) == 0) = true := beq_iff_eq.2 (by omega)
            clear hne hne2 hlt0 hlt1 hst2
            go_wp2
            go_ret
            exact ⟨rfl, HB4.out⟩
          · have hz : ((s.size : Int) == 0) = false := beq_eq_false_iff_ne.2 (by omega)
            clear hne2 hst2 hlt
            have hk0l : len1 % s.size < s.size := Nat.mod_lt _ (by omega)
            obtain ⟨b0, hb0⟩ : ∃ b0 : UInt8, b0 = s[len1 % s.size] := ⟨_, rfl⟩
            obtain ⟨l2, hl2⟩ : ∃ l2 : List UInt8, l2 = s.data.toList.set (len1 % s.size) (b0 ^^^ 1) := ⟨_, rfl⟩
            have hlen2 : l2.length = s.size := by rw [hl2]; simp
            have hsum : sumB ⟨l2.toArray⟩ ≠ sumB s := by
              unfold sumB
              rw [show (⟨l2.toArray⟩ : ByteArray).data.toList = l2 from rfl, hl2]
              refine sumOf_set _ _ (by simpa using hk0l) _ ?_
              show s[len1 % s.size] ≠ _
              rw [← hb0]
              exact xor_ne _ _ (by decide)
            have hcell : (Lib.bytesWorld w6 5 s).cell? ⟨w6.heap.size, len1 % s.size, none⟩ = some (.int .u8 (b0.toNat : Int)) := by
              rw [Lib.bytesWorld_cell w6 5 s _ hk0l, getD_byte s _ hk0l, hb0]
            have hfz : (Lib.bytesWorld w6 5 s).frozen? ⟨w6.heap.size, len1 % s.size, none⟩ = false := bytes_frozen w6 s _ hk0l
            have hx : bits .xor .u8 (b0.toNat : Int) 1 = ((b0 ^^^ 1).toNat : Int) := xor_u8 b0 1 (by decide)
            have hback : (convert 22 9 (.slice (some ⟨w6.heap.size, 0, none⟩) s.size (grownCap w6 s.size 0 5))).run Try.prog ((Lib.bytesWorld w6 5 s).setCell ⟨w6.heap.size, len1 % s.size, none⟩ (.int .u8 ((b0 ^^^ 1).toNat : Int))) = .ok (.string ⟨l2.toArray⟩) ((Lib.bytesWorld w6 5 s).setCell ⟨w6.heap.size, len1 % s.size, none⟩ (.int .u8 ((b0 ^^^ 1).toNat : Int))) := by
              rw [hb0] at hl2 ⊢
              exact back_conv w6 s _ hk0l l2 hl2
            have HB5 : Hid (Below w.heap.size w ((Lib.bytesWorld w6 5 s).setCell ⟨w6.heap.size, len1 % s.size, none⟩ (.int .u8 ((b0 ^^^ 1).toNat : Int)))) := by
              refine Below.setCell (p := ⟨w6.heap.size, len1 % s.size, none⟩) ?_ hsz4 _
              exact HB4.out.trans ((Go.Joins.below_bytesWorld w6.heap.size w6 5 s (Nat.le_refl _)).mono hsz4)
            have hs2 : (⟨l2.toArray⟩ : ByteArray).size ≤ maxLen := by
              rw [show (⟨l2.toArray⟩ : ByteArray).size = l2.length from rfl, hlen2]; exact hsm
            generalize (⟨l2.toArray⟩ : ByteArray) = t2 at hback hs2 hsum
            generalize (b0 ^^^ 1).toNat = y at hback hx HB5
            clear hl2 hlen2 hb0 HB4
            have hfin : (((sumB t2 : Nat) : Int) != ((sumB s : Nat) : Int)) = true := by simp only [bne_iff_ne, ne_eq]; omega
            have hcv := Lib.run_convert_string_bytes (P := Try.prog) w6 9 22 5 s Try.underlying9 Try.underlying22 Try.underlying5
            go_wp2_with fail
            refine (implTapeSum_any t2 _ hs2).mono ?_
            rintro e w7 ⟨rfl, rfl⟩
            clear hback hcell hfz hcv hx
            go_wp2
            go_ret
            exact ⟨rfl, HB5.out⟩

set_option maxRecDepth 100000 in
theorem lifted (os : Os) (started : os.Started) (H : Type) (enc : TypeId × Value → H) :
    ReturnsInHanded {} Try.checked os 3 .any (Rows.fnTapeSumSpec.pre6 enc Try.prog Try.f3 Rows.fnTapeSumRow.domain false) (Rows.fnTapeSumSpec.post enc Try.prog Try.f3 false true false false) := by
  refine returnsInHanded_of_change (C := Try.checked) own started (by kernel_rfl) Try.func3
    (ChangeSpec.witness6 (enc := enc) (C := Try.checked) false ⟨#[], #[.slice none 0 0, .slice none 0 0], []⟩ 8 (by kernel_rfl) (by kernel_rfl) (by kernel_rfl) (by kernel_rfl)) ?_
  intro W base args ds gs before hval0 hW hcnd _
  have hval : ∀ (j : Nat) t v, Try.f3.params[j]? = some t → args[j]? = some v → Value.okWide Try.prog W .any base t v := hval0
  have hW' := hW
  obtain ⟨p, q, hA0, hV, rfl, hfz, hnd⟩ := hW
  have hA : DataW.TrodAll enc Try.prog W 0 (fun _ => true) true Try.f3.params.toList args.toList ds p := hA0
  rw [Try.params3] at hA hval
  obtain ⟨v0, vs0, d0, ds0, p0, q0, hargs, rfl, rfl, h0, r0⟩ := trodAll_cons hA
  obtain ⟨v1, vs1, d1, ds1, p1, q1, rfl, rfl, rfl, h1, r1⟩ := trodAll_cons r0
  obtain ⟨rfl, rfl, rfl⟩ := trodAll_nil r1
  obtain rfl : args = #[v0, v1] := by cases args; simp_all
  obtain ⟨rfl, rfl⟩ := trodVars_none hV
  obtain ⟨a0, len0, cap0, rfl⟩ := okWide_slice Try.underlying22 (hval 0 22 v0 rfl rfl)
  have k0 := h0
  have lt0 : ∀ x ∈ p0, x.block < W.heap.size := by obtain ⟨m, hm⟩ := k0; exact DataW.trod_lt m _ _ _ hm
  obtain ⟨zs0, hC0, hl0, hp0⟩ := openCode h0
  obtain ⟨a1, len1, cap1, rfl⟩ := okWide_slice Try.underlying22 (hval 1 22 v1 rfl rfl)
  have k1 := h1
  have lt1 : ∀ x ∈ p1, x.block < W.heap.size := by obtain ⟨m, hm⟩ := k1; exact DataW.trod_lt m _ _ _ hm
  obtain ⟨zs1, hC1, hl1, hp1⟩ := openCode h1
  clear hA0 hval0
  refine (walk a0 len0 cap0 zs0 a1 len1 cap1 zs1 W hC0 hl0 hp0 hC1 hl1 hp1).mono fun e W' ⟨he, bel⟩ => ?_
  subst he
  exact ⟨_, rfl, _, _, _, [], _, [], hW', trodAll_mk1 (shut_bool Try.underlying4 _), (trodAll_cons_mk (Below.trod laidOut (by kernel_rfl) (of_decide_eq_true (by kernel_rfl)) k0 bel lt0) (trodAll_cons_mk (Below.trod laidOut (by kernel_rfl) (of_decide_eq_true (by kernel_rfl)) k1 bel lt1) trodAll_mk0)), rfl, bel.frame _, fun h => by cases h⟩

theorem over : Rows.fnTapeSumRow.holds Try.pinned (OpenSpec.ofChange Rows.fnTapeSumSpec) :=
  OpenClaim.holds_of_wide 3 Try.f3 rfl rfl rfl rfl rfl rfl rfl ⟨rfl, rfl, rfl, rfl, rfl⟩ rfl rfl rfl rfl rfl (by kernel_rfl) Try.func3 (by kernel_rfl)
    (of_decide_eq_true (by kernel_rfl)) (by unfold Func.isWrapper; first | (rw [if_pos (by decide +kernel)]; kernel_rfl) | (rw [if_neg (by decide +kernel)]; exact ⟨rfl, rfl⟩))
    (fun os started H enc _ => lifted os started H enc)
end Go.Proofs.Ytofbcenlpffclaa.fnTapeSum

namespace Go.Proofs.Ytofbcenlpffclaa
theorem fnTapeSum_holds : Rows.FnTapeSumSaid := fnTapeSum.over
end Go.Proofs.Ytofbcenlpffclaa
