/-
  What TapeCut of the specification answers.
-/
import Derived.Test.YtjlldefajgmelaaDoorCutMath
import Derived.Test.YtjlldefajgmelaaDoorSpecSum
namespace Go.Proofs.YtjlldefajgmelaaDoor
open Go.RowKit Go.Deep
set_option linter.unusedVariables false
set_option linter.unusedSimpArgs false

set_option maxHeartbeats 4000000 in
theorem specTapeCut_any (s : ByteArray) (z : Int) (w : World) (hs : s.size ≤ maxLen) (hz : In64 z) :
    Calls Tryd.prog 33 #[.string s, .int .i64 z] w fun e w' => ∃ a c, e = .returned (.tuple #[.slice a (cutN s z) c, .bool (cutOk s z)]) ∧ Below w.heap.size w w' ∧ OwnV w' w.heap.size (.slice a (cutN s z) c) (cutN s z) (piece s z.toNat (ofN s.size z.toNat)) := by
  have hsm := hs
  unfold maxLen at hs
  obtain ⟨i0, hi, hz0, hz1, hz2⟩ := info_parts infoVol
  have ho0 := OwnV.empty w (piece s z.toNat (ofN s.size z.toNat))
  have hb0 : Below w.heap.size w (w.alloc (.cells #[] 24)) := (Below.refl _ _).alloc (Nat.le_refl _) _
  have HO : Hid _ := And.intro ho0 hb0
  clear ho0 hb0
  by_cases h1 : 2000 < s.size
  · have hok : cutOk s z = false := by rw [Bool.eq_false_iff]; intro h; have := cutOk_iff.1 h; omega
    rw [cutN_bad hok, hok]
    have d1 : decide ((2000 : Int) < (s.size : Int)) = true := by simp; omega
    clear h1
    go_enter Tryd.func33, Tryd.ntmps33
    go_wp2
    go_ret2
    exact ⟨_, _, rfl, HO.out.2, HO.out.1⟩
  · have d1 : decide ((2000 : Int) < (s.size : Int)) = false := by simp; omega
    by_cases h2 : z < 1
    · have hok : cutOk s z = false := by rw [Bool.eq_false_iff]; intro h; have := cutOk_iff.1 h; omega
      rw [cutN_bad hok, hok]
      have d2 : decide (z < 1) = true := by simp; omega
      clear h2
      go_enter Tryd.func33, Tryd.ntmps33
      go_wp2
      go_ret2
      exact ⟨_, _, rfl, HO.out.2, HO.out.1⟩
    · have d2 : decide (z < 1) = false := by simp; omega
      by_cases h3 : 2000 < z
      · have hok : cutOk s z = false := by rw [Bool.eq_false_iff]; intro h; have := cutOk_iff.1 h; omega
        rw [cutN_bad hok, hok]
        have d3 : decide (2000 < z) = true := by simp; omega
        clear h3
        go_enter Tryd.func33, Tryd.ntmps33
        go_wp2
        go_ret2
        exact ⟨_, _, rfl, HO.out.2, HO.out.1⟩
      · have d3 : decide (2000 < z) = false := by simp; omega
        obtain ⟨k, rfl⟩ : ∃ k : Nat, z = (k : Int) := ⟨z.toNat, by omega⟩
        have hk1 : 1 ≤ k := by omega
        have hk2 : k ≤ 2000 := by omega
        simp only [Int.toNat_natCast] at HO ⊢
        obtain ⟨q, hq⟩ : ∃ q : Nat, q = (s.size + k - 1) / k := ⟨_, rfl⟩
        have hq4 : q ≤ 4000 := by rw [hq]; exact Nat.le_trans (Nat.div_le_self _ _) (by omega)
        have hw0 : wrap64 (((s.size + k - 1 : Nat) : Int) / (k : Int)) = (q : Int) := by
          rw [← Int.natCast_ediv, ← hq]; unfold wrap64; omega
        have hdiv : ((s.size : Int) + (k : Int) - 1) / (k : Int) = (q : Int) := by
          rw [hq, show ((s.size : Int) + (k : Int) - 1) = ((s.size + k - 1 : Nat) : Int) by omega]; rfl
        by_cases h0 : s.size = 0
        · have hq0 : q = 0 := by rw [hq, h0]; exact Nat.div_eq_of_lt (by omega)
          subst hq0
          have hOF : ofN s.size k = 1 := by unfold ofN; rw [if_pos h0]
          have hz0' : (((0 : Nat) : Int) == 0) = true := rfl
          clear hq h0
          have d4 : decide ((40 : Int) < ((1 : Nat) : Int)) = false := rfl
          have hok : cutOk s (k : Int) = true := cutOk_iff.2 ⟨by omega, by omega, by omega, by simp only [Int.toNat_natCast]; omega⟩
          have hN : cutN s (k : Int) = 1 := by unfold cutN; rw [if_pos hok]; simp only [Int.toNat_natCast]; exact hOF
          rw [hN, hok, hOF]
          rw [hOF] at HO
          go_enter Tryd.func33, Tryd.ntmps33
          go_wp2
          go_loopw [6, 8] (fun o i wr => ∃ (a : Option Addr) (c j : Nat), j ≤ 1 ∧ i = .int .i64 j ∧ o = .slice a j c ∧ OwnV wr w.heap.size (.slice a j c) j (piece s k 1) ∧ Below w.heap.size w wr) (fun _ i _ => 1 - (intOf i).toNat)
          case atStart => exact ⟨_, _, 0, Nat.zero_le _, rfl, rfl, HO.out.1, HO.out.2⟩
          case round =>
            obtain ⟨a, c, j, hj, rfl, rfl, hO, hB⟩ := hrel
            clear hdiv hw0 hz0' d1 d2 d3 d4 hok hN
            have HO1 : Hid _ := And.intro hO hB
            have hwl : w.heap.size ≤ wr.heap.size := hB.size
            clear hB
            by_cases hlt : j < 1
            · have hst : j * k ≤ s.size := start_le hk1 (by rw [hOF]; exact hlt)
              have hw1 : True → wrap64 (((j : Int) + 1) * (k : Int)) = ((j * k + k : Nat) : Int) := by
                intro _
                rw [show ((j : Int) + 1) * (k : Int) = ((j * k + k : Nat) : Int) from by rw [Int.add_mul, Int.one_mul]; simp]
                unfold wrap64; omega
              have hw2 : True → wrap64 ((j : Int) * (k : Int)) = ((j * k : Nat) : Int) := by
                intro _
                rw [show (j : Int) * (k : Int) = ((j * k : Nat) : Int) from by simp]
                unfold wrap64; omega
              have hmul : (j + 1) * k = j * k + k := by rw [Nat.add_mul, Nat.one_mul]
              obtain ⟨p, hp⟩ : ∃ p, p = j * k := ⟨_, rfl⟩
              rw [← hp] at hst hw1 hw2 hmul
              have HJ : Hid (j * k = p) := hp.symm
              clear hp
              by_cases hend : s.size < p + k
              · have hx : endAt s k j = s.size := by unfold endAt; rw [hmul, if_pos hend]
                have hpc : piece s k 1 j = ⟨((j + 1 : Nat) : Int), ((1 : Nat) : Int), ((sumB (s.extract p s.size) : Nat) : Int), s.extract p s.size⟩ := by unfold piece; rw [hx, HJ.out]
                have d5 : decide ((s.size : Int) < wrap64 (((j : Int) + 1) * (k : Int))) = true := by rw [hw1 trivial]; exact decide_eq_true (Int.ofNat_lt.2 hend)
                clear hmul hx
                have ht : (s.extract p s.size).size ≤ maxLen := by rw [ByteArray.size_extract]; unfold maxLen; omega
                go_wp2_with fail
                refine (specTapeSum_any (s.extract p s.size) wr ht).mono ?_
                rintro e w2 ⟨rfl, rfl⟩
                generalize s.extract p s.size = t at *
                clear hw1 hw2 d5 hst ht hend
                have HPC : Hid _ := hpc
                clear hpc
                go_wp2_with (at_builtin; refine wpList_append_own _ rfl _ _ 47 rfl w.heap.size 24 i0 (.agg #[.int .i64 0, .int .i64 0, .int .i64 0, .string ⟨#[]⟩]) 4 40 Tryd.underlying47 hi hz0 hz1 hz2 rfl (by decide) _ _ _ rfl (hO.alloc _) ⟨_, 0, none⟩ 1 1 (voc ⟨((j : Int) + 1), ((1 : Nat) : Int), ((sumB t : Nat) : Int), t⟩) rfl rfl ?c1x1 ?c2x1 ?c3x1 ?c4x1 ?c5x1 ?_)
                case c1x1 => exact voc_cells _ _
                case c2x1 => exact voc_one _
                case c3x1 => unfold maxLen; omega
                case c4x1 => omega
                case c5x1 => simp; omega
                intro v' w3 hown hgrow hnil
                obtain ⟨a', c', rfl, hO3, hB3⟩ := OwnV.app _ HO1.out.2 hwl hO (by rw [HPC.out]; rfl) hown hgrow
                clear hown hgrow hnil hO HO1 HPC
                go_wp2
                go_roundw
                case rel => exact ⟨a', c', j + 1, by omega, by go_num, rfl, hO3, hB3⟩
                case measure => simp [intOf]; omega
              · have hx : endAt s k j = p + k := by unfold endAt; rw [hmul, if_neg hend]
                have hpc : piece s k 1 j = ⟨((j + 1 : Nat) : Int), ((1 : Nat) : Int), ((sumB (s.extract p (p + k)) : Nat) : Int), s.extract p (p + k)⟩ := by unfold piece; rw [hx, HJ.out]
                have d5 : decide ((s.size : Int) < wrap64 (((j : Int) + 1) * (k : Int))) = false := by rw [hw1 trivial]; exact decide_eq_false (fun h => hend (Int.ofNat_lt.1 h))
                clear hmul hx
                have ht : (s.extract p (p + k)).size ≤ maxLen := by rw [ByteArray.size_extract]; unfold maxLen; omega
                go_wp2_with fail
                refine (specTapeSum_any (s.extract p (p + k)) wr ht).mono ?_
                rintro e w2 ⟨rfl, rfl⟩
                generalize s.extract p (p + k) = t at *
                clear hw1 hw2 d5 hst ht hend
                have HPC : Hid _ := hpc
                clear hpc
                go_wp2_with (at_builtin; refine wpList_append_own _ rfl _ _ 47 rfl w.heap.size 24 i0 (.agg #[.int .i64 0, .int .i64 0, .int .i64 0, .string ⟨#[]⟩]) 4 40 Tryd.underlying47 hi hz0 hz1 hz2 rfl (by decide) _ _ _ rfl (hO.alloc _) ⟨_, 0, none⟩ 1 1 (voc ⟨((j : Int) + 1), ((1 : Nat) : Int), ((sumB t : Nat) : Int), t⟩) rfl rfl ?c1y1 ?c2y1 ?c3y1 ?c4y1 ?c5y1 ?_)
                case c1y1 => exact voc_cells _ _
                case c2y1 => exact voc_one _
                case c3y1 => unfold maxLen; omega
                case c4y1 => omega
                case c5y1 => simp; omega
                intro v' w3 hown hgrow hnil
                obtain ⟨a', c', rfl, hO3, hB3⟩ := OwnV.app _ HO1.out.2 hwl hO (by rw [HPC.out]; rfl) hown hgrow
                clear hown hgrow hnil hO HO1 HPC
                go_wp2
                go_roundw
                case rel => exact ⟨a', c', j + 1, by omega, by go_num, rfl, hO3, hB3⟩
                case measure => simp [intOf]; omega
            · have hjO : j = 1 := by omega
              subst hjO
              clear hO
              go_wp2
              go_ret2
              exact ⟨_, _, rfl, HO1.out.2, HO1.out.1⟩
        · have hOF : ofN s.size k = q := by unfold ofN; rw [if_neg h0, hq]
          have hq1 : 1 ≤ q := by rw [← hOF]; exact ofN_pos hk1
          have hz0' : ((q : Int) == 0) = false := beq_eq_false_iff_ne.2 (by omega)
          clear hq h0
          by_cases h40 : 40 < q
          · have d4 : decide ((40 : Int) < (q : Int)) = true := by simp; omega
            have hok : cutOk s (k : Int) = false := by rw [Bool.eq_false_iff]; intro h; have := cutOk_iff.1 h; simp only [Int.toNat_natCast] at this; omega
            rw [cutN_bad hok, hok]
            clear h40
            go_enter Tryd.func33, Tryd.ntmps33
            go_wp2
            go_ret2
            exact ⟨_, _, rfl, HO.out.2, HO.out.1⟩
          · have d4 : decide ((40 : Int) < (q : Int)) = false := by simp; omega
            have hok : cutOk s (k : Int) = true := cutOk_iff.2 ⟨by omega, by omega, by omega, by simp only [Int.toNat_natCast]; omega⟩
            have hN : cutN s (k : Int) = q := by unfold cutN; rw [if_pos hok]; simp only [Int.toNat_natCast]; exact hOF
            rw [hN, hok, hOF]
            rw [hOF] at HO
            go_enter Tryd.func33, Tryd.ntmps33
            go_wp2
            go_loopw [6, 8] (fun o i wr => ∃ (a : Option Addr) (c j : Nat), j ≤ q ∧ i = .int .i64 j ∧ o = .slice a j c ∧ OwnV wr w.heap.size (.slice a j c) j (piece s k q) ∧ Below w.heap.size w wr) (fun _ i _ => q - (intOf i).toNat)
            case atStart => exact ⟨_, _, 0, Nat.zero_le _, rfl, rfl, HO.out.1, HO.out.2⟩
            case round =>
              obtain ⟨a, c, j, hj, rfl, rfl, hO, hB⟩ := hrel
              clear hdiv hw0 hz0' d1 d2 d3 d4 hok hN
              have HO1 : Hid _ := And.intro hO hB
              have hwl : w.heap.size ≤ wr.heap.size := hB.size
              clear hB
              by_cases hlt : j < q
              · have hst : j * k ≤ s.size := start_le hk1 (by rw [hOF]; exact hlt)
                have hw1 : True → wrap64 (((j : Int) + 1) * (k : Int)) = ((j * k + k : Nat) : Int) := by
                  intro _
                  rw [show ((j : Int) + 1) * (k : Int) = ((j * k + k : Nat) : Int) from by rw [Int.add_mul, Int.one_mul]; simp]
                  unfold wrap64; omega
                have hw2 : True → wrap64 ((j : Int) * (k : Int)) = ((j * k : Nat) : Int) := by
                  intro _
                  rw [show (j : Int) * (k : Int) = ((j * k : Nat) : Int) from by simp]
                  unfold wrap64; omega
                have hmul : (j + 1) * k = j * k + k := by rw [Nat.add_mul, Nat.one_mul]
                obtain ⟨p, hp⟩ : ∃ p, p = j * k := ⟨_, rfl⟩
                rw [← hp] at hst hw1 hw2 hmul
                have HJ : Hid (j * k = p) := hp.symm
                clear hp
                by_cases hend : s.size < p + k
                · have hx : endAt s k j = s.size := by unfold endAt; rw [hmul, if_pos hend]
                  have hpc : piece s k q j = ⟨((j + 1 : Nat) : Int), ((q : Nat) : Int), ((sumB (s.extract p s.size) : Nat) : Int), s.extract p s.size⟩ := by unfold piece; rw [hx, HJ.out]
                  have d5 : decide ((s.size : Int) < wrap64 (((j : Int) + 1) * (k : Int))) = true := by rw [hw1 trivial]; exact decide_eq_true (Int.ofNat_lt.2 hend)
                  clear hmul hx
                  have ht : (s.extract p s.size).size ≤ maxLen := by rw [ByteArray.size_extract]; unfold maxLen; omega
                  go_wp2_with fail
                  refine (specTapeSum_any (s.extract p s.size) wr ht).mono ?_
                  rintro e w2 ⟨rfl, rfl⟩
                  generalize s.extract p s.size = t at *
                  clear hw1 hw2 d5 hst ht hend
                  have HPC : Hid _ := hpc
                  clear hpc
                  go_wp2_with (at_builtin; refine wpList_append_own _ rfl _ _ 47 rfl w.heap.size 24 i0 (.agg #[.int .i64 0, .int .i64 0, .int .i64 0, .string ⟨#[]⟩]) 4 40 Tryd.underlying47 hi hz0 hz1 hz2 rfl (by decide) _ _ _ rfl (hO.alloc _) ⟨_, 0, none⟩ 1 1 (voc ⟨((j : Int) + 1), ((q : Nat) : Int), ((sumB t : Nat) : Int), t⟩) rfl rfl ?c1xq ?c2xq ?c3xq ?c4xq ?c5xq ?_)
                  case c1xq => exact voc_cells _ _
                  case c2xq => exact voc_one _
                  case c3xq => unfold maxLen; omega
                  case c4xq => omega
                  case c5xq => simp; omega
                  intro v' w3 hown hgrow hnil
                  obtain ⟨a', c', rfl, hO3, hB3⟩ := OwnV.app _ HO1.out.2 hwl hO (by rw [HPC.out]; rfl) hown hgrow
                  clear hown hgrow hnil hO HO1 HPC
                  go_wp2
                  go_roundw
                  case rel => exact ⟨a', c', j + 1, by omega, by go_num, rfl, hO3, hB3⟩
                  case measure => simp [intOf]; omega
                · have hx : endAt s k j = p + k := by unfold endAt; rw [hmul, if_neg hend]
                  have hpc : piece s k q j = ⟨((j + 1 : Nat) : Int), ((q : Nat) : Int), ((sumB (s.extract p (p + k)) : Nat) : Int), s.extract p (p + k)⟩ := by unfold piece; rw [hx, HJ.out]
                  have d5 : decide ((s.size : Int) < wrap64 (((j : Int) + 1) * (k : Int))) = false := by rw [hw1 trivial]; exact decide_eq_false (fun h => hend (Int.ofNat_lt.1 h))
                  clear hmul hx
                  have ht : (s.extract p (p + k)).size ≤ maxLen := by rw [ByteArray.size_extract]; unfold maxLen; omega
                  go_wp2_with fail
                  refine (specTapeSum_any (s.extract p (p + k)) wr ht).mono ?_
                  rintro e w2 ⟨rfl, rfl⟩
                  generalize s.extract p (p + k) = t at *
                  clear hw1 hw2 d5 hst ht hend
                  have HPC : Hid _ := hpc
                  clear hpc
                  go_wp2_with (at_builtin; refine wpList_append_own _ rfl _ _ 47 rfl w.heap.size 24 i0 (.agg #[.int .i64 0, .int .i64 0, .int .i64 0, .string ⟨#[]⟩]) 4 40 Tryd.underlying47 hi hz0 hz1 hz2 rfl (by decide) _ _ _ rfl (hO.alloc _) ⟨_, 0, none⟩ 1 1 (voc ⟨((j : Int) + 1), ((q : Nat) : Int), ((sumB t : Nat) : Int), t⟩) rfl rfl ?c1yq ?c2yq ?c3yq ?c4yq ?c5yq ?_)
                  case c1yq => exact voc_cells _ _
                  case c2yq => exact voc_one _
                  case c3yq => unfold maxLen; omega
                  case c4yq => omega
                  case c5yq => simp; omega
                  intro v' w3 hown hgrow hnil
                  obtain ⟨a', c', rfl, hO3, hB3⟩ := OwnV.app _ HO1.out.2 hwl hO (by rw [HPC.out]; rfl) hown hgrow
                  clear hown hgrow hnil hO HO1 HPC
                  go_wp2
                  go_roundw
                  case rel => exact ⟨a', c', j + 1, by omega, by go_num, rfl, hO3, hB3⟩
                  case measure => simp [intOf]; omega
              · have hjO : j = q := by omega
                subst hjO
                clear hO
                go_wp2
                go_ret2
                exact ⟨_, _, rfl, HO1.out.2, HO1.out.1⟩
end Go.Proofs.YtjlldefajgmelaaDoor
