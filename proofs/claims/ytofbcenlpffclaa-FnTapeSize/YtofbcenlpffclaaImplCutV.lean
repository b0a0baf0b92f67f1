/-
  What TapeCut of the program answers.
-/
import Derived.Test.YtofbcenlpffclaaCutMath
import Derived.Test.YtofbcenlpffclaaImplSum
import Derived.Test.YtofbcenlpffclaaClone
namespace Go.Proofs.Ytofbcenlpffclaa
open Go.RowKit Go.Deep
set_option linter.unusedVariables false
set_option linter.unusedSimpArgs false

set_option maxHeartbeats 1000000 in
theorem piecesOf_any (n k : Nat) (w : World) (hn : n ≤ 2000) (hk1 : 1 ≤ k) (hk2 : k ≤ 2000) :
    Calls Try.prog 16 #[.int .i64 (n : Nat), .int .i64 (k : Nat)] w fun e w' => e = .returned (.int .i64 ((ofN n k : Nat) : Int)) ∧ w' = w := by
  obtain ⟨q, hq⟩ : ∃ q : Nat, q = (n + k - 1) / k := ⟨_, rfl⟩
  have hq4 : q ≤ 4000 := by rw [hq]; exact Nat.le_trans (Nat.div_le_self _ _) (by omega)
  have hw0 : wrap64 (((n + k - 1 : Nat) : Int) / (k : Int)) = (q : Int) := by
    rw [← Int.natCast_ediv, ← hq]; unfold wrap64; omega
  have hdiv : ((n : Int) + (k : Int) - 1) / (k : Int) = (q : Int) := by
    rw [hq, show ((n : Int) + (k : Int) - 1) = ((n + k - 1 : Nat) : Int) by omega]; rfl
  have hOF : ((ofN n k : Nat) : Int) = max 1 (q : Int) := by
    unfold ofN
    split
    · rename_i h0
      have : q = 0 := by rw [hq, h0]; exact Nat.div_eq_of_lt (by omega)
      rw [this]; rfl
    · rename_i h0
      have : 1 ≤ q := by rw [hq]; exact (Nat.le_div_iff_mul_le (by omega)).2 (by omega)
      rw [← hq]; omega
  rw [hOF]
  clear hq hOF
  go_enter Try.func16, Try.ntmps16
  go_wp2
  go_ret
  exact ⟨rfl, rfl⟩

set_option maxHeartbeats 4000000 in
theorem implTapeCut_any (s : ByteArray) (z : Int) (w : World) (hs : s.size ≤ maxLen) (hz : In64 z) :
    Calls Try.prog 9 #[.string s, .int .i64 z] w fun e w' => ∃ a c, e = .returned (.tuple #[.slice a (cutN s z) c, .bool (cutOk s z)]) ∧ Below w.heap.size w w' ∧ OwnV w' w.heap.size (.slice a (cutN s z) c) (cutN s z) (piece s z.toNat (ofN s.size z.toNat)) := by
  have hsm := hs
  unfold maxLen at hs
  obtain ⟨i0, hi, hz0, hz1, hz2⟩ := info_parts infoVol
  by_cases h1 : 2000 < s.size
  · have hok : cutOk s z = false := by rw [Bool.eq_false_iff]; intro h; have := cutOk_iff.1 h; omega
    rw [cutN_bad hok, hok]
    have d1 : decide ((2000 : Int) < (s.size : Int)) = true := by simp; omega
    clear h1
    go_enter Try.func9, Try.ntmps9
    go_wp2
    go_ret2
    exact ⟨_, _, rfl, Below.refl _ _, OwnV.nil _ _ _⟩
  · have d1 : decide ((2000 : Int) < (s.size : Int)) = false := by simp; omega
    by_cases h2 : z < 1
    · have hok : cutOk s z = false := by rw [Bool.eq_false_iff]; intro h; have := cutOk_iff.1 h; omega
      rw [cutN_bad hok, hok]
      have d2 : decide (z < 1) = true := by simp; omega
      clear h2
      go_enter Try.func9, Try.ntmps9
      go_wp2
      go_ret2
      exact ⟨_, _, rfl, Below.refl _ _, OwnV.nil _ _ _⟩
    · have d2 : decide (z < 1) = false := by simp; omega
      by_cases h3 : 2000 < z
      · have hok : cutOk s z = false := by rw [Bool.eq_false_iff]; intro h; have := cutOk_iff.1 h; omega
        rw [cutN_bad hok, hok]
        have d3 : decide (2000 < z) = true := by simp; omega
        clear h3
        go_enter Try.func9, Try.ntmps9
        go_wp2
        go_ret2
        exact ⟨_, _, rfl, Below.refl _ _, OwnV.nil _ _ _⟩
      · have d3 : decide (2000 < z) = false := by simp; omega
        obtain ⟨k, rfl⟩ : ∃ k : Nat, z = (k : Int) := ⟨z.toNat, by omega⟩
        have hk1 : 1 ≤ k := by omega
        have hk2 : k ≤ 2000 := by omega
        simp only [Int.toNat_natCast]
        have hP : Hid (∀ W, Calls Try.prog 16 #[.int .i64 (s.size : Nat), .int .i64 (k : Nat)] W fun e w' => e = .returned (.int .i64 ((ofN s.size k : Nat) : Int)) ∧ w' = W) := fun W => piecesOf_any s.size k W (by omega) hk1 hk2
        have hof1 : 1 ≤ ofN s.size k := ofN_pos hk1
        by_cases h40 : 40 < ofN s.size k
        · have d4 : decide ((40 : Int) < ((ofN s.size k : Nat) : Int)) = true := by simp; omega
          have hok : cutOk s (k : Int) = false := by rw [Bool.eq_false_iff]; intro h; have := cutOk_iff.1 h; simp only [Int.toNat_natCast] at this; omega
          rw [cutN_bad hok, hok]
          clear h40
          go_enter Try.func9, Try.ntmps9
          go_wp2_with fail
          refine (hP.out _).mono ?_
          rintro e w1 ⟨rfl, rfl⟩
          go_wp2
          go_ret2
          exact ⟨_, _, rfl, Below.refl _ _, OwnV.nil _ _ _⟩
        · have d4 : decide ((40 : Int) < ((ofN s.size k : Nat) : Int)) = false := by simp; omega
          have hok : cutOk s (k : Int) = true := cutOk_iff.2 ⟨by omega, by omega, by omega, by simp only [Int.toNat_natCast]; omega⟩
          have hN : cutN s (k : Int) = ofN s.size k := by unfold cutN; rw [if_pos hok]; simp only [Int.toNat_natCast]
          rw [hN, hok]
          have hstart : Hid (∀ j, j < ofN s.size k → j * k ≤ s.size) := fun j hj => start_le hk1 hj
          generalize ofN s.size k = q at *
          go_enter Try.func9, Try.ntmps9
          go_wp2_with fail
          refine (hP.out _).mono ?_
          rintro e w1 ⟨rfl, rfl⟩
          go_wp2
          go_loopw [7, 29] (fun o i wr => ∃ (a : Option Addr) (c j : Nat), j ≤ q ∧ i = .int .i64 j ∧ o = .slice a j c ∧ OwnV wr w1.heap.size (.slice a j c) j (piece s k q) ∧ Below w1.heap.size w1 wr) (fun _ i _ => q - (intOf i).toNat)
          case atStart => exact ⟨_, _, 0, Nat.zero_le _, rfl, rfl, OwnV.nil _ _ _, Below.refl _ _⟩
          case round =>
            obtain ⟨a, c, j, hj, rfl, rfl, hO, hB⟩ := hrel
            clear d1 d2 d3 d4 hok hN hP
            have HO1 : Hid _ := And.intro hO hB
            have hwl : w1.heap.size ≤ wr.heap.size := hB.size
            clear hB
            by_cases hlt : j < q
            · have hst : j * k ≤ s.size := hstart.out j hlt
              have hw2 : True → wrap64 ((j : Int) * (k : Int)) = ((j * k : Nat) : Int) := by
                intro _
                rw [show (j : Int) * (k : Int) = ((j * k : Nat) : Int) from by simp]
                unfold wrap64; omega
              have hmul : (j + 1) * k = j * k + k := by rw [Nat.add_mul, Nat.one_mul]
              obtain ⟨p, hp⟩ : ∃ p, p = j * k := ⟨_, rfl⟩
              rw [← hp] at hst hw2 hmul
              have HJ : Hid (j * k = p) := hp.symm
              clear hp
              obtain ⟨t, hT⟩ : ∃ t, t = s.extract p (min ((p : Int) + (k : Int)) (s.size : Int)).toNat := ⟨_, rfl⟩
              have hpc : piece s k q j = ⟨((j + 1 : Nat) : Int), ((q : Nat) : Int), ((sumB t : Nat) : Int), t⟩ := by
                unfold piece
                rw [show endAt s k j = (min ((p : Int) + (k : Int)) (s.size : Int)).toNat from by unfold endAt; rw [hmul]; split <;> omega, HJ.out, ← hT]
              have ht : t.size ≤ 2000 := by rw [hT, ByteArray.size_extract]; omega
              have htm : t.size ≤ maxLen := by unfold maxLen; omega
              have HPC : Hid _ := hpc
              clear hmul hpc
              go_wp2_with fail
              rw [← hT]
              refine (implTapeSum_any t _ htm).mono ?_
              rintro e w2 ⟨rfl, rfl⟩
              clear hT hst hw2
              go_wp2_with fail
              refine (stringsClone_any t _ (by omega)).mono ?_
              rintro e w3 ⟨rfl, hb3⟩
              have hO3 := hO.below hb3
              have HO3 : Hid (Below w1.heap.size w1 w3) := HO1.out.2.trans (hb3.mono hwl)
              have hwl3 : w1.heap.size ≤ w3.heap.size := Nat.le_trans hwl hb3.size
              clear hO HO1 hb3 hwl ht htm
              go_wp2_with (at_builtin; refine wpList_append_own _ rfl _ _ 28 rfl w1.heap.size 32 i0 (.agg #[.int .i64 0, .int .i64 0, .int .i64 0, .string ⟨#[]⟩]) 4 40 Try.underlying28 hi hz0 hz1 hz2 rfl (by decide) _ _ _ rfl (hO3.alloc _) ⟨_, 0, none⟩ 1 1 (voc ⟨((j : Int) + 1), ((q : Nat) : Int), ((sumB t : Nat) : Int), t⟩) rfl rfl ?c1 ?c2 ?c3 ?c4 ?c5 ?_)
              case c1 => exact voc_cells _ _
              case c2 => exact voc_one _
              case c3 => unfold maxLen; omega
              case c4 => omega
              case c5 => simp; omega
              intro v' w4 hown hgrow hnil
              obtain ⟨a', c', rfl, hO4, hB4⟩ := OwnV.app _ HO3.out hwl3 hO3 (by rw [HPC.out]; rfl) hown hgrow
              clear hown hgrow hnil hO3 HO3 HPC
              go_wp2
              go_roundw
              case rel => exact ⟨a', c', j + 1, by omega, by go_num, rfl, hO4, hB4⟩
              case measure => simp [intOf]; omega
            · have hjq : j = q := by omega
              subst hjq
              clear hO
              go_wp2
              go_ret2
              exact ⟨_, _, rfl, HO1.out.2, HO1.out.1⟩
end Go.Proofs.Ytofbcenlpffclaa
