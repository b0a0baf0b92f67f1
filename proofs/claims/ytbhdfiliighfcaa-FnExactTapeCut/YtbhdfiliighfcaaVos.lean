/-
  What the helpers of the exact laws do at lists of pieces: holding two against each other, marking one, asking whether the marks are there.
-/
import Derived.Test.YtbhdfiliighfcaaVosBase
import Derived.Test.YtbhdfiliighfcaaVols
import Derived.Test.YtbhdfiliighfcaaMark
import Derived.Test.YtbhdfiliighfcaaLat
namespace Go.Proofs.Ytbhdfiliighfcaa
open Go.RowKit Go.Deep
set_option linter.unusedVariables false
set_option linter.unusedSimpArgs false

def sameV (d e : Vo) : Bool := (d.num == e.num) && (d.cnt == e.cnt) && (d.sum == e.sum) && (d.text.toList == e.text.toList)
theorem sameV_self (d : Vo) : sameV d d = true := by simp [sameV]
def eqVs (n : Nat) (E F : Nat → Vo) : Bool := (List.range n).all fun i => sameV (E i) (F i)
theorem eqVs_succ (k : Nat) (E F : Nat → Vo) (h : eqVs k E F = true) (h1 : sameV (E k) (F k) = true) : eqVs (k + 1) E F = true := by
  unfold eqVs at *
  rw [List.range_succ, List.all_append, h]; simp [h1]
theorem eqVs_not (n k : Nat) (E F : Nat → Vo) (hk : k < n) (h : sameV (E k) (F k) = false) : false = eqVs n E F := by
  symm
  rw [Bool.eq_false_iff]
  intro ha
  have := List.all_eq_true.1 ha k (by simpa using hk)
  rw [h] at this; cases this
theorem eqVs_self (n : Nat) (E F : Nat → Vo) (h : ∀ i, i < n → E i = F i) : eqVs n E F = true := by
  unfold eqVs
  rw [List.all_eq_true]
  intro i hi
  rw [h i (by simpa using hi)]
  exact sameV_self _

set_option maxHeartbeats 400000 in
theorem eqVol_any (d e : Vo) (w : World) : Calls Try.prog 19 #[voV d, voV e] w fun r w' => Below w.heap.size w w' ∧ r = .returned (.bool (sameV d e)) := by
  unfold voV
  cases h1 : (d.num == e.num) with
  | false =>
    have hx : sameV d e = false := by unfold sameV; rw [h1]; rfl
    have hn1 : (d.num != e.num) = true := by simp only [bne, h1]; rfl
    rw [hx]
    clear h1 hx
    go_enter Try.func19, Try.ntmps19
    go_wp2_with fail
    go_ret
    exact ⟨((Below.refl _ _).alloc (Nat.le_refl _) _).alloc (by simp) _, rfl⟩
  | true =>
    have hn1 : (d.num != e.num) = false := by simp only [bne, h1]; rfl
    cases h2 : (d.cnt == e.cnt) with
    | false =>
      have hx : sameV d e = false := by unfold sameV; rw [h1, h2]; rfl
      have hn2 : (d.cnt != e.cnt) = true := by simp only [bne, h2]; rfl
      rw [hx]
      clear h1 h2 hx
      go_enter Try.func19, Try.ntmps19
      go_wp2_with fail
      go_ret
      exact ⟨((Below.refl _ _).alloc (Nat.le_refl _) _).alloc (by simp) _, rfl⟩
    | true =>
      have hn2 : (d.cnt != e.cnt) = false := by simp only [bne, h2]; rfl
      cases h3 : (d.sum == e.sum) with
      | false =>
        have hx : sameV d e = false := by unfold sameV; rw [h1, h2, h3]; rfl
        have hn3 : (d.sum != e.sum) = true := by simp only [bne, h3]; rfl
        rw [hx]
        clear h1 h2 h3 hx
        go_enter Try.func19, Try.ntmps19
        go_wp2_with fail
        go_ret
        exact ⟨((Below.refl _ _).alloc (Nat.le_refl _) _).alloc (by simp) _, rfl⟩
      | true =>
        have hn3 : (d.sum != e.sum) = false := by simp only [bne, h3]; rfl
        cases h4 : (d.text.toList == e.text.toList) with
        | false =>
          have hx : sameV d e = false := by unfold sameV; rw [h1, h2, h3, h4]; rfl
          have hn4 : (!d.text.toList == e.text.toList) = true := by rw [h4]; rfl
          rw [hx]
          clear h1 h2 h3 h4 hx
          go_enter Try.func19, Try.ntmps19
          go_wp2_with fail
          go_ret
          exact ⟨((Below.refl _ _).alloc (Nat.le_refl _) _).alloc (by simp) _, rfl⟩
        | true =>
          have hx : sameV d e = true := by unfold sameV; rw [h1, h2, h3, h4]; rfl
          have hn4 : (!d.text.toList == e.text.toList) = false := by rw [h4]; rfl
          rw [hx]
          clear h1 h2 h3 h4 hx
          go_enter Try.func19, Try.ntmps19
          go_wp2_with fail
          go_ret
          exact ⟨((Below.refl _ _).alloc (Nat.le_refl _) _).alloc (by simp) _, rfl⟩

set_option maxHeartbeats 1000000 in
theorem eqVolS_any (a a' : Option Addr) (n c m c' : Nat) (E F : Nat → Vo) (w : World) (hS : IsVos w a n E) (hT : IsVos w a' m F) (hn : n ≤ maxLen) (hm : m ≤ maxLen) :
    Calls Try.prog 14 #[.slice a n c, .slice a' m c'] w fun e w' => Below w.heap.size w w' ∧ e = .returned (.bool (decide (n = m) && eqVs n E F)) := by
  unfold maxLen at hn hm
  by_cases hne : n = m
  · subst hne
    have hb : ((n : Int) != (n : Int)) = false := by simp
    go_enter Try.func14, Try.ntmps14
    go_wp2
    go_loopw [5] (fun i wr => ∃ k : Nat, k ≤ n ∧ i = .int .i64 k ∧ Below w.heap.size w wr ∧ eqVs k E F = true) (fun i _ => n - (intOf i).toNat)
    case atStart => exact ⟨0, Nat.zero_le _, rfl, Below.refl _ _, rfl⟩
    case round =>
      obtain ⟨k, hk, rfl, hb, heq⟩ := hrel
      have HE : Hid (eqVs k E F = true) := heq
      have HB : Hid (Below w.heap.size w wr) := hb
      clear heq hb
      by_cases hlt : k < n
      · obtain ⟨b, off, rfl, hlt2, hc⟩ := (hS.below (Nat.le_refl _) HB.out).at hlt
        obtain ⟨b', off', rfl, hlt2', hc'⟩ := (hT.below (Nat.le_refl _) HB.out).at hlt
        obtain ⟨c0, c1, c2, c3⟩ := hc k hlt
        obtain ⟨d0, d1, d2, d3⟩ := hc' k hlt
        have hlti : (k : Int) < (n : Int) := by omega
        have C0 := Lat.cell (B := wr.heap.size) c0 hlt2
        have C1 := Lat.cell (B := wr.heap.size) c1 hlt2
        have C2 := Lat.cell (B := wr.heap.size) c2 hlt2
        have C3 := Lat.cell (B := wr.heap.size) c3 hlt2
        have D0 := Lat.cell (B := wr.heap.size) d0 hlt2'
        have D1 := Lat.cell (B := wr.heap.size) d1 hlt2'
        have D2 := Lat.cell (B := wr.heap.size) d2 hlt2'
        have D3 := Lat.cell (B := wr.heap.size) d3 hlt2'
        have hcall : Hid (∀ n : Lat wr.heap.size wr, Calls Try.prog 19 #[voV (E k), voV (F k)] n.val fun e w'' => e = .returned (.bool (sameV (E k) (F k))) ∧ ∃ m : Lat wr.heap.size wr, w'' = m.val) := fun n =>
          Calls.lat_of (eqVol_any (E k) (F k) n.val) (fun e w' h => ⟨h.2, h.1.mono n.bel.size⟩)
        clear hc hc' c0 c1 c2 c3 d0 d1 d2 d3
        go_wp2_with fail
        refine wp_region_lat (B := wr.heap.size) (w0 := wr) (by kernel_rfl) (by kernel_rfl) (Below.refl _ _) ?_
        repeat (go_big_quiet_step (exact hcall.out _))
        refine wpQuiet_nil ?_
        rintro _ ⟨nq, rfl⟩
        have hB : Hid (Below w.heap.size w nq.val) := HB.out.trans (nq.bel.mono HB.out.size)
        clear hcall C0 C1 C2 C3 D0 D1 D2 D3
        cases hq : sameV (E k) (F k) with
        | false =>
          have HX : Hid (false = eqVs n E F) := eqVs_not n k E F hlt hq
          clear hq
          go_wp2
          go_ret
          exact ⟨hB.out, ret_bool (by rw [← HX.out]; simp)⟩
        | true =>
          have HX : Hid (eqVs (k + 1) E F = true) := eqVs_succ k E F HE.out hq
          clear hq
          go_wp2
          go_roundw
          case rel => exact ⟨k + 1, by omega, by go_num, hB.out, HX.out⟩
          case measure => simp [intOf]; omega
      · have hkn : k = n := by omega
        have HK : Hid (k = n) := hkn
        clear hkn
        go_wp2
        go_ret
        exact ⟨HB.out, ret_bool (by rw [← HK.out, HE.out]; simp)⟩
  · have hb : ((n : Int) != (m : Int)) = true := by simp; omega
    go_enter Try.func14, Try.ntmps14
    go_wp2
    go_ret
    exact ⟨Below.refl _ _, ret_bool (by simp [hne])⟩

/-- The marks: four numbers a piece, the last as a text. -/
def marksV (k : Nat) (i : Nat) : Vo := ⟨((k + 4 * i : Nat) : Int), ((k + 4 * i + 1 : Nat) : Int), ((k + 4 * i + 2 : Nat) : Int), ⟨(markOf (k + 4 * i + 3)).toArray⟩⟩

/-- What grows alone. -/
theorem below_grown {w w' : World} (h : Below w.heap.size w w') (r : Option Nat) : w.grownBy w' r := ⟨h.os, h.tape, h.output, h.size, fun k hk _ => h.block k hk⟩

theorem vov_mark (n m k : Nat) (F : Nat → Vo) (hm : m < n) (t : ByteArray) (ht : t = ⟨(markOf (k + 4 * m + 3)).toArray⟩) :
    ((((vov n F).set (m * 4) (.int .i64 ((k : Int) + 4 * (m : Int)))).set (m * 4 + 1) (.int .i64 ((k : Int) + 4 * (m : Int) + 1))).set (m * 4 + 2) (.int .i64 ((k : Int) + 4 * (m : Int) + 1 + 1))).set (m * 4 + 3) (.string t) = vov n (fun i => if i = m then marksV k m else F i) := by
  rw [show (k : Int) + 4 * (m : Int) + 1 + 1 = ((k + 4 * m + 2 : Nat) : Int) by omega, show (k : Int) + 4 * (m : Int) + 1 = ((k + 4 * m + 1 : Nat) : Int) by omega, show (k : Int) + 4 * (m : Int) = ((k + 4 * m : Nat) : Int) by omega, ht]
  exact vov_set4 n m F (marksV k m) hm

theorem markText_at (k m : Nat) (w : World) (h1 : 1 ≤ k) (h2 : k + 4 * m ≤ 900000000) :
    Calls Try.prog 20 #[.int .i64 ((k : Int) + 4 * (m : Int) + 1 + 1 + 1)] w fun e w' => e = .returned (.string ⟨(markOf (k + 4 * m + 3)).toArray⟩) ∧ Below w.heap.size w w' := by
  rw [show (k : Int) + 4 * (m : Int) + 1 + 1 + 1 = ((k + 4 * m + 3 : Nat) : Int) by omega]
  exact markText_any (k + 4 * m + 3) w (by omega) (by omega)

set_option maxHeartbeats 2000000 in
theorem markVolS_own (a : Option Addr) (n c k B : Nat) (E : Nat → Vo) (w : World) (h : OwnV w B (.slice a n c) n E) (hn : n ≤ 1048576) (hk1 : 1 ≤ k) (hk : k ≤ 100000000) :
    Calls Try.prog 15 #[.slice a n c, .int .i64 k] w fun e w' => e = .returned (.int .i64 ((k + 4 * n : Nat) : Int)) ∧ OwnV w' B (.slice a n c) n (marksV k) ∧ w.grownBy w' (Value.slice a n c).ownBlock := by
  unfold OwnV at h
  go_enter Try.func15, Try.ntmps15
  go_wp2
  go_loopw [1, 5] (fun kk i wr => ∃ m : Nat, m ≤ n ∧ i = .int .i64 m ∧ kk = .int .i64 ((k + 4 * m : Nat) : Int) ∧ wr.ownsRow B 28 4 (.slice a n c) n (vov n (fun i => if i < m then marksV k i else E i)) ∧ w.grownBy wr (Value.slice a n c).ownBlock) (fun _ i _ => n - (intOf i).toNat)
  case atStart => exact ⟨0, Nat.zero_le _, rfl, rfl, by simpa using h, World.grownBy.refl _ _⟩
  case round =>
    obtain ⟨m, hm, rfl, rfl, hrow, hg⟩ := hrel
    by_cases hlt : m < n
    · obtain ⟨g, rfl, hgl⟩ := vowns_addr hrow (by omega)
      have hlti : (m : Int) < (n : Int) := by omega
      obtain ⟨v0, v1, v2, v3⟩ := vov_at (E := fun i => if i < m then marksV k i else E i) hlt
      have hc0 := hrow.cellAt (m * 4) (by omega)
      have hc1 := hrow.cellAt (m * 4 + 1) (by omega)
      have hc2 := hrow.cellAt (m * 4 + 2) (by omega)
      have hf0 := hrow.frozenAt (m * 4)
      have hf1 := hrow.frozenAt (m * 4 + 1)
      have hf2 := hrow.frozenAt (m * 4 + 2)
      rw [v0] at hc0
      rw [v1] at hc1
      rw [v2] at hc2
      have R1 := hrow.stored (m * 4) (.int .i64 ((k : Int) + 4 * (m : Int)))
      have R2 := R1.1.stored (m * 4 + 1) (.int .i64 ((k : Int) + 4 * (m : Int) + 1))
      have R3 := R2.1.stored (m * 4 + 2) (.int .i64 ((k : Int) + 4 * (m : Int) + 1 + 1))
      have HR : Hid _ := R3.1
      have HG : Hid (w.grownBy _ (Value.slice (some ⟨g, 0, none⟩) n c).ownBlock) := ((hg.trans R1.2).trans R2.2).trans R3.2
      clear hrow hg R1 R2 R3 v0 v1 v2 v3
      go_wp2_with fail
      refine (markText_at k m _ hk1 (by omega)).mono ?_
      obtain ⟨t, ht⟩ : ∃ t : ByteArray, t = ⟨(markOf (k + 4 * m + 3)).toArray⟩ := ⟨_, rfl⟩
      have HT : Hid _ := ht
      rw [← ht]
      clear ht hc0 hc1 hc2 hf0 hf1 hf2
      rintro e w4 ⟨rfl, hb4⟩
      have hrow4 := vowns_same HR.out (fun b e => hb4.block b (vowns_block HR.out e).2)
      have hc3 := hrow4.cellAt (m * 4 + 3) (by omega)
      have hf3 := hrow4.frozenAt (m * 4 + 3)
      rw [List.getElem?_set_ne (by omega), List.getElem?_set_ne (by omega), List.getElem?_set_ne (by omega), (vov_at (E := fun i => if i < m then marksV k i else E i) hlt).2.2.2] at hc3
      have R4 := hrow4.stored (m * 4 + 3) (.string t)
      rw [vov_mark n m k _ hlt t HT.out] at R4
      have HG4 : Hid (w.grownBy _ (Value.slice (some ⟨g, 0, none⟩) n c).ownBlock) := (HG.out.trans (below_grown hb4 _)).trans R4.2
      have HR4 : Hid _ := R4.1
      clear hrow4 R4 hb4 HR HG
      go_wp2
      go_roundw
      case rel => exact ⟨m + 1, by omega, by go_num, by go_num, by
        have := HR4.out
        rwa [vov_ext (F := fun i => if i < m + 1 then marksV k i else E i) (fun i hi => by
          by_cases e : i = m
          · subst e; simp
          · by_cases e2 : i < m
            · simp [e, e2, show i < m + 1 by omega]
            · simp [e, e2, show ¬ i < m + 1 by omega])] at this, HG4.out⟩
      case measure => simp [intOf]; omega
    · obtain rfl : m = n := by omega
      have HR : Hid _ := And.intro hrow hg
      clear hrow hg
      go_wp2
      go_ret
      refine ⟨rfl, ?_, HR.out.2⟩
      unfold OwnV
      rw [vov_ext (F := fun i => if i < m then marksV k i else E i) (fun i hi => by simp [hi])]
      exact HR.out.1

set_option maxHeartbeats 1000000 in
theorem heldVolS_any (a : Option Addr) (n c k : Nat) (w : World) (h : IsVos w a n (marksV k)) (hn : n ≤ 1048576) (hk1 : 1 ≤ k) (hk : k ≤ 100000000) :
    Calls Try.prog 16 #[.slice a n c, .int .i64 k] w fun e w' => e = .returned (.int .i64 ((k + 4 * n : Nat) : Int)) ∧ Below w.heap.size w w' := by
  go_enter Try.func16, Try.ntmps16
  go_wp2
  go_loopw [1, 5] (fun kk i wr => ∃ m : Nat, m ≤ n ∧ i = .int .i64 m ∧ kk = .int .i64 ((k + 4 * m : Nat) : Int) ∧ Below w.heap.size w wr) (fun _ i _ => n - (intOf i).toNat)
  case atStart => exact ⟨0, Nat.zero_le _, rfl, rfl, Below.refl _ _⟩
  case round =>
    obtain ⟨m, hm, rfl, rfl, hb⟩ := hrel
    have HB : Hid (Below w.heap.size w wr) := hb
    clear hb
    by_cases hlt : m < n
    · obtain ⟨b, off, rfl, hlt2, hc⟩ := (h.below (Nat.le_refl _) HB.out).at hlt
      obtain ⟨g0, g1, g2, g3⟩ := hc m hlt
      have hlti : (m : Int) < (n : Int) := by omega
      unfold marksV at g0 g1 g2 g3
      dsimp only at g0 g1 g2 g3
      have C3 := Lat.cell (B := wr.heap.size) g3 hlt2
      have hcall : Hid (∀ n : Lat wr.heap.size wr, Calls Try.prog 20 #[.int .i64 ((k : Int) + 4 * (m : Int) + 1 + 1 + 1)] n.val fun e w'' => e = .returned (.string ⟨(markOf (k + 4 * m + 3)).toArray⟩) ∧ ∃ m : Lat wr.heap.size wr, w'' = m.val) := fun n =>
        Calls.lat_of (markText_at k m n.val hk1 (by omega)) (fun e w' h => ⟨h.1, h.2.mono n.bel.size⟩)
      generalize (⟨(markOf (k + 4 * m + 3)).toArray⟩ : ByteArray) = t at hcall C3 g3
      have hnn : (!t.toList == t.toList) = false := by simp
      clear hc
      go_wp2_with fail
      refine wp_region_lat (B := wr.heap.size) (w0 := wr) (by kernel_rfl) (by kernel_rfl) (Below.refl _ _) ?_
      repeat (go_big_quiet_step (exact hcall.out _))
      refine wpQuiet_nil ?_
      rintro _ ⟨nq, rfl⟩
      have hB : Hid (Below w.heap.size w nq.val) := HB.out.trans (nq.bel.mono HB.out.size)
      clear hcall C3 g0 g1 g2 g3
      go_wp2
      go_roundw
      case rel => exact ⟨m + 1, by omega, by go_num, by go_num, hB.out⟩
      case measure => simp [intOf]; omega
    · obtain rfl : m = n := by omega
      go_wp2
      go_ret
      exact ⟨rfl, HB.out⟩
end Go.Proofs.Ytbhdfiliighfcaa
