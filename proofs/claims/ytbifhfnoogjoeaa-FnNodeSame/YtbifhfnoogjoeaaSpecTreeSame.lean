/-
  What TreeSame of the specification answers at two trees.
-/
import Derived.Test.YtbifhfnoogjoeaaSpecSame
import Derived.Test.YtbifhfnoogjoeaaNodesDef
namespace Go.Proofs.Ytbifhfnoogjoeaa
open Go.RowKit
set_option linter.unusedVariables false

/-- Two trees are one. -/
def treeSame (n m : Nat) (D E : Nat → Nd) (now now' : Int) : Bool := (decide (n = m) && sameAll n D E) && (now == now')

/-- What is known within TreeSame. -/
structure TSIn (w : World) (a a' : Option Addr) (n c m c' : Nat) (now now' : Int) (t : TypeId) (W : World) : Prop where
  p : Blk W w.heap.size #[.slice a n c, .int .i64 now] t
  p' : Blk W (w.heap.size + 1) #[.slice a' m c', .int .i64 now'] t
  bel : Below w.heap.size w W

theorem TSIn.below {w : World} {a a' : Option Addr} {n c m c' : Nat} {now now' : Int} {t : TypeId} {W W' : World} (h : TSIn w a a' n c m c' now now' t W) (hb : Below W.heap.size W W') : TSIn w a a' n c m c' now now' t W' :=
  ⟨h.p.below hb h.p.lt, h.p'.below hb h.p'.lt, h.bel.trans (hb.mono (by have := h.p.lt; omega))⟩

set_option maxHeartbeats 2000000 in
theorem specTreeSame_any (a a' : Option Addr) (n c m c' : Nat) (now now' : Int) (D E : Nat → Nd) (L M : Nat → Loc) (w : World) (hS : IsNds w a n D L) (hT : IsNds w a' m E M) (hf : FitAll n D) (hf' : FitAll m E) (hn : n ≤ maxLen) (hm : m ≤ maxLen) :
    Calls Try.prog 19 #[trV a n c now, trV a' m c' now'] w fun e w' => Below w.heap.size w w' ∧ e = .returned (.bool (treeSame n m D E now now')) := by
  have hn' := hn
  have hm' := hm
  unfold maxLen at hn' hm'
  unfold trV
  cases hnc : (now == now') with
  | false =>
    have hnb : (now != now') = true := by simp only [bne, hnc]; rfl
    have HN : Hid (false = treeSame n m D E now now') := by show _ = _; unfold treeSame; rw [hnc, Bool.and_false]
    clear hnc
    go_enter Try.func19, Try.ntmps19
    go_wp2_with fail
    go_ret
    exact ⟨((Below.refl _ _).alloc (Nat.le_refl _) _).alloc (by simp) _, ret_bool HN.out⟩
  | true =>
    have hnb : (now != now') = false := by simpa [bne] using hnc
    have HN : Hid ((now == now') = true) := hnc
    clear hnc
    by_cases hne : n = m
    · subst hne
      have hb : ((n : Int) != (n : Int)) = false := by simp
      go_enter Try.func19, Try.ntmps19
      go_wp2_with fail
      go_loopw [5] (fun i wr => ∃ k : Nat, k ≤ n ∧ i = .int .i64 k ∧ TSIn w a a' n c n c' now now' 25 wr ∧ sameAll k D E = true) (fun i _ => n - (intOf i).toNat)
      case atStart =>
        have h := new2 w #[.slice a n c, .int .i64 now] 25 #[.slice a' n c', .int .i64 now'] 25
        exact ⟨0, Nat.zero_le _, rfl, ⟨h.b0, h.b1, h.bel⟩, rfl⟩
      case round =>
        obtain ⟨k, hk, rfl, hin, heq⟩ := hrel
        have t0 : wr.cell? ⟨w.heap.size, 0, none⟩ = some (.slice a n c) := hin.p.cell 0
        have s0 : wr.cell? ⟨w.heap.size + 1, 0, none⟩ = some (.slice a' n c') := hin.p'.cell 0
        have hwl := hin.p.lt
        have hwl' := hin.p'.lt
        by_cases hlt : k < n
        · have hSr := hS.below (Nat.le_refl _) hin.bel
          have hTr := hT.below (Nat.le_refl _) hin.bel
          obtain ⟨b, off, rfl, hlt2, hc⟩ := hSr.at hlt
          obtain ⟨b', off', rfl, hlt2', hc'⟩ := hTr.at hlt
          obtain ⟨c0, c1, c2, c3, c4, hI⟩ := hc k hlt
          obtain ⟨d0, d1, d2, d3, d4, hI'⟩ := hc' k hlt
          have hlti : (k : Int) < (n : Int) := by omega
          have C0 := Lat.cell (B := wr.heap.size) c0 hlt2
          have C1 := Lat.cell (B := wr.heap.size) c1 hlt2
          have C2 := Lat.cell (B := wr.heap.size) c2 hlt2
          have C3 := Lat.cell (B := wr.heap.size) c3 hlt2
          have C4 := Lat.cell (B := wr.heap.size) c4 hlt2
          have D0 := Lat.cell (B := wr.heap.size) d0 hlt2'
          have D1 := Lat.cell (B := wr.heap.size) d1 hlt2'
          have D2 := Lat.cell (B := wr.heap.size) d2 hlt2'
          have D3 := Lat.cell (B := wr.heap.size) d3 hlt2'
          have D4 := Lat.cell (B := wr.heap.size) d4 hlt2'
          have T0 := Lat.cell (B := wr.heap.size) t0 hwl
          have S0 := Lat.cell (B := wr.heap.size) s0 hwl'
          have hcall : Hid (∀ q : Lat wr.heap.size wr, Calls Try.prog 21 #[ndV (D k) (L k), ndV (E k) (M k)] q.val fun e w'' => e = .returned (.bool ((D k).same (E k))) ∧ ∃ m : Lat wr.heap.size wr, w'' = m.val) := fun q =>
            Calls.lat_of (specNodeSame_any (D k) (E k) (L k) (M k) q.val (hI.below (Nat.le_refl _) q.bel) (hI'.below (Nat.le_refl _) q.bel) (hf k hlt) (hf' k hlt)) (fun e w' h => ⟨h.2, h.1.mono q.bel.size⟩)
          have HIN : Hid (TSIn w (some ⟨b, off, none⟩) (some ⟨b', off', none⟩) n c n c' now now' 25 wr ∧ sameAll k D E = true) := ⟨hin, heq⟩
          clear hc hc' hSr hTr c0 c1 c2 c3 c4 d0 d1 d2 d3 d4 hI hI' hin heq
          go_wp2_with fail
          refine wp_region_lat (B := wr.heap.size) (w0 := wr) (by kernel_rfl) (by kernel_rfl) (Below.refl _ _) ?_
          repeat (go_big_quiet_step (exact hcall.out _))
          refine wpQuiet_nil ?_
          rintro _ ⟨nq, rfl⟩
          have HB : Hid (TSIn w (some ⟨b, off, none⟩) (some ⟨b', off', none⟩) n c n c' now now' 25 nq.val) := HIN.out.1.below nq.bel
          clear hcall C0 C1 C2 C3 C4 D0 D1 D2 D3 D4 T0 S0 t0 s0 hwl hwl' hlt2 hlt2'
          cases hq : (D k).same (E k) with
          | false =>
            have HQ : Hid (false = treeSame n n D E now now') := by show _ = _; unfold treeSame; rw [← sameAll_not n k D E hlt hq]; simp
            clear hq
            go_wp2
            go_ret
            exact ⟨HB.out.bel, ret_bool HQ.out⟩
          | true =>
            have HQ : Hid ((D k).same (E k) = true) := hq
            clear hq
            go_wp2
            go_roundw
            case rel => exact ⟨k + 1, by omega, by go_num, HB.out, sameAll_succ k D E HIN.out.2 HQ.out⟩
            case measure => simp [intOf]; omega
        · have hkn : k = n := by omega
          have HK : Hid (true = treeSame n n D E now now' ∧ Below w.heap.size w wr) := ⟨by unfold treeSame; rw [← hkn, heq, HN.out]; simp, hin.bel⟩
          clear hkn hin heq
          go_wp2
          go_ret
          exact ⟨HK.out.2, ret_bool HK.out.1⟩
    · have hb : ((n : Int) != (m : Int)) = true := by simp; omega
      have HX : Hid (false = treeSame n m D E now now') := by show _ = _; unfold treeSame; rw [decide_eq_false hne]; rfl
      clear hne
      go_enter Try.func19, Try.ntmps19
      go_wp2_with fail
      go_ret
      exact ⟨((Below.refl _ _).alloc (Nat.le_refl _) _).alloc (by simp) _, ret_bool HX.out⟩
end Go.Proofs.Ytbifhfnoogjoeaa
