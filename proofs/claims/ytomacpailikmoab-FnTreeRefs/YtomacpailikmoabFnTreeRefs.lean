/-
  For every code, FnTreeRefs answers true: in a drawn tree all names are as many as all places have together; a directory has one, the root and what is free none, a file at least one; and the code reads afterwards as it read before. No condition.
-/
import Derived.Test.YtomacpailikmoabDrawTree
import Derived.Test.YtomacpailikmoabImplTreeRefs
import Derived.Test.YtomacpailikmoabRefsMath
namespace Go.Proofs.Ytomacpailikmoab.fnTreeRefs
open Go.ChangeShapes Go.WideShapes Go.ChangeAt Go.RowKit
set_option linter.unusedVariables false

set_option maxRecDepth 100000 in
set_option maxHeartbeats 2000000 in
theorem walk (a0 : Option Addr) (len0 cap0 : Nat) (zs0 : Nat → Int) (w : World) (hC : IsCode w a0 len0 zs0) (hl : len0 ≤ maxLen) (hp : len0 ≤ cap0) :
    Calls Try.prog 5 #[.slice a0 len0 cap0] w fun e w' => e = .returned (.bool true) ∧ Below w.heap.size w w' := by
  have hl' := hl
  unfold maxLen at hl'
  by_cases hbig : (1048576 : Int) < len0
  · go_enter Try.func5, Try.ntmps5
    go_wp2
    go_ret
    exact ⟨rfl, Below.refl _ _⟩
  · go_enter Try.func5, Try.ntmps5
    go_wp2_with fail
    refine (drawTreeRefs_any w a0 len0 cap0 zs0 hC hl hp).mono ?_
    rintro e w1 ⟨g, c, n, D, L, now, ino, rfl, hd, hi0, hi1⟩
    unfold trV
    have hn11 := hd.fair.few
    have hn1 := hd.fair.some
    have HT : Hid (InT w w1.heap.size g c n D L now (w1.alloc (.cells #[.slice (some ⟨g, 0, none⟩) n c, .int .i64 now] 25))) := InT.start hd
    clear hd hC
    have h64i : In64 ino := by unfold In64; omega
    go_wp2_with fail
    obtain ⟨T, hT⟩ : ∃ T, T = w1.heap.size := ⟨_, rfl⟩
    rw [← hT] at HT ⊢
    clear hT
    refine (implTreeRefs (some ⟨g, 0, none⟩) n c now ino D L _ HT.out.drawn.nds HT.out.drawn.fair.fits HT.out.drawn.fair.len HT.out.drawn.fair.size HT.out.in64 h64i).mono ?_
    rintro e w2 ⟨hb2, r1, rfl, hr1⟩
    have HT2 : Hid (InT w T g c n D L now w2) := HT.out.below hb2
    have HR : Hid (RefsAre n D now ino r1) := hr1
    clear HT hb2 hr1 w1
    have t0 : w2.cell? ⟨T, 0, none⟩ = some (.slice (some ⟨g, 0, none⟩) n c) := HT2.out.t.cell 0
    have t1 : w2.cell? ⟨T, 1, none⟩ = some (.int .i64 now) := HT2.out.t.cell 1
    go_wp2_with fail
    refine (specTreeRefs_any (some ⟨g, 0, none⟩) n c now ino D L w2 HT2.out.drawn.nds HT2.out.drawn.fair.fits HT2.out.drawn.fair.len HT2.out.drawn.fair.size).mono ?_
    rintro e w3 ⟨hb3, r2, rfl, hr2⟩
    have e12 : r2 = r1 := hr2.one HR.out
    subst e12
    have HT3 : Hid (InT w T g c n D L now w3) := HT2.out.below hb3
    clear HT2 hb3 hr2 t0 t1
    have t0 : w3.cell? ⟨T, 0, none⟩ = some (.slice (some ⟨g, 0, none⟩) n c) := HT3.out.t.cell 0
    have t1 : w3.cell? ⟨T, 1, none⟩ = some (.int .i64 now) := HT3.out.t.cell 1
    go_wp2_with fail
    refine (specTreeOk_any (some ⟨g, 0, none⟩) n c now D L w3 HT3.out.drawn.nds HT3.out.drawn.fair.fits HT3.out.drawn.fair.len HT3.out.drawn.fair.size).mono ?_
    rintro e w4 ⟨hb4, ok, rfl, hok⟩
    have HT4 : Hid (InT w T g c n D L now w4) := HT3.out.below hb4
    clear HT3 hb4 t0 t1
    have t0 : w4.cell? ⟨T, 0, none⟩ = some (.slice (some ⟨g, 0, none⟩) n c) := HT4.out.t.cell 0
    have t1 : w4.cell? ⟨T, 1, none⟩ = some (.int .i64 now) := HT4.out.t.cell 1
    cases ok with
    | false =>
      clear hok
      go_wp2_with fail
      refine (specTreeRefs_any (some ⟨g, 0, none⟩) n c now ino D L w4 HT4.out.drawn.nds HT4.out.drawn.fair.fits HT4.out.drawn.fair.len HT4.out.drawn.fair.size).mono ?_
      rintro e w5 ⟨hb5, r3, rfl, hr3⟩
      have e13 : r3 = r2 := hr3.one HR.out
      subst e13
      have HT5 : Hid (InT w T g c n D L now w5) := HT4.out.below hb5
      clear HT4 hb5 hr3 t0 t1
      go_wp2
      go_ret
      exact ⟨by simp, HT5.out.drawn.bel⟩
    | true =>
      have HG : Hid (TreeGood n D now) := hok.1 rfl
      clear hok
      have hns : nameSum D n ≤ 1048576 := Nat.le_trans (nameSum_le D n) HT4.out.drawn.fair.size
      have hrs : sizeTo D n ≤ 1048576 := HT4.out.drawn.fair.size
      have HA : Hid (FitAll n D ∧ n ≤ maxLen ∧ sizeTo D n ≤ 1048576 ∧ In64 now) := ⟨HT4.out.drawn.fair.fits, HT4.out.drawn.fair.len, HT4.out.drawn.fair.size, HT4.out.in64⟩
      go_wp2_with fail
      go_loopw [6, 7, 8] (fun a b i wr => ∃ k : Nat, k ≤ n ∧ a = .int .i64 (nameSum D k : Nat) ∧ b = .int .i64 (refSum D n k : Nat) ∧ i = .int .i64 k ∧ InT w T g c n D L now wr) (fun _ _ i _ => n - (intOf i).toNat)
      case atStart => exact ⟨0, Nat.zero_le _, rfl, rfl, rfl, HT4.out⟩
      case round =>
        obtain ⟨k, hk, rfl, rfl, rfl, hin⟩ := hrel
        clear HT4 t0 t1
        have t0 : wr.cell? ⟨T, 0, none⟩ = some (.slice (some ⟨g, 0, none⟩) n c) := hin.t.cell 0
        have t1 : wr.cell? ⟨T, 1, none⟩ = some (.int .i64 now) := hin.t.cell 1
        have HIN : Hid _ := hin
        clear hin
        by_cases hlt : k < n
        · have hki : (k : Int) < (n : Int) := by omega
          go_wp2_with fail
          refine (implTreeRefs (some ⟨g, 0, none⟩) n c now k D L wr HIN.out.drawn.nds HA.out.1 HA.out.2.1 HA.out.2.2.1 HA.out.2.2.2 (by unfold In64; omega)).mono ?_
          rintro e w5 ⟨hb5, r3, rfl, hr3⟩
          have er : r3 = refsTo D (k : Nat) n := hr3.yes HG.out (by omega) (by omega)
          subst er
          have hin5 := HIN.out.below hb5
          clear hr3 hb5 HIN t0 t1
          have t0 : w5.cell? ⟨T, 0, none⟩ = some (.slice (some ⟨g, 0, none⟩) n c) := hin5.t.cell 0
          obtain ⟨c0, c1, c2, c3, c4⟩ := hin5.drawn.own.cells k hlt
          have HIN : Hid _ := hin5
          have hle := refsTo_le D (k : Nat) n
          have hrs2 := refSum_le D n k
          have hmul : k * sizeTo D n ≤ 11 * 1048576 := Nat.mul_le_mul (by omega) hrs
          have hnk : nameSum D k + (D k).nn = nameSum D (k + 1) := rfl
          have hrk : refSum D n k + refsTo D (k : Nat) n = refSum D n (k + 1) := rfl
          have hn1' : nameSum D k + (D k).nn ≤ 2000000 := by
            have h1 := HIN.out.drawn.fair.each k hlt
            have h2 := nameSum_le D k
            have h3 := sizeTo_mono D hk
            have h4 := h1.nn
            omega
          have hw1 : IntKind.i64.wrap ((nameSum D k : Int) + ((D k).nn : Int)) = ((nameSum D (k + 1) : Nat) : Int) := by rw [wrap_i64 _ (by omega) (by omega)]; omega
          have hw2 : IntKind.i64.wrap ((refSum D n k : Int) + ((refsTo D (k : Nat) n : Nat) : Int)) = ((refSum D n (k + 1) : Nat) : Int) := by rw [wrap_i64 _ (by omega) (by omega)]; omega
          have HW : Hid _ := And.intro hw1 hw2
          clear hin5 hnk hrk
          obtain ⟨kd, hkd⟩ : ∃ z, z = (D k).kind := ⟨_, rfl⟩
          obtain ⟨rr, hrr⟩ : ∃ z, z = refsTo D (k : Nat) n := ⟨_, rfl⟩
          have hfree : kd = 0 → rr = 0 := fun h => by rw [hrr]; exact HG.out.refs_free (by rw [← hkd]; exact h)
          have hfile : kd = 1 → 1 ≤ rr := fun h => by
            rw [hrr]
            refine HG.out.refs_file hlt (by rw [← hkd, h]; decide) ?_
            rcases Nat.eq_zero_or_pos k with e | e
            · subst e; have := HG.out.root; omega
            · exact e
          have hdir : kd = 2 → 1 ≤ k → rr = 1 := fun h h1 => by rw [hrr]; exact HG.out.one k h1 hlt (by rw [← hkd]; exact h)
          have hkinds : kd = 0 ∨ kd = 1 ∨ kd = 2 := by rw [hkd]; exact HG.out.kinds hlt
          rw [← hkd] at c0
          rw [← hrr] at hw2 hle
          rw [← hrr]
          have HRK : Hid (refSum D n k + rr = refSum D n (k + 1)) := by rw [hrr]; rfl
          have hrr' := hrr
          clear hrr hkd
          have hroot : k = 0 → rr = 0 := fun h => by rw [hrr']; subst h; exact HG.out.refs_root
          clear hrr'
          rcases hkinds with h | h | h
          · subst h
            have h0 := hfree rfl
            subst h0
            clear hfree hfile hdir hroot
            go_wp2
            go_roundw
            case rel => exact ⟨k + 1, by omega, rfl, by rw [← HRK.out]; rfl, by go_num, HIN.out⟩
            case measure => simp [intOf]; omega
          · subst h
            have h0 := hfile rfl
            have hd1 : decide (((rr : Nat) : Int) < 1) = false := by simp; omega
            clear hfree hfile hdir hroot
            go_wp2
            go_roundw
            case rel => exact ⟨k + 1, by omega, rfl, rfl, by go_num, HIN.out⟩
            case measure => simp [intOf]; omega
          · subst h
            by_cases hk0 : k = 0
            · have h0 := hroot hk0
              subst h0
              clear hfree hfile hdir hroot
              subst hk0
              simp only [Nat.zero_mul, Nat.zero_add] at c0 c1 c2 c3 c4
              go_wp2
              go_roundw
              case rel => exact ⟨1, by omega, rfl, by rw [← HRK.out]; rfl, rfl, HIN.out⟩
              case measure => simp [intOf]; omega
            · have h0 := hdir rfl (by omega)
              subst h0
              clear hfree hfile hdir hroot
              go_wp2
              go_roundw
              case rel => exact ⟨k + 1, by omega, rfl, by have := HRK.out; congr 1; omega, by go_num, HIN.out⟩
              case measure => simp [intOf]; omega
        · have hkn : k = n := by omega
          subst hkn
          have HS : Hid (refSum D k k = nameSum D k) := HG.out.sums k (Nat.le_refl _)
          rw [HS.out]
          clear HS
          go_wp2_with fail
          refine (implTreeRefs (some ⟨g, 0, none⟩) k c now 0 D L wr HIN.out.drawn.nds HA.out.1 HA.out.2.1 HA.out.2.2.1 HA.out.2.2.2 (by unfold In64; omega)).mono ?_
          rintro e w5 ⟨hb5, r3, rfl, hr3⟩
          have er : r3 = refsTo D (0 : Int) k := hr3.yes HG.out (by omega) (by omega)
          rw [HG.out.refs_root] at er
          subst er
          have hin5 := HIN.out.below hb5
          clear hr3 hb5 HIN t0 t1
          have t0 : w5.cell? ⟨T, 0, none⟩ = some (.slice (some ⟨g, 0, none⟩) k c) := hin5.t.cell 0
          have HIN : Hid _ := hin5
          clear hin5
          by_cases hino : 0 ≤ ino ∧ ino < k
          · have hd1 : decide ((0 : Int) ≤ ino) = true := by simp; omega
            have hd2 : decide (ino < (k : Int)) = true := by simp; omega
            go_wp2
            go_ret
            exact ⟨by simp, HIN.out.drawn.bel⟩
          · have hz := HR.out.no (fun h => hino h.2)
            subst hz
            by_cases hi2 : 0 ≤ ino
            · have hd1 : decide ((0 : Int) ≤ ino) = true := by simp; omega
              have hd2 : decide (ino < (k : Int)) = false := by simp; omega
              go_wp2
              go_ret
              exact ⟨by simp, HIN.out.drawn.bel⟩
            · have hd1 : decide ((0 : Int) ≤ ino) = false := by simp; omega
              go_wp2
              go_ret
              exact ⟨by simp, HIN.out.drawn.bel⟩

set_option maxRecDepth 100000 in
theorem lifted (os : Os) (started : os.Started) (H : Type) (enc : TypeId × Value → H) :
    ReturnsInHanded {} Try.checked os 5 .any (Rows.fnTreeRefsSpec.pre6 enc Try.prog Try.f5 Rows.fnTreeRefsRow.domain false) (Rows.fnTreeRefsSpec.post enc Try.prog Try.f5 false true false false) := by
  refine returnsInHanded_of_change (C := Try.checked) own started (by kernel_rfl) Try.func5
    (ChangeSpec.witness6 (enc := enc) (C := Try.checked) false ⟨#[], #[.slice none 0 0], []⟩ 8 (by kernel_rfl) (by kernel_rfl) (by kernel_rfl) (by kernel_rfl)) ?_
  intro W base args ds gs before hval0 hW hcnd _
  have hval : ∀ (j : Nat) t v, Try.f5.params[j]? = some t → args[j]? = some v → Value.okWide Try.prog W .any base t v := hval0
  have hW' := hW
  obtain ⟨p, q, hA0, hV, rfl, hfz, hnd⟩ := hW
  have hA : DataW.TrodAll enc Try.prog W 0 (fun _ => true) true Try.f5.params.toList args.toList ds p := hA0
  rw [Try.params5] at hA hval
  obtain ⟨v0, vs0, d0, ds0, p0, q0, hargs, rfl, rfl, h0, r0⟩ := trodAll_cons hA
  obtain ⟨rfl, rfl, rfl⟩ := trodAll_nil r0
  obtain rfl : args = #[v0] := by cases args; simp_all
  obtain ⟨rfl, rfl⟩ := trodVars_none hV
  obtain ⟨a0, len0, cap0, rfl⟩ := okWide_slice Try.underlying22 (hval 0 22 v0 rfl rfl)
  have k0 := h0
  have lt0 : ∀ x ∈ p0, x.block < W.heap.size := by obtain ⟨m, hm⟩ := k0; exact DataW.trod_lt m _ _ _ hm
  obtain ⟨zs0, hC0, hl0, hp0⟩ := openCode h0
  clear hA0 hval0
  refine (walk a0 len0 cap0 zs0 W hC0 hl0 hp0).mono fun e W' ⟨he, bel⟩ => ?_
  subst he
  exact ⟨_, rfl, _, _, _, [], _, [], hW', trodAll_mk1 (shut_bool Try.underlying4 _), (trodAll_cons_mk (Below.trod laidOut (by kernel_rfl) (of_decide_eq_true (by kernel_rfl)) k0 bel lt0) trodAll_mk0), rfl, bel.frame _, fun h => by cases h⟩

theorem over : Rows.fnTreeRefsRow.holds Try.pinned (OpenSpec.ofChange Rows.fnTreeRefsSpec) :=
  OpenClaim.holds_of_wide 5 Try.f5 rfl rfl rfl rfl rfl rfl rfl ⟨rfl, rfl, rfl, rfl, rfl⟩ rfl rfl rfl rfl rfl (by kernel_rfl) Try.func5 (by kernel_rfl)
    (of_decide_eq_true (by kernel_rfl)) (by unfold Func.isWrapper; first | (rw [if_pos (by decide +kernel)]; kernel_rfl) | (rw [if_neg (by decide +kernel)]; exact ⟨rfl, rfl⟩))
    (fun os started H enc _ => lifted os started H enc)
end Go.Proofs.Ytomacpailikmoab.fnTreeRefs

namespace Go.Proofs.Ytomacpailikmoab
theorem fnTreeRefs_holds : Rows.FnTreeRefsSaid := fnTreeRefs.over
end Go.Proofs.Ytomacpailikmoab
