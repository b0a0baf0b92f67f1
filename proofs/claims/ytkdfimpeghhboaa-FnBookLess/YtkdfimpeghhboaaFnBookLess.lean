/-
  For every code, FnBookLess answers true: of a drawn book to which a level is added all lesser ones stay, and no greater one; it is since the greatest lesser one that the level was kept; and the code reads afterwards as it read before. No condition.
-/
import Derived.Test.YtkdfimpeghhboaaOpenCode
import Derived.Test.YtkdfimpeghhboaaDrawBook
import Derived.Test.YtkdfimpeghhboaaAddMore
import Derived.Test.YtkdfimpeghhboaaImplAdd
namespace Go.Proofs.Ytkdfimpeghhboaa.fnBookLess
open Go.ChangeShapes Go.WideShapes Go.ChangeAt Go.RowKit
set_option linter.unusedVariables false

set_option maxHeartbeats 4000000 in
theorem walk (a : Option Addr) (len cap : Nat) (zs : Nat → Int) (w : World) (hc : IsCode w a len zs) (hlen : len ≤ maxLen) (hcap : len ≤ cap) :
    Calls Try.prog 6 #[.slice a len cap] w fun e w' => e = .returned (.bool true) ∧ Below w.heap.size w w' := by
  have l1 := hlen
  unfold maxLen at l1
  by_cases hbig : (1048576 : Int) < len
  · go_enter Try.func6, Try.ntmps6
    go_wp2
    go_ret
    exact ⟨rfl, Below.refl _ _⟩
  · have hb1 : decide ((1048576 : Int) < len) = false := by simp; omega
    go_enter Try.func6, Try.ntmps6
    go_wp2_with fail
    refine (drawBookAdd_any w a len cap zs hc hlen hcap).mono ?_
    rintro e w1 ⟨v, lev, date, rfl, hO1⟩
    obtain ⟨n, al, cl, E, rfl, hl, ho1, hB1⟩ := hO1.lies
    have hI1 := ho1.reads
    have hm : n ≤ maxLen := by unfold maxLen; omega
    have HB1 : Hid (Below w.heap.size w w1) := hB1
    have hge1 : w.heap.size ≤ w1.heap.size := hB1.size
    clear hB1 hO1 ho1 hc
    go_wp2_with fail
    refine (implBookAdd_any al n cl E lev date w1 hI1 hm).mono ?_
    rintro e w2 ⟨ax, mx, cx, rfl, hb2, hx2, hmx⟩
    have HMX : Hid (mx = (addAns n E lev date).length) := hmx
    clear hmx
    have hI2 := hI1.below (Nat.le_refl _) hb2
    have HB2 : Hid (Below w.heap.size w w2) := HB1.out.trans (hb2.mono hge1)
    clear hb2 HB1 hI1
    go_wp2_with fail
    refine (specBookAdd_any al n cl E lev date w2 hI2 hm).mono ?_
    rintro e w3 ⟨ay, my, cy, rfl, hb3, hy3, hmy⟩
    obtain rfl : mx = my := HMX.out.trans hmy.symm
    have hI := hI2.below (Nat.le_refl _) hb3
    have hx := hx2.below hb3
    have HB : Hid (Below w.heap.size w w3) := HB2.out.trans (hb3.mono HB2.out.size)
    have hfew := addAns_few n E lev date
    clear hb3 HB2 hI2 hx2 hy3 hmy hge1
    cases hok : addOk n E lev date with
    | false =>
      clear hx hI hok hfew
      go_wp2
      go_ret
      exact ⟨rfl, HB.out⟩
    | true =>
      have hmx := HMX.out
      clear HMX
      have HOK : Hid (addOk n E lev date = true) := hok
      rw [addAns_yes hok] at hx hmx
      obtain ⟨hX0, _, _⟩ := hx.isEns
      have hX : IsEns w3 ax (addTo n E lev date).length (addE n E lev date) := hX0
      obtain ⟨m, hmn, hlm, g1, g2, g3, g4, _⟩ := add_parts hok
      have hbase := base_cut hmn g3 g4
      have hbk := (addOk_iff.1 hok).1
      rw [hlm] at hmx hX
      subst hmx
      have HG : Hid ((∀ i, i < m → addE n E lev date i = E i) ∧ addE n E lev date m = ⟨lev, date⟩ ∧ (∀ i, i < m → (E i).lev < lev) ∧ (∀ i, m ≤ i → i < n → lev ≤ (E i).lev) ∧ bookBase n E lev = if m = 0 then 0 else (E (m - 1)).date) := ⟨g1, g2, g3, g4, by unfold bookBase; rw [if_pos hbk, hbase]⟩
      clear hok hx hX0 hlm g1 g2 g3 g4 hbase hfew
      go_wp2
      go_loopw [10, 11] (fun s i wr => ∃ k q : Nat, k ≤ n ∧ i = .int .i64 k ∧ s = .int .i64 (min k m : Nat) ∧ wr = w3.drewN q) (fun _ i _ => n - (intOf i).toNat)
      case atStart => exact ⟨0, 0, Nat.zero_le _, rfl, by simp, rfl⟩
      case round =>
        obtain ⟨k, q, hk, rfl, rfl, rfl⟩ := hrel
        by_cases hlt : k < n
        · obtain ⟨b, off, rfl, hlt2, hcc⟩ := hI.at hlt
          obtain ⟨c0, c1⟩ := hcc k hlt
          have hlti : (k : Int) < (n : Int) := by omega
          clear hcc
          by_cases hkm : k < m
          · obtain ⟨bx, ox, rfl, hltx, hcx⟩ := hX.at (show k < m + 1 by omega)
            obtain ⟨x0, x1⟩ := hcx k (by omega)
            rw [HG.out.1 k hkm] at x0 x1
            have hge : decide (lev ≤ (E k).lev) = false := by have := HG.out.2.2.1 k hkm; simp; omega
            have hmin : min k m = k := by omega
            have hmin2 : Hid (min (k + 1) m = k + 1) := show _ = _ by omega
            have hkx : (k : Int) < (m : Int) + 1 := by omega
            rw [hmin]
            clear hcx hmin
            go_wp2
            go_quiet (fail)
            go_wp2
            go_roundw
            case rel => exact ⟨k + 1, _, by omega, by go_num, by rw [hmin2.out]; go_num, rfl⟩
            case measure => simp [intOf]; omega
          · have hge : decide (lev ≤ (E k).lev) = true := by have := HG.out.2.2.2.1 k (by omega) hlt; simp; omega
            have hmin : Hid (min (k + 1) m = min k m) := show _ = _ by omega
            go_wp2
            go_roundw
            case rel => exact ⟨k + 1, _, by omega, by go_num, by rw [hmin.out], rfl⟩
            case measure => simp [intOf]; omega
        · obtain rfl : k = n := by omega
          have hmin : min k m = m := by omega
          rw [hmin]
          have hXq := hX.below (Nat.le_refl _) (below_drewN (Below.refl _ _) q)
          have hIq := hI.below (Nat.le_refl _) (below_drewN (Below.refl _ _) q)
          have HBq : Hid (Below w.heap.size w (w3.drewN q)) := below_drewN HB.out q
          clear hI hX HB hlt hmin
          generalize w3.drewN q = W at *
          obtain ⟨bx, ox, rfl, hltx, hcx⟩ := hXq.at (show m < m + 1 by omega)
          obtain ⟨x0, x1⟩ := hcx m (by omega)
          rw [HG.out.2.1] at x0 x1
          have hml : (m : Int) < (m : Int) + 1 := by omega
          clear hcx
          go_wp2_with fail
          refine (implBookBase_any al k cl E lev W hIq hm).mono ?_
          rintro e w5 ⟨hb5, rfl⟩
          rw [HG.out.2.2.2.2]
          have hX5 := hXq.below (Nat.le_refl _) hb5
          have HF : Hid (Below w.heap.size w w5) := HBq.out.trans (hb5.mono HBq.out.size)
          clear hXq hIq HBq hb5 x0 x1
          rcases Nat.eq_zero_or_pos m with rfl | hpos
          · simp only [if_true]
            clear HG
            go_wp2
            go_ret
            exact ⟨rfl, HF.out⟩
          · obtain ⟨j, rfl⟩ : ∃ j, m = j + 1 := ⟨m - 1, by omega⟩
            rw [if_neg (by omega), show j + 1 - 1 = j by omega]
            obtain ⟨bz, oz, hz, hltz, hcz⟩ := hX5.at (show j < j + 1 + 1 by omega)
            cases hz
            obtain ⟨z0, z1⟩ := hcz j (by omega)
            rw [HG.out.1 j (by omega)] at z0 z1
            have ej : ((j : Int) + 1 - 1) = (j : Int) := by omega
            have e0 : ((j : Int) + 1 == 0) = false := by simp; omega
            have e1 : decide (0 < (j : Int) + 1) = true := decide_eq_true (by omega)
            clear hcz HG hX5
            go_wp2
            go_ret
            exact ⟨rfl, HF.out⟩

set_option maxRecDepth 100000 in
theorem lifted (os : Os) (started : os.Started) (H : Type) (enc : TypeId × Value → H) :
    ReturnsInHanded {} Try.checked os 6 .any (Rows.fnBookLessSpec.pre6 enc Try.prog Try.f6 Rows.fnBookLessRow.domain false) (Rows.fnBookLessSpec.post enc Try.prog Try.f6 false true false false) := by
  refine returnsInHanded_of_change (C := Try.checked) own started (by kernel_rfl) Try.func6
    (ChangeSpec.witness6 (enc := enc) (C := Try.checked) false ⟨#[], #[.slice none 0 0], []⟩ 8 (by kernel_rfl) (by kernel_rfl) (by kernel_rfl) (by kernel_rfl)) ?_
  intro W base args ds gs before hval0 hW hcnd _
  have hval : ∀ (j : Nat) t v, Try.f6.params[j]? = some t → args[j]? = some v → Value.okWide Try.prog W .any base t v := hval0
  have hW' := hW
  obtain ⟨p, q, hA0, hV, rfl, hfz, hnd⟩ := hW
  have hA : DataW.TrodAll enc Try.prog W 0 (fun _ => true) true Try.f6.params.toList args.toList ds p := hA0
  rw [Try.params6] at hA hval
  obtain ⟨v0, vs0, d0, ds0, p0, q0, hargs, rfl, rfl, h0, r0⟩ := trodAll_cons hA
  obtain ⟨rfl, rfl, rfl⟩ := trodAll_nil r0
  obtain rfl : args = #[v0] := by cases args; simp_all
  obtain ⟨rfl, rfl⟩ := trodVars_none hV
  obtain ⟨a0, len0, cap0, rfl⟩ := okWide_slice Try.underlying22 (hval 0 22 v0 rfl rfl)
  have k0 := h0
  have lt0 : ∀ x ∈ p0, x.block < W.heap.size := by obtain ⟨m, hm⟩ := k0; exact DataW.trod_lt m _ _ _ hm
  obtain ⟨zs0, hC0, hl0, hp0⟩ := openCode h0
  clear hA0 hval0
  refine (walk a0 len0 cap0 zs0 W hC0 hl0 hp0).mono fun e W' ⟨he, bel⟩ => ?_
  subst he
  exact ⟨_, rfl, _, _, _, [], _, [], hW', trodAll_mk1 (shut_bool Try.underlying4 _), (trodAll_cons_mk (Below.trod laidOut (by kernel_rfl) (of_decide_eq_true (by kernel_rfl)) k0 bel lt0) trodAll_mk0), rfl, bel.frame _, fun h => by cases h⟩

theorem over : Rows.fnBookLessRow.holds Try.pinned (OpenSpec.ofChange Rows.fnBookLessSpec) :=
  OpenClaim.holds_of_wide 6 Try.f6 rfl rfl rfl rfl rfl rfl rfl ⟨rfl, rfl, rfl, rfl, rfl⟩ rfl rfl rfl rfl rfl (by kernel_rfl) Try.func6 (by kernel_rfl)
    (of_decide_eq_true (by kernel_rfl)) (by unfold Func.isWrapper; first | (rw [if_pos (by decide +kernel)]; kernel_rfl) | (rw [if_neg (by decide +kernel)]; exact ⟨rfl, rfl⟩))
    (fun os started H enc _ => lifted os started H enc)
end Go.Proofs.Ytkdfimpeghhboaa.fnBookLess

namespace Go.Proofs.Ytkdfimpeghhboaa
theorem fnBookLess_holds : Rows.FnBookLessSaid := fnBookLess.over
end Go.Proofs.Ytkdfimpeghhboaa
