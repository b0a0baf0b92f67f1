/-
  For every code, FnBookRise answers true: of a drawn book to which levels are added that rise, each at the turn of the last, all stay; a lesser one leaves only what is lesser; and the code reads afterwards as it read before. No condition.
-/
import Derived.Test.YtkdfimpeghhboaaOpenCode
import Derived.Test.YtkdfimpeghhboaaDrawBook
import Derived.Test.YtkdfimpeghhboaaAddMore
import Derived.Test.YtkdfimpeghhboaaImplAdd
namespace Go.Proofs.Ytkdfimpeghhboaa.fnBookRise
open Go.ChangeShapes Go.WideShapes Go.ChangeAt Go.RowKit
set_option linter.unusedVariables false

/-- What is known of the book that rises: a level was added to some book at this turn, and it lies in memory. -/
def RiseI (n : Nat) (E : Nat → En) (lev date : Int) (w W : World) (k : Int) (y : Value) : Prop :=
  ∃ (n1 : Nat) (E1 : Nat → En) (lev1 : Int) (a1 : Option Addr) (c1 : Nat), addOk n1 E1 lev1 date = true ∧ lev1 = k ∧ (lev < k → baseTo E1 k n1 = date) ∧ y = .slice a1 (addTo n1 E1 lev1 date).length c1 ∧ IsEns W a1 (addTo n1 E1 lev1 date).length (addE n1 E1 lev1 date) ∧ Below w.heap.size w W

set_option maxHeartbeats 4000000 in
theorem walk (a : Option Addr) (len cap : Nat) (zs : Nat → Int) (w : World) (hc : IsCode w a len zs) (hlen : len ≤ maxLen) (hcap : len ≤ cap) :
    Calls Try.prog 5 #[.slice a len cap] w fun e w' => e = .returned (.bool true) ∧ Below w.heap.size w w' := by
  have l1 := hlen
  unfold maxLen at l1
  by_cases hbig : (1048576 : Int) < len
  · go_enter Try.func5, Try.ntmps5
    go_wp2
    go_ret
    exact ⟨rfl, Below.refl _ _⟩
  · have hb1 : decide ((1048576 : Int) < len) = false := by simp; omega
    go_enter Try.func5, Try.ntmps5
    go_wp2_with fail
    refine (drawBookAdd_lev w a len cap zs hc hlen hcap).mono ?_
    rintro e w1 ⟨v, lev, date, rfl, hO1, hlv⟩
    obtain ⟨n, al, cl, E, rfl, hl, ho1, hB1⟩ := hO1.lies
    have hI1 := ho1.reads
    have hm : n ≤ maxLen := by unfold maxLen; omega
    have HB1 : Hid (Below w.heap.size w w1) := hB1
    have hge1 : w.heap.size ≤ w1.heap.size := hB1.size
    clear hB1 hO1 ho1 hc
    go_wp2_with fail
    refine (implBookAdd_any al n cl E lev date w1 hI1 hm).mono ?_
    rintro e w2 ⟨ax, mx, cx, rfl, hb2, hx2, hmx⟩
    have HMX : Hid (mx = (addAns n E lev date).length) := hmx
    clear hmx
    have hI2 := hI1.below (Nat.le_refl _) hb2
    have HB2 : Hid (Below w.heap.size w w2) := HB1.out.trans (hb2.mono hge1)
    clear hb2 HB1 hI1
    go_wp2_with fail
    refine (specBookAdd_any al n cl E lev date w2 hI2 hm).mono ?_
    rintro e w3 ⟨ay, my, cy, rfl, hb3, hy3, hmy⟩
    obtain rfl : mx = my := HMX.out.trans hmy.symm
    have hI := hI2.below (Nat.le_refl _) hb3
    have hx := hx2.below hb3
    have HB : Hid (Below w.heap.size w w3) := HB2.out.trans (hb3.mono HB2.out.size)
    have hfew := addAns_few n E lev date
    clear hb3 HB2 hI2 hx2 hy3 hmy hge1
    cases hok : addOk n E lev date with
    | false =>
      clear hx hI hok hfew
      go_wp2
      go_ret
      exact ⟨rfl, HB.out⟩
    | true =>
      have hmx := HMX.out
      clear HMX
      rw [addAns_yes hok] at hx hmx
      have hlev := entOk_iff.1 (addOk_iff.1 hok).2.1
      have hl0 : 0 ≤ lev := hlev.1
      have hl9 : lev ≤ 9 := hlev.2.1
      obtain ⟨hX0, -, -⟩ := hx.isEns
      have hX : IsEns w3 ax (addTo n E lev date).length (addE n E lev date) := hX0
      subst hmx
      have HS : Hid (RiseI n E lev date w w3 lev (.slice ax (addTo n E lev date).length cx)) := ⟨n, E, lev, ax, cx, hok, rfl, fun h => by omega, rfl, hX, HB.out⟩
      clear hok hx hX0 hfew hI hX hlev
      go_wp2
      go_loopw [10, 11] (fun y i wr => ∃ k : Int, lev ≤ k ∧ k ≤ 9 ∧ i = .int .i64 (k + 1) ∧ RiseI n E lev date w wr k y) (fun _ i _ => (10 - intOf i).toNat)
      case atStart => exact ⟨lev, Int.le_refl _, hl9, rfl, HS.out⟩
      case round =>
        obtain ⟨k, hk0, hk9, rfl, n1, E1, lev1, a1, c1, hok1, rfl, hpre, rfl, hY, hB⟩ := hrel
        have hL1 : (addTo n1 E1 lev1 date).length ≤ 11 := by have := addAns_few n1 E1 lev1 date; rwa [addAns_yes hok1] at this
        have hmY : (addTo n1 E1 lev1 date).length ≤ maxLen := by unfold maxLen; omega
        have HOK1 : Hid (addOk n1 E1 lev1 date = true ∧ (lev < lev1 → baseTo E1 lev1 n1 = date)) := ⟨hok1, hpre⟩
        have HB1 : Hid (Below w.heap.size w wr) := hB
        have hge : w.heap.size ≤ wr.heap.size := hB.size
        clear hB hpre
        by_cases hlt : lev1 < 9
        · have hle : decide (lev1 + 1 ≤ 9) = true := decide_eq_true (by omega)
          obtain ⟨hok2, hlen2⟩ := add_greater hok1 (show lev1 < lev1 + 1 by omega) (by omega)
          clear hok1
          go_wp2_with fail
          refine (implBookAdd_any a1 _ c1 _ (lev1 + 1) date wr hY hmY).mono ?_
          rintro e w5 ⟨a2, m2, c2, rfl, hb5, hz5, hm5⟩
          rw [addAns_yes hok2] at hz5 hm5
          obtain ⟨hZ0, -, -⟩ := hz5.isEns
          have hZ : IsEns w5 a2 (addTo (addTo n1 E1 lev1 date).length (addE n1 E1 lev1 date) (lev1 + 1) date).length (addE (addTo n1 E1 lev1 date).length (addE n1 E1 lev1 date) (lev1 + 1) date) := hZ0
          rw [hok2]
          have hb : baseTo (addE n1 E1 lev1 date) (lev1 + 1) (addTo n1 E1 lev1 date).length = date := by rw [add_base HOK1.out.1, if_pos (by omega)]
          have HN : Hid (RiseI n E lev date w w5 (lev1 + 1) (.slice a2 m2 c2)) := ⟨_, _, lev1 + 1, a2, c2, hok2, rfl, fun _ => hb, by rw [hm5], hZ, HB1.out.trans (hb5.mono hge)⟩
          have hlenI : ((m2 : Int) != ((addTo n1 E1 lev1 date).length : Int) + 1) = false := by rw [hm5, hlen2]; simp
          clear hZ hZ0 hz5 hb5 hY hb hok2 hm5 hlen2 HB1 hge HOK1
          generalize (addTo n1 E1 lev1 date).length = L1 at *
          go_wp2
          go_roundw
          case rel => exact ⟨lev1 + 1, by omega, by omega, rfl, HN.out⟩
          case measure => simp [intOf]; omega
        · obtain rfl : lev1 = 9 := by omega
          have hle : decide ((9 : Int) + 1 ≤ 9) = false := by decide
          obtain ⟨hok2, hone⟩ := add_zero hok1
          have hbz : bookBase (addTo n1 E1 9 date).length (addE n1 E1 9 date) 9 = date := by
            unfold bookBase
            rw [if_pos (add_isBook hok1), add_base hok1, if_neg (by omega)]
            exact HOK1.out.2 (by omega)
          clear hok1
          go_wp2_with fail
          refine (implBookAdd_any a1 _ c1 _ 0 date wr hY hmY).mono ?_
          rintro e w5 ⟨a2, m2, c2, rfl, hb5, hz5, hm5⟩
          rw [addAns_yes hok2, hone] at hz5 hm5
          rw [hok2]
          obtain ⟨hZ0, -, -⟩ := hz5.isEns
          have hm1 : m2 = 1 := hm5
          subst hm1
          obtain ⟨bz, oz, rfl, hltz, hcz⟩ := hZ0.at (show 0 < [(⟨0, date⟩ : En)].length by simp)
          obtain ⟨z0, z1⟩ := hcz 0 (by simp)
          have z0' : w5.cell? ⟨bz, oz, none⟩ = some (.int .i64 0) := by simpa using z0
          have z1' : w5.cell? ⟨bz, oz + 1, none⟩ = some (.int .i64 date) := by simpa using z1
          have hY5 := hY.below (Nat.le_refl _) hb5
          have HB5 : Hid (Below w.heap.size w w5) := HB1.out.trans (hb5.mono hge)
          clear z0 z1 hcz hZ0 hz5 hm5 hb5 hY hok2 hone HB1 hge HOK1
          go_wp2_with fail
          refine (implBookBase_any a1 _ c1 _ 9 w5 hY5 hmY).mono ?_
          rintro e w6 ⟨hb6, rfl⟩
          rw [hbz]
          have HF : Hid (Below w.heap.size w w6) := HB5.out.trans (hb6.mono HB5.out.size)
          clear hb6 hbz hY5 HB5 z0' z1'
          go_wp2
          go_ret
          exact ⟨rfl, HF.out⟩

set_option maxRecDepth 100000 in
theorem lifted (os : Os) (started : os.Started) (H : Type) (enc : TypeId × Value → H) :
    ReturnsInHanded {} Try.checked os 5 .any (Rows.fnBookRiseSpec.pre6 enc Try.prog Try.f5 Rows.fnBookRiseRow.domain false) (Rows.fnBookRiseSpec.post enc Try.prog Try.f5 false true false false) := by
  refine returnsInHanded_of_change (C := Try.checked) own started (by kernel_rfl) Try.func5
    (ChangeSpec.witness6 (enc := enc) (C := Try.checked) false ⟨#[], #[.slice none 0 0], []⟩ 8 (by kernel_rfl) (by kernel_rfl) (by kernel_rfl) (by kernel_rfl)) ?_
  intro W base args ds gs before hval0 hW hcnd _
  have hval : ∀ (j : Nat) t v, Try.f5.params[j]? = some t → args[j]? = some v → Value.okWide Try.prog W .any base t v := hval0
  have hW' := hW
  obtain ⟨p, q, hA0, hV, rfl, hfz, hnd⟩ := hW
  have hA : DataW.TrodAll enc Try.prog W 0 (fun _ => true) true Try.f5.params.toList args.toList ds p := hA0
  rw [Try.params5] at hA hval
  obtain ⟨v0, vs0, d0, ds0, p0, q0, hargs, rfl, rfl, h0, r0⟩ := trodAll_cons hA
  obtain ⟨rfl, rfl, rfl⟩ := trodAll_nil r0
  obtain rfl : args = #[v0] := by cases args; simp_all
  obtain ⟨rfl, rfl⟩ := trodVars_none hV
  obtain ⟨a0, len0, cap0, rfl⟩ := okWide_slice Try.underlying22 (hval 0 22 v0 rfl rfl)
  have k0 := h0
  have lt0 : ∀ x ∈ p0, x.block < W.heap.size := by obtain ⟨m, hm⟩ := k0; exact DataW.trod_lt m _ _ _ hm
  obtain ⟨zs0, hC0, hl0, hp0⟩ := openCode h0
  clear hA0 hval0
  refine (walk a0 len0 cap0 zs0 W hC0 hl0 hp0).mono fun e W' ⟨he, bel⟩ => ?_
  subst he
  exact ⟨_, rfl, _, _, _, [], _, [], hW', trodAll_mk1 (shut_bool Try.underlying4 _), (trodAll_cons_mk (Below.trod laidOut (by kernel_rfl) (of_decide_eq_true (by kernel_rfl)) k0 bel lt0) trodAll_mk0), rfl, bel.frame _, fun h => by cases h⟩

theorem over : Rows.fnBookRiseRow.holds Try.pinned (OpenSpec.ofChange Rows.fnBookRiseSpec) :=
  OpenClaim.holds_of_wide 5 Try.f5 rfl rfl rfl rfl rfl rfl rfl ⟨rfl, rfl, rfl, rfl, rfl⟩ rfl rfl rfl rfl rfl (by kernel_rfl) Try.func5 (by kernel_rfl)
    (of_decide_eq_true (by kernel_rfl)) (by unfold Func.isWrapper; first | (rw [if_pos (by decide +kernel)]; kernel_rfl) | (rw [if_neg (by decide +kernel)]; exact ⟨rfl, rfl⟩))
    (fun os started H enc _ => lifted os started H enc)
end Go.Proofs.Ytkdfimpeghhboaa.fnBookRise

namespace Go.Proofs.Ytkdfimpeghhboaa
theorem fnBookRise_holds : Rows.FnBookRiseSaid := fnBookRise.over
end Go.Proofs.Ytkdfimpeghhboaa
