/-
  For every code, FnBookAdd answers true: in a drawn book in which a level was kept it is since its turn that a greater one is kept next; a lesser or the same one is kept since when it was ahead; and the code reads afterwards as it read before. No condition.
-/
import Derived.Test.YtkdfimpeghhboaaOpenCode
import Derived.Test.YtkdfimpeghhboaaDrawBook
import Derived.Test.YtkdfimpeghhboaaAddMore
import Derived.Test.YtkdfimpeghhboaaImplAdd
namespace Go.Proofs.Ytkdfimpeghhboaa.fnBookAdd
open Go.ChangeShapes Go.WideShapes Go.ChangeAt Go.RowKit
set_option linter.unusedVariables false

set_option maxHeartbeats 4000000 in
theorem walk (a : Option Addr) (len cap : Nat) (zs : Nat → Int) (w : World) (hc : IsCode w a len zs) (hlen : len ≤ maxLen) (hcap : len ≤ cap) :
    Calls Try.prog 4 #[.slice a len cap] w fun e w' => e = .returned (.bool true) ∧ Below w.heap.size w w' := by
  have l1 := hlen
  unfold maxLen at l1
  by_cases hbig : (1048576 : Int) < len
  · go_enter Try.func4, Try.ntmps4
    go_wp2
    go_ret
    exact ⟨rfl, Below.refl _ _⟩
  · have hb1 : decide ((1048576 : Int) < len) = false := by simp; omega
    go_enter Try.func4, Try.ntmps4
    go_wp2_with fail
    refine (drawBookAdd_any w a len cap zs hc hlen hcap).mono ?_
    rintro e w1 ⟨v, lev, date, rfl, hO1⟩
    obtain ⟨n, al, cl, E, rfl, hl, ho1, hB1⟩ := hO1.lies
    have hI1 := ho1.reads
    have hm : n ≤ maxLen := by unfold maxLen; omega
    have HB1 : Hid (Below w.heap.size w w1) := hB1
    have hge1 : w.heap.size ≤ w1.heap.size := hB1.size
    clear hB1 hO1 ho1 hc
    go_wp2_with fail
    refine (implBookAdd_any al n cl E lev date w1 hI1 hm).mono ?_
    rintro e w2 ⟨ax, mx, cx, rfl, hb2, hx2, hmx⟩
    have HMX : Hid (mx = (addAns n E lev date).length) := hmx
    clear hmx
    have hI2 := hI1.below (Nat.le_refl _) hb2
    have HB2 : Hid (Below w.heap.size w w2) := HB1.out.trans (hb2.mono hge1)
    clear hb2 HB1 hI1
    go_wp2_with fail
    refine (specBookAdd_any al n cl E lev date w2 hI2 hm).mono ?_
    rintro e w3 ⟨ay, my, cy, rfl, hb3, hy3, hmy⟩
    obtain rfl : mx = my := HMX.out.trans hmy.symm
    have hI := hI2.below (Nat.le_refl _) hb3
    have hx := hx2.below hb3
    have HB : Hid (Below w.heap.size w w3) := HB2.out.trans (hb3.mono HB2.out.size)
    have hfew := addAns_few n E lev date
    have hy := hy3
    clear hb3 HB2 hI2 hx2 hy3 hmy hge1
    have hfe : (bookTo E n != bookTo E n) = false := by simp
    go_wp2_with fail
    refine (implBookOk_any al n cl E w3 hI hm).mono ?_
    rintro e w4 ⟨hb4, rfl⟩
    have hI4 := hI.below (Nat.le_refl _) hb4
    have hx4 := hx.below hb4
    have hy4 := hy.below hb4
    have HB4 : Hid (Below w.heap.size w w4) := HB.out.trans (hb4.mono HB.out.size)
    clear hI hx hy hb4 HB
    go_wp2_with fail
    refine (specBookOk_any al n cl E w4 hI4 hm).mono ?_
    rintro e w5 ⟨⟨q5, rfl⟩, rfl⟩
    have hI := hI4.below (Nat.le_refl _) (below_drewN (Below.refl _ _) q5)
    have hx := hx4.below (below_drewN (Below.refl _ _) q5)
    have hy := hy4.below (below_drewN (Below.refl _ _) q5)
    have HB : Hid (Below w.heap.size w (w4.drewN q5)) := below_drewN HB4.out q5
    clear hI4 hx4 hy4 HB4
    generalize w4.drewN q5 = W at *
    cases hok : addOk n E lev date with
    | false =>
      have hmx : mx = 0 := by rw [HMX.out, addAns_no hok]; rfl
      subst hmx
      clear hx hy hI hok hfew HMX
      go_wp2
      go_ret
      exact ⟨rfl, HB.out⟩
    | true =>
      have hmx := HMX.out
      clear HMX
      rw [addAns_yes hok] at hx hy hmx
      obtain ⟨hX0, -, -⟩ := hx.isEns
      have hX : IsEns W ax (addTo n E lev date).length (addE n E lev date) := hX0
      obtain ⟨hY0, -, -⟩ := hy.isEns
      have hY : IsEns W ay (addTo n E lev date).length (addE n E lev date) := hY0
      have hL : (addTo n E lev date).length ≤ 11 := by rw [addAns_yes hok] at hfew; exact hfew
      have hlev := entOk_iff.1 (addOk_iff.1 hok).2.1
      have hl0 : 0 ≤ lev := hlev.1
      have hl9 : lev ≤ 9 := hlev.2.1
      have hbk : bookTo E n = true := (addOk_iff.1 hok).1
      subst hmx
      have HBX : Hid (∀ x : Int, bookBase (addTo n E lev date).length (addE n E lev date) x = if lev < x then date else bookBase n E x) := fun x => by
        unfold bookBase
        rw [if_pos (add_isBook hok), if_pos hbk]
        exact add_base hok x
      have HAG : Hid (addOk (addTo n E lev date).length (addE n E lev date) lev date = true ∧ (addTo (addTo n E lev date).length (addE n E lev date) lev date).length = (addTo n E lev date).length ∧ bookTo (addE n E lev date) (addTo n E lev date).length = true) := ⟨(add_again hok).1, (add_again hok).2, add_isBook hok⟩
      clear hok hx hy hX0 hY0 hfew hlev hbk hfe
      generalize (addTo n E lev date).length = L at *
      generalize addE n E lev date = F at *
      have hmL : L ≤ maxLen := by unfold maxLen; omega
      go_wp2
      go_loopw [10] (fun i wr => ∃ k q : Nat, k ≤ L ∧ i = .int .i64 k ∧ wr = W.drewN q) (fun i _ => L - (intOf i).toNat)
      case atStart => exact ⟨0, 0, Nat.zero_le _, rfl, rfl⟩
      case round =>
        obtain ⟨k, q, hk, rfl, rfl⟩ := hrel
        by_cases hlt : k < L
        · obtain ⟨bx, ox, rfl, hltx, hcx⟩ := hX.at hlt
          obtain ⟨x0, x1⟩ := hcx k hlt
          obtain ⟨by_, oy, rfl, hlty, hcy⟩ := hY.at hlt
          obtain ⟨y0, y1⟩ := hcy k hlt
          have hlti : (k : Int) < (L : Int) := by omega
          clear hcx hcy
          go_wp2
          go_quiet (fail)
          go_wp2
          go_roundw
          case rel => exact ⟨k + 1, _, by omega, by go_num, rfl⟩
          case measure => simp [intOf]; omega
        · obtain rfl : k = L := by omega
          have hXq := hX.below (Nat.le_refl _) (below_drewN (Below.refl _ _) q)
          have hIq := hI.below (Nat.le_refl _) (below_drewN (Below.refl _ _) q)
          have HBq : Hid (Below w.heap.size w (W.drewN q)) := below_drewN HB.out q
          clear hI hX hY HB hlt
          generalize W.drewN q = W1 at *
          go_wp2
          go_loopw [11] (fun i wr => ∃ x : Int, 0 ≤ x ∧ x ≤ 10 ∧ i = .int .i64 x ∧ IsEns wr ax k F ∧ IsEns wr al n E ∧ Below w.heap.size w wr) (fun i _ => (10 - intOf i).toNat)
          case atStart => exact ⟨0, by omega, by omega, rfl, hXq, hIq, HBq.out⟩
          case round =>
            obtain ⟨x, hx0, hx1, rfl, hX, hI, hB⟩ := hrel
            have HB : Hid (Below w.heap.size w wr) := hB
            have hge : w.heap.size ≤ wr.heap.size := hB.size
            clear hB
            by_cases hx9 : x ≤ 9
            · go_wp2_with fail
              refine (implBookBase_any ax k cx F x wr hX hmL).mono ?_
              rintro e w6 ⟨hb6, rfl⟩
              have hX6 := hX.below (Nat.le_refl _) hb6
              have hI6 := hI.below (Nat.le_refl _) hb6
              have HB6 : Hid (Below w.heap.size w w6) := HB.out.trans (hb6.mono hge)
              rw [HBX.out x]
              clear hX hI hb6 HB hge
              by_cases hxl : lev < x
              · rw [if_pos hxl]
                have hd1 : decide (lev < x) = true := decide_eq_true hxl
                have hd2 : decide (x ≤ lev) = false := decide_eq_false (by omega)
                have hd3 : (date != date) = false := by simp
                have H6 : Hid (IsEns w6 ax k F ∧ IsEns w6 al n E) := ⟨hX6, hI6⟩
                clear hX6 hI6
                go_wp2
                go_roundw
                case rel => exact ⟨x + 1, by omega, by omega, rfl, H6.out.1, H6.out.2, HB6.out⟩
                case measure => simp [intOf]; omega
              · rw [if_neg hxl]
                have hd1 : decide (lev < x) = false := decide_eq_false hxl
                have hd2 : decide (x ≤ lev) = true := decide_eq_true (by omega)
                have hd3 : (bookBase n E x != bookBase n E x) = false := by simp
                go_wp2_with fail
                refine (implBookBase_any al n cl E x w6 hI6 hm).mono ?_
                rintro e w7 ⟨hb7, rfl⟩
                have H7 : Hid (IsEns w7 ax k F ∧ IsEns w7 al n E ∧ Below w.heap.size w w7) := ⟨hX6.below (Nat.le_refl _) hb7, hI6.below (Nat.le_refl _) hb7, HB6.out.trans (hb7.mono HB6.out.size)⟩
                clear hX6 hI6 hb7 HB6
                go_wp2
                go_roundw
                case rel => exact ⟨x + 1, by omega, by omega, rfl, H7.out.1, H7.out.2.1, H7.out.2.2⟩
                case measure => simp [intOf]; omega
            · obtain rfl : x = 10 := by omega
              go_wp2_with fail
              refine (implBookAdd_any ax k cx F lev date wr hX hmL).mono ?_
              rintro e w6 ⟨az, mz, cz, rfl, hb6, hz6, hmz⟩
              have hmz' : mz = k := by rw [hmz, addAns_yes HAG.out.1]; exact HAG.out.2.1
              subst hmz'
              rw [HAG.out.1]
              have hX6 := hX.below (Nat.le_refl _) hb6
              have HB6 : Hid (Below w.heap.size w w6) := HB.out.trans (hb6.mono hge)
              clear hX hI hb6 hz6 hmz hge HB
              go_wp2_with fail
              refine (implBookOk_any ax mz cx F w6 hX6 hmL).mono ?_
              rintro e w7 ⟨hb7, rfl⟩
              rw [HAG.out.2.2]
              have HF : Hid (Below w.heap.size w w7) := HB6.out.trans (hb7.mono HB6.out.size)
              clear hX6 hb7 HB6 HAG
              go_wp2
              go_ret
              exact ⟨rfl, HF.out⟩

set_option maxRecDepth 100000 in
theorem lifted (os : Os) (started : os.Started) (H : Type) (enc : TypeId × Value → H) :
    ReturnsInHanded {} Try.checked os 4 .any (Rows.fnBookAddSpec.pre6 enc Try.prog Try.f4 Rows.fnBookAddRow.domain false) (Rows.fnBookAddSpec.post enc Try.prog Try.f4 false true false false) := by
  refine returnsInHanded_of_change (C := Try.checked) own started (by kernel_rfl) Try.func4
    (ChangeSpec.witness6 (enc := enc) (C := Try.checked) false ⟨#[], #[.slice none 0 0], []⟩ 8 (by kernel_rfl) (by kernel_rfl) (by kernel_rfl) (by kernel_rfl)) ?_
  intro W base args ds gs before hval0 hW hcnd _
  have hval : ∀ (j : Nat) t v, Try.f4.params[j]? = some t → args[j]? = some v → Value.okWide Try.prog W .any base t v := hval0
  have hW' := hW
  obtain ⟨p, q, hA0, hV, rfl, hfz, hnd⟩ := hW
  have hA : DataW.TrodAll enc Try.prog W 0 (fun _ => true) true Try.f4.params.toList args.toList ds p := hA0
  rw [Try.params4] at hA hval
  obtain ⟨v0, vs0, d0, ds0, p0, q0, hargs, rfl, rfl, h0, r0⟩ := trodAll_cons hA
  obtain ⟨rfl, rfl, rfl⟩ := trodAll_nil r0
  obtain rfl : args = #[v0] := by cases args; simp_all
  obtain ⟨rfl, rfl⟩ := trodVars_none hV
  obtain ⟨a0, len0, cap0, rfl⟩ := okWide_slice Try.underlying22 (hval 0 22 v0 rfl rfl)
  have k0 := h0
  have lt0 : ∀ x ∈ p0, x.block < W.heap.size := by obtain ⟨m, hm⟩ := k0; exact DataW.trod_lt m _ _ _ hm
  obtain ⟨zs0, hC0, hl0, hp0⟩ := openCode h0
  clear hA0 hval0
  refine (walk a0 len0 cap0 zs0 W hC0 hl0 hp0).mono fun e W' ⟨he, bel⟩ => ?_
  subst he
  exact ⟨_, rfl, _, _, _, [], _, [], hW', trodAll_mk1 (shut_bool Try.underlying4 _), (trodAll_cons_mk (Below.trod laidOut (by kernel_rfl) (of_decide_eq_true (by kernel_rfl)) k0 bel lt0) trodAll_mk0), rfl, bel.frame _, fun h => by cases h⟩

theorem over : Rows.fnBookAddRow.holds Try.pinned (OpenSpec.ofChange Rows.fnBookAddSpec) :=
  OpenClaim.holds_of_wide 4 Try.f4 rfl rfl rfl rfl rfl rfl rfl ⟨rfl, rfl, rfl, rfl, rfl⟩ rfl rfl rfl rfl rfl (by kernel_rfl) Try.func4 (by kernel_rfl)
    (of_decide_eq_true (by kernel_rfl)) (by unfold Func.isWrapper; first | (rw [if_pos (by decide +kernel)]; kernel_rfl) | (rw [if_neg (by decide +kernel)]; exact ⟨rfl, rfl⟩))
    (fun os started H enc _ => lifted os started H enc)
end Go.Proofs.Ytkdfimpeghhboaa.fnBookAdd

namespace Go.Proofs.Ytkdfimpeghhboaa
theorem fnBookAdd_holds : Rows.FnBookAddSaid := fnBookAdd.over
end Go.Proofs.Ytkdfimpeghhboaa
