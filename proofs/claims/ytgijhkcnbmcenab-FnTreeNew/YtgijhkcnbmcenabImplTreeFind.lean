/-
  What TreeFind of the program answers.
-/
import Derived.Test.YtgijhkcnbmcenabImplTreeOk
import Derived.Test.YtgijhkcnbmcenabImplKids
namespace Go.Proofs.Ytgijhkcnbmcenab
open Go.RowKit Go.Maps Go.WideMaps
set_option linter.unusedVariables false

/-- What TreeFind of the program has to keep. -/
def ImplTreeFind : Prop := ∀ (a : Option Addr) (n c : Nat) (now : Int) (D : Nat → Nd) (L : Nat → Loc) (pa : Option Addr) (m pc : Nat) (S : Nat → ByteArray) (w : World), IsNds w a n D L → IsStrs w pa m S → FitAll n D → n ≤ maxLen → sizeTo D n ≤ 1048576 → In64 now → m ≤ maxLen → Small m S →
    Calls Try.prog 16 #[trV a n c now, .slice pa m pc] w fun e w' => Below w.heap.size w w' ∧ ∃ r, e = .returned (.int .i64 r) ∧ FindAre n D now m S r

set_option maxHeartbeats 2000000 in
theorem implTreeFind : ImplTreeFind := by
  intro a n c now D L pa m pc S w hS hP hf hn hsz hnow hm hsm
  have hn' := hn
  have hm' := hm
  unfold maxLen at hn' hm'
  unfold trV
  go_enter Try.func16, Try.ntmps16
  go_wp2_with fail
  refine at_world (F := New1 w _ _) (new1 w _ _) ?_
  rintro W ⟨hp, hb, hs⟩
  refine (implTreeOk a n c now D L W (hS.below (Nat.le_refl _) hb) hf hn hsz hnow).mono ?_
  rintro e w1 ⟨hb1, r, rfl, hr⟩
  have hp1 := hp.below hb1 (by omega)
  have HB : Hid (RefsIn w a n c now w1 ∧ (r = true ↔ TreeGood n D now)) := ⟨⟨hp1, hb.trans (hb1.mono (by omega))⟩, hr⟩
  clear hp hb hs hb1 hp1 hr
  cases r with
  | false =>
    have HN : Hid (FindAre n D now m S (-1)) := findAre_no (fun g => by have := HB.out.2.2 g.1; cases this)
    go_wp2_with fail
    go_ret
    exact ⟨HB.out.1.bel, -1, rfl, HN.out⟩
  | true =>
    have HG : Hid (TreeGood n D now) := HB.out.2.1 rfl
    go_wp2_with fail
    refine (implPathOk_any pa m pc S w1 (hP.below (Nat.le_refl _) HB.out.1.bel) hsm hm).mono ?_
    rintro e w2 ⟨rfl, rfl⟩
    cases hpo : pathOk m S with
    | false =>
      have HN : Hid (FindAre n D now m S (-1)) := findAre_no (fun g => by have := g.2.1; rw [hpo] at this; cases this)
      clear hpo
      go_wp2_with fail
      go_ret
      exact ⟨HB.out.1.bel, -1, rfl, HN.out⟩
    | true =>
      have HP : Hid (pathOk m S = true) := hpo
      clear hpo
      go_wp2_with fail
      go_loopw [5, 20] (fun x i wr => ∃ k y : Nat, k ≤ m ∧ i = .int .i64 k ∧ x = .int .i64 y ∧ RefsIn w a n c now wr ∧ Leads D S k y) (fun _ i _ => m - (intOf i).toNat)
      case atStart => exact ⟨0, 0, Nat.zero_le _, rfl, rfl, HB.out.1, .root⟩
      case round =>
        obtain ⟨k, y, hk, rfl, rfl, hin, hl⟩ := hrel
        have t0 : wr.cell? ⟨w.heap.size, 0, none⟩ = some (.slice a n c) := hin.t.cell 0
        have hwl : w.heap.size < wr.heap.size := hin.t.lt
        by_cases hlt : k < m
        · have hyn : y < n := hl.lt HG.out
          have hSr := hS.below (Nat.le_refl _) hin.bel
          have hPr := hP.below (Nat.le_refl _) hin.bel
          obtain ⟨b, off, rfl, hlt2, hc⟩ := hSr.at hyn
          obtain ⟨b', off', rfl, hlt2', hc'⟩ := hPr.at hlt
          obtain ⟨c0, c1, c2, c3, c4, hI⟩ := hc y hyn
          have p0 := hc' k hlt
          have hki : (k : Int) < (m : Int) := by omega
          have hyi : (y : Int) < (n : Int) := by omega
          have HIN : Hid (RefsIn w (some ⟨b, off, none⟩) n c now wr ∧ Leads D S k y ∧ NdIn wr (D y) (L y)) := ⟨hin, hl, hI⟩
          have hkn : (D y).kn = (D y).nn ∧ ∀ i j, i < (D y).nn → j < (D y).nn → ((D y).names i).toList = ((D y).names j).toList → i = j := by
            by_cases h0 : 0 < (D y).nn
            · have h := dir_of_names (HG.out.nodes y hyn) h0
              exact ⟨h.2.2, fun i j hi hj e => names_inj h.2.1 hi hj e⟩
            · refine ⟨?_, fun i j hi => by omega⟩
              have h := HG.out.nodes y hyn
              unfold ndOk at h
              split at h
              · unfold freeOk at h; simp at h; omega
              · split at h
                · unfold fileOk at h; simp at h; omega
                · split at h
                  · unfold dirOk at h
                    simp only [Bool.and_eq_true, decide_eq_true_eq] at h
                    exact h.1.1.2.2
                  · cases h
          have HKN : Hid _ := hkn
          clear hc hc' hin hl hI hkn hSr hPr
          have hkey : keyOf Try.prog 9 (.string (S k)) = some (keyL (S k)) := keyOf_string_mk Try.underlying9 (hsm k hlt)
          go_wp2_with fail
          refine (kidsByName_any (D y) (L y) wr HIN.out.2.2 (hf y hyn) HKN.out.1 HKN.out.2).mono ?_
          rintro e w3 ⟨hb3, bm, M, rfl, hown, hkept⟩
          have HN : Hid (RefsIn w (some ⟨b, off, none⟩) n c now w3 ∧ Kept (D y).names (D y).kids (D y).nn M) := ⟨⟨HIN.out.1.t.below hb3 hwl, HIN.out.1.bel.trans (hb3.mono HIN.out.1.bel.size)⟩, hkept⟩
          clear hb3 hkept c0 c1 c2 c3 c4 p0 t0 hwl hlt2 hlt2'
          go_wp2_with (at_lookup; refine wpList_lookup_own_ok_int _ rfl _ _ 58 rfl 9 3 .i64 law Try.underlying58 Try.underlying3 (zeroInt _) bm _ M rfl hown _ _ rfl hkey ?_; intro z hat hwz)
          · have hno : Maps.has M (keyL (S k)) = false := by
              have h : (!Maps.has M (keyL (S k))) = true := ‹_›
              simpa using h
            have HX : Hid (FindAre n D now m S (-1)) := findAre_no (fun g => (HIN.out.2.1.stuck g.1 (fun i hi e => by
              have := (HN.out.2.has (S k)).2 ⟨i, hi, e⟩
              rw [hno] at this; cases this) hlt) g.2.2)
            go_ret
            exact ⟨HN.out.1.bel, -1, rfl, HX.out⟩
          · have hyes : Maps.has M (keyL (S k)) = true := by
              have h : (!Maps.has M (keyL (S k))) = false := ‹_›
              simpa using h
            obtain ⟨i, hi, e⟩ := (HN.out.2.has (S k)).1 hyes
            have hz : (D y).kids i = z := by
              have h1 := HN.out.2.at_ i hi (.lit (.int .i64 0))
              rw [keyL_eq e, hat] at h1
              simpa using h1.symm
            have hkid := kids_in HG.out.nodes y hyn i (by have := HKN.out.1; omega)
            have hst := HIN.out.2.1.step hi e
            go_roundw
            case rel => exact ⟨k + 1, ((D y).kids i).toNat, by omega, by go_num, by rw [← hz]; congr 1; omega, HN.out.1, hst⟩
            case measure => simp [intOf]; omega
        · have hke : k = m := by omega
          have HX : Hid (FindAre n D now m S y ∧ Below w.heap.size w wr) := ⟨findAre_end HG.out HP.out (hke ▸ hl), hin.bel⟩
          clear hke hin hl
          go_wp2
          go_ret
          exact ⟨HX.out.2, _, rfl, HX.out.1⟩
end Go.Proofs.Ytgijhkcnbmcenab
