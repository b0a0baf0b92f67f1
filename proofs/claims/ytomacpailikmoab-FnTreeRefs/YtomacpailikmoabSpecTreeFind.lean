/-
  What TreeFind of the specification answers.
-/
import Derived.Test.YtomacpailikmoabFindMath
namespace Go.Proofs.Ytomacpailikmoab
open Go.RowKit
set_option linter.unusedVariables false

/-- The first place of a name in a directory; -1, if there is none. -/
def nameIx (d : Nd) (s : ByteArray) : Int := match (List.range d.nn).find? (fun i => (d.names i).toList == s.toList) with | some i => (i : Int) | none => -1

theorem nameIx_none {d : Nd} {s : ByteArray} (h : ∀ i, i < d.nn → ¬ (d.names i).toList = s.toList) : nameIx d s = -1 := by
  unfold nameIx
  rw [List.find?_eq_none.2 (fun i hi => by simpa using h i (by simpa using hi))]

theorem nameIx_some {d : Nd} {s : ByteArray} {k : Nat} (hk : k < d.nn) (he : (d.names k).toList = s.toList) (h : ∀ i, i < k → ¬ (d.names i).toList = s.toList) : nameIx d s = k := by
  unfold nameIx
  have : (List.range d.nn).find? (fun i => (d.names i).toList == s.toList) = some k := by
    rw [List.find?_range_eq_some]
    exact ⟨by simpa using he, by simpa using hk, fun j hj => by simpa using h j hj⟩
  rw [this]

theorem nameIx_spec (d : Nd) (s : ByteArray) : (nameIx d s = -1 ∧ ∀ i, i < d.nn → ¬ (d.names i).toList = s.toList) ∨ ∃ i : Nat, nameIx d s = i ∧ i < d.nn ∧ (d.names i).toList = s.toList := by
  unfold nameIx
  split
  · rename_i i hi
    have h1 := List.find?_some hi
    have h2 := List.mem_of_find?_eq_some hi
    exact Or.inr ⟨i, rfl, by simpa using h2, by simpa using h1⟩
  · rename_i hi
    have := List.find?_eq_none.1 hi
    exact Or.inl ⟨rfl, fun i hlt => by simpa using this i (by simpa using hlt)⟩

/-- What is known within l2Name. -/
structure NmIn (w : World) (d : Nd) (l : Loc) (W : World) : Prop where
  d : Blk W w.heap.size #[.int .i64 d.kind, .string d.text, .slice l.nA d.nn l.nc, .slice l.kA d.kn l.kc, .int .i64 d.turn] 36
  bel : Below w.heap.size w W

set_option maxHeartbeats 1000000 in
theorem l2Name_any (d : Nd) (l : Loc) (s : ByteArray) (w : World) (hI : NdIn w d l) (hn : d.nn ≤ maxLen) :
    Calls Try.prog 65 #[ndV d l, .string s] w fun e w' => Below w.heap.size w w' ∧ e = .returned (.int .i64 (nameIx d s)) := by
  unfold maxLen at hn
  unfold ndV
  go_enter Try.func65, Try.ntmps65
  go_wp2
  go_loopw [5] (fun i wr => ∃ k : Nat, k ≤ d.nn ∧ i = .int .i64 k ∧ NmIn w d l wr ∧ ∀ i, i < k → ¬ (d.names i).toList = s.toList) (fun i _ => d.nn - (intOf i).toNat)
  case atStart => exact ⟨0, Nat.zero_le _, rfl, ⟨(new1 w _ _).b0, (new1 w _ _).bel⟩, fun i hi => by omega⟩
  case round =>
    obtain ⟨k, hk, rfl, hin, hall⟩ := hrel
    have d2 : wr.cell? ⟨w.heap.size, 2, none⟩ = some (.slice l.nA d.nn l.nc) := hin.d.cell 2
    have hIr := hI.1.below (Nat.le_refl _) hin.bel
    have HE : Hid (NmIn w d l wr ∧ ∀ i, i < k → ¬ (d.names i).toList = s.toList) := ⟨hin, hall⟩
    clear hin hall
    by_cases hlt : k < d.nn
    · obtain ⟨b, off, ha, hlt2, hc⟩ := hIr.at hlt
      rw [ha] at d2
      have h1 := hc k hlt
      have hlti : (k : Int) < (d.nn : Int) := by omega
      clear hc
      cases he : ((d.names k).toList == s.toList) with
      | true =>
        have HX : Hid ((d.names k).toList = s.toList) := show _ = _ by simpa using he
        go_wp2_with fail
        go_ret
        exact ⟨HE.out.1.bel, by rw [nameIx_some hlt HX.out HE.out.2]; rfl⟩
      | false =>
        have HX : Hid (¬ (d.names k).toList = s.toList) := show ¬ _ by simpa using he
        go_wp2_with fail
        go_roundw
        case rel => exact ⟨k + 1, by omega, by go_num, HE.out.1, fun i hi => by
          by_cases e : i = k
          · subst e; exact HX.out
          · exact HE.out.2 i (by omega)⟩
        case measure => simp [intOf]; omega
    · clear hIr
      go_wp2
      go_ret
      exact ⟨HE.out.1.bel, by rw [nameIx_none (fun i hi => HE.out.2 i (by omega))]; rfl⟩

set_option maxHeartbeats 2000000 in
theorem l2Find_any (a : Option Addr) (n c : Nat) (now : Int) (D : Nat → Nd) (L : Nat → Loc) (pa : Option Addr) (m pc : Nat) (S : Nat → ByteArray) (w : World) (hS : IsNds w a n D L) (hP : IsStrs w pa m S) (hf : FitAll n D) (hn : n ≤ maxLen) (hm : m ≤ maxLen) (hg : TreeGood n D now) (hp : pathOk m S = true) :
    Calls Try.prog 45 #[trV a n c now, .slice pa m pc] w fun e w' => Below w.heap.size w w' ∧ ∃ r, e = .returned (.int .i64 r) ∧ FindAre n D now m S r := by
  have HG : Hid (TreeGood n D now) := hg
  have HP : Hid (pathOk m S = true) := hp
  unfold maxLen at hm
  have hn' := hn
  unfold maxLen at hn'
  clear hg hp
  unfold trV
  go_enter Try.func45, Try.ntmps45
  go_wp2
  go_loopw [5, 6] (fun x i wr => ∃ k y : Nat, k ≤ m ∧ i = .int .i64 k ∧ x = .int .i64 y ∧ RefsIn w a n c now wr ∧ Leads D S k y) (fun _ i _ => m - (intOf i).toNat)
  case atStart => exact ⟨0, 0, Nat.zero_le _, rfl, rfl, ⟨(new1 w _ _).b0, (new1 w _ _).bel⟩, .root⟩
  case round =>
    obtain ⟨k, y, hk, rfl, rfl, hin, hl⟩ := hrel
    have t0 : wr.cell? ⟨w.heap.size, 0, none⟩ = some (.slice a n c) := hin.t.cell 0
    have hwl : w.heap.size < wr.heap.size := hin.t.lt
    by_cases hlt : k < m
    · have hyn : y < n := hl.lt HG.out
      have hSr := hS.below (Nat.le_refl _) hin.bel
      have hPr := hP.below (Nat.le_refl _) hin.bel
      obtain ⟨b, off, rfl, hlt2, hc⟩ := hSr.at hyn
      obtain ⟨b', off', rfl, hlt2', hc'⟩ := hPr.at hlt
      obtain ⟨c0, c1, c2, c3, c4, hI⟩ := hc y hyn
      have p0 := hc' k hlt
      have hki : (k : Int) < (m : Int) := by omega
      have hyi : (y : Int) < (n : Int) := by omega
      have C0 := Lat.cell (B := wr.heap.size) c0 hlt2
      have C1 := Lat.cell (B := wr.heap.size) c1 hlt2
      have C2 := Lat.cell (B := wr.heap.size) c2 hlt2
      have C3 := Lat.cell (B := wr.heap.size) c3 hlt2
      have C4 := Lat.cell (B := wr.heap.size) c4 hlt2
      have P0 := Lat.cell (B := wr.heap.size) p0 hlt2'
      have T0 := Lat.cell (B := wr.heap.size) t0 hwl
      have hcall : Hid (∀ q : Lat wr.heap.size wr, Calls Try.prog 65 #[ndV (D y) (L y), .string (S k)] q.val fun e w'' => e = .returned (.int .i64 (nameIx (D y) (S k))) ∧ ∃ m : Lat wr.heap.size wr, w'' = m.val) := fun q =>
        Calls.lat_of (l2Name_any (D y) (L y) (S k) q.val (hI.below (Nat.le_refl _) q.bel) (hf y hyn).nn) (fun e w' h => ⟨h.2, h.1.mono q.bel.size⟩)
      have HIN : Hid (RefsIn w (some ⟨b, off, none⟩) n c now wr ∧ Leads D S k y) := ⟨hin, hl⟩
      clear hc hc' hin hl hI c0 c1 c2 c3 c4 p0 hSr hPr
      go_wp2_with fail
      refine wp_region_lat (B := wr.heap.size) (w0 := wr) (by kernel_rfl) (by kernel_rfl) (Below.refl _ _) ?_
      repeat (go_big_quiet_step (exact hcall.out _))
      refine wpQuiet_nil ?_
      rintro _ ⟨nq, rfl⟩
      have hN : RefsIn w (some ⟨b, off, none⟩) n c now nq.val := ⟨HIN.out.1.t.below nq.bel hwl, HIN.out.1.bel.trans (nq.bel.mono HIN.out.1.bel.size)⟩
      clear hcall C0 C1 C2 C3 C4 P0 T0 t0 hwl hlt2 hlt2'
      rcases nameIx_spec (D y) (S k) with ⟨h1, h2⟩ | ⟨i, h1, h2, h3⟩
      · have HX : Hid (FindAre n D now m S (-1)) := findAre_no (fun g => (HIN.out.2.stuck g.1 h2 hlt) g.2.2)
        have HN : Hid (RefsIn w (some ⟨b, off, none⟩) n c now nq.val) := hN
        rw [h1]
        clear h1 h2 hN
        go_wp2
        go_ret
        exact ⟨HN.out.bel, -1, rfl, HX.out⟩
      · have hdir := dir_of_names (HG.out.nodes y hyn) (by omega)
        have hik : i < (D y).kn := by omega
        have hst := HIN.out.2.step h2 h3
        have hkid := kids_in HG.out.nodes y hyn i hik
        obtain ⟨z, hz⟩ : ∃ z : Nat, (D y).kids i = z := ⟨((D y).kids i).toNat, by omega⟩
        obtain ⟨b2, off2, ha2, hlt3, hc2⟩ := (hS.below (Nat.le_refl _) hN.bel).at hyn
        cases ha2
        obtain ⟨_, _, _, c3, _, hI2⟩ := hc2 y hyn
        obtain ⟨b3, off3, ha3, hlt4, hc3⟩ := hI2.2.at hik
        have z0 := hc3 i hik
        rw [hz] at z0
        rw [ha3] at c3
        have t0 : nq.val.cell? ⟨w.heap.size, 0, none⟩ = some (.slice (some ⟨b, off, none⟩) n c) := hN.t.cell 0
        have hii : (i : Int) < ((D y).kn : Int) := by omega
        have hkn := (hf y hyn).kn
        unfold maxLen at hkn
        have HN : Hid (RefsIn w (some ⟨b, off, none⟩) n c now nq.val ∧ Leads D S (k + 1) z) := ⟨hN, by have e : ((D y).kids i).toNat = z := (by rw [hz]; rfl); rw [e] at hst; exact hst⟩
        rw [h1]
        clear h1 h2 h3 hN hdir hst hkid hz hc2 hc3 hI2 ha3 HIN
        go_wp2
        go_roundw
        case rel => exact ⟨k + 1, z, by omega, by go_num, rfl, HN.out.1, HN.out.2⟩
        case measure => simp [intOf]; omega
    · have hke : k = m := by omega
      have HX : Hid (FindAre n D now m S y ∧ Below w.heap.size w wr) := ⟨findAre_end HG.out HP.out (hke ▸ hl), hin.bel⟩
      clear hke hin hl
      go_wp2
      go_ret
      exact ⟨HX.out.2, _, rfl, HX.out.1⟩

set_option maxHeartbeats 2000000 in
theorem specTreeFind_any (a : Option Addr) (n c : Nat) (now : Int) (D : Nat → Nd) (L : Nat → Loc) (pa : Option Addr) (m pc : Nat) (S : Nat → ByteArray) (w : World) (hS : IsNds w a n D L) (hP : IsStrs w pa m S) (hf : FitAll n D) (hn : n ≤ maxLen) (hsz : sizeTo D n ≤ 1048576) (hm : m ≤ maxLen) (hsm : Small m S) :
    Calls Try.prog 19 #[trV a n c now, .slice pa m pc] w fun e w' => Below w.heap.size w w' ∧ ∃ r, e = .returned (.int .i64 r) ∧ FindAre n D now m S r := by
  unfold trV
  go_enter Try.func19, Try.ntmps19
  go_wp2_with fail
  refine at_world (F := New1 w _ _) (new1 w _ _) ?_
  rintro W ⟨hp, hb, hs⟩
  refine (specTreeOk_any a n c now D L W (hS.below (Nat.le_refl _) hb) hf hn hsz).mono ?_
  rintro e w1 ⟨hb1, r, rfl, hr⟩
  have hp1 := hp.below hb1 (by omega)
  have p0 : w1.cell? ⟨w.heap.size, 0, none⟩ = some (.slice a n c) := hp1.cell 0
  have p1 : w1.cell? ⟨w.heap.size, 1, none⟩ = some (.int .i64 now) := hp1.cell 1
  have HB : Hid (Below w.heap.size w w1 ∧ (r = true ↔ TreeGood n D now)) := ⟨hb.trans (hb1.mono (by omega)), hr⟩
  clear hp hb hs hb1 hp1 hr
  cases r with
  | false =>
    have HN : Hid (FindAre n D now m S (-1)) := findAre_no (fun g => by have := HB.out.2.2 g.1; cases this)
    go_wp2_with fail
    go_ret
    exact ⟨HB.out.1, -1, rfl, HN.out⟩
  | true =>
    have HG : Hid (TreeGood n D now) := HB.out.2.1 rfl
    go_wp2_with fail
    refine (specPathOk_any pa m pc S w1 (hP.below (Nat.le_refl _) HB.out.1) hsm hm).mono ?_
    rintro e w2 ⟨rfl, rfl⟩
    cases hpo : pathOk m S with
    | false =>
      have HN : Hid (FindAre n D now m S (-1)) := findAre_no (fun g => by have := g.2.1; rw [hpo] at this; cases this)
      clear hpo
      go_wp2_with fail
      go_ret
      exact ⟨HB.out.1, -1, rfl, HN.out⟩
    | true =>
      have HP : Hid (pathOk m S = true) := hpo
      clear hpo
      go_wp2_with fail
      refine (l2Find_any a n c now D L pa m pc S w2 (hS.below (Nat.le_refl _) HB.out.1) (hP.below (Nat.le_refl _) HB.out.1) hf hn hm HG.out HP.out).mono ?_
      rintro e w3 ⟨hb3, r, rfl, hr⟩
      have HE : Hid (Below w.heap.size w w3 ∧ FindAre n D now m S r) := ⟨HB.out.1.trans (hb3.mono HB.out.1.size), hr⟩
      clear hb3 hr
      go_wp2_with fail
      go_ret
      exact ⟨HE.out.1, r, rfl, HE.out.2⟩
end Go.Proofs.Ytomacpailikmoab
