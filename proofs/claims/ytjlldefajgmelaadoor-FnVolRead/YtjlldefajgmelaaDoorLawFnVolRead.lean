/-
  FnVolRead, walked, where the library's table of powers of ten reads as it is laid.
-/
import Derived.Test.YtjlldefajgmelaaDoorDrawVolRead
import Derived.Test.YtjlldefajgmelaaDoorSpecVolRead
import Derived.Test.YtjlldefajgmelaaDoorImplVolRead
import Derived.Test.YtjlldefajgmelaaDoorImplVolOk
import Derived.Test.YtjlldefajgmelaaDoorImplSum
import Derived.Test.YtjlldefajgmelaaDoorMoreVol
import Derived.Test.YtjlldefajgmelaaDoorVoEq
import Derived.Test.YtjlldefajgmelaaDoorLat
import Derived.BigQuiet
namespace Go.Proofs.YtjlldefajgmelaaDoor
open Go.RowKit
set_option linter.unusedVariables false
set_option linter.unusedSimpArgs false

set_option maxRecDepth 100000 in
set_option maxHeartbeats 8000000 in
theorem lawFnVolRead (a0 : Option Addr) (len0 cap0 : Nat) (zs0 : Nat → Int) (w : World) (hc0 : IsCode w a0 len0 zs0) (hlen0 : len0 ≤ maxLen) (hcap0 : len0 ≤ cap0) (hT : Pow10 w) :
    Calls Tryd.prog 5 #[.slice a0 len0 cap0] w fun e w' => e = .returned (.bool true) ∧ Below w.heap.size w w' := by
  have l0 := hlen0
  unfold maxLen at l0
  by_cases hbig0 : (1048576 : Int) < len0
  · have hb : decide ((1048576 : Int) < len0) = true := by simp; omega
    go_enter Tryd.func5, Tryd.ntmps5
    go_wp2
    go_ret
    exact ⟨rfl, Below.refl _ _⟩
  have hb0 : decide ((1048576 : Int) < len0) = false := by simp; omega
  go_enter Tryd.func5, Tryd.ntmps5
  go_wp2_with fail
  refine (drawVolRead_any w a0 len0 cap0 zs0 hc0 hlen0 hcap0).mono ?_
  rintro e w1 ⟨s, rfl, hs, hB1⟩
  have hsm : s.size ≤ maxLen := by unfold maxLen; omega
  have HB1 : Hid (Below w.heap.size w w1) := hB1
  have hl1 : w.heap.size ≤ w1.heap.size := hB1.size
  clear hB1 hc0
  go_wp2_with fail
  refine (implVolRead_any s w1 hsm (hT.keeps HB1.out)).mono ?_
  rintro e w2 ⟨r, hr, rfl, hb2⟩
  obtain ⟨v, hv⟩ : ∃ v, r.getD voZ = v := ⟨_, rfl⟩
  obtain ⟨ok, ho⟩ : ∃ ok, r.isSome = ok := ⟨_, rfl⟩
  rw [hv, ho]
  unfold voV
  have HR : Hid (RdIs (bytes s) r ∧ r.getD voZ = v ∧ r.isSome = ok) := ⟨hr, hv, ho⟩
  have HB2 : Hid (Below w.heap.size w w2) := HB1.out.trans (hb2.mono hl1)
  clear hr hv ho hb2 HB1
  have hl2 : w.heap.size ≤ w2.heap.size := HB2.out.size
  go_wp2_with fail
  refine at_world (F := New1 w2 #[.int .i64 v.num, .int .i64 v.cnt, .int .i64 v.sum, .string v.text] 24) (new1 w2 _ _) ?_
  rintro W ⟨hx, hbW, hsW⟩
  refine (specVolRead_any s W (by omega)).mono ?_
  rintro e w3 ⟨r', hr', rfl, hb3⟩
  obtain rfl : r' = r := rdIs_one hr' HR.out.1
  have hv2 : r'.getD voN = v := HR.out.2.1
  rw [hv2, HR.out.2.2]
  unfold voV
  have H3 : Hid (Blk w3 w2.heap.size #[.int .i64 v.num, .int .i64 v.cnt, .int .i64 v.sum, .string v.text] 24 ∧ Below w.heap.size w w3) := ⟨hx.below hb3 (by omega), HB2.out.trans ((hbW.trans (hb3.mono (by omega))).mono hl2)⟩
  have hl3 : w2.heap.size < w3.heap.size := by have := hb3.size; omega
  have hn3 : w2.heap.size ≠ w3.heap.size := by omega
  clear hx hbW hsW hb3 hr' hv2 HB2 hl2 hl1
  generalize w2.heap.size = X at *
  have x0 : w3.cell? ⟨X, 0, none⟩ = some (.int .i64 v.num) := H3.out.1.cell 0
  have x1 : w3.cell? ⟨X, 1, none⟩ = some (.int .i64 v.cnt) := H3.out.1.cell 1
  have x2 : w3.cell? ⟨X, 2, none⟩ = some (.int .i64 v.sum) := H3.out.1.cell 2
  have x3 : w3.cell? ⟨X, 3, none⟩ = some (.string v.text) := H3.out.1.cell 3
  have hne : (ok != ok) = false := by cases ok <;> rfl
  have hnq : ∀ W, (binOp .neq 24 (.agg #[.int .i64 v.num, .int .i64 v.cnt, .int .i64 v.sum, .string v.text]) (.agg #[.int .i64 v.num, .int .i64 v.cnt, .int .i64 v.sum, .string v.text])).run Tryd.prog W = .ok (.bool false) W := fun W => by rw [run_neqVo v v W, sameVo_self]; rfl
  cases ok with
  | false =>
    have hvz : v = voZ := by
      have h1 := HR.out.2.1
      have h2 := HR.out.2.2
      cases r' with
      | none => exact h1.symm
      | some u => cases h2
    subst hvz
    have heq : ∀ W, (binOp .eql 24 (.agg #[.int .i64 voZ.num, .int .i64 voZ.cnt, .int .i64 voZ.sum, .string voZ.text]) (.agg #[.int .i64 0, .int .i64 0, .int .i64 0, .string ⟨#[]⟩])).run Tryd.prog W = .ok (.bool true) W := fun W => (run_eqlVo voZ voZ W).trans (by rw [sameVo_self])
    have HE : Hid (Below w.heap.size w (w3.alloc (.cells #[.int .i64 voZ.num, .int .i64 voZ.cnt, .int .i64 voZ.sum, .string voZ.text] 24))) := H3.out.2.alloc H3.out.2.size _
    clear H3
    go_wp2_with fail
    go_ret
    exact ⟨rfl, HE.out⟩
  | true =>
    have hrv : r' = some v := by
      have h1 := HR.out.2.1
      have h2 := HR.out.2.2
      cases r' with
      | none => cases h2
      | some u => exact congrArg some h1
    subst hrv
    have HOK : Hid (voOk v = true ∧ bytes (volT v) = bytes s) := HR.out.1.1 v rfl
    obtain ⟨M, hM, hM4, hMx, hMl, hM10⟩ := vol_cut HOK.out.1 HOK.out.2
    have hts : v.text.size < 2000 := by omega
    have hsub : IntKind.i64.wrap ((s.size : Int) - (v.text.size : Int)) = (M : Int) + 1 := by rw [wrap_i64 _ (by omega) (by omega)]; omega
    have hs2 : (s ++ (⟨#[97]⟩ : ByteArray)).size ≤ maxLen := by rw [ByteArray.size_append]; show s.size + 1 ≤ _; unfold maxLen; omega
    have HM : Hid (s.size = M + 1 + v.text.size ∧ 4 ≤ M ∧ s.extract (M + 1) s.size = v.text) := ⟨hM, hM4, hMx⟩
    have HX : Hid (s[M] = 10) := hM10
    have HMS : Hid (M < s.size) := hMl
    clear HR hM hM4 hMx hM10
    go_wp2_with fail
    refine at_world (F := fun U => Blk U X #[.int .i64 v.num, .int .i64 v.cnt, .int .i64 v.sum, .string v.text] 24 ∧ Below w.heap.size w U) ⟨H3.out.1.alloc _, H3.out.2.alloc H3.out.2.size _⟩ ?_
    rintro U ⟨hux, hub⟩
    refine (implVolRead_any (s ++ (⟨#[97]⟩ : ByteArray)) U hs2 (hT.keeps hub)).mono ?_
    rintro e w4 ⟨r2, hr2, rfl, hb4⟩
    obtain ⟨x, hx⟩ : ∃ x, r2.getD voZ = x := ⟨_, rfl⟩
    obtain ⟨fine, hfi⟩ : ∃ b, r2.isSome = b := ⟨_, rfl⟩
    rw [hx, hfi]
    unfold voV
    have hmr := more_read HOK.out.1 HOK.out.2 hts (r := r2) (by rw [bytes_app] at hr2; exact hr2)
    obtain ⟨Z, hZ⟩ : ∃ Z : Int, ((sumB (v.text ++ ⟨#[97]⟩) : Nat) : Int) = Z := ⟨_, rfl⟩
    rw [hZ] at hmr
    have HF : Hid (fine = (Z == v.sum) ∧ (fine = true → x.num = v.num)) := by
      show _ ∧ _
      by_cases e : Z = v.sum
      · have h1 := hmr.1 e
        subst h1
        exact ⟨by rw [← hfi, e]; simp, fun _ => by rw [← hx]; rfl⟩
      · have h1 := hmr.2 e
        subst h1
        exact ⟨by rw [← hfi]; simp [e], fun h => by rw [← hfi] at h; cases h⟩
    have H4 : Hid (Blk w4 X #[.int .i64 v.num, .int .i64 v.cnt, .int .i64 v.sum, .string v.text] 24 ∧ Below w.heap.size w w4) := ⟨hux.below hb4 hux.lt, hub.trans (hb4.mono hub.size)⟩
    have hl4 : X < w4.heap.size := H4.out.1.lt
    have hn4 : X ≠ w4.heap.size := by omega
    clear hux hub hb4 H3 hr2 hmr hx hfi x0 x1 x2 x3
    have x0 : w4.cell? ⟨X, 0, none⟩ = some (.int .i64 v.num) := H4.out.1.cell 0
    have x1 : w4.cell? ⟨X, 1, none⟩ = some (.int .i64 v.cnt) := H4.out.1.cell 1
    have x2 : w4.cell? ⟨X, 2, none⟩ = some (.int .i64 v.sum) := H4.out.1.cell 2
    have x3 : w4.cell? ⟨X, 3, none⟩ = some (.string v.text) := H4.out.1.cell 3
    go_wp2_with fail
    clear x0 x1 x2 x3
    refine wp_world (F := fun U => Blk U X #[.int .i64 v.num, .int .i64 v.cnt, .int .i64 v.sum, .string v.text] 24 ∧ Blk U w4.heap.size #[.int .i64 x.num, .int .i64 x.cnt, .int .i64 x.sum, .string x.text] 24 ∧ Below w.heap.size w U) ⟨H4.out.1.alloc _, Blk.new _ _ _, H4.out.2.alloc H4.out.2.size _⟩ ?_
    rintro U ⟨hux, huy, hub⟩
    have H5 : Hid (Blk U X #[.int .i64 v.num, .int .i64 v.cnt, .int .i64 v.sum, .string v.text] 24 ∧ Blk U w4.heap.size #[.int .i64 x.num, .int .i64 x.cnt, .int .i64 x.sum, .string x.text] 24 ∧ Below w.heap.size w U) := ⟨hux, huy, hub⟩
    clear hux huy hub H4 hn4 hl4
    generalize w4.heap.size = Y at *
    have hmv : v.text.size ≤ maxLen := by unfold maxLen; omega
    have hma : (v.text ++ (⟨#[97]⟩ : ByteArray)).size ≤ maxLen := by rw [ByteArray.size_append]; show v.text.size + 1 ≤ _; unfold maxLen; omega
    have hMi : decide ((0 : Int) < (M : Int) + 1) = true := decide_eq_true (by omega)
    have hsub2 : IntKind.i64.wrap (M : Int) = (M : Int) := wrap_i64 _ (by have := HMS.out; omega) (by have := HMS.out; omega)
    have hsl : ∀ W, (Instr.slice 9 (.string s) (some (.int .i64 ((M : Int) + 1))) none none).run Tryd.prog W = .ok (.string v.text) W := fun W => by
      have h1 := run_slice_string_l (P := Tryd.prog) (t := 9) (s := s) (w := W) Tryd.underlying9 .i64 ((M : Int) + 1) (by omega) (by have := HM.out.1; omega)
      rw [h1]
      have e1 : ((M : Int) + 1).toNat = M + 1 := by omega
      rw [e1, HM.out.2.2]
    have hix : ∀ W, (Instr.index 9 (.string s) (.int .i64 (M : Int))).run Tryd.prog W = .ok (.int .u8 10) W := fun W => by
      rw [run_index_string (P := Tryd.prog) W 9 s .i64 (M : Int) Tryd.underlying9, dif_pos ⟨by omega, by have := HMS.out; omega⟩]
      have e1 : s[(M : Int).toNat]'(by have := HMS.out; omega) = 10 := HX.out
      rw [e1]; rfl
    have hlt : decide (((v.text.size : Nat) : Int) < 2000) = true := by simp; omega
    have tx0 : U.cell? ⟨X, 0, none⟩ = some (.int .i64 v.num) := H5.out.1.cell 0
    have TX0 := Lat.cell (B := U.heap.size) tx0 H5.out.1.lt
    have tx1 : U.cell? ⟨X, 1, none⟩ = some (.int .i64 v.cnt) := H5.out.1.cell 1
    have TX1 := Lat.cell (B := U.heap.size) tx1 H5.out.1.lt
    have tx2 : U.cell? ⟨X, 2, none⟩ = some (.int .i64 v.sum) := H5.out.1.cell 2
    have TX2 := Lat.cell (B := U.heap.size) tx2 H5.out.1.lt
    have tx3 : U.cell? ⟨X, 3, none⟩ = some (.string v.text) := H5.out.1.cell 3
    have TX3 := Lat.cell (B := U.heap.size) tx3 H5.out.1.lt
    have ty0 : U.cell? ⟨Y, 0, none⟩ = some (.int .i64 x.num) := H5.out.2.1.cell 0
    have TY0 := Lat.cell (B := U.heap.size) ty0 H5.out.2.1.lt
    have ty1 : U.cell? ⟨Y, 1, none⟩ = some (.int .i64 x.cnt) := H5.out.2.1.cell 1
    have TY1 := Lat.cell (B := U.heap.size) ty1 H5.out.2.1.lt
    have ty2 : U.cell? ⟨Y, 2, none⟩ = some (.int .i64 x.sum) := H5.out.2.1.cell 2
    have TY2 := Lat.cell (B := U.heap.size) ty2 H5.out.2.1.lt
    have ty3 : U.cell? ⟨Y, 3, none⟩ = some (.string x.text) := H5.out.2.1.cell 3
    have TY3 := Lat.cell (B := U.heap.size) ty3 H5.out.2.1.lt
    have I1 : Hid (∀ q : Lat U.heap.size U, Calls Tryd.prog 10 #[(.agg #[.int .i64 v.num, .int .i64 v.cnt, .int .i64 v.sum, .string v.text])] q.val fun e w'' => e = .returned (.bool true) ∧ ∃ m : Lat U.heap.size U, w'' = m.val) := fun q =>
      Calls.lat_of ((implVolOk_any v q.val hmv).mono (fun e w' h => (⟨h.1, by rw [h.2, HOK.out.1]⟩ : Below q.val.heap.size q.val w' ∧ e = .returned (.bool true)))) (fun e w' h => ⟨h.2, h.1.mono q.bel.size⟩)
    have I2 : Hid (∀ q : Lat U.heap.size U, Calls Tryd.prog 15 #[(.string (v.text ++ (⟨#[97]⟩ : ByteArray)))] q.val fun e w'' => e = .returned (.int .i64 Z) ∧ ∃ m : Lat U.heap.size U, w'' = m.val) := fun q =>
      Calls.lat_of ((implTapeSum_any (v.text ++ (⟨#[97]⟩ : ByteArray)) q.val hma).mono (fun e w' h => (⟨by rw [h.2]; exact Below.refl _ _, by rw [h.1, hZ]⟩ : Below q.val.heap.size q.val w' ∧ e = .returned (.int .i64 Z)))) (fun e w' h => ⟨h.2, h.1.mono q.bel.size⟩)
    cases hze : (Z == v.sum) with
    | false =>
      obtain rfl : fine = false := by rw [HF.out.1, hze]
      refine wp_region_lat (B := U.heap.size) (w0 := U) (by kernel_rfl) (by kernel_rfl) (Below.refl _ _) ?_
      repeat (go_big_quiet_step (first | with_reducible exact I1.out _ | with_reducible exact I2.out _))
      refine wpQuiet_nil ?_
      rintro _ ⟨nq, rfl⟩
      obtain ⟨W9, hWq⟩ : ∃ W, W = nq.val := ⟨_, rfl⟩
      have hN : Below U.heap.size U W9 := by rw [hWq]; exact nq.bel
      rw [← hWq]
      clear hWq nq tx0 TX0 tx1 TX1 tx2 TX2 tx3 TX3 ty0 TY0 ty1 TY1 ty2 TY2 ty3 TY3 I1 I2 hsl hix
      have HE : Hid (Below w.heap.size w W9) := H5.out.2.2.trans (hN.mono H5.out.2.2.size)
      clear hN
      go_wp2
      go_ret
      exact ⟨rfl, HE.out⟩
    | true =>
      obtain rfl : fine = true := by rw [HF.out.1, hze]
      have hxn : (x.num == v.num) = true := by simpa using HF.out.2 rfl
      refine wp_region_lat (B := U.heap.size) (w0 := U) (by kernel_rfl) (by kernel_rfl) (Below.refl _ _) ?_
      repeat (go_big_quiet_step (first | with_reducible exact I1.out _ | with_reducible exact I2.out _))
      refine wpQuiet_nil ?_
      rintro _ ⟨nq, rfl⟩
      obtain ⟨W9, hWq⟩ : ∃ W, W = nq.val := ⟨_, rfl⟩
      have hN : Below U.heap.size U W9 := by rw [hWq]; exact nq.bel
      rw [← hWq]
      clear hWq nq tx0 TX0 tx1 TX1 tx2 TX2 tx3 TX3 ty0 TY0 ty1 TY1 ty2 TY2 ty3 TY3 I1 I2 hsl hix
      have HE : Hid (Below w.heap.size w W9) := H5.out.2.2.trans (hN.mono H5.out.2.2.size)
      clear hN
      go_wp2
      go_ret
      exact ⟨rfl, HE.out⟩
end Go.Proofs.YtjlldefajgmelaaDoor
