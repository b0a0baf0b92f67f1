/-
  FnVol, walked, where the library's table of powers of ten reads as it is laid.
-/
import Derived.Test.YtjlldefajgmelaaDoorDrawVolRead
import Derived.Test.YtjlldefajgmelaaDoorSpecVolRead
import Derived.Test.YtjlldefajgmelaaDoorImplVolRead
import Derived.Test.YtjlldefajgmelaaDoorImplVolText
import Derived.Test.YtjlldefajgmelaaDoorImplVolOk
import Derived.Test.YtjlldefajgmelaaDoorSpecVolOk
import Derived.Test.YtjlldefajgmelaaDoorScanMath
import Derived.Test.YtjlldefajgmelaaDoorTurnByte
import Derived.Test.YtjlldefajgmelaaDoorVoEq
import Derived.Test.YtjlldefajgmelaaDoorLat
import Derived.BigQuiet
import Derived.BigRegion
namespace Go.Proofs.YtjlldefajgmelaaDoor
open Go.RowKit
set_option linter.unusedVariables false
set_option linter.unusedSimpArgs false

/-- What follows a region is walked at a world of which no more is said than this. -/
theorem q_world {Q : Exit → Act → World → Prop} {e : Exit} {a : Act} {w : World} {F : World → Prop} (h : F w) (g : ∀ W, F W → Q e a W) : Q e a w := g w h

theorem bytes_inj {a b : ByteArray} (h : bytes a = bytes b) : a = b := ByteArray.ext (Array.toList_inj.1 h)

/-- What is read of the text of a piece. -/
theorem own_read {v : Vo} {r : Option Vo} (hr : RdIs (bytes (volT v)) r) : r.isSome = voOk v ∧ (voOk v = true → r.getD voZ = v) := by
  cases hok : voOk v with
  | true =>
    have h : r = some v := rdIs_one hr ⟨fun u hu => by cases hu; exact ⟨hok, rfl⟩, fun h => by cases h⟩
    subst h
    exact ⟨rfl, fun _ => rfl⟩
  | false =>
    refine ⟨?_, fun h => by cases h⟩
    cases r with
    | none => rfl
    | some u =>
      obtain ⟨hu, hb⟩ := hr.1 u rfl
      obtain ⟨x, y, z, _, _, _, _, _, _, hbu⟩ := volT_bytes hu
      have hE : volT v = ⟨#[]⟩ := by unfold volT; rw [hok]; rfl
      rw [hE, hbu] at hb
      cases hb

theorem ok_turned {v : Vo} (h : voOk v = true) {k : Nat} (hk : k < v.text.size) {l2 : List UInt8} (hl2 : l2 = v.text.data.toList.set k (v.text[k] ^^^ 2)) : voOk ⟨v.num, v.cnt, v.sum, ⟨l2.toArray⟩⟩ = false := by
  cases e : voOk ⟨v.num, v.cnt, v.sum, ⟨l2.toArray⟩⟩ with
  | false => rfl
  | true =>
    obtain ⟨_, _, _, _, _, h6⟩ := voOk_iff.1 h
    obtain ⟨_, _, _, _, _, g6⟩ := voOk_iff.1 e
    simp only at g6
    have hne : sumB ⟨l2.toArray⟩ ≠ sumB v.text := by
      unfold sumB
      rw [show (⟨l2.toArray⟩ : ByteArray).data.toList = l2 from rfl, hl2]
      refine sumOf_set _ _ (by simpa using hk) _ ?_
      show v.text[k] ≠ _
      exact xor_ne _ _ (by decide)
    omega

set_option maxRecDepth 100000 in
set_option maxHeartbeats 8000000 in
theorem lawFnVol (a0 : Option Addr) (len0 cap0 : Nat) (zs0 : Nat → Int) (a1 : Option Addr) (len1 cap1 : Nat) (zs1 : Nat → Int) (w : World) (hc0 : IsCode w a0 len0 zs0) (hlen0 : len0 ≤ maxLen) (hcap0 : len0 ≤ cap0)
    (hc1 : IsCode w a1 len1 zs1) (hlen1 : len1 ≤ maxLen) (hcap1 : len1 ≤ cap1) (hT : Pow10 w) :
    Calls Tryd.prog 3 #[.slice a0 len0 cap0, .slice a1 len1 cap1] w fun e w' => e = .returned (.bool true) ∧ Below w.heap.size w w' := by
  have l0 := hlen0
  have l1 := hlen1
  unfold maxLen at l0 l1
  by_cases hbig0 : (1048576 : Int) < len0
  · have hb : decide ((1048576 : Int) < len0) = true := by simp; omega
    go_enter Tryd.func3, Tryd.ntmps3
    go_wp2
    go_ret
    exact ⟨rfl, Below.refl _ _⟩
  have hb0 : decide ((1048576 : Int) < len0) = false := by simp; omega
  by_cases hbig1 : (1048576 : Int) < len1
  · have hb : decide ((1048576 : Int) < len1) = true := by simp; omega
    go_enter Tryd.func3, Tryd.ntmps3
    go_wp2
    go_ret
    exact ⟨rfl, Below.refl _ _⟩
  have hb1 : decide ((1048576 : Int) < len1) = false := by simp; omega
  go_enter Tryd.func3, Tryd.ntmps3
  go_wp2_with fail
  refine (drawVolText_any w a0 len0 cap0 zs0 hc0 hlen0 hcap0).mono ?_
  rintro e w1 ⟨v, rfl, hv, hB1⟩
  unfold voV
  have HB1 : Hid (Below w.heap.size w w1 ∧ v.Tiny) := ⟨hB1, hv⟩
  have hmv : v.text.size ≤ maxLen := by have := hv.2.2.2; unfold maxLen; omega
  have hvs : v.text.size ≤ 300 := hv.2.2.2
  have hl1 : w.heap.size ≤ w1.heap.size := hB1.size
  clear hB1 hv hc0
  go_wp2_with fail
  refine at_world (F := fun U => Blk U w1.heap.size #[.int .i64 v.num, .int .i64 v.cnt, .int .i64 v.sum, .string v.text] 24 ∧ Below w.heap.size w U) ⟨Blk.new _ _ _, HB1.out.1.alloc hl1 _⟩ ?_
  rintro U1 ⟨hx1, hu1⟩
  generalize w1.heap.size = X at *
  refine (implVolText_any v U1 hmv (hT.keeps hu1)).mono ?_
  rintro e w2 ⟨hb2, rfl⟩
  have hts : (volT v).size ≤ 400 := volT_size HB1.out.2
  have hx2 := hx1.below hb2 hx1.lt
  have hu2 : Below w.heap.size w w2 := hu1.trans (hb2.mono hu1.size)
  have H2 : Hid (Blk w2 X #[.int .i64 v.num, .int .i64 v.cnt, .int .i64 v.sum, .string v.text] 24 ∧ Below w.heap.size w w2) := ⟨hx2, hu2⟩
  clear hb2 hx1 hu1 hx2 hu2
  go_wp2_with fail
  refine (implVolRead_any (volT v) w2 (by unfold maxLen; omega) (hT.keeps H2.out.2)).mono ?_
  rintro e w3 ⟨r, hr, rfl, hb3⟩
  obtain ⟨hor1, hor2⟩ := own_read hr
  rw [hor1]
  obtain ⟨x, hx⟩ : ∃ x, r.getD voZ = x := ⟨_, rfl⟩
  rw [hx] at hor2 ⊢
  unfold voV
  have H3 : Hid (Blk w3 X #[.int .i64 v.num, .int .i64 v.cnt, .int .i64 v.sum, .string v.text] 24 ∧ Below w.heap.size w w3) := ⟨H2.out.1.below hb3 H2.out.1.lt, H2.out.2.trans (hb3.mono H2.out.2.size)⟩
  have HXV : Hid (voOk v = true → x = v) := hor2
  have hxl : X < w3.heap.size := H3.out.1.lt
  have hxn : X ≠ w3.heap.size := by omega
  clear hr hor1 hor2 hx hb3 H2
  go_wp2_with fail
  refine wp_world (F := fun U => Blk U X #[.int .i64 v.num, .int .i64 v.cnt, .int .i64 v.sum, .string v.text] 24 ∧ Blk U w3.heap.size #[.int .i64 x.num, .int .i64 x.cnt, .int .i64 x.sum, .string x.text] 24 ∧ Below w.heap.size w U) ⟨H3.out.1.alloc _, Blk.new _ _ _, H3.out.2.alloc H3.out.2.size _⟩ ?_
  rintro U ⟨h1, h2, h3⟩
  have H4 : Hid (Blk U X #[.int .i64 v.num, .int .i64 v.cnt, .int .i64 v.sum, .string v.text] 24 ∧ Blk U w3.heap.size #[.int .i64 x.num, .int .i64 x.cnt, .int .i64 x.sum, .string x.text] 24 ∧ Below w.heap.size w U) := ⟨h1, h2, h3⟩
  clear h1 h2 h3 H3
  generalize w3.heap.size = Y at *
  have tx0 : U.cell? ⟨X, 0, none⟩ = some (.int .i64 v.num) := H4.out.1.cell 0
  have TX0 := Lat.cell (B := U.heap.size) tx0 H4.out.1.lt
  have tx1 : U.cell? ⟨X, 1, none⟩ = some (.int .i64 v.cnt) := H4.out.1.cell 1
  have TX1 := Lat.cell (B := U.heap.size) tx1 H4.out.1.lt
  have tx2 : U.cell? ⟨X, 2, none⟩ = some (.int .i64 v.sum) := H4.out.1.cell 2
  have TX2 := Lat.cell (B := U.heap.size) tx2 H4.out.1.lt
  have tx3 : U.cell? ⟨X, 3, none⟩ = some (.string v.text) := H4.out.1.cell 3
  have TX3 := Lat.cell (B := U.heap.size) tx3 H4.out.1.lt
  have ty0 : U.cell? ⟨Y, 0, none⟩ = some (.int .i64 x.num) := H4.out.2.1.cell 0
  have TY0 := Lat.cell (B := U.heap.size) ty0 H4.out.2.1.lt
  have ty1 : U.cell? ⟨Y, 1, none⟩ = some (.int .i64 x.cnt) := H4.out.2.1.cell 1
  have TY1 := Lat.cell (B := U.heap.size) ty1 H4.out.2.1.lt
  have ty2 : U.cell? ⟨Y, 2, none⟩ = some (.int .i64 x.sum) := H4.out.2.1.cell 2
  have TY2 := Lat.cell (B := U.heap.size) ty2 H4.out.2.1.lt
  have ty3 : U.cell? ⟨Y, 3, none⟩ = some (.string x.text) := H4.out.2.1.cell 3
  have TY3 := Lat.cell (B := U.heap.size) ty3 H4.out.2.1.lt
  have I1 : Hid (∀ q : Lat U.heap.size U, Calls Tryd.prog 9 #[(.agg #[.int .i64 v.num, .int .i64 v.cnt, .int .i64 v.sum, .string v.text])] q.val fun e w'' => e = .returned (.string (volT v)) ∧ ∃ m : Lat U.heap.size U, w'' = m.val) := fun q =>
    Calls.lat_of (specVolText_any v q.val hmv) (fun e w' h => ⟨by simpa [voV] using h.2, h.1.mono q.bel.size⟩)
  have I2 : Hid (∀ q : Lat U.heap.size U, Calls Tryd.prog 10 #[(.agg #[.int .i64 v.num, .int .i64 v.cnt, .int .i64 v.sum, .string v.text])] q.val fun e w'' => e = .returned (.bool (voOk v)) ∧ ∃ m : Lat U.heap.size U, w'' = m.val) := fun q =>
    Calls.lat_of (implVolOk_any v q.val hmv) (fun e w' h => ⟨by simpa [voV] using h.2, h.1.mono q.bel.size⟩)
  have I3 : Hid (∀ q : Lat U.heap.size U, Calls Tryd.prog 11 #[(.agg #[.int .i64 v.num, .int .i64 v.cnt, .int .i64 v.sum, .string v.text])] q.val fun e w'' => e = .returned (.bool (voOk v)) ∧ ∃ m : Lat U.heap.size U, w'' = m.val) := fun q =>
    Calls.lat_of (specVolOk_any v q.val hmv) (fun e w' h => ⟨by simpa [voV] using h.2, h.1.mono q.bel.size⟩)
  cases hok : voOk v with
  | false =>
    rw [hok] at I2 I3
    refine wp_region_lat (B := U.heap.size) (w0 := U) (by kernel_rfl) (by kernel_rfl) (Below.refl _ _) ?_
    repeat (go_big_quiet_step (first | with_reducible exact I1.out _ | with_reducible exact I2.out _ | with_reducible exact I3.out _))
    refine wpQuiet_nil ?_
    rintro _ ⟨nq, rfl⟩
    obtain ⟨W9, hWq⟩ : ∃ W, W = nq.val := ⟨_, rfl⟩
    have hN : Below U.heap.size U W9 := by rw [hWq]; exact nq.bel
    rw [← hWq]
    clear hWq nq tx0 TX0 tx1 TX1 tx2 TX2 tx3 TX3 ty0 TY0 ty1 TY1 ty2 TY2 ty3 TY3 I1 I2 I3
    have H5 : Hid (Blk W9 X #[.int .i64 v.num, .int .i64 v.cnt, .int .i64 v.sum, .string v.text] 24 ∧ Below w.heap.size w W9) := ⟨H4.out.1.below hN H4.out.1.lt, H4.out.2.2.trans (hN.mono H4.out.2.2.size)⟩
    clear hN H4
    go_wp2_with fail
    refine (drawVolRead_any W9 a1 len1 cap1 zs1 (hc1.below H5.out.2) hlen1 hcap1).mono ?_
    rintro e w10 ⟨t, rfl, ht, hb10⟩
    have hmt : t.size ≤ maxLen := by unfold maxLen; omega
    have H6 : Hid (Blk w10 X #[.int .i64 v.num, .int .i64 v.cnt, .int .i64 v.sum, .string v.text] 24 ∧ Below w.heap.size w w10) := ⟨H5.out.1.below hb10 H5.out.1.lt, H5.out.2.trans (hb10.mono H5.out.2.size)⟩
    clear hb10 H5 hc1
    go_wp2_with fail
    refine (implVolRead_any t w10 hmt (hT.keeps H6.out.2)).mono ?_
    rintro e w11 ⟨r2, hr2, rfl, hb11⟩
    obtain ⟨y, hy⟩ : ∃ y, r2.getD voZ = y := ⟨_, rfl⟩
    obtain ⟨fi, hfi⟩ : ∃ b, r2.isSome = b := ⟨_, rfl⟩
    rw [hy, hfi]
    unfold voV
    have HR2 : Hid (RdIs (bytes t) r2 ∧ r2.getD voZ = y ∧ r2.isSome = fi) := ⟨hr2, hy, hfi⟩
    have H7 : Hid (Blk w11 X #[.int .i64 v.num, .int .i64 v.cnt, .int .i64 v.sum, .string v.text] 24 ∧ Below w.heap.size w w11) := ⟨H6.out.1.below hb11 H6.out.1.lt, H6.out.2.trans (hb11.mono H6.out.2.size)⟩
    have hyl : X < w11.heap.size := H7.out.1.lt
    clear hr2 hy hfi hb11 H6
    go_wp2_with fail
    refine at_world (F := fun U => Blk U X #[.int .i64 v.num, .int .i64 v.cnt, .int .i64 v.sum, .string v.text] 24 ∧ Blk U w11.heap.size #[.int .i64 y.num, .int .i64 y.cnt, .int .i64 y.sum, .string y.text] 24 ∧ Below w.heap.size w U) ⟨H7.out.1.alloc _, Blk.new _ _ _, H7.out.2.alloc H7.out.2.size _⟩ ?_
    rintro U2 ⟨h1, h2, h3⟩
    refine (specVolRead_any t U2 (by omega)).mono ?_
    rintro e w12 ⟨r3, hr3, rfl, hb12⟩
    obtain rfl : r3 = r2 := rdIs_one hr3 HR2.out.1
    have hy2 : r3.getD voN = y := HR2.out.2.1
    rw [hy2, HR2.out.2.2]
    unfold voV
    have H8 : Hid (Blk w12 X #[.int .i64 v.num, .int .i64 v.cnt, .int .i64 v.sum, .string v.text] 24 ∧ Blk w12 w11.heap.size #[.int .i64 y.num, .int .i64 y.cnt, .int .i64 y.sum, .string y.text] 24 ∧ Below w.heap.size w w12) := ⟨h1.below hb12 h1.lt, h2.below hb12 h2.lt, h3.trans (hb12.mono h3.size)⟩
    have hZl : w11.heap.size < w12.heap.size := H8.out.2.1.lt
    have hZn : w11.heap.size ≠ w12.heap.size := by omega
    clear h1 h2 h3 hb12 hr3 hy2 H7
    generalize w11.heap.size = Z at *
    have z0 : w12.cell? ⟨Z, 0, none⟩ = some (.int .i64 y.num) := H8.out.2.1.cell 0
    have z1 : w12.cell? ⟨Z, 1, none⟩ = some (.int .i64 y.cnt) := H8.out.2.1.cell 1
    have z2 : w12.cell? ⟨Z, 2, none⟩ = some (.int .i64 y.sum) := H8.out.2.1.cell 2
    have z3 : w12.cell? ⟨Z, 3, none⟩ = some (.string y.text) := H8.out.2.1.cell 3
    have hff : (fi != fi) = false := by cases fi <;> rfl
    cases fi with
    | false =>
      have HE : Hid (Below w.heap.size w w12) := H8.out.2.2
      clear H8
      go_wp2
      go_ret
      exact ⟨rfl, by first | exact HE.out | exact HE.out.alloc HE.out.size _⟩
    | true =>
      have hyo : voOk y = true ∧ bytes (volT y) = bytes t := by
        have g1 := HR2.out.2.1
        have g2 := HR2.out.2.2
        cases r3 with
        | none => cases g2
        | some q =>
          have : q = y := g1
          subst this
          exact HR2.out.1.1 q rfl
      have hmy : y.text.size ≤ maxLen := by have := (voOk_iff.1 hyo.1).2.2.2.2.1; unfold maxLen; omega
      have hyt : volT y = t := bytes_inj hyo.2
      go_wp2_with fail
      refine at_world (F := fun U => Blk U X #[.int .i64 v.num, .int .i64 v.cnt, .int .i64 v.sum, .string v.text] 24 ∧ Blk U Z #[.int .i64 y.num, .int .i64 y.cnt, .int .i64 y.sum, .string y.text] 24 ∧ Below w.heap.size w U) ⟨H8.out.1.alloc _, H8.out.2.1.alloc _, H8.out.2.2.alloc H8.out.2.2.size _⟩ ?_
      rintro U3 ⟨h1, h2, h3⟩
      refine (implVolText_any y U3 hmy (hT.keeps h3)).mono ?_
      rintro e w13 ⟨hb13, rfl⟩
      rw [hyt]
      have H9 : Hid (Blk w13 X #[.int .i64 v.num, .int .i64 v.cnt, .int .i64 v.sum, .string v.text] 24 ∧ Blk w13 Z #[.int .i64 y.num, .int .i64 y.cnt, .int .i64 y.sum, .string y.text] 24 ∧ Below w.heap.size w w13) := ⟨h1.below hb13 h1.lt, h2.below hb13 h2.lt, h3.trans (hb13.mono h3.size)⟩
      clear h1 h2 h3 hb13 z0 z1 z2 z3 H8 hZl hZn
      have z0 : w13.cell? ⟨Z, 0, none⟩ = some (.int .i64 y.num) := H9.out.2.1.cell 0
      have z1 : w13.cell? ⟨Z, 1, none⟩ = some (.int .i64 y.cnt) := H9.out.2.1.cell 1
      have z2 : w13.cell? ⟨Z, 2, none⟩ = some (.int .i64 y.sum) := H9.out.2.1.cell 2
      have z3 : w13.cell? ⟨Z, 3, none⟩ = some (.string y.text) := H9.out.2.1.cell 3
      go_wp2_with fail
      refine (implVolOk_any y w13 hmy).mono ?_
      rintro e w14 ⟨hb14, rfl⟩
      rw [hyo.1]
      have H8 : Hid (Blk w14 X #[.int .i64 v.num, .int .i64 v.cnt, .int .i64 v.sum, .string v.text] 24 ∧ Below w.heap.size w w14) := ⟨H9.out.1.below hb14 H9.out.1.lt, H9.out.2.2.trans (hb14.mono H9.out.2.2.size)⟩
      clear hb14 H9 z0 z1 z2 z3 hyt hyo hmy
      have HE : Hid (Below w.heap.size w w14) := H8.out.2
      clear H8
      go_wp2
      go_ret
      exact ⟨rfl, by first | exact HE.out | exact HE.out.alloc HE.out.size _⟩
  | true =>
    have hxv : x = v := HXV.out hok
    subst hxv
    rw [hok] at I2 I3
    have hnq : ∀ W, (binOp .neq 24 (.agg #[.int .i64 x.num, .int .i64 x.cnt, .int .i64 x.sum, .string x.text]) (.agg #[.int .i64 x.num, .int .i64 x.cnt, .int .i64 x.sum, .string x.text])).run Tryd.prog W = .ok (.bool false) W := fun W => by rw [run_neqVo x x W, sameVo_self]; rfl
    refine wp_region_lat (B := U.heap.size) (w0 := U) (by kernel_rfl) (by kernel_rfl) (Below.refl _ _) ?_
    repeat (go_big_quiet_step (first | with_reducible exact I1.out _ | with_reducible exact I2.out _ | with_reducible exact I3.out _))
    refine wpQuiet_nil ?_
    rintro _ ⟨nq, rfl⟩
    obtain ⟨W9, hWq⟩ : ∃ W, W = nq.val := ⟨_, rfl⟩
    have hN : Below U.heap.size U W9 := by rw [hWq]; exact nq.bel
    rw [← hWq]
    clear hWq nq tx0 TX0 tx1 TX1 tx2 TX2 tx3 TX3 ty0 TY0 ty1 TY1 ty2 TY2 ty3 TY3 I1 I2 I3
    clear hnq
    have HOK : Hid (voOk x = true) := hok
    clear hok
    have H5 : Hid (Blk W9 X #[.int .i64 x.num, .int .i64 x.cnt, .int .i64 x.sum, .string x.text] 24 ∧ Below w.heap.size w W9) := ⟨H4.out.1.below hN H4.out.1.lt, H4.out.2.2.trans (hN.mono H4.out.2.2.size)⟩
    clear hN H4
    go_wp2_with fail
    refine (drawVolRead_any W9 a1 len1 cap1 zs1 (hc1.below H5.out.2) hlen1 hcap1).mono ?_
    rintro e w10 ⟨t, rfl, ht, hb10⟩
    have hmt : t.size ≤ maxLen := by unfold maxLen; omega
    have H6 : Hid (Blk w10 X #[.int .i64 x.num, .int .i64 x.cnt, .int .i64 x.sum, .string x.text] 24 ∧ Below w.heap.size w w10) := ⟨H5.out.1.below hb10 H5.out.1.lt, H5.out.2.trans (hb10.mono H5.out.2.size)⟩
    clear hb10 H5 hc1
    go_wp2_with fail
    refine (implVolRead_any t w10 hmt (hT.keeps H6.out.2)).mono ?_
    rintro e w11 ⟨r2, hr2, rfl, hb11⟩
    obtain ⟨y, hy⟩ : ∃ y, r2.getD voZ = y := ⟨_, rfl⟩
    obtain ⟨fi, hfi⟩ : ∃ b, r2.isSome = b := ⟨_, rfl⟩
    rw [hy, hfi]
    unfold voV
    have HR2 : Hid (RdIs (bytes t) r2 ∧ r2.getD voZ = y ∧ r2.isSome = fi) := ⟨hr2, hy, hfi⟩
    have H7 : Hid (Blk w11 X #[.int .i64 x.num, .int .i64 x.cnt, .int .i64 x.sum, .string x.text] 24 ∧ Below w.heap.size w w11) := ⟨H6.out.1.below hb11 H6.out.1.lt, H6.out.2.trans (hb11.mono H6.out.2.size)⟩
    have hyl : X < w11.heap.size := H7.out.1.lt
    clear hr2 hy hfi hb11 H6
    go_wp2_with fail
    refine at_world (F := fun U => Blk U X #[.int .i64 x.num, .int .i64 x.cnt, .int .i64 x.sum, .string x.text] 24 ∧ Blk U w11.heap.size #[.int .i64 y.num, .int .i64 y.cnt, .int .i64 y.sum, .string y.text] 24 ∧ Below w.heap.size w U) ⟨H7.out.1.alloc _, Blk.new _ _ _, H7.out.2.alloc H7.out.2.size _⟩ ?_
    rintro U2 ⟨h1, h2, h3⟩
    refine (specVolRead_any t U2 (by omega)).mono ?_
    rintro e w12 ⟨r3, hr3, rfl, hb12⟩
    obtain rfl : r3 = r2 := rdIs_one hr3 HR2.out.1
    have hy2 : r3.getD voN = y := HR2.out.2.1
    rw [hy2, HR2.out.2.2]
    unfold voV
    have H8 : Hid (Blk w12 X #[.int .i64 x.num, .int .i64 x.cnt, .int .i64 x.sum, .string x.text] 24 ∧ Blk w12 w11.heap.size #[.int .i64 y.num, .int .i64 y.cnt, .int .i64 y.sum, .string y.text] 24 ∧ Below w.heap.size w w12) := ⟨h1.below hb12 h1.lt, h2.below hb12 h2.lt, h3.trans (hb12.mono h3.size)⟩
    have hZl : w11.heap.size < w12.heap.size := H8.out.2.1.lt
    have hZn : w11.heap.size ≠ w12.heap.size := by omega
    clear h1 h2 h3 hb12 hr3 hy2 H7
    generalize w11.heap.size = Z at *
    have z0 : w12.cell? ⟨Z, 0, none⟩ = some (.int .i64 y.num) := H8.out.2.1.cell 0
    have z1 : w12.cell? ⟨Z, 1, none⟩ = some (.int .i64 y.cnt) := H8.out.2.1.cell 1
    have z2 : w12.cell? ⟨Z, 2, none⟩ = some (.int .i64 y.sum) := H8.out.2.1.cell 2
    have z3 : w12.cell? ⟨Z, 3, none⟩ = some (.string y.text) := H8.out.2.1.cell 3
    have hff : (fi != fi) = false := by cases fi <;> rfl
    cases fi with
    | false =>
      have v0 : w12.cell? ⟨X, 0, none⟩ = some (.int .i64 x.num) := (H8.out.1).cell 0
      have v1 : w12.cell? ⟨X, 1, none⟩ = some (.int .i64 x.cnt) := (H8.out.1).cell 1
      have v2 : w12.cell? ⟨X, 2, none⟩ = some (.int .i64 x.sum) := (H8.out.1).cell 2
      have v3 : w12.cell? ⟨X, 3, none⟩ = some (.string x.text) := (H8.out.1).cell 3
      have hXw : X < w12.heap.size := (H8.out.1).lt
      have hXn : X ≠ w12.heap.size := by omega
      have H10 : Hid (Blk w12 X #[.int .i64 x.num, .int .i64 x.cnt, .int .i64 x.sum, .string x.text] 24 ∧ Below w.heap.size w w12) := ⟨H8.out.1, H8.out.2.2⟩
      clear H8
      by_cases hs0 : x.text.size = 0
      · have hz : ((x.text.size : Int) == 0) = true := beq_iff_eq.2 (by omega)
        clear hs0
        go_wp2
        go_ret
        exact ⟨rfl, by first | exact H10.out.2 | exact H10.out.2.alloc H10.out.2.size _⟩
      · have hz : ((x.text.size : Int) == 0) = false := beq_eq_false_iff_ne.2 (by omega)
        have hk0 : len1 % x.text.size < x.text.size := Nat.mod_lt _ (by omega)
        have hcv := fun U => Lib.run_convert_string_bytes (P := Tryd.prog) U 9 22 5 x.text Tryd.underlying9 Tryd.underlying22 Tryd.underlying5
        have HK : Hid (len1 % x.text.size < x.text.size ∧ 0 < x.text.size) := ⟨hk0, by omega⟩
        clear hs0 hk0
        go_wp2_with fail
        clear hcv v0 v1 v2 v3 hXw hXn
        obtain ⟨B, hB⟩ : ∃ B, B = w12.heap.size + 1 := ⟨_, rfl⟩
        refine wp_world (F := fun U => Blk U X #[.int .i64 x.num, .int .i64 x.cnt, .int .i64 x.sum, .string x.text] 24 ∧ Below w.heap.size w U ∧ (∀ j, j < x.text.size → U.cell? ⟨B, j, none⟩ = some (.int .u8 ((x.text.data.toList.getD j 0).toNat : Int)) ∧ U.frozen? ⟨B, j, none⟩ = false) ∧ w.heap.size ≤ B ∧ X < B) ?_ ?_
        · have hbw : Below w.heap.size w (w12.alloc (.cells #[.int .i64 y.num, .int .i64 y.cnt, .int .i64 y.sum, .string y.text] 24)) := H10.out.2.alloc H10.out.2.size _
          have hbx : Blk (w12.alloc (.cells #[.int .i64 y.num, .int .i64 y.cnt, .int .i64 y.sum, .string y.text] 24)) X #[.int .i64 x.num, .int .i64 x.cnt, .int .i64 x.sum, .string x.text] 24 := H10.out.1.alloc _
          have hsz : (w12.alloc (.cells #[.int .i64 y.num, .int .i64 y.cnt, .int .i64 y.sum, .string y.text] 24)).heap.size = B := by rw [hB]; simp
          generalize w12.alloc (.cells #[.int .i64 y.num, .int .i64 y.cnt, .int .i64 y.sum, .string y.text] 24) = WA at *
          have hbb := Go.Joins.below_bytesWorld WA.heap.size WA 5 x.text (Nat.le_refl _)
          refine ⟨hbx.below hbb hbx.lt, hbw.trans (hbb.mono hbw.size), fun j hj => ⟨?_, ?_⟩, by rw [← hsz]; exact hbw.size, by rw [← hsz]; exact hbx.lt⟩
          · rw [← hsz]; exact Lib.bytesWorld_cell WA 5 x.text j hj
          · rw [← hsz]; exact bytes_free WA x.text j hj
        rw [← hB]
        clear hB
        rintro U5 ⟨g1, g2, g3, g4, g5⟩
        obtain ⟨b0, hb0⟩ : ∃ b0 : UInt8, b0 = x.text.data.toList.getD (len1 % x.text.size) 0 := ⟨_, rfl⟩
        have hcell : U5.cell? ⟨B, len1 % x.text.size, none⟩ = some (.int .u8 (b0.toNat : Int)) := by rw [hb0]; exact (g3 _ HK.out.1).1
        have hfz := (g3 _ HK.out.1).2
        have hxr : bits .xor .u8 (b0.toNat : Int) 2 = ((b0 ^^^ 2).toNat : Int) := xor_u8 b0 2 (by decide)
        obtain ⟨l2, hl2⟩ : ∃ l2 : List UInt8, l2 = x.text.data.toList.set (len1 % x.text.size) (b0 ^^^ 2) := ⟨_, rfl⟩
        have hlen2 : l2.length = x.text.size := by rw [hl2]; simp
        have HNO : Hid (voOk ⟨x.num, x.cnt, x.sum, ⟨l2.toArray⟩⟩ = false) := by
          show _ = _
          refine ok_turned HOK.out HK.out.1 ?_
          rw [hl2, hb0, getD_byte x.text _ HK.out.1]
        have HS5 : Hid (Blk U5 X #[.int .i64 x.num, .int .i64 x.cnt, .int .i64 x.sum, .string x.text] 24 ∧ Below w.heap.size w U5 ∧ ∀ j, j < x.text.size → U5.cell? ⟨B, j, none⟩ = some (.int .u8 ((x.text.data.toList.getD j 0).toNat : Int))) := ⟨g1, g2, fun j hj => (g3 j hj).1⟩
        have hne : ((x.text.size : Int) == 0) = false := hz
        have hkk : ((len1 % x.text.size : Nat) : Int) < (x.text.size : Int) := by have := HK.out.1; omega
        have HL2 : Hid (l2 = x.text.data.toList.set (len1 % x.text.size) (b0 ^^^ 2)) := hl2
        clear g1 g2 g3 hz hl2 hb0
        go_region
        refine q_world (F := fun U => Blk U X #[.int .i64 x.num, .int .i64 x.cnt, .int .i64 x.sum, .string x.text] 24 ∧ Below w.heap.size w U ∧ ∀ j (hj : j < l2.length), U.cell? ⟨B, j, none⟩ = some (.int .u8 ((l2[j]).toNat : Int))) ?_ ?_
        · refine ⟨(Blk.off HS5.out.1 _ (by omega)).of_block rfl, (bel_put HS5.out.2.1 _ g4).drew, fun j hj => ?_⟩
          have hl2 := HL2.out
          subst hl2
          have hj' : j < x.text.size := by simpa using hj
          show (U5.setCell _ _).cell? _ = _
          by_cases e : j = len1 % x.text.size
          · subst e
            rw [show b0.toNat ^^^ 2 = (b0 ^^^ 2).toNat from (UInt8.toNat_xor b0 2).symm]
            have h2 := World.cell?_setCell_same (w := U5) (a := ⟨B, len1 % x.text.size, none⟩) (v := .int .u8 ((b0 ^^^ 2).toNat : Int)) hcell
            rw [h2]
            simp
          · rw [cell?_setCell_far U5 B _ j _ (Ne.symm e), HS5.out.2.2 j hj', List.getD_eq_getElem?_getD, List.getElem?_eq_getElem (by simpa using hj')]
            simp [Ne.symm e]
        clear hcell hfz hxr hne hkk HS5 HL2
        rintro U6 ⟨g1, g2, g3⟩
        have hXU : X < U6.heap.size := g1.lt
        have hXN : X ≠ U6.heap.size := by omega
        have hBU : B < U6.heap.size := by
          have := g3 0 (by have := HK.out.2; omega)
          rcases Nat.lt_or_ge B U6.heap.size with h | h
          · exact h
          · simp [World.cell?, Array.getElem?_eq_none h] at this
        have hback : ∀ c, (convert 22 9 (.slice (some ⟨B, 0, none⟩) x.text.size c)).run Tryd.prog (U6.alloc (.cells #[.int .i64 x.num, .int .i64 x.cnt, .int .i64 x.sum, .string x.text] 24)) = .ok (.string ⟨l2.toArray⟩) (U6.alloc (.cells #[.int .i64 x.num, .int .i64 x.cnt, .int .i64 x.sum, .string x.text] 24)) := fun c => by
          have h := run_convert_bytes_back (P := Tryd.prog) (U6.alloc (.cells #[.int .i64 x.num, .int .i64 x.cnt, .int .i64 x.sum, .string x.text] 24)) 22 9 5 ⟨B, 0, none⟩ c l2 Tryd.underlying22 Tryd.underlying5 Tryd.underlying9 (fun j hj => by
            rw [WideShapes.add_plain, Nat.zero_add, World.cell?_alloc_lt _ _ ⟨B, j, none⟩ hBU]
            exact g3 j hj)
          rwa [hlen2] at h
        have HE6 : Hid (Below w.heap.size w U6) := g2
        have hsz2 : (⟨l2.toArray⟩ : ByteArray).size ≤ maxLen := by
          rw [show (⟨l2.toArray⟩ : ByteArray).size = l2.length from rfl, hlen2]; exact hmv
        obtain ⟨t2, ht2⟩ : ∃ t2 : ByteArray, (⟨l2.toArray⟩ : ByteArray) = t2 := ⟨_, rfl⟩
        rw [ht2] at hback hsz2 HNO
        have v0 : U6.cell? ⟨X, 0, none⟩ = some (.int .i64 x.num) := (g1).cell 0
        have v1 : U6.cell? ⟨X, 1, none⟩ = some (.int .i64 x.cnt) := (g1).cell 1
        have v2 : U6.cell? ⟨X, 2, none⟩ = some (.int .i64 x.sum) := (g1).cell 2
        have v3 : U6.cell? ⟨X, 3, none⟩ = some (.string x.text) := (g1).cell 3
        clear g1 g2 g3 hlen2 ht2
        go_wp2_with fail
        refine (implVolOk_any ⟨x.num, x.cnt, x.sum, t2⟩ _ hsz2).mono ?_
        rintro e w20 ⟨hb20, rfl⟩
        rw [HNO.out]
        have HE : Hid (Below w.heap.size w w20) := (HE6.out.alloc HE6.out.size _).trans (hb20.mono (by have := HE6.out.size; simp; omega))
        clear hb20 hback v0 v1 v2 v3
        go_wp2
        go_ret
        exact ⟨rfl, HE.out⟩
    | true =>
      have hyo : voOk y = true ∧ bytes (volT y) = bytes t := by
        have g1 := HR2.out.2.1
        have g2 := HR2.out.2.2
        cases r3 with
        | none => cases g2
        | some q =>
          have : q = y := g1
          subst this
          exact HR2.out.1.1 q rfl
      have hmy : y.text.size ≤ maxLen := by have := (voOk_iff.1 hyo.1).2.2.2.2.1; unfold maxLen; omega
      have hyt : volT y = t := bytes_inj hyo.2
      go_wp2_with fail
      refine at_world (F := fun U => Blk U X #[.int .i64 x.num, .int .i64 x.cnt, .int .i64 x.sum, .string x.text] 24 ∧ Blk U Z #[.int .i64 y.num, .int .i64 y.cnt, .int .i64 y.sum, .string y.text] 24 ∧ Below w.heap.size w U) ⟨H8.out.1.alloc _, H8.out.2.1.alloc _, H8.out.2.2.alloc H8.out.2.2.size _⟩ ?_
      rintro U3 ⟨h1, h2, h3⟩
      refine (implVolText_any y U3 hmy (hT.keeps h3)).mono ?_
      rintro e w13 ⟨hb13, rfl⟩
      rw [hyt]
      have H9 : Hid (Blk w13 X #[.int .i64 x.num, .int .i64 x.cnt, .int .i64 x.sum, .string x.text] 24 ∧ Blk w13 Z #[.int .i64 y.num, .int .i64 y.cnt, .int .i64 y.sum, .string y.text] 24 ∧ Below w.heap.size w w13) := ⟨h1.below hb13 h1.lt, h2.below hb13 h2.lt, h3.trans (hb13.mono h3.size)⟩
      clear h1 h2 h3 hb13 z0 z1 z2 z3 H8 hZl hZn
      have z0 : w13.cell? ⟨Z, 0, none⟩ = some (.int .i64 y.num) := H9.out.2.1.cell 0
      have z1 : w13.cell? ⟨Z, 1, none⟩ = some (.int .i64 y.cnt) := H9.out.2.1.cell 1
      have z2 : w13.cell? ⟨Z, 2, none⟩ = some (.int .i64 y.sum) := H9.out.2.1.cell 2
      have z3 : w13.cell? ⟨Z, 3, none⟩ = some (.string y.text) := H9.out.2.1.cell 3
      go_wp2_with fail
      refine (implVolOk_any y w13 hmy).mono ?_
      rintro e w14 ⟨hb14, rfl⟩
      rw [hyo.1]
      have H8 : Hid (Blk w14 X #[.int .i64 x.num, .int .i64 x.cnt, .int .i64 x.sum, .string x.text] 24 ∧ Below w.heap.size w w14) := ⟨H9.out.1.below hb14 H9.out.1.lt, H9.out.2.2.trans (hb14.mono H9.out.2.2.size)⟩
      clear hb14 H9 z0 z1 z2 z3 hyt hyo hmy
      have v0 : w14.cell? ⟨X, 0, none⟩ = some (.int .i64 x.num) := (H8.out.1).cell 0
      have v1 : w14.cell? ⟨X, 1, none⟩ = some (.int .i64 x.cnt) := (H8.out.1).cell 1
      have v2 : w14.cell? ⟨X, 2, none⟩ = some (.int .i64 x.sum) := (H8.out.1).cell 2
      have v3 : w14.cell? ⟨X, 3, none⟩ = some (.string x.text) := (H8.out.1).cell 3
      have hXw : X < w14.heap.size := (H8.out.1).lt
      have hXn : X ≠ w14.heap.size := by omega
      have H10 : Hid (Blk w14 X #[.int .i64 x.num, .int .i64 x.cnt, .int .i64 x.sum, .string x.text] 24 ∧ Below w.heap.size w w14) := ⟨H8.out.1, H8.out.2⟩
      clear H8
      by_cases hs0 : x.text.size = 0
      · have hz : ((x.text.size : Int) == 0) = true := beq_iff_eq.2 (by omega)
        clear hs0
        go_wp2
        go_ret
        exact ⟨rfl, by first | exact H10.out.2 | exact H10.out.2.alloc H10.out.2.size _⟩
      · have hz : ((x.text.size : Int) == 0) = false := beq_eq_false_iff_ne.2 (by omega)
        have hk0 : len1 % x.text.size < x.text.size := Nat.mod_lt _ (by omega)
        have hcv := fun U => Lib.run_convert_string_bytes (P := Tryd.prog) U 9 22 5 x.text Tryd.underlying9 Tryd.underlying22 Tryd.underlying5
        have HK : Hid (len1 % x.text.size < x.text.size ∧ 0 < x.text.size) := ⟨hk0, by omega⟩
        clear hs0 hk0
        go_wp2_with fail
        clear hcv v0 v1 v2 v3 hXw hXn
        obtain ⟨B, hB⟩ : ∃ B, B = w14.heap.size := ⟨_, rfl⟩
        refine wp_world (F := fun U => Blk U X #[.int .i64 x.num, .int .i64 x.cnt, .int .i64 x.sum, .string x.text] 24 ∧ Below w.heap.size w U ∧ (∀ j, j < x.text.size → U.cell? ⟨B, j, none⟩ = some (.int .u8 ((x.text.data.toList.getD j 0).toNat : Int)) ∧ U.frozen? ⟨B, j, none⟩ = false) ∧ w.heap.size ≤ B ∧ X < B) ?_ ?_
        · have hbw : Below w.heap.size w (w14) := H10.out.2
          have hbx : Blk (w14) X #[.int .i64 x.num, .int .i64 x.cnt, .int .i64 x.sum, .string x.text] 24 := H10.out.1
          have hsz : (w14).heap.size = B := by rw [hB]
          generalize w14 = WA at *
          have hbb := Go.Joins.below_bytesWorld WA.heap.size WA 5 x.text (Nat.le_refl _)
          refine ⟨hbx.below hbb hbx.lt, hbw.trans (hbb.mono hbw.size), fun j hj => ⟨?_, ?_⟩, by rw [← hsz]; exact hbw.size, by rw [← hsz]; exact hbx.lt⟩
          · rw [← hsz]; exact Lib.bytesWorld_cell WA 5 x.text j hj
          · rw [← hsz]; exact bytes_free WA x.text j hj
        rw [← hB]
        clear hB
        rintro U5 ⟨g1, g2, g3, g4, g5⟩
        obtain ⟨b0, hb0⟩ : ∃ b0 : UInt8, b0 = x.text.data.toList.getD (len1 % x.text.size) 0 := ⟨_, rfl⟩
        have hcell : U5.cell? ⟨B, len1 % x.text.size, none⟩ = some (.int .u8 (b0.toNat : Int)) := by rw [hb0]; exact (g3 _ HK.out.1).1
        have hfz := (g3 _ HK.out.1).2
        have hxr : bits .xor .u8 (b0.toNat : Int) 2 = ((b0 ^^^ 2).toNat : Int) := xor_u8 b0 2 (by decide)
        obtain ⟨l2, hl2⟩ : ∃ l2 : List UInt8, l2 = x.text.data.toList.set (len1 % x.text.size) (b0 ^^^ 2) := ⟨_, rfl⟩
        have hlen2 : l2.length = x.text.size := by rw [hl2]; simp
        have HNO : Hid (voOk ⟨x.num, x.cnt, x.sum, ⟨l2.toArray⟩⟩ = false) := by
          show _ = _
          refine ok_turned HOK.out HK.out.1 ?_
          rw [hl2, hb0, getD_byte x.text _ HK.out.1]
        have HS5 : Hid (Blk U5 X #[.int .i64 x.num, .int .i64 x.cnt, .int .i64 x.sum, .string x.text] 24 ∧ Below w.heap.size w U5 ∧ ∀ j, j < x.text.size → U5.cell? ⟨B, j, none⟩ = some (.int .u8 ((x.text.data.toList.getD j 0).toNat : Int))) := ⟨g1, g2, fun j hj => (g3 j hj).1⟩
        have hne : ((x.text.size : Int) == 0) = false := hz
        have hkk : ((len1 % x.text.size : Nat) : Int) < (x.text.size : Int) := by have := HK.out.1; omega
        have HL2 : Hid (l2 = x.text.data.toList.set (len1 % x.text.size) (b0 ^^^ 2)) := hl2
        clear g1 g2 g3 hz hl2 hb0
        go_region
        refine q_world (F := fun U => Blk U X #[.int .i64 x.num, .int .i64 x.cnt, .int .i64 x.sum, .string x.text] 24 ∧ Below w.heap.size w U ∧ ∀ j (hj : j < l2.length), U.cell? ⟨B, j, none⟩ = some (.int .u8 ((l2[j]).toNat : Int))) ?_ ?_
        · refine ⟨(Blk.off HS5.out.1 _ (by omega)).of_block rfl, (bel_put HS5.out.2.1 _ g4).drew, fun j hj => ?_⟩
          have hl2 := HL2.out
          subst hl2
          have hj' : j < x.text.size := by simpa using hj
          show (U5.setCell _ _).cell? _ = _
          by_cases e : j = len1 % x.text.size
          · subst e
            rw [show b0.toNat ^^^ 2 = (b0 ^^^ 2).toNat from (UInt8.toNat_xor b0 2).symm]
            have h2 := World.cell?_setCell_same (w := U5) (a := ⟨B, len1 % x.text.size, none⟩) (v := .int .u8 ((b0 ^^^ 2).toNat : Int)) hcell
            rw [h2]
            simp
          · rw [cell?_setCell_far U5 B _ j _ (Ne.symm e), HS5.out.2.2 j hj', List.getD_eq_getElem?_getD, List.getElem?_eq_getElem (by simpa using hj')]
            simp [Ne.symm e]
        clear hcell hfz hxr hne hkk HS5 HL2
        rintro U6 ⟨g1, g2, g3⟩
        have hXU : X < U6.heap.size := g1.lt
        have hXN : X ≠ U6.heap.size := by omega
        have hBU : B < U6.heap.size := by
          have := g3 0 (by have := HK.out.2; omega)
          rcases Nat.lt_or_ge B U6.heap.size with h | h
          · exact h
          · simp [World.cell?, Array.getElem?_eq_none h] at this
        have hback : ∀ c, (convert 22 9 (.slice (some ⟨B, 0, none⟩) x.text.size c)).run Tryd.prog (U6.alloc (.cells #[.int .i64 x.num, .int .i64 x.cnt, .int .i64 x.sum, .string x.text] 24)) = .ok (.string ⟨l2.toArray⟩) (U6.alloc (.cells #[.int .i64 x.num, .int .i64 x.cnt, .int .i64 x.sum, .string x.text] 24)) := fun c => by
          have h := run_convert_bytes_back (P := Tryd.prog) (U6.alloc (.cells #[.int .i64 x.num, .int .i64 x.cnt, .int .i64 x.sum, .string x.text] 24)) 22 9 5 ⟨B, 0, none⟩ c l2 Tryd.underlying22 Tryd.underlying5 Tryd.underlying9 (fun j hj => by
            rw [WideShapes.add_plain, Nat.zero_add, World.cell?_alloc_lt _ _ ⟨B, j, none⟩ hBU]
            exact g3 j hj)
          rwa [hlen2] at h
        have HE6 : Hid (Below w.heap.size w U6) := g2
        have hsz2 : (⟨l2.toArray⟩ : ByteArray).size ≤ maxLen := by
          rw [show (⟨l2.toArray⟩ : ByteArray).size = l2.length from rfl, hlen2]; exact hmv
        obtain ⟨t2, ht2⟩ : ∃ t2 : ByteArray, (⟨l2.toArray⟩ : ByteArray) = t2 := ⟨_, rfl⟩
        rw [ht2] at hback hsz2 HNO
        have v0 : U6.cell? ⟨X, 0, none⟩ = some (.int .i64 x.num) := (g1).cell 0
        have v1 : U6.cell? ⟨X, 1, none⟩ = some (.int .i64 x.cnt) := (g1).cell 1
        have v2 : U6.cell? ⟨X, 2, none⟩ = some (.int .i64 x.sum) := (g1).cell 2
        have v3 : U6.cell? ⟨X, 3, none⟩ = some (.string x.text) := (g1).cell 3
        clear g1 g2 g3 hlen2 ht2
        go_wp2_with fail
        refine (implVolOk_any ⟨x.num, x.cnt, x.sum, t2⟩ _ hsz2).mono ?_
        rintro e w20 ⟨hb20, rfl⟩
        rw [HNO.out]
        have HE : Hid (Below w.heap.size w w20) := (HE6.out.alloc HE6.out.size _).trans (hb20.mono (by have := HE6.out.size; simp; omega))
        clear hb20 hback v0 v1 v2 v3
        go_wp2
        go_ret
        exact ⟨rfl, HE.out⟩
end Go.Proofs.YtjlldefajgmelaaDoor
