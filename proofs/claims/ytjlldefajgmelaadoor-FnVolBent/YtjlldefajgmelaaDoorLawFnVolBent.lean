/-
  FnVolBent, walked, where the library's table of powers of ten reads as it is laid.
-/
import Derived.Test.YtjlldefajgmelaaDoorDrawVolT
import Derived.Test.YtjlldefajgmelaaDoorSpecVolText
import Derived.Test.YtjlldefajgmelaaDoorImplVolText
import Derived.Test.YtjlldefajgmelaaDoorScanMath
import Derived.Test.YtjlldefajgmelaaDoorVoEq
import Derived.Test.YtjlldefajgmelaaDoorLat
import Derived.BigQuiet
namespace Go.Proofs.YtjlldefajgmelaaDoor
open Go.RowKit
set_option linter.unusedVariables false
set_option linter.unusedSimpArgs false

/-- Two pieces in their variables. -/
structure VB (w : World) (v u : Vo) (X Y : Nat) (W : World) : Prop where
  x : Blk W X #[.int .i64 v.num, .int .i64 v.cnt, .int .i64 v.sum, .string v.text] 24
  y : Blk W Y #[.int .i64 u.num, .int .i64 u.cnt, .int .i64 u.sum, .string u.text] 24
  bel : Below w.heap.size w W
  xy : X < Y

theorem VB.below {w : World} {v u : Vo} {X Y : Nat} {W W' : World} (h : VB w v u X Y W) (hb : Below W.heap.size W W') : VB w v u X Y W' := ⟨h.x.below hb h.x.lt, h.y.below hb h.y.lt, h.bel.trans (hb.mono h.bel.size), h.xy⟩

theorem volT_no {v : Vo} (h : voOk v = false) : volT v = ⟨#[]⟩ := by unfold volT; rw [h]; rfl

theorem toList_inj {a b : ByteArray} (h : a.toList = b.toList) : a = b := by
  rw [ByteArray.toList_eq, ByteArray.toList_eq] at h
  obtain ⟨⟨x⟩⟩ := a
  obtain ⟨⟨y⟩⟩ := b
  have e : x = y := h
  subst e; rfl

theorem volT_eq {v u : Vo} (hv : voOk v = true) (hu : voOk u = true) : sameVo v u = ((volT v).toList == (volT u).toList) := by
  by_cases h : v = u
  · subst h
    have : sameVo v v = true := sameVo_iff.2 rfl
    rw [this]; simp
  · have h1 : sameVo v u = false := by
      cases e : sameVo v u with
      | false => rfl
      | true => exact absurd (sameVo_iff.1 e) h
    have h2 : ((volT v).toList == (volT u).toList) = false := by
      rw [beq_eq_false_iff_ne]
      intro e
      exact h (volT_inj hv hu (by rw [toList_inj e]))
    rw [h1, h2]

theorem ok_bent {v : Vo} (h : voOk v = true) : voOk ⟨v.num, v.cnt, v.sum + 1, v.text⟩ = false ∧ voOk ⟨v.cnt + 1, v.cnt, v.sum, v.text⟩ = false ∧ voOk ⟨0, v.cnt, v.sum, v.text⟩ = false ∧ voOk ⟨v.num, 41, v.sum, v.text⟩ = false := by
  obtain ⟨h1, h2, h3, h4, h5, h6⟩ := voOk_iff.1 h
  have key : ∀ {q : Vo}, (voOk q = true → False) → voOk q = false := fun {q} hq => by
    cases e : voOk q with
    | false => rfl
    | true => exact (hq e).elim
  refine ⟨key fun e => ?_, key fun e => ?_, key fun e => ?_, key fun e => ?_⟩
  · obtain ⟨_, _, _, _, _, g⟩ := voOk_iff.1 e
    simp only at g
    omega
  · obtain ⟨_, _, _, g, _⟩ := voOk_iff.1 e
    simp only at g
    omega
  · obtain ⟨_, _, g, _⟩ := voOk_iff.1 e
    simp only at g
    omega
  · obtain ⟨_, g, _⟩ := voOk_iff.1 e
    simp only at g
    omega

theorem tiny_max {v : Vo} (h : v.Tiny) : v.text.size ≤ maxLen := by have := h.2.2.2; unfold maxLen; omega

set_option maxRecDepth 100000 in
set_option maxHeartbeats 8000000 in
theorem lawFnVolBent (a0 : Option Addr) (len0 cap0 : Nat) (zs0 : Nat → Int) (a1 : Option Addr) (len1 cap1 : Nat) (zs1 : Nat → Int) (w : World) (hc0 : IsCode w a0 len0 zs0) (hlen0 : len0 ≤ maxLen) (hcap0 : len0 ≤ cap0)
    (hc1 : IsCode w a1 len1 zs1) (hlen1 : len1 ≤ maxLen) (hcap1 : len1 ≤ cap1) (hT : Pow10 w) :
    Calls Tryd.prog 4 #[.slice a0 len0 cap0, .slice a1 len1 cap1] w fun e w' => e = .returned (.bool true) ∧ Below w.heap.size w w' := by
  have l0 := hlen0
  have l1 := hlen1
  unfold maxLen at l0 l1
  by_cases hbig0 : (1048576 : Int) < len0
  · have hb : decide ((1048576 : Int) < len0) = true := by simp; omega
    go_enter Tryd.func4, Tryd.ntmps4
    go_wp2
    go_ret
    exact ⟨rfl, Below.refl _ _⟩
  have hb0 : decide ((1048576 : Int) < len0) = false := by simp; omega
  by_cases hbig1 : (1048576 : Int) < len1
  · have hb : decide ((1048576 : Int) < len1) = true := by simp; omega
    go_enter Tryd.func4, Tryd.ntmps4
    go_wp2
    go_ret
    exact ⟨rfl, Below.refl _ _⟩
  have hb1 : decide ((1048576 : Int) < len1) = false := by simp; omega
  go_enter Tryd.func4, Tryd.ntmps4
  go_wp2_with fail
  refine (drawVolOk_any w a0 len0 cap0 zs0 hc0 hlen0 hcap0).mono ?_
  rintro e w1 ⟨v, rfl, hv, hB1⟩
  unfold voV
  have HB1 : Hid (Below w.heap.size w w1 ∧ v.Tiny) := ⟨hB1, hv⟩
  have hl1 : w.heap.size ≤ w1.heap.size := hB1.size
  clear hB1 hv
  go_wp2_with fail
  refine at_world (F := New1 w1 #[.int .i64 v.num, .int .i64 v.cnt, .int .i64 v.sum, .string v.text] 24) (new1 w1 _ _) ?_
  rintro W2 ⟨hx2, hb2, hs2⟩
  refine (drawVolText_any W2 a1 len1 cap1 zs1 (hc1.below (HB1.out.1.trans (hb2.mono hl1))) hlen1 hcap1).mono ?_
  rintro e w3 ⟨u, rfl, hu, hB3⟩
  unfold voV
  have HB3 : Hid (Blk w3 w1.heap.size #[.int .i64 v.num, .int .i64 v.cnt, .int .i64 v.sum, .string v.text] 24 ∧ Below w.heap.size w w3 ∧ u.Tiny) := ⟨hx2.below hB3 (by omega), (HB1.out.1.trans (hb2.mono hl1)).trans (hB3.mono (by omega)), hu⟩
  have hl3 : w1.heap.size < w3.heap.size := by have := hB3.size; omega
  have hn3 : w1.heap.size ≠ w3.heap.size := by omega
  clear hx2 hb2 hs2 hB3 hu
  obtain ⟨x0, x1, x2, x3⟩ : w3.cell? ⟨w1.heap.size, 0, none⟩ = some (.int .i64 v.num) ∧ w3.cell? ⟨w1.heap.size, 1, none⟩ = some (.int .i64 v.cnt) ∧ w3.cell? ⟨w1.heap.size, 2, none⟩ = some (.int .i64 v.sum) ∧ w3.cell? ⟨w1.heap.size, 3, none⟩ = some (.string v.text) := ⟨HB3.out.1.cell 0, HB3.out.1.cell 1, HB3.out.1.cell 2, HB3.out.1.cell 3⟩
  go_wp2_with fail
  clear x0 x1 x2 x3
  refine wp_world (F := fun U => VB w v u w1.heap.size w3.heap.size U) ?_ ?_
  · obtain ⟨h1, h2, _⟩ := new1 w3 #[.int .i64 u.num, .int .i64 u.cnt, .int .i64 u.sum, .string u.text] 24
    exact ⟨HB3.out.1.below h2 hl3, h1, HB3.out.2.1.trans (h2.mono HB3.out.2.1.size), hl3⟩
  intro W5 h5
  have H5 : Hid (VB w v u w1.heap.size w3.heap.size W5) := h5
  have HV : Hid (v.Tiny ∧ u.Tiny) := ⟨HB1.out.2, HB3.out.2.2⟩
  clear h5 HB1 HB3 hc0 hc1 hl1
  generalize w1.heap.size = X at *
  generalize w3.heap.size = Y at *
  have hmv := tiny_max HV.out.1
  have hmu := tiny_max HV.out.2
  have hT5 : Hid (∀ W, Below w.heap.size w W → Pow10 W) := fun W hW => hT.keeps hW
  have tx0 : W5.cell? ⟨X, 0, none⟩ = some (.int .i64 v.num) := H5.out.x.cell 0
  have TX0 := Lat.cell (B := W5.heap.size) tx0 H5.out.x.lt
  have tx1 : W5.cell? ⟨X, 1, none⟩ = some (.int .i64 v.cnt) := H5.out.x.cell 1
  have TX1 := Lat.cell (B := W5.heap.size) tx1 H5.out.x.lt
  have tx2 : W5.cell? ⟨X, 2, none⟩ = some (.int .i64 v.sum) := H5.out.x.cell 2
  have TX2 := Lat.cell (B := W5.heap.size) tx2 H5.out.x.lt
  have tx3 : W5.cell? ⟨X, 3, none⟩ = some (.string v.text) := H5.out.x.cell 3
  have TX3 := Lat.cell (B := W5.heap.size) tx3 H5.out.x.lt
  have ty0 : W5.cell? ⟨Y, 0, none⟩ = some (.int .i64 u.num) := H5.out.y.cell 0
  have TY0 := Lat.cell (B := W5.heap.size) ty0 H5.out.y.lt
  have ty1 : W5.cell? ⟨Y, 1, none⟩ = some (.int .i64 u.cnt) := H5.out.y.cell 1
  have TY1 := Lat.cell (B := W5.heap.size) ty1 H5.out.y.lt
  have ty2 : W5.cell? ⟨Y, 2, none⟩ = some (.int .i64 u.sum) := H5.out.y.cell 2
  have TY2 := Lat.cell (B := W5.heap.size) ty2 H5.out.y.lt
  have ty3 : W5.cell? ⟨Y, 3, none⟩ = some (.string u.text) := H5.out.y.cell 3
  have TY3 := Lat.cell (B := W5.heap.size) ty3 H5.out.y.lt
  have I1 : Hid (∀ q : Lat W5.heap.size W5, Calls Tryd.prog 10 #[(.agg #[.int .i64 v.num, .int .i64 v.cnt, .int .i64 v.sum, .string v.text])] q.val fun e w'' => e = .returned (.bool (voOk v)) ∧ ∃ m : Lat W5.heap.size W5, w'' = m.val) := fun q =>
    Calls.lat_of (implVolOk_any v q.val hmv) (fun e w' h => ⟨by simpa [voV] using h.2, h.1.mono q.bel.size⟩)
  have I2 : Hid (∀ q : Lat W5.heap.size W5, Calls Tryd.prog 11 #[(.agg #[.int .i64 v.num, .int .i64 v.cnt, .int .i64 v.sum, .string v.text])] q.val fun e w'' => e = .returned (.bool (voOk v)) ∧ ∃ m : Lat W5.heap.size W5, w'' = m.val) := fun q =>
    Calls.lat_of (specVolOk_any v q.val hmv) (fun e w' h => ⟨by simpa [voV] using h.2, h.1.mono q.bel.size⟩)
  cases hok : voOk v with
  | false =>
    have hsf : ((false : Bool) != false) = false := rfl
    rw [hok] at I1 I2
    have HOK : Hid (voOk v = false) := hok
    have HIV : Hid (∀ W, Calls Tryd.prog 10 #[voV v] W fun e w' => Below W.heap.size W w' ∧ e = .returned (.bool false)) := fun W => by have h := implVolOk_any v W hmv; rwa [hok] at h
    have HSV : Hid (∀ W, Calls Tryd.prog 11 #[voV v] W fun e w' => Below W.heap.size W w' ∧ e = .returned (.bool false)) := fun W => by have h := specVolOk_any v W hmv; rwa [hok] at h
    have HTV : Hid (∀ W, Below w.heap.size w W → Calls Tryd.prog 7 #[voV v] W fun e w' => Below W.heap.size W w' ∧ e = .returned (.string ⟨#[]⟩)) := fun W hW => by have h := implVolText_any v W hmv (hT5.out W hW); rwa [volT_no hok] at h
    clear hok
    refine wp_region_lat (B := W5.heap.size) (w0 := W5) (by kernel_rfl) (by kernel_rfl) (Below.refl _ _) ?_
    repeat (go_big_quiet_step (first | with_reducible exact I1.out _ | with_reducible exact I2.out _))
    refine wpQuiet_nil ?_
    rintro _ ⟨nq, rfl⟩
    obtain ⟨W6, hWq⟩ : ∃ W, W = nq.val := ⟨_, rfl⟩
    have hN : Below W5.heap.size W5 W6 := by rw [hWq]; exact nq.bel
    rw [← hWq]
    clear hWq nq tx0 TX0 tx1 TX1 tx2 TX2 tx3 TX3 ty0 TY0 ty1 TY1 ty2 TY2 ty3 TY3 I1 I2
    have H6 : Hid (VB w v u X Y W6) := H5.out.below hN
    clear hN
    clear H5
    have tx0 : W6.cell? ⟨X, 0, none⟩ = some (.int .i64 v.num) := H6.out.x.cell 0
    have TX0 := Lat.cell (B := W6.heap.size) tx0 H6.out.x.lt
    have tx1 : W6.cell? ⟨X, 1, none⟩ = some (.int .i64 v.cnt) := H6.out.x.cell 1
    have TX1 := Lat.cell (B := W6.heap.size) tx1 H6.out.x.lt
    have tx2 : W6.cell? ⟨X, 2, none⟩ = some (.int .i64 v.sum) := H6.out.x.cell 2
    have TX2 := Lat.cell (B := W6.heap.size) tx2 H6.out.x.lt
    have tx3 : W6.cell? ⟨X, 3, none⟩ = some (.string v.text) := H6.out.x.cell 3
    have TX3 := Lat.cell (B := W6.heap.size) tx3 H6.out.x.lt
    have I1 : Hid (∀ q : Lat W6.heap.size W6, Calls Tryd.prog 10 #[(.agg #[.int .i64 v.num, .int .i64 v.cnt, .int .i64 v.sum, .string v.text])] q.val fun e w'' => e = .returned (.bool false) ∧ ∃ m : Lat W6.heap.size W6, w'' = m.val) := fun q =>
      Calls.lat_of (HIV.out q.val) (fun e w' h => ⟨by simpa [voV] using h.2, h.1.mono q.bel.size⟩)
    have I2 : Hid (∀ q : Lat W6.heap.size W6, Calls Tryd.prog 11 #[(.agg #[.int .i64 v.num, .int .i64 v.cnt, .int .i64 v.sum, .string v.text])] q.val fun e w'' => e = .returned (.bool false) ∧ ∃ m : Lat W6.heap.size W6, w'' = m.val) := fun q =>
      Calls.lat_of (HSV.out q.val) (fun e w' h => ⟨by simpa [voV] using h.2, h.1.mono q.bel.size⟩)
    have I3 : Hid (∀ q : Lat W6.heap.size W6, Calls Tryd.prog 7 #[(.agg #[.int .i64 v.num, .int .i64 v.cnt, .int .i64 v.sum, .string v.text])] q.val fun e w'' => e = .returned (.string ⟨#[]⟩) ∧ ∃ m : Lat W6.heap.size W6, w'' = m.val) := fun q =>
      Calls.lat_of (HTV.out q.val ((H6.out.bel).trans (q.bel.mono H6.out.bel.size))) (fun e w' h => ⟨by simpa [voV] using h.2, h.1.mono q.bel.size⟩)
    go_wp2_with fail
    refine wp_region_lat (B := W6.heap.size) (w0 := W6) (by kernel_rfl) (by kernel_rfl) (Below.refl _ _) ?_
    repeat (go_big_quiet_step (first | with_reducible exact I1.out _ | with_reducible exact I2.out _ | with_reducible exact I3.out _))
    refine wpQuiet_nil ?_
    rintro _ ⟨nq, rfl⟩
    obtain ⟨W7, hWq⟩ : ∃ W, W = nq.val := ⟨_, rfl⟩
    have hN : Below W6.heap.size W6 W7 := by rw [hWq]; exact nq.bel
    rw [← hWq]
    clear hWq nq tx0 TX0 tx1 TX1 tx2 TX2 tx3 TX3 I1 I2 I3
    have HE : Hid (Below w.heap.size w W7) := H6.out.bel.trans (hN.mono H6.out.bel.size)
    clear hN
    go_wp2
    go_ret
    exact ⟨rfl, HE.out⟩
  | true =>
    rw [hok] at I1 I2
    have HOK : Hid (voOk v = true) := hok
    clear hok
    refine wp_region_lat (B := W5.heap.size) (w0 := W5) (by kernel_rfl) (by kernel_rfl) (Below.refl _ _) ?_
    repeat (go_big_quiet_step (first | with_reducible exact I1.out _ | with_reducible exact I2.out _))
    refine wpQuiet_nil ?_
    rintro _ ⟨nq, rfl⟩
    obtain ⟨W6, hWq⟩ : ∃ W, W = nq.val := ⟨_, rfl⟩
    have hN : Below W5.heap.size W5 W6 := by rw [hWq]; exact nq.bel
    rw [← hWq]
    clear hWq nq tx0 TX0 tx1 TX1 tx2 TX2 tx3 TX3 ty0 TY0 ty1 TY1 ty2 TY2 ty3 TY3 I1 I2
    have H6 : Hid (VB w v u X Y W6) := H5.out.below hN
    clear hN
    clear H5
    have tx0 : W6.cell? ⟨X, 0, none⟩ = some (.int .i64 v.num) := H6.out.x.cell 0
    have tx1 : W6.cell? ⟨X, 1, none⟩ = some (.int .i64 v.cnt) := H6.out.x.cell 1
    have tx2 : W6.cell? ⟨X, 2, none⟩ = some (.int .i64 v.sum) := H6.out.x.cell 2
    have tx3 : W6.cell? ⟨X, 3, none⟩ = some (.string v.text) := H6.out.x.cell 3
    have hxl : X < W6.heap.size := H6.out.x.lt
    have hyl : Y < W6.heap.size := H6.out.y.lt
    have nx0 : X ≠ W6.heap.size := by omega
    have mx0 : X < W6.heap.size := by omega
    have nx1 : X ≠ W6.heap.size + 1 := by omega
    have mx1 : X < W6.heap.size + 1 := by omega
    have nx2 : X ≠ W6.heap.size + 1 + 1 := by omega
    have mx2 : X < W6.heap.size + 1 + 1 := by omega
    have nx3 : X ≠ W6.heap.size + 1 + 1 + 1 := by omega
    have mx3 : X < W6.heap.size + 1 + 1 + 1 := by omega
    have hv1 := HV.out.1
    have hw1 : IntKind.i64.wrap (v.sum + 1) = v.sum + 1 := wrap_i64 _ (by have := hv1.2.2.1; omega) (by have := hv1.2.2.1; omega)
    have hw2 : IntKind.i64.wrap (v.cnt + 1) = v.cnt + 1 := wrap_i64 _ (by have := hv1.2.1; omega) (by have := hv1.2.1; omega)
    clear hv1
    go_wp2_with fail
    clear tx0 tx1 tx2 tx3 nx0 mx0 nx1 mx1 nx2 mx2 nx3 mx3 hw1 hw2
    refine at_world (F := fun U => VB w v u X Y U ∧ Blk U (W6.heap.size + 1) #[.int .i64 (v.cnt + 1), .int .i64 v.cnt, .int .i64 v.sum, .string v.text] 24 ∧ Blk U (W6.heap.size + 1 + 1) #[.int .i64 0, .int .i64 v.cnt, .int .i64 v.sum, .string v.text] 24 ∧ Blk U (W6.heap.size + 1 + 1 + 1) #[.int .i64 v.num, .int .i64 41, .int .i64 v.sum, .string v.text] 24) ?_ ?_
    · have ba : Below W6.heap.size W6 ((((W6.alloc (.cells #[.int .i64 v.num, .int .i64 v.cnt, .int .i64 (v.sum + 1), .string v.text] 24)).alloc (.cells #[.int .i64 (v.cnt + 1), .int .i64 v.cnt, .int .i64 v.sum, .string v.text] 24)).alloc (.cells #[.int .i64 0, .int .i64 v.cnt, .int .i64 v.sum, .string v.text] 24)).alloc (.cells #[.int .i64 v.num, .int .i64 41, .int .i64 v.sum, .string v.text] 24)) := ((((Below.refl _ _).alloc (Nat.le_refl _) _).alloc (by simp) _).alloc (by simp; omega) _).alloc (by simp; omega) _
      have hs1 := World.size_alloc W6 (.cells #[.int .i64 v.num, .int .i64 v.cnt, .int .i64 (v.sum + 1), .string v.text] 24)
      refine ⟨H6.out.below ba, ?_, ?_, ?_⟩
      · have := Blk.new (W6.alloc (.cells #[.int .i64 v.num, .int .i64 v.cnt, .int .i64 (v.sum + 1), .string v.text] 24)) #[.int .i64 (v.cnt + 1), .int .i64 v.cnt, .int .i64 v.sum, .string v.text] 24
        exact ((by simpa using this : Blk _ (W6.heap.size + 1) #[.int .i64 (v.cnt + 1), .int .i64 v.cnt, .int .i64 v.sum, .string v.text] 24).alloc _).alloc _
      · have := Blk.new ((W6.alloc (.cells #[.int .i64 v.num, .int .i64 v.cnt, .int .i64 (v.sum + 1), .string v.text] 24)).alloc (.cells #[.int .i64 (v.cnt + 1), .int .i64 v.cnt, .int .i64 v.sum, .string v.text] 24)) #[.int .i64 0, .int .i64 v.cnt, .int .i64 v.sum, .string v.text] 24
        exact (by simpa using this : Blk _ (W6.heap.size + 1 + 1) #[.int .i64 0, .int .i64 v.cnt, .int .i64 v.sum, .string v.text] 24).alloc _
      · have := Blk.new (((W6.alloc (.cells #[.int .i64 v.num, .int .i64 v.cnt, .int .i64 (v.sum + 1), .string v.text] 24)).alloc (.cells #[.int .i64 (v.cnt + 1), .int .i64 v.cnt, .int .i64 v.sum, .string v.text] 24)).alloc (.cells #[.int .i64 0, .int .i64 v.cnt, .int .i64 v.sum, .string v.text] 24)) #[.int .i64 v.num, .int .i64 41, .int .i64 v.sum, .string v.text] 24
        simpa using this
    rintro U0 hU0
    have HU0 : Hid (VB w v u X Y U0 ∧ Blk U0 (W6.heap.size + 1) #[.int .i64 (v.cnt + 1), .int .i64 v.cnt, .int .i64 v.sum, .string v.text] 24 ∧ Blk U0 (W6.heap.size + 1 + 1) #[.int .i64 0, .int .i64 v.cnt, .int .i64 v.sum, .string v.text] 24 ∧ Blk U0 (W6.heap.size + 1 + 1 + 1) #[.int .i64 v.num, .int .i64 41, .int .i64 v.sum, .string v.text] 24) := hU0
    have HNO : Hid _ := ok_bent HOK.out
    clear hU0 H6
    generalize W6.heap.size = B6 at *
    refine (implVolOk_any ⟨v.num, v.cnt, v.sum + 1, v.text⟩ U0 hmv).mono ?_
    rintro e U1 ⟨hb, rfl⟩
    rw [HNO.out.1]
    have HU1 : Hid (VB w v u X Y U1 ∧ Blk U1 (B6 + 1) #[.int .i64 (v.cnt + 1), .int .i64 v.cnt, .int .i64 v.sum, .string v.text] 24 ∧ Blk U1 (B6 + 1 + 1) #[.int .i64 0, .int .i64 v.cnt, .int .i64 v.sum, .string v.text] 24 ∧ Blk U1 (B6 + 1 + 1 + 1) #[.int .i64 v.num, .int .i64 41, .int .i64 v.sum, .string v.text] 24) := ⟨HU0.out.1.below hb, (HU0.out.2.1).below hb (HU0.out.2.1).lt, (HU0.out.2.2.1).below hb (HU0.out.2.2.1).lt, (HU0.out.2.2.2).below hb (HU0.out.2.2.2).lt⟩
    clear hb HU0
    have e0 : U1.cell? ⟨B6 + 1, 0, none⟩ = some (.int .i64 (v.cnt + 1)) := HU1.out.2.1.cell 0
    have e1 : U1.cell? ⟨B6 + 1, 1, none⟩ = some (.int .i64 v.cnt) := HU1.out.2.1.cell 1
    have e2 : U1.cell? ⟨B6 + 1, 2, none⟩ = some (.int .i64 v.sum) := HU1.out.2.1.cell 2
    have e3 : U1.cell? ⟨B6 + 1, 3, none⟩ = some (.string v.text) := HU1.out.2.1.cell 3
    go_wp2_with fail
    refine (implVolOk_any ⟨v.cnt + 1, v.cnt, v.sum, v.text⟩ U1 hmv).mono ?_
    rintro e U2 ⟨hb, rfl⟩
    rw [HNO.out.2.1]
    have HU2 : Hid (VB w v u X Y U2 ∧ Blk U2 (B6 + 1) #[.int .i64 (v.cnt + 1), .int .i64 v.cnt, .int .i64 v.sum, .string v.text] 24 ∧ Blk U2 (B6 + 1 + 1) #[.int .i64 0, .int .i64 v.cnt, .int .i64 v.sum, .string v.text] 24 ∧ Blk U2 (B6 + 1 + 1 + 1) #[.int .i64 v.num, .int .i64 41, .int .i64 v.sum, .string v.text] 24) := ⟨HU1.out.1.below hb, (HU1.out.2.1).below hb (HU1.out.2.1).lt, (HU1.out.2.2.1).below hb (HU1.out.2.2.1).lt, (HU1.out.2.2.2).below hb (HU1.out.2.2.2).lt⟩
    clear hb HU1 e0 e1 e2 e3
    have e0 : U2.cell? ⟨B6 + 1 + 1, 0, none⟩ = some (.int .i64 0) := HU2.out.2.2.1.cell 0
    have e1 : U2.cell? ⟨B6 + 1 + 1, 1, none⟩ = some (.int .i64 v.cnt) := HU2.out.2.2.1.cell 1
    have e2 : U2.cell? ⟨B6 + 1 + 1, 2, none⟩ = some (.int .i64 v.sum) := HU2.out.2.2.1.cell 2
    have e3 : U2.cell? ⟨B6 + 1 + 1, 3, none⟩ = some (.string v.text) := HU2.out.2.2.1.cell 3
    go_wp2_with fail
    refine (implVolOk_any ⟨0, v.cnt, v.sum, v.text⟩ U2 hmv).mono ?_
    rintro e U3 ⟨hb, rfl⟩
    rw [HNO.out.2.2.1]
    have HU3 : Hid (VB w v u X Y U3 ∧ Blk U3 (B6 + 1) #[.int .i64 (v.cnt + 1), .int .i64 v.cnt, .int .i64 v.sum, .string v.text] 24 ∧ Blk U3 (B6 + 1 + 1) #[.int .i64 0, .int .i64 v.cnt, .int .i64 v.sum, .string v.text] 24 ∧ Blk U3 (B6 + 1 + 1 + 1) #[.int .i64 v.num, .int .i64 41, .int .i64 v.sum, .string v.text] 24) := ⟨HU2.out.1.below hb, (HU2.out.2.1).below hb (HU2.out.2.1).lt, (HU2.out.2.2.1).below hb (HU2.out.2.2.1).lt, (HU2.out.2.2.2).below hb (HU2.out.2.2.2).lt⟩
    clear hb HU2 e0 e1 e2 e3
    have e0 : U3.cell? ⟨B6 + 1 + 1 + 1, 0, none⟩ = some (.int .i64 v.num) := HU3.out.2.2.2.cell 0
    have e1 : U3.cell? ⟨B6 + 1 + 1 + 1, 1, none⟩ = some (.int .i64 41) := HU3.out.2.2.2.cell 1
    have e2 : U3.cell? ⟨B6 + 1 + 1 + 1, 2, none⟩ = some (.int .i64 v.sum) := HU3.out.2.2.2.cell 2
    have e3 : U3.cell? ⟨B6 + 1 + 1 + 1, 3, none⟩ = some (.string v.text) := HU3.out.2.2.2.cell 3
    go_wp2_with fail
    refine (implVolOk_any ⟨v.num, 41, v.sum, v.text⟩ U3 hmv).mono ?_
    rintro e U4 ⟨hb, rfl⟩
    rw [HNO.out.2.2.2]
    have HU4 : Hid (VB w v u X Y U4 ∧ Blk U4 (B6 + 1) #[.int .i64 (v.cnt + 1), .int .i64 v.cnt, .int .i64 v.sum, .string v.text] 24 ∧ Blk U4 (B6 + 1 + 1) #[.int .i64 0, .int .i64 v.cnt, .int .i64 v.sum, .string v.text] 24 ∧ Blk U4 (B6 + 1 + 1 + 1) #[.int .i64 v.num, .int .i64 41, .int .i64 v.sum, .string v.text] 24) := ⟨HU3.out.1.below hb, (HU3.out.2.1).below hb (HU3.out.2.1).lt, (HU3.out.2.2.1).below hb (HU3.out.2.2.1).lt, (HU3.out.2.2.2).below hb (HU3.out.2.2.2).lt⟩
    clear hb HU3 e0 e1 e2 e3
    have H7 : Hid (VB w v u X Y U4) := HU4.out.1
    clear HU4 HNO
    go_wp2_with fail
    have tx0 : U4.cell? ⟨X, 0, none⟩ = some (.int .i64 v.num) := H7.out.x.cell 0
    have TX0 := Lat.cell (B := U4.heap.size) tx0 H7.out.x.lt
    have tx1 : U4.cell? ⟨X, 1, none⟩ = some (.int .i64 v.cnt) := H7.out.x.cell 1
    have TX1 := Lat.cell (B := U4.heap.size) tx1 H7.out.x.lt
    have tx2 : U4.cell? ⟨X, 2, none⟩ = some (.int .i64 v.sum) := H7.out.x.cell 2
    have TX2 := Lat.cell (B := U4.heap.size) tx2 H7.out.x.lt
    have tx3 : U4.cell? ⟨X, 3, none⟩ = some (.string v.text) := H7.out.x.cell 3
    have TX3 := Lat.cell (B := U4.heap.size) tx3 H7.out.x.lt
    have ty0 : U4.cell? ⟨Y, 0, none⟩ = some (.int .i64 u.num) := H7.out.y.cell 0
    have TY0 := Lat.cell (B := U4.heap.size) ty0 H7.out.y.lt
    have ty1 : U4.cell? ⟨Y, 1, none⟩ = some (.int .i64 u.cnt) := H7.out.y.cell 1
    have TY1 := Lat.cell (B := U4.heap.size) ty1 H7.out.y.lt
    have ty2 : U4.cell? ⟨Y, 2, none⟩ = some (.int .i64 u.sum) := H7.out.y.cell 2
    have TY2 := Lat.cell (B := U4.heap.size) ty2 H7.out.y.lt
    have ty3 : U4.cell? ⟨Y, 3, none⟩ = some (.string u.text) := H7.out.y.cell 3
    have TY3 := Lat.cell (B := U4.heap.size) ty3 H7.out.y.lt
    have I2 : Hid (∀ q : Lat U4.heap.size U4, Calls Tryd.prog 11 #[(.agg #[.int .i64 u.num, .int .i64 u.cnt, .int .i64 u.sum, .string u.text])] q.val fun e w'' => e = .returned (.bool (voOk u)) ∧ ∃ m : Lat U4.heap.size U4, w'' = m.val) := fun q =>
      Calls.lat_of (specVolOk_any u q.val hmu) (fun e w' h => ⟨by simpa [voV] using h.2, h.1.mono q.bel.size⟩)
    have I3 : Hid (∀ q : Lat U4.heap.size U4, Calls Tryd.prog 7 #[(.agg #[.int .i64 v.num, .int .i64 v.cnt, .int .i64 v.sum, .string v.text])] q.val fun e w'' => e = .returned (.string (volT v)) ∧ ∃ m : Lat U4.heap.size U4, w'' = m.val) := fun q =>
      Calls.lat_of (implVolText_any v q.val hmv (hT5.out _ (H7.out.bel.trans (q.bel.mono H7.out.bel.size)))) (fun e w' h => ⟨by simpa [voV] using h.2, h.1.mono q.bel.size⟩)
    have I4 : Hid (∀ q : Lat U4.heap.size U4, Calls Tryd.prog 7 #[(.agg #[.int .i64 u.num, .int .i64 u.cnt, .int .i64 u.sum, .string u.text])] q.val fun e w'' => e = .returned (.string (volT u)) ∧ ∃ m : Lat U4.heap.size U4, w'' = m.val) := fun q =>
      Calls.lat_of (implVolText_any u q.val hmu (hT5.out _ (H7.out.bel.trans (q.bel.mono H7.out.bel.size)))) (fun e w' h => ⟨by simpa [voV] using h.2, h.1.mono q.bel.size⟩)
    have heq := run_eqlVo v u
    cases hou : voOk u with
    | false =>
      rw [hou] at I2
      clear hou
      refine wp_region_lat (B := U4.heap.size) (w0 := U4) (by kernel_rfl) (by kernel_rfl) (Below.refl _ _) ?_
      repeat (go_big_quiet_step (first | with_reducible exact I2.out _ | with_reducible exact I3.out _ | with_reducible exact I4.out _))
      refine wpQuiet_nil ?_
      rintro _ ⟨nq, rfl⟩
      obtain ⟨W9, hWq⟩ : ∃ W, W = nq.val := ⟨_, rfl⟩
      have hN : Below U4.heap.size U4 W9 := by rw [hWq]; exact nq.bel
      rw [← hWq]
      clear hWq nq tx0 TX0 tx1 TX1 tx2 TX2 tx3 TX3 ty0 TY0 ty1 TY1 ty2 TY2 ty3 TY3 I2 I3 I4 heq
      have HE : Hid (Below w.heap.size w W9) := H7.out.bel.trans (hN.mono H7.out.bel.size)
      clear hN
      go_wp2
      go_ret
      exact ⟨rfl, HE.out⟩
    | true =>
      have HS : Hid (sameVo v u = ((volT v).toList == (volT u).toList)) := volT_eq HOK.out hou
      rw [hou] at I2
      clear hou
      refine wp_region_lat (B := U4.heap.size) (w0 := U4) (by kernel_rfl) (by kernel_rfl) (Below.refl _ _) ?_
      repeat (go_big_quiet_step (first | with_reducible exact I2.out _ | with_reducible exact I3.out _ | with_reducible exact I4.out _))
      refine wpQuiet_nil ?_
      rintro _ ⟨nq, rfl⟩
      obtain ⟨W9, hWq⟩ : ∃ W, W = nq.val := ⟨_, rfl⟩
      have hN : Below U4.heap.size U4 W9 := by rw [hWq]; exact nq.bel
      rw [← hWq]
      clear hWq nq tx0 TX0 tx1 TX1 tx2 TX2 tx3 TX3 ty0 TY0 ty1 TY1 ty2 TY2 ty3 TY3 I2 I3 I4 heq
      have HE : Hid (Below w.heap.size w W9) := H7.out.bel.trans (hN.mono H7.out.bel.size)
      clear hN
      have HQ : (sameVo v u == ((volT v).toList == (volT u).toList)) = true := by rw [HS.out]; simp
      rw [HQ]
      clear HQ HS
      go_wp2
      go_ret
      exact ⟨rfl, HE.out⟩
end Go.Proofs.YtjlldefajgmelaaDoor
