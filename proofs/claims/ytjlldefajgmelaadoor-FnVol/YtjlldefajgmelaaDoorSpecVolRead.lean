/-
  What VolRead of the specification answers: the piece of which this is the text, or none, if there is none.
-/
import Derived.Test.YtjlldefajgmelaaDoorSpecNum
import Derived.Test.YtjlldefajgmelaaDoorCutSpSpec
import Derived.Test.YtjlldefajgmelaaDoorSpecVolOk
import Derived.Test.YtjlldefajgmelaaDoorBlk
namespace Go.Proofs.YtjlldefajgmelaaDoor
open Go.RowKit Go.Deep
set_option linter.unusedVariables false
set_option linter.unusedSimpArgs false

theorem snoc_ind {P : List UInt8 → Prop} (h0 : P []) (h1 : ∀ l c, P l → P (l ++ [c])) : ∀ l, P l := by
  suffices h : ∀ (n : Nat) (l : List UInt8), l.length = n → P l from fun l => h l.length l rfl
  intro n
  induction n with
  | zero => intro l hl; rw [List.length_eq_zero_iff.1 hl]; exact h0
  | succ n ih =>
    intro l hl
    have hne : l ≠ [] := fun e => by rw [e] at hl; simp at hl
    rw [← List.dropLast_concat_getLast hne]
    exact h1 _ _ (ih _ (by simp [hl]))

theorem cst_join : ∀ l : List UInt8, ((cst l).1.flatMap fun a => a ++ [32]) ++ (cst l).2 = l :=
  snoc_ind (by simp [cst]) (fun l c ih => by
    rw [cst_snoc]
    unfold cstep
    split
    · rename_i h
      subst h
      simp only [List.flatMap_append, List.flatMap_cons, List.flatMap_nil, List.append_nil]
      rw [← List.append_assoc, ih]
    · rw [← List.append_assoc, ih])

theorem cut_four {l a b c d : List UInt8} (h : cut l = [a, b, c, d]) : l = a ++ (32 :: (b ++ (32 :: (c ++ (32 :: d))))) := by
  have hj := cst_join l
  unfold cut at h
  have h' : (cst l).1 ++ [(cst l).2] = [a, b, c] ++ [d] := h
  obtain ⟨h1, h2⟩ := List.append_inj' h' rfl
  rw [h1, show (cst l).2 = d by simpa using h2] at hj
  rw [← hj]
  simp

theorem fold_plain : ∀ (m : List UInt8) (st : List (List UInt8) × List UInt8), (32 : UInt8) ∉ m → m.foldl cstep st = (st.1, st.2 ++ m) := by
  intro m
  induction m with
  | nil => intro st _; simp
  | cons c m ih =>
    intro st h
    have hc : c ≠ 32 := fun e => h (by rw [e]; exact List.mem_cons_self)
    rw [List.foldl_cons, ih _ (fun h' => h (List.mem_cons_of_mem _ h'))]
    unfold cstep
    rw [if_neg hc]
    simp

theorem cut_of_four {a b c d : List UInt8} (ha : (32 : UInt8) ∉ a) (hb : (32 : UInt8) ∉ b) (hc : (32 : UInt8) ∉ c) (hd : (32 : UInt8) ∉ d) : cut (a ++ (32 :: (b ++ (32 :: (c ++ (32 :: d)))))) = [a, b, c, d] := by
  unfold cut cst
  rw [List.foldl_append, fold_plain a _ ha, List.foldl_cons, List.foldl_append]
  rw [fold_plain b _ hb, List.foldl_cons, List.foldl_append, fold_plain c _ hc, List.foldl_cons, fold_plain d _ hd]
  simp [cstep]

theorem dec_not (u : Nat) : (32 : UInt8) ∉ Lib.decDigits u ∧ (10 : UInt8) ∉ Lib.decDigits u := by
  have h := List.all_eq_true.1 (dec_all u).1
  exact ⟨fun hm => by have := h _ hm; simp [isDig] at this, fun hm => by have := h _ hm; simp [isDig] at this⟩

theorem first_ten : ∀ {A A' R R' : List UInt8}, A ++ 10 :: R = A' ++ 10 :: R' → (10 : UInt8) ∉ A → (10 : UInt8) ∉ A' → A = A' ∧ R = R'
  | [], [], R, R', h, _, _ => ⟨rfl, by simpa using h⟩
  | [], c :: A', R, R', h, _, h2 => by
    have : (10 : UInt8) = c := by simpa using congrArg (·.head?) h
    exact absurd (by rw [this]; exact List.mem_cons_self) h2
  | c :: A, [], R, R', h, h1, _ => by
    have : c = (10 : UInt8) := by simpa using congrArg (·.head?) h
    exact absurd (by rw [← this]; exact List.mem_cons_self) h1
  | c :: A, c' :: A', R, R', h, h1, h2 => by
    simp only [List.cons_append, List.cons.injEq] at h
    obtain ⟨e1, e2⟩ := first_ten h.2 (fun hm => h1 (List.mem_cons_of_mem _ hm)) (fun hm => h2 (List.mem_cons_of_mem _ hm))
    exact ⟨by rw [h.1, e1], e2⟩

theorem hdr_not (x y z : Nat) : (10 : UInt8) ∉ [118, 111, 108, 32] ++ hdr x y z := by
  unfold hdr
  have h1 := (dec_not x).2
  have h2 := (dec_not y).2
  have h3 := (dec_not z).2
  simp [h1, h2, h3]

/-- What the text of a piece is made of. -/
theorem parts_of_text {B P R : List UInt8} (hB : B = P ++ 10 :: R) (hP : (10 : UInt8) ∉ P) {u : Vo} (hu : voOk u = true) (h : bytes (volT u) = B) :
    ∃ x y z : Nat, u.num = (x : Int) ∧ u.cnt = (y : Int) ∧ u.sum = (z : Int) ∧ x < 100000 ∧ y < 100000 ∧ z < 100000 ∧ cut P = [[118, 111, 108], Lib.decDigits x, Lib.decDigits y, Lib.decDigits z] ∧ bytes u.text = R := by
  obtain ⟨x, y, z, e1, e2, e3, b1, b2, b3, hb⟩ := volT_bytes hu
  rw [h, hB, ← List.append_assoc] at hb
  obtain ⟨h1, h2⟩ := first_ten hb hP (hdr_not x y z)
  refine ⟨x, y, z, e1, e2, e3, by omega, by omega, by omega, ?_, h2.symm⟩
  rw [h1]
  exact cut_of_four (a := [118, 111, 108]) (by decide) (dec_not x).1 (dec_not y).1 (dec_not z).1

theorem vo_text {v : Vo} (h : voOk v = true) {x y z : Nat} (h1 : v.num = (x : Int)) (h2 : v.cnt = (y : Int)) (h3 : v.sum = (z : Int)) : bytes (volT v) = [118, 111, 108, 32] ++ (hdr x y z ++ 10 :: bytes v.text) := by
  obtain ⟨x', y', z', e1, e2, e3, _, _, _, hb⟩ := volT_bytes h
  obtain rfl : x = x' := by omega
  obtain rfl : y = y' := by omega
  obtain rfl : z = z' := by omega
  exact hb
def voN : Vo := ⟨0, 0, 0, ⟨#[]⟩⟩

theorem rd_not {s : ByteArray} (h : ∀ u : Vo, voOk u = true → bytes (volT u) ≠ bytes s) : RdIs (bytes s) none := ⟨fun u hu => (by cases hu), fun _ => h⟩

theorem strs_cell {w : World} {B g c n : Nat} {L : List ByteArray} (h : w.ownsRow B 9 1 (.slice (some ⟨g, 0, none⟩) n c) n (strv L)) (i : Nat) (x : ByteArray) (hx : L[i]? = some x) : w.cell? ⟨g, i, none⟩ = some (.string x) := by
  have := h.cells (g := g) rfl i (.string x) (by simp [strv, hx])
  rwa [show ((⟨g, 0, none⟩ : Addr).add i) = ⟨g, i, none⟩ from by unfold Addr.add; split <;> simp_all] at this

set_option maxRecDepth 100000 in
set_option maxHeartbeats 4000000 in
theorem specVolRead_any (s : ByteArray) (w : World) (hs : s.size ≤ 1048576) :
    Calls Tryd.prog 13 #[.string s] w fun e w' => ∃ r : Option Vo, RdIs (bytes s) r ∧ e = .returned (.tuple #[voV (r.getD voN), .bool r.isSome]) ∧ Below w.heap.size w w' := by
  have hsm : s.size ≤ maxLen := by unfold maxLen; omega
  have hbr : Blk (w.alloc (.cells #[.int .i64 0, .int .i64 0, .int .i64 0, .string ⟨#[]⟩] 24)) w.heap.size _ _ := Blk.new w #[.int .i64 0, .int .i64 0, .int .i64 0, .string ⟨#[]⟩] 24
  have hbb : Below w.heap.size w (w.alloc (.cells #[.int .i64 0, .int .i64 0, .int .i64 0, .string ⟨#[]⟩] 24)) := (Below.refl _ _).alloc (Nat.le_refl _) _
  have hss : (w.alloc (.cells #[.int .i64 0, .int .i64 0, .int .i64 0, .string ⟨#[]⟩] 24)).heap.size = w.heap.size + 1 := by simp
  go_enter Tryd.func13, Tryd.ntmps13
  go_wp2_with fail
  generalize (w.alloc (.cells #[.int .i64 0, .int .i64 0, .int .i64 0, .string ⟨#[]⟩] 24)) = w1 at *
  refine (l11Find_any s w1 hsm).mono ?_
  rintro e w2 ⟨rfl, rr, rfl, hfind⟩
  have r0 : w2.cell? ⟨w.heap.size, 0, none⟩ = some (.int .i64 0) := hbr.cell 0
  have r1 : w2.cell? ⟨w.heap.size, 1, none⟩ = some (.int .i64 0) := hbr.cell 1
  have r2 : w2.cell? ⟨w.heap.size, 2, none⟩ = some (.int .i64 0) := hbr.cell 2
  have r3 : w2.cell? ⟨w.heap.size, 3, none⟩ = some (.string ⟨#[]⟩) := hbr.cell 3
  have z0 := hbr.frozen 0
  have z1 := hbr.frozen 1
  have z2 := hbr.frozen 2
  have z3 := hbr.frozen 3
  have HB : Hid (Below w.heap.size w w2) := hbb
  have hwl : w.heap.size < w2.heap.size := by omega
  rcases hfind with ⟨rfl, hno⟩ | ⟨k, rfl, hk, hsplit, hno⟩
  · have HR : Hid (RdIs (bytes s) none) := rd_not fun u hu h => by
      obtain ⟨x, y, z, _, _, _, _, _, _, hb⟩ := volT_bytes hu
      rw [h] at hb
      exact hno (by rw [hb]; simp)
    clear hno hbr hbb hss
    go_wp2
    refine bodyPost_ret (v := .tuple #[.agg #[.int .i64 0, .int .i64 0, .int .i64 0, .string ⟨#[]⟩], .bool false]) (by simp [results, Tryd.results13, go_sem, r0, r1, r2, r3, z0, z1, z2, z3]) rfl ⟨none, HR.out, rfl, ?_⟩
    repeat (first | exact HB.out | (refine Below.alloc ?_ (by simp <;> omega) _) | (refine Below.setCell ?_ (by simp <;> omega) _))
  · obtain ⟨hdr', hh⟩ : ∃ h', h' = s.extract 0 k := ⟨_, rfl⟩
    have hhb : bytes hdr' = (bytes s).take k := by rw [hh, bytes_cut]; rfl
    have hhs : hdr'.size ≤ 1048576 := by rw [hh, ByteArray.size_extract]; omega
    have hki : (k : Int) ≤ (s.size : Int) := by omega
    have hki1 : (k : Int) + 1 ≤ (s.size : Int) := by omega
    have htxt : bytes (s.extract (k + 1) s.size) = (bytes s).drop (k + 1) := by
      rw [bytes_cut, List.take_of_length_le (by simp)]
      rfl
    have HU : Hid (∀ u : Vo, voOk u = true → bytes (volT u) = bytes s → ∃ x y z : Nat, u.num = (x : Int) ∧ u.cnt = (y : Int) ∧ u.sum = (z : Int) ∧ x < 100000 ∧ y < 100000 ∧ z < 100000 ∧ cut (bytes hdr') = [[118, 111, 108], Lib.decDigits x, Lib.decDigits y, Lib.decDigits z] ∧ bytes u.text = bytes (s.extract (k + 1) s.size)) := fun u hu h => by
      rw [hhb, htxt]
      exact parts_of_text hsplit hno hu h
    have HSp : Hid (bytes s = bytes hdr' ++ 10 :: bytes (s.extract (k + 1) s.size)) := by
      show _ = _
      rw [hhb, htxt]
      exact hsplit
    have htsz : (s.extract (k + 1) s.size).size ≤ maxLen := by rw [ByteArray.size_extract]; unfold maxLen; omega
    obtain ⟨tx, htx⟩ : ∃ tx, s.extract (k + 1) s.size = tx := ⟨_, rfl⟩
    rw [htx] at HU HSp htsz
    have hh' : s.extract 0 k = hdr' := hh.symm
    clear hsplit hno hhb htxt hh
    go_wp2_with fail
    refine (l11Cut_any hdr' w2 hhs).mono ?_
    rintro e w3 ⟨v, L, rfl, hO, hL, hlen, hb3⟩
    have hbr3 := hbr.below hb3 hwl
    have HB3 : Hid (Below w.heap.size w w3) := HB.out.trans (hb3.mono (by omega))
    have hwl3 : w.heap.size < w3.heap.size := by have := hb3.size; omega
    obtain ⟨g, c, rfl⟩ : ∃ g c, v = .slice (some ⟨g, 0, none⟩) L.length c := by
      rcases hO.1.2 with ⟨h0, _⟩ | ⟨g, cap, cur, h0, _⟩
      · exact absurd h0 hO.2
      · exact ⟨g, cap, h0⟩
    have hgl := (hO.1.lt g rfl).2
    have hgb := hO.block g rfl
    have HL : Hid (L.map bytes = cut (bytes hdr')) := hL
    clear r0 r1 r2 r3 z0 z1 z2 z3 hbr hb3 hL hbb hss HB
    have HB := HB3
    clear HB3
    have r0 : w3.cell? ⟨w.heap.size, 0, none⟩ = some (.int .i64 0) := hbr3.cell 0
    have r1 : w3.cell? ⟨w.heap.size, 1, none⟩ = some (.int .i64 0) := hbr3.cell 1
    have r2 : w3.cell? ⟨w.heap.size, 2, none⟩ = some (.int .i64 0) := hbr3.cell 2
    have r3 : w3.cell? ⟨w.heap.size, 3, none⟩ = some (.string ⟨#[]⟩) := hbr3.cell 3
    have z0 := hbr3.frozen 0
    have z1 := hbr3.frozen 1
    have z2 := hbr3.frozen 2
    have z3 := hbr3.frozen 3
    by_cases hl4 : L.length = 4
    · match L, hl4 with
      | [l0, l1, l2, l3], _ =>
        have s0 : w3.cell? ⟨g, 0, none⟩ = some (.string l0) := strs_cell hO.1 0 l0 rfl
        have s1 : w3.cell? ⟨g, 1, none⟩ = some (.string l1) := strs_cell hO.1 1 l1 rfl
        have s2 : w3.cell? ⟨g, 2, none⟩ = some (.string l2) := strs_cell hO.1 2 l2 rfl
        have s3 : w3.cell? ⟨g, 3, none⟩ = some (.string l3) := strs_cell hO.1 3 l3 rfl
        have hsl : l1.size ≤ maxLen ∧ l2.size ≤ maxLen ∧ l3.size ≤ maxLen := by
          have hj := cut_four (a := bytes l0) (b := bytes l1) (c := bytes l2) (d := bytes l3) HL.out.symm
          have hlen := congrArg List.length hj
          simp only [List.length_append, List.length_cons] at hlen
          unfold bytes at hlen
          simp only [Array.length_toList] at hlen
          have e0 : hdr'.data.size = hdr'.size := rfl
          have e1 : l1.data.size = l1.size := rfl
          have e2 : l2.data.size = l2.size := rfl
          have e3 : l3.data.size = l3.size := rfl
          unfold maxLen
          omega
        have HL4 : Hid ([bytes l0, bytes l1, bytes l2, bytes l3] = cut (bytes hdr')) := HL.out
        have dlen : (([l0, l1, l2, l3].length : Int) != 4) = false := rfl
        simp only [List.length_cons, List.length_nil, Nat.zero_add, Nat.reduceAdd] at dlen ⊢
        clear HL hO hlen hl4
        cases hv0 : (l0.toList == [118, 111, 108]) with
        | false =>
          have dv : (!l0.toList == [118, 111, 108]) = true := by rw [hv0]; rfl
          have HR : Hid (RdIs (bytes s) none) := rd_not fun u hu h => by
            obtain ⟨x, y, z, _, _, _, _, _, _, hcut, _⟩ := HU.out u hu h
            rw [← HL4.out] at hcut
            simp only [List.cons.injEq] at hcut
            rw [ByteArray.toList_eq, show l0.data.toList = [118, 111, 108] from hcut.1] at hv0
            simp at hv0
          clear hv0 s1 s2 s3
          go_wp2
          refine bodyPost_ret (v := .tuple #[.agg #[.int .i64 0, .int .i64 0, .int .i64 0, .string ⟨#[]⟩], .bool false]) (by simp [results, Tryd.results13, go_sem, r0, r1, r2, r3, z0, z1, z2, z3]) rfl ⟨none, HR.out, rfl, ?_⟩
          repeat (first | exact HB.out | (refine Below.alloc ?_ (by simp <;> omega) _) | (refine Below.setCell ?_ (by simp <;> omega) _))
        | true =>
          have dv : (!l0.toList == [118, 111, 108]) = false := by rw [hv0]; rfl
          have HV0 : Hid (bytes l0 = [118, 111, 108]) := by
            have := eq_of_beq hv0
            rw [ByteArray.toList_eq] at this
            exact this
          clear hv0
          go_wp2_with fail
          refine (l11Num_any l1 w3 hsl.1).mono ?_
          rintro e w4 ⟨rfl, n1, o1, rfl, N1⟩
          go_wp2_with fail
          refine (l11Num_any l2 w4 hsl.2.1).mono ?_
          rintro e w5 ⟨rfl, n2, o2, rfl, N2⟩
          go_wp2_with fail
          refine (l11Num_any l3 w5 hsl.2.2).mono ?_
          rintro e w6 ⟨rfl, n3', o3, rfl, N3⟩
          have HN : Hid (NumIs (bytes l1) n1 o1 ∧ NumIs (bytes l2) n2 o2 ∧ NumIs (bytes l3) n3' o3) := ⟨N1, N2, N3⟩
          have HNo : Hid (¬ (o1 = true ∧ o2 = true ∧ o3 = true) → RdIs (bytes s) none) := fun hn => rd_not fun u hu h => by
            obtain ⟨x, y, z, _, _, _, hx, hy, hz, hcut, _⟩ := HU.out u hu h
            rw [← HL4.out] at hcut
            simp only [List.cons.injEq] at hcut
            exact hn ⟨(N1.2 x hx hcut.2.1).1, (N2.2 y hy hcut.2.2.1).1, (N3.2 z hz hcut.2.2.2.1).1⟩
          clear s0 s1 s2 s3 N1 N2 N3 hsl
          cases o1 with
          | false =>
            have HR : Hid (RdIs (bytes s) none) := HNo.out (by simp)
            go_wp2
            refine bodyPost_ret (v := .tuple #[.agg #[.int .i64 0, .int .i64 0, .int .i64 0, .string ⟨#[]⟩], .bool false]) (by simp [results, Tryd.results13, go_sem, r0, r1, r2, r3, z0, z1, z2, z3, hwl3, Nat.ne_of_lt hwl3]) rfl ⟨none, HR.out, rfl, ?_⟩
            repeat (first | exact HB.out | (refine Below.alloc ?_ (by simp <;> omega) _) | (refine Below.setCell ?_ (by simp <;> omega) _))
          | true =>
            cases o2 with
            | false =>
              have HR : Hid (RdIs (bytes s) none) := HNo.out (by simp)
              go_wp2
              refine bodyPost_ret (v := .tuple #[.agg #[.int .i64 0, .int .i64 0, .int .i64 0, .string ⟨#[]⟩], .bool false]) (by simp [results, Tryd.results13, go_sem, r0, r1, r2, r3, z0, z1, z2, z3, hwl3, Nat.ne_of_lt hwl3]) rfl ⟨none, HR.out, rfl, ?_⟩
              repeat (first | exact HB.out | (refine Below.alloc ?_ (by simp <;> omega) _) | (refine Below.setCell ?_ (by simp <;> omega) _))
            | true =>
              cases o3 with
              | false =>
                have HR : Hid (RdIs (bytes s) none) := HNo.out (by simp)
                go_wp2
                refine bodyPost_ret (v := .tuple #[.agg #[.int .i64 0, .int .i64 0, .int .i64 0, .string ⟨#[]⟩], .bool false]) (by simp [results, Tryd.results13, go_sem, r0, r1, r2, r3, z0, z1, z2, z3, hwl3, Nat.ne_of_lt hwl3]) rfl ⟨none, HR.out, rfl, ?_⟩
                repeat (first | exact HB.out | (refine Below.alloc ?_ (by simp <;> omega) _) | (refine Below.setCell ?_ (by simp <;> omega) _))
              | true =>
                clear HNo
                have HK : Hid (∀ W, Calls Tryd.prog 11 #[.agg #[.int .i64 n1, .int .i64 n2, .int .i64 n3', .string tx]] W fun e w' => Below W.heap.size W w' ∧ e = .returned (.bool (voOk ⟨n1, n2, n3', tx⟩))) := fun W => specVolOk_any ⟨n1, n2, n3', tx⟩ W htsz
                have HBr : Hid (Blk w6 w.heap.size _ _) := hbr3
                clear r0 r1 r2 r3 z0 z1 z2 z3 hbr3
                go_wp2_with fail
                refine at_world (F := New1 w6 _ _) (new1 w6 _ _) ?_
                rintro W5 ⟨hx, hb5, hs5⟩
                refine (HK.out W5).mono ?_
                rintro e w7 ⟨hb7, rfl⟩
                have hx7 := hx.below hb7 (by omega)
                have hB7 := hb5.trans (hb7.mono (by omega))
                have hl7 := hx7.lt
                have hbr7 := HBr.out.below hB7 hwl3
                have x0 : w7.cell? ⟨w6.heap.size, 0, none⟩ = some (.int .i64 n1) := hx7.cell 0
                have x1 : w7.cell? ⟨w6.heap.size, 1, none⟩ = some (.int .i64 n2) := hx7.cell 1
                have x2 : w7.cell? ⟨w6.heap.size, 2, none⟩ = some (.int .i64 n3') := hx7.cell 2
                have x3 : w7.cell? ⟨w6.heap.size, 3, none⟩ = some (.string tx) := hx7.cell 3
                have HB7 : Hid (Below w.heap.size w w7) := HB.out.trans (hB7.mono (by omega))
                have hwl7 : w.heap.size < w7.heap.size := by have := hB7.size; omega
                have r0 : w7.cell? ⟨w.heap.size, 0, none⟩ = some (.int .i64 0) := hbr7.cell 0
                have r1 : w7.cell? ⟨w.heap.size, 1, none⟩ = some (.int .i64 0) := hbr7.cell 1
                have r2 : w7.cell? ⟨w.heap.size, 2, none⟩ = some (.int .i64 0) := hbr7.cell 2
                have r3 : w7.cell? ⟨w.heap.size, 3, none⟩ = some (.string ⟨#[]⟩) := hbr7.cell 3
                have z0 := hbr7.frozen 0
                have z1 := hbr7.frozen 1
                have z2 := hbr7.frozen 2
                have z3 := hbr7.frozen 3
                clear HB
                have HB := HB7
                clear HB7 hx hb5 hs5 hb7 hx7 hB7 hbr7
                cases hok : voOk ⟨n1, n2, n3', tx⟩ with
                | false =>
                  have HR : Hid (RdIs (bytes s) none) := rd_not fun u hu h => by
                    obtain ⟨x, y, z, u1, u2, u3, hx, hy, hz, hcut, ht⟩ := HU.out u hu h
                    rw [← HL4.out] at hcut
                    simp only [List.cons.injEq] at hcut
                    obtain ⟨N1, N2, N3⟩ := HN.out
                    have m1 := (N1.2 x hx hcut.2.1).2
                    have m2 := (N2.2 y hy hcut.2.2.1).2
                    have m3 := (N3.2 z hz hcut.2.2.2.1).2
                    have : u = ⟨n1, n2, n3', tx⟩ := vo_ext (u1.trans m1.symm) (u2.trans m2.symm) (u3.trans m3.symm) ht
                    rw [this, hok] at hu
                    cases hu
                  clear hok
                  go_wp2
                  refine bodyPost_ret (v := .tuple #[.agg #[.int .i64 0, .int .i64 0, .int .i64 0, .string ⟨#[]⟩], .bool false]) (by simp [results, Tryd.results13, go_sem, r0, r1, r2, r3, z0, z1, z2, z3]) rfl ⟨none, HR.out, rfl, ?_⟩
                  repeat (first | exact HB.out | (refine Below.alloc ?_ (by simp <;> omega) _) | (refine Below.setCell ?_ (by simp <;> omega) _))
                | true =>
                  have HR : Hid (RdIs (bytes s) (some ⟨n1, n2, n3', tx⟩)) := by
                    refine ⟨fun u hu => ?_, fun h => by cases h⟩
                    obtain rfl := Option.some.inj hu
                    refine ⟨hok, ?_⟩
                    obtain ⟨k1, k2, k3, k4, k5, k6⟩ := voOk_iff.1 hok
                    dsimp only at k1 k2 k3 k4 k5 k6
                    obtain ⟨N1, N2, N3⟩ := HN.out
                    have d1 := N1.1 rfl (by omega)
                    have d2 := N2.1 rfl (by omega)
                    have d3 := N3.1 rfl (by omega)
                    rw [vo_text hok (x := n1.toNat) (y := n2.toNat) (z := n3'.toNat) (by dsimp only; omega) (by dsimp only; omega) (by dsimp only; omega), HSp.out, cut_four HL4.out.symm, HV0.out, d1, d2, d3]
                    unfold hdr
                    simp
                  clear hok
                  go_wp2
                  refine bodyPost_ret (v := .tuple #[.agg #[.int .i64 n1, .int .i64 n2, .int .i64 n3', .string tx], .bool true]) (by simp [results, Tryd.results13, go_sem, r0, r1, r2, r3, z0, z1, z2, z3]) rfl ⟨some ⟨n1, n2, n3', tx⟩, HR.out, rfl, ?_⟩
                  repeat (first | exact HB.out | (refine Below.alloc ?_ (by simp <;> omega) _) | (refine Below.setCell ?_ (by simp <;> omega) _))
    · have dlen : ((L.length : Int) != 4) = true := by simp only [bne_iff_ne, ne_eq]; omega
      have HR : Hid (RdIs (bytes s) none) := rd_not fun u hu h => by
        obtain ⟨x, y, z, _, _, _, _, _, _, hcut, _⟩ := HU.out u hu h
        rw [← HL.out] at hcut
        have := congrArg List.length hcut
        simp at this
        exact hl4 this
      clear hl4 hO
      go_wp2
      refine bodyPost_ret (v := .tuple #[.agg #[.int .i64 0, .int .i64 0, .int .i64 0, .string ⟨#[]⟩], .bool false]) (by simp [results, Tryd.results13, go_sem, r0, r1, r2, r3, z0, z1, z2, z3]) rfl ⟨none, HR.out, rfl, ?_⟩
      repeat (first | exact HB.out | (refine Below.alloc ?_ (by simp <;> omega) _) | (refine Below.setCell ?_ (by simp <;> omega) _))
end Go.Proofs.YtjlldefajgmelaaDoor
