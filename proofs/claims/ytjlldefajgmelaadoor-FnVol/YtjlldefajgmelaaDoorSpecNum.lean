/-
  What l11Find and l11Num of the specification answer.
-/
import Derived.Test.YtjlldefajgmelaaDoorScanMath
namespace Go.Proofs.YtjlldefajgmelaaDoor
open Go.RowKit
set_option linter.unusedVariables false
set_option linter.unusedSimpArgs false

theorem mem_take_snoc {s : ByteArray} {k : Nat} (h : k < s.size) {x : UInt8} (hx : x ∉ s.data.toList.take k) (hc : s[k] ≠ x) : x ∉ s.data.toList.take (k + 1) := by
  rw [take_snoc s k h]
  simp only [List.mem_append, List.mem_singleton, not_or]
  exact ⟨hx, fun e => hc e.symm⟩

set_option maxHeartbeats 400000 in
theorem l11Find_any (s : ByteArray) (w : World) (hs : s.size ≤ maxLen) :
    Calls Tryd.prog 25 #[.string s, .int .u8 10] w fun e w' => w' = w ∧ ∃ r : Int, e = .returned (.int .i64 r) ∧ ((r = -1 ∧ (10 : UInt8) ∉ bytes s) ∨ ∃ k : Nat, r = (k : Int) ∧ k < s.size ∧ bytes s = (bytes s).take k ++ 10 :: (bytes s).drop (k + 1) ∧ (10 : UInt8) ∉ (bytes s).take k) := by
  unfold maxLen at hs
  go_enter Tryd.func25, Tryd.ntmps25
  go_wp2
  go_loopw [5] (fun i wr => ∃ k : Nat, k ≤ s.size ∧ i = .int .i64 k ∧ (10 : UInt8) ∉ s.data.toList.take k ∧ wr = w) (fun i _ => s.size - (intOf i).toNat)
  case atStart => exact ⟨0, Nat.zero_le _, rfl, by simp, rfl⟩
  case round =>
    obtain ⟨k, hk, rfl, hm, rfl⟩ := hrel
    have HM : Hid ((10 : UInt8) ∉ s.data.toList.take k) := hm
    clear hm
    by_cases hlt : k < s.size
    · have hlti : (k : Int) < (s.size : Int) := by omega
      by_cases hc : s[k] = 10
      · have hd : (((s[k]).toNat : Int) == 10) = true := by rw [hc]; rfl
        have HX : Hid (bytes s = (bytes s).take k ++ 10 :: (bytes s).drop (k + 1) ∧ (10 : UInt8) ∉ (bytes s).take k) := by
          refine ⟨?_, HM.out⟩
          have hl : k < (bytes s).length := by unfold bytes; simpa using hlt
          have h1 : (bytes s).drop k = (bytes s)[k] :: (bytes s).drop (k + 1) := List.drop_eq_getElem_cons hl
          have h2 : (bytes s)[k] = 10 := hc
          rw [h2] at h1
          rw [← h1, List.take_append_drop]
        clear hc
        go_wp2
        go_ret
        exact ⟨rfl, (k : Int), rfl, Or.inr ⟨k, rfl, hlt, HX.out⟩⟩
      · have hd : (((s[k]).toNat : Int) == 10) = false := beq_eq_false_iff_ne.2 (fun h => hc (UInt8.toNat_inj.1 (by show (s[k]).toNat = 10; omega)))
        have HN : Hid ((10 : UInt8) ∉ s.data.toList.take (k + 1)) := mem_take_snoc hlt HM.out hc
        clear hc
        go_wp2
        go_roundw
        case rel => exact ⟨k + 1, by omega, by go_num, HN.out, by trivial⟩
        case measure => simp [intOf]; omega
    · have HX : Hid ((10 : UInt8) ∉ bytes s) := by
        have := HM.out
        rwa [List.take_of_length_le (by simp; omega)] at this
      have hlti : decide ((k : Int) < (s.size : Int)) = false := by simp; omega
      go_wp2
      go_ret
      exact ⟨rfl, -1, rfl, Or.inl ⟨rfl, HX.out⟩⟩

/-- The number that digits tell. -/
def valOf (l : List UInt8) : Nat := l.foldl (fun n c => n * 10 + (c.toNat - 48)) 0
def isDig (c : UInt8) : Bool := decide (48 ≤ c.toNat) && decide (c.toNat ≤ 57)
theorem valOf_snoc (l : List UInt8) (c : UInt8) : valOf (l ++ [c]) = valOf l * 10 + (c.toNat - 48) := by unfold valOf; rw [List.foldl_append]; rfl

theorem dig_of (c : UInt8) (h : isDig c = true) (m : Nat) : dig (m * 10 + (c.toNat - 48)) = c := by
  unfold isDig at h
  simp only [Bool.and_eq_true, decide_eq_true_eq] at h
  apply UInt8.toNat_inj.1
  rw [dig_toNat]
  omega
theorem isDig_dig (m : Nat) : isDig (dig m) = true := by
  unfold isDig
  rw [dig_toNat]
  simp
  omega

theorem head_app {m r : List UInt8} (h : m ≠ []) : (m ++ r).head? = m.head? := by
  cases m with
  | nil => exact absurd rfl h
  | cons c m => rfl

theorem dec_all (u : Nat) : (Lib.decDigits u).all isDig = true ∧ valOf (Lib.decDigits u) = u ∧ (Lib.decDigits u ≠ []) ∧ (10 ≤ u → (Lib.decDigits u).head? ≠ some 48) := by
  induction u using Nat.strongRecOn with
  | _ u ih =>
    by_cases h : u < 10
    · rw [decDigits_last h]
      refine ⟨by simp [isDig_dig], ?_, by simp, fun h' => by omega⟩
      rw [show [dig u] = [] ++ [dig u] from rfl, valOf_snoc, dig_toNat]
      show 0 * 10 + _ = _
      omega
    · obtain ⟨h1, h2, h3, h4⟩ := ih (u / 10) (by omega)
      rw [decDigits_step h]
      refine ⟨by rw [List.all_append, h1]; simp [isDig_dig], by rw [valOf_snoc, h2, dig_toNat]; omega, by simp, fun _ => ?_⟩
      rw [head_app h3]
      by_cases h10 : 10 ≤ u / 10
      · exact h4 h10
      · rw [decDigits_last (by omega)]
        intro e
        have e2 : dig (u / 10) = 48 := by simpa using e
        have := dig_toNat (u / 10)
        rw [e2] at this
        simp at this
        omega

/-- Digits without a needless zero are the decimals of what they tell. -/
theorem dec_of_digits : ∀ (n : Nat) (l : List UInt8), l.length = n → l ≠ [] → l.all isDig = true → (2 ≤ l.length → l.head? ≠ some 48) → l = Lib.decDigits (valOf l) ∧ (2 ≤ l.length → 10 ≤ valOf l) := by
  intro n
  induction n with
  | zero => intro l hl hne; exact absurd (List.length_eq_zero_iff.1 hl) hne
  | succ n ih =>
    intro l hl hne hd hz
    obtain ⟨m, c, rfl⟩ : ∃ m c, l = m ++ [c] := ⟨l.dropLast, l.getLast hne, (List.dropLast_concat_getLast hne).symm⟩
    rw [List.all_append, Bool.and_eq_true] at hd
    have hc : isDig c = true := by simpa using hd.2
    have hcb : 48 ≤ c.toNat ∧ c.toNat ≤ 57 := by unfold isDig at hc; simpa using hc
    rw [valOf_snoc]
    have hml : m.length = n := by simpa using hl
    by_cases hm : m = []
    · subst hm
      refine ⟨?_, fun h => by simp at h⟩
      show [c] = Lib.decDigits (0 * 10 + (c.toNat - 48))
      rw [decDigits_last (by omega), dig_of c hc 0]
    · have hz2 : m.head? ≠ some 48 := by
        have := hz (by simp; exact List.length_pos_iff.2 hm)
        rwa [head_app hm] at this
      obtain ⟨i1, i2⟩ := ih m hml hm hd.1 (fun _ => hz2)
      have hv : 1 ≤ valOf m := by
        rcases Nat.lt_or_ge m.length 2 with h | h
        · obtain ⟨x, rfl⟩ : ∃ x, m = [x] := by
            match m, hm, h with
            | [x], _, _ => exact ⟨x, rfl⟩
          have hx : isDig x = true := by simpa using hd.1
          have hxb : 48 ≤ x.toNat ∧ x.toNat ≤ 57 := by unfold isDig at hx; simpa using hx
          have hx48 : x ≠ 48 := fun e => hz2 (by rw [e]; rfl)
          have : x.toNat ≠ 48 := fun e => hx48 (UInt8.toNat_inj.1 (by rw [e]; rfl))
          show 1 ≤ 0 * 10 + (x.toNat - 48)
          omega
        · have := i2 h; omega
      refine ⟨?_, fun _ => by omega⟩
      rw [decDigits_step (by omega), show (valOf m * 10 + (c.toNat - 48)) / 10 = valOf m by omega, ← i1, dig_of c hc]
theorem valOf_lt : ∀ (l : List UInt8), l.all isDig = true → valOf l < 10 ^ l.length := by
  suffices h : ∀ (n : Nat) (l : List UInt8), l.length = n → l.all isDig = true → valOf l < 10 ^ n from fun l hl => h l.length l rfl hl
  intro n
  induction n with
  | zero => intro l hl _; rw [List.length_eq_zero_iff.1 hl]; decide
  | succ n ih =>
    intro l hl hd
    have hne : l ≠ [] := fun e => by rw [e] at hl; simp at hl
    obtain ⟨m, c, rfl⟩ : ∃ m c, l = m ++ [c] := ⟨l.dropLast, l.getLast hne, (List.dropLast_concat_getLast hne).symm⟩
    rw [List.all_append, Bool.and_eq_true] at hd
    have hc : isDig c = true := by simpa using hd.2
    have hcb : 48 ≤ c.toNat ∧ c.toNat ≤ 57 := by unfold isDig at hc; simpa using hc
    have := ih m (by simpa using hl) hd.1
    rw [valOf_snoc, Nat.pow_succ]
    omega

/-- What is said of a number that is read. -/
def NumIs (l : List UInt8) (n : Int) (ok : Bool) : Prop := (ok = true → 0 ≤ n → l = Lib.decDigits n.toNat) ∧ ∀ u, u < 100000 → l = Lib.decDigits u → ok = true ∧ n = (u : Int)

theorem dec_len5 {u : Nat} (h : u < 100000) : (Lib.decDigits u).length ≤ 17 := by
  have h1 : ∀ v, v < 10 → (Lib.decDigits v).length = 1 := fun v hv => by rw [decDigits_last hv]; rfl
  have st : ∀ v, ¬ v < 10 → (Lib.decDigits v).length = (Lib.decDigits (v / 10)).length + 1 := fun v hv => by rw [decDigits_step hv]; simp
  have h2 : ∀ v, v < 100 → (Lib.decDigits v).length ≤ 2 := fun v hv => by
    by_cases h : v < 10
    · rw [h1 v h]; omega
    · rw [st v h, h1 _ (by omega)]; omega
  have h3 : ∀ v, v < 1000 → (Lib.decDigits v).length ≤ 3 := fun v hv => by
    by_cases h : v < 10
    · rw [h1 v h]; omega
    · rw [st v h]; have := h2 (v / 10) (by omega); omega
  have h4 : ∀ v, v < 10000 → (Lib.decDigits v).length ≤ 4 := fun v hv => by
    by_cases h : v < 10
    · rw [h1 v h]; omega
    · rw [st v h]; have := h3 (v / 10) (by omega); omega
  by_cases h' : u < 10
  · rw [h1 u h']; omega
  · rw [st u h']; have := h4 (u / 10) (by omega); omega

theorem not_dec {l : List UInt8} (h : ¬ l.all isDig = true) (n : Int) : NumIs l n false := ⟨fun e => (by cases e), fun u _ e => absurd (by rw [e]; exact (dec_all u).1) h⟩

theorem num_yes {l : List UInt8} (hne : l ≠ []) (hd : l.all isDig = true) (hz : 2 ≤ l.length → l.head? ≠ some 48) : NumIs l ((valOf l : Nat) : Int) true :=
  ⟨fun _ _ => by rw [Int.toNat_natCast]; exact (dec_of_digits _ l rfl hne hd hz).1, fun u _ e => ⟨rfl, by rw [e, (dec_all u).2.1]⟩⟩

set_option maxHeartbeats 4000000 in
theorem l11Num_any (s : ByteArray) (w : World) (hs : s.size ≤ maxLen) :
    Calls Tryd.prog 27 #[.string s] w fun e w' => w' = w ∧ ∃ (n : Int) (ok : Bool), e = .returned (.tuple #[.int .i64 n, .bool ok]) ∧ NumIs (bytes s) n ok := by
  unfold maxLen at hs
  have hbl : (bytes s).length = s.size := by unfold bytes; simp
  by_cases h0 : s.size = 0
  · have HN : Hid (NumIs (bytes s) 0 false) := ⟨fun e => (by cases e), fun u _ e => absurd (List.length_eq_zero_iff.1 (by rw [hbl, h0])) (by rw [e]; exact (dec_all u).2.2.1)⟩
    have d0 : decide ((0 : Int) < (s.size : Int)) = false := decide_eq_false (by omega)
    have dz : ((s.size : Int) == 0) = true := beq_iff_eq.2 (by omega)
    clear h0 hbl
    go_enter Tryd.func27, Tryd.ntmps27
    go_wp2
    go_ret2
    exact ⟨rfl, 0, false, rfl, HN.out⟩
  · have hp : 0 < s.size := by omega
    have d0 : decide ((0 : Int) < (s.size : Int)) = true := decide_eq_true (by omega)
    have dz : ((s.size : Int) == 0) = false := beq_eq_false_iff_ne.2 (by omega)
    have hhead : (bytes s).head? = some s[0] := by
      have hl : 0 < (bytes s).length := by omega
      rw [List.head?_eq_getElem?, List.getElem?_eq_getElem hl]
      rfl
    have hcl := UInt8.toNat_lt s[0]
    by_cases hneg : (s[0]).toNat = 45
    · have HNeg : Hid (∀ n ok, (ok = true → n < 0) → NumIs (bytes s) n ok) := fun n ok h => ⟨fun e h' => by have := h e; omega, fun u _ e => by
        obtain ⟨k1, _, k3, _⟩ := dec_all u
        rw [e] at hhead
        have hm : s[0] ∈ Lib.decDigits u := List.mem_of_head? hhead
        have := List.all_eq_true.1 k1 _ hm
        unfold isDig at this
        simp [hneg] at this⟩
      obtain ⟨x, hx⟩ : ∃ x, s.extract 1 s.size = x := ⟨_, rfl⟩
      have hxs : x.size = s.size - 1 := by rw [← hx, ByteArray.size_extract]; omega
      have h1s : (1 : Int) ≤ (s.size : Int) := by omega
      have dn : (((s[0]).toNat : Int) == 45) = true := beq_iff_eq.2 (by omega)
      clear hneg hhead hbl
      by_cases hx0 : x.size = 0
      · have dx : ((x.size : Int) == 0) = true := beq_iff_eq.2 (by omega)
        clear hx0 hxs
        go_enter Tryd.func27, Tryd.ntmps27
        go_wp2
        go_ret2
        exact ⟨rfl, 0, false, rfl, HNeg.out 0 false (fun e => by cases e)⟩
      · have dx : ((x.size : Int) == 0) = false := beq_eq_false_iff_ne.2 (by omega)
        have hxp : 0 < x.size := by omega
        by_cases h17 : 17 < x.size
        · have d17 : decide ((17 : Int) < (x.size : Int)) = true := decide_eq_true (by omega)
          clear h17 hx0 hxs
          go_enter Tryd.func27, Tryd.ntmps27
          go_wp2
          go_ret2
          exact ⟨rfl, 0, false, rfl, HNeg.out 0 false (fun e => by cases e)⟩
        · have d17 : decide ((17 : Int) < (x.size : Int)) = false := decide_eq_false (by omega)
          have hxcl := UInt8.toNat_lt x[0]
          have hxb : (bytes x).length = x.size := by unfold bytes; simp
          have hxh : (bytes x).head? = some x[0] := by
            rw [List.head?_eq_getElem?, List.getElem?_eq_getElem (by omega)]
            rfl
          by_cases hz : (x[0]).toNat = 48
          · have dq : (((x[0]).toNat : Int) == 48) = true := beq_iff_eq.2 (by omega)
            clear hz hxs hx0 hxb hxh h17
            by_cases h1 : 1 < x.size
            · have d1 : decide ((1 : Int) < (x.size : Int)) = true := decide_eq_true (by omega)
              clear h1
              go_enter Tryd.func27, Tryd.ntmps27
              go_wp2
              go_ret2
              exact ⟨rfl, 0, false, rfl, HNeg.out 0 false (fun e => by cases e)⟩
            · have d1 : decide ((1 : Int) < (x.size : Int)) = false := decide_eq_false (by omega)
              clear h1
              go_enter Tryd.func27, Tryd.ntmps27
              go_wp2
              go_ret2
              exact ⟨rfl, 0, false, rfl, HNeg.out 0 false (fun e => by cases e)⟩
          · have dq : (((x[0]).toNat : Int) == 48) = false := beq_eq_false_iff_ne.2 (by omega)
            have HPos : Hid ((bytes x).all isDig = true → 1 ≤ valOf (bytes x)) := fun h => by
              have hne : bytes x ≠ [] := fun e => by rw [e] at hxb; simp at hxb; omega
              have h48 : (bytes x).head? ≠ some 48 := by
                rw [hxh]
                intro e
                have e2 : x[0] = 48 := by simpa using e
                exact hz (by rw [e2]; rfl)
              have hd := (dec_of_digits _ (bytes x) rfl hne h (fun _ => h48)).1
              rcases Nat.eq_zero_or_pos (valOf (bytes x)) with h0' | h0'
              · rw [h0', decDigits_last (by decide)] at hd
                rw [hd] at h48
                exact absurd rfl h48
              · exact h0'
            clear hz hxs hx0 hxb hxh
            go_enter Tryd.func27, Tryd.ntmps27
            have hx17 : x.size ≤ 17 := by omega
            go_wp2
            go_loopw [5, 6] (fun n i wr => ∃ j : Nat, j ≤ x.size ∧ i = .int .i64 j ∧ n = .int .i64 (valOf (x.data.toList.take j) : Nat) ∧ (x.data.toList.take j).all isDig = true ∧ wr = w) (fun _ i _ => x.size - (intOf i).toNat)
            case atStart => exact ⟨0, Nat.zero_le _, rfl, rfl, rfl, rfl⟩
            case round =>
              obtain ⟨j, hj, rfl, rfl, hall, rfl⟩ := hrel
              have HA : Hid ((x.data.toList.take j).all isDig = true) := hall
              have hv := valOf_lt _ hall
              clear hall
              by_cases hlt : j < x.size
              · have hlti : (j : Int) < (x.size : Int) := by omega
                have hlj : (x.data.toList.take j).length = j := by rw [List.length_take]; simp; omega
                rw [hlj] at hv
                have hv16 : valOf (x.data.toList.take j) < 10 ^ 16 := Nat.lt_of_lt_of_le hv (Nat.pow_le_pow_right (by decide) (by omega))
                have hsn : valOf (x.data.toList.take (j + 1)) = valOf (x.data.toList.take j) * 10 + ((x[j]).toNat - 48) := by rw [take_snoc x j hlt, valOf_snoc]
                by_cases hd : isDig x[j] = true
                · have hdb : 48 ≤ (x[j]).toNat ∧ (x[j]).toNat ≤ 57 := by unfold isDig at hd; simpa using hd
                  have d1 : decide (((x[j]).toNat : Int) < 48) = false := decide_eq_false (by omega)
                  have d2 : decide ((57 : Int) < ((x[j]).toNat : Int)) = false := decide_eq_false (by omega)
                  have HA2 : Hid ((x.data.toList.take (j + 1)).all isDig = true) := by
                    show _ = _
                    rw [take_snoc x j hlt, List.all_append, HA.out]; simpa using hd
                  have HS : Hid _ := hsn
                  have hcl := UInt8.toNat_lt x[j]
                  have hu8 : IntKind.u8.wrap (((x[j]).toNat : Int) - 48) = ((x[j]).toNat : Int) - 48 := by
                    simp [IntKind.wrap, IntKind.bits, IntKind.signed]; omega
                  clear hd hsn
                  generalize valOf (x.data.toList.take j) = g at *
                  go_wp2
                  go_roundw
                  case rel => exact ⟨j + 1, by omega, by go_num, by rw [HS.out]; congr 1; omega, HA2.out, by trivial⟩
                  case measure => simp [intOf]; omega
                · have HBad : Hid (¬ (x.data.toList.all isDig = true)) := fun h => hd (by
                    rw [List.all_eq_true] at h
                    exact h _ (by show x.data.toList[j]'(by simpa using hlt) ∈ _; exact List.getElem_mem _))
                  have hcl := UInt8.toNat_lt x[j]
                  clear hsn
                  by_cases h48 : (x[j]).toNat < 48
                  · have d1 : decide (((x[j]).toNat : Int) < 48) = true := decide_eq_true (by omega)
                    clear hd
                    generalize valOf (x.data.toList.take j) = g at *
                    go_wp2
                    go_ret2
                    exact ⟨rfl, 0, false, rfl, HNeg.out 0 false (fun e => by cases e)⟩
                  · have d1 : decide (((x[j]).toNat : Int) < 48) = false := decide_eq_false (by omega)
                    have d2 : decide ((57 : Int) < ((x[j]).toNat : Int)) = true := decide_eq_true (by
                      have : ¬ (x[j]).toNat ≤ 57 := fun h => hd (by unfold isDig; simp; omega)
                      omega)
                    clear hd
                    generalize valOf (x.data.toList.take j) = g at *
                    go_wp2
                    go_ret2
                    exact ⟨rfl, 0, false, rfl, HNeg.out 0 false (fun e => by cases e)⟩
              · have hlti : decide ((j : Int) < (x.size : Int)) = false := by simp; omega
                have HF : Hid (x.data.toList.all isDig = true) := by
                  have := HA.out
                  rwa [List.take_of_length_le (by simp; omega)] at this
                have he : x.data.toList.take j = x.data.toList := List.take_of_length_le (by simp; omega)
                rw [he] at hv ⊢
                have hv17 : valOf x.data.toList < 10 ^ 17 := Nat.lt_of_lt_of_le hv (Nat.pow_le_pow_right (by decide) (by simp; omega))
                obtain ⟨g, hg⟩ : ∃ g, g = valOf x.data.toList := ⟨_, rfl⟩
                rw [← hg] at hv17 ⊢
                have HGv : Hid (g = valOf x.data.toList) := hg
                clear hg hv he
                go_wp2
                go_ret2
                exact ⟨rfl, (-(g : Int)), true, rfl, HNeg.out _ true (fun _ => by have h1 := HPos.out HF.out; have h2 := HGv.out; have h3 : valOf (bytes x) = valOf x.data.toList := rfl; omega)⟩
    · have dn : (((s[0]).toNat : Int) == 45) = false := beq_eq_false_iff_ne.2 (by omega)
      by_cases h17 : 17 < s.size
      · have HN : Hid (NumIs (bytes s) 0 false) := ⟨fun e => (by cases e), fun u hu e => by have := dec_len5 hu; rw [← e, hbl] at this; omega⟩
        have d17 : decide ((17 : Int) < (s.size : Int)) = true := decide_eq_true (by omega)
        clear h17 hhead hneg
        go_enter Tryd.func27, Tryd.ntmps27
        go_wp2
        go_ret2
        exact ⟨rfl, 0, false, rfl, HN.out⟩
      · have d17 : decide ((17 : Int) < (s.size : Int)) = false := decide_eq_false (by omega)
        by_cases hz : (s[0]).toNat = 48
        · have dq : (((s[0]).toNat : Int) == 48) = true := beq_iff_eq.2 (by omega)
          by_cases h1 : 1 < s.size
          · have d1 : decide ((1 : Int) < (s.size : Int)) = true := decide_eq_true (by omega)
            have HN : Hid (NumIs (bytes s) 0 false) := ⟨fun e => (by cases e), fun u hu e => by
              have h48 : s[0] = 48 := UInt8.toNat_inj.1 hz
              by_cases hu10 : 10 ≤ u
              · have := (dec_all u).2.2.2 hu10
                rw [← e, hhead, h48] at this
                exact absurd rfl this
              · have := congrArg List.length e
                rw [hbl, decDigits_last (by omega)] at this
                simp at this
                omega⟩
            clear h17 hhead hneg hz
            go_enter Tryd.func27, Tryd.ntmps27
            go_wp2
            go_ret2
            exact ⟨rfl, 0, false, rfl, HN.out⟩
          · have d1 : decide ((1 : Int) < (s.size : Int)) = false := decide_eq_false (by omega)
            have HOK : Hid ((bytes s).all isDig = true → NumIs (bytes s) ((valOf (bytes s) : Nat) : Int) true) := fun h => num_yes (fun e => by rw [e] at hbl; simp at hbl; omega) h (fun h2 => by omega)
            clear hhead hneg hz
            go_enter Tryd.func27, Tryd.ntmps27
            have hx17 : s.size ≤ 17 := by omega
            go_wp2
            go_loopw [5, 6] (fun n i wr => ∃ j : Nat, j ≤ s.size ∧ i = .int .i64 j ∧ n = .int .i64 (valOf (s.data.toList.take j) : Nat) ∧ (s.data.toList.take j).all isDig = true ∧ wr = w) (fun _ i _ => s.size - (intOf i).toNat)
            case atStart => exact ⟨0, Nat.zero_le _, rfl, rfl, rfl, rfl⟩
            case round =>
              obtain ⟨j, hj, rfl, rfl, hall, rfl⟩ := hrel
              have HA : Hid ((s.data.toList.take j).all isDig = true) := hall
              have hv := valOf_lt _ hall
              clear hall
              by_cases hlt : j < s.size
              · have hlti : (j : Int) < (s.size : Int) := by omega
                have hlj : (s.data.toList.take j).length = j := by rw [List.length_take]; simp; omega
                rw [hlj] at hv
                have hv16 : valOf (s.data.toList.take j) < 10 ^ 16 := Nat.lt_of_lt_of_le hv (Nat.pow_le_pow_right (by decide) (by omega))
                have hsn : valOf (s.data.toList.take (j + 1)) = valOf (s.data.toList.take j) * 10 + ((s[j]).toNat - 48) := by rw [take_snoc s j hlt, valOf_snoc]
                by_cases hd : isDig s[j] = true
                · have hdb : 48 ≤ (s[j]).toNat ∧ (s[j]).toNat ≤ 57 := by unfold isDig at hd; simpa using hd
                  have d1 : decide (((s[j]).toNat : Int) < 48) = false := decide_eq_false (by omega)
                  have d2 : decide ((57 : Int) < ((s[j]).toNat : Int)) = false := decide_eq_false (by omega)
                  have HA2 : Hid ((s.data.toList.take (j + 1)).all isDig = true) := by
                    show _ = _
                    rw [take_snoc s j hlt, List.all_append, HA.out]; simpa using hd
                  have HS : Hid _ := hsn
                  have hcl := UInt8.toNat_lt s[j]
                  have hu8 : IntKind.u8.wrap (((s[j]).toNat : Int) - 48) = ((s[j]).toNat : Int) - 48 := by
                    simp [IntKind.wrap, IntKind.bits, IntKind.signed]; omega
                  clear hd hsn
                  generalize valOf (s.data.toList.take j) = g at *
                  go_wp2
                  go_roundw
                  case rel => exact ⟨j + 1, by omega, by go_num, by rw [HS.out]; congr 1; omega, HA2.out, by trivial⟩
                  case measure => simp [intOf]; omega
                · have HBad : Hid (¬ (s.data.toList.all isDig = true)) := fun h => hd (by
                    rw [List.all_eq_true] at h
                    exact h _ (by show s.data.toList[j]'(by simpa using hlt) ∈ _; exact List.getElem_mem _))
                  have hcl := UInt8.toNat_lt s[j]
                  clear hsn
                  by_cases h48 : (s[j]).toNat < 48
                  · have d1 : decide (((s[j]).toNat : Int) < 48) = true := decide_eq_true (by omega)
                    clear hd
                    generalize valOf (s.data.toList.take j) = g at *
                    go_wp2
                    go_ret2
                    exact ⟨rfl, 0, false, rfl, not_dec HBad.out 0⟩
                  · have d1 : decide (((s[j]).toNat : Int) < 48) = false := decide_eq_false (by omega)
                    have d2 : decide ((57 : Int) < ((s[j]).toNat : Int)) = true := decide_eq_true (by
                      have : ¬ (s[j]).toNat ≤ 57 := fun h => hd (by unfold isDig; simp; omega)
                      omega)
                    clear hd
                    generalize valOf (s.data.toList.take j) = g at *
                    go_wp2
                    go_ret2
                    exact ⟨rfl, 0, false, rfl, not_dec HBad.out 0⟩
              · have hlti : decide ((j : Int) < (s.size : Int)) = false := by simp; omega
                have HF : Hid (s.data.toList.all isDig = true) := by
                  have := HA.out
                  rwa [List.take_of_length_le (by simp; omega)] at this
                have he : s.data.toList.take j = s.data.toList := List.take_of_length_le (by simp; omega)
                rw [he] at hv ⊢
                have hv17 : valOf s.data.toList < 10 ^ 17 := Nat.lt_of_lt_of_le hv (Nat.pow_le_pow_right (by decide) (by simp; omega))
                obtain ⟨g, hg⟩ : ∃ g, g = valOf s.data.toList := ⟨_, rfl⟩
                rw [← hg] at hv17 ⊢
                have HGv : Hid (g = valOf s.data.toList) := hg
                clear hg hv he
                go_wp2
                go_ret2
                exact ⟨rfl, (g : Int), true, rfl, by rw [HGv.out]; exact HOK.out HF.out⟩
        · have dq : (((s[0]).toNat : Int) == 48) = false := beq_eq_false_iff_ne.2 (by omega)
          have HOK : Hid ((bytes s).all isDig = true → NumIs (bytes s) ((valOf (bytes s) : Nat) : Int) true) := fun h => num_yes (fun e => by rw [e] at hbl; simp at hbl; omega) h (fun h2 => by
            rw [hhead]
            intro e
            have e2 : s[0] = 48 := by simpa using e
            exact hz (by rw [e2]; rfl))
          clear hhead hneg hz
          go_enter Tryd.func27, Tryd.ntmps27
          have hx17 : s.size ≤ 17 := by omega
          go_wp2
          go_loopw [5, 6] (fun n i wr => ∃ j : Nat, j ≤ s.size ∧ i = .int .i64 j ∧ n = .int .i64 (valOf (s.data.toList.take j) : Nat) ∧ (s.data.toList.take j).all isDig = true ∧ wr = w) (fun _ i _ => s.size - (intOf i).toNat)
          case atStart => exact ⟨0, Nat.zero_le _, rfl, rfl, rfl, rfl⟩
          case round =>
            obtain ⟨j, hj, rfl, rfl, hall, rfl⟩ := hrel
            have HA : Hid ((s.data.toList.take j).all isDig = true) := hall
            have hv := valOf_lt _ hall
            clear hall
            by_cases hlt : j < s.size
            · have hlti : (j : Int) < (s.size : Int) := by omega
              have hlj : (s.data.toList.take j).length = j := by rw [List.length_take]; simp; omega
              rw [hlj] at hv
              have hv16 : valOf (s.data.toList.take j) < 10 ^ 16 := Nat.lt_of_lt_of_le hv (Nat.pow_le_pow_right (by decide) (by omega))
              have hsn : valOf (s.data.toList.take (j + 1)) = valOf (s.data.toList.take j) * 10 + ((s[j]).toNat - 48) := by rw [take_snoc s j hlt, valOf_snoc]
              by_cases hd : isDig s[j] = true
              · have hdb : 48 ≤ (s[j]).toNat ∧ (s[j]).toNat ≤ 57 := by unfold isDig at hd; simpa using hd
                have d1 : decide (((s[j]).toNat : Int) < 48) = false := decide_eq_false (by omega)
                have d2 : decide ((57 : Int) < ((s[j]).toNat : Int)) = false := decide_eq_false (by omega)
                have HA2 : Hid ((s.data.toList.take (j + 1)).all isDig = true) := by
                  show _ = _
                  rw [take_snoc s j hlt, List.all_append, HA.out]; simpa using hd
                have HS : Hid _ := hsn
                have hcl := UInt8.toNat_lt s[j]
                have hu8 : IntKind.u8.wrap (((s[j]).toNat : Int) - 48) = ((s[j]).toNat : Int) - 48 := by
                  simp [IntKind.wrap, IntKind.bits, IntKind.signed]; omega
                clear hd hsn
                generalize valOf (s.data.toList.take j) = g at *
                go_wp2
                go_roundw
                case rel => exact ⟨j + 1, by omega, by go_num, by rw [HS.out]; congr 1; omega, HA2.out, by trivial⟩
                case measure => simp [intOf]; omega
              · have HBad : Hid (¬ (s.data.toList.all isDig = true)) := fun h => hd (by
                  rw [List.all_eq_true] at h
                  exact h _ (by show s.data.toList[j]'(by simpa using hlt) ∈ _; exact List.getElem_mem _))
                have hcl := UInt8.toNat_lt s[j]
                clear hsn
                by_cases h48 : (s[j]).toNat < 48
                · have d1 : decide (((s[j]).toNat : Int) < 48) = true := decide_eq_true (by omega)
                  clear hd
                  generalize valOf (s.data.toList.take j) = g at *
                  go_wp2
                  go_ret2
                  exact ⟨rfl, 0, false, rfl, not_dec HBad.out 0⟩
                · have d1 : decide (((s[j]).toNat : Int) < 48) = false := decide_eq_false (by omega)
                  have d2 : decide ((57 : Int) < ((s[j]).toNat : Int)) = true := decide_eq_true (by
                    have : ¬ (s[j]).toNat ≤ 57 := fun h => hd (by unfold isDig; simp; omega)
                    omega)
                  clear hd
                  generalize valOf (s.data.toList.take j) = g at *
                  go_wp2
                  go_ret2
                  exact ⟨rfl, 0, false, rfl, not_dec HBad.out 0⟩
            · have hlti : decide ((j : Int) < (s.size : Int)) = false := by simp; omega
              have HF : Hid (s.data.toList.all isDig = true) := by
                have := HA.out
                rwa [List.take_of_length_le (by simp; omega)] at this
              have he : s.data.toList.take j = s.data.toList := List.take_of_length_le (by simp; omega)
              rw [he] at hv ⊢
              have hv17 : valOf s.data.toList < 10 ^ 17 := Nat.lt_of_lt_of_le hv (Nat.pow_le_pow_right (by decide) (by simp; omega))
              obtain ⟨g, hg⟩ : ∃ g, g = valOf s.data.toList := ⟨_, rfl⟩
              rw [← hg] at hv17 ⊢
              have HGv : Hid (g = valOf s.data.toList) := hg
              clear hg hv he
              go_wp2
              go_ret2
              exact ⟨rfl, (g : Int), true, rfl, by rw [HGv.out]; exact HOK.out HF.out⟩
end Go.Proofs.YtjlldefajgmelaaDoor
