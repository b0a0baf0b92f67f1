/-
  What PathRead of the specification answers at every text of at most 1048576 bytes.
-/
import Derived.Test.YtgijhkcnbmcenaaCutSpec
import Derived.Test.YtgijhkcnbmcenaaReadBase
namespace Go.Proofs.Ytgijhkcnbmcenaa
open Go.RowKit
set_option linter.unusedVariables false

theorem tail_bytes (s : ByteArray) : bytes (s.extract 1 s.size) = (bytes s).tail := by
  rw [bytes_cut, List.take_of_length_le (by simp), List.drop_one]; rfl

theorem head_at {s : ByteArray} (h : 0 < s.size) : (bytes s).head? = some s[0] := by
  unfold bytes
  have hl : 0 < s.data.toList.length := by simpa using h
  rw [List.head?_eq_getElem?, List.getElem?_eq_getElem hl]
  rfl

theorem bytes_len (s : ByteArray) : (bytes s).length = s.size := by unfold bytes; simp

theorem head_short {s : ByteArray} (h : (s.toList == [47]) = false) (h2 : s.size < 2) : (bytes s).head? ≠ some 47 := by
  intro hh
  have hl := bytes_len s
  rw [ByteArray.toList_eq] at h
  change (bytes s == [47]) = false at h
  cases hb : bytes s with
  | nil => rw [hb] at hh; simp at hh
  | cons c r =>
    rw [hb] at hh h hl
    simp at hh hl
    have : r = [] := List.eq_nil_of_length_eq_zero (by omega)
    subst this; subst hh
    simp at h

theorem not_slash {s : ByteArray} (h : (s.toList == [47]) = false) : bytes s ≠ [47] := by
  intro e
  rw [ByteArray.toList_eq] at h
  change (bytes s == [47]) = false at h
  rw [e] at h
  simp at h

theorem is_slash {s : ByteArray} (h : (s.toList == [47]) = true) : bytes s = [47] := by
  rw [ByteArray.toList_eq] at h
  change (bytes s == [47]) = true at h
  simpa using h

/-- Nothing and false. -/
theorem handed_none {w w' : World} {e : Ending} {l : List UInt8} (he : e = .returned (.tuple #[.slice none 0 0, .bool false])) (hr : readOf l = none) (hb : Below w.heap.size w w') : ∃ a n c S, Handed w w' e a n c S (readOf l) :=
  ⟨none, 0, 0, fun _ => ByteArray.empty, by rw [hr]; exact he, by rw [hr]; rfl, by omega, fun i hi => by omega, Or.inl rfl, hb⟩

set_option maxHeartbeats 1000000 in
theorem specPathRead_any (s : ByteArray) (w : World) (hs : s.size ≤ 1048576) :
    Calls Try.prog 16 #[.string s] w fun e w' => ∃ a n c S, Handed w w' e a n c S (readOf (bytes s)) := by
  cases hr : (s.toList == [47])
  · have HNS : Hid (bytes s ≠ [47]) := not_slash hr
    by_cases h2 : s.size < 2
    · have hrd : readOf (bytes s) = none := read_none HNS.out (Or.inl (head_short hr h2))
      have HRD : Hid (readOf (bytes s) = none) := hrd
      have h2i : decide ((s.size : Int) < 2) = true := by simp; omega
      clear hrd
      go_enter Try.func16, Try.ntmps16
      go_wp2
      go_ret2
      exact handed_none rfl HRD.out (Below.refl _ _)
    · have h2i : decide ((s.size : Int) < 2) = false := by simp; omega
      by_cases h60 : 60 < s.size
      · have HRD : Hid (readOf (bytes s) = none) := read_none HNS.out (Or.inr (by
          rw [Bool.eq_false_iff]
          intro h
          have := okCut_short h
          have := bytes_len s
          rw [List.length_tail] at *
          omega))
        have h60i : decide ((60 : Int) < (s.size : Int)) = true := by simp; omega
        go_enter Try.func16, Try.ntmps16
        go_wp2
        go_ret2
        exact handed_none rfl HRD.out (Below.refl _ _)
      · have h60i : decide ((60 : Int) < (s.size : Int)) = false := by simp; omega
        have hpos : 0 < s.size := by omega
        cases hsl : ((s[0].toNat : Int) == 47)
        · have HRD : Hid (readOf (bytes s) = none) := read_none HNS.out (Or.inl (by rw [head_at hpos]; intro e; exact slash_not hsl (by simpa using e)))
          go_enter Try.func16, Try.ntmps16
          go_wp2
          go_ret2
          exact handed_none rfl HRD.out (Below.refl _ _)
        · have HH : Hid ((bytes s).head? = some 47) := by show _ = _; rw [head_at hpos, slash_nat hsl]
          go_enter Try.func16, Try.ntmps16
          go_wp2_with fail
          refine (l11Cut_any _ _ (by rw [ByteArray.size_extract]; omega)).mono ?_
          rintro e w1 ⟨v, L, rfl, hO, hL, hLl, hB⟩
          obtain ⟨g, cap, rfl, hgB, hglt, hcell, hroom, hmost⟩ := hO.hands
          have hLs : L.length ≤ 60 := by rw [ByteArray.size_extract] at hLl; omega
          have HL : Hid (L.map bytes = cut (bytes s).tail) := by show _ = _; rw [hL, tail_bytes]
          have hst : IsStrs w1 (some ⟨g, 0, none⟩) L.length (fun i => L.getD i ByteArray.empty) := Or.inr ⟨g, 0, rfl, hglt, hcell⟩
          have hsm : Small L.length (fun i => L.getD i ByteArray.empty) := fun i hi => by
            have h1 := piece_size hL i
            rw [tail_bytes, List.length_tail, bytes_len] at h1
            show (L.getD i ByteArray.empty).size ≤ maxLen
            unfold maxLen; omega
          have HB : Hid (Below w.heap.size w w1) := hB
          clear hO hL hLl hB hcell
          go_wp2_with fail
          refine (specPathOk_any _ _ _ _ _ hst hsm (by unfold maxLen; omega)).mono ?_
          rintro e w2 ⟨rfl, rfl⟩
          rw [pathOk_cut]
          cases hok : okCut (L.map bytes)
          · have HRD : Hid (readOf (bytes s) = none) := read_none HNS.out (Or.inr (by rw [← HL.out]; exact hok))
            clear hst hsm
            go_wp2
            go_ret2
            exact handed_none rfl HRD.out HB.out
          · have HRD : Hid (readOf (bytes s) = some (L.map bytes)) := by show _ = _; rw [read_some HNS.out HH.out (by rw [← HL.out]; exact hok), HL.out]
            have HST : Hid _ := hst
            have h5 : L.length ≤ 5 := by have := okCut_len hok; rwa [List.length_map] at this
            clear hst hsm
            go_wp2
            go_ret2
            exact ⟨_, _, _, _, by rw [HRD.out]; rfl, by rw [HRD.out]; simp, h5, fun i hi => by rw [HRD.out]; simp [hi], HST.out, HB.out⟩
  · have HRD : Hid (readOf (bytes s) = some []) := read_slash (is_slash hr)
    go_enter Try.func16, Try.ntmps16
    go_wp2
    go_ret2
    exact ⟨_, _, _, fun _ => ByteArray.empty, by rw [HRD.out]; rfl, by rw [HRD.out]; rfl, by omega, fun i hi => by omega, Or.inl rfl, (Below.refl _ _).alloc (Nat.le_refl _) _⟩
end Go.Proofs.Ytgijhkcnbmcenaa
