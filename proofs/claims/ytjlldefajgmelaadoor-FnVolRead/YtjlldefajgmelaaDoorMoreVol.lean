/-
  The text of a piece with a byte more behind it. Plain facts.
-/
import Derived.Test.YtjlldefajgmelaaDoorScanMath
namespace Go.Proofs.YtjlldefajgmelaaDoor
open Go.RowKit
set_option linter.unusedVariables false

theorem bytes_app (a b : ByteArray) : bytes (a ++ b) = bytes a ++ bytes b := by unfold bytes; simp

/-- A piece with a byte more in its text. -/
def moreVo (v : Vo) : Vo := ⟨v.num, v.cnt, v.sum, v.text ++ ⟨#[97]⟩⟩

theorem volT_head {v : Vo} (hv : voOk v = true) : ∃ h : List UInt8, 4 ≤ h.length ∧ bytes (volT v) = h ++ 10 :: bytes v.text ∧ ∀ u : Vo, voOk u = true → u.num = v.num → u.cnt = v.cnt → u.sum = v.sum → bytes (volT u) = h ++ 10 :: bytes u.text := by
  obtain ⟨x, y, z, e1, e2, e3, b1, b2, b3, hb⟩ := volT_bytes hv
  refine ⟨[118, 111, 108, 32] ++ hdr x y z, by simp, by rw [hb]; simp, fun u hu f1 f2 f3 => ?_⟩
  obtain ⟨x', y', z', g1, g2, g3, _, _, _, hb'⟩ := volT_bytes hu
  obtain rfl : x' = x := by omega
  obtain rfl : y' = y := by omega
  obtain rfl : z' = z := by omega
  rw [hb']; simp

theorem volT_more {v u : Vo} (hv : voOk v = true) (hu : voOk u = true) (h : bytes (volT u) = bytes (volT v) ++ [97]) : u = moreVo v := by
  obtain ⟨x, y, z, e1, e2, e3, b1, b2, b3, hb⟩ := volT_bytes hv
  obtain ⟨x', y', z', e1', e2', e3', b1', b2', b3', hb'⟩ := volT_bytes hu
  rw [hb, hb', List.append_assoc, List.append_assoc] at h
  have h2 : hdr x' y' z' ++ 10 :: bytes u.text = hdr x y z ++ 10 :: (bytes v.text ++ [97]) := by simpa using List.append_cancel_left h
  obtain ⟨f, hf, f0, f1, f2⟩ := scan_hdr x y z (bytes v.text ++ [97]) (by omega) (by omega) (by omega)
  obtain ⟨f', hf', f0', f1', f2'⟩ := scan_hdr x' y' z' (bytes u.text) (by omega) (by omega) (by omega)
  rw [h2] at hf'
  rw [hf] at hf'
  have hfe := Option.some.inj hf'
  have hff : f = f' := congrArg Prod.fst hfe
  have hle : (hdr x y z).length = (hdr x' y' z').length := congrArg Prod.snd hfe
  subst hff
  have ht : bytes u.text = bytes v.text ++ [97] := by
    have d1 := drop_hdr (x := x') (y := y') (z := z') (t := bytes u.text)
    have d2 := drop_hdr (x := x) (y := y) (z := z) (t := bytes v.text ++ [97])
    rw [h2, ← hle] at d1
    rw [← d1, d2]
  unfold moreVo
  exact vo_ext (by show u.num = v.num; omega) (by show u.cnt = v.cnt; omega) (by show u.sum = v.sum; omega) (by rw [ht, bytes_app]; rfl)

/-- What is read of it. -/
theorem more_read {v : Vo} {l : List UInt8} {r : Option Vo} (hv : voOk v = true) (hl : bytes (volT v) = l) (hs : v.text.size < 2000) (hr : RdIs (l ++ [97]) r) :
    (((sumB (v.text ++ ⟨#[97]⟩) : Nat) : Int) = v.sum → r = some (moreVo v)) ∧ (((sumB (v.text ++ ⟨#[97]⟩) : Nat) : Int) ≠ v.sum → r = none) := by
  obtain ⟨h1, h2, h3, h4, h5, h6⟩ := voOk_iff.1 hv
  have hsz : (v.text ++ (⟨#[97]⟩ : ByteArray)).size = v.text.size + 1 := by rw [ByteArray.size_append]; rfl
  constructor
  · intro e
    have hy : voOk (moreVo v) = true := voOk_iff.2 ⟨h1, h2, h3, h4, by show (v.text ++ (⟨#[97]⟩ : ByteArray)).size ≤ 2000; omega, e.symm⟩
    obtain ⟨hd, _, hb, hall⟩ := volT_head hv
    have hby : bytes (volT (moreVo v)) = l ++ [97] := by
      rw [hall (moreVo v) hy rfl rfl rfl, ← hl, hb]
      show hd ++ 10 :: bytes (v.text ++ (⟨#[97]⟩ : ByteArray)) = _
      rw [bytes_app]
      show hd ++ 10 :: (bytes v.text ++ [97]) = _
      simp
    exact rdIs_one hr ⟨fun u hu => by cases hu; exact ⟨hy, hby⟩, fun h => by cases h⟩
  · intro ne
    cases r with
    | none => rfl
    | some u =>
      obtain ⟨hu, hb⟩ := hr.1 u rfl
      rw [← hl] at hb
      have := volT_more hv hu hb
      subst this
      obtain ⟨_, _, _, _, _, g⟩ := voOk_iff.1 hu
      exact absurd g.symm ne

/-- Where the text of a piece begins. -/
theorem vol_cut {v : Vo} {s : ByteArray} (hv : voOk v = true) (hb : bytes (volT v) = bytes s) : ∃ M : Nat, s.size = M + 1 + v.text.size ∧ 4 ≤ M ∧ s.extract (M + 1) s.size = v.text ∧ ∃ h : M < s.size, s[M] = 10 := by
  obtain ⟨hd, hl, hh, _⟩ := volT_head hv
  rw [hh] at hb
  have e : s = ⟨(hd ++ 10 :: bytes v.text).toArray⟩ := by
    obtain ⟨⟨x⟩⟩ := s
    have : hd ++ 10 :: bytes v.text = x := hb
    rw [this]
  have hsz : s.size = hd.length + 1 + v.text.size := by
    rw [e]
    show (hd ++ 10 :: bytes v.text).toArray.size = _
    unfold bytes
    simp
    have : v.text.data.size = v.text.size := rfl
    omega
  refine ⟨hd.length, hsz, hl, ?_, by omega, ?_⟩
  · apply ByteArray.ext
    rw [ByteArray.data_extract, e]
    apply Array.toList_inj.1
    show ((hd ++ 10 :: bytes v.text).toArray.extract (hd.length + 1) _).toList = v.text.data.toList
    rw [Array.toList_extract]
    simp [List.extract, bytes]
    apply List.take_of_length_le
    have e1 : ∀ (q : List UInt8), ({ data := q.toArray } : ByteArray).size = q.length := fun q => by show q.toArray.size = _; simp
    rw [e1]
    simp
    omega
  · subst e
    show (hd ++ 10 :: bytes v.text).toArray[hd.length]'_ = 10
    simp
end Go.Proofs.YtjlldefajgmelaaDoor
