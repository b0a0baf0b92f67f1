/-
  Reading the first line of a piece byte by byte: plain facts.
-/
import Derived.Test.YtjlldefajgmelaaDoorSpecVolText
import Derived.Test.YtjlldefajgmelaaDoorCutSp
namespace Go.Proofs.YtjlldefajgmelaaDoor
open Go.RowKit
set_option linter.unusedVariables false

def upd (f : Nat → Nat) (k x : Nat) : Nat → Nat := fun i => if i = k then x else f i
theorem upd_same (f : Nat → Nat) (k x : Nat) : upd f k x k = x := by simp [upd]
theorem upd_upd (f : Nat → Nat) (k x y : Nat) : upd (upd f k x) k y = upd f k y := by funext i; unfold upd; split <;> rfl

/-- The three numbers of a first line, and where it ends. -/
def scanB : List UInt8 → (Nat → Nat) → Nat → Nat → Option ((Nat → Nat) × Nat)
  | [], _, _, _ => none
  | c :: l, f, k, p =>
    if c = 10 then some (f, p)
    else if c = 32 ∧ k + 1 < 3 then scanB l f (k + 1) (p + 1)
    else if (48 ≤ c.toNat ∧ c.toNat ≤ 57) ∧ f k < 9973 then scanB l (upd f k (f k * 10 + (c.toNat - 48))) k (p + 1)
    else none

theorem dig_toNat (m : Nat) : (dig m).toNat = 48 + m % 10 := by have := dig_nat m; omega
theorem dig_ne (m : Nat) : dig m ≠ 10 ∧ dig m ≠ 32 := by
  have := dig_toNat m
  constructor
  · intro h; rw [h] at this; simp at this; omega
  · intro h; rw [h] at this; simp at this; omega

theorem scan_digit (m : Nat) (l : List UInt8) (f : Nat → Nat) (k p : Nat) (hf : f k < 9973) : scanB (dig m :: l) f k p = scanB l (upd f k (f k * 10 + m % 10)) k (p + 1) := by
  have h1 := dig_ne m
  have h2 := dig_toNat m
  rw [scanB, if_neg h1.1, if_neg (fun h => h1.2 h.1), if_pos ⟨by omega, hf⟩, h2, show 48 + m % 10 - 48 = m % 10 by omega]

theorem scan_dec : ∀ (u : Nat) (l : List UInt8) (f : Nat → Nat) (k p : Nat), u < 99730 → f k = 0 → scanB (Lib.decDigits u ++ l) f k p = scanB l (upd f k u) k (p + (Lib.decDigits u).length) := by
  intro u
  induction u using Nat.strongRecOn with
  | _ u ih =>
    intro l f k p hu hf
    by_cases h : u < 10
    · rw [decDigits_last h]
      rw [List.singleton_append, scan_digit u l f k p (by omega), hf, show 0 * 10 + u % 10 = u by omega]
      rfl
    · rw [decDigits_step h, List.append_assoc, ih (u / 10) (by omega) _ f k p (by omega) hf, List.singleton_append, scan_digit u l _ k _ (by rw [upd_same]; omega), upd_same, upd_upd, show u / 10 * 10 + u % 10 = u by omega]
      simp [Nat.add_assoc]

/-- The first line of a piece. -/
def hdr (x y z : Nat) : List UInt8 := Lib.decDigits x ++ (32 :: (Lib.decDigits y ++ (32 :: Lib.decDigits z)))
theorem hdr_len (x y z : Nat) : (hdr x y z).length = (Lib.decDigits x).length + 1 + ((Lib.decDigits y).length + 1 + (Lib.decDigits z).length) := by
  unfold hdr; simp; omega

theorem scan_hdr (x y z : Nat) (t : List UInt8) (hx : x < 99730) (hy : y < 99730) (hz : z < 99730) :
    ∃ f, scanB (hdr x y z ++ 10 :: t) (fun _ => 0) 0 0 = some (f, (hdr x y z).length) ∧ f 0 = x ∧ f 1 = y ∧ f 2 = z := by
  have e : hdr x y z ++ 10 :: t = Lib.decDigits x ++ (32 :: (Lib.decDigits y ++ (32 :: (Lib.decDigits z ++ (10 :: t))))) := by unfold hdr; simp
  refine ⟨upd (upd (upd (fun _ => 0) 0 x) 1 y) 2 z, ?_, by simp [upd], by simp [upd], by simp [upd]⟩
  rw [e, scan_dec x _ _ _ _ hx rfl, scanB, if_neg (by decide), if_pos ⟨rfl, by decide⟩, scan_dec y _ _ _ _ hy (by simp [upd]), scanB, if_neg (by decide), if_pos ⟨rfl, by decide⟩, scan_dec z _ _ _ _ hz (by simp [upd]), scanB, if_pos rfl, hdr_len]
  congr 2
  omega

/-- The bytes of the text of a piece. -/
theorem volT_bytes {v : Vo} (h : voOk v = true) : ∃ x y z : Nat, v.num = (x : Int) ∧ v.cnt = (y : Int) ∧ v.sum = (z : Int) ∧ x ≤ 40 ∧ y ≤ 40 ∧ z < 9973 ∧ bytes (volT v) = [118, 111, 108, 32] ++ (hdr x y z ++ 10 :: bytes v.text) := by
  obtain ⟨k1, k2, k3, k4, k5, k6⟩ := voOk_iff.1 h
  have hsl := sumB_lt v.text
  refine ⟨v.num.toNat, v.cnt.toNat, v.sum.toNat, by omega, by omega, by omega, by omega, by omega, by omega, ?_⟩
  unfold volT
  rw [if_pos h]
  unfold bytes hdr decB
  simp

theorem vo_ext {v u : Vo} (h1 : v.num = u.num) (h2 : v.cnt = u.cnt) (h3 : v.sum = u.sum) (h4 : bytes v.text = bytes u.text) : v = u := by
  obtain ⟨a, b, c, d⟩ := v
  obtain ⟨a', b', c', d'⟩ := u
  dsimp only at h1 h2 h3 h4
  subst h1 h2 h3
  congr 1
  exact ByteArray.ext (Array.toList_inj.1 h4)

/-- What is read: the piece of which this is the text, or none, if there is none. -/
def RdIs (l : List UInt8) (r : Option Vo) : Prop := (∀ v, r = some v → voOk v = true ∧ bytes (volT v) = l) ∧ (r = none → ∀ v, voOk v = true → bytes (volT v) ≠ l)

theorem drop_hdr {x y z : Nat} {t : List UInt8} : (hdr x y z ++ 10 :: t).drop ((hdr x y z).length + 1) = t := by
  rw [show hdr x y z ++ 10 :: t = (hdr x y z ++ [10]) ++ t from by simp, List.drop_left' (by simp)]

theorem volT_inj {v u : Vo} (hv : voOk v = true) (hu : voOk u = true) (h : bytes (volT v) = bytes (volT u)) : v = u := by
  obtain ⟨x, y, z, e1, e2, e3, b1, b2, b3, hb⟩ := volT_bytes hv
  obtain ⟨x', y', z', e1', e2', e3', b1', b2', b3', hb'⟩ := volT_bytes hu
  rw [hb, hb'] at h
  have h2 : hdr x y z ++ 10 :: bytes v.text = hdr x' y' z' ++ 10 :: bytes u.text := List.append_cancel_left h
  obtain ⟨f, hf, f0, f1, f2⟩ := scan_hdr x y z (bytes v.text) (by omega) (by omega) (by omega)
  obtain ⟨f', hf', f0', f1', f2'⟩ := scan_hdr x' y' z' (bytes u.text) (by omega) (by omega) (by omega)
  rw [h2] at hf
  rw [hf] at hf'
  have hfe := Option.some.inj hf'
  have hff : f = f' := congrArg Prod.fst hfe
  have hle : (hdr x y z).length = (hdr x' y' z').length := congrArg Prod.snd hfe
  subst hff
  have ht : bytes v.text = bytes u.text := by
    have d1 := drop_hdr (x := x) (y := y) (z := z) (t := bytes v.text)
    have d2 := drop_hdr (x := x') (y := y') (z := z') (t := bytes u.text)
    rw [h2, hle] at d1
    rw [← d1, d2]
  exact vo_ext (by omega) (by omega) (by omega) ht

theorem rdIs_one {l : List UInt8} {r r' : Option Vo} (h : RdIs l r) (h' : RdIs l r') : r = r' := by
  cases r with
  | none =>
    cases r' with
    | none => rfl
    | some u => exact absurd (h'.1 u rfl).2 (h.2 rfl u (h'.1 u rfl).1)
  | some v =>
    obtain ⟨hv, hb⟩ := h.1 v rfl
    cases r' with
    | none => exact absurd hb (h'.2 rfl v hv)
    | some u =>
      obtain ⟨hu, hb'⟩ := h'.1 u rfl
      rw [volT_inj hv hu (hb.trans hb'.symm)]
end Go.Proofs.YtjlldefajgmelaaDoor
