/-
  Cutting a text at its spaces: plain facts on lists of bytes.
-/
import Derived.Test.YtjlldefajgmelaaDoorNameBase
import Derived.Lib.Strings
namespace Go.Proofs.YtjlldefajgmelaaDoor

/-- One byte more: what is cut off so far, and what stands behind the last slash. -/
def cstep (st : List (List UInt8) × List UInt8) (c : UInt8) : List (List UInt8) × List UInt8 := if c = 32 then (st.1 ++ [st.2], []) else (st.1, st.2 ++ [c])
def cst (l : List UInt8) : List (List UInt8) × List UInt8 := l.foldl cstep ([], [])
/-- What stands ahead of, between and behind the slashes. -/
def cut (l : List UInt8) : List (List UInt8) := (cst l).1 ++ [(cst l).2]

theorem cst_snoc (l : List UInt8) (c : UInt8) : cst (l ++ [c]) = cstep (cst l) c := by simp [cst]
theorem cst_at (s : ByteArray) (k : Nat) (h : k < s.size) : cst (s.data.toList.take (k + 1)) = cstep (cst (s.data.toList.take k)) s[k] := by rw [take_snoc s k h, cst_snoc]

theorem fold_pre (m : List UInt8) : ∀ st : List (List UInt8) × List UInt8, st.1 <+: (m.foldl cstep st).1 := by
  induction m with
  | nil => intro st; exact List.prefix_refl _
  | cons c m ih =>
    intro st
    refine List.IsPrefix.trans ?_ (ih (cstep st c))
    unfold cstep
    split
    · exact List.prefix_append _ _
    · exact List.prefix_refl _

theorem cst_pre (l : List UInt8) (k : Nat) : (cst (l.take k)).1 <+: (cst l).1 := by
  have h := fold_pre (l.drop k) (cst (l.take k))
  have e : (l.drop k).foldl cstep (cst (l.take k)) = cst l := by
    unfold cst
    rw [← List.foldl_append, List.take_append_drop]
  rw [e] at h
  exact h

theorem cut_pre (l : List UInt8) (k : Nat) : (cst (l.take k)).1 <+: cut l := (cst_pre l k).trans (List.prefix_append _ _)

theorem slash_nat {c : UInt8} : ((c.toNat : Int) == 32) = true → c = 32 := by
  intro h
  have h' : (c.toNat : Int) = 32 := by simpa using h
  have h2 : c.toNat = 32 := by omega
  exact UInt8.toNat_inj.1 (by rw [h2]; rfl)
theorem slash_not {c : UInt8} : ((c.toNat : Int) == 32) = false → c ≠ 32 := by
  intro h e
  subst e
  simp at h

/-- Behind a slash. -/
theorem cst_slash {s : ByteArray} {k e : Nat} {D : List (List UInt8)} (he : e < s.size) (hc : s[e] = 32) (h : cst (s.data.toList.take e) = (D, (s.data.toList.take e).drop k)) :
    cst (s.data.toList.take (e + 1)) = (D ++ [(s.data.toList.take e).drop k], []) := by
  rw [cst_at s e he, h]; simp [cstep, hc]
/-- Behind another byte. -/
theorem cst_other {s : ByteArray} {k e : Nat} {D : List (List UInt8)} (he : e < s.size) (hk : k ≤ e) (hc : s[e] ≠ 32) (h : cst (s.data.toList.take e) = (D, (s.data.toList.take e).drop k)) :
    cst (s.data.toList.take (e + 1)) = (D, (s.data.toList.take (e + 1)).drop k) := by
  rw [cst_at s e he, h, take_snoc s e he]
  unfold cstep
  rw [if_neg hc]
  have hl : k ≤ (s.data.toList.take e).length := by
    rw [List.length_take]
    have : s.data.toList.length = s.size := by simp
    omega
  rw [List.drop_append_of_le_length hl]

def bytes (x : ByteArray) : List UInt8 := x.data.toList

theorem bytes_cut (s : ByteArray) (k e : Nat) : bytes (s.extract k e) = (s.data.toList.take e).drop k := by
  unfold bytes
  rw [Lib.extract_data, List.drop_take]

theorem cut_whole {s : ByteArray} {k e : Nat} {D : List (List UInt8)} (h : cst (s.data.toList.take e) = (D, (s.data.toList.take e).drop k)) (he : s.size ≤ e) : cut s.data.toList = D ++ [bytes (s.extract k s.size)] := by
  have hl : s.data.toList.length = s.size := by simp
  rw [List.take_of_length_le (by omega)] at h
  unfold cut
  rw [h, bytes_cut, List.take_of_length_le (by omega)]
end Go.Proofs.YtjlldefajgmelaaDoor
