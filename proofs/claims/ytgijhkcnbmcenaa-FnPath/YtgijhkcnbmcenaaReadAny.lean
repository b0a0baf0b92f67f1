/-
  What PathRead of the program answers at every text of at most 1048576 bytes, told by its bytes; and plain facts on texts of one name.
-/
import Derived.Test.YtgijhkcnbmcenaaPathReadSpec
import Derived.Test.YtgijhkcnbmcenaaPathReadImpl
namespace Go.Proofs.Ytgijhkcnbmcenaa
open Go.RowKit
set_option linter.unusedVariables false

theorem prefix_yes {l : List UInt8} (h : Lib.hasPrefix l [47] = true) : l.head? = some 47 := by
  unfold Lib.hasPrefix at h
  cases l with
  | nil => simp at h
  | cons c r => simp at h ⊢; exact h.symm
theorem prefix_no {l : List UInt8} (h : Lib.hasPrefix l [47] = false) : l.head? ≠ some 47 := by
  unfold Lib.hasPrefix at h
  cases l with
  | nil => simp
  | cons c r => intro e; simp at e; subst e; simp [List.isPrefixOf] at h

theorem row_strs {w : World} {B : Nat} {v : Value} {L : List ByteArray} (h : w.ownsRow B 9 1 v L.length (L.map Value.string)) :
    ∃ a c, v = .slice a L.length c ∧ IsStrs w a L.length (fun i => L.getD i ByteArray.empty) ∧ L.length ≤ c := by
  obtain ⟨h1, h2⟩ := h
  rcases h2 with ⟨rfl, h0⟩ | ⟨g, cap, cur, rfl, hb, hblk, hn, hm, hsz, htake⟩
  · exact ⟨none, 0, by rw [h0], Or.inl h0, by omega⟩
  · have hglt : g < w.heap.size := (Array.getElem?_eq_some_iff.1 hblk).1
    have hcell : ∀ i, i < L.length → w.cell? ⟨g, 0 + i, none⟩ = some (.string (L.getD i ByteArray.empty)) := fun i hi => by
      have hi2 : (L.map Value.string)[i]? = some (.string (L.getD i ByteArray.empty)) := by simp [hi]
      rw [← htake, Nat.mul_one, List.getElem?_take_of_lt hi] at hi2
      simp only [World.cell?, hblk]
      simpa using hi2
    exact ⟨_, cap, rfl, Or.inr ⟨g, 0, rfl, hglt, hcell⟩, hn⟩

theorem implRead_any (s : ByteArray) (w : World) (hs : s.size ≤ 1048576) :
    Calls Try.prog 11 #[.string s] w fun e w' => ∃ a n c S, Handed w w' e a n c S (readOf (bytes s)) ∧ n ≤ c := by
  cases hp : Lib.hasPrefix s.data.toList [47]
  · refine (implPathRead_not s w hs hp).mono ?_
    rintro e w' ⟨he, hb⟩
    have hh := prefix_no hp
    have hrd : readOf (bytes s) = none := read_none (fun e => hh (by change (bytes s).head? = _; rw [e]; rfl)) (Or.inl hh)
    obtain ⟨a, n, c, S, H⟩ := handed_none (l := bytes s) he hrd hb
    exact ⟨a, n, c, S, H, by have h0 : n = 0 := by rw [H.len, hrd]; rfl
                             omega⟩
  · cases hr : (s.toList == [47])
    · have hh := prefix_yes hp
      have h1 : 1 ≤ s.size := by
        have := bytes_len s
        cases hb : bytes s with
        | nil => change (bytes s).head? = _ at hh; rw [hb] at hh; simp at hh
        | cons c r => rw [hb] at this; simp at this; omega
      refine (implPathRead_way s w hs hp hr h1).mono ?_
      rintro e w' ⟨v, ok, L, he, hok, hrow, hL, hb⟩
      rw [tail_bytes] at hok hL
      obtain ⟨a, c, rfl, hst, hroom⟩ := row_strs hrow
      cases ok with
      | false =>
        rw [if_neg (by simp)] at hL
        have hL0 : L = [] := by simpa using hL
        subst hL0
        have hrd : readOf (bytes s) = none := read_none (not_slash hr) (Or.inr hok.symm)
        exact ⟨a, 0, c, _, ⟨by rw [hrd]; exact he, by rw [hrd]; rfl, by omega, fun i hi => by omega, hst, hb⟩, Nat.zero_le _⟩
      | true =>
        rw [if_pos rfl] at hL
        have hrd : readOf (bytes s) = some (L.map bytes) := by rw [hL]; exact read_some (not_slash hr) hh hok.symm
        have h5 : L.length ≤ 5 := by have := okCut_len hok.symm; rw [← hL, List.length_map] at this; exact this
        exact ⟨a, L.length, c, _, ⟨by rw [hrd]; exact he, by rw [hrd]; simp, h5, fun i hi => by rw [hrd]; simp [hi], hst, hb⟩, hroom⟩
    · refine (implPathRead_root s w hs hp hr).mono ?_
      rintro e w' ⟨he, hb⟩
      have hrd : readOf (bytes s) = some [] := read_slash (is_slash hr)
      exact ⟨none, 0, 0, fun _ => ByteArray.empty, ⟨by rw [hrd]; exact he, by rw [hrd]; rfl, by omega, fun i hi => by omega, Or.inl rfl, hb⟩, Nat.le_refl _⟩

theorem fold_nil (m : List UInt8) : ∀ st : List (List UInt8) × List UInt8, (m.foldl cstep st).1 = st.1 → (m.foldl cstep st).2 = st.2 ++ m := by
  induction m with
  | nil => intro st _; simp
  | cons c m ih =>
    intro st h
    rw [List.foldl_cons] at h ⊢
    by_cases hc : c = 47
    · have hp := fold_pre m (cstep st c)
      rw [h] at hp
      have := hp.length_le
      simp [cstep, hc] at this
      omega
    · have e : cstep st c = (st.1, st.2 ++ [c]) := by simp [cstep, hc]
      rw [e] at h ⊢
      have := ih (st.1, st.2 ++ [c]) h
      rw [this]; simp

/-- One piece alone is the whole text. -/
theorem cut_single {l p : List UInt8} (h : cut l = [p]) : p = l := by
  unfold cut at h
  have h1 : (cst l).1 = [] := by
    have := congrArg List.length h
    simp at this
    exact this
  have h2 := fold_nil l ([], []) (by unfold cst at h1; exact h1)
  rw [h1] at h
  simp at h
  rw [← h]
  unfold cst
  rw [h2]; simp

theorem fold_plain (m : List UInt8) (hm : ∀ c ∈ m, c ≠ 47) : ∀ st : List (List UInt8) × List UInt8, m.foldl cstep st = (st.1, st.2 ++ m) := by
  induction m with
  | nil => intro st; simp
  | cons c m ih =>
    intro st
    rw [List.foldl_cons]
    have e : cstep st c = (st.1, st.2 ++ [c]) := by simp [cstep, hm c (by simp)]
    rw [e, ih (fun d hd => hm d (by simp [hd]))]
    simp

theorem name_plain {l : List UInt8} (h : nameOk l = true) : cut l = [l] := by
  have hm : ∀ c ∈ l, c ≠ 47 := fun c hc e => by
    unfold nameOk at h
    rw [Bool.and_eq_true, Bool.and_eq_true] at h
    have := List.all_eq_true.1 h.1.1 c hc
    subst e
    simp [letter] at this
  unfold cut cst
  rw [fold_plain l hm]
  simp

/-- The text of one name. -/
theorem read_name {l : List UInt8} (h : nameOk l = true) : readOf (47 :: l) = some [l] := by
  have hne : l ≠ [] := fun e => by subst e; simp [nameOk] at h
  have hc := name_plain h
  rw [read_some (by simpa using hne) rfl (by rw [List.tail_cons, hc]; simp [okCut, h]), List.tail_cons, hc]

/-- A slash and a text that is no name: what is read is not one name. -/
theorem read_not_name {l : List UInt8} (h : nameOk l = false) : ((readOf (47 :: l)).getD []).length ≠ 1 := by
  intro h1
  unfold readOf at h1
  split at h1
  · simp at h1
  · split at h1
    · split at h1
      · rename_i hok
        rw [List.tail_cons] at h1 hok
        simp at h1
        obtain ⟨p, hp⟩ := List.length_eq_one_iff.1 h1
        have := cut_single hp
        subst this
        rw [hp] at hok
        simp [okCut, h] at hok
      · simp at h1
    · simp at h1
end Go.Proofs.Ytgijhkcnbmcenaa
