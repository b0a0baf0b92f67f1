/-
  What is read from a text is the way whose text it is, and the other way round: plain facts.
-/
import Derived.Test.YtgijhkcnbmcenaaReadBase
import Derived.Test.YtgijhkcnbmcenaaText
namespace Go.Proofs.Ytgijhkcnbmcenaa

def noSlash (P : List (List UInt8)) : Prop := ∀ p ∈ P, ∀ c ∈ p, c ≠ 47

theorem plain_fold (m : List UInt8) (hm : ∀ c ∈ m, c ≠ 47) : ∀ st : List (List UInt8) × List UInt8, m.foldl cstep st = (st.1, st.2 ++ m) := by
  induction m with
  | nil => intro st; simp
  | cons c m ih =>
    intro st
    rw [List.foldl_cons]
    have e : cstep st c = (st.1, st.2 ++ [c]) := by simp [cstep, hm c (by simp)]
    rw [e, ih (fun d hd => hm d (by simp [hd]))]
    simp

/-- For each piece a slash and it. -/
def slashed (P : List (List UInt8)) : List UInt8 := (P.map fun p => (47 : UInt8) :: p).flatten

theorem fold_slashed (Q : List (List UInt8)) (hQ : noSlash Q) : ∀ (D : List (List UInt8)) (cur : List UInt8),
    ((slashed Q).foldl cstep (D, cur)).1 ++ [((slashed Q).foldl cstep (D, cur)).2] = D ++ [cur] ++ Q := by
  induction Q with
  | nil => intro D cur; simp [slashed]
  | cons q Q ih =>
    intro D cur
    have e : slashed (q :: Q) = 47 :: (q ++ slashed Q) := by simp [slashed]
    rw [e, List.foldl_cons, List.foldl_append]
    have e2 : cstep (D, cur) 47 = (D ++ [cur], []) := by simp [cstep]
    rw [e2, plain_fold q (hQ q (by simp))]
    rw [List.nil_append, ih (fun p hp => hQ p (by simp [hp]))]
    simp

/-- Pieces without slashes, joined, are cut again into themselves. -/
theorem cut_joined (p : List UInt8) (Q : List (List UInt8)) (h : noSlash (p :: Q)) : cut (p ++ slashed Q) = p :: Q := by
  unfold cut cst
  rw [List.foldl_append, plain_fold p (h p (by simp)), List.nil_append]
  rw [fold_slashed Q (fun q hq => h q (by simp [hq]))]
  simp

theorem fold_join (m : List UInt8) : ∀ st : List (List UInt8) × List UInt8, slashed (m.foldl cstep st).1 ++ 47 :: (m.foldl cstep st).2 = slashed st.1 ++ 47 :: (st.2 ++ m) := by
  induction m with
  | nil => intro st; simp
  | cons c m ih =>
    intro st
    rw [List.foldl_cons, ih]
    unfold cstep
    split
    · rename_i hc
      subst hc
      simp [slashed]
    · simp

/-- The pieces, each with a slash ahead, are the text. -/
theorem joined_cut (l : List UInt8) : slashed (cut l) = 47 :: l := by
  have h := fold_join l ([], [])
  unfold cut cst
  simp [slashed] at h ⊢
  exact h

theorem name_noslash {p : List UInt8} (h : nameOk p = true) : ∀ c ∈ p, c ≠ 47 := fun c hc e => by
  unfold nameOk at h
  rw [Bool.and_eq_true, Bool.and_eq_true] at h
  have := List.all_eq_true.1 h.1.1 c hc
  subst e
  simp [letter] at this

/-- The names of a list, as bytes. -/
def namesOf (n : Nat) (S : Nat → ByteArray) : List (List UInt8) := (List.range n).map fun i => bytes (S i)

theorem join_slashed (S : Nat → ByteArray) (n : Nat) : joinTo S n = slashed (namesOf n S) := by
  unfold slashed namesOf
  induction n with
  | zero => rfl
  | succ n ih => rw [joinTo_succ, ih, List.range_succ]; simp [bytes]

theorem okCut_names (n : Nat) (S : Nat → ByteArray) : okCut (namesOf n S) = pathOk n S := by
  unfold okCut pathOk namesOf namesOk
  simp [bytes, List.all_map, Function.comp_def]

/-- What is read from a way's text. -/
theorem read_text {n : Nat} {S : Nat → ByteArray} (h : pathOk n S = true) : readOf (textOf n S) = some (namesOf n S) := by
  by_cases hn : n = 0
  · rw [textOf_root h hn, read_slash rfl, hn]; rfl
  · have hns : noSlash (namesOf n S) := by
      intro p hp
      have hall : (namesOf n S).all nameOk = true := by
        have := okCut_names n S
        rw [h] at this
        unfold okCut at this
        rw [Bool.and_eq_true] at this
        exact this.1
      exact name_noslash (List.all_eq_true.1 hall p hp)
    rw [textOf_way h hn, join_slashed]
    cases hN : namesOf n S with
    | nil => have := congrArg List.length hN; simp [namesOf] at this; exact absurd this hn
    | cons p Q =>
      have e : slashed (p :: Q) = 47 :: (p ++ slashed Q) := by simp [slashed]
      have hc : cut (p ++ slashed Q) = p :: Q := cut_joined p Q (by rw [← hN]; exact hns)
      have hok : okCut (p :: Q) = true := by rw [← hN, okCut_names]; exact h
      have hp0 : p ≠ [] := fun e0 => by
        unfold okCut at hok
        simp at hok
        rw [e0] at hok
        simp [nameOk] at hok
      rw [e, read_some (by simp [hp0]) rfl (by rw [List.tail_cons, hc]; exact hok), List.tail_cons, hc]

theorem read_empty : readOf [] = none := by unfold readOf; simp

theorem read_isSome (n : Nat) (S : Nat → ByteArray) : (readOf (textOf n S)).isSome = pathOk n S := by
  cases h : pathOk n S
  · rw [textOf_not h, read_empty]; rfl
  · rw [read_text h]; rfl

/-- A list that has the bytes of what was read from a text is a way, and that is its text. -/
theorem text_read {l : List UInt8} {P : List (List UInt8)} {n : Nat} {S : Nat → ByteArray} (h : readOf l = some P) (hn : n = P.length) (hS : ∀ i, i < n → bytes (S i) = P.getD i []) : textOf n S = l ∧ pathOk n S = true := by
  have hP : namesOf n S = P := by
    apply List.ext_getElem
    · simp [namesOf, hn]
    · intro i h1 h2
      have hi : i < n := by simpa [namesOf] using h1
      simp [namesOf, hS i hi, h2]
  unfold readOf at h
  split at h
  · rename_i hl
    have hp : P = [] := by simpa using h.symm
    subst hp
    have hn0 : n = 0 := by simpa using hn
    have hok : pathOk n S = true := by rw [← okCut_names, hP]; rfl
    exact ⟨by rw [textOf_root hok hn0, hl], hok⟩
  · split at h
    · split at h
      · rename_i hl hh hok
        have hp : P = cut l.tail := by simpa using h.symm
        have hpk : pathOk n S = true := by rw [← okCut_names, hP, hp]; exact hok
        have hn0 : n ≠ 0 := by rw [hn, hp]; unfold cut; simp
        refine ⟨?_, hpk⟩
        rw [textOf_way hpk hn0, join_slashed, hP, hp, joined_cut]
        cases l with
        | nil => simp at hh
        | cons c r => simp at hh; rw [hh]; rfl
      · cases h
    · cases h

theorem text_congr {n : Nat} {S T : Nat → ByteArray} (h : ∀ i, i < n → bytes (S i) = bytes (T i)) : textOf n S = textOf n T ∧ pathOk n S = pathOk n T := by
  have hN : namesOf n S = namesOf n T := by
    unfold namesOf
    apply List.map_congr_left
    intro i hi
    exact h i (by simpa using hi)
  have hp : pathOk n S = pathOk n T := by rw [← okCut_names, ← okCut_names, hN]
  refine ⟨?_, hp⟩
  unfold textOf pathText
  rw [hp, join_slashed, join_slashed, hN]
end Go.Proofs.Ytgijhkcnbmcenaa
