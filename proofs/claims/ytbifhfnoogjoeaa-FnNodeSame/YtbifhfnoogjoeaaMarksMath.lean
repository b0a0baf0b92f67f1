/-
  Which places are reached from the root: plain facts. Marks that grow round by round come to just these within as many rounds as there are places.
-/
import Derived.Test.YtbifhfnoogjoeaaNodesBase
namespace Go.Proofs.Ytbifhfnoogjoeaa
set_option linter.unusedVariables false

/-- A place that is reached from the root. -/
inductive Reach (n : Nat) (D : Nat → Nd) : Nat → Prop
  | root : Reach n D 0
  | step {i j : Nat} : Reach n D i → i < n → j < (D i).kn → Reach n D ((D i).kids j).toNat

/-- So many of the first k are marked. -/
def cntB (m : Nat → Bool) : Nat → Nat | 0 => 0 | k + 1 => cntB m k + (if m k = true then 1 else 0)

theorem cntB_le (m : Nat → Bool) (k : Nat) : cntB m k ≤ k := by
  induction k with
  | zero => exact Nat.le_refl _
  | succ k ih => unfold cntB; split <;> omega

theorem cntB_mono {m m' : Nat → Bool} (h : ∀ j, m j = true → m' j = true) (k : Nat) : cntB m k ≤ cntB m' k := by
  induction k with
  | zero => exact Nat.le_refl _
  | succ k ih =>
    unfold cntB
    by_cases hk : m k = true
    · rw [if_pos hk, if_pos (h k hk)]; omega
    · rw [if_neg hk]; omega

theorem cntB_lt {m m' : Nat → Bool} (h : ∀ j, m j = true → m' j = true) {i : Nat} (h1 : ¬ m i = true) (h2 : m' i = true) (k : Nat) (hi : i < k) : cntB m k + 1 ≤ cntB m' k := by
  induction k with
  | zero => omega
  | succ k ih =>
    unfold cntB
    by_cases e : i = k
    · subst e
      rw [if_neg h1, if_pos h2]
      have := cntB_mono h i
      omega
    · have := ih (by omega)
      by_cases hk : m k = true
      · rw [if_pos hk, if_pos (h k hk)]; omega
      · rw [if_neg hk]; omega

theorem cntB_one {m : Nat → Bool} (h : m 0 = true) (k : Nat) (hk : 1 ≤ k) : 1 ≤ cntB m k := by
  induction k with
  | zero => omega
  | succ k ih =>
    unfold cntB
    by_cases e : k = 0
    · subst e
      rw [if_pos h]; omega
    · have := ih (by omega)
      omega

/-- What is marked leads to what is marked. -/
def Closed (n : Nat) (D : Nat → Nd) (m : Nat → Bool) : Prop := ∀ i, i < n → m i = true → ∀ j, j < (D i).kn → m ((D i).kids j).toNat = true
/-- What is marked is reached. -/
def Sound (n : Nat) (D : Nat → Nd) (m : Nat → Bool) : Prop := ∀ i, m i = true → Reach n D i

/-- Behind r rounds. -/
structure Rounds (n : Nat) (D : Nat → Nd) (r : Nat) (m : Nat → Bool) : Prop where
  sound : Sound n D m
  root : m 0 = true
  more : Closed n D m ∨ r + 1 ≤ cntB m n

/-- Within a round that began with m0: the first i directories are through. -/
structure Pass (n : Nat) (D : Nat → Nd) (m0 : Nat → Bool) (i : Nat) (m : Nat → Bool) : Prop where
  sound : Sound n D m
  sub : ∀ j, m0 j = true → m j = true
  shut : Closed n D m0 → ∀ j, m j = true → m0 j = true
  kids : ∀ i', i' < i → m0 i' = true → ∀ j, j < (D i').kn → m ((D i').kids j).toNat = true

theorem Rounds.start {n : Nat} {D : Nat → Nd} (hn : 1 ≤ n) : Rounds n D 0 (fun j => decide (j = 0)) :=
  ⟨fun i hi => by simp at hi; subst hi; exact .root, by simp, Or.inr (cntB_one (by simp) n hn)⟩

theorem Rounds.pass {n : Nat} {D : Nat → Nd} {r : Nat} {m : Nat → Bool} (h : Rounds n D r m) : Pass n D m 0 m := ⟨h.sound, fun _ h => h, fun _ _ h => h, fun i' hi => by omega⟩

/-- One mark more. -/
theorem Pass.put {n : Nat} {D : Nat → Nd} {m0 : Nat → Bool} {i : Nat} {m : Nat → Bool} (h : Pass n D m0 i m) (hi : i < n) (hm : m i = true) {j : Nat} (hj : j < (D i).kn) :
    Pass n D m0 i (fun x => if x = ((D i).kids j).toNat then true else m x) := by
  refine ⟨fun x hx => ?_, fun x hx => ?_, fun hc x hx => ?_, fun i' hi' hm' j' hj' => ?_⟩
  · by_cases e : x = ((D i).kids j).toNat
    · subst e; exact .step (h.sound i hm) hi hj
    · simp only [if_neg e] at hx; exact h.sound x hx
  · by_cases e : x = ((D i).kids j).toNat
    · simp [e]
    · simp only [if_neg e]; exact h.sub x hx
  · by_cases e : x = ((D i).kids j).toNat
    · subst e; exact hc i hi (h.shut hc i hm) j hj
    · simp only [if_neg e] at hx; exact h.shut hc x hx
  · have := h.kids i' hi' hm' j' hj'
    by_cases e : ((D i').kids j').toNat = ((D i).kids j).toNat
    · simp [e]
    · simp only [if_neg e]; exact this

theorem Pass.next {n : Nat} {D : Nat → Nd} {m0 : Nat → Bool} {i : Nat} {m : Nat → Bool} (h : Pass n D m0 i m) (hk : m0 i = true → ∀ j, j < (D i).kn → m ((D i).kids j).toNat = true) : Pass n D m0 (i + 1) m :=
  ⟨h.sound, h.sub, h.shut, fun i' hi' hm => by
    by_cases e : i' = i
    · subst e; exact hk hm
    · exact h.kids i' (by omega) hm⟩

theorem Pass.done {n : Nat} {D : Nat → Nd} {m0 : Nat → Bool} {m : Nat → Bool} {r : Nat} (h0 : Rounds n D r m0) (h : Pass n D m0 n m) (hk : ∀ i, i < n → ∀ j, j < (D i).kn → 0 ≤ (D i).kids j ∧ (D i).kids j < n) : Rounds n D (r + 1) m := by
  refine ⟨h.sound, h.sub 0 h0.root, ?_⟩
  by_cases hc : Closed n D m0
  · left
    intro i hi hm j hj
    exact h.sub _ (hc i hi (h.shut hc i hm) j hj)
  · right
    have hr : r + 1 ≤ cntB m0 n := h0.more.resolve_left hc
    unfold Closed at hc
    simp only [Classical.not_forall] at hc
    obtain ⟨i, hi, hm, j, hj, hx⟩ := hc
    have hb := hk i hi j hj
    have := cntB_lt h.sub hx (h.kids i hi hm j hj) n (by omega)
    omega

/-- The marks at the end are just the places that are reached. -/
theorem Rounds.fin {n : Nat} {D : Nat → Nd} {m : Nat → Bool} (h : Rounds n D n m) (hk : ∀ i, i < n → ∀ j, j < (D i).kn → 0 ≤ (D i).kids j ∧ (D i).kids j < n) (i : Nat) : m i = true ↔ Reach n D i := by
  have hc : Closed n D m := by
    rcases h.more with hc | hc
    · exact hc
    · have := cntB_le m n; omega
  refine ⟨h.sound i, fun hr => ?_⟩
  induction hr with
  | root => exact h.root
  | step hr hi hj ih => exact hc _ hi ih _ hj
end Go.Proofs.Ytbifhfnoogjoeaa
