/-
  Which places are reached from the root, by a stack: plain facts. A place is put on the stack when it is marked; what is marked and no longer on the stack leads to what is marked.
-/
import Derived.Test.YtkbccbooiaebfaaMarksMath
namespace Go.Proofs.Ytkbccbooiaebfaa
set_option linter.unusedVariables false

/-- Between two rounds. -/
structure Stk (n : Nat) (D : Nat → Nd) (m : Nat → Bool) (L : List Nat) : Prop where
  sound : Sound n D m
  root : m 0 = true
  on : ∀ i, i ∈ L → i < n ∧ m i = true
  done : ∀ i, i < n → m i = true → i ∉ L → ∀ j, j < (D i).kn → m ((D i).kids j).toNat = true
  few : L.length ≤ cntB m n

/-- Within a round, whose place is x: the first k of its places are through. -/
structure StkIn (n : Nat) (D : Nat → Nd) (x k : Nat) (m : Nat → Bool) (L : List Nat) : Prop where
  sound : Sound n D m
  root : m 0 = true
  cur : x < n ∧ m x = true
  on : ∀ i, i ∈ L → i < n ∧ m i = true
  done : ∀ i, i < n → m i = true → i ∉ L → i ≠ x → ∀ j, j < (D i).kn → m ((D i).kids j).toNat = true
  kids : ∀ j, j < k → m ((D x).kids j).toNat = true
  few : L.length + 1 ≤ cntB m n

theorem Stk.start {n : Nat} {D : Nat → Nd} (hn : 1 ≤ n) : Stk n D (fun j => decide (j = 0)) [0] :=
  ⟨fun i hi => by simp at hi; subst hi; exact .root, by simp, fun i hi => by simp at hi; subst hi; exact ⟨hn, by simp⟩, fun i _ hm hi => by simp at hm hi; exact absurd hm hi, by
    have := cntB_one (m := fun j => decide (j = 0)) (by simp) n hn
    simpa using this⟩

theorem Stk.pop {n : Nat} {D : Nat → Nd} {m : Nat → Bool} {L : List Nat} {x : Nat} (h : Stk n D m (L ++ [x])) : StkIn n D x 0 m L :=
  ⟨h.sound, h.root, h.on x (by simp), fun i hi => h.on i (by simp [hi]), fun i hi hm hL hx => h.done i hi hm (by simp [hL, hx]), fun j hj => by omega, by have := h.few; simpa using this⟩

theorem StkIn.push {n : Nat} {D : Nat → Nd} {x k : Nat} {m : Nat → Bool} {L : List Nat} (h : StkIn n D x k m L) (hk : k < (D x).kn) {z : Nat} (hz : ((D x).kids k).toNat = z) (hzn : z < n) (hm : m z = false) :
    StkIn n D x (k + 1) (fun j => if j = z then true else m j) (L ++ [z]) := by
  have up : ∀ j, m j = true → (if j = z then true else m j) = true := fun j hj => by by_cases e : j = z <;> simp [e, hj]
  refine ⟨fun i hi => ?_, up 0 h.root, ⟨h.cur.1, up x h.cur.2⟩, fun i hi => ?_, fun i hi hmi hL hx j hj => ?_, fun j hj => ?_, ?_⟩
  · by_cases e : i = z
    · subst e; rw [← hz]; exact .step (h.sound x h.cur.2) h.cur.1 hk
    · simp only [if_neg e] at hi; exact h.sound i hi
  · rcases List.mem_append.1 hi with hi | hi
    · exact ⟨(h.on i hi).1, up i (h.on i hi).2⟩
    · simp at hi; subst hi; exact ⟨hzn, by simp⟩
  · have hne : i ≠ z := fun e => hL (by simp [e])
    simp only [if_neg hne] at hmi
    exact up _ (h.done i hi hmi (fun hi' => hL (by simp [hi'])) hx j hj)
  · by_cases e : j = k
    · subst e; simp [hz]
    · exact up _ (h.kids j (by omega))
  · have := cntB_lt up (i := z) (by simp [hm]) (by simp) n hzn
    have h2 := h.few
    simp only [List.length_append, List.length_singleton]
    omega

theorem StkIn.pass {n : Nat} {D : Nat → Nd} {x k : Nat} {m : Nat → Bool} {L : List Nat} (h : StkIn n D x k m L) (hm : m ((D x).kids k).toNat = true) : StkIn n D x (k + 1) m L :=
  ⟨h.sound, h.root, h.cur, h.on, h.done, fun j hj => by
    by_cases e : j = k
    · subst e; exact hm
    · exact h.kids j (by omega), h.few⟩

theorem StkIn.out {n : Nat} {D : Nat → Nd} {x : Nat} {m : Nat → Bool} {L : List Nat} (h : StkIn n D x (D x).kn m L) : Stk n D m L :=
  ⟨h.sound, h.root, h.on, fun i hi hm hL => by
    by_cases e : i = x
    · subst e; exact h.kids
    · exact h.done i hi hm hL e, by have := h.few; omega⟩

theorem Stk.fin {n : Nat} {D : Nat → Nd} {m : Nat → Bool} (h : Stk n D m []) (i : Nat) : m i = true ↔ Reach n D i := by
  refine ⟨h.sound i, fun hr => ?_⟩
  induction hr with
  | root => exact h.root
  | step hr hi hj ih => exact h.done _ hi ih (by simp) _ hj
end Go.Proofs.Ytkbccbooiaebfaa
