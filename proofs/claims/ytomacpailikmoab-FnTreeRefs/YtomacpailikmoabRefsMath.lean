/-
  What is known of the names of a tree that is ok: how many there are, and to what. Plain facts.
-/
import Derived.Test.YtomacpailikmoabFindMath
import Derived.Test.YtomacpailikmoabSpecTreeRefs
namespace Go.Proofs.Ytomacpailikmoab
open Go.RowKit
set_option linter.unusedVariables false

section
variable {n : Nat} {D : Nat → Nd} {now : Int}

theorem TreeGood.kids (h : TreeGood n D now) {i : Nat} (hi : i < n) {j : Nat} (hj : j < (D i).kn) : 1 ≤ (D i).kids j ∧ (D i).kids j < n ∧ (D ((D i).kids j).toNat).kind ≠ 0 := by
  have hk := h.nodes i hi
  unfold ndOk at hk
  split at hk
  · unfold freeOk at hk; simp at hk; omega
  split at hk
  · unfold fileOk at hk; simp at hk; omega
  split at hk
  · unfold dirOk at hk
    simp only [Bool.and_eq_true] at hk
    obtain ⟨⟨⟨⟨_, _⟩, hk, _⟩, _⟩, _⟩ := hk
    unfold kidsOk at hk
    have := List.all_eq_true.1 hk j (by simpa using hj)
    unfold kidOk at this
    simp at this
    exact ⟨this.1.1, this.1.2, this.2⟩
  · cases hk

theorem TreeGood.kinds (h : TreeGood n D now) {i : Nat} (hi : i < n) : (D i).kind = 0 ∨ (D i).kind = 1 ∨ (D i).kind = 2 := by
  have hk := h.nodes i hi
  unfold ndOk at hk
  split at hk
  · exact Or.inl ‹_›
  split at hk
  · exact Or.inr (Or.inl ‹_›)
  split at hk
  · exact Or.inr (Or.inr ‹_›)
  · cases hk

theorem TreeGood.kn_nn (h : TreeGood n D now) {i : Nat} (hi : i < n) : (D i).kn = (D i).nn := by
  have hk := h.nodes i hi
  unfold ndOk at hk
  split at hk
  · unfold freeOk at hk; simp at hk; omega
  split at hk
  · unfold fileOk at hk; simp at hk; omega
  split at hk
  · unfold dirOk at hk
    simp at hk
    exact hk.1.1.2.2
  · cases hk

theorem cnt_zero {Z : Nat → Int} {z : Int} : ∀ k, (∀ j, j < k → Z j ≠ z) → cnt Z z k = 0
  | 0, _ => rfl
  | k + 1, h => by
    rw [show cnt Z z (k + 1) = cnt Z z k + (if Z k = z then 1 else 0) from rfl, cnt_zero k (fun j hj => h j (by omega)), if_neg (h k (by omega))]

theorem cnt_pos {Z : Nat → Int} {z : Int} {j : Nat} (h : Z j = z) : ∀ k, j < k → 1 ≤ cnt Z z k
  | 0, hk => by omega
  | k + 1, hk => by
    rw [show cnt Z z (k + 1) = cnt Z z k + (if Z k = z then 1 else 0) from rfl]
    by_cases e : j = k
    · subst e; rw [if_pos h]; omega
    · have := cnt_pos h k (by omega); omega

theorem refsTo_zero {z : Int} : ∀ m, (∀ i, i < m → ∀ j, j < (D i).kn → (D i).kids j ≠ z) → refsTo D z m = 0
  | 0, _ => rfl
  | m + 1, h => by
    rw [show refsTo D z (m + 1) = refsTo D z m + cnt (D m).kids z (D m).kn from rfl, refsTo_zero m (fun i hi => h i (by omega)), cnt_zero _ (h m (by omega))]

theorem refsTo_pos {z : Int} {i j : Nat} (hj : j < (D i).kn) (h : (D i).kids j = z) : ∀ m, i < m → 1 ≤ refsTo D z m
  | 0, hm => by omega
  | m + 1, hm => by
    rw [show refsTo D z (m + 1) = refsTo D z m + cnt (D m).kids z (D m).kn from rfl]
    by_cases e : i = m
    · subst e; have := cnt_pos h _ hj; omega
    · have := refsTo_pos hj h m (by omega); omega

theorem TreeGood.refs_root (h : TreeGood n D now) : refsTo D 0 n = 0 := refsTo_zero n fun i hi j hj e => by have := (h.kids hi hj).1; omega

theorem TreeGood.refs_free (h : TreeGood n D now) {z : Nat} (hz : (D z).kind = 0) : refsTo D z n = 0 := refsTo_zero n fun i hi j hj e => by
  have := (h.kids hi hj).2.2
  rw [e] at this
  exact this (by simpa using hz)

theorem TreeGood.refs_file (h : TreeGood n D now) {z : Nat} (hz : z < n) (hk : (D z).kind ≠ 0) (h1 : 1 ≤ z) : 1 ≤ refsTo D z n := by
  have hr := (h.reach z h1 hz).2 hk
  cases hr with
  | root => omega
  | step hi' hin hj =>
    rename_i i j
    have hk := h.kids hin hj
    exact refsTo_pos hj (by omega) n hin

/-- The sum over the first k places of how many names they have. -/
def refSum (D : Nat → Nd) (m : Nat) : Nat → Nat | 0 => 0 | k + 1 => refSum D m k + refsTo D (k : Nat) m
def cntSum (Z : Nat → Int) (m : Nat) : Nat → Nat | 0 => 0 | k + 1 => cntSum Z m k + cnt Z (k : Nat) m
/-- The sum over the first k places of how many names are in them. -/
def nameSum (D : Nat → Nd) : Nat → Nat | 0 => 0 | k + 1 => nameSum D k + (D k).nn

theorem cntSum_succ {Z : Nat → Int} {m : Nat} : ∀ k, cntSum Z (m + 1) k = cntSum Z m k + (if 0 ≤ Z m ∧ Z m < k then 1 else 0)
  | 0 => by
    have : ¬ (0 ≤ Z m ∧ Z m < (0 : Nat)) := by omega
    rw [if_neg this]; rfl
  | k + 1 => by
    rw [show cntSum Z (m + 1) (k + 1) = cntSum Z (m + 1) k + cnt Z (k : Nat) (m + 1) from rfl, cntSum_succ k, show cntSum Z m (k + 1) = cntSum Z m k + cnt Z (k : Nat) m from rfl, show cnt Z (k : Nat) (m + 1) = cnt Z (k : Nat) m + (if Z m = (k : Nat) then 1 else 0) from rfl]
    split <;> split <;> split <;> omega

theorem cntSum_all {Z : Nat → Int} {k : Nat} : ∀ m, (∀ j, j < m → 0 ≤ Z j ∧ Z j < k) → cntSum Z m k = m
  | 0, _ => by
    induction k with
    | zero => rfl
    | succ k ih => rw [show cntSum Z 0 (k + 1) = cntSum Z 0 k + cnt Z (k : Nat) 0 from rfl, ih (fun j hj => absurd hj (Nat.not_lt_zero _))]; rfl
  | m + 1, h => by rw [cntSum_succ, cntSum_all m (fun j hj => h j (by omega)), if_pos (h m (by omega))]

theorem refSum_succ {m : Nat} : ∀ k, refSum D (m + 1) k = refSum D m k + cntSum (D m).kids (D m).kn k
  | 0 => rfl
  | k + 1 => by
    rw [show refSum D (m + 1) (k + 1) = refSum D (m + 1) k + refsTo D (k : Nat) (m + 1) from rfl, refSum_succ k, show refSum D m (k + 1) = refSum D m k + refsTo D (k : Nat) m from rfl, show refsTo D (k : Nat) (m + 1) = refsTo D (k : Nat) m + cnt (D m).kids (k : Nat) (D m).kn from rfl, show cntSum (D m).kids (D m).kn (k + 1) = cntSum (D m).kids (D m).kn k + cnt (D m).kids (k : Nat) (D m).kn from rfl]
    omega

theorem refSum_zero : ∀ k, refSum D 0 k = 0
  | 0 => rfl
  | k + 1 => by rw [show refSum D 0 (k + 1) = refSum D 0 k + refsTo D (k : Nat) 0 from rfl, refSum_zero k]; rfl

theorem TreeGood.sums (h : TreeGood n D now) : ∀ m, m ≤ n → refSum D m n = nameSum D m
  | 0, _ => refSum_zero n
  | m + 1, hm => by
    rw [refSum_succ, h.sums m (by omega), cntSum_all _ (fun j hj => by have := h.kids (show m < n by omega) hj; omega), h.kn_nn (show m < n by omega)]
    rfl

theorem nameSum_le (D : Nat → Nd) : ∀ k, nameSum D k ≤ sizeTo D k
  | 0 => Nat.le_refl _
  | k + 1 => by
    have := nameSum_le D k
    rw [show nameSum D (k + 1) = nameSum D k + (D k).nn from rfl, sizeTo_succ]
    unfold Nd.size
    omega

theorem refSum_le (D : Nat → Nd) (m : Nat) : ∀ k, refSum D m k ≤ k * sizeTo D m
  | 0 => by simp [refSum]
  | k + 1 => by
    have h1 := refSum_le D m k
    have h2 := refsTo_le D (k : Nat) m
    rw [show refSum D m (k + 1) = refSum D m k + refsTo D (k : Nat) m from rfl, Nat.add_mul]
    omega
end
end Go.Proofs.Ytomacpailikmoab
