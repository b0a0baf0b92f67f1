/-
  Texts that the proof needs, laid one behind the other.
-/
import Derived.Test.YtoblndhmkehoaaaFnDumpB2
import Derived.BigRegion
import Derived.Deep.RegionHeld3
import Derived.Deep.AppendLies
import Derived.Laws.Cover1
import Derived.Deep.RegionLaw
import Derived.Deep.RegionWith
import Derived.Test.YtoblndhmkehoaaaRows
import Derived.ProofKit
import Derived.OpenShut
import Derived.ShutString
import Derived.ChangeOld

/-
  Where a way leads in a tree: plain facts. Names of a directory are told apart, so a way leads to one place at most.
-/
namespace Go.Proofs.Ytoblndhmkehoaaa
set_option linter.unusedVariables false

theorem less_trans : ∀ a b c : List UInt8, Op.bytesLess a b = true → Op.bytesLess b c = true → Op.bytesLess a c = true
  | _, [], _, h, _ => by simp [Op.bytesLess] at h
  | _, _ :: _, [], _, h => by simp [Op.bytesLess] at h
  | [], _ :: _, _ :: _, _, _ => by simp [Op.bytesLess]
  | a :: x, b :: y, c :: z, h1, h2 => by
    have ih := less_trans x y z
    simp only [Op.bytesLess, Bool.or_eq_true, Bool.and_eq_true, decide_eq_true_eq, beq_iff_eq] at *
    rcases h1 with h1 | ⟨rfl, h1⟩
    · rcases h2 with h2 | ⟨rfl, h2⟩
      · exact Or.inl (UInt8.lt_iff_toNat_lt.2 (Nat.lt_trans (UInt8.lt_iff_toNat_lt.1 h1) (UInt8.lt_iff_toNat_lt.1 h2)))
      · exact Or.inl h1
    · rcases h2 with h2 | ⟨rfl, h2⟩
      · exact Or.inl h2
      · exact Or.inr ⟨rfl, ih h1 h2⟩

theorem less_irrefl : ∀ a : List UInt8, Op.bytesLess a a = false
  | [] => rfl
  | a :: x => by
    have ih := less_irrefl x
    have : ¬ a < a := fun hh => by have := UInt8.lt_iff_toNat_lt.1 hh; omega
    simp [Op.bytesLess, ih, this]

theorem less_tot : ∀ a b : List UInt8, (!Op.bytesLess a b) = (Op.bytesLess b a || b == a)
  | [], [] => rfl
  | [], b :: y => by simp [Op.bytesLess]
  | a :: x, [] => by simp [Op.bytesLess]
  | a :: x, b :: y => by
    have ih := less_tot x y
    simp only [Op.bytesLess]
    have e1 : (b :: y == a :: x) = (b == a && y == x) := by simp [List.cons_beq_cons]
    rw [e1]
    rcases Nat.lt_trichotomy a.toNat b.toNat with h | h | h
    · have h1 : a < b := UInt8.lt_iff_toNat_lt.2 h
      have h2 : ¬ b < a := fun hh => by have := UInt8.lt_iff_toNat_lt.1 hh; omega
      have h3 : (b == a) = false := by simp; intro hh; subst hh; omega
      rw [decide_eq_true h1, decide_eq_false h2, h3]; rfl
    · have h1 : a = b := UInt8.toNat_inj.1 h
      subst h1
      have h2 : ¬ a < a := fun hh => by have := UInt8.lt_iff_toNat_lt.1 hh; omega
      rw [decide_eq_false h2]
      simpa using ih
    · have h1 : b < a := UInt8.lt_iff_toNat_lt.2 h
      have h2 : ¬ a < b := fun hh => by have := UInt8.lt_iff_toNat_lt.1 hh; omega
      have h3 : (a == b) = false := by simp; intro hh; subst hh; omega
      rw [decide_eq_true h1, decide_eq_false h2, h3]; rfl

/-- Names in order ascend. -/
theorem names_up {S : Nat → ByteArray} {n : Nat} (h : dirNames S n = true) {i j : Nat} (hij : i < j) (hj : j < n) : Op.bytesLess (S i).toList (S j).toList = true := by
  induction j with
  | zero => omega
  | succ j ih =>
    have h1 := List.all_eq_true.1 h (j + 1) (by simpa using hj)
    simp only [Bool.and_eq_true, Bool.or_eq_true] at h1
    have h2 : lessEq (S (j + 1)) (S j) = false := by
      rcases h1.2 with h2 | h2
      · simp at h2
      · simpa using h2
    have h3 : Op.bytesLess (S j).toList (S (j + 1)).toList = true := by
      have := less_tot (S j).toList (S (j + 1)).toList
      rw [show (Op.bytesLess (S (j + 1)).toList (S j).toList || (S (j + 1)).toList == (S j).toList) = lessEq (S (j + 1)) (S j) from rfl, h2] at this
      simpa using this
    by_cases e : i = j
    · subst e; exact h3
    · exact less_trans _ _ _ (ih (by omega) (by omega)) h3

theorem names_inj {S : Nat → ByteArray} {n : Nat} (h : dirNames S n = true) {i j : Nat} (hi : i < n) (hj : j < n) (e : (S i).toList = (S j).toList) : i = j := by
  rcases Nat.lt_trichotomy i j with hl | hl | hl
  · have := names_up h hl hj
    rw [e, less_irrefl] at this; cases this
  · exact hl
  · have := names_up h hl hi
    rw [e, less_irrefl] at this; cases this

/-- A place that has names is a directory. -/
theorem dir_of_names {n : Nat} {D : Nat → Nd} {now : Int} {d : Nd} (h : ndOk n D now d = true) (hn : 0 < d.nn) : d.kind = 2 ∧ dirNames d.names d.nn = true ∧ d.kn = d.nn := by
  unfold ndOk at h
  split at h
  · unfold freeOk at h; simp at h; omega
  · split at h
    · unfold fileOk at h; simp at h; omega
    · split at h
      · rename_i hk
        unfold dirOk at h
        simp only [Bool.and_eq_true, decide_eq_true_eq] at h
        exact ⟨hk, h.1.1.1.2, h.1.1.2.2⟩
      · cases h

/-- Behind k names of a way one stands at place x. -/
inductive Leads (D : Nat → Nd) (S : Nat → ByteArray) : Nat → Nat → Prop
  | root : Leads D S 0 0
  | step {k x i : Nat} : Leads D S k x → i < (D x).nn → ((D x).names i).toList = (S k).toList → Leads D S (k + 1) ((D x).kids i).toNat

theorem Leads.lt {n : Nat} {D : Nat → Nd} {now : Int} {S : Nat → ByteArray} (h : TreeGood n D now) {k x : Nat} (hl : Leads D S k x) : x < n := by
  induction hl with
  | root => exact h.some
  | step hl hi he ih =>
    rename_i k x i
    have := (dir_of_names (h.nodes x ih) (by omega)).2.2
    have hk := kids_in h.nodes x ih i (by omega)
    omega

theorem Leads.one {n : Nat} {D : Nat → Nd} {now : Int} {S : Nat → ByteArray} (h : TreeGood n D now) {k x : Nat} (hx : Leads D S k x) : ∀ {y : Nat}, Leads D S k y → x = y := by
  induction hx with
  | root => intro y hy; cases hy; rfl
  | step hl hi he ih =>
    intro y hy
    cases hy with
    | step hl' hi' he' =>
      have e := ih hl'
      subst e
      have := names_inj (dir_of_names (h.nodes _ (hl.lt h)) (by omega)).2.1 hi hi' (he.trans he'.symm)
      subst this
      rfl

/-- Where a name fails, the way leads nowhere. -/
theorem Leads.stuck {n : Nat} {D : Nat → Nd} {now : Int} {S : Nat → ByteArray} (h : TreeGood n D now) {k x : Nat} (hx : Leads D S k x) (hno : ∀ i, i < (D x).nn → ¬ ((D x).names i).toList = (S k).toList) {m : Nat} (hm : k < m) : ¬ ∃ y, Leads D S m y := by
  induction m with
  | zero => omega
  | succ m ih =>
    rintro ⟨y, hy⟩
    cases hy with
    | step hl hi he =>
      by_cases e : k = m
      · subst e
        have := hx.one h hl
        subst this
        exact hno _ hi he
      · exact ih (by omega) ⟨_, hl⟩

/-- The place at the end of a way; -1, if there is none. -/
structure FindAre (n : Nat) (D : Nat → Nd) (now : Int) (m : Nat) (S : Nat → ByteArray) (r : Int) : Prop where
  yes : TreeGood n D now → pathOk m S = true → ∀ x, Leads D S m x → r = (x : Int)
  no : ¬ (TreeGood n D now ∧ pathOk m S = true ∧ ∃ x, Leads D S m x) → r = -1

theorem FindAre.one {n : Nat} {D : Nat → Nd} {now : Int} {m : Nat} {S : Nat → ByteArray} {r r' : Int} (h : FindAre n D now m S r) (h' : FindAre n D now m S r') : r = r' := by
  by_cases g : TreeGood n D now ∧ pathOk m S = true ∧ ∃ x, Leads D S m x
  · obtain ⟨g1, g2, x, g3⟩ := g
    rw [h.yes g1 g2 x g3, h'.yes g1 g2 x g3]
  · rw [h.no g, h'.no g]

theorem findAre_end {n : Nat} {D : Nat → Nd} {now : Int} {m : Nat} {S : Nat → ByteArray} {x : Nat} (h : TreeGood n D now) (hp : pathOk m S = true) (hx : Leads D S m x) : FindAre n D now m S x :=
  ⟨fun _ _ y hy => by rw [hx.one h hy], fun g => absurd ⟨h, hp, x, hx⟩ g⟩

theorem findAre_no {n : Nat} {D : Nat → Nd} {now : Int} {m : Nat} {S : Nat → ByteArray} (hx : ¬ (TreeGood n D now ∧ pathOk m S = true ∧ ∃ x, Leads D S m x)) : FindAre n D now m S (-1) :=
  ⟨fun h1 h2 y hy => absurd ⟨h1, h2, y, hy⟩ hx, fun _ => rfl⟩
end Go.Proofs.Ytoblndhmkehoaaa

/-
  What TreeRefs of the specification answers.
-/
namespace Go.Proofs.Ytoblndhmkehoaaa
open Go.RowKit
set_option linter.unusedVariables false

/-- How many names a place of a tree has; 0, if it is none. -/
structure RefsAre (n : Nat) (D : Nat → Nd) (now ino r : Int) : Prop where
  yes : TreeGood n D now → 0 ≤ ino → ino < n → r = refsTo D ino n
  no : ¬ (TreeGood n D now ∧ 0 ≤ ino ∧ ino < n) → r = 0

theorem RefsAre.one {n : Nat} {D : Nat → Nd} {now ino r r' : Int} (h : RefsAre n D now ino r) (h' : RefsAre n D now ino r') : r = r' := by
  by_cases g : TreeGood n D now ∧ 0 ≤ ino ∧ ino < n
  · rw [h.yes g.1 g.2.1 g.2.2, h'.yes g.1 g.2.1 g.2.2]
  · rw [h.no g, h'.no g]
end Go.Proofs.Ytoblndhmkehoaaa

/-
  What is known of the names of a tree that is ok: how many there are, and to what. Plain facts.
-/
namespace Go.Proofs.Ytoblndhmkehoaaa
open Go.RowKit
set_option linter.unusedVariables false

section
variable {n : Nat} {D : Nat → Nd} {now : Int}

theorem TreeGood.kids (h : TreeGood n D now) {i : Nat} (hi : i < n) {j : Nat} (hj : j < (D i).kn) : 1 ≤ (D i).kids j ∧ (D i).kids j < n ∧ (D ((D i).kids j).toNat).kind ≠ 0 := by
  have hk := h.nodes i hi
  unfold ndOk at hk
  split at hk
  · unfold freeOk at hk; simp at hk; omega
  split at hk
  · unfold fileOk at hk; simp at hk; omega
  split at hk
  · unfold dirOk at hk
    simp only [Bool.and_eq_true] at hk
    obtain ⟨⟨⟨⟨_, _⟩, hk, _⟩, _⟩, _⟩ := hk
    unfold kidsOk at hk
    have := List.all_eq_true.1 hk j (by simpa using hj)
    unfold kidOk at this
    simp at this
    exact ⟨this.1.1, this.1.2, this.2⟩
  · cases hk

theorem TreeGood.kinds (h : TreeGood n D now) {i : Nat} (hi : i < n) : (D i).kind = 0 ∨ (D i).kind = 1 ∨ (D i).kind = 2 := by
  have hk := h.nodes i hi
  unfold ndOk at hk
  split at hk
  · exact Or.inl ‹_›
  split at hk
  · exact Or.inr (Or.inl ‹_›)
  split at hk
  · exact Or.inr (Or.inr ‹_›)
  · cases hk

theorem TreeGood.kn_nn (h : TreeGood n D now) {i : Nat} (hi : i < n) : (D i).kn = (D i).nn := by
  have hk := h.nodes i hi
  unfold ndOk at hk
  split at hk
  · unfold freeOk at hk; simp at hk; omega
  split at hk
  · unfold fileOk at hk; simp at hk; omega
  split at hk
  · unfold dirOk at hk
    simp at hk
    exact hk.1.1.2.2
  · cases hk

theorem cnt_zero {Z : Nat → Int} {z : Int} : ∀ k, (∀ j, j < k → Z j ≠ z) → cnt Z z k = 0
  | 0, _ => rfl
  | k + 1, h => by
    rw [show cnt Z z (k + 1) = cnt Z z k + (if Z k = z then 1 else 0) from rfl, cnt_zero k (fun j hj => h j (by omega)), if_neg (h k (by omega))]

theorem cnt_pos {Z : Nat → Int} {z : Int} {j : Nat} (h : Z j = z) : ∀ k, j < k → 1 ≤ cnt Z z k
  | 0, hk => by omega
  | k + 1, hk => by
    rw [show cnt Z z (k + 1) = cnt Z z k + (if Z k = z then 1 else 0) from rfl]
    by_cases e : j = k
    · subst e; rw [if_pos h]; omega
    · have := cnt_pos h k (by omega); omega

theorem refsTo_zero {z : Int} : ∀ m, (∀ i, i < m → ∀ j, j < (D i).kn → (D i).kids j ≠ z) → refsTo D z m = 0
  | 0, _ => rfl
  | m + 1, h => by
    rw [show refsTo D z (m + 1) = refsTo D z m + cnt (D m).kids z (D m).kn from rfl, refsTo_zero m (fun i hi => h i (by omega)), cnt_zero _ (h m (by omega))]

theorem refsTo_pos {z : Int} {i j : Nat} (hj : j < (D i).kn) (h : (D i).kids j = z) : ∀ m, i < m → 1 ≤ refsTo D z m
  | 0, hm => by omega
  | m + 1, hm => by
    rw [show refsTo D z (m + 1) = refsTo D z m + cnt (D m).kids z (D m).kn from rfl]
    by_cases e : i = m
    · subst e; have := cnt_pos h _ hj; omega
    · have := refsTo_pos hj h m (by omega); omega

theorem TreeGood.refs_root (h : TreeGood n D now) : refsTo D 0 n = 0 := refsTo_zero n fun i hi j hj e => by have := (h.kids hi hj).1; omega

theorem TreeGood.refs_free (h : TreeGood n D now) {z : Nat} (hz : (D z).kind = 0) : refsTo D z n = 0 := refsTo_zero n fun i hi j hj e => by
  have := (h.kids hi hj).2.2
  rw [e] at this
  exact this (by simpa using hz)

theorem TreeGood.refs_file (h : TreeGood n D now) {z : Nat} (hz : z < n) (hk : (D z).kind ≠ 0) (h1 : 1 ≤ z) : 1 ≤ refsTo D z n := by
  have hr := (h.reach z h1 hz).2 hk
  cases hr with
  | root => omega
  | step hi' hin hj =>
    rename_i i j
    have hk := h.kids hin hj
    exact refsTo_pos hj (by omega) n hin

/-- The sum over the first k places of how many names they have. -/
def refSum (D : Nat → Nd) (m : Nat) : Nat → Nat | 0 => 0 | k + 1 => refSum D m k + refsTo D (k : Nat) m
def cntSum (Z : Nat → Int) (m : Nat) : Nat → Nat | 0 => 0 | k + 1 => cntSum Z m k + cnt Z (k : Nat) m
/-- The sum over the first k places of how many names are in them. -/
def nameSum (D : Nat → Nd) : Nat → Nat | 0 => 0 | k + 1 => nameSum D k + (D k).nn

theorem cntSum_succ {Z : Nat → Int} {m : Nat} : ∀ k, cntSum Z (m + 1) k = cntSum Z m k + (if 0 ≤ Z m ∧ Z m < k then 1 else 0)
  | 0 => by
    have : ¬ (0 ≤ Z m ∧ Z m < (0 : Nat)) := by omega
    rw [if_neg this]; rfl
  | k + 1 => by
    rw [show cntSum Z (m + 1) (k + 1) = cntSum Z (m + 1) k + cnt Z (k : Nat) (m + 1) from rfl, cntSum_succ k, show cntSum Z m (k + 1) = cntSum Z m k + cnt Z (k : Nat) m from rfl, show cnt Z (k : Nat) (m + 1) = cnt Z (k : Nat) m + (if Z m = (k : Nat) then 1 else 0) from rfl]
    split <;> split <;> split <;> omega

theorem cntSum_all {Z : Nat → Int} {k : Nat} : ∀ m, (∀ j, j < m → 0 ≤ Z j ∧ Z j < k) → cntSum Z m k = m
  | 0, _ => by
    induction k with
    | zero => rfl
    | succ k ih => rw [show cntSum Z 0 (k + 1) = cntSum Z 0 k + cnt Z (k : Nat) 0 from rfl, ih (fun j hj => absurd hj (Nat.not_lt_zero _))]; rfl
  | m + 1, h => by rw [cntSum_succ, cntSum_all m (fun j hj => h j (by omega)), if_pos (h m (by omega))]

theorem refSum_succ {m : Nat} : ∀ k, refSum D (m + 1) k = refSum D m k + cntSum (D m).kids (D m).kn k
  | 0 => rfl
  | k + 1 => by
    rw [show refSum D (m + 1) (k + 1) = refSum D (m + 1) k + refsTo D (k : Nat) (m + 1) from rfl, refSum_succ k, show refSum D m (k + 1) = refSum D m k + refsTo D (k : Nat) m from rfl, show refsTo D (k : Nat) (m + 1) = refsTo D (k : Nat) m + cnt (D m).kids (k : Nat) (D m).kn from rfl, show cntSum (D m).kids (D m).kn (k + 1) = cntSum (D m).kids (D m).kn k + cnt (D m).kids (k : Nat) (D m).kn from rfl]
    omega

theorem refSum_zero : ∀ k, refSum D 0 k = 0
  | 0 => rfl
  | k + 1 => by rw [show refSum D 0 (k + 1) = refSum D 0 k + refsTo D (k : Nat) 0 from rfl, refSum_zero k]; rfl

theorem TreeGood.sums (h : TreeGood n D now) : ∀ m, m ≤ n → refSum D m n = nameSum D m
  | 0, _ => refSum_zero n
  | m + 1, hm => by
    rw [refSum_succ, h.sums m (by omega), cntSum_all _ (fun j hj => by have := h.kids (show m < n by omega) hj; omega), h.kn_nn (show m < n by omega)]
    rfl

theorem nameSum_le (D : Nat → Nd) : ∀ k, nameSum D k ≤ sizeTo D k
  | 0 => Nat.le_refl _
  | k + 1 => by
    have := nameSum_le D k
    rw [show nameSum D (k + 1) = nameSum D k + (D k).nn from rfl, sizeTo_succ]
    unfold Nd.size
    omega

theorem refSum_le (D : Nat → Nd) (m : Nat) : ∀ k, refSum D m k ≤ k * sizeTo D m
  | 0 => by simp [refSum]
  | k + 1 => by
    have h1 := refSum_le D m k
    have h2 := refsTo_le D (k : Nat) m
    rw [show refSum D m (k + 1) = refSum D m k + refsTo D (k : Nat) m from rfl, Nat.add_mul]
    omega
end
end Go.Proofs.Ytoblndhmkehoaaa

/-
  Plain facts of what is kept of a tree that is ok, place by place.
-/
namespace Go.Proofs.Ytoblndhmkehoaaa
open Go.RowKit Go.Deep
set_option linter.unusedVariables false
set_option linter.unusedSimpArgs false

/-- A place that a directory has is there. -/
theorem kid_live {n : Nat} {D : Nat → Nd} {now since : Int} (h : TreeGood n D now) {i j : Nat} (hi : i < (selTo D since n).length) (hj : j < (D ((selTo D since n).getD i 0)).kn) :
    ∃ z : Nat, (D ((selTo D since n).getD i 0)).kids j = (z : Int) ∧ z < n ∧ ((D z).kind != 0) = true := by
  obtain ⟨h1, h2, h3⟩ := h.kids (selTo_lt hi) hj
  refine ⟨((D ((selTo D since n).getD i 0)).kids j).toNat, by omega, by omega, by simpa using h3⟩

/-- What there is has a name, and what has one is there. -/
theorem live_refs {n : Nat} {D : Nat → Nd} {now : Int} (h : TreeGood n D now) {i : Nat} (h1 : 1 ≤ i) (hi : i < n) : ((D i).kind != 0) = decide (0 < (refsTo D i n : Int)) := by
  by_cases hk : (D i).kind = 0
  · rw [h.refs_free hk]
    simp [hk]
  · have h2 := h.refs_file hi hk h1
    rw [decide_eq_true (show (0 : Int) < (refsTo D i n : Int) by omega)]
    simp [hk]

theorem root_live {n : Nat} {D : Nat → Nd} {now : Int} (h : TreeGood n D now) : ((D 0).kind != 0) = true := by simp [h.root]

theorem sel_at {D : Nat → Nd} {since : Int} {n k : Nat} (hk : k < n) (ht : turnedB D since k = true) : (selTo D since k).length < (selTo D since n).length ∧ (selTo D since n).getD (selTo D since k).length 0 = k := by
  have hpre : ∀ m, k + 1 ≤ m → selTo D since (k + 1) <+: selTo D since m := fun m hm => by
    induction hm with
    | refl => exact List.prefix_refl _
    | step hm ih =>
      rename_i q
      cases hq : turnedB D since q with
      | true => exact ih.trans (by rw [selTo_yes hq]; exact List.prefix_append _ _)
      | false => rw [selTo_no hq]; exact ih
  have h1 := hpre n hk
  rw [selTo_yes ht] at h1
  obtain ⟨R, hR⟩ := h1
  rw [← hR]
  refine ⟨by simp, ?_⟩
  rw [List.getD_eq_getElem?_getD, List.append_assoc, List.getElem?_append_right (Nat.le_refl _)]
  simp

/-- Since its last turn nothing was turned. -/
theorem sel_now {n : Nat} {D : Nat → Nd} {now : Int} (h : TreeGood n D now) : selTo D now n = [] := by
  unfold selTo
  rw [List.filter_eq_nil_iff]
  intro i hi
  have hi' : i < n := by simpa using hi
  unfold turnedB
  by_cases hk : (D i).kind = 0
  · simp [hk]
  · have := (good_turn h hi' hk).2
    simp [hk]
    omega
end Go.Proofs.Ytoblndhmkehoaaa

/-
  What is kept of a tree that is ok is ok.
-/
namespace Go.Proofs.Ytoblndhmkehoaaa
open Go.RowKit Go.Deep
set_option linter.unusedVariables false
set_option linter.unusedSimpArgs false

theorem sel_turned {D : Nat → Nd} {since : Int} {n i : Nat} (h : i < (selTo D since n).length) : turnedB D since ((selTo D since n).getD i 0) = true := by
  have hm : (selTo D since n).getD i 0 ∈ selTo D since n := by
    rw [List.getD_eq_getElem?_getD, List.getElem?_eq_getElem h]
    exact List.getElem_mem h
  exact (mem_sel.1 hm).2

theorem sel_lt {D : Nat → Nd} {since : Int} {n i : Nat} (h0 : 0 < i) (h : i < (selTo D since n).length) : (selTo D since n).getD (i - 1) 0 < (selTo D since n).getD i 0 := by
  have hp : (selTo D since n).Pairwise (· < ·) := List.Pairwise.filter _ List.pairwise_lt_range
  have := List.pairwise_iff_getElem.1 hp (i - 1) i (by omega) h (by omega)
  rw [List.getD_eq_getElem?_getD, List.getD_eq_getElem?_getD, List.getElem?_eq_getElem h, List.getElem?_eq_getElem (show i - 1 < (selTo D since n).length by omega)]
  exact this

theorem dpOf_ok {n : Nat} {D : Nat → Nd} {now since : Int} (h : TreeGood n D now) (h0 : 0 ≤ since) (h1 : since ≤ now) : (dpOf n D now since).ok = true := by
  have hs := h.some
  have hf := h.few
  have hb := h.begun
  have hso := h.soon
  unfold Dp.ok
  rw [Bool.and_eq_true]
  constructor
  · unfold headIn
    simp only [Bool.and_eq_true, decide_eq_true_eq]
    exact ⟨⟨⟨⟨h0, h1⟩, hb, hso⟩, hs, hf⟩, root_live h⟩
  · unfold itsIn
    rw [List.all_eq_true]
    intro i hi
    have hi' : i < (selTo D since n).length := List.mem_range.1 hi
    have hz := selTo_lt hi'
    have ht := sel_turned hi'
    unfold turnedB at ht
    rw [Bool.and_eq_true, decide_eq_true_eq] at ht
    have hk : (D ((selTo D since n).getD i 0)).kind ≠ 0 := by simpa using ht.1
    have htn := good_turn h hz hk
    have hnode := h.nodes _ hz
    have hit : itIn (dpOf n D now since) ((dpOf n D now since).ino i) ((dpOf n D now since).nd i) = true := by
      unfold itIn
      rw [Bool.and_eq_true, Bool.and_eq_true]
      refine ⟨⟨?_, ?_⟩, ?_⟩
      · unfold liveIn
        simp only [Bool.and_eq_true, decide_eq_true_eq]
        exact ⟨⟨by show (0 : Int) ≤ (((selTo D since n).getD i 0 : Nat) : Int); omega, by show (((selTo D since n).getD i 0 : Nat) : Int) < (n : Int); omega⟩, ht.1⟩
      · unfold turnedIn
        simp only [Bool.and_eq_true, decide_eq_true_eq]
        exact ⟨ht.2, htn.2⟩
      · show nodeIn (dpOf n D now since) (((selTo D since n).getD i 0 : Nat) : Int) (D ((selTo D since n).getD i 0)) = true
        unfold nodeIn
        unfold ndOk at hnode
        rw [if_neg hk] at hnode
        by_cases k1 : (D ((selTo D since n).getD i 0)).kind = 1
        · rw [if_pos k1] at hnode ⊢
          have hz0 : 0 < (selTo D since n).getD i 0 := by
            rcases Nat.eq_zero_or_pos ((selTo D since n).getD i 0) with e | e
            · rw [e, h.root] at k1; omega
            · exact e
          unfold fileOk at hnode
          unfold fileIs
          simp only [Bool.and_eq_true, decide_eq_true_eq] at hnode ⊢
          exact ⟨⟨⟨hnode.1.1.1.1, hnode.1.1.1.2⟩, hnode.1.1.2⟩, by omega⟩
        · rw [if_neg k1] at hnode ⊢
          by_cases k2 : (D ((selTo D since n).getD i 0)).kind = 2
          · rw [if_pos k2] at hnode ⊢
            have hkids : kidsIn (dpOf n D now since).ln (dpOf n D now since).live (D ((selTo D since n).getD i 0)).kids (D ((selTo D since n).getD i 0)).kn = true := by
              unfold kidsIn
              rw [List.all_eq_true]
              intro j hj
              have hj' : j < (D ((selTo D since n).getD i 0)).kn := by simpa using hj
              obtain ⟨a1, a2, a3⟩ := h.kids hz hj'
              unfold kidIn
              simp only [Bool.and_eq_true, decide_eq_true_eq]
              exact ⟨⟨a1, a2⟩, by show ((D ((D ((selTo D since n).getD i 0)).kids j).toNat).kind != 0) = true; simpa using a3⟩
            unfold dirOk at hnode
            unfold dirIs
            simp only [Bool.and_eq_true, decide_eq_true_eq] at hnode ⊢
            exact ⟨⟨⟨hnode.1.1.1.1, hnode.1.1.1.2⟩, hnode.1.1.2.2⟩, hkids⟩
          · rw [if_neg k2] at hnode
            cases hnode
    by_cases e : i = 0
    · subst e; exact step_zero hit
    · refine step_more hit ?_
      show (((selTo D since n).getD (i - 1) 0 : Nat) : Int) < (((selTo D since n).getD i 0 : Nat) : Int)
      have := sel_lt (D := D) (since := since) (n := n) (by omega : 0 < i) hi'
      omega
end Go.Proofs.Ytoblndhmkehoaaa

/-
  What DumpSame of the specification answers.
-/
namespace Go.Proofs.Ytoblndhmkehoaaa
open Go.RowKit
set_option linter.unusedVariables false

/-- What is known within DumpSame. -/
structure DSIn (w : World) (d e : Dp) (l k : DLoc) (t : TypeId) (W : World) : Prop where
  p : Blk W w.heap.size #[.int .i64 d.since, .int .i64 d.date, .slice l.lA d.ln l.lc, .slice l.iA d.m l.ic] t
  p' : Blk W (w.heap.size + 1) #[.int .i64 e.since, .int .i64 e.date, .slice k.lA e.ln k.lc, .slice k.iA e.m k.ic] t
  bel : Below w.heap.size w W

theorem DSIn.below {w : World} {d e : Dp} {l k : DLoc} {t : TypeId} {W W' : World} (h : DSIn w d e l k t W) (hb : Below W.heap.size W W') : DSIn w d e l k t W' :=
  ⟨h.p.below hb h.p.lt, h.p'.below hb h.p'.lt, h.bel.trans (hb.mono (by have := h.p.lt; omega))⟩

theorem DSIn.drew {w : World} {d e : Dp} {l k : DLoc} {t : TypeId} {W : World} (h : DSIn w d e l k t W) (q : Nat) : DSIn w d e l k t (W.drewN q) := h.below (below_drewN (Below.refl _ _) q)

theorem same_since {d e : Dp} (h : (d.since == e.since) = false) : false = d.same e := by unfold Dp.same; rw [h]; rfl
theorem same_date {d e : Dp} (h : (d.date == e.date) = false) : false = d.same e := by unfold Dp.same; rw [h]; simp
theorem same_ln {d e : Dp} (h : ¬ d.ln = e.ln) : false = d.same e := by unfold Dp.same; simp [h]
theorem same_m {d e : Dp} (h : ¬ d.m = e.m) : false = d.same e := by unfold Dp.same; simp [h]
theorem same_live {d e : Dp} (h : false = eqB d.ln d.live e.live) : false = d.same e := by unfold Dp.same; rw [← h]; simp
theorem same_items {d e : Dp} (h : false = sameIts d.m d.ino e.ino d.nd e.nd) : false = d.same e := by unfold Dp.same; rw [← h]; simp
theorem same_all {d e : Dp} (h1 : (d.since == e.since) = true) (h2 : (d.date == e.date) = true) (h3 : d.ln = e.ln) (h4 : eqB d.ln d.live e.live = true) (h5 : d.m = e.m) (h6 : sameIts d.m d.ino e.ino d.nd e.nd = true) : true = d.same e := by
  unfold Dp.same; rw [h1, h2, h4, h6]; simp [h3, h5]

end Go.Proofs.Ytoblndhmkehoaaa

/-
  What DumpOk of the specification answers.
-/
namespace Go.Proofs.Ytoblndhmkehoaaa
open Go.RowKit
set_option linter.unusedVariables false

/-- What is known within l5Kids and l5Item: what is kept in one block, more cells in the next. -/
structure DKIn (w : World) (d : Dp) (l : DLoc) (cs : Array Value) (t : TypeId) (W : World) : Prop where
  p : Blk W w.heap.size #[.int .i64 d.since, .int .i64 d.date, .slice l.lA d.ln l.lc, .slice l.iA d.m l.ic] 31
  x : Blk W (w.heap.size + 1) cs t
  bel : Below w.heap.size w W

theorem DKIn.below {w : World} {d : Dp} {l : DLoc} {cs : Array Value} {t : TypeId} {W W' : World} (h : DKIn w d l cs t W) (hb : Below W.heap.size W W') : DKIn w d l cs t W' :=
  ⟨h.p.below hb h.p.lt, h.x.below hb h.x.lt, h.bel.trans (hb.mono (by have := h.p.lt; omega))⟩
theorem DKIn.drew {w : World} {d : Dp} {l : DLoc} {cs : Array Value} {t : TypeId} {W : World} (h : DKIn w d l cs t W) (q : Nat) : DKIn w d l cs t (W.drewN q) := h.below (below_drewN (Below.refl _ _) q)

set_option maxHeartbeats 2000000 in
theorem l5Kids_any (d : Dp) (l : DLoc) (x : Nd) (lo : Loc) (w : World) (hD : DpIn w d l) (hI : NdIn w x lo) (hfd : d.Fits) (hf : x.Fits) :
    Calls Try.prog 71 #[dpV d l, ndV x lo] w fun e w' => Below w.heap.size w w' ∧ e = .returned (.bool (kidsIn d.ln d.live x.kids x.kn && decide (x.kn = x.nn))) := by
  have hkn := hf.kn
  have hnn := hf.nn
  have hln := hfd.ln
  unfold maxLen at hkn hnn hln
  unfold dpV ndV
  go_enter Try.func71, Try.ntmps71
  go_wp2
  go_loopw [5] (fun i wr => ∃ k : Nat, k ≤ x.kn ∧ i = .int .i64 k ∧ DKIn w d l #[.int .i64 x.kind, .string x.text, .slice lo.nA x.nn lo.nc, .slice lo.kA x.kn lo.kc, .int .i64 x.turn] 38 wr ∧ kidsIn d.ln d.live x.kids k = true) (fun i _ => x.kn - (intOf i).toNat)
  case atStart =>
    have h := new2 w #[.int .i64 d.since, .int .i64 d.date, .slice l.lA d.ln l.lc, .slice l.iA d.m l.ic] 31 #[.int .i64 x.kind, .string x.text, .slice lo.nA x.nn lo.nc, .slice lo.kA x.kn lo.kc, .int .i64 x.turn] 38
    exact ⟨0, Nat.zero_le _, rfl, ⟨h.b0, h.b1, h.bel⟩, rfl⟩
  case round =>
    obtain ⟨k, hk, rfl, hin, heq⟩ := hrel
    have t2 : wr.cell? ⟨w.heap.size, 2, none⟩ = some (.slice l.lA d.ln l.lc) := hin.p.cell 2
    have d2 : wr.cell? ⟨w.heap.size + 1, 2, none⟩ = some (.slice lo.nA x.nn lo.nc) := hin.x.cell 2
    have d3 : wr.cell? ⟨w.heap.size + 1, 3, none⟩ = some (.slice lo.kA x.kn lo.kc) := hin.x.cell 3
    have hLr := hD.live.below (Nat.le_refl _) hin.bel
    have hIr := hI.2.below (Nat.le_refl _) hin.bel
    have HE : Hid (kidsIn d.ln d.live x.kids k = true ∧ DKIn w d l _ 38 wr) := ⟨heq, hin⟩
    clear heq hin
    by_cases hlt : k < x.kn
    · obtain ⟨b, off, hka, hlt2, hc⟩ := hIr.at hlt
      rw [hka] at d3
      have h1 := hc k hlt
      have hlti : (k : Int) < (x.kn : Int) := by omega
      have HKA : Hid _ := hka
      clear hc hka
      have hz := hf.kids k hlt
      unfold In64 at hz
      have bad : kidIn d.ln d.live (x.kids k) = false → Hid (kidsIn d.ln d.live x.kids x.kn = false) := fun h => kidsIn_bad hlt h
      by_cases hz1 : x.kids k < 1
      · have H : Hid (kidsIn d.ln d.live x.kids x.kn = false) := bad (by unfold kidIn; rw [decide_eq_false (show ¬ 1 ≤ x.kids k by omega)]; rfl)
        have hb1 : decide (x.kids k < 1) = true := by simp; omega
        clear bad
        go_wp2_with fail
        go_quiet (fail)
        go_wp2
        go_ret
        exact ⟨(HE.out.2.drew _).bel, ret_bool (by rw [H.out]; rfl)⟩
      · have hb1 : decide (x.kids k < 1) = false := by simp; omega
        by_cases hz2 : (d.ln : Int) ≤ x.kids k
        · have H : Hid (kidsIn d.ln d.live x.kids x.kn = false) := bad (by unfold kidIn; rw [decide_eq_false (show ¬ x.kids k < d.ln by omega)]; simp)
          have hb2 : decide ((d.ln : Int) ≤ x.kids k) = true := by simp; omega
          clear bad
          go_wp2_with fail
          go_quiet (fail)
          go_wp2
          go_ret
          exact ⟨(HE.out.2.drew _).bel, ret_bool (by rw [H.out]; rfl)⟩
        · obtain ⟨j, hj⟩ : ∃ j : Nat, x.kids k = j := ⟨(x.kids k).toNat, by omega⟩
          have hjn : j < d.ln := by omega
          obtain ⟨b', off', ha, hlt2', hc'⟩ := hLr.at hjn
          have g0 := hc' j hjn
          have hko : kidIn d.ln d.live (x.kids k) = d.live j := by
            unfold kidIn; rw [decide_eq_true (show 1 ≤ x.kids k by omega), decide_eq_true (show x.kids k < d.ln by omega), hj]; simp
          clear hc'
          rw [ha] at t2
          have HLA : Hid _ := ha
          clear ha hb1
          rw [hj] at h1 hz1 hz2 hz
          have hb1 : decide ((j : Int) < 1) = false := by simp; omega
          have hb2 : decide ((d.ln : Int) ≤ (j : Int)) = false := by simp; omega
          have hjl : (j : Int) < (d.ln : Int) := by omega
          cases hkd : d.live j with
          | false =>
            have H : Hid (kidsIn d.ln d.live x.kids x.kn = false) := bad (by rw [hko, hkd])
            rw [hkd] at g0
            clear bad hko hkd hj
            go_wp2_with fail
            go_quiet (fail)
            go_wp2
            go_ret
            exact ⟨(HE.out.2.drew _).bel, ret_bool (by rw [H.out]; rfl)⟩
          | true =>
            have H : Hid (kidIn d.ln d.live (x.kids k) = true) := by show _ = _; rw [hko, hkd]
            rw [hkd] at g0
            clear bad hko hkd hj
            go_wp2_with fail
            go_quiet (fail)
            go_wp2
            go_roundw
            case rel => exact ⟨k + 1, by omega, by go_num, HE.out.2.drew _, kidsIn_succ HE.out.1 H.out⟩
            case measure => simp [intOf]; omega
    · have hke : k = x.kn := by omega
      have HK : Hid (kidsIn d.ln d.live x.kids x.kn = true) := by have := HE.out.1; rw [hke] at this; exact this
      clear hke hLr hIr
      go_wp2
      go_ret
      refine ⟨HE.out.2.bel, ret_bool ?_⟩
      rw [HK.out, Bool.true_and]
      by_cases h : x.kn = x.nn
      · simp [h]
      · rw [decide_eq_false h]
        simp
        omega
end Go.Proofs.Ytoblndhmkehoaaa

/-
  What l5Item and DumpOk of the specification answer.
-/
namespace Go.Proofs.Ytoblndhmkehoaaa
open Go.RowKit
set_option linter.unusedVariables false

theorem it_dead {d : Dp} {o : Int} {x : Nd} (h : liveIn d.ln d.live o = false) : false = itIn d o x := by unfold itIn; rw [h]; rfl
theorem it_turn {d : Dp} {o : Int} {x : Nd} (h : turnedIn d x = false) : false = itIn d o x := by unfold itIn; rw [h]; simp
theorem it_node {d : Dp} {o : Int} {x : Nd} (h1 : liveIn d.ln d.live o = true) (h2 : turnedIn d x = true) : nodeIn d o x = itIn d o x := by unfold itIn; rw [h1, h2]; rfl

/-- The cells of a place that was turned. -/
def itC (o : Int) (x : Nd) (lo : Loc) : Array Value := #[.int .i64 o, .int .i64 x.kind, .string x.text, .slice lo.nA x.nn lo.nc, .slice lo.kA x.kn lo.kc, .int .i64 x.turn]

set_option maxHeartbeats 4000000 in
theorem l5Item_any (d : Dp) (l : DLoc) (o : Int) (x : Nd) (lo : Loc) (w : World) (hD : DpIn w d l) (hI : NdIn w x lo) (hfd : d.Fits) (hf : x.Fits) :
    Calls Try.prog 60 #[dpV d l, itV o x lo] w fun e w' => Below w.heap.size w w' ∧ e = .returned (.bool (itIn d o x)) := by
  have hkn := hf.kn
  have hnn := hf.nn
  have hln := hfd.ln
  unfold maxLen at hkn hnn hln
  unfold dpV itV
  have hend : ∀ (c0 c1 : Array Value) (t0 t1 : TypeId), Below w.heap.size w ((w.alloc (.cells c0 t0)).alloc (.cells c1 t1)) := fun c0 c1 t0 t1 => ((Below.refl _ _).alloc (Nat.le_refl _) _).alloc (by simp) _
  have HEND : Hid _ := hend
  clear hend
  by_cases h1 : o < 0
  · have hb1 : decide (o < 0) = true := by simp; omega
    have HX : Hid (false = itIn d o x) := it_dead (by unfold liveIn; rw [decide_eq_false (show ¬ 0 ≤ o by omega)]; rfl)
    go_enter Try.func60, Try.ntmps60
    go_wp2_with fail
    go_ret
    exact ⟨HEND.out _ _ _ _, ret_bool HX.out⟩
  have hb1 : decide (o < 0) = false := by simp; omega
  by_cases h2 : (d.ln : Int) ≤ o
  · have hb2 : decide ((d.ln : Int) ≤ o) = true := by simp; omega
    have HX : Hid (false = itIn d o x) := it_dead (by unfold liveIn; rw [decide_eq_false (show ¬ o < d.ln by omega)]; simp)
    go_enter Try.func60, Try.ntmps60
    go_wp2_with fail
    go_ret
    exact ⟨HEND.out _ _ _ _, ret_bool HX.out⟩
  have hb2 : decide ((d.ln : Int) ≤ o) = false := by simp; omega
  obtain ⟨j, rfl⟩ : ∃ j : Nat, o = j := ⟨o.toNat, by omega⟩
  have hjn : j < d.ln := by omega
  have hjl : (j : Int) < (d.ln : Int) := by omega
  obtain ⟨b, off, hA, hlt2, hc⟩ := hD.live.at hjn
  have g0 := hc j hjn
  have hbne : b ≠ w.heap.size := by omega
  have hbne' : b ≠ w.heap.size + 1 := by omega
  have hblt' : b < w.heap.size + 1 := by omega
  have HLA : Hid (l.lA = some ⟨b, off, none⟩) := hA
  rw [hA]
  clear hc hA
  cases hlv : d.live j with
  | false =>
    have HX : Hid (false = itIn d j x) := it_dead (by unfold liveIn; simp [hlv])
    rw [hlv] at g0
    clear hlv
    go_enter Try.func60, Try.ntmps60
    go_wp2_with fail
    go_ret
    exact ⟨HEND.out _ _ _ _, ret_bool HX.out⟩
  | true =>
  have HL : Hid (liveIn d.ln d.live (j : Int) = true) := by show _ = _; unfold liveIn; simp [hlv]; omega
  rw [hlv] at g0
  clear hlv
  by_cases h3 : x.turn ≤ d.since
  · have hb3 : decide (x.turn ≤ d.since) = true := by simp; omega
    have HX : Hid (false = itIn d j x) := it_turn (by unfold turnedIn; rw [decide_eq_false (show ¬ d.since < x.turn by omega)]; rfl)
    go_enter Try.func60, Try.ntmps60
    go_wp2_with fail
    go_ret
    exact ⟨HEND.out _ _ _ _, ret_bool HX.out⟩
  have hb3 : decide (x.turn ≤ d.since) = false := by simp; omega
  by_cases h4 : d.date < x.turn
  · have hb4 : decide (d.date < x.turn) = true := by simp; omega
    have HX : Hid (false = itIn d j x) := it_turn (by unfold turnedIn; rw [decide_eq_false (show ¬ x.turn ≤ d.date by omega)]; simp)
    go_enter Try.func60, Try.ntmps60
    go_wp2_with fail
    go_ret
    exact ⟨HEND.out _ _ _ _, ret_bool HX.out⟩
  have hb4 : decide (d.date < x.turn) = false := by simp; omega
  have HN : Hid (nodeIn d j x = itIn d j x) := it_node HL.out (by unfold turnedIn; rw [decide_eq_true (show d.since < x.turn by omega), decide_eq_true (show x.turn ≤ d.date by omega)]; rfl)
  clear HL
  by_cases k1 : x.kind = 1
  · have c1 : (x.kind == 1) = true := by simp [k1]
    have H : Hid ((fileIs x && decide ((0 : Int) < j)) = itIn d j x) := by show _ = _; rw [← HN.out]; unfold nodeIn; rw [if_pos k1]
    clear k1 HN
    go_enter Try.func60, Try.ntmps60
    go_wp2_with fail
    refine (l2Text_any x.text _ hf.text).mono ?_
    rintro e w1 ⟨rfl, rfl⟩
    cases htx : textOk x.text with
    | false =>
      have HT : Hid (textOk x.text = false) := htx
      clear htx
      go_wp2_with fail
      go_ret
      exact ⟨HEND.out _ _ _ _, ret_bool (by rw [← H.out]; unfold fileIs; rw [HT.out]; rfl)⟩
    | true =>
      have HT : Hid (textOk x.text = true) := htx
      clear htx
      have HF : Hid ((decide (x.nn = 0) && decide (x.kn = 0) && decide ((0 : Int) < j)) = itIn d j x) := by show _ = _; rw [← H.out]; unfold fileIs; rw [HT.out]; rfl
      clear H HT
      by_cases e1 : x.nn = 0
      · by_cases e2 : x.kn = 0
        · have a1 : ((x.nn : Int) == 0) = true := by simp [e1]
          have a2 : ((x.kn : Int) == 0) = true := by simp [e2]
          have HG : Hid (decide ((0 : Int) < j) = itIn d j x) := by show _ = _; rw [← HF.out, decide_eq_true e1, decide_eq_true e2]; rfl
          clear e1 e2 HF
          go_wp2_with fail
          all_goals
            go_ret
            exact ⟨HEND.out _ _ _ _, ret_bool (by rw [← HG.out]; (first | rfl | (simp [*]; done) | (simp; omega)))⟩
        · have a1 : ((x.nn : Int) == 0) = true := by simp [e1]
          have a2 : ((x.kn : Int) == 0) = false := by simp; omega
          have HG : Hid (false = itIn d j x) := by show _ = _; rw [← HF.out, decide_eq_false e2]; simp
          clear e1 e2 HF
          go_wp2_with fail
          go_ret
          exact ⟨HEND.out _ _ _ _, ret_bool HG.out⟩
      · have a1 : ((x.nn : Int) == 0) = false := by simp; omega
        have HG : Hid (false = itIn d j x) := by show _ = _; rw [← HF.out, decide_eq_false e1]; simp
        clear e1 HF
        go_wp2_with fail
        go_ret
        exact ⟨HEND.out _ _ _ _, ret_bool HG.out⟩
  · have c1 : (x.kind == 1) = false := by simp [k1]
    by_cases k2 : x.kind = 2
    · have c2 : (x.kind == 2) = true := by simp [k2]
      have H : Hid ((dirIs x && kidsIn d.ln d.live x.kids x.kn) = itIn d j x) := by show _ = _; rw [← HN.out]; unfold nodeIn; rw [if_neg k1, if_pos k2]
      clear k1 k2 HN
      cases ht : (x.text.toList == []) with
      | false =>
        have HX : Hid (false = itIn d j x) := by show _ = _; rw [← H.out]; unfold dirIs; rw [ht]; rfl
        go_enter Try.func60, Try.ntmps60
        go_wp2_with fail
        go_ret
        exact ⟨HEND.out _ _ _ _, ret_bool HX.out⟩
      | true =>
        have H2 : Hid ((dirNames x.names x.nn && decide (x.kn = x.nn) && kidsIn d.ln d.live x.kids x.kn) = itIn d j x) := by show _ = _; rw [← H.out]; unfold dirIs; rw [ht]; rfl
        clear H
        go_enter Try.func60, Try.ntmps60
        go_wp2_with fail
        refine at_world (F := New2 w _ _ _ _) (new2 w _ _ _ _) ?_
        rintro W ⟨hp, hx, hb, hs⟩
        refine (l2Names_any lo.nA x.nn lo.nc x.names W (hI.1.below (Nat.le_refl _) hb) hf.names hf.nn).mono ?_
        rintro e w1 ⟨⟨q, rfl⟩, rfl⟩
        have HB : Hid (Below w.heap.size w W) := hb
        have p0 : W.cell? ⟨w.heap.size, 0, none⟩ = some (.int .i64 d.since) := hp.cell 0
        have p1 : W.cell? ⟨w.heap.size, 1, none⟩ = some (.int .i64 d.date) := hp.cell 1
        have p2 : W.cell? ⟨w.heap.size, 2, none⟩ = some (.slice (some ⟨b, off, none⟩) d.ln l.lc) := hp.cell 2
        have p3 : W.cell? ⟨w.heap.size, 3, none⟩ = some (.slice l.iA d.m l.ic) := hp.cell 3
        have x1 : W.cell? ⟨w.heap.size + 1, 1, none⟩ = some (.int .i64 x.kind) := hx.cell 1
        have x2 : W.cell? ⟨w.heap.size + 1, 2, none⟩ = some (.string x.text) := hx.cell 2
        have x3 : W.cell? ⟨w.heap.size + 1, 3, none⟩ = some (.slice lo.nA x.nn lo.nc) := hx.cell 3
        have x4 : W.cell? ⟨w.heap.size + 1, 4, none⟩ = some (.slice lo.kA x.kn lo.kc) := hx.cell 4
        have x5 : W.cell? ⟨w.heap.size + 1, 5, none⟩ = some (.int .i64 x.turn) := hx.cell 5
        clear hp hx hb
        cases hnm : dirNames x.names x.nn with
        | false =>
          have HX : Hid (false = itIn d j x) := by show _ = _; rw [← H2.out, hnm]; rfl
          clear hnm
          go_wp2_with fail
          go_ret
          exact ⟨below_drewN HB.out _, ret_bool HX.out⟩
        | true =>
          have HX : Hid ((kidsIn d.ln d.live x.kids x.kn && decide (x.kn = x.nn)) = itIn d j x) := by show _ = _; rw [← H2.out, hnm]; simp [Bool.and_comm]
          clear hnm H2
          go_wp2_with fail
          have hbq := below_drewN HB.out q
          have hk5 := l5Kids_any d l x lo (W.drewN q) (hD.below (Nat.le_refl _) hbq) (hI.below (Nat.le_refl _) hbq) hfd hf
          unfold dpV at hk5
          rw [HLA.out] at hk5
          refine hk5.mono ?_
          rintro e w2 ⟨hb2, rfl⟩
          have HB2 : Hid (Below w.heap.size w w2) := hbq.trans (hb2.mono hbq.size)
          clear hb2 hbq hk5 p0 p1 p2 p3 x1 x2 x3 x4 x5
          rw [HX.out]
          go_wp2
          go_ret
          exact ⟨HB2.out, rfl⟩
    · have c2 : (x.kind == 2) = false := by simp [k2]
      have HX : Hid (false = itIn d j x) := by show _ = _; rw [← HN.out]; unfold nodeIn; rw [if_neg k1, if_neg k2]
      clear k1 k2 HN
      go_enter Try.func60, Try.ntmps60
      go_wp2_with fail
      go_ret
      exact ⟨HEND.out _ _ _ _, ret_bool HX.out⟩
end Go.Proofs.Ytoblndhmkehoaaa

/-
  What DumpOk of the specification answers.
-/
namespace Go.Proofs.Ytoblndhmkehoaaa
open Go.RowKit
set_option linter.unusedVariables false

/-- What is known within DumpOk. -/
structure D1In (w : World) (d : Dp) (l : DLoc) (t : TypeId) (W : World) : Prop where
  p : Blk W w.heap.size #[.int .i64 d.since, .int .i64 d.date, .slice l.lA d.ln l.lc, .slice l.iA d.m l.ic] t
  bel : Below w.heap.size w W

theorem D1In.below {w : World} {d : Dp} {l : DLoc} {t : TypeId} {W W' : World} (h : D1In w d l t W) (hb : Below W.heap.size W W') : D1In w d l t W' :=
  ⟨h.p.below hb h.p.lt, h.bel.trans (hb.mono (by have := h.p.lt; omega))⟩
theorem D1In.drew {w : World} {d : Dp} {l : DLoc} {t : TypeId} {W : World} (h : D1In w d l t W) (q : Nat) : D1In w d l t (W.drewN q) := h.below (below_drewN (Below.refl _ _) q)

theorem head_1 {d : Dp} (h : d.since < 0) : false = d.ok := ok_head (by unfold headIn; rw [decide_eq_false (show ¬ 0 ≤ d.since by omega)]; rfl)
theorem head_2 {d : Dp} (h : d.date < d.since) : false = d.ok := ok_head (by unfold headIn; rw [decide_eq_false (show ¬ d.since ≤ d.date by omega)]; simp)
theorem head_3 {d : Dp} (h : d.date < 1) : false = d.ok := ok_head (by unfold headIn; rw [decide_eq_false (show ¬ 1 ≤ d.date by omega)]; simp)
theorem head_4 {d : Dp} (h : 1000 < d.date) : false = d.ok := ok_head (by unfold headIn; rw [decide_eq_false (show ¬ d.date ≤ 1000 by omega)]; simp)
theorem head_5 {d : Dp} (h : d.ln < 1) : false = d.ok := ok_head (by unfold headIn; rw [decide_eq_false (show ¬ 1 ≤ d.ln by omega)]; simp)
theorem head_6 {d : Dp} (h : 10 < d.ln) : false = d.ok := ok_head (by unfold headIn; rw [decide_eq_false (show ¬ d.ln ≤ 10 by omega)]; simp)
theorem head_7 {d : Dp} (h : d.live 0 = false) : false = d.ok := ok_head (by unfold headIn; rw [h]; simp)
theorem head_yes {d : Dp} (h1 : ¬ d.since < 0) (h2 : ¬ d.date < d.since) (h3 : ¬ d.date < 1) (h4 : ¬ 1000 < d.date) (h5 : ¬ d.ln < 1) (h6 : ¬ 10 < d.ln) (h7 : d.live 0 = true) : headIn d = true := by
  unfold headIn
  rw [decide_eq_true (show 0 ≤ d.since by omega), decide_eq_true (show d.since ≤ d.date by omega), decide_eq_true (show 1 ≤ d.date by omega), decide_eq_true (show d.date ≤ 1000 by omega), decide_eq_true (show 1 ≤ d.ln by omega), decide_eq_true (show d.ln ≤ 10 by omega), h7]
  rfl

set_option maxHeartbeats 4000000 in
theorem specDumpOk_any (d : Dp) (l : DLoc) (w : World) (hD : DpIn w d l) (hfd : d.Fits) :
    Calls Try.prog 41 #[dpV d l] w fun e w' => Below w.heap.size w w' ∧ e = .returned (.bool d.ok) := by
  have hln := hfd.ln
  have hm := hfd.m
  unfold maxLen at hln hm
  unfold dpV
  have HEND : Hid (∀ (c0 : Array Value) (t0 : TypeId), Below w.heap.size w (w.alloc (.cells c0 t0))) := fun c0 t0 => (Below.refl _ _).alloc (Nat.le_refl _) _
  by_cases h1 : d.since < 0
  · have hb1 : decide (d.since < 0) = true := by simp; omega
    have HX : Hid (false = d.ok) := head_1 h1
    go_enter Try.func41, Try.ntmps41
    go_wp2_with fail
    go_ret
    exact ⟨HEND.out _ _, ret_bool HX.out⟩
  have hb1 : decide (d.since < 0) = false := by simp; omega
  by_cases h2 : d.date < d.since
  · have hb2 : decide (d.date < d.since) = true := by simp; omega
    have HX : Hid (false = d.ok) := head_2 h2
    go_enter Try.func41, Try.ntmps41
    go_wp2_with fail
    go_ret
    exact ⟨HEND.out _ _, ret_bool HX.out⟩
  have hb2 : decide (d.date < d.since) = false := by simp; omega
  by_cases h3 : d.date < 1
  · have hb3 : decide (d.date < 1) = true := by simp; omega
    have HX : Hid (false = d.ok) := head_3 h3
    go_enter Try.func41, Try.ntmps41
    go_wp2_with fail
    go_ret
    exact ⟨HEND.out _ _, ret_bool HX.out⟩
  have hb3 : decide (d.date < 1) = false := by simp; omega
  by_cases h4 : 1000 < d.date
  · have hb4 : decide (1000 < d.date) = true := by simp; omega
    have HX : Hid (false = d.ok) := head_4 h4
    go_enter Try.func41, Try.ntmps41
    go_wp2_with fail
    go_ret
    exact ⟨HEND.out _ _, ret_bool HX.out⟩
  have hb4 : decide (1000 < d.date) = false := by simp; omega
  by_cases h5 : d.ln < 1
  · have hb5 : decide ((d.ln : Int) < 1) = true := by simp; omega
    have HX : Hid (false = d.ok) := head_5 h5
    clear h5
    go_enter Try.func41, Try.ntmps41
    go_wp2_with fail
    go_ret
    exact ⟨HEND.out _ _, ret_bool HX.out⟩
  have hb5 : decide ((d.ln : Int) < 1) = false := by simp; omega
  by_cases h6 : 10 < d.ln
  · have hb6 : decide ((10 : Int) < (d.ln : Int)) = true := by simp; omega
    have HX : Hid (false = d.ok) := head_6 h6
    go_enter Try.func41, Try.ntmps41
    go_wp2_with fail
    go_ret
    exact ⟨HEND.out _ _, ret_bool HX.out⟩
  have hb6 : decide ((10 : Int) < (d.ln : Int)) = false := by simp; omega
  have h0n : 0 < d.ln := by omega
  have h0i : (0 : Int) < (d.ln : Int) := by omega
  obtain ⟨b, off, hA, hlt2, hc⟩ := hD.live.at h0n
  have g0 := hc 0 h0n
  rw [Nat.add_zero] at g0
  have hbne : b ≠ w.heap.size := by omega
  have HLA : Hid (l.lA = some ⟨b, off, none⟩) := hA
  rw [hA]
  clear hc hA
  cases h7 : d.live 0 with
  | false =>
    have HX : Hid (false = d.ok) := head_7 h7
    rw [h7] at g0
    clear h7
    go_enter Try.func41, Try.ntmps41
    go_wp2_with fail
    go_ret
    exact ⟨HEND.out _ _, ret_bool HX.out⟩
  | true =>
  have HH : Hid (headIn d = true) := head_yes h1 h2 h3 h4 h5 h6 h7
  rw [h7] at g0
  clear h7
  go_enter Try.func41, Try.ntmps41
  go_wp2_with fail
  go_loopw [3] (fun i wr => ∃ k : Nat, k ≤ d.m ∧ i = .int .i64 k ∧ D1In w d l 31 wr ∧ itsIn d k = true) (fun i _ => d.m - (intOf i).toNat)
  case atStart =>
    have h := new1 w #[.int .i64 d.since, .int .i64 d.date, .slice l.lA d.ln l.lc, .slice l.iA d.m l.ic] 31
    rw [HLA.out] at h
    exact ⟨0, Nat.zero_le _, rfl, ⟨by rw [HLA.out]; exact h.b0, h.bel⟩, rfl⟩
  case round =>
    obtain ⟨k, hk, rfl, hin, heq⟩ := hrel
    have t0 : wr.cell? ⟨w.heap.size, 0, none⟩ = some (.int .i64 d.since) := hin.p.cell 0
    have t1 : wr.cell? ⟨w.heap.size, 1, none⟩ = some (.int .i64 d.date) := hin.p.cell 1
    have t2 : wr.cell? ⟨w.heap.size, 2, none⟩ = some (.slice l.lA d.ln l.lc) := hin.p.cell 2
    have t3 : wr.cell? ⟨w.heap.size, 3, none⟩ = some (.slice l.iA d.m l.ic) := hin.p.cell 3
    have hwl := hin.p.lt
    by_cases hlt : k < d.m
    · obtain ⟨b', off', hA', hlt2', hc'⟩ := (hD.items.below (Nat.le_refl _) hin.bel).at hlt
      obtain ⟨c0, c1, c2, c3, c4, c5, hN⟩ := hc' k hlt
      have hDr := hD.below (Nat.le_refl _) hin.bel
      have hIA : Hid (l.iA = some ⟨b', off', none⟩) := hA'
      have T0 := Lat.cell (B := wr.heap.size) t0 hwl
      have T1 := Lat.cell (B := wr.heap.size) t1 hwl
      have T2 := Lat.cell (B := wr.heap.size) t2 hwl
      have T3 := Lat.cell (B := wr.heap.size) t3 hwl
      rw [hA'] at t3 T3
      have hlti : (k : Int) < (d.m : Int) := by omega
      have C0 := Lat.cell (B := wr.heap.size) c0 hlt2'
      have C1 := Lat.cell (B := wr.heap.size) c1 hlt2'
      have C2 := Lat.cell (B := wr.heap.size) c2 hlt2'
      have C3 := Lat.cell (B := wr.heap.size) c3 hlt2'
      have C4 := Lat.cell (B := wr.heap.size) c4 hlt2'
      have C5 := Lat.cell (B := wr.heap.size) c5 hlt2'
      have hcall0 : ∀ q : Lat wr.heap.size wr, Calls Try.prog 60 #[dpV d l, itV (d.ino k) (d.nd k) (l.L k)] q.val fun r w'' => r = .returned (.bool (itIn d (d.ino k) (d.nd k))) ∧ ∃ m : Lat wr.heap.size wr, w'' = m.val := fun q =>
        Calls.lat_of (l5Item_any d l (d.ino k) (d.nd k) (l.L k) q.val (hDr.below (Nat.le_refl _) q.bel) (hN.below (Nat.le_refl _) q.bel) hfd (hfd.nds k hlt)) (fun e w' h => ⟨h.2, h.1.mono q.bel.size⟩)
      unfold dpV at hcall0
      rw [hA'] at hcall0
      have HIN : Hid (D1In w d l 31 wr ∧ itsIn d k = true) := ⟨hin, heq⟩
      cases hq : itIn d (d.ino k) (d.nd k) with
      | false =>
        rw [hq] at hcall0
        have hcall : Hid _ := hcall0
        have HQ : Hid (false = d.ok) := ok_bad hlt (step_item hq)
        clear hq hcall0 hc' c0 c1 c2 c3 c4 c5 hN hDr hin heq hA'
        go_wp2_with fail
        refine wp_region_lat (B := wr.heap.size) (w0 := wr) (by kernel_rfl) (by kernel_rfl) (Below.refl _ _) ?_
        repeat (go_big_quiet_step (exact hcall.out _))
        refine wpQuiet_nil ?_
        rintro _ ⟨nq, rfl⟩
        have HB : Hid (Below w.heap.size w nq.val) := (HIN.out.1.below nq.bel).bel
        clear hcall C0 C1 C2 C3 C4 C5 T0 T1 T2 T3 t0 t1 t2 t3
        go_wp2
        go_ret
        exact ⟨HB.out, ret_bool HQ.out⟩
      | true =>
        rw [hq] at hcall0
        have hcall : Hid _ := hcall0
        have HI : Hid (itIn d (d.ino k) (d.nd k) = true) := hq
        clear hq hcall0 hDr hin heq hN
        by_cases hk0 : k = 0
        · subst hk0
          have hz : decide ((0 : Int) < ((0 : Nat) : Int)) = false := by decide
          have HS : Hid (stepIn d 0 = true) := step_zero HI.out
          clear hc' c0 c1 c2 c3 c4 c5 hA' HI
          simp only [Nat.zero_mul, Nat.add_zero] at C0 C1 C2 C3 C4 C5
          go_wp2_with fail
          refine wp_region_lat (B := wr.heap.size) (w0 := wr) (by kernel_rfl) (by kernel_rfl) (Below.refl _ _) ?_
          repeat (go_big_quiet_step (exact hcall.out _))
          refine wpQuiet_nil ?_
          rintro _ ⟨nq, rfl⟩
          have HB : Hid (D1In w d l 31 nq.val) := HIN.out.1.below nq.bel
          clear hcall C0 C1 C2 C3 C4 C5 T0 T1 T2 T3 t0 t1 t2 t3
          go_wp2
          go_roundw
          case rel => exact ⟨1, by omega, by go_num, HB.out, itsIn_succ HIN.out.2 HS.out⟩
          case measure => simp [intOf]; omega
        · have hz : decide ((0 : Int) < (k : Int)) = true := by simp; omega
          have hz' : decide (0 < k) = true := by simp; omega
          have e0 := (hc' (k - 1) (by omega)).1
          have E0 := Lat.cell (B := wr.heap.size) e0 hlt2'
          have hk1 : ((k - 1 : Nat) : Int) < (d.m : Int) := by omega
          have hwr : IntKind.i64.wrap ((k : Int) - 1) = ((k - 1 : Nat) : Int) := by rw [IntKind.wrap_i64]; omega
          by_cases hle : d.ino k ≤ d.ino (k - 1)
          · have hb8 : decide (d.ino k ≤ d.ino (k - 1)) = true := by simp; omega
            have HQ : Hid (false = d.ok) := ok_bad hlt (step_low hk0 hle)
            clear hc' c0 c1 c2 c3 c4 c5 hA' HI e0 hk0
            go_wp2_with fail
            refine wp_region_lat (B := wr.heap.size) (w0 := wr) (by kernel_rfl) (by kernel_rfl) (Below.refl _ _) ?_
            repeat (go_big_quiet_step (exact hcall.out _))
            refine wpQuiet_nil ?_
            rintro _ ⟨nq, rfl⟩
            have HB : Hid (Below w.heap.size w nq.val) := (HIN.out.1.below nq.bel).bel
            clear hcall C0 C1 C2 C3 C4 C5 E0 T0 T1 T2 T3 t0 t1 t2 t3
            go_wp2
            go_ret
            exact ⟨HB.out, ret_bool HQ.out⟩
          · have hb8 : decide (d.ino k ≤ d.ino (k - 1)) = false := by simp; omega
            have HS : Hid (stepIn d k = true) := step_more HI.out (by omega)
            clear hc' c0 c1 c2 c3 c4 c5 hA' HI e0 hk0
            go_wp2_with fail
            refine wp_region_lat (B := wr.heap.size) (w0 := wr) (by kernel_rfl) (by kernel_rfl) (Below.refl _ _) ?_
            repeat (go_big_quiet_step (exact hcall.out _))
            refine wpQuiet_nil ?_
            rintro _ ⟨nq, rfl⟩
            have HB : Hid (D1In w d l 31 nq.val) := HIN.out.1.below nq.bel
            clear hcall C0 C1 C2 C3 C4 C5 E0 T0 T1 T2 T3 t0 t1 t2 t3
            go_wp2
            go_roundw
            case rel => exact ⟨k + 1, by omega, by go_num, HB.out, itsIn_succ HIN.out.2 HS.out⟩
            case measure => simp [intOf]; omega
    · obtain rfl : k = d.m := by omega
      have HK : Hid (true = d.ok ∧ Below w.heap.size w wr) := ⟨by unfold Dp.ok; rw [HH.out, heq]; rfl, hin.bel⟩
      clear hin heq
      go_wp2
      go_ret
      exact ⟨HK.out.2, ret_bool HK.out.1⟩
end Go.Proofs.Ytoblndhmkehoaaa

/-
  What DumpOk of the program answers.
-/
namespace Go.Proofs.Ytoblndhmkehoaaa
open Go.RowKit
set_option linter.unusedVariables false

theorem kidIn_eq (n : Nat) (Z : Nat → Bool) (z : Int) : kidIn n Z z = (!(z == 0) && liveIn n Z z) := by
  unfold kidIn liveIn
  by_cases h : z = 0
  · subst h; simp
  · by_cases h1 : 1 ≤ z
    · simp [h, h1, show 0 ≤ z by omega]
    · simp [h1, show ¬ 0 ≤ z by omega]

set_option maxHeartbeats 1000000 in
theorem liveKids_any (a : Option Addr) (m c : Nat) (K : Nat → Int) (Z : Nat → Bool) (n : Nat) (w : World) (hS : IsInts w a m K) (hK : ∀ i, i < m → In64 (K i)) (hm : m ≤ maxLen) (hn : n ≤ 10) :
    Calls Try.prog 58 #[.slice a m c, .int .u16 (bvv Z n : Nat)] w fun e w' => w' = w ∧ e = .returned (.bool (kidsIn n Z K m)) := by
  unfold maxLen at hm
  go_enter Try.func58, Try.ntmps58
  go_wp2
  go_loopw [9] (fun i wr => ∃ k : Nat, k ≤ m ∧ i = .int .i64 k ∧ wr = w ∧ kidsIn n Z K k = true) (fun i _ => m - (intOf i).toNat)
  case atStart => exact ⟨0, Nat.zero_le _, rfl, rfl, rfl⟩
  case round =>
    obtain ⟨k, hk, rfl, rfl, heq⟩ := hrel
    have HE : Hid (kidsIn n Z K k = true) := heq
    clear heq
    by_cases hlt : k < m
    · obtain ⟨b, off, rfl, hlt2, hc⟩ := hS.at hlt
      have g0 := hc k hlt
      have hlti : (k : Int) < (m : Int) := by omega
      clear hc
      cases hz : (K k == 0) with
      | true =>
        have HX : Hid (kidsIn n Z K m = false) := kidsIn_bad hlt (by rw [kidIn_eq, hz]; rfl)
        go_wp2_with fail
        go_ret
        exact ⟨rfl, ret_bool HX.out.symm⟩
      | false =>
        have HC : Hid (Calls Try.prog 38 #[.int .u16 (bvv Z n : Nat), .int .i64 (K k)] wr fun e w' => w' = wr ∧ e = .returned (.bool (liveIn n Z (K k)))) := has_any Z n (K k) wr hn (hK k hlt)
        have HZ : Hid ((K k == 0) = false) := hz
        go_wp2_with fail
        refine HC.out.mono ?_
        rintro e w' ⟨rfl, rfl⟩
        cases hl : liveIn n Z (K k) with
        | false =>
          have HX : Hid (kidsIn n Z K m = false) := kidsIn_bad hlt (by rw [kidIn_eq, hl]; simp)
          clear hl HC
          go_wp2
          go_ret
          exact ⟨rfl, ret_bool HX.out.symm⟩
        | true =>
          have HX : Hid (kidIn n Z (K k) = true) := by show _ = _; rw [kidIn_eq, hl, HZ.out]; rfl
          clear hl HC
          go_wp2
          go_roundw
          case rel => exact ⟨k + 1, by omega, by go_num, by trivial, kidsIn_succ HE.out HX.out⟩
          case measure => simp [intOf]; omega
    · obtain rfl : k = m := by omega
      go_wp2
      go_ret
      exact ⟨rfl, ret_bool HE.out.symm⟩

set_option maxHeartbeats 2000000 in
theorem itemOk_any (d : Dp) (o : Int) (x : Nd) (lo : Loc) (w : World) (hI : NdIn w x lo) (hf : x.Fits) (hn : d.ln ≤ 10) (ho : 0 ≤ o) :
    Calls Try.prog 39 #[itV o x lo, .int .u16 (bvv d.live d.ln : Nat)] w fun e w' => Below w.heap.size w w' ∧ e = .returned (.bool (nodeIn d o x)) := by
  unfold itV
  have HEND : Hid (∀ (c0 : Array Value) (t0 : TypeId), Below w.heap.size w (w.alloc (.cells c0 t0))) := fun c0 t0 => (Below.refl _ _).alloc (Nat.le_refl _) _
  by_cases k1 : x.kind = 1
  · have c1 : (x.kind == 1) = true := by simp [k1]
    have H : Hid ((fileIs x && decide (0 < o)) = nodeIn d o x) := by show _ = _; unfold nodeIn; rw [if_pos k1]
    clear k1
    by_cases h0 : o = 0
    · have hb0 : (o != 0) = false := by simp [h0]
      have HX : Hid (false = nodeIn d o x) := by show _ = _; rw [← H.out, decide_eq_false (show ¬ 0 < o by omega)]; simp
      clear h0
      go_enter Try.func39, Try.ntmps39
      go_wp2_with fail
      go_ret
      exact ⟨HEND.out _ _, ret_bool HX.out⟩
    · have hb0 : (o != 0) = true := by simp [h0]
      have HX : Hid (fileIs x = nodeIn d o x) := by show _ = _; rw [← H.out, decide_eq_true (show 0 < o by omega)]; simp
      clear h0
      go_enter Try.func39, Try.ntmps39
      go_wp2_with fail
      refine at_world (F := New1 w _ _) (new1 w _ _) ?_
      rintro W ⟨hp, hb, hs⟩
      refine (implFileOk_any x lo W hf).mono ?_
      rintro e w1 ⟨hb1, rfl⟩
      have HB : Hid (Below w.heap.size w w1) := hb.trans (hb1.mono (by omega))
      clear hp hb hb1
      rw [HX.out]
      go_wp2
      go_ret
      exact ⟨HB.out, rfl⟩
  · have c1 : (x.kind == 1) = false := by simp [k1]
    by_cases k2 : x.kind = 2
    · have c2 : (x.kind == 2) = true := by simp [k2]
      have H : Hid ((dirIs x && kidsIn d.ln d.live x.kids x.kn) = nodeIn d o x) := by show _ = _; unfold nodeIn; rw [if_neg k1, if_pos k2]
      clear k1 k2
      go_enter Try.func39, Try.ntmps39
      go_wp2_with fail
      refine at_world (F := New1 w _ _) (new1 w _ _) ?_
      rintro W ⟨hp, hb, hs⟩
      refine (implDirOk_any x lo W (hI.below (Nat.le_refl _) hb) hf).mono ?_
      rintro e w1 ⟨hb1, rfl⟩
      have p4 : w1.cell? ⟨w.heap.size, 4, none⟩ = some (.slice lo.kA x.kn lo.kc) := (hp.below hb1 (by omega)).cell 4
      have HB : Hid (Below w.heap.size w w1) := hb.trans (hb1.mono (by omega))
      clear hp hb hb1
      cases hd : dirIs x with
      | false =>
        have HX : Hid (false = nodeIn d o x) := by show _ = _; rw [← H.out, hd]; rfl
        clear hd
        go_wp2_with fail
        go_ret
        exact ⟨HB.out, ret_bool HX.out⟩
      | true =>
        have HX : Hid (kidsIn d.ln d.live x.kids x.kn = nodeIn d o x) := by show _ = _; rw [← H.out, hd]; rfl
        clear hd
        go_wp2_with fail
        refine (liveKids_any lo.kA x.kn lo.kc x.kids d.live d.ln w1 (hI.2.below (Nat.le_refl _) HB.out) hf.kids hf.kn hn).mono ?_
        rintro e w2 ⟨rfl, rfl⟩
        rw [HX.out]
        clear p4
        go_wp2
        go_ret
        exact ⟨HB.out, rfl⟩
    · have c2 : (x.kind == 2) = false := by simp [k2]
      have HX : Hid (false = nodeIn d o x) := by show _ = _; unfold nodeIn; rw [if_neg k1, if_neg k2]
      clear k1 k2
      go_enter Try.func39, Try.ntmps39
      go_wp2_with fail
      go_ret
      exact ⟨HEND.out _ _, ret_bool HX.out⟩
end Go.Proofs.Ytoblndhmkehoaaa

/-
  What DumpOk of the program answers.
-/
namespace Go.Proofs.Ytoblndhmkehoaaa
open Go.RowKit
set_option linter.unusedVariables false

/-- The Ino of the place ahead. -/
def lastOf (d : Dp) (k : Nat) : Int := if k = 0 then -1 else d.ino (k - 1)

theorem last_low {d : Dp} {k : Nat} (h : d.ino k ≤ lastOf d k) : stepIn d k = false := by
  unfold lastOf at h
  by_cases hk : k = 0
  · subst hk
    rw [if_pos rfl] at h
    refine step_item (it_dead (x := d.nd 0) ?_).symm
    unfold liveIn
    rw [decide_eq_false (show ¬ 0 ≤ d.ino 0 by omega)]
    rfl
  · rw [if_neg hk] at h
    exact step_low hk h

theorem last_more {d : Dp} {k : Nat} (h : ¬ d.ino k ≤ lastOf d k) (hi : itIn d (d.ino k) (d.nd k) = true) : stepIn d k = true := by
  unfold lastOf at h
  by_cases hk : k = 0
  · subst hk; exact step_zero hi
  · rw [if_neg hk] at h
    exact step_more hi (by omega)

theorem last_succ (d : Dp) (k : Nat) : lastOf d (k + 1) = d.ino k := by unfold lastOf; simp

theorem turnIn_no {z y : Int} (h : z < 1 ∨ y < z) : turnIn z y = false := by
  unfold turnIn
  rcases h with h | h
  · rw [decide_eq_false (show ¬ 1 ≤ z by omega)]; rfl
  · rw [decide_eq_false (show ¬ z ≤ y by omega)]; simp
theorem turnIn_yes {z y : Int} (h : 1 ≤ z) (h' : z ≤ y) : turnIn z y = true := by unfold turnIn; rw [decide_eq_true h, decide_eq_true h']; rfl

/-- What is known within a round: what is kept, and a place that was turned in a variable. -/
structure D2In (w wr : World) (d : Dp) (l : DLoc) (o : Int) (x : Nd) (lo : Loc) (W : World) : Prop where
  d1 : D1In w d l 31 W
  x : Blk W wr.heap.size #[.int .i64 o, .int .i64 x.kind, .string x.text, .slice lo.nA x.nn lo.nc, .slice lo.kA x.kn lo.kc, .int .i64 x.turn] 40

theorem D2In.below {w wr : World} {d : Dp} {l : DLoc} {o : Int} {x : Nd} {lo : Loc} {W W' : World} (h : D2In w wr d l o x lo W) (hb : Below W.heap.size W W') : D2In w wr d l o x lo W' := ⟨h.d1.below hb, h.x.below hb h.x.lt⟩

set_option maxHeartbeats 4000000 in
theorem implDumpOk_any (d : Dp) (l : DLoc) (w : World) (hD : DpIn w d l) (hfd : d.Fits) :
    Calls Try.prog 12 #[dpV d l] w fun e w' => Below w.heap.size w w' ∧ e = .returned (.bool d.ok) := by
  have hln := hfd.ln
  have hm := hfd.m
  unfold maxLen at hln hm
  unfold dpV
  have HEND : Hid (∀ (c0 : Array Value) (t0 : TypeId), Below w.heap.size w (w.alloc (.cells c0 t0))) := fun c0 t0 => (Below.refl _ _).alloc (Nat.le_refl _) _
  by_cases h1 : d.since < 0
  · have hb1 : decide (d.since < 0) = true := by simp; omega
    have HX : Hid (false = d.ok) := head_1 h1
    go_enter Try.func12, Try.ntmps12
    go_wp2_with fail
    go_ret
    exact ⟨HEND.out _ _, ret_bool HX.out⟩
  have hb1 : decide (d.since < 0) = false := by simp; omega
  by_cases h2 : d.date < d.since
  · have hb2 : decide (d.date < d.since) = true := by simp; omega
    have HX : Hid (false = d.ok) := head_2 h2
    go_enter Try.func12, Try.ntmps12
    go_wp2_with fail
    go_ret
    exact ⟨HEND.out _ _, ret_bool HX.out⟩
  have hb2 : decide (d.date < d.since) = false := by simp; omega
  by_cases h3 : d.date < 1 ∨ 1000 < d.date
  · have HX : Hid (false = d.ok) := h3.elim head_3 head_4
    have HT : Hid (turnIn d.date 1000 = false) := turnIn_no h3
    clear h3
    go_enter Try.func12, Try.ntmps12
    go_wp2_with fail
    refine (turnOk_any d.date 1000 _).mono ?_
    rintro e w' ⟨rfl, rfl⟩
    rw [HT.out]
    go_wp2_with fail
    go_ret
    exact ⟨HEND.out _ _, ret_bool HX.out⟩
  have h3a : ¬ d.date < 1 := fun h => h3 (Or.inl h)
  have h3b : ¬ 1000 < d.date := fun h => h3 (Or.inr h)
  have HT : Hid (turnIn d.date 1000 = true) := turnIn_yes (by omega) (by omega)
  clear h3
  by_cases h5 : d.ln < 1
  · have hb5 : decide ((d.ln : Int) < 1) = true := by simp; omega
    have HX : Hid (false = d.ok) := head_5 h5
    clear h5
    go_enter Try.func12, Try.ntmps12
    go_wp2_with fail
    refine (turnOk_any d.date 1000 _).mono ?_
    rintro e w' ⟨rfl, rfl⟩
    rw [HT.out]
    go_wp2_with fail
    go_ret
    exact ⟨HEND.out _ _, ret_bool HX.out⟩
  have hb5 : decide ((d.ln : Int) < 1) = false := by simp; omega
  by_cases h6 : 10 < d.ln
  · have hb6 : decide ((10 : Int) < (d.ln : Int)) = true := by simp; omega
    have HX : Hid (false = d.ok) := head_6 h6
    go_enter Try.func12, Try.ntmps12
    go_wp2_with fail
    refine (turnOk_any d.date 1000 _).mono ?_
    rintro e w' ⟨rfl, rfl⟩
    rw [HT.out]
    go_wp2_with fail
    go_ret
    exact ⟨HEND.out _ _, ret_bool HX.out⟩
  have hb6 : decide ((10 : Int) < (d.ln : Int)) = false := by simp; omega
  have h0n : 0 < d.ln := by omega
  have h0i : (0 : Int) < (d.ln : Int) := by omega
  have h10 : d.ln ≤ 10 := by omega
  obtain ⟨b, off, hA, hlt2, hc⟩ := hD.live.at h0n
  have g0 := hc 0 h0n
  rw [Nat.add_zero] at g0
  have hbne : b ≠ w.heap.size := by omega
  have HLA : Hid (l.lA = some ⟨b, off, none⟩) := hA
  rw [hA]
  clear hc hA
  cases h7 : d.live 0 with
  | false =>
    have HX : Hid (false = d.ok) := head_7 h7
    rw [h7] at g0
    clear h7
    go_enter Try.func12, Try.ntmps12
    go_wp2_with fail
    refine (turnOk_any d.date 1000 _).mono ?_
    rintro e w' ⟨rfl, rfl⟩
    rw [HT.out]
    go_wp2_with fail
    go_ret
    exact ⟨HEND.out _ _, ret_bool HX.out⟩
  | true =>
  have HH : Hid (headIn d = true) := head_yes h1 h2 h3a h3b h5 h6 h7
  rw [h7] at g0
  clear h7
  go_enter Try.func12, Try.ntmps12
  go_wp2_with fail
  refine (turnOk_any d.date 1000 _).mono ?_
  rintro e w' ⟨rfl, rfl⟩
  rw [HT.out]
  go_wp2_with fail
  refine at_world (F := New1 w _ _) (new1 w _ _) ?_
  rintro W ⟨hp, hb, hs⟩
  have hbl := bitsOfList_any l.lA d.ln l.lc d.live W (hD.live.below (Nat.le_refl _) hb) h10
  rw [HLA.out] at hbl
  refine hbl.mono ?_
  rintro e w' ⟨rfl, rfl⟩
  have HW : Hid (D1In w d l 31 w') := ⟨by rw [HLA.out]; exact hp, hb⟩
  have t3 : w'.cell? ⟨w.heap.size, 3, none⟩ = some (.slice l.iA d.m l.ic) := hp.cell 3
  clear hp hb hs hbl
  generalize hbv : (bvv d.live d.ln : Nat) = bv
  have HBV : Hid (bvv d.live d.ln = bv) := hbv
  clear hbv
  go_wp2_with fail
  go_loopw [4, 46] (fun v i wr => ∃ k : Nat, k ≤ d.m ∧ i = .int .i64 k ∧ v = .int .i64 (lastOf d k) ∧ D1In w d l 31 wr ∧ itsIn d k = true) (fun _ i _ => d.m - (intOf i).toNat)
  case atStart => exact ⟨0, Nat.zero_le _, rfl, rfl, HW.out, rfl⟩
  case round =>
    obtain ⟨k, hk, rfl, rfl, hin, heq⟩ := hrel
    have hwl := hin.p.lt
    by_cases hlt : k < d.m
    · obtain ⟨b', off', hA', hlt2', hc'⟩ := (hD.items.below (Nat.le_refl _) hin.bel).at hlt
      obtain ⟨c0, c1, c2, c3, c4, c5, hN⟩ := hc' k hlt
      have hIA : Hid (l.iA = some ⟨b', off', none⟩) := hA'
      have hlti : (k : Int) < (d.m : Int) := by omega
      have hb'ne : b' ≠ wr.heap.size := by omega
      have hwne : w.heap.size ≠ wr.heap.size := by omega
      have HNI : Hid (NdIn wr (d.nd k) (l.L k)) := hN
      have HIN : Hid (D1In w d l 31 wr ∧ itsIn d k = true) := ⟨hin, heq⟩
      have ho := hfd.ino k hlt
      have hW2 : D2In w wr d l (d.ino k) (d.nd k) (l.L k) (wr.alloc (.cells #[.int .i64 (d.ino k), .int .i64 (d.nd k).kind, .string (d.nd k).text, .slice (l.L k).nA (d.nd k).nn (l.L k).nc, .slice (l.L k).kA (d.nd k).kn (l.L k).kc, .int .i64 (d.nd k).turn] 40)) := ⟨hin.below ((Below.refl _ _).alloc (Nat.le_refl _) _), Blk.new wr _ _⟩
      have HW2 : Hid _ := hW2
      have HNI2 : Hid (NdIn (wr.alloc (.cells #[.int .i64 (d.ino k), .int .i64 (d.nd k).kind, .string (d.nd k).text, .slice (l.L k).nA (d.nd k).nn (l.L k).nc, .slice (l.L k).kA (d.nd k).kn (l.L k).kc, .int .i64 (d.nd k).turn] 40)) (d.nd k) (l.L k)) := hN.below (Nat.le_refl _) ((Below.refl _ _).alloc (Nat.le_refl _) _)
      clear hc' hN hin heq hW2
      rw [hA']
      clear hA'
      by_cases hlo : d.ino k ≤ lastOf d k
      · have hb8 : decide (d.ino k ≤ lastOf d k) = true := by simp; omega
        have HX : Hid (false = d.ok) := ok_bad hlt (last_low hlo)
        clear hlo
        go_wp2_with fail
        go_ret
        exact ⟨HW2.out.d1.bel, ret_bool HX.out⟩
      · have hb8 : decide (d.ino k ≤ lastOf d k) = false := by simp; omega
        have HLO : Hid (¬ d.ino k ≤ lastOf d k) := hlo
        clear hlo
        go_wp2_with fail
        refine at_world (F := fun W => D2In w wr d l (d.ino k) (d.nd k) (l.L k) W ∧ NdIn W (d.nd k) (l.L k)) ⟨HW2.out, HNI2.out⟩ ?_
        rintro W ⟨hd2, hni⟩
        have hha := has_any d.live d.ln (d.ino k) W h10 ho
        rw [HBV.out] at hha
        refine hha.mono ?_
        rintro e w2 ⟨rfl, rfl⟩
        have x0 : w2.cell? ⟨wr.heap.size, 0, none⟩ = some (.int .i64 (d.ino k)) := hd2.x.cell 0
        have x1 : w2.cell? ⟨wr.heap.size, 1, none⟩ = some (.int .i64 (d.nd k).kind) := hd2.x.cell 1
        have x2 : w2.cell? ⟨wr.heap.size, 2, none⟩ = some (.string (d.nd k).text) := hd2.x.cell 2
        have x3 : w2.cell? ⟨wr.heap.size, 3, none⟩ = some (.slice (l.L k).nA (d.nd k).nn (l.L k).nc) := hd2.x.cell 3
        have x4 : w2.cell? ⟨wr.heap.size, 4, none⟩ = some (.slice (l.L k).kA (d.nd k).kn (l.L k).kc) := hd2.x.cell 4
        have x5 : w2.cell? ⟨wr.heap.size, 5, none⟩ = some (.int .i64 (d.nd k).turn) := hd2.x.cell 5
        have HD2 : Hid (D2In w wr d l (d.ino k) (d.nd k) (l.L k) w2 ∧ NdIn w2 (d.nd k) (l.L k)) := ⟨hd2, hni⟩
        clear hd2 hni hha HW2 HNI2 c0 c1 c2 c3 c4 c5 HNI
        cases hlv : liveIn d.ln d.live (d.ino k) with
        | false =>
          have HX : Hid (false = d.ok) := ok_bad hlt (step_item (it_dead (x := d.nd k) hlv).symm)
          clear hlv
          go_wp2_with fail
          go_ret
          exact ⟨HD2.out.1.d1.bel, ret_bool HX.out⟩
        | true =>
          have HL : Hid (liveIn d.ln d.live (d.ino k) = true) := hlv
          have ho0 : 0 ≤ d.ino k := by
            unfold liveIn at hlv
            simp at hlv
            exact hlv.1.1
          clear hlv
          go_wp2_with fail
          have hio := itemOk_any d (d.ino k) (d.nd k) (l.L k) w2 HD2.out.2 (hfd.nds k hlt) h10 ho0
          rw [HBV.out] at hio
          refine hio.mono ?_
          rintro e w3 ⟨hb3, rfl⟩
          have hd3 := HD2.out.1.below hb3
          have X0 : w3.cell? ⟨wr.heap.size, 0, none⟩ = some (.int .i64 (d.ino k)) := hd3.x.cell 0
          have X5 : w3.cell? ⟨wr.heap.size, 5, none⟩ = some (.int .i64 (d.nd k).turn) := hd3.x.cell 5
          have T0 : w3.cell? ⟨w.heap.size, 0, none⟩ = some (.int .i64 d.since) := hd3.d1.p.cell 0
          have T1 : w3.cell? ⟨w.heap.size, 1, none⟩ = some (.int .i64 d.date) := hd3.d1.p.cell 1
          have HD3 : Hid (D1In w d l 31 w3) := hd3.d1
          clear hb3 hd3 hio HD2 x0 x1 x2 x3 x4 x5
          cases hnd : nodeIn d (d.ino k) (d.nd k) with
          | false =>
            have HX : Hid (false = d.ok) := ok_bad hlt (step_item (by unfold itIn; rw [hnd]; simp))
            clear hnd
            go_wp2_with fail
            go_ret
            exact ⟨HD3.out.bel, ret_bool HX.out⟩
          | true =>
            have HND : Hid (nodeIn d (d.ino k) (d.nd k) = true) := hnd
            clear hnd
            by_cases h8 : (d.nd k).turn ≤ d.since
            · have hb9 : decide ((d.nd k).turn ≤ d.since) = true := by simp; omega
              have HX : Hid (false = d.ok) := ok_bad hlt (step_item (it_turn (o := d.ino k) (by unfold turnedIn; rw [decide_eq_false (show ¬ d.since < (d.nd k).turn by omega)]; rfl)).symm)
              clear h8
              go_wp2_with fail
              go_ret
              exact ⟨HD3.out.bel, ret_bool HX.out⟩
            · have hb9 : decide ((d.nd k).turn ≤ d.since) = false := by simp; omega
              by_cases h9 : d.date < (d.nd k).turn
              · have hb10 : decide (d.date < (d.nd k).turn) = true := by simp; omega
                have HX : Hid (false = d.ok) := ok_bad hlt (step_item (it_turn (o := d.ino k) (by unfold turnedIn; rw [decide_eq_false (show ¬ (d.nd k).turn ≤ d.date by omega)]; simp)).symm)
                clear h8 h9
                go_wp2_with fail
                go_ret
                exact ⟨HD3.out.bel, ret_bool HX.out⟩
              · have hb10 : decide (d.date < (d.nd k).turn) = false := by simp; omega
                have HI : Hid (itIn d (d.ino k) (d.nd k) = true) := by
                  show _ = _
                  rw [← it_node HL.out (by unfold turnedIn; rw [decide_eq_true (show d.since < (d.nd k).turn by omega), decide_eq_true (show (d.nd k).turn ≤ d.date by omega)]; rfl)]
                  exact HND.out
                have HS : Hid (stepIn d k = true) := last_more (by have := HLO.out; omega) HI.out
                clear h8 h9
                go_wp2_with fail
                go_roundw
                case rel => exact ⟨k + 1, by omega, by go_num, by rw [last_succ], HD3.out, itsIn_succ HIN.out.2 HS.out⟩
                case measure => simp [intOf]; omega
    · obtain rfl : k = d.m := by omega
      have HK : Hid (true = d.ok ∧ Below w.heap.size w wr) := ⟨by unfold Dp.ok; rw [HH.out, heq]; rfl, hin.bel⟩
      clear hin heq
      go_wp2
      go_ret
      exact ⟨HK.out.2, ret_bool HK.out.1⟩
end Go.Proofs.Ytoblndhmkehoaaa

/-
  A tree that a draw has made, as it lies in memory: its places in a row of their own, their lists elsewhere; what writing into the row leaves. Plain facts.
-/
namespace Go.Proofs.Ytoblndhmkehoaaa
open Go.RowKit Go.Deep
set_option linter.unusedVariables false

/-- An address, if it is one, is of a block that was there, not below B and not g. -/
def Off (W : World) (B g : Nat) (a : Option Addr) : Prop := ∀ b o x, a = some ⟨b, o, x⟩ → B ≤ b ∧ b ≠ g ∧ b < W.heap.size

/-- n places lie in block g, which is one's own from B on, with room for cap of them; their lists lie in other blocks. -/
structure OwnT (W : World) (B g cap n : Nat) (D : Nat → Nd) (L : Nat → Loc) : Prop where
  blk : ∃ cur : Array Value, W.heap[g]? = some (.cells cur 38 (0, 0)) ∧ cur.size = cap * 5
  base : B ≤ g
  room : n ≤ cap
  most : cap ≤ maxLen
  cells : ∀ i, i < n → W.cell? ⟨g, i * 5, none⟩ = some (.int .i64 (D i).kind) ∧ W.cell? ⟨g, i * 5 + 1, none⟩ = some (.string (D i).text) ∧
    W.cell? ⟨g, i * 5 + 2, none⟩ = some (.slice (L i).nA (D i).nn (L i).nc) ∧ W.cell? ⟨g, i * 5 + 3, none⟩ = some (.slice (L i).kA (D i).kn (L i).kc) ∧ W.cell? ⟨g, i * 5 + 4, none⟩ = some (.int .i64 (D i).turn)
  lists : ∀ i, i < n → NdIn W (D i) (L i) ∧ Off W B g (L i).nA ∧ Off W B g (L i).kA

section
variable {W W' : World} {B g cap n : Nat} {D D' : Nat → Nd} {L L' : Nat → Loc}

theorem OwnT.lt (h : OwnT W B g cap n D L) : g < W.heap.size := by
  obtain ⟨cur, hb, _⟩ := h.blk
  exact (Array.getElem?_eq_some_iff.1 hb).1

theorem OwnT.frozen (h : OwnT W B g cap n D L) (k : Nat) : W.frozen? ⟨g, k, none⟩ = false := by
  obtain ⟨cur, hb, _⟩ := h.blk
  simp [World.frozen?, hb]

theorem OwnT.nds (h : OwnT W B g cap n D L) : IsNds W (some ⟨g, 0, none⟩) n D L :=
  Or.inr ⟨g, 0, rfl, h.lt, fun i hi => by
    obtain ⟨h0, h1, h2, h3, h4⟩ := h.cells i hi
    rw [Nat.zero_add]
    exact ⟨h0, h1, h2, h3, h4, (h.lists i hi).1⟩⟩

theorem Off.grow {a : Option Addr} (h : Off W B g a) (hs : W.heap.size ≤ W'.heap.size) : Off W' B g a := fun b o x e => by
  obtain ⟨h1, h2, h3⟩ := h b o x e
  exact ⟨h1, h2, by omega⟩

theorem IsStrs.of_blocks {a : Option Addr} {k : Nat} {S : Nat → ByteArray} (h : IsStrs W a k S) (hs : W.heap.size ≤ W'.heap.size) (hb : ∀ b o x, a = some ⟨b, o, x⟩ → W'.heap[b]? = W.heap[b]?) : IsStrs W' a k S := by
  rcases h with h | ⟨b, off, rfl, hlt, hc⟩
  · exact Or.inl h
  · exact Or.inr ⟨b, off, rfl, by omega, fun i hi => by rw [← hc i hi]; exact World.cell?_of_block (hb b off none rfl)⟩

theorem IsInts.of_blocks {a : Option Addr} {k : Nat} {Z : Nat → Int} (h : IsInts W a k Z) (hs : W.heap.size ≤ W'.heap.size) (hb : ∀ b o x, a = some ⟨b, o, x⟩ → W'.heap[b]? = W.heap[b]?) : IsInts W' a k Z := by
  rcases h with h | ⟨b, off, rfl, hlt, hc⟩
  · exact Or.inl h
  · exact Or.inr ⟨b, off, rfl, by omega, fun i hi => by rw [← hc i hi]; exact World.cell?_of_block (hb b off none rfl)⟩

/-- What turns nothing but a block below B leaves it. -/
theorem OwnT.grown {r : Nat} (h : OwnT W B g cap n D L) (hg : W.grownBy W' (some r)) (hr : r < B) : OwnT W' B g cap n D L := by
  have hb : ∀ b, B ≤ b → b < W.heap.size → W'.heap[b]? = W.heap[b]? := fun b h1 h2 => hg.block b h2 (by simp; omega)
  have hgb := hb g h.base h.lt
  have hc : ∀ k, W'.cell? ⟨g, k, none⟩ = W.cell? ⟨g, k, none⟩ := fun k => World.cell?_of_block hgb
  refine ⟨?_, h.base, h.room, h.most, fun i hi => ?_, fun i hi => ?_⟩
  · rw [hgb]; exact h.blk
  · rw [hc, hc, hc, hc, hc]; exact h.cells i hi
  · obtain ⟨⟨h1, h2⟩, h3, h4⟩ := h.lists i hi
    exact ⟨⟨h1.of_blocks hg.size (fun b o x e => hb b (h3 b o x e).1 (h3 b o x e).2.2), h2.of_blocks hg.size (fun b o x e => hb b (h4 b o x e).1 (h4 b o x e).2.2)⟩, h3.grow hg.size, h4.grow hg.size⟩

theorem OwnT.below (h : OwnT W B g cap n D L) (hb : Below W.heap.size W W') : OwnT W' B g cap n D L := by
  have hgb : W'.heap[g]? = W.heap[g]? := hb.block g h.lt
  have hc : ∀ k, W'.cell? ⟨g, k, none⟩ = W.cell? ⟨g, k, none⟩ := fun k => World.cell?_of_block hgb
  refine ⟨?_, h.base, h.room, h.most, fun i hi => ?_, fun i hi => ?_⟩
  · rw [hgb]; exact h.blk
  · rw [hc, hc, hc, hc, hc]; exact h.cells i hi
  · obtain ⟨h1, h3, h4⟩ := h.lists i hi
    exact ⟨h1.below (Nat.le_refl _) hb, h3.grow hb.size, h4.grow hb.size⟩

/-- A cell of the row is written. -/
theorem OwnT.set (h : OwnT W B g cap n D L) {k : Nat} {v : Value}
    (hc : ∀ i, i < n → (if i * 5 = k then some v else W.cell? ⟨g, i * 5, none⟩) = some (.int .i64 (D' i).kind) ∧ (if i * 5 + 1 = k then some v else W.cell? ⟨g, i * 5 + 1, none⟩) = some (.string (D' i).text) ∧
      (if i * 5 + 2 = k then some v else W.cell? ⟨g, i * 5 + 2, none⟩) = some (.slice (L' i).nA (D' i).nn (L' i).nc) ∧ (if i * 5 + 3 = k then some v else W.cell? ⟨g, i * 5 + 3, none⟩) = some (.slice (L' i).kA (D' i).kn (L' i).kc) ∧ (if i * 5 + 4 = k then some v else W.cell? ⟨g, i * 5 + 4, none⟩) = some (.int .i64 (D' i).turn))
    (hl : ∀ i, i < n → NdIn W (D' i) (L' i) ∧ Off W B g (L' i).nA ∧ Off W B g (L' i).kA) : OwnT (W.setCell ⟨g, k, none⟩ v) B g cap n D' L' := by
  obtain ⟨cur, hb, hcs⟩ := h.blk
  have hs : (W.setCell ⟨g, k, none⟩ v).heap.size = W.heap.size := by simp [World.setCell]
  have hcell : ∀ j, j < cap * 5 → (W.setCell ⟨g, k, none⟩ v).cell? ⟨g, j, none⟩ = if j = k then some v else W.cell? ⟨g, j, none⟩ := fun j hj => by
    have hset : (W.setCell ⟨g, k, none⟩ v).heap[g]? = some (.cells (cur.setIfInBounds k v) 38 (0, 0)) := by simp [World.setCell, Array.getElem?_modify, hb]
    simp only [World.cell?, hset, hb]
    by_cases e : j = k
    · subst e; simp [hcs, hj]
    · simp [e, Ne.symm e]
  have hoth : ∀ b, b ≠ g → (W.setCell ⟨g, k, none⟩ v).heap[b]? = W.heap[b]? := fun b hbg => blk_setCell_other _ _ _ _ hbg
  have hroom := h.room
  refine ⟨⟨cur.setIfInBounds k v, by simp [World.setCell, Array.getElem?_modify, hb], by simp [hcs]⟩, h.base, h.room, h.most, fun i hi => ?_, fun i hi => ?_⟩
  · rw [hcell _ (by omega), hcell _ (by omega), hcell _ (by omega), hcell _ (by omega), hcell _ (by omega)]
    exact hc i hi
  · obtain ⟨⟨h1, h2⟩, h3, h4⟩ := hl i hi
    exact ⟨⟨h1.of_blocks (by omega) (fun b o x e => hoth b (h3 b o x e).2.1), h2.of_blocks (by omega) (fun b o x e => hoth b (h4 b o x e).2.1)⟩, h3.grow (by omega), h4.grow (by omega)⟩
end
end Go.Proofs.Ytoblndhmkehoaaa

/-
  What l2With does: a directory with a name more, in new memory.
-/
namespace Go.Proofs.Ytoblndhmkehoaaa
open Go.RowKit Go.Deep
set_option linter.unusedVariables false

/-- Numbers, as cells. -/
def intv (L : List Int) : List Value := L.map (Value.int .i64)
theorem intv_length (L : List Int) : (intv L).length = L.length := by simp [intv]
theorem intv_append (L M : List Int) : intv L ++ intv M = intv (L ++ M) := by simp [intv]
theorem intv_one (L : List Int) : ∀ u ∈ intv L, u.oneCell' = true := by
  intro u hu
  simp only [intv, List.mem_map] at hu
  obtain ⟨s, _, rfl⟩ := hu
  rfl

/-- The cells of a place. -/
def ndA (d : Nd) (l : Loc) : Array Value := #[.int .i64 d.kind, .string d.text, .slice l.nA d.nn l.nc, .slice l.kA d.kn l.kc, .int .i64 d.turn]
/-- The cells of a directory that is being made. -/
def outA (kind turn : Int) (vN vK : Value) : Array Value := #[.int .i64 kind, .string ByteArray.empty, vN, vK, .int .i64 turn]

/-- What is known within l2With. -/
structure WI (w : World) (d : Nd) (l : Loc) (NL : List ByteArray) (KL : List Int) (vN vK : Value) (W : World) : Prop where
  p : Blk W w.heap.size (ndA d l) 38
  r : Blk W (w.heap.size + 1) (outA 0 0 (.slice none 0 0) (.slice none 0 0)) 38
  o : Blk W (w.heap.size + 2) (outA d.kind d.turn vN vK) 38
  names : W.ownsRow (w.heap.size + 3) 9 1 vN NL.length (strv NL)
  kids : W.ownsRow (w.heap.size + 3) 3 1 vK KL.length (intv KL)
  apart : ∀ b, vN.ownBlock = some b → vK.ownBlock ≠ some b
  bel : Below w.heap.size w W
  size : w.heap.size + 3 ≤ W.heap.size

section
variable {w : World} {d : Nd} {l : Loc} {NL : List ByteArray} {KL : List Int} {vN vK : Value} {W W' : World}

theorem own_ge {B e n : Nat} {v : Value} {xs : List Value} (h : W.ownsRow B e 1 v n xs) : ∀ b, v.ownBlock = some b → B ≤ b ∧ b < W.heap.size := fun b hb => h.lt b hb

theorem WI.grow (h : WI w d l NL KL vN vK W) (hg : W.grownBy W' none) : WI w d l NL KL vN vK W' := by
  have hb : ∀ b, b < W.heap.size → W'.heap[b]? = W.heap[b]? := fun b hb => hg.block b hb (by simp)
  have hs := h.size
  exact ⟨h.p.of_block (hb _ (by omega)), h.r.of_block (hb _ (by omega)), h.o.of_block (hb _ (by omega)), h.names.kept hg (by cases hx : vN.ownBlock <;> simp), h.kids.kept hg (by cases hx : vK.ownBlock <;> simp), h.apart, h.bel.grown hg (by omega) (fun g hg => by cases hg), Nat.le_trans hs hg.size⟩

theorem WI.alloc (h : WI w d l NL KL vN vK W) (o : Obj) : WI w d l NL KL vN vK (W.alloc o) := h.grow (World.grownBy_alloc W o none)
theorem grown_drew (W : World) (q : Nat) : W.grownBy (W.drewN q) none := ⟨rfl, rfl, rfl, Nat.le_refl _, fun _ _ _ => rfl⟩
theorem WI.drew (h : WI w d l NL KL vN vK W) (q : Nat) : WI w d l NL KL vN vK (W.drewN q) := h.grow (grown_drew W q)

/-- A name more. -/
theorem WI.nameApp (h : WI w d l NL KL vN vK W) {s : ByteArray} {g cap : Nat} (hown : W'.ownsRow (w.heap.size + 3) 9 1 (.slice (some ⟨g, 0, none⟩) (NL.length + 1) cap) (NL.length + 1) (strv NL ++ strv [s])) (hgrow : W.grownBy W' vN.ownBlock) (hat : vN.ownBlock = some g ∨ g = W.heap.size) :
    WI w d l (NL ++ [s]) KL (.slice (some ⟨g, 0, none⟩) (NL.length + 1) cap) vK (W'.setCell ⟨w.heap.size + 2, 2, none⟩ (.slice (some ⟨g, 0, none⟩) (NL.length + 1) cap)) := by
  have hs := h.size
  have hb : ∀ b, b < w.heap.size + 3 → W'.heap[b]? = W.heap[b]? := fun b hb => hgrow.block b (by omega) (fun e => by have := own_ge h.names b e.symm; omega)
  have hkb : W'.ownsRow (w.heap.size + 3) 3 1 vK KL.length (intv KL) := h.kids.kept hgrow (by
    cases hv : vK.ownBlock with
    | none => exact Or.inl rfl
    | some b => exact Or.inr (fun e => h.apart b e.symm hv))
  have put : ∀ {e n v xs}, W'.ownsRow (w.heap.size + 3) e 1 v n xs → (W'.setCell ⟨w.heap.size + 2, 2, none⟩ (.slice (some ⟨g, 0, none⟩) (NL.length + 1) cap)).ownsRow (w.heap.size + 3) e 1 v n xs := fun hr => ⟨hr.1, by
    rcases hr.2 with h2 | ⟨g', cap', cur, hv, hb', hblk, rest⟩
    · exact Or.inl h2
    · exact Or.inr ⟨g', cap', cur, hv, hb', (blk_setCell_other _ _ _ _ (by show g' ≠ w.heap.size + 2; omega)).trans hblk, rest⟩⟩
  refine ⟨(h.p.of_block (hb _ (by omega))).off _ (by omega), (h.r.of_block (hb _ (by omega))).off _ (by omega), ?_, ?_, put hkb, ?_, bel_put (h.bel.grown hgrow (by omega) (fun b e => by have := own_ge h.names b e; omega)) _ (by omega), by have := hgrow.size; simp [World.setCell]; omega⟩
  · exact (h.o.of_block (hb _ (by omega))).set 2 _
  · rw [List.length_append, ← strv_append]; exact put hown
  · intro b e
    have : g = b := by simpa [Value.ownBlock] using e
    subst this
    rcases hat with hat | hat
    · exact h.apart _ hat
    · intro e2
      have := own_ge h.kids _ e2
      omega

/-- A place more. -/
theorem WI.kidApp (h : WI w d l NL KL vN vK W) {z : Int} {g cap : Nat} (hown : W'.ownsRow (w.heap.size + 3) 3 1 (.slice (some ⟨g, 0, none⟩) (KL.length + 1) cap) (KL.length + 1) (intv KL ++ intv [z])) (hgrow : W.grownBy W' vK.ownBlock) (hat : vK.ownBlock = some g ∨ g = W.heap.size) :
    WI w d l NL (KL ++ [z]) vN (.slice (some ⟨g, 0, none⟩) (KL.length + 1) cap) (W'.setCell ⟨w.heap.size + 2, 3, none⟩ (.slice (some ⟨g, 0, none⟩) (KL.length + 1) cap)) := by
  have hs := h.size
  have hb : ∀ b, b < w.heap.size + 3 → W'.heap[b]? = W.heap[b]? := fun b hb => hgrow.block b (by omega) (fun e => by have := own_ge h.kids b e.symm; omega)
  have hkb : W'.ownsRow (w.heap.size + 3) 9 1 vN NL.length (strv NL) := h.names.kept hgrow (by
    cases hv : vN.ownBlock with
    | none => exact Or.inl rfl
    | some b => exact Or.inr (fun e => h.apart b hv e.symm))
  have put : ∀ {e n v xs}, W'.ownsRow (w.heap.size + 3) e 1 v n xs → (W'.setCell ⟨w.heap.size + 2, 3, none⟩ (.slice (some ⟨g, 0, none⟩) (KL.length + 1) cap)).ownsRow (w.heap.size + 3) e 1 v n xs := fun hr => ⟨hr.1, by
    rcases hr.2 with h2 | ⟨g', cap', cur, hv, hb', hblk, rest⟩
    · exact Or.inl h2
    · exact Or.inr ⟨g', cap', cur, hv, hb', (blk_setCell_other _ _ _ _ (by show g' ≠ w.heap.size + 2; omega)).trans hblk, rest⟩⟩
  refine ⟨(h.p.of_block (hb _ (by omega))).off _ (by omega), (h.r.of_block (hb _ (by omega))).off _ (by omega), ?_, put hkb, ?_, ?_, bel_put (h.bel.grown hgrow (by omega) (fun b e => by have := own_ge h.kids b e; omega)) _ (by omega), by have := hgrow.size; simp [World.setCell]; omega⟩
  · exact (h.o.of_block (hb _ (by omega))).set 3 _
  · rw [List.length_append, ← intv_append]; exact put hown
  · intro b e e2
    have : g = b := by simpa [Value.ownBlock] using e2
    subst this
    rcases hat with hat | hat
    · exact h.apart _ e hat
    · have := own_ge h.names _ e
      omega
end

theorem strv_at (w : World) (s : ByteArray) : ∀ j u, (strv [s])[j]? = some u → (w.alloc (.cells #[.string s] 9)).cell? ((⟨w.heap.size, 0, none⟩ : Addr).add j) = some u := strv_cells w [s]
theorem intv_at (w : World) (z : Int) : ∀ j u, (intv [z])[j]? = some u → (w.alloc (.cells #[.int .i64 z] 3)).cell? ((⟨w.heap.size, 0, none⟩ : Addr).add j) = some u := fun j u h =>
  World.news_of_block (cs := #[.int .i64 z]) (t := 3) (fr := (0, 0)) (heap_alloc_new w _) j u (by simpa [intv] using h)
end Go.Proofs.Ytoblndhmkehoaaa

/-
  A list of Kids with room of its own. Plain facts.
-/
namespace Go.Proofs.Ytoblndhmkehoaaa
open Go.RowKit Go.Deep
set_option linter.unusedVariables false

/-- A list of Kids is nil, or lies in a block of its own. -/
def RoomK (W : World) (a : Option Addr) (n c : Nat) : Prop :=
  (a = none ∧ n = 0 ∧ c = 0) ∨ ∃ b cur, a = some ⟨b, 0, none⟩ ∧ W.heap[b]? = some (.cells cur 3 (0, 0)) ∧ cur.size = c ∧ n ≤ c ∧ c ≤ maxLen

/-- Two lists lie in different blocks. -/
def Apart (a a' : Option Addr) : Prop := ∀ b o x b' o' x', a = some ⟨b, o, x⟩ → a' = some ⟨b', o', x'⟩ → b ≠ b'

theorem Apart.symm {a a' : Option Addr} (h : Apart a a') : Apart a' a := fun b o x b' o' x' e e' hb => h b' o' x' b o x e' e hb.symm
theorem apart_none (a : Option Addr) : Apart none a := fun b o x b' o' x' e => by cases e
theorem apart_none' (a : Option Addr) : Apart a none := (apart_none a).symm

section
variable {W W' : World}

theorem RoomK.of_blocks {a : Option Addr} {n c : Nat} (h : RoomK W a n c) (hb : ∀ b o x, a = some ⟨b, o, x⟩ → W'.heap[b]? = W.heap[b]?) : RoomK W' a n c := by
  rcases h with h | ⟨b, cur, h1, h2, h3⟩
  · exact Or.inl h
  · exact Or.inr ⟨b, cur, h1, (hb b 0 none h1).trans h2, h3⟩

/-- As one's own, from any block below it. -/
theorem RoomK.owns {a : Option Addr} {n c B : Nat} {Z : Nat → Int} (h : RoomK W a n c) (hZ : IsInts W a n Z) (hB : ∀ b o x, a = some ⟨b, o, x⟩ → B ≤ b) : W.ownsRow B 3 1 (.slice a n c) n (intv ((List.range n).map Z)) := by
  rcases h with ⟨rfl, rfl, rfl⟩ | ⟨b, cur, rfl, h2, h3, h4, h5⟩
  · exact World.ownsRow_nil _ _ _ _
  · refine ⟨by simp [intv], Or.inr ⟨b, c, cur, rfl, hB _ _ _ rfl, h2, h4, h5, by omega, ?_⟩⟩
    apply List.ext_getElem?
    intro i
    by_cases hi : i < n
    · rw [Nat.mul_one, List.getElem?_take_of_lt hi]
      rcases hZ with h0 | ⟨b', o', e, hl, hc⟩
      · omega
      · cases e
        have := hc i hi
        rw [Nat.zero_add] at this
        simp [World.cell?, h2] at this
        simp [intv, hi, this]
    · rw [List.getElem?_eq_none (by simp; omega), List.getElem?_eq_none (by simp [intv]; omega)]

/-- .. and back. -/
theorem room_owns {B n : Nat} {v : Value} {xs : List Value} {a : Option Addr} {c : Nat} (h : W.ownsRow B 3 1 v n xs) (e : v = .slice a n c) : RoomK W a n c := by
  rcases h.2 with ⟨h0, h1⟩ | ⟨g, cap, cur, h0, hb, hblk, hn, hm, hsz, htake⟩
  · rw [e] at h0; cases h0; exact Or.inl ⟨rfl, rfl, rfl⟩
  · rw [e] at h0; cases h0; exact Or.inr ⟨g, cur, rfl, hblk, by omega, hn, hm⟩
end
end Go.Proofs.Ytoblndhmkehoaaa

/-
  What l2With answers: a directory with a name more, in new memory.
-/
namespace Go.Proofs.Ytoblndhmkehoaaa
open Go.RowKit Go.Deep
set_option linter.unusedVariables false

/-- So far: the names are short, the places are right. -/
structure WL (Q : Int → Prop) (k : Nat) (b : Bool) (NL : List ByteArray) (KL : List Int) : Prop where
  len : NL.length = k + (if b = true then 1 else 0)
  same : KL.length = NL.length
  short : ∀ s ∈ NL, Nm s
  right : ∀ z ∈ KL, Q z

theorem WL.one {Q : Int → Prop} {k : Nat} {b : Bool} {NL : List ByteArray} {KL : List Int} (h : WL Q k b NL KL) {s : ByteArray} {z : Int} (hs : Nm s) (hz : Q z) : WL Q (k + 1) b (NL ++ [s]) (KL ++ [z]) :=
  ⟨by rw [List.length_append, h.len]; simp; omega, by rw [List.length_append, List.length_append, h.same]; rfl, fun x hx => by
    rcases List.mem_append.1 hx with hx | hx
    · exact h.short x hx
    · simp at hx; subst hx; exact hs, fun x hx => by
    rcases List.mem_append.1 hx with hx | hx
    · exact h.right x hx
    · simp at hx; subst hx; exact hz⟩

theorem WL.ins {Q : Int → Prop} {k : Nat} {NL : List ByteArray} {KL : List Int} (h : WL Q k false NL KL) {s : ByteArray} {z : Int} (hs : Nm s) (hz : Q z) : WL Q k true (NL ++ [s]) (KL ++ [z]) :=
  ⟨by rw [List.length_append, h.len]; simp, by rw [List.length_append, List.length_append, h.same]; rfl, (h.one hs hz).short, (h.one hs hz).right⟩

/-- The directory that comes of it. -/
def withNd (d : Nd) (NL : List ByteArray) (KL : List Int) : Nd := ⟨d.kind, ByteArray.empty, NL.length, fun i => NL.getD i ByteArray.empty, KL.length, fun i => KL.getD i 0, d.turn⟩

/-- A new address. -/
def New (w w' : World) (a : Option Addr) : Prop := ∀ b o x, a = some ⟨b, o, x⟩ → w.heap.size ≤ b ∧ b < w'.heap.size

/-- It lies in new memory. -/
structure Made (w : World) (d : Nd) (NL : List ByteArray) (KL : List Int) (l' : Loc) (w' : World) : Prop where
  bel : Below w.heap.size w w'
  lies : NdIn w' (withNd d NL KL) l'
  nA : New w w' l'.nA
  kA : New w w' l'.kA
  room : RoomK w' l'.kA KL.length l'.kc
  apart : Apart l'.kA l'.nA

theorem owns_strs {W : World} {B : Nat} {v : Value} {L : List ByteArray} (h : W.ownsRow B 9 1 v L.length (strv L)) : ∃ a c, v = .slice a L.length c ∧ IsStrs W a L.length (fun i => L.getD i ByteArray.empty) ∧ ∀ b o x, a = some ⟨b, o, x⟩ → B ≤ b ∧ b < W.heap.size := by
  rcases h.2 with ⟨rfl, h0⟩ | ⟨g, cap, cur, rfl, hb, hblk, hn, hm, hsz, htake⟩
  · exact ⟨none, 0, by rw [h0], Or.inl h0, fun b o x e => by cases e⟩
  · have hglt : g < W.heap.size := (Array.getElem?_eq_some_iff.1 hblk).1
    refine ⟨some ⟨g, 0, none⟩, cap, rfl, Or.inr ⟨g, 0, rfl, hglt, fun i hi => ?_⟩, fun b o x e => by cases e; exact ⟨hb, hglt⟩⟩
    have hi2 : (strv L)[i]? = some (.string (L.getD i ByteArray.empty)) := by simp [strv, hi]
    rw [← htake, Nat.mul_one, List.getElem?_take_of_lt hi] at hi2
    simp only [World.cell?, hblk]
    simpa using hi2

theorem owns_ints {W : World} {B : Nat} {v : Value} {L : List Int} (h : W.ownsRow B 3 1 v L.length (intv L)) : ∃ a c, v = .slice a L.length c ∧ IsInts W a L.length (fun i => L.getD i 0) ∧ ∀ b o x, a = some ⟨b, o, x⟩ → B ≤ b ∧ b < W.heap.size := by
  rcases h.2 with ⟨rfl, h0⟩ | ⟨g, cap, cur, rfl, hb, hblk, hn, hm, hsz, htake⟩
  · exact ⟨none, 0, by rw [h0], Or.inl h0, fun b o x e => by cases e⟩
  · have hglt : g < W.heap.size := (Array.getElem?_eq_some_iff.1 hblk).1
    refine ⟨some ⟨g, 0, none⟩, cap, rfl, Or.inr ⟨g, 0, rfl, hglt, fun i hi => ?_⟩, fun b o x e => by cases e; exact ⟨hb, hglt⟩⟩
    have hi2 : (intv L)[i]? = some (.int .i64 (L.getD i 0)) := by simp [intv, hi]
    rw [← htake, Nat.mul_one, List.getElem?_take_of_lt hi] at hi2
    simp only [World.cell?, hblk]
    simpa using hi2

/-- What is known at l2With's end, behind the store into its answer. -/
structure WEnd (w : World) (d : Nd) (NL : List ByteArray) (KL : List Int) (l' : Loc) (W : World) : Prop where
  r : Blk W (w.heap.size + 1) (outA d.kind d.turn (.slice l'.nA NL.length l'.nc) (.slice l'.kA KL.length l'.kc)) 38
  made : Made w d NL KL l' W

theorem WI.fin {w : World} {d : Nd} {l : Loc} {NL : List ByteArray} {KL : List Int} {vN vK : Value} {W : World} (h : WI w d l NL KL vN vK W) :
    ∃ l' : Loc, vN = .slice l'.nA NL.length l'.nc ∧ vK = .slice l'.kA KL.length l'.kc ∧
      WEnd w d NL KL l' (((((W.setCell ⟨w.heap.size + 1, 0, none⟩ (.int .i64 d.kind)).setCell ⟨w.heap.size + 1, 1, none⟩ (.string ByteArray.empty)).setCell ⟨w.heap.size + 1, 2, none⟩ (.slice l'.nA NL.length l'.nc)).setCell ⟨w.heap.size + 1, 3, none⟩ (.slice l'.kA KL.length l'.kc)).setCell ⟨w.heap.size + 1, 4, none⟩ (.int .i64 d.turn)) := by
  obtain ⟨a1, c1, e1, h1, f1⟩ := owns_strs h.names
  obtain ⟨a2, c2, e2, h2, f2⟩ := owns_ints h.kids
  refine ⟨⟨a1, c1, a2, c2⟩, e1, e2, ⟨?_, ?_⟩⟩
  · exact ((((h.r.set 0 _).set 1 _).set 2 _).set 3 _).set 4 _
  · have hsz : ∀ (X : World) (i : Nat) (v : Value), (X.setCell ⟨w.heap.size + 1, i, none⟩ v).heap.size = X.heap.size := fun X i v => by simp [World.setCell]
    have hoth : ∀ (X : World) (i : Nat) (v : Value) (b : Nat), w.heap.size + 3 ≤ b → (X.setCell ⟨w.heap.size + 1, i, none⟩ v).heap[b]? = X.heap[b]? := fun X i v b hb => blk_setCell_other _ _ _ _ (by show b ≠ w.heap.size + 1; omega)
    refine ⟨bel_put (bel_put (bel_put (bel_put (bel_put h.bel _ (by omega)) _ (by omega)) _ (by omega)) _ (by omega)) _ (by omega), ⟨?_, ?_⟩, ?_, ?_, ?_, ?_⟩
    · exact h1.of_blocks (by simp only [hsz]; exact Nat.le_refl _) (fun b o x e => by have := (f1 b o x e).1; simp only [hoth _ _ _ b this])
    · exact h2.of_blocks (by simp only [hsz]; exact Nat.le_refl _) (fun b o x e => by have := (f2 b o x e).1; simp only [hoth _ _ _ b this])
    · intro b o x e; have := f1 b o x e; simp only [hsz]; omega
    · intro b o x e; have := f2 b o x e; simp only [hsz]; omega
    · exact (room_owns h.kids e2).of_blocks (fun b o x e => by have := (f2 b o x e).1; simp only [hoth _ _ _ b this])
    · intro b o x b' o' x' e e' hbb
      dsimp only at e e'
      subst e e' hbb e1 e2
      exact h.apart b rfl rfl

set_option maxHeartbeats 4000000 in
theorem l2With_any (Q : Int → Prop) (d : Nd) (l : Loc) (name : ByteArray) (kid : Int) (w : World) (hI : NdIn w d l) (hk : d.kn = d.nn) (hn : d.nn ≤ 1000) (hs : ∀ i, i < d.nn → Nm (d.names i)) (hs' : Nm name) (hq : ∀ i, i < d.nn → Q (d.kids i)) (hq' : Q kid) :
    Calls Try.prog 46 #[ndV d l, .string name, .int .i64 kid] w fun e w' => ∃ NL KL l', e = .returned (ndV (withNd d NL KL) l') ∧ Made w d NL KL l' w' ∧ WL Q d.nn true NL KL := by
  obtain ⟨i0, hi, hz0, hz1, hz2⟩ := info_parts infoStr
  obtain ⟨j0, hj, hy0, hy1, hy2⟩ := info_parts infoInt
  have HK : Hid (d.kn = d.nn) := hk
  clear hk
  unfold ndV
  go_enter Try.func46, Try.ntmps46
  go_wp2
  go_loopw [8, 9] (fun dn i wr => ∃ (k : Nat) (b : Bool) (NL : List ByteArray) (KL : List Int) (vN vK : Value), k ≤ d.nn ∧ i = .int .i64 k ∧ dn = .bool b ∧ WI w d l NL KL vN vK wr ∧ WL Q k b NL KL) (fun _ i _ => d.nn - (intOf i).toNat)
  case atStart =>
    have h3 := new3 w (ndA d l) 38 (outA 0 0 (.slice none 0 0) (.slice none 0 0)) 38 (outA d.kind d.turn (.slice none 0 0) (.slice none 0 0)) 38
    exact ⟨0, false, [], [], .slice none 0 0, .slice none 0 0, Nat.zero_le _, rfl, rfl, ⟨h3.b0, h3.b1, h3.b2, World.ownsRow_nil _ _ _ _, World.ownsRow_nil _ _ _ _, fun b e => by simp [Value.ownBlock] at e, h3.bel, by simp⟩, ⟨rfl, rfl, fun s hs => by simp at hs, fun s hs => by simp at hs⟩⟩
  case round =>
    obtain ⟨k, b, NL, KL, vN, vK, hkn, rfl, rfl, hin, hwl⟩ := hrel
    have hIr := hI.below (Nat.le_refl _) hin.bel
    have hsz := hin.size
    have hl0 : w.heap.size < wr.heap.size := by omega
    have hl2 : w.heap.size + 1 + 1 < wr.heap.size := by omega
    have p2 : wr.cell? ⟨w.heap.size, 2, none⟩ = some (.slice l.nA d.nn l.nc) := hin.p.cell 2
    have p3 : wr.cell? ⟨w.heap.size, 3, none⟩ = some (.slice l.kA d.kn l.kc) := hin.p.cell 3
    have o2 : wr.cell? ⟨w.heap.size + 1 + 1, 2, none⟩ = some vN := hin.o.cell 2
    have o3 : wr.cell? ⟨w.heap.size + 1 + 1, 3, none⟩ = some vK := hin.o.cell 3
    have of2 := hin.o.frozen 2
    have of3 := hin.o.frozen 3
    have hlen : NL.length ≤ 1002 := by have := hwl.len; split at this <;> omega
    have hsame : KL.length ≤ 1002 := by have := hwl.same; omega
    by_cases hlt : k < d.nn
    · obtain ⟨b1, off1, ha1, hlt1, hc1⟩ := hIr.1.at hlt
      obtain ⟨b2, off2, ha2, hlt2, hc2⟩ := hIr.2.at (show k < d.kn by have := HK.out; omega)
      have n0 := hc1 k hlt
      have k0 := hc2 k (by have := HK.out; omega)
      have hki : (k : Int) < (d.nn : Int) := by omega
      have hkk : (k : Int) < (d.kn : Int) := by have := HK.out; omega
      rw [ha1] at p2
      rw [ha2] at p3
      rw [ha1, ha2]
      cases b with
      | true =>
        have HX : Hid (WI w d l NL KL vN vK wr ∧ WL Q k true NL KL) := ⟨hin, hwl⟩
        clear hc1 hc2 hIr hin hwl
        go_wp2_with fail
        clear p2 p3 o2 o3 of2 of3 n0 k0 hl0 hl2 hsz hlen hsame
        obtain ⟨hXi, hXl⟩ := HX.out
        have hlenX : NL.length ≤ 1003 := by have := hXl.len; split at this <;> omega
        have hlenK : KL.length ≤ 1003 := by have := hXl.same; omega
        have hszX := hXi.size
        have hm0 : w.heap.size < wr.heap.size := by omega
        have hm2 : w.heap.size + 1 + 1 < wr.heap.size := by omega
        obtain ⟨b3, off3, ha3, hlt3, hc3⟩ := (hI.below (Nat.le_refl _) hXi.bel).1.at hlt
        rw [ha1] at ha3
        cases ha3
        have n1 := hc3 k hlt
        have P2 : wr.cell? ⟨w.heap.size, 2, none⟩ = some (.slice (some ⟨b1, off1, none⟩) d.nn l.nc) := by rw [← ha1]; exact hXi.p.cell 2
        have O2 : wr.cell? ⟨w.heap.size + 1 + 1, 2, none⟩ = some vN := hXi.o.cell 2
        have OF2 := hXi.o.frozen 2
        have hX := hXi.drew 1
        have hob := own_ge hX.names
        clear hXi hXl hc3
        apply wp_cut2 (X := Nat) (Y := Nat) (fun g cap W => WI w d l (NL ++ [d.names k]) KL (.slice (some ⟨g, 0, none⟩) (NL.length + 1) cap) vK W)
        · intro key
          have KEY : Hid _ := key
          clear key
          go_region_law (
            refine step_append_lies _ (by rfl) _ _ _ (by rfl) (w.heap.size + 3) 9 i0 (.string ByteArray.empty) 1 16 Try.underlying35 hi hz0 hz1 hz2 rfl (by decide) vN NL.length (strv NL) (by rfl) (hX.alloc _).names ⟨wr.heap.size, 0, none⟩ 1 1 (strv [d.names k]) (by rfl) (by rfl) (strv_at (wr.drewN 1) _) (strv_one _) (by decide) (by unfold maxLen; omega) (by omega) (by simp; omega) (wr.heap.size + 1) (by simp) ?_
            intro g cap w1 hown hgrow hat hlt
            have hq2 := (hX.alloc (.cells #[.string (d.names k)] 9)).o.of_block (hgrow.block _ (by simp; omega) (fun e => by have := hob _ e.symm; omega))
            have q2 : w1.cell? ⟨w.heap.size + 1 + 1, 2, none⟩ = some vN := hq2.cell 2
            have q2f := hq2.frozen 2)
          all_goals exact KEY.out g cap _ ((hX.alloc _).nameApp hown hgrow (by simpa using hat))
        · intro g cap W hF
          clear hX hob P2 O2 OF2 n1 hm0 hm2 hszX
          have hszX := hF.size
          have hm0 : w.heap.size < W.heap.size := by omega
          have hm2 : w.heap.size + 1 + 1 < W.heap.size := by omega
          obtain ⟨b3, off3, ha3, hlt3, hc3⟩ := (hI.below (Nat.le_refl _) hF.bel).2.at (show k < d.kn by have := HK.out; omega)
          rw [ha2] at ha3
          cases ha3
          have k1 := hc3 k (by have := HK.out; omega)
          have P3 : W.cell? ⟨w.heap.size, 3, none⟩ = some (.slice (some ⟨b2, off2, none⟩) d.kn l.kc) := by rw [← ha2]; exact hF.p.cell 3
          have O3 : W.cell? ⟨w.heap.size + 1 + 1, 3, none⟩ = some vK := hF.o.cell 3
          have OF3 := hF.o.frozen 3
          have hX := hF.drew 1
          have hob := own_ge hX.kids
          clear hF hc3
          go_wp2_with fail
          apply wp_cutq2 (X := Nat) (Y := Nat) (fun g' cap' W' => WI w d l (NL ++ [d.names k]) (KL ++ [d.kids k]) (.slice (some ⟨g, 0, none⟩) (NL.length + 1) cap) (.slice (some ⟨g', 0, none⟩) (KL.length + 1) cap') W')
          · intro key
            have KEY : Hid _ := key
            clear key
            go_region_law (
              refine step_append_lies _ (by rfl) _ _ _ (by rfl) (w.heap.size + 3) 3 j0 (.int .i64 0) 1 8 Try.underlying36 hj hy0 hy1 hy2 rfl (by decide) vK KL.length (intv KL) (by rfl) (hX.alloc _).kids ⟨W.heap.size, 0, none⟩ 1 1 (intv [d.kids k]) (by rfl) (by rfl) (intv_at (W.drewN 1) _) (intv_one _) (by decide) (by unfold maxLen; omega) (by omega) (by simp; omega) (W.heap.size + 1) (by simp) ?_
              intro g' cap' w1 hown hgrow hat hlt
              have hq3 := (hX.alloc (.cells #[.int .i64 (d.kids k)] 3)).o.of_block (hgrow.block _ (by simp; omega) (fun e => by have := hob _ e.symm; omega))
              have q3 : w1.cell? ⟨w.heap.size + 1 + 1, 3, none⟩ = some vK := hq3.cell 3
              have q3f := hq3.frozen 3)
            all_goals exact KEY.out g' cap' _ ((hX.alloc _).kidApp hown hgrow (by simpa using hat))
          · intro g' cap' W2 hF2
            have HF2 : Hid _ := hF2
            clear hF2 hX hob P3 O3 OF3 k1
            simp only [Exit.inBlock, Exit.then]
            go_wp2
            go_roundw
            case rel => exact ⟨k + 1, true, _, _, _, _, by omega, by go_num, rfl, HF2.out, HX.out.2.one (hs k hlt) (hq k hlt)⟩
            case measure => simp [intOf]; omega
      | false =>
        cases hgt : (Op.bytesLess (d.names k).toList name.toList || (d.names k).toList == name.toList) with
        | true =>
          have HX : Hid (WI w d l NL KL vN vK wr ∧ WL Q k false NL KL) := ⟨hin, hwl⟩
          clear hc1 hc2 hIr hin hwl
          go_wp2_with fail
          clear p2 p3 o2 o3 of2 of3 n0 k0 hl0 hl2 hsz hlen hsame hgt
          obtain ⟨hXi, hXl⟩ := HX.out
          have hlenX : NL.length ≤ 1003 := by have := hXl.len; split at this <;> omega
          have hlenK : KL.length ≤ 1003 := by have := hXl.same; omega
          have hszX := hXi.size
          have hm0 : w.heap.size < wr.heap.size := by omega
          have hm2 : w.heap.size + 1 + 1 < wr.heap.size := by omega
          obtain ⟨b3, off3, ha3, hlt3, hc3⟩ := (hI.below (Nat.le_refl _) hXi.bel).1.at hlt
          rw [ha1] at ha3
          cases ha3
          have n1 := hc3 k hlt
          have P2 : wr.cell? ⟨w.heap.size, 2, none⟩ = some (.slice (some ⟨b1, off1, none⟩) d.nn l.nc) := by rw [← ha1]; exact hXi.p.cell 2
          have O2 : wr.cell? ⟨w.heap.size + 1 + 1, 2, none⟩ = some vN := hXi.o.cell 2
          have OF2 := hXi.o.frozen 2
          have hX := hXi.drew 1
          have hob := own_ge hX.names
          clear hXi hXl hc3
          apply wp_cut2 (X := Nat) (Y := Nat) (fun g cap W => WI w d l (NL ++ [d.names k]) KL (.slice (some ⟨g, 0, none⟩) (NL.length + 1) cap) vK W)
          · intro key
            have KEY : Hid _ := key
            clear key
            go_region_law (
              refine step_append_lies _ (by rfl) _ _ _ (by rfl) (w.heap.size + 3) 9 i0 (.string ByteArray.empty) 1 16 Try.underlying35 hi hz0 hz1 hz2 rfl (by decide) vN NL.length (strv NL) (by rfl) (hX.alloc _).names ⟨wr.heap.size, 0, none⟩ 1 1 (strv [d.names k]) (by rfl) (by rfl) (strv_at (wr.drewN 1) _) (strv_one _) (by decide) (by unfold maxLen; omega) (by omega) (by simp; omega) (wr.heap.size + 1) (by simp) ?_
              intro g cap w1 hown hgrow hat hlt
              have hq2 := (hX.alloc (.cells #[.string (d.names k)] 9)).o.of_block (hgrow.block _ (by simp; omega) (fun e => by have := hob _ e.symm; omega))
              have q2 : w1.cell? ⟨w.heap.size + 1 + 1, 2, none⟩ = some vN := hq2.cell 2
              have q2f := hq2.frozen 2)
            all_goals exact KEY.out g cap _ ((hX.alloc _).nameApp hown hgrow (by simpa using hat))
          · intro g cap W hF
            clear hX hob P2 O2 OF2 n1 hm0 hm2 hszX
            have hszX := hF.size
            have hm0 : w.heap.size < W.heap.size := by omega
            have hm2 : w.heap.size + 1 + 1 < W.heap.size := by omega
            obtain ⟨b3, off3, ha3, hlt3, hc3⟩ := (hI.below (Nat.le_refl _) hF.bel).2.at (show k < d.kn by have := HK.out; omega)
            rw [ha2] at ha3
            cases ha3
            have k1 := hc3 k (by have := HK.out; omega)
            have P3 : W.cell? ⟨w.heap.size, 3, none⟩ = some (.slice (some ⟨b2, off2, none⟩) d.kn l.kc) := by rw [← ha2]; exact hF.p.cell 3
            have O3 : W.cell? ⟨w.heap.size + 1 + 1, 3, none⟩ = some vK := hF.o.cell 3
            have OF3 := hF.o.frozen 3
            have hX := hF.drew 1
            have hob := own_ge hX.kids
            clear hF hc3
            go_wp2_with fail
            apply wp_cutq2 (X := Nat) (Y := Nat) (fun g' cap' W' => WI w d l (NL ++ [d.names k]) (KL ++ [d.kids k]) (.slice (some ⟨g, 0, none⟩) (NL.length + 1) cap) (.slice (some ⟨g', 0, none⟩) (KL.length + 1) cap') W')
            · intro key
              have KEY : Hid _ := key
              clear key
              go_region_law (
                refine step_append_lies _ (by rfl) _ _ _ (by rfl) (w.heap.size + 3) 3 j0 (.int .i64 0) 1 8 Try.underlying36 hj hy0 hy1 hy2 rfl (by decide) vK KL.length (intv KL) (by rfl) (hX.alloc _).kids ⟨W.heap.size, 0, none⟩ 1 1 (intv [d.kids k]) (by rfl) (by rfl) (intv_at (W.drewN 1) _) (intv_one _) (by decide) (by unfold maxLen; omega) (by omega) (by simp; omega) (W.heap.size + 1) (by simp) ?_
                intro g' cap' w1 hown hgrow hat hlt
                have hq3 := (hX.alloc (.cells #[.int .i64 (d.kids k)] 3)).o.of_block (hgrow.block _ (by simp; omega) (fun e => by have := hob _ e.symm; omega))
                have q3 : w1.cell? ⟨w.heap.size + 1 + 1, 3, none⟩ = some vK := hq3.cell 3
                have q3f := hq3.frozen 3)
              all_goals exact KEY.out g' cap' _ ((hX.alloc _).kidApp hown hgrow (by simpa using hat))
            · intro g' cap' W2 hF2
              have HF2 : Hid _ := hF2
              clear hF2 hX hob P3 O3 OF3 k1
              simp only [Exit.inBlock, Exit.then]
              go_wp2
              go_roundw
              case rel => exact ⟨k + 1, false, _, _, _, _, by omega, by go_num, rfl, HF2.out, HX.out.2.one (hs k hlt) (hq k hlt)⟩
              case measure => simp [intOf]; omega
        | false =>
          have HL := hwl.ins hs' hq'
          clear hc1 hc2 hIr
          have hob := own_ge hin.names
          have hobk := own_ge hin.kids
          go_wp2_with (at_builtin; refine wpList_append_lies _ rfl _ _ 35 rfl (w.heap.size + 3) 9 i0 (.string ByteArray.empty) 1 16 Try.underlying35 hi hz0 hz1 hz2 rfl (by decide) vN NL.length (strv NL) rfl (hin.alloc _).names ⟨wr.heap.size, 0, none⟩ 1 1 (strv [name]) rfl rfl (strv_at wr name) (strv_one _) (by decide) (by unfold maxLen; omega) (by omega) (by simp; omega) (wr.heap.size + 1) (by simp) ?_)
          intro gn cn w1 hown hgrow hat hltg
          have hq2 := (hin.alloc (.cells #[.string name] 9)).o.of_block (hgrow.block _ (by simp; omega) (fun e => by have := hob _ e.symm; omega))
          have q2 : w1.cell? ⟨w.heap.size + 1 + 1, 2, none⟩ = some vN := hq2.cell 2
          have q3 : w1.cell? ⟨w.heap.size + 1 + 1, 3, none⟩ = some vK := hq2.cell 3
          have q2f := hq2.frozen 2
          have q3f := hq2.frozen 3
          have hin1 : WI w d l (NL ++ [name]) KL (.slice (some ⟨gn, 0, none⟩) (NL.length + 1) cn) vK (w1.setCell ⟨w.heap.size + 1 + 1, 2, none⟩ (.slice (some ⟨gn, 0, none⟩) (NL.length + 1) cn)) := (hin.alloc _).nameApp hown hgrow (by simpa using hat)
          have hs1 : w.heap.size + 3 ≤ w1.heap.size := by have := hin1.size; simpa [World.setCell] using this
          have hm1 : w.heap.size + 1 + 1 < w1.heap.size := by omega
          have hob1 := own_ge hin1.kids
          clear hown hgrow hat hltg hq2 hob hobk
          go_wp2_with (at_builtin; refine wpList_append_lies _ rfl _ _ 36 rfl (w.heap.size + 3) 3 j0 (.int .i64 0) 1 8 Try.underlying36 hj hy0 hy1 hy2 rfl (by decide) vK KL.length (intv KL) rfl (hin1.alloc _).kids ⟨w1.heap.size, 0, none⟩ 1 1 (intv [kid]) rfl rfl ?c1 (intv_one _) (by decide) (by unfold maxLen; omega) (by omega) (by simp [World.setCell]; omega) (w1.heap.size + 1) (by simp [World.setCell]) ?_)
          case c1 =>
            have := intv_at (w1.setCell ⟨w.heap.size + 1 + 1, 2, none⟩ (.slice (some ⟨gn, 0, none⟩) (NL.length + 1) cn)) kid
            rwa [show (w1.setCell ⟨w.heap.size + 1 + 1, 2, none⟩ (.slice (some ⟨gn, 0, none⟩) (NL.length + 1) cn)).heap.size = w1.heap.size by simp [World.setCell]] at this
          intro gk ck w3 hown hgrow hat hltg
          have hq3 := (hin1.alloc (.cells #[.int .i64 kid] 3)).o.of_block (hgrow.block _ (by simp [World.setCell]; omega) (fun e => by have := hob1 _ e.symm; omega))
          have r3 : w3.cell? ⟨w.heap.size + 1 + 1, 3, none⟩ = some vK := hq3.cell 3
          have r3f := hq3.frozen 3
          have hin2 : WI w d l (NL ++ [name]) (KL ++ [kid]) (.slice (some ⟨gn, 0, none⟩) (NL.length + 1) cn) (.slice (some ⟨gk, 0, none⟩) (KL.length + 1) ck) (w3.setCell ⟨w.heap.size + 1 + 1, 3, none⟩ (.slice (some ⟨gk, 0, none⟩) (KL.length + 1) ck)) := (hin1.alloc _).kidApp hown hgrow (by simpa [World.setCell] using hat)
          clear hown hgrow hat hltg hq3 hob1 hin1 q2 q3 q2f q3f hs1 hm1
          clear hin hwl o2 o3 of2 of3
          obtain ⟨NL2, hNL2⟩ : ∃ x, x = NL ++ [name] := ⟨_, rfl⟩
          obtain ⟨KL2, hKL2⟩ : ∃ x, x = KL ++ [kid] := ⟨_, rfl⟩
          rw [← hNL2, ← hKL2] at hin2 HL
          clear hNL2 hKL2
          have HX0 : Hid (WL Q k true NL2 KL2) := HL
          clear HL
          go_wp2_with fail
          generalize (Value.slice (some ⟨gn, 0, none⟩) (NL.length + 1) cn) = vN2 at *
          obtain ⟨W6, hW6⟩ : ∃ X, X = w3.setCell ⟨w.heap.size + 1 + 1, 3, none⟩ (.slice (some ⟨gk, 0, none⟩) (KL.length + 1) ck) := ⟨_, rfl⟩
          rw [← hW6] at hin2 ⊢
          clear hW6 r3 r3f
          generalize (Value.slice (some ⟨gk, 0, none⟩) (KL.length + 1) ck) = vK2 at *
          have HX : Hid (WI w d l NL2 KL2 vN2 vK2 W6 ∧ WL Q k true NL2 KL2) := ⟨hin2, HX0.out⟩
          clear hin2 HX0 p2 p3 n0 k0 hl0 hl2 hsz hlen hsame hgt
          obtain ⟨hXi, hXl⟩ := HX.out
          have hlenX : NL2.length ≤ 1003 := by have := hXl.len; split at this <;> omega
          have hlenK : KL2.length ≤ 1003 := by have := hXl.same; omega
          have hszX := hXi.size
          have hm0 : w.heap.size < W6.heap.size := by omega
          have hm2 : w.heap.size + 1 + 1 < W6.heap.size := by omega
          obtain ⟨b3, off3, ha3, hlt3, hc3⟩ := (hI.below (Nat.le_refl _) hXi.bel).1.at hlt
          rw [ha1] at ha3
          cases ha3
          have n1 := hc3 k hlt
          have P2 : W6.cell? ⟨w.heap.size, 2, none⟩ = some (.slice (some ⟨b1, off1, none⟩) d.nn l.nc) := by rw [← ha1]; exact hXi.p.cell 2
          have O2 : W6.cell? ⟨w.heap.size + 1 + 1, 2, none⟩ = some vN2 := hXi.o.cell 2
          have OF2 := hXi.o.frozen 2
          have hX := hXi.drew 1
          have hob := own_ge hX.names
          clear hXi hXl hc3
          apply wp_cut2 (X := Nat) (Y := Nat) (fun g cap W => WI w d l (NL2 ++ [d.names k]) KL2 (.slice (some ⟨g, 0, none⟩) (NL2.length + 1) cap) vK2 W)
          · intro key
            have KEY : Hid _ := key
            clear key
            go_region_law (
              refine step_append_lies _ (by rfl) _ _ _ (by rfl) (w.heap.size + 3) 9 i0 (.string ByteArray.empty) 1 16 Try.underlying35 hi hz0 hz1 hz2 rfl (by decide) vN2 NL2.length (strv NL2) (by rfl) (hX.alloc _).names ⟨W6.heap.size, 0, none⟩ 1 1 (strv [d.names k]) (by rfl) (by rfl) (strv_at (W6.drewN 1) _) (strv_one _) (by decide) (by unfold maxLen; omega) (by omega) (by simp; omega) (W6.heap.size + 1) (by simp) ?_
              intro g cap w1 hown hgrow hat hlt
              have hq2 := (hX.alloc (.cells #[.string (d.names k)] 9)).o.of_block (hgrow.block _ (by simp; omega) (fun e => by have := hob _ e.symm; omega))
              have q2 : w1.cell? ⟨w.heap.size + 1 + 1, 2, none⟩ = some vN2 := hq2.cell 2
              have q2f := hq2.frozen 2)
            all_goals exact KEY.out g cap _ ((hX.alloc _).nameApp hown hgrow (by simpa using hat))
          · intro g cap W hF
            clear hX hob P2 O2 OF2 n1 hm0 hm2 hszX
            have hszX := hF.size
            have hm0 : w.heap.size < W.heap.size := by omega
            have hm2 : w.heap.size + 1 + 1 < W.heap.size := by omega
            obtain ⟨b3, off3, ha3, hlt3, hc3⟩ := (hI.below (Nat.le_refl _) hF.bel).2.at (show k < d.kn by have := HK.out; omega)
            rw [ha2] at ha3
            cases ha3
            have k1 := hc3 k (by have := HK.out; omega)
            have P3 : W.cell? ⟨w.heap.size, 3, none⟩ = some (.slice (some ⟨b2, off2, none⟩) d.kn l.kc) := by rw [← ha2]; exact hF.p.cell 3
            have O3 : W.cell? ⟨w.heap.size + 1 + 1, 3, none⟩ = some vK2 := hF.o.cell 3
            have OF3 := hF.o.frozen 3
            have hX := hF.drew 1
            have hob := own_ge hX.kids
            clear hF hc3
            go_wp2_with fail
            apply wp_cutq2 (X := Nat) (Y := Nat) (fun g' cap' W' => WI w d l (NL2 ++ [d.names k]) (KL2 ++ [d.kids k]) (.slice (some ⟨g, 0, none⟩) (NL2.length + 1) cap) (.slice (some ⟨g', 0, none⟩) (KL2.length + 1) cap') W')
            · intro key
              have KEY : Hid _ := key
              clear key
              go_region_law (
                refine step_append_lies _ (by rfl) _ _ _ (by rfl) (w.heap.size + 3) 3 j0 (.int .i64 0) 1 8 Try.underlying36 hj hy0 hy1 hy2 rfl (by decide) vK2 KL2.length (intv KL2) (by rfl) (hX.alloc _).kids ⟨W.heap.size, 0, none⟩ 1 1 (intv [d.kids k]) (by rfl) (by rfl) (intv_at (W.drewN 1) _) (intv_one _) (by decide) (by unfold maxLen; omega) (by omega) (by simp; omega) (W.heap.size + 1) (by simp) ?_
                intro g' cap' w1 hown hgrow hat hlt
                have hq3 := (hX.alloc (.cells #[.int .i64 (d.kids k)] 3)).o.of_block (hgrow.block _ (by simp; omega) (fun e => by have := hob _ e.symm; omega))
                have q3 : w1.cell? ⟨w.heap.size + 1 + 1, 3, none⟩ = some vK2 := hq3.cell 3
                have q3f := hq3.frozen 3)
              all_goals exact KEY.out g' cap' _ ((hX.alloc _).kidApp hown hgrow (by simpa using hat))
            · intro g' cap' W2 hF2
              have HF2 : Hid _ := hF2
              clear hF2 hX hob P3 O3 OF3 k1
              simp only [Exit.inBlock, Exit.then]
              go_wp2
              go_roundw
              case rel => exact ⟨k + 1, true, _, _, _, _, by omega, by go_num, rfl, HF2.out, HX.out.2.one (hs k hlt) (hq k hlt)⟩
              case measure => simp [intOf]; omega
    · have hke : k = d.nn := by omega
      have hwl' : WL Q d.nn b NL KL := hke ▸ hwl
      clear hwl hke hIr
      cases b with
      | true =>
        have HX : Hid (WI w d l NL KL vN vK wr ∧ WL Q d.nn true NL KL) := ⟨hin, hwl'⟩
        clear hin hwl' p3 o2 o3 of2 of3 hsame
        obtain ⟨l', rfl, rfl, hend⟩ := HX.out.1.fin
        have HE : Hid _ := hend
        have c0 := HX.out.1.o.cell 0
        have c1 := HX.out.1.o.cell 1
        have c2 := HX.out.1.o.cell 2
        have c3 := HX.out.1.o.cell 3
        have c4 := HX.out.1.o.cell 4
        have g0 := HX.out.1.r.cell 0
        have g1 := HX.out.1.r.cell 1
        have g2 := HX.out.1.r.cell 2
        have g3 := HX.out.1.r.cell 3
        have g4 := HX.out.1.r.cell 4
        have f0 := HX.out.1.r.frozen 0
        have f1 := HX.out.1.r.frozen 1
        have f2 := HX.out.1.r.frozen 2
        have f3 := HX.out.1.r.frozen 3
        have f4 := HX.out.1.r.frozen 4
        simp only [outA] at c0 c1 c2 c3 c4 g0 g1 g2 g3 g4
        have HXL : Hid (WL Q d.nn true NL KL) := HX.out.2
        clear hend HX
        go_wp2
        refine end_world (F := WEnd w d NL KL l') HE.out ?_
        clear HE c0 c1 c2 c3 c4 g0 g1 g2 g3 g4 f0 f1 f2 f3 f4
        rintro WF ⟨hr, hm⟩
        have r0 := hr.cell 0
        have r1 := hr.cell 1
        have r2 := hr.cell 2
        have r3 := hr.cell 3
        have r4 := hr.cell 4
        simp only [outA] at r0 r1 r2 r3 r4
        exact bodyPost_ret (v := .agg (outA d.kind d.turn (.slice l'.nA (NL).length l'.nc) (.slice l'.kA (KL).length l'.kc))) (by simp [results, Try.results46, go_sem, r0, r1, r2, r3, r4, outA]) rfl ⟨NL, KL, l', rfl, hm, HXL.out⟩
      | false =>
        have HL := hwl'.ins hs' hq'
        have hob := own_ge hin.names
        have hobk := own_ge hin.kids
        go_wp2_with (at_builtin; refine wpList_append_lies _ rfl _ _ 35 rfl (w.heap.size + 3) 9 i0 (.string ByteArray.empty) 1 16 Try.underlying35 hi hz0 hz1 hz2 rfl (by decide) vN NL.length (strv NL) rfl (hin.alloc _).names ⟨wr.heap.size, 0, none⟩ 1 1 (strv [name]) rfl rfl (strv_at wr name) (strv_one _) (by decide) (by unfold maxLen; omega) (by omega) (by simp; omega) (wr.heap.size + 1) (by simp) ?_)
        intro gn cn w1 hown hgrow hat hltg
        have hq2 := (hin.alloc (.cells #[.string name] 9)).o.of_block (hgrow.block _ (by simp; omega) (fun e => by have := hob _ e.symm; omega))
        have q2 : w1.cell? ⟨w.heap.size + 1 + 1, 2, none⟩ = some vN := hq2.cell 2
        have q3 : w1.cell? ⟨w.heap.size + 1 + 1, 3, none⟩ = some vK := hq2.cell 3
        have q2f := hq2.frozen 2
        have q3f := hq2.frozen 3
        have hin1 : WI w d l (NL ++ [name]) KL (.slice (some ⟨gn, 0, none⟩) (NL.length + 1) cn) vK (w1.setCell ⟨w.heap.size + 1 + 1, 2, none⟩ (.slice (some ⟨gn, 0, none⟩) (NL.length + 1) cn)) := (hin.alloc _).nameApp hown hgrow (by simpa using hat)
        have hs1 : w.heap.size + 3 ≤ w1.heap.size := by have := hin1.size; simpa [World.setCell] using this
        have hm1 : w.heap.size + 1 + 1 < w1.heap.size := by omega
        have hob1 := own_ge hin1.kids
        clear hown hgrow hat hltg hq2 hob hobk
        go_wp2_with (at_builtin; refine wpList_append_lies _ rfl _ _ 36 rfl (w.heap.size + 3) 3 j0 (.int .i64 0) 1 8 Try.underlying36 hj hy0 hy1 hy2 rfl (by decide) vK KL.length (intv KL) rfl (hin1.alloc _).kids ⟨w1.heap.size, 0, none⟩ 1 1 (intv [kid]) rfl rfl ?c1 (intv_one _) (by decide) (by unfold maxLen; omega) (by omega) (by simp [World.setCell]; omega) (w1.heap.size + 1) (by simp [World.setCell]) ?_)
        case c1 =>
          have := intv_at (w1.setCell ⟨w.heap.size + 1 + 1, 2, none⟩ (.slice (some ⟨gn, 0, none⟩) (NL.length + 1) cn)) kid
          rwa [show (w1.setCell ⟨w.heap.size + 1 + 1, 2, none⟩ (.slice (some ⟨gn, 0, none⟩) (NL.length + 1) cn)).heap.size = w1.heap.size by simp [World.setCell]] at this
        intro gk ck w3 hown hgrow hat hltg
        have hq3 := (hin1.alloc (.cells #[.int .i64 kid] 3)).o.of_block (hgrow.block _ (by simp [World.setCell]; omega) (fun e => by have := hob1 _ e.symm; omega))
        have r3 : w3.cell? ⟨w.heap.size + 1 + 1, 3, none⟩ = some vK := hq3.cell 3
        have r3f := hq3.frozen 3
        have hin2 : WI w d l (NL ++ [name]) (KL ++ [kid]) (.slice (some ⟨gn, 0, none⟩) (NL.length + 1) cn) (.slice (some ⟨gk, 0, none⟩) (KL.length + 1) ck) (w3.setCell ⟨w.heap.size + 1 + 1, 3, none⟩ (.slice (some ⟨gk, 0, none⟩) (KL.length + 1) ck)) := (hin1.alloc _).kidApp hown hgrow (by simpa [World.setCell] using hat)
        have hr3 := (hin1.alloc (.cells #[.int .i64 kid] 3)).r.of_block (hgrow.block _ (by simp [World.setCell]; omega) (fun e => by have := hob1 _ e.symm; omega))
        clear hown hgrow hat hltg hob1 hin1 q2 q3 q2f q3f hs1 hm1
        clear hin hwl' o2 o3 of2 of3
        obtain ⟨NL2, hNL2⟩ : ∃ x, x = NL ++ [name] := ⟨_, rfl⟩
        obtain ⟨KL2, hKL2⟩ : ∃ x, x = KL ++ [kid] := ⟨_, rfl⟩
        rw [← hNL2, ← hKL2] at hin2 HL
        clear hNL2 hKL2
        obtain ⟨l', e1, e2, hend⟩ := hin2.fin
        rw [← e1, ← e2] at hend
        have HE : Hid _ := hend
        have c0 := hq3.cell 0
        have c1 := hq3.cell 1
        have c2 := hq3.cell 2
        have c4 := hq3.cell 4
        have g0 := hr3.cell 0
        have g1 := hr3.cell 1
        have g2 := hr3.cell 2
        have g3 := hr3.cell 3
        have g4 := hr3.cell 4
        have f0 := hr3.frozen 0
        have f1 := hr3.frozen 1
        have f2 := hr3.frozen 2
        have f3 := hr3.frozen 3
        have f4 := hr3.frozen 4
        simp only [outA] at c0 c1 c2 c4 g0 g1 g2 g3 g4
        have HXL : Hid (WL Q d.nn true NL2 KL2) := HL
        clear hend hin2 HL hq3 hr3 e1 e2
        go_wp2
        refine end_world (F := WEnd w d NL2 KL2 l') HE.out ?_
        clear HE c0 c1 c2 c4 g0 g1 g2 g3 g4 f0 f1 f2 f3 f4
        rintro WF ⟨hr, hm⟩
        have r0 := hr.cell 0
        have r1 := hr.cell 1
        have r2 := hr.cell 2
        have r3 := hr.cell 3
        have r4 := hr.cell 4
        simp only [outA] at r0 r1 r2 r3 r4
        exact bodyPost_ret (v := .agg (outA d.kind d.turn (.slice l'.nA NL2.length l'.nc) (.slice l'.kA KL2.length l'.kc))) (by simp [results, Try.results46, go_sem, r0, r1, r2, r3, r4, outA]) rfl ⟨NL2, KL2, l', rfl, hm, HXL.out⟩
end Go.Proofs.Ytoblndhmkehoaaa

/-
  What pick, of and l11Open do: the reader of a code gives, at each call, some number below the one it is asked for, and turns nothing but its own place.
-/
namespace Go.Proofs.Ytoblndhmkehoaaa
open Go.RowKit
set_option linter.unusedVariables false

/-- Block r is a reader of a code of len bytes, at place p. -/
structure IsRd (W : World) (r : Nat) (a : Option Addr) (len cap : Nat) (zs : Nat → Int) (p : Nat) : Prop where
  blk : W.heap[r]? = some (.cells #[.slice a len cap, .int .i64 p] 77 (0, 0))
  few : len ≤ 2000
  code : len = 0 ∨ ∃ b off, a = some ⟨b, off, none⟩ ∧ b < r ∧ ∀ i, i < len → W.cell? ⟨b, off + i, none⟩ = some (.int .u8 (zs i)) ∧ 0 ≤ zs i ∧ zs i ≤ 255

theorem IsRd.c0 {W : World} {r : Nat} {a : Option Addr} {len cap : Nat} {zs : Nat → Int} {p : Nat} (h : IsRd W r a len cap zs p) : W.cell? ⟨r, 0, none⟩ = some (.slice a len cap) := by
  simp [World.cell?, h.blk]
theorem IsRd.c1 {W : World} {r : Nat} {a : Option Addr} {len cap : Nat} {zs : Nat → Int} {p : Nat} (h : IsRd W r a len cap zs p) : W.cell? ⟨r, 1, none⟩ = some (.int .i64 p) := by
  simp [World.cell?, h.blk]
theorem IsRd.fz {W : World} {r : Nat} {a : Option Addr} {len cap : Nat} {zs : Nat → Int} {p : Nat} (h : IsRd W r a len cap zs p) (i : Nat) : W.frozen? ⟨r, i, none⟩ = false := by
  simp [World.frozen?, h.blk]
theorem IsRd.lt {W : World} {r : Nat} {a : Option Addr} {len cap : Nat} {zs : Nat → Int} {p : Nat} (h : IsRd W r a len cap zs p) : r < W.heap.size := by
  obtain ⟨hlt, _⟩ := Array.getElem?_eq_some_iff.1 h.blk
  exact hlt

theorem IsRd.kept {W W' : World} {r : Nat} {a : Option Addr} {len cap : Nat} {zs : Nat → Int} {p : Nat} (h : IsRd W r a len cap zs p) (hb : ∀ k, k ≤ r → W'.heap[k]? = W.heap[k]?) : IsRd W' r a len cap zs p := by
  refine ⟨(hb r (Nat.le_refl _)).trans h.blk, h.few, ?_⟩
  rcases h.code with h0 | ⟨b, off, ha, hlt, hc⟩
  · exact Or.inl h0
  · exact Or.inr ⟨b, off, ha, hlt, fun i hi => ⟨(World.cell?_of_block (a := ⟨b, off + i, none⟩) (hb b (by omega))).trans (hc i hi).1, (hc i hi).2⟩⟩

/-- Behind the store into the reader's place. -/
theorem IsRd.next {W : World} {r : Nat} {a : Option Addr} {len cap : Nat} {zs : Nat → Int} {p : Nat} (h : IsRd W r a len cap zs p) : IsRd (W.setCell ⟨r, 1, none⟩ (.int .i64 ((p : Int) + 1))) r a len cap zs (p + 1) := by
  refine ⟨?_, h.few, ?_⟩
  · simp [World.setCell, Array.getElem?_modify, h.blk]
  · rcases h.code with h0 | ⟨b, off, ha, hlt, hc⟩
    · exact Or.inl h0
    · exact Or.inr ⟨b, off, ha, hlt, fun i hi => ⟨(World.cell?_of_block (a := ⟨b, off + i, none⟩) (Below.heap_setCell _ _ _ _ (by show b ≠ r; omega))).trans (hc i hi).1, (hc i hi).2⟩⟩

theorem grown_set (w : World) (r o : Nat) (v : Value) (q : Nat) : w.grownBy ((w.setCell ⟨r, o, none⟩ v).drewN q) (some r) :=
  ⟨rfl, rfl, rfl, by simp [World.setCell], fun k hk hne => Below.heap_setCell w ⟨r, o, none⟩ v k (fun e => hne (by rw [e]))⟩

theorem IsRd.drewN {W : World} {r : Nat} {a : Option Addr} {len cap : Nat} {zs : Nat → Int} {p : Nat} (h : IsRd W r a len cap zs p) (q : Nat) : IsRd (W.drewN q) r a len cap zs p :=
  h.kept fun _ _ => rfl

theorem ret_i64 {a b : Int} (h : a = b) : Ending.returned (.int .i64 a) = .returned (.int .i64 b) := by rw [h]

theorem wrap_i64 (n : Int) (h0 : 0 ≤ n) (h1 : n < 9223372036854775808) : IntKind.i64.wrap n = n := by
  simp [IntKind.wrap, IntKind.bits, IntKind.signed]; omega

theorem xor_i64 (a b : Nat) (ha : a < 1152921504606846976) (hb : b < 1152921504606846976) : bits .xor .i64 (a : Int) (b : Int) = ((a ^^^ b : Nat) : Int) := by
  have hx : a ^^^ b < 2 ^ 60 := Nat.xor_lt_two_pow (by omega) (by omega)
  have h1 : (BitVec.ofInt 64 (a : Int)).toNat = a := by
    rw [BitVec.ofInt_natCast, BitVec.toNat_ofNat]; exact Nat.mod_eq_of_lt (by omega)
  have h2 : (BitVec.ofInt 64 (b : Int)).toNat = b := by
    rw [BitVec.ofInt_natCast, BitVec.toNat_ofNat]; exact Nat.mod_eq_of_lt (by omega)
  show IntKind.i64.wrap ((BitVec.ofInt 64 (a : Int) ^^^ BitVec.ofInt 64 (b : Int)).toNat : Int) = _
  rw [BitVec.toNat_xor, h1, h2, wrap_i64 _ (by omega) (by omega)]

/-- What is drawn behind the code's end is no less than 0. -/
theorem mix_nonneg (X : Int) (h0 : 0 ≤ X) (h1 : X < 1152921504606846976) : 0 ≤ bits .xor .i64 X (X / 64) := by
  obtain ⟨x, rfl⟩ := Int.eq_ofNat_of_zero_le h0
  have e : ((x : Int) / 64) = ((x / 64 : Nat) : Int) := by omega
  rw [e, xor_i64 x (x / 64) (by omega) (by omega)]
  omega

set_option maxHeartbeats 1000000 in
theorem pick_any (w : World) (r : Nat) (a : Option Addr) (len cap : Nat) (zs : Nat → Int) (p : Nat) (n : Int) (hR : IsRd w r a len cap zs p) (hp : p ≤ 1000000) (h1 : 1 ≤ n) (h2 : n ≤ 1000000) :
    Calls Try.prog 21 #[.pointer (some ⟨r, 0, none⟩), .int .i64 n] w fun e w' => ∃ x : Int, e = .returned (.int .i64 x) ∧ 0 ≤ x ∧ x < n ∧ w.grownBy w' (some r) ∧ IsRd w' r a len cap zs (p + 1) := by
  have c0 := hR.c0
  have c1 := hR.c1
  have fz := hR.fz
  have hf := hR.few
  have N0 := hR.next.c0
  have N1 := hR.next.c1
  have HN : Hid _ := hR.next
  have hn1 : decide (n < 1) = false := by simp; omega
  by_cases h0 : len = 0
  · subst h0
    clear hR
    go_enter Try.func21, Try.ntmps21
    go_wp2
    go_ret
    exact ⟨0, rfl, by omega, by omega, grown_set w r 1 _ 0, HN.out⟩
  · obtain ⟨b, off, rfl, hlt, hc⟩ := hR.code.resolve_left h0
    have hne : ((len : Int) == 0) = false := by simp; omega
    have NC : ∀ i, i < len → (w.setCell ⟨r, 1, none⟩ (.int .i64 ((p : Int) + 1))).cell? ⟨b, off + i, none⟩ = some (.int .u8 (zs i)) := fun i hi =>
      (World.cell?_of_block (a := ⟨b, off + i, none⟩) (Below.heap_setCell _ _ _ _ (by show b ≠ r; omega))).trans (hc i hi).1
    clear hR
    by_cases hpl : p < len
    · have hcp := NC p hpl
      have hz := (hc p hpl).2
      have hpl' : (p : Int) < (len : Int) := by omega
      clear NC hc
      go_enter Try.func21, Try.ntmps21
      go_wp2
      go_ret
      refine ⟨_, rfl, ?_, ?_, grown_set w r 1 _ 0, HN.out⟩
      · exact Int.emod_nonneg _ (by omega)
      · exact Int.emod_lt_of_pos _ (by omega)
    · have hd : decide ((p : Int) < (len : Int)) = false := by simp; omega
      have hlp : 0 < len := by omega
      have i1 : p % len < len := Nat.mod_lt _ hlp
      have i2 : (p * 7 + 3) % len < len := Nat.mod_lt _ hlp
      have e1 : ((p : Int) % (len : Int)).toNat = p % len := by omega
      have e2 : (((p : Int) * 7 + 3) % (len : Int)).toNat = (p * 7 + 3) % len := by rw [show ((p : Int) * 7 + 3) = ((p * 7 + 3 : Nat) : Int) from by omega, ← Int.natCast_emod, Int.toNat_natCast]
      have a1 := NC _ i1
      have a2 := NC _ i2
      have z1 := (hc _ i1).2
      have z2 := (hc _ i2).2
      have a3 := a2
      rw [← e2] at a3
      have b1 : 0 ≤ (p : Int) % (len : Int) := Int.emod_nonneg _ (by omega)
      have b2 : (p : Int) % (len : Int) < (len : Int) := Int.emod_lt_of_pos _ (by omega)
      have b3 : 0 ≤ ((p : Int) * 7 + 3) % (len : Int) := Int.emod_nonneg _ (by omega)
      have b4 : ((p : Int) * 7 + 3) % (len : Int) < (len : Int) := Int.emod_lt_of_pos _ (by omega)
      have d1 : 0 ≤ (p : Int) / (len : Int) := Int.ediv_nonneg (by omega) (by omega)
      have d2 : (p : Int) / (len : Int) ≤ 1000000 := by
        have : (p : Int) / (len : Int) ≤ p := Int.ediv_le_self _ (by omega)
        omega
      clear NC hc i1 i2 e1 e2
      go_enter Try.func21, Try.ntmps21
      go_wp2
      go_quiet (fail)
      go_wp2
      go_ret
      refine ⟨_, rfl, ?_, ?_, grown_set w r 1 _ nq, HN.out.drewN nq⟩
      · exact Int.tmod_nonneg _ (mix_nonneg _ (by omega) (by omega))
      · exact Int.tmod_lt_of_pos _ (by omega)

set_option maxHeartbeats 400000 in
theorem of_any (w : World) (r : Nat) (a : Option Addr) (len cap : Nat) (zs : Nat → Int) (p : Nat) (hR : IsRd w r a len cap zs p) (hp : p ≤ 1000000)
    (b off m c : Nat) (S : Nat → ByteArray) (hb : b ≠ r) (hm : 1 ≤ m) (hm2 : m ≤ 1000) (hc : ∀ i, i < m → w.cell? ⟨b, off + i, none⟩ = some (.string (S i))) :
    Calls Try.prog 47 #[.pointer (some ⟨r, 0, none⟩), .slice (some ⟨b, off, none⟩) m c] w fun e w' => ∃ i, i < m ∧ e = .returned (.string (S i)) ∧ w.grownBy w' (some r) ∧ IsRd w' r a len cap zs (p + 1) := by
  go_enter Try.func47, Try.ntmps47
  go_wp2_with fail
  refine (pick_any w r a len cap zs p m hR hp (by omega) (by omega)).mono ?_
  rintro e w1 ⟨x, rfl, hx0, hx1, hg, hR1⟩
  obtain ⟨i, rfl⟩ := Int.eq_ofNat_of_zero_le hx0
  have hi : i < m := by omega
  have hci : w1.cell? ⟨b, off + i, none⟩ = some (.string (S i)) := hg.cell (hc i hi) (by simp; exact hb)
  have HG : Hid (w.grownBy w1 (some r)) := hg
  have HR : Hid (IsRd w1 r a len cap zs (p + 1)) := hR1
  clear hc hg hR1 hR
  go_wp2
  go_ret
  exact ⟨i, hi, rfl, HG.out, HR.out⟩

theorem u8_bounds {n : Int} (h : (Lit.int .u8 n).wf = true) : 0 ≤ n ∧ n ≤ 255 := by
  simpa [Lit.wf, IntKind.min, IntKind.max, IntKind.signed, IntKind.bits] using h

set_option maxHeartbeats 400000 in
/-- The reader of a code: the code's first 2000 bytes, from place 0 on. -/
theorem l11Open_any (w : World) (a : Option Addr) (len cap : Nat) (zs : Nat → Int) (hlen : len ≤ maxLen) (hcap : len ≤ cap)
    (hcode : len = 0 ∨ ∃ b off, a = some ⟨b, off, none⟩ ∧ b < w.heap.size ∧ ∀ i, i < len → w.cell? ⟨b, off + i, none⟩ = some (.int .u8 (zs i)) ∧ 0 ≤ zs i ∧ zs i ≤ 255) :
    Calls Try.prog 19 #[.slice a len cap] w fun e w' => e = .returned (.pointer (some ⟨w.heap.size, 0, none⟩)) ∧ Below w.heap.size w w' ∧ ∃ len', IsRd w' w.heap.size a len' cap zs 0 := by
  unfold maxLen at hlen
  have HC : Hid _ := hcode
  clear hcode
  have key : ∀ l, l ≤ len → l ≤ 2000 → IsRd (w.alloc (.cells #[.slice a l cap, .int .i64 0] 77)) w.heap.size a l cap zs 0 := fun l hl hl2 => by
    refine ⟨new_block _ _, hl2, ?_⟩
    rcases HC.out with h | ⟨b, off, ha, hb, hc⟩
    · exact Or.inl (by omega)
    · exact Or.inr ⟨b, off, ha, hb, fun i hi => ⟨(World.cell?_of_block (a := ⟨b, off + i, none⟩) (Below.heap_alloc _ _ b hb)).trans (hc i (by omega)).1, (hc i (by omega)).2⟩⟩
  have HK : Hid _ := key
  clear key
  by_cases h : (2000 : Int) < len
  · go_enter Try.func19, Try.ntmps19
    go_wp2
    go_ret
    exact ⟨rfl, (Below.refl _ _).alloc (Nat.le_refl _) _, 2000, HK.out 2000 (by omega) (by omega)⟩
  · go_enter Try.func19, Try.ntmps19
    go_wp2
    go_ret
    exact ⟨rfl, (Below.refl _ _).alloc (Nat.le_refl _) _, len, HK.out len (by omega) (by omega)⟩
end Go.Proofs.Ytoblndhmkehoaaa

/-
  What the draws of ways give: some list of at most nine texts of at most five letters each, in new memory; nothing that was there turns but the reader's own place.
-/
namespace Go.Proofs.Ytoblndhmkehoaaa
open Go.RowKit
set_option linter.unusedVariables false

theorem IsRd.grown {W W' : World} {r : Nat} {a : Option Addr} {len cap : Nat} {zs : Nat → Int} {p : Nat} (h : IsRd W r a len cap zs p) {row : Option Nat} (hg : W.grownBy W' row) (hr : ∀ g, row = some g → r < g) : IsRd W' r a len cap zs p :=
  h.kept fun k hk => hg.block k (Nat.lt_of_le_of_lt hk h.lt) (fun e => by have := hr k e.symm; omega)

theorem IsRd.alloc {W : World} {r : Nat} {a : Option Addr} {len cap : Nat} {zs : Nat → Int} {p : Nat} (h : IsRd W r a len cap zs p) (o : Obj) : IsRd (W.alloc o) r a len cap zs p :=
  h.kept fun k hk => Below.heap_alloc W o k (Nat.lt_of_le_of_lt hk h.lt)

def names7 : List ByteArray := [⟨#[97]⟩, ⟨#[98]⟩, ⟨#[99]⟩, ⟨#[97]⟩, ⟨#[98]⟩, ⟨#[101, 116, 99]⟩, ⟨#[104, 111, 109, 101]⟩]

theorem names7_nm (i : Nat) (hi : i < 7) : Nm (names7.getD i ByteArray.empty) := by
  unfold Nm
  match i, hi with
  | 0, _ => simp [names7, nmL]
  | 1, _ => simp [names7, nmL]
  | 2, _ => simp [names7, nmL]
  | 3, _ => simp [names7, nmL]
  | 4, _ => simp [names7, nmL]
  | 5, _ => simp [names7, nmL]
  | 6, _ => simp [names7, nmL]

set_option maxHeartbeats 400000 in
theorem l1Name_nm (w : World) (r : Nat) (a : Option Addr) (len cap : Nat) (zs : Nat → Int) (p : Nat) (hR : IsRd w r a len cap zs p) (hp : p ≤ 1000000) :
    Calls Try.prog 72 #[.pointer (some ⟨r, 0, none⟩)] w fun e w' => ∃ s : ByteArray, e = .returned (.string s) ∧ Nm s ∧ w.grownBy w' (some r) ∧ IsRd w' r a len cap zs (p + 1) := by
  have HL : Hid (r < w.heap.size) := hR.lt
  have H7 : Hid (∀ i, i < 7 → (w.alloc (.cells #[.string ⟨#[97]⟩, .string ⟨#[98]⟩, .string ⟨#[99]⟩, .string ⟨#[97]⟩, .string ⟨#[98]⟩, .string ⟨#[101, 116, 99]⟩, .string ⟨#[104, 111, 109, 101]⟩] 9)).cell? ⟨w.heap.size, 0 + i, none⟩ = some (.string (names7.getD i ByteArray.empty))) := new_strs w names7
  go_enter Try.func72, Try.ntmps72
  go_wp2_with fail
  refine (of_any _ r a len cap zs p (hR.alloc _) hp w.heap.size 0 7 7 (fun i => names7.getD i ByteArray.empty) (by have := HL.out; omega) (by omega) (by omega) H7.out).mono ?_
  rintro e w1 ⟨i, hi, rfl, hg, hR1⟩
  have HG : Hid (w.grownBy w1 (some r)) := grown_trans (grown_alloc w _ _) hg
  have HR : Hid (IsRd w1 r a len cap zs (p + 1)) := hR1
  clear hg hR1 hR H7
  go_wp2
  go_ret
  exact ⟨_, rfl, names7_nm i hi, HG.out, HR.out⟩

theorem l1Name_any (w : World) (r : Nat) (a : Option Addr) (len cap : Nat) (zs : Nat → Int) (p : Nat) (hR : IsRd w r a len cap zs p) (hp : p ≤ 1000000) :
    Calls Try.prog 72 #[.pointer (some ⟨r, 0, none⟩)] w fun e w' => ∃ s : ByteArray, e = .returned (.string s) ∧ s.size ≤ 4 ∧ w.grownBy w' (some r) ∧ IsRd w' r a len cap zs (p + 1) :=
  (l1Name_nm w r a len cap zs p hR hp).mono fun e w' ⟨s, h1, h2, h3⟩ => ⟨s, h1, h2.size, h3⟩

/-- What an append of texts to a row of one's own leaves. -/
theorem owns_step {w wr w2 : World} {r : Nat} {a : Option Addr} {len cap : Nat} {zs : Nat → Int} {q : Nat} {v v' : Value} {L M : List ByteArray}
    (hr : r < w.heap.size) (hg : w.grownBy wr (some r)) (hR : IsRd wr r a len cap zs q) (hO : OwnsStrs wr w.heap.size v L) (o : Obj)
    (hown : w2.ownsRow w.heap.size 9 1 v' (L.length + M.length) (strv L ++ strv M)) (hgrow : (wr.alloc o).grownBy w2 v.ownBlock) (hnil : ¬ v' = .slice none 0 0) :
    OwnsStrs w2 w.heap.size v' (L ++ M) ∧ w.grownBy w2 (some r) ∧ IsRd w2 r a len cap zs q := by
  refine ⟨?_, grown_own (grown_trans hg (grown_alloc wr o _)) hgrow hO.block, (hR.alloc o).grown hgrow (fun g e => by have := hO.block g e; omega)⟩
  unfold OwnsStrs
  rw [List.length_append, ← strv_append]
  exact ⟨hown, hnil⟩

def bent4 : List ByteArray := [⟨#[]⟩, ⟨#[65]⟩, ⟨#[97, 98, 99, 100, 101]⟩, ⟨#[97, 47, 98]⟩]
def six : List ByteArray := [⟨#[97]⟩, ⟨#[98]⟩, ⟨#[99]⟩, ⟨#[100]⟩, ⟨#[101]⟩, ⟨#[102]⟩]

/-- A code that was handed in: len bytes. -/
def IsCode (w : World) (a : Option Addr) (len : Nat) (zs : Nat → Int) : Prop :=
  len = 0 ∨ ∃ b off, a = some ⟨b, off, none⟩ ∧ b < w.heap.size ∧ ∀ i, i < len → w.cell? ⟨b, off + i, none⟩ = some (.int .u8 (zs i)) ∧ 0 ≤ zs i ∧ zs i ≤ 255

theorem IsCode.below {w w' : World} {a : Option Addr} {len : Nat} {zs : Nat → Int} (h : IsCode w a len zs) (hb : Below w.heap.size w w') : IsCode w' a len zs := by
  rcases h with h | ⟨b, off, ha, hlt, hc⟩
  · exact Or.inl h
  · exact Or.inr ⟨b, off, ha, Nat.lt_of_lt_of_le hlt hb.size, fun i hi => ⟨(hb.cell (p := ⟨b, off + i, none⟩) hlt).trans (hc i hi).1, (hc i hi).2⟩⟩

/-- A drawn list: it lies in memory; at most nine texts of at most five letters. -/
structure Drawn (w : World) (g n cap : Nat) (S : Nat → ByteArray) : Prop where
  lt : g < w.heap.size
  cell : ∀ i, i < n → w.cell? ⟨g, 0 + i, none⟩ = some (.string (S i))
  room : n ≤ cap
  most : cap ≤ maxLen
  few : n ≤ 9
  short : ∀ i, (S i).size ≤ 5

theorem Drawn.strs {w : World} {g n cap : Nat} {S : Nat → ByteArray} (h : Drawn w g n cap S) : IsStrs w (some ⟨g, 0, none⟩) n S := Or.inr ⟨g, 0, rfl, h.lt, h.cell⟩
theorem Drawn.small {w : World} {g n cap : Nat} {S : Nat → ByteArray} (h : Drawn w g n cap S) : Small n S := fun i _ => by have := h.short i; unfold maxLen; omega
theorem Drawn.below {w w' : World} {g n cap : Nat} {S : Nat → ByteArray} (h : Drawn w g n cap S) (hb : Below w.heap.size w w') : Drawn w' g n cap S :=
  ⟨Nat.lt_of_lt_of_le h.lt hb.size, fun i hi => (hb.cell (p := ⟨g, 0 + i, none⟩) h.lt).trans (h.cell i hi), h.room, h.most, h.few, h.short⟩
theorem Drawn.len {w : World} {g n cap : Nat} {S : Nat → ByteArray} (h : Drawn w g n cap S) : n ≤ maxLen := by have := h.few; unfold maxLen; omega

theorem OwnsStrs.drawn {w : World} {B : Nat} {v : Value} {L : List ByteArray} (h : OwnsStrs w B v L) (h9 : L.length ≤ 9) (h5 : (L.all fun s => decide (s.size ≤ 5)) = true) :
    ∃ g cap, v = .slice (some ⟨g, 0, none⟩) L.length cap ∧ Drawn w g L.length cap (fun i => L.getD i ByteArray.empty) := by
  obtain ⟨g, cap, hv, _, hlt, hc, hn, hm⟩ := h.hands
  exact ⟨g, cap, hv, hlt, hc, hn, hm, h9, list_size h5⟩

theorem below_grown {w w' w'' : World} {r : Nat} (h : Below w.heap.size w w') (hr : w.heap.size ≤ r) (hg : w'.grownBy w'' (some r)) : Below w.heap.size w w'' :=
  h.grown hg h.size (fun k e => by simp at e; omega)

end Go.Proofs.Ytoblndhmkehoaaa

/-
  What TreeFind of the specification answers.
-/
namespace Go.Proofs.Ytoblndhmkehoaaa
open Go.RowKit
set_option linter.unusedVariables false

/-- The first place of a name in a directory; -1, if there is none. -/
def nameIx (d : Nd) (s : ByteArray) : Int := match (List.range d.nn).find? (fun i => (d.names i).toList == s.toList) with | some i => (i : Int) | none => -1

theorem nameIx_none {d : Nd} {s : ByteArray} (h : ∀ i, i < d.nn → ¬ (d.names i).toList = s.toList) : nameIx d s = -1 := by
  unfold nameIx
  rw [List.find?_eq_none.2 (fun i hi => by simpa using h i (by simpa using hi))]

theorem nameIx_some {d : Nd} {s : ByteArray} {k : Nat} (hk : k < d.nn) (he : (d.names k).toList = s.toList) (h : ∀ i, i < k → ¬ (d.names i).toList = s.toList) : nameIx d s = k := by
  unfold nameIx
  have : (List.range d.nn).find? (fun i => (d.names i).toList == s.toList) = some k := by
    rw [List.find?_range_eq_some]
    exact ⟨by simpa using he, by simpa using hk, fun j hj => by simpa using h j hj⟩
  rw [this]

theorem nameIx_spec (d : Nd) (s : ByteArray) : (nameIx d s = -1 ∧ ∀ i, i < d.nn → ¬ (d.names i).toList = s.toList) ∨ ∃ i : Nat, nameIx d s = i ∧ i < d.nn ∧ (d.names i).toList = s.toList := by
  unfold nameIx
  split
  · rename_i i hi
    have h1 := List.find?_some hi
    have h2 := List.mem_of_find?_eq_some hi
    exact Or.inr ⟨i, rfl, by simpa using h2, by simpa using h1⟩
  · rename_i hi
    have := List.find?_eq_none.1 hi
    exact Or.inl ⟨rfl, fun i hlt => by simpa using this i (by simpa using hlt)⟩

/-- What is known within l2Name. -/
structure NmIn (w : World) (d : Nd) (l : Loc) (W : World) : Prop where
  d : Blk W w.heap.size #[.int .i64 d.kind, .string d.text, .slice l.nA d.nn l.nc, .slice l.kA d.kn l.kc, .int .i64 d.turn] 38
  bel : Below w.heap.size w W

set_option maxHeartbeats 1000000 in
theorem l2Name_any (d : Nd) (l : Loc) (s : ByteArray) (w : World) (hI : NdIn w d l) (hn : d.nn ≤ maxLen) :
    Calls Try.prog 73 #[ndV d l, .string s] w fun e w' => Below w.heap.size w w' ∧ e = .returned (.int .i64 (nameIx d s)) := by
  unfold maxLen at hn
  unfold ndV
  go_enter Try.func73, Try.ntmps73
  go_wp2
  go_loopw [5] (fun i wr => ∃ k : Nat, k ≤ d.nn ∧ i = .int .i64 k ∧ NmIn w d l wr ∧ ∀ i, i < k → ¬ (d.names i).toList = s.toList) (fun i _ => d.nn - (intOf i).toNat)
  case atStart => exact ⟨0, Nat.zero_le _, rfl, ⟨(new1 w _ _).b0, (new1 w _ _).bel⟩, fun i hi => by omega⟩
  case round =>
    obtain ⟨k, hk, rfl, hin, hall⟩ := hrel
    have d2 : wr.cell? ⟨w.heap.size, 2, none⟩ = some (.slice l.nA d.nn l.nc) := hin.d.cell 2
    have hIr := hI.1.below (Nat.le_refl _) hin.bel
    have HE : Hid (NmIn w d l wr ∧ ∀ i, i < k → ¬ (d.names i).toList = s.toList) := ⟨hin, hall⟩
    clear hin hall
    by_cases hlt : k < d.nn
    · obtain ⟨b, off, ha, hlt2, hc⟩ := hIr.at hlt
      rw [ha] at d2
      have h1 := hc k hlt
      have hlti : (k : Int) < (d.nn : Int) := by omega
      clear hc
      cases he : ((d.names k).toList == s.toList) with
      | true =>
        have HX : Hid ((d.names k).toList = s.toList) := show _ = _ by simpa using he
        go_wp2_with fail
        go_ret
        exact ⟨HE.out.1.bel, by rw [nameIx_some hlt HX.out HE.out.2]; rfl⟩
      | false =>
        have HX : Hid (¬ (d.names k).toList = s.toList) := show ¬ _ by simpa using he
        go_wp2_with fail
        go_roundw
        case rel => exact ⟨k + 1, by omega, by go_num, HE.out.1, fun i hi => by
          by_cases e : i = k
          · subst e; exact HX.out
          · exact HE.out.2 i (by omega)⟩
        case measure => simp [intOf]; omega
    · clear hIr
      go_wp2
      go_ret
      exact ⟨HE.out.1.bel, by rw [nameIx_none (fun i hi => HE.out.2 i (by omega))]; rfl⟩
end Go.Proofs.Ytoblndhmkehoaaa

/-
  A tree that is being drawn: what is known of it, and what its steps leave. Plain facts.
-/
namespace Go.Proofs.Ytoblndhmkehoaaa
open Go.RowKit Go.Deep
set_option linter.unusedVariables false

/-- A place of a tree of n places that is being drawn. -/
structure NiceNd (n m : Nat) (d : Nd) : Prop where
  same : d.kn = d.nn
  few : d.nn ≤ m
  short : ∀ j, j < d.nn → Nm (d.names j)
  kids : ∀ j, j < d.nn → 0 ≤ d.kids j ∧ d.kids j < n
  text : d.text.size ≤ 10
  kind : 1 ≤ d.kind ∧ d.kind ≤ 2
  turn : 0 ≤ d.turn ∧ d.turn ≤ 1000

/-- A tree that is being drawn. -/
structure Nice (n m : Nat) (D : Nat → Nd) : Prop where
  some : 1 ≤ n
  few : n ≤ 10
  root : (D 0).kind = 2
  each : ∀ i, i < n → NiceNd n m (D i)

theorem NiceNd.more {n n' m m' : Nat} {d : Nd} (h : NiceNd n m d) (hn : n ≤ n') (hm : m ≤ m') : NiceNd n' m' d :=
  ⟨h.same, Nat.le_trans h.few hm, h.short, fun j hj => ⟨(h.kids j hj).1, by have := (h.kids j hj).2; omega⟩, h.text, h.kind, h.turn⟩

theorem Nice.more {n m m' : Nat} {D : Nat → Nd} (h : Nice n m D) (hm : m ≤ m') : Nice n m' D := ⟨h.some, h.few, h.root, fun i hi => (h.each i hi).more (Nat.le_refl _) hm⟩

/-- One place is another. -/
def putNd (D : Nat → Nd) (i : Nat) (d : Nd) : Nat → Nd := fun j => if j = i then d else D j
def putLoc (L : Nat → Loc) (i : Nat) (l : Loc) : Nat → Loc := fun j => if j = i then l else L j

theorem putNd_same (D : Nat → Nd) (i : Nat) (d : Nd) : putNd D i d i = d := by simp [putNd]
theorem putNd_ne (D : Nat → Nd) {i j : Nat} (d : Nd) (h : j ≠ i) : putNd D i d j = D j := by simp [putNd, h]

theorem Nice.put {n m : Nat} {D : Nat → Nd} (h : Nice n m D) {i : Nat} {d : Nd} (hi : i < n) (hd : NiceNd n m d) (hk : d.kind = (D i).kind) : Nice n m (putNd D i d) :=
  ⟨h.some, h.few, by
    by_cases e : (0 : Nat) = i
    · subst e; rw [putNd_same, hk]; exact h.root
    · rw [putNd_ne D d e]; exact h.root, fun j hj => by
    by_cases e : j = i
    · subst e; rw [putNd_same]; exact hd
    · rw [putNd_ne D d e]; exact h.each j hj⟩

section
variable {W : World} {B g cap n : Nat} {D : Nat → Nd} {L : Nat → Loc}

/-- The turn of a place is written. -/
theorem OwnT.setTurn (h : OwnT W B g cap n D L) {i : Nat} (hi : i < n) (z : Int) : OwnT (W.setCell ⟨g, i * 5 + 4, none⟩ (.int .i64 z)) B g cap n (putNd D i { D i with turn := z }) L := by
  refine h.set (fun j hj => ?_) (fun j hj => ?_)
  · obtain ⟨h0, h1, h2, h3, h4⟩ := h.cells j hj
    by_cases e : j = i
    · subst e
      rw [putNd_same]
      simp [h0, h1, h2, h3]
    · rw [putNd_ne D _ e]
      rw [if_neg (by omega), if_neg (by omega), if_neg (by omega), if_neg (by omega), if_neg (by omega)]
      exact ⟨h0, h1, h2, h3, h4⟩
  · by_cases e : j = i
    · subst e; rw [putNd_same]; exact h.lists j hj
    · rw [putNd_ne D _ e]; exact h.lists j hj

/-- The text of a place is written. -/
theorem OwnT.setText (h : OwnT W B g cap n D L) {i : Nat} (hi : i < n) (s : ByteArray) : OwnT (W.setCell ⟨g, i * 5 + 1, none⟩ (.string s)) B g cap n (putNd D i { D i with text := s }) L := by
  refine h.set (fun j hj => ?_) (fun j hj => ?_)
  · obtain ⟨h0, h1, h2, h3, h4⟩ := h.cells j hj
    by_cases e : j = i
    · subst e
      rw [putNd_same]
      simp [h0, h2, h3, h4]
    · rw [putNd_ne D _ e]
      rw [if_neg (by omega), if_neg (by omega), if_neg (by omega), if_neg (by omega), if_neg (by omega)]
      exact ⟨h0, h1, h2, h3, h4⟩
  · by_cases e : j = i
    · subst e; rw [putNd_same]; exact h.lists j hj
    · rw [putNd_ne D _ e]; exact h.lists j hj
end

theorem NiceNd.setTurn {n m : Nat} {d : Nd} (h : NiceNd n m d) {z : Int} (h0 : 0 ≤ z) (h1 : z ≤ 1000) : NiceNd n m { d with turn := z } := ⟨h.same, h.few, h.short, h.kids, h.text, h.kind, ⟨h0, h1⟩⟩
theorem NiceNd.setText {n m : Nat} {d : Nd} (h : NiceNd n m d) {s : ByteArray} (hs : s.size ≤ 10) : NiceNd n m { d with text := s } := ⟨h.same, h.few, h.short, h.kids, hs, h.kind, h.turn⟩
end Go.Proofs.Ytoblndhmkehoaaa

/-
  What is known within l2Grow, and what its steps leave. Plain facts.
-/
namespace Go.Proofs.Ytoblndhmkehoaaa
open Go.RowKit Go.Deep
set_option linter.unusedVariables false

/-- The row and the lists of a tree lie in none of these blocks. -/
structure Away (X : Nat → Prop) (g n : Nat) (L : Nat → Loc) : Prop where
  row : ¬ X g
  lists : ∀ i, i < n → (∀ b o x, (L i).nA = some ⟨b, o, x⟩ → ¬ X b) ∧ (∀ b o x, (L i).kA = some ⟨b, o, x⟩ → ¬ X b)

section
variable {W W' : World} {B g cap n : Nat} {D : Nat → Nd} {L : Nat → Loc} {X : Nat → Prop}

theorem OwnT.other (h : OwnT W B g cap n D L) (ha : Away X g n L) (hs : W.heap.size ≤ W'.heap.size) (hb : ∀ b, B ≤ b → b < W.heap.size → ¬ X b → W'.heap[b]? = W.heap[b]?) : OwnT W' B g cap n D L := by
  have hgb := hb g h.base h.lt ha.row
  have hc : ∀ k, W'.cell? ⟨g, k, none⟩ = W.cell? ⟨g, k, none⟩ := fun k => World.cell?_of_block hgb
  refine ⟨?_, h.base, h.room, h.most, fun i hi => ?_, fun i hi => ?_⟩
  · rw [hgb]; exact h.blk
  · rw [hc, hc, hc, hc, hc]; exact h.cells i hi
  · obtain ⟨⟨h1, h2⟩, h3, h4⟩ := h.lists i hi
    have a := ha.lists i hi
    exact ⟨⟨h1.of_blocks hs (fun b o x e => hb b (h3 b o x e).1 (h3 b o x e).2.2 (a.1 b o x e)), h2.of_blocks hs (fun b o x e => hb b (h4 b o x e).1 (h4 b o x e).2.2 (a.2 b o x e))⟩, h3.grow hs, h4.grow hs⟩

theorem OwnT.setOther (h : OwnT W B g cap n D L) (ha : Away X g n L) {b : Nat} (hb : X b) (k : Nat) (v : Value) : OwnT (W.setCell ⟨b, k, none⟩ v) B g cap n D L :=
  h.other ha (by simp [World.setCell]) (fun b' _ _ hx => blk_setCell_other _ _ _ _ (by show b' ≠ b; intro e; subst e; exact hx hb))

theorem away_low (h : OwnT W B g cap n D L) {m : Nat} (hm : W.heap.size ≤ m) : Away (fun b => b = m ∨ b = m + 1) g n L :=
  ⟨by have := h.lt; omega, fun i hi => ⟨fun b o x e => by have := ((h.lists i hi).2.1 b o x e).2.2; omega, fun b o x e => by have := ((h.lists i hi).2.2 b o x e).2.2; omega⟩⟩

/-- The names of a place are written. -/
theorem OwnT.setNames (h : OwnT W B g cap n D L) {i : Nat} (hi : i < n) (k c : Nat) (S : Nat → ByteArray) (a : Option Addr) (hS : IsStrs W a k S) (ho : Off W B g a) :
    OwnT (W.setCell ⟨g, i * 5 + 2, none⟩ (.slice a k c)) B g cap n (putNd D i { D i with nn := k, names := S }) (putLoc L i { L i with nA := a, nc := c }) := by
  refine h.set (fun j hj => ?_) (fun j hj => ?_)
  · obtain ⟨h0, h1, h2, h3, h4⟩ := h.cells j hj
    by_cases e : j = i
    · subst e
      rw [putNd_same]
      simp [h0, h1, h3, h4, putLoc]
    · rw [putNd_ne D _ e]
      rw [if_neg (by omega), if_neg (by omega), if_neg (by omega), if_neg (by omega), if_neg (by omega)]
      simp only [putLoc, if_neg e]
      exact ⟨h0, h1, h2, h3, h4⟩
  · by_cases e : j = i
    · subst e
      rw [putNd_same]
      simp only [putLoc, if_true]
      obtain ⟨⟨_, h2⟩, _, h4⟩ := h.lists j hj
      exact ⟨⟨hS, h2⟩, ho, h4⟩
    · rw [putNd_ne D _ e]
      simp only [putLoc, if_neg e]
      exact h.lists j hj

/-- The places of a place are written. -/
theorem OwnT.setKids (h : OwnT W B g cap n D L) {i : Nat} (hi : i < n) (k c : Nat) (Z : Nat → Int) (a : Option Addr) (hZ : IsInts W a k Z) (ho : Off W B g a) :
    OwnT (W.setCell ⟨g, i * 5 + 3, none⟩ (.slice a k c)) B g cap n (putNd D i { D i with kn := k, kids := Z }) (putLoc L i { L i with kA := a, kc := c }) := by
  refine h.set (fun j hj => ?_) (fun j hj => ?_)
  · obtain ⟨h0, h1, h2, h3, h4⟩ := h.cells j hj
    by_cases e : j = i
    · subst e
      rw [putNd_same]
      simp [h0, h1, h2, h4, putLoc]
    · rw [putNd_ne D _ e]
      rw [if_neg (by omega), if_neg (by omega), if_neg (by omega), if_neg (by omega), if_neg (by omega)]
      simp only [putLoc, if_neg e]
      exact ⟨h0, h1, h2, h3, h4⟩
  · by_cases e : j = i
    · subst e
      rw [putNd_same]
      simp only [putLoc, if_true]
      obtain ⟨⟨h1, _⟩, h3, _⟩ := h.lists j hj
      exact ⟨⟨h1, hZ⟩, h3, ho⟩
    · rw [putNd_ne D _ e]
      simp only [putLoc, if_neg e]
      exact h.lists j hj

/-- The kind of a place is written. -/
theorem OwnT.setKind (h : OwnT W B g cap n D L) {i : Nat} (hi : i < n) (z : Int) : OwnT (W.setCell ⟨g, i * 5, none⟩ (.int .i64 z)) B g cap n (putNd D i { D i with kind := z }) L := by
  refine h.set (fun j hj => ?_) (fun j hj => ?_)
  · obtain ⟨h0, h1, h2, h3, h4⟩ := h.cells j hj
    by_cases e : j = i
    · subst e
      rw [putNd_same]
      simp [h1, h2, h3, h4]
    · rw [putNd_ne D _ e]
      rw [if_neg (by omega), if_neg (by omega), if_neg (by omega), if_neg (by omega), if_neg (by omega)]
      exact ⟨h0, h1, h2, h3, h4⟩
  · by_cases e : j = i
    · subst e; rw [putNd_same]; exact h.lists j hj
    · rw [putNd_ne D _ e]; exact h.lists j hj

theorem put_put (D : Nat → Nd) (i : Nat) (d e : Nd) : putNd (putNd D i d) i e = putNd D i e := by
  funext j; by_cases h : j = i <;> simp [putNd, h]
theorem putL_putL (L : Nat → Loc) (i : Nat) (l m : Loc) : putLoc (putLoc L i l) i m = putLoc L i m := by
  funext j; by_cases h : j = i <;> simp [putLoc, h]

/-- A place is written whole. -/
theorem OwnT.setNode (h : OwnT W B g cap n D L) {i : Nat} (hi : i < n) (d : Nd) (l : Loc) (hd : NdIn W d l) (hn : Off W B g l.nA) (hk : Off W B g l.kA) :
    OwnT (((((W.setCell ⟨g, i * 5, none⟩ (.int .i64 d.kind)).setCell ⟨g, i * 5 + 1, none⟩ (.string d.text)).setCell ⟨g, i * 5 + 2, none⟩ (.slice l.nA d.nn l.nc)).setCell ⟨g, i * 5 + 3, none⟩ (.slice l.kA d.kn l.kc)).setCell ⟨g, i * 5 + 4, none⟩ (.int .i64 d.turn)) B g cap n (putNd D i d) (putLoc L i l) := by
  have hsz : ∀ (X : World) (k : Nat) (v : Value), (X.setCell ⟨g, k, none⟩ v).heap.size = X.heap.size := fun X k v => by simp [World.setCell]
  have oth : ∀ (X : World) (k : Nat) (v : Value) (b : Nat), b ≠ g → (X.setCell ⟨g, k, none⟩ v).heap[b]? = X.heap[b]? := fun X k v b hb => blk_setCell_other _ _ _ _ hb
  have h1 := h.setKind hi d.kind
  have h2 := h1.setText hi d.text
  have s2 : IsStrs ((W.setCell ⟨g, i * 5, none⟩ (.int .i64 d.kind)).setCell ⟨g, i * 5 + 1, none⟩ (.string d.text)) l.nA d.nn d.names := hd.1.of_blocks (by simp only [hsz]; exact Nat.le_refl _) (fun b o x e => by rw [oth _ _ _ b (hn b o x e).2.1, oth _ _ _ b (hn b o x e).2.1])
  have h3 := h2.setNames hi d.nn l.nc d.names l.nA s2 (hn.grow (by simp only [hsz]; exact Nat.le_refl _))
  have s3 : IsInts (((W.setCell ⟨g, i * 5, none⟩ (.int .i64 d.kind)).setCell ⟨g, i * 5 + 1, none⟩ (.string d.text)).setCell ⟨g, i * 5 + 2, none⟩ (.slice l.nA d.nn l.nc)) l.kA d.kn d.kids := hd.2.of_blocks (by simp only [hsz]; exact Nat.le_refl _) (fun b o x e => by rw [oth _ _ _ b (hk b o x e).2.1, oth _ _ _ b (hk b o x e).2.1, oth _ _ _ b (hk b o x e).2.1])
  have h4 := h3.setKids hi d.kn l.kc d.kids l.kA s3 (hk.grow (by simp only [hsz]; exact Nat.le_refl _))
  have h5 := h4.setTurn hi d.turn
  simp only [put_put, putL_putL, putNd_same] at h5
  have e : putLoc L i { (putLoc L i { L i with nA := l.nA, nc := l.nc }) i with kA := l.kA, kc := l.kc } = putLoc L i l := by
    congr 1
    simp [putLoc]
  rw [e] at h5
  exact h5
end
end Go.Proofs.Ytoblndhmkehoaaa

/-
  The lists of Kids of a tree that is being drawn are its own: each lies in a block of its own, with room as its cap says. Plain facts.
-/
namespace Go.Proofs.Ytoblndhmkehoaaa
open Go.RowKit Go.Deep
set_option linter.unusedVariables false

structure KidsOwn (W : World) (n : Nat) (D : Nat → Nd) (L : Nat → Loc) : Prop where
  room : ∀ i, i < n → RoomK W (L i).kA (D i).kn (L i).kc
  kids : ∀ i j, i < n → j < n → i ≠ j → Apart (L i).kA (L j).kA
  names : ∀ i j, i < n → j < n → Apart (L i).kA (L j).nA

section
variable {W W' : World} {n : Nat} {D D' : Nat → Nd} {L : Nat → Loc}

theorem KidsOwn.of_blocks (h : KidsOwn W n D L) (hb : ∀ i, i < n → ∀ b o x, (L i).kA = some ⟨b, o, x⟩ → W'.heap[b]? = W.heap[b]?) : KidsOwn W' n D L :=
  ⟨fun i hi => (h.room i hi).of_blocks (hb i hi), h.kids, h.names⟩

theorem KidsOwn.same (h : KidsOwn W n D L) (hk : ∀ i, i < n → (D' i).kn = (D i).kn) : KidsOwn W n D' L :=
  ⟨fun i hi => by rw [hk i hi]; exact h.room i hi, h.kids, h.names⟩

/-- A place is written whole, with lists of its own. -/
theorem KidsOwn.put (h : KidsOwn W n D L) {i : Nat} (d : Nd) (l : Loc) (hr : RoomK W l.kA d.kn l.kc) (hl : Apart l.kA l.nA) (hk : ∀ j, j < n → j ≠ i → Apart l.kA (L j).kA) (hn : ∀ j, j < n → j ≠ i → Apart l.kA (L j).nA) (hn' : ∀ j, j < n → j ≠ i → Apart (L j).kA l.nA) : KidsOwn W n (putNd D i d) (putLoc L i l) := by
  refine ⟨fun j hj => ?_, fun j j' hj hj' hne => ?_, fun j j' hj hj' => ?_⟩
  · by_cases e : j = i
    · subst e; rw [putNd_same]; simp only [putLoc, if_true]; exact hr
    · rw [putNd_ne D _ e]; simp only [putLoc, if_neg e]; exact h.room j hj
  · by_cases e : j = i
    · by_cases e' : j' = i
      · omega
      · simp only [putLoc, if_pos e, if_neg e']; exact hk j' hj' e'
    · by_cases e' : j' = i
      · simp only [putLoc, if_pos e', if_neg e]; exact (hk j hj e).symm
      · simp only [putLoc, if_neg e', if_neg e]; exact h.kids j j' hj hj' hne
  · by_cases e : j = i
    · by_cases e' : j' = i
      · simp only [putLoc, if_pos e, if_pos e']; exact hl
      · simp only [putLoc, if_pos e, if_neg e']; exact hn j' hj' e'
    · by_cases e' : j' = i
      · simp only [putLoc, if_pos e', if_neg e]; exact hn' j hj e
      · simp only [putLoc, if_neg e', if_neg e]; exact h.names j j' hj hj'

/-- A place with no lists more. -/
theorem KidsOwn.app (h : KidsOwn W n D L) (d : Nd) (l : Loc) (hd : d.kn = 0) (hk : l.kA = none) (hc : l.kc = 0) (hn : l.nA = none) : KidsOwn W (n + 1) (putNd D n d) (putLoc L n l) := by
  have h0 : ∀ j, j < n + 1 → j ≠ n → j < n := fun j h1 h2 => by omega
  refine ⟨fun j hj => ?_, fun j j' hj hj' hne => ?_, fun j j' hj hj' => ?_⟩
  · by_cases e : j = n
    · subst e; rw [putNd_same]; simp only [putLoc, if_true]; exact Or.inl ⟨hk, hd, hc⟩
    · rw [putNd_ne D _ e]; simp only [putLoc, if_neg e]; exact h.room j (h0 j hj e)
  · by_cases e : j = n
    · simp only [putLoc, if_pos e]; rw [hk]; exact apart_none _
    · by_cases e' : j' = n
      · simp only [putLoc, if_pos e']; rw [hk]; exact apart_none' _
      · simp only [putLoc, if_neg e', if_neg e]; exact h.kids j j' (h0 j hj e) (h0 j' hj' e') hne
  · by_cases e : j = n
    · simp only [putLoc, if_pos e]; rw [hk]; exact apart_none _
    · by_cases e' : j' = n
      · simp only [putLoc, if_pos e']; rw [hn]; exact apart_none' _
      · simp only [putLoc, if_neg e', if_neg e]; exact h.names j j' (h0 j hj e) (h0 j' hj' e')
end
end Go.Proofs.Ytoblndhmkehoaaa

/-
  A place more in a tree that is being drawn; what is known within l2Grow. Plain facts.
-/
namespace Go.Proofs.Ytoblndhmkehoaaa
open Go.RowKit Go.Deep
set_option linter.unusedVariables false

def loc00 : Loc := ⟨none, 0, none, 0⟩
/-- A place with nothing but a kind. -/
def kindNd (k : Int) : Nd := ⟨k, ByteArray.empty, 0, fun _ => ByteArray.empty, 0, fun _ => 0, 0⟩
def kindCells (k : Int) : List Value := [.int .i64 k, .string ByteArray.empty, .slice none 0 0, .slice none 0 0, .int .i64 0]
/-- A place with nothing but a kind and a turn. -/
def leafNd (k z : Int) : Nd := ⟨k, ByteArray.empty, 0, fun _ => ByteArray.empty, 0, fun _ => 0, z⟩
def leafCells (k z : Int) : List Value := [.int .i64 k, .string ByteArray.empty, .slice none 0 0, .slice none 0 0, .int .i64 z]

section
variable {W W' : World} {B g cap n : Nat} {D : Nat → Nd} {L : Nat → Loc} {X : Nat → Prop}

/-- The row as one's own. -/
theorem OwnT.owns (h : OwnT W B g cap n D L) {cur : Array Value} (hc : W.heap[g]? = some (.cells cur 38 (0, 0))) (hs : cur.size = cap * 5) :
    W.ownsRow B 38 5 (.slice (some ⟨g, 0, none⟩) n cap) n (cur.toList.take (n * 5)) := by
  have hr := h.room
  refine ⟨by simp [hs]; omega, Or.inr ⟨g, cap, cur, rfl, h.base, hc, h.room, h.most, hs, rfl⟩⟩

/-- A place more, behind all. -/
theorem OwnT.appL (h : OwnT W B g cap n D L) {cur : Array Value} (hc : W.heap[g]? = some (.cells cur 38 (0, 0))) (hs : cur.size = cap * 5) {g' cap' : Nat} {k z : Int}
    (hown : W'.ownsRow B 38 5 (.slice (some ⟨g', 0, none⟩) (n + 1) cap') (n + 1) (cur.toList.take (n * 5) ++ leafCells k z)) (hgrow : W.grownBy W' (some g)) (hat : g = g' ∨ W.heap.size ≤ g') :
    OwnT W' B g' cap' (n + 1) (putNd D n (leafNd k z)) (putLoc L n loc00) := by
  have hr := h.room
  rcases hown.2 with ⟨h0, _⟩ | ⟨g2, cap2, cur2, hv, hb2, hblk2, hn2, hm2, hs2, ht2⟩
  · cases h0
  cases hv
  have hl : (cur.toList.take (n * 5)).length = n * 5 := by simp [hs]; omega
  have cell2 : ∀ j, j < (n + 1) * 5 → W'.cell? ⟨g', j, none⟩ = (cur.toList.take (n * 5) ++ leafCells k z)[j]? := fun j hj => by
    rw [← ht2, List.getElem?_take_of_lt hj]
    simp [World.cell?, hblk2]
  have old : ∀ j, j < n * 5 → W'.cell? ⟨g', j, none⟩ = W.cell? ⟨g, j, none⟩ := fun j hj => by
    rw [cell2 j (by omega), List.getElem?_append_left (by omega), List.getElem?_take_of_lt hj]
    simp [World.cell?, hc]
  have new : ∀ j, j < 5 → W'.cell? ⟨g', n * 5 + j, none⟩ = (leafCells k z)[j]? := fun j hj => by
    rw [cell2 _ (by omega), List.getElem?_append_right (by omega), hl]
    congr 1
    omega
  have hoff : ∀ a, Off W B g a → Off W' B g' a := fun a ha b o x e => by
    obtain ⟨h1, h2, h3⟩ := ha b o x e
    exact ⟨h1, by rcases hat with rfl | hat <;> omega, by have := hgrow.size; omega⟩
  have hblk : ∀ a, Off W B g a → ∀ b o x, a = some ⟨b, o, x⟩ → W'.heap[b]? = W.heap[b]? := fun a ha b o x e => by
    obtain ⟨h1, h2, h3⟩ := ha b o x e
    exact hgrow.block b h3 (by simpa using h2)
  refine ⟨⟨cur2, hblk2, hs2⟩, hb2, hn2, hm2, fun i hi => ?_, fun i hi => ?_⟩
  · by_cases e : i = n
    · subst e
      rw [putNd_same]
      have n0 := new 0 (by omega)
      have n1 := new 1 (by omega)
      have n2 := new 2 (by omega)
      have n3 := new 3 (by omega)
      have n4 := new 4 (by omega)
      simp only [putLoc, if_true]
      exact ⟨n0, n1, n2, n3, n4⟩
    · rw [putNd_ne D _ e]
      simp only [putLoc, if_neg e]
      rw [old _ (by omega), old _ (by omega), old _ (by omega), old _ (by omega), old _ (by omega)]
      exact h.cells i (by omega)
  · by_cases e : i = n
    · subst e
      rw [putNd_same]
      simp only [putLoc, if_true]
      exact ⟨⟨Or.inl rfl, Or.inl rfl⟩, fun b o x e => by simp [loc00] at e, fun b o x e => by simp [loc00] at e⟩
    · rw [putNd_ne D _ e]
      simp only [putLoc, if_neg e]
      obtain ⟨⟨h1, h2⟩, h3, h4⟩ := h.lists i (by omega)
      exact ⟨⟨h1.of_blocks hgrow.size (hblk _ h3), h2.of_blocks hgrow.size (hblk _ h4)⟩, hoff _ h3, hoff _ h4⟩

theorem OwnT.app (h : OwnT W B g cap n D L) {cur : Array Value} (hc : W.heap[g]? = some (.cells cur 38 (0, 0))) (hs : cur.size = cap * 5) {g' cap' : Nat} {k : Int}
    (hown : W'.ownsRow B 38 5 (.slice (some ⟨g', 0, none⟩) (n + 1) cap') (n + 1) (cur.toList.take (n * 5) ++ kindCells k)) (hgrow : W.grownBy W' (some g)) (hat : g = g' ∨ W.heap.size ≤ g') :
    OwnT W' B g' cap' (n + 1) (putNd D n (kindNd k)) (putLoc L n loc00) := OwnT.appL (k := k) (z := 0) h hc hs hown hgrow hat
end

/-- What is known within l2Grow. -/
structure GI (w : World) (X : Nat → Prop) (r : Nat) (a : Option Addr) (len cp : Nat) (zs : Nat → Int) (q g cap n : Nat) (D : Nat → Nd) (L : Nat → Loc) (now : Int) (W : World) : Prop where
  rd : IsRd W r a len cp zs q
  t : Blk W w.heap.size #[.slice (some ⟨g, 0, none⟩) n cap, .int .i64 now] 25
  res : Blk W (w.heap.size + 1) #[.slice none 0 0, .int .i64 0] 25
  own : OwnT W (r + 1) g cap n D L
  away : Away (fun b => b = w.heap.size ∨ b = w.heap.size + 1) g n L
  bel : Below r w W
  rlt : r < w.heap.size
  awX : Away X g n L
  kept : ∀ b, X b → W.heap[b]? = w.heap[b]?
  hX : ∀ b, X b → b < w.heap.size ∧ b ≠ r
  kids : KidsOwn W n D L

section
variable {w : World} {X : Nat → Prop} {r : Nat} {a : Option Addr} {len cp : Nat} {zs : Nat → Int} {q g cap n : Nat} {D : Nat → Nd} {L : Nat → Loc} {now : Int} {W W' : World}

theorem GI.size (h : GI w X r a len cp zs q g cap n D L now W) : w.heap.size + 2 ≤ W.heap.size := by have := h.res.lt; omega

/-- The reader goes on. -/
theorem GI.read (h : GI w X r a len cp zs q g cap n D L now W) (hg : W.grownBy W' (some r)) {q' : Nat} (hr : IsRd W' r a len cp zs q') : GI w X r a len cp zs q' g cap n D L now W' := by
  have hs := h.size
  have hl := h.rlt
  exact ⟨hr, h.t.of_block (hg.block _ (by omega) (by simp; omega)), h.res.of_block (hg.block _ (by omega) (by simp; omega)), h.own.grown hg (by omega), h.away, h.bel.grown hg (by omega) (fun k e => by simp at e; omega), h.rlt, h.awX, fun b hb => (hg.block b (by have := h.hX b hb; omega) (by have := h.hX b hb; simp; omega)).trans (h.kept b hb), h.hX, h.kids.of_blocks (fun i hi b o x e => by have h1 := (h.own.lists i hi).2.2 b o x e; have h2 := (h.away.lists i hi).2 b o x e; exact hg.block b (by omega) (by simp; omega))⟩

/-- Nothing that was there turns. -/
theorem GI.below (h : GI w X r a len cp zs q g cap n D L now W) (hb : Below W.heap.size W W') : GI w X r a len cp zs q g cap n D L now W' := by
  have hs := h.size
  have hl := h.rlt
  exact ⟨h.rd.kept (fun k hk => hb.block k (by omega)), h.t.below hb h.t.lt, h.res.below hb h.res.lt, h.own.below hb, h.away, h.bel.trans (hb.mono (by omega)), h.rlt, h.awX, fun b hx => (hb.block b (by have := h.hX b hx; omega)).trans (h.kept b hx), h.hX, h.kids.of_blocks (fun i hi b o x e => by have h1 := (h.own.lists i hi).2.2 b o x e; have h2 := (h.away.lists i hi).2 b o x e; exact hb.block b (by omega))⟩
theorem GI.drew (h : GI w X r a len cp zs q g cap n D L now W) (k : Nat) : GI w X r a len cp zs q g cap n D L now (W.drewN k) := h.below (below_drewN (Below.refl _ _) k)
theorem GI.alloc (h : GI w X r a len cp zs q g cap n D L now W) (o : Obj) : GI w X r a len cp zs q g cap n D L now (W.alloc o) := h.below ((Below.refl _ _).alloc (Nat.le_refl _) _)

/-- Now is written. -/
theorem GI.setNow (h : GI w X r a len cp zs q g cap n D L now W) (z : Int) : GI w X r a len cp zs q g cap n D L z (W.setCell ⟨w.heap.size, 1, none⟩ (.int .i64 z)) := by
  have hl := h.rlt
  exact ⟨h.rd.kept (fun k hk => blk_setCell_other _ _ _ _ (by show k ≠ w.heap.size; omega)), h.t.set 1 _, h.res.off _ (by omega), h.own.setOther h.away (Or.inl rfl) _ _, h.away, bel_put h.bel _ (by omega), h.rlt, h.awX, fun b hx => (blk_setCell_other _ _ _ _ (by show b ≠ w.heap.size; have := h.hX b hx; omega)).trans (h.kept b hx), h.hX, h.kids.of_blocks (fun i hi b o x e => by have h1 := (h.own.lists i hi).2.2 b o x e; have h2 := (h.away.lists i hi).2 b o x e; exact blk_setCell_other _ _ _ _ (by show b ≠ w.heap.size; omega))⟩

/-- A cell of the row is written. -/
theorem GI.put (h : GI w X r a len cp zs q g cap n D L now W) {k : Nat} {v : Value} {D' : Nat → Nd} (hkn : ∀ i, i < n → (D' i).kn = (D i).kn) (ho : OwnT (W.setCell ⟨g, k, none⟩ v) (r + 1) g cap n D' L) : GI w X r a len cp zs q g cap n D' L now (W.setCell ⟨g, k, none⟩ v) := by
  have hb := h.own.base
  have hr := h.away.row
  exact ⟨h.rd.kept (fun j hj => blk_setCell_other _ _ _ _ (by show j ≠ g; omega)), h.t.off _ (by omega), h.res.off _ (by omega), ho, h.away, bel_put h.bel _ (by omega), h.rlt, h.awX, fun b hx => (blk_setCell_other _ _ _ _ (by show b ≠ g; intro e; subst e; exact h.awX.row hx)).trans (h.kept b hx), h.hX, (h.kids.of_blocks (fun i hi b o x e => by have h1 := (h.own.lists i hi).2.2 b o x e; have h2 := (h.away.lists i hi).2 b o x e; exact blk_setCell_other _ _ _ _ (by show b ≠ g; omega))).same hkn⟩

/-- A place is written whole. -/
theorem GI.putNode (h : GI w X r a len cp zs q g cap n D L now W) {i : Nat} (hi : i < n) (d : Nd) (l : Loc) (hd : NdIn W d l) (hrm : RoomK W l.kA d.kn l.kc) (hap : Apart l.kA l.nA) (hfar : ∀ j, j < n → j ≠ i → Apart l.kA (L j).kA ∧ Apart l.kA (L j).nA ∧ Apart (L j).kA l.nA) (hn : ∀ b o x, l.nA = some ⟨b, o, x⟩ → w.heap.size + 2 ≤ b ∧ b ≠ g ∧ b < W.heap.size) (hk : ∀ b o x, l.kA = some ⟨b, o, x⟩ → w.heap.size + 2 ≤ b ∧ b ≠ g ∧ b < W.heap.size) :
    GI w X r a len cp zs q g cap n (putNd D i d) (putLoc L i l) now (((((W.setCell ⟨g, i * 5, none⟩ (.int .i64 d.kind)).setCell ⟨g, i * 5 + 1, none⟩ (.string d.text)).setCell ⟨g, i * 5 + 2, none⟩ (.slice l.nA d.nn l.nc)).setCell ⟨g, i * 5 + 3, none⟩ (.slice l.kA d.kn l.kc)).setCell ⟨g, i * 5 + 4, none⟩ (.int .i64 d.turn)) := by
  have hl := h.rlt
  have hb := h.own.base
  have hr := h.away.row
  have ho := h.own.setNode hi d l hd (fun b o x e => by have := hn b o x e; omega) (fun b o x e => by have := hk b o x e; omega)
  have oth : ∀ (X : World) (k : Nat) (v : Value) (b : Nat), b ≠ g → (X.setCell ⟨g, k, none⟩ v).heap[b]? = X.heap[b]? := fun X k v b hb => blk_setCell_other _ _ _ _ hb
  have all : ∀ b, b ≠ g → (((((W.setCell ⟨g, i * 5, none⟩ (.int .i64 d.kind)).setCell ⟨g, i * 5 + 1, none⟩ (.string d.text)).setCell ⟨g, i * 5 + 2, none⟩ (.slice l.nA d.nn l.nc)).setCell ⟨g, i * 5 + 3, none⟩ (.slice l.kA d.kn l.kc)).setCell ⟨g, i * 5 + 4, none⟩ (.int .i64 d.turn)).heap[b]? = W.heap[b]? := fun b hb => by
    rw [oth _ _ _ b hb, oth _ _ _ b hb, oth _ _ _ b hb, oth _ _ _ b hb, oth _ _ _ b hb]
  refine ⟨h.rd.kept (fun j hj => all j (by omega)), h.t.of_block (all _ (by omega)), h.res.of_block (all _ (by omega)), ho, ⟨hr, fun j hj => ?_⟩, bel_put (bel_put (bel_put (bel_put (bel_put h.bel (b := g) _ (by omega)) (b := g) _ (by omega)) (b := g) _ (by omega)) (b := g) _ (by omega)) (b := g) _ (by omega), h.rlt, ⟨h.awX.row, fun j hj => ?_⟩, fun b hx => (all b (fun e => by subst e; exact h.awX.row hx)).trans (h.kept b hx), h.hX, ?_⟩
  · by_cases e : j = i
    · subst e
      simp only [putLoc, if_true]
      exact ⟨fun b o x e => by have := hn b o x e; omega, fun b o x e => by have := hk b o x e; omega⟩
    · simp only [putLoc, if_neg e]
      exact h.away.lists j hj
  · by_cases e : j = i
    · subst e
      simp only [putLoc, if_true]
      exact ⟨fun b o x e => by intro hx; have := hn b o x e; have := h.hX b hx; omega, fun b o x e => by intro hx; have := hk b o x e; have := h.hX b hx; omega⟩
    · simp only [putLoc, if_neg e]
      exact h.awX.lists j hj
  · refine KidsOwn.put (h.kids.of_blocks (fun i hi b o x e => by have h1 := (h.own.lists i hi).2.2 b o x e; exact all b (by omega))) d l (hrm.of_blocks (fun b o x e => all b (hk b o x e).2.1)) hap (fun j hj e => (hfar j hj e).1) (fun j hj e => (hfar j hj e).2.1) (fun j hj e => (hfar j hj e).2.2)

/-- What l2With makes of a place of a tree that is being drawn. -/
theorem nice_with {n m : Nat} {d : Nd} {NL : List ByteArray} {KL : List Int} (h : NiceNd n m d) (hw : WL (fun z => 0 ≤ z ∧ z < (n : Int)) d.nn true NL KL) : NiceNd n (m + 1) (withNd d NL KL) := by
  have h1 := hw.len
  have h2 := hw.same
  simp at h1
  refine ⟨h2, by show NL.length ≤ m + 1; have := h.few; omega, fun j hj => ?_, fun j hj => ?_, by show ByteArray.empty.size ≤ 10; simp, h.kind, h.turn⟩
  · have hj' : j < NL.length := hj
    have : (withNd d NL KL).names j = NL[j] := by simp [withNd, hj']
    rw [this]
    exact hw.short _ (List.getElem_mem hj')
  · have hj' : j < KL.length := by have : j < NL.length := hj; omega
    have : (withNd d NL KL).kids j = KL[j] := by simp [withNd, hj']
    rw [this]
    exact hw.right _ (List.getElem_mem hj')
end
end Go.Proofs.Ytoblndhmkehoaaa

/-
  What l2Grow does to a tree that is being drawn.
-/
namespace Go.Proofs.Ytoblndhmkehoaaa
open Go.RowKit Go.Deep
set_option linter.unusedVariables false

/-- What is known while the directories are gathered. -/
structure DI (w : World) (g n cap : Nat) (now : Int) (v : Value) (DL : List Int) (W : World) : Prop where
  t : Blk W w.heap.size #[.slice (some ⟨g, 0, none⟩) n cap, .int .i64 now] 25
  res : Blk W (w.heap.size + 1) #[.slice none 0 0, .int .i64 0] 25
  own : W.ownsRow (w.heap.size + 2) 3 1 v DL.length (intv DL)
  some : v ≠ .slice none 0 0
  bel : Below w.heap.size w W
  size : w.heap.size + 2 ≤ W.heap.size

/-- .. of which directories. -/
structure DirL (n : Nat) (D : Nat → Nd) (k : Nat) (DL : List Int) : Prop where
  dir : ∀ z ∈ DL, ∃ x : Nat, z = x ∧ x < n ∧ (D x).kind = 2
  some : 1 ≤ k → 1 ≤ DL.length
  few : DL.length ≤ k

theorem DirL.more {n : Nat} {D : Nat → Nd} {k : Nat} {DL : List Int} (h : DirL n D k DL) (hk : k < n) (hd : (D k).kind = 2) : DirL n D (k + 1) (DL ++ [(k : Int)]) :=
  ⟨fun z hz => by
    rcases List.mem_append.1 hz with hz | hz
    · exact h.dir z hz
    · simp at hz; exact ⟨k, hz, hk, hd⟩, fun _ => by simp, by simp; exact h.few⟩

theorem DirL.skip {n : Nat} {D : Nat → Nd} {k : Nat} {DL : List Int} (h : DirL n D k DL) (hr : (D 0).kind = 2) (hd : ¬ (D k).kind = 2) : DirL n D (k + 1) DL :=
  ⟨h.dir, fun _ => h.some (by
    rcases Nat.eq_zero_or_pos k with e | e
    · subst e; exact absurd hr hd
    · exact e), by have := h.few; omega⟩

theorem DI.app {w : World} {g n cap : Nat} {now : Int} {v v' : Value} {DL : List Int} {W W' : World} {z : Int} (h : DI w g n cap now v DL W) (hown : W'.ownsRow (w.heap.size + 2) 3 1 v' (DL.length + 1) (intv DL ++ intv [z])) (hgrow : W.grownBy W' v.ownBlock) (hs : ¬ v' = .slice none 0 0) : DI w g n cap now v' (DL ++ [z]) W' := by
  have hsz := h.size
  have hob := own_ge h.own
  have hb : ∀ b, b < w.heap.size + 2 → W'.heap[b]? = W.heap[b]? := fun b hb => hgrow.block b (by omega) (fun e => by have := hob b e.symm; omega)
  exact ⟨h.t.of_block (hb _ (by omega)), h.res.of_block (hb _ (by omega)), by rw [List.length_append, ← intv_append]; exact hown, hs, h.bel.grown hgrow (by omega) (fun b e => by have := hob b e; omega), Nat.le_trans hsz hgrow.size⟩

theorem DI.alloc {w : World} {g n cap : Nat} {now : Int} {v : Value} {DL : List Int} {W : World} (h : DI w g n cap now v DL W) (o : Obj) : DI w g n cap now v DL (W.alloc o) :=
  ⟨h.t.alloc _, h.res.alloc _, h.own.alloc o, h.some, h.bel.alloc (by have := h.size; omega) _, by have := h.size; simp; omega⟩

/-- What l2Grow leaves. -/
structure Grew (w : World) (X : Nat → Prop) (r : Nat) (a : Option Addr) (len cp : Nat) (zs : Nat → Int) (p m : Nat) (now : Int) (g cap n : Nat) (D : Nat → Nd) (L : Nat → Loc) (W : World) : Prop where
  rd : ∃ q, IsRd W r a len cp zs q ∧ q ≤ p + 20
  own : OwnT W (r + 1) g cap n D L
  nice : Nice n (m + 1) D
  bel : Below r w W
  away : Away X g n L
  kept : ∀ b, X b → W.heap[b]? = w.heap[b]?
  kids : KidsOwn W n D L

/-- What is known at l2Grow's end, behind the store into its answer. -/
structure GEnd (w : World) (X : Nat → Prop) (r : Nat) (a : Option Addr) (len cp : Nat) (zs : Nat → Int) (p m : Nat) (now : Int) (g cap n : Nat) (D : Nat → Nd) (L : Nat → Loc) (W : World) : Prop where
  ans : Blk W (w.heap.size + 1) #[.slice (some ⟨g, 0, none⟩) n cap, .int .i64 (now + 1)] 25
  grew : Grew w X r a len cp zs p m now g cap n D L W

theorem GI.fin {w : World} {X : Nat → Prop} {r : Nat} {a : Option Addr} {len cp : Nat} {zs : Nat → Int} {p q m g cap n : Nat} {D : Nat → Nd} {L : Nat → Loc} {now : Int} {W : World} (h : GI w X r a len cp zs q g cap n D L (now + 1) W) (hq : q ≤ p + 20) (hN : Nice n (m + 1) D) :
    GEnd w X r a len cp zs p m now g cap n D L ((W.setCell ⟨w.heap.size + 1, 0, none⟩ (.slice (some ⟨g, 0, none⟩) n cap)).setCell ⟨w.heap.size + 1, 1, none⟩ (.int .i64 (now + 1))) := by
  have hl := h.rlt
  have h1 := h.own.setOther h.away (b := w.heap.size + 1) (Or.inr rfl) 0 (.slice (some ⟨g, 0, none⟩) n cap)
  have h2 := h1.setOther h.away (b := w.heap.size + 1) (Or.inr rfl) 1 (.int .i64 (now + 1))
  refine ⟨(h.res.set 0 _).set 1 _, ⟨q, ?_, hq⟩, h2, hN, bel_put (bel_put h.bel (b := w.heap.size + 1) _ (by omega)) (b := w.heap.size + 1) _ (by omega), h.awX, fun b hx => ((blk_setCell_other _ _ _ _ (by show b ≠ w.heap.size + 1; have := h.hX b hx; omega)).trans (blk_setCell_other _ _ _ _ (by show b ≠ w.heap.size + 1; have := h.hX b hx; omega))).trans (h.kept b hx), h.kids.of_blocks (fun i hi b o x e => by have h2 := (h.away.lists i hi).2 b o x e; exact (blk_setCell_other _ _ _ _ (by show b ≠ w.heap.size + 1; omega)).trans (blk_setCell_other _ _ _ _ (by show b ≠ w.heap.size + 1; omega)))⟩
  exact h.rd.kept (fun k hk => (blk_setCell_other _ _ _ _ (by show k ≠ w.heap.size + 1; omega)).trans (blk_setCell_other _ _ _ _ (by show k ≠ w.heap.size + 1; omega)))

/-- A region is walked, and left with four things known. -/
theorem wp_cut4 {X Y Z U : Type} (F : X → Y → Z → U → World → Prop) {P : Program} {c : Code} {K : Act → World → Prop} {Q : Exit → Act → World → Prop} {a : Act} {w : World} (A : X → Y → Z → U → Act)
    (leaf : (∀ x y z u W, F x y z u W → K (A x y z u) W) → c.wp P (Exit.then K Q) a w) (k : ∀ x y z u W, F x y z u W → K (A x y z u) W) : c.wp P (Exit.then K Q) a w := leaf k

/-- A place is appended, and t.Nodes written. -/
theorem GI.append {w : World} {X : Nat → Prop} {r : Nat} {a : Option Addr} {len cp : Nat} {zs : Nat → Int} {q g cap n : Nat} {D : Nat → Nd} {L : Nat → Loc} {now : Int} {W W' : World} (h : GI w X r a len cp zs q g cap n D L now W) {cur : Array Value} (hc : W.heap[g]? = some (.cells cur 38 (0, 0))) (hs : cur.size = cap * 5) {g' cap' : Nat} {k : Int}
    (hown : W'.ownsRow (r + 1) 38 5 (.slice (some ⟨g', 0, none⟩) (n + 1) cap') (n + 1) (cur.toList.take (n * 5) ++ kindCells k)) (hgrow : W.grownBy W' (some g)) (hat : g = g' ∨ W.heap.size ≤ g') :
    GI w X r a len cp zs q g' cap' (n + 1) (putNd D n (kindNd k)) (putLoc L n loc00) now (W'.setCell ⟨w.heap.size, 0, none⟩ (.slice (some ⟨g', 0, none⟩) (n + 1) cap')) := by
  have hl := h.rlt
  have hsz := h.size
  have hb := h.own.base
  have hr : ¬ (g = w.heap.size ∨ g = w.heap.size + 1) := h.away.row
  have ho := h.own.app hc hs hown hgrow hat
  have ha : Away (fun b => b = w.heap.size ∨ b = w.heap.size + 1) g' (n + 1) (putLoc L n loc00) := by
    refine ⟨by rcases hat with rfl | hat <;> omega, fun j hj => ?_⟩
    by_cases e : j = n
    · subst e
      simp only [putLoc, if_true]
      exact ⟨fun b o x e => by simp [loc00] at e, fun b o x e => by simp [loc00] at e⟩
    · simp only [putLoc, if_neg e]
      exact h.away.lists j (by omega)
  have hx' : Away X g' (n + 1) (putLoc L n loc00) := by
    refine ⟨fun hx => by rcases hat with rfl | hat; (exact h.awX.row hx); (have := h.hX _ hx; omega), fun j hj => ?_⟩
    by_cases e : j = n
    · subst e
      simp only [putLoc, if_true]
      exact ⟨fun b o x e => by simp [loc00] at e, fun b o x e => by simp [loc00] at e⟩
    · simp only [putLoc, if_neg e]
      exact h.awX.lists j (by omega)
  have hblk : ∀ b, b < W.heap.size → b ≠ g → W'.heap[b]? = W.heap[b]? := fun b h1 h2 => hgrow.block b h1 (by simpa using h2)
  refine ⟨h.rd.kept (fun j hj => (blk_setCell_other _ _ _ _ (by show j ≠ w.heap.size; omega)).trans (hblk j (by omega) (by omega))), (h.t.of_block (hblk _ (by omega) (by omega))).set 0 _, (h.res.of_block (hblk _ (by omega) (by omega))).off _ (by omega), ho.setOther ha (Or.inl rfl) _ _, ha, bel_put (h.bel.grown hgrow (by omega) (fun b e => by simp at e; omega)) _ (by omega), h.rlt, hx', fun b hx => (blk_setCell_other _ _ _ _ (by show b ≠ w.heap.size; have := h.hX b hx; omega)).trans ((hblk b (by have := h.hX b hx; omega) (fun e => by subst e; exact h.awX.row hx)).trans (h.kept b hx)), h.hX, (h.kids.of_blocks (fun i hi b o x e => by have h1 := (h.own.lists i hi).2.2 b o x e; have h2 := (h.away.lists i hi).2 b o x e; exact (blk_setCell_other _ _ _ _ (by show b ≠ w.heap.size; omega)).trans (hblk b (by omega) (by omega)))).app _ _ rfl rfl rfl rfl⟩

theorem putNd_kn {n : Nat} (D : Nat → Nd) (i0 : Nat) {d : Nd} (h : d.kn = (D i0).kn) : ∀ i, i < n → (putNd D i0 d i).kn = (D i).kn := fun i _ => by
  by_cases e : i = i0
  · subst e; rw [putNd_same, h]
  · rw [putNd_ne D _ e]

/-- New lists are other than those that were there. -/
theorem far_new {w w' : World} {l : Loc} {B g cap n : Nat} {D : Nat → Nd} {L : Nat → Loc} (hk : New w w' l.kA) (hn : New w w' l.nA) (h : OwnT w B g cap n D L) (i : Nat) : ∀ j, j < n → j ≠ i → Apart l.kA (L j).kA ∧ Apart l.kA (L j).nA ∧ Apart (L j).kA l.nA := fun j hj _ =>
  ⟨fun b o x b' o' x' e e' => by have h1 := hk b o x e; have h2 := (h.lists j hj).2.2 b' o' x' e'; omega,
   fun b o x b' o' x' e e' => by have h1 := hk b o x e; have h2 := (h.lists j hj).2.1 b' o' x' e'; omega,
   fun b o x b' o' x' e e' => by have h1 := hn b' o' x' e'; have h2 := (h.lists j hj).2.2 b o x e; omega⟩

theorem Nice.app {n m : Nat} {D : Nat → Nd} (h : Nice n m D) (hn : n < 10) {k : Int} (hk : 1 ≤ k ∧ k ≤ 2) : Nice (n + 1) m (putNd D n (kindNd k)) := by
  have h1 := h.some
  refine ⟨by omega, by omega, by rw [putNd_ne D _ (by omega)]; exact h.root, fun j hj => ?_⟩
  by_cases e : j = n
  · subst e
    rw [putNd_same]
    exact ⟨rfl, Nat.zero_le _, fun i hi => absurd hi (Nat.not_lt_zero _), fun i hi => absurd hi (Nat.not_lt_zero _), by simp [kindNd], hk, by simp [kindNd]⟩
  · rw [putNd_ne D _ e]
    exact (h.each j (by omega)).more (Nat.le_succ _) (Nat.le_refl _)

def new4 : List ByteArray := [⟨#[120]⟩, ⟨#[121, 121]⟩, ⟨#[]⟩, ⟨#[110, 101, 119]⟩]

set_option maxRecDepth 100000 in
set_option maxHeartbeats 8000000 in
theorem l2Grow_any (w : World) (X : Nat → Prop) (r : Nat) (a : Option Addr) (len cp : Nat) (zs : Nat → Int) (p g cap n m : Nat) (D : Nat → Nd) (L : Nat → Loc) (now : Int) (hR : IsRd w r a len cp zs p) (hp : p ≤ 1000) (hO : OwnT w (r + 1) g cap n D L) (hXA : Away X g n L) (hX : ∀ b, X b → b < w.heap.size ∧ b ≠ r) (hKO : KidsOwn w n D L) (hN : Nice n m D) (hm : m ≤ 100) (h0 : 0 ≤ now) (h1 : now ≤ 100) :
    Calls Try.prog 62 #[.pointer (some ⟨r, 0, none⟩), trV (some ⟨g, 0, none⟩) n cap now] w fun e w' => ∃ g' cap' n' D' L', e = .returned (trV (some ⟨g', 0, none⟩) n' cap' (now + 1)) ∧ Grew w X r a len cp zs p m now g' cap' n' D' L' w' := by
  obtain ⟨j0, hj, hy0, hy1, hy2⟩ := info_parts infoInt
  have hn1 := hN.some
  have hn10 := hN.few
  have hlt0 := hO.lt
  unfold trV
  go_enter Try.func62, Try.ntmps62
  go_wp2
  go_loopw [5, 6] (fun v i wr => ∃ (k : Nat) (DL : List Int), k ≤ n ∧ i = .int .i64 k ∧ DI w g n cap now v DL wr ∧ DirL n D k DL) (fun _ i _ => n - (intOf i).toNat)
  case atStart =>
    have h3 := new3 w #[.slice (some ⟨g, 0, none⟩) n cap, .int .i64 now] 25 #[.slice none 0 0, .int .i64 0] 25 #[] 3
    refine ⟨0, [], Nat.zero_le _, rfl, ⟨h3.b0, h3.b1, ⟨rfl, Or.inr ⟨w.heap.size + 1 + 1, 0, #[], rfl, by omega, h3.b2, Nat.le_refl _, by unfold maxLen; omega, rfl, rfl⟩⟩, by simp, h3.bel, by have := h3.size; omega⟩, ⟨fun z hz => by simp at hz, fun h => by omega, Nat.le_refl _⟩⟩
  case round =>
    obtain ⟨k, DL, hk, rfl, hin, hdl⟩ := hrel
    have t0 : wr.cell? ⟨w.heap.size, 0, none⟩ = some (.slice (some ⟨g, 0, none⟩) n cap) := hin.t.cell 0
    have hfew := hdl.few
    have hsz := hin.size
    by_cases hlt : k < n
    · have hOr := hO.below hin.bel
      have c0 := (hOr.cells k hlt).1
      have hki : (k : Int) < (n : Int) := by omega
      have HIN : Hid (DI w g n cap now u5 DL wr ∧ DirL n D k DL) := ⟨hin, hdl⟩
      clear hin hdl hOr
      cases hd2 : ((D k).kind == 2) with
      | true =>
        have H2 : Hid ((D k).kind = 2) := show (D k).kind = 2 by simpa using hd2
        go_wp2_with (at_builtin; refine wpList_append_own _ rfl _ _ 36 rfl (w.heap.size + 2) 3 j0 (.int .i64 0) 1 8 Try.underlying36 hj hy0 hy1 hy2 rfl (by decide) u5 DL.length (intv DL) rfl (HIN.out.1.alloc _).own ⟨wr.heap.size, 0, none⟩ 1 1 (intv [(k : Int)]) rfl rfl (intv_at wr _) (intv_one _) (by unfold maxLen; omega) (by omega) (by simp; omega) ?_)
        intro v' w1 hown hgrow hnil
        have HD : Hid (DI w g n cap now v' (DL ++ [(k : Int)]) w1) := (HIN.out.1.alloc _).app hown hgrow hnil
        clear hown hgrow hnil c0 t0
        go_wp2
        go_roundw
        case rel => exact ⟨k + 1, _, by omega, by go_num, HD.out, HIN.out.2.more hlt H2.out⟩
        case measure => simp [intOf]; omega
      | false =>
        have H2 : Hid (¬ (D k).kind = 2) := show ¬ (D k).kind = 2 by simpa using hd2
        go_wp2
        go_roundw
        case rel => exact ⟨k + 1, _, by omega, by go_num, HIN.out.1, HIN.out.2.skip hN.root H2.out⟩
        case measure => simp [intOf]; omega
    · have hke : k = n := by omega
      have hdl' : DirL n D n DL := hke ▸ hdl
      obtain ⟨gd, cd, hv, hbd, hltd⟩ : ∃ gd cd, u5 = .slice (some ⟨gd, 0, none⟩) DL.length cd ∧ w.heap.size + 2 ≤ gd ∧ gd < wr.heap.size := hin.own.form (by have := hdl'.some hn1; omega)
      subst hv
      have HDI : Hid (DI w g n cap now (.slice (some ⟨gd, 0, none⟩) DL.length cd) DL wr ∧ DirL n D n DL) := ⟨hin, hdl'⟩
      have hR1 := hR.kept (W' := wr) (fun k hk => hin.bel.block k (by have := hR.lt; omega))
      have hlen1 : 1 ≤ DL.length := hdl'.some hn1
      have hlen2 : DL.length ≤ 10 := by have := hdl'.few; omega
      have hdcell : ∀ i, i < DL.length → wr.cell? ⟨gd, i, none⟩ = some (.int .i64 (DL.getD i 0)) := by
        obtain ⟨a1, c1, e1, h1, _⟩ := owns_ints hin.own
        cases e1
        rcases h1 with h1 | ⟨b', o', e', _, hc'⟩
        · intro i hi; omega
        · cases e'
          intro i hi
          have := hc' i hi
          rwa [Nat.zero_add] at this
      clear hin hdl hdl' hke
      go_wp2_with fail
      have hG1 : GI w X r a len cp zs p g cap n D L now wr := ⟨hR1, HDI.out.1.t, HDI.out.1.res, hO.below HDI.out.1.bel, away_low hO (Nat.le_refl _), HDI.out.1.bel.mono (by have := hR.lt; omega), hR.lt, hXA, fun b hx => HDI.out.1.bel.block b (hX b hx).1, hX, hKO.of_blocks (fun i hi b o x e => HDI.out.1.bel.block b (by have := (hO.lists i hi).2.2 b o x e; omega))⟩
      refine (pick_any wr r a len cp zs p DL.length hR1 (by omega) (by omega) (by omega)).mono ?_
      rintro e w2 ⟨x, rfl, hx0, hx1, hg2, hR2⟩
      obtain ⟨x, rfl⟩ := Int.eq_ofNat_of_zero_le hx0
      have hxl : x < DL.length := by omega
      obtain ⟨xd, hxd, hxn, hxk⟩ := HDI.out.2.dir (DL.getD x 0) (by simp [hxl])
      have dcell : w2.cell? ⟨gd, x, none⟩ = some (.int .i64 (xd : Nat)) := by
        have := hg2.cell (hdcell x hxl) (by simp; have := hR.lt; omega)
        rwa [hxd] at this
      have HG2 : Hid (GI w X r a len cp zs (p + 1) g cap n D L now w2) := hG1.read hg2 hR2
      have HXK : Hid ((D xd).kind = 2) := hxk
      have hrl := hR.lt
      clear hg2 hR2 hG1 hR1 HDI hdcell hxd hxk t0 hsz hfew hx0
      go_wp2_with fail
      refine (l1Name_nm w2 r a len cp zs (p + 1) HG2.out.rd (by omega)).mono ?_
      rintro e w3 ⟨name, rfl, hname, hg3, hR3⟩
      have HG3 : Hid (GI w X r a len cp zs (p + 1 + 1) g cap n D L now w3) := HG2.out.read hg3 hR3
      clear hg3 hR3 HG2 dcell
      have t0 : w3.cell? ⟨w.heap.size, 0, none⟩ = some (.slice (some ⟨g, 0, none⟩) n cap) := HG3.out.t.cell 0
      have t1 : w3.cell? ⟨w.heap.size, 1, none⟩ = some (.int .i64 now) := HG3.out.t.cell 1
      obtain ⟨c0, c1, c2, c3, c4⟩ := HG3.out.own.cells xd hxn
      have hxi : (xd : Int) < (n : Int) := by omega
      go_wp2_with fail
      have hnd := hN.each xd hxn
      refine (l2Name_any (D xd) (L xd) name w3 (HG3.out.own.lists xd hxn).1 (by have := hnd.few; unfold maxLen; omega)).mono ?_
      rintro e w4 ⟨hb4, rfl⟩
      have HG4 : Hid (GI w X r a len cp zs (p + 1 + 1) g cap n D L now w4) := HG3.out.below hb4
      clear hb4 HG3 t0 t1 c0 c1 c2 c3 c4
      have t0 : w4.cell? ⟨w.heap.size, 0, none⟩ = some (.slice (some ⟨g, 0, none⟩) n cap) := HG4.out.t.cell 0
      have t1 : w4.cell? ⟨w.heap.size, 1, none⟩ = some (.int .i64 now) := HG4.out.t.cell 1
      have tf1 := HG4.out.t.frozen 1
      obtain ⟨c0, c1, c2, c3, c4⟩ := HG4.out.own.cells xd hxn
      have hgb := HG4.out.away.row
      have hgb0 : g ≠ w.heap.size := fun e => hgb (Or.inl e)
      have hgb1 : w.heap.size ≠ g := fun e => hgb (Or.inl e.symm)
      have hgb2 : g ≠ w.heap.size + 1 := fun e => hgb (Or.inr e)
      have hgb3 : w.heap.size + 1 ≠ g := fun e => hgb (Or.inr e.symm)
      have rs0 : w4.cell? ⟨w.heap.size + 1, 0, none⟩ = some (.slice none 0 0) := HG4.out.res.cell 0
      have rs1 : w4.cell? ⟨w.heap.size + 1, 1, none⟩ = some (.int .i64 0) := HG4.out.res.cell 1
      have rf0 := HG4.out.res.frozen 0
      have rf1 := HG4.out.res.frozen 1
      rcases nameIx_spec (D xd) name with ⟨hix, hno⟩ | ⟨ix, hix, hixn, hixe⟩
      · rw [hix]
        clear hix hno
        go_wp2_with fail
        refine wp_world (F := GI w X r a len cp zs (p + 1 + 1) g cap n D L (now + 1)) (HG4.out.setNow (now + 1)) ?_
        clear HG4 t0 t1 tf1 c0 c1 c2 c3 c4 rs0 rs1 rf0 rf1
        intro W5 hW5
        go_loopw [11, 12] (fun kd i wr => ∃ (kd' k q : Nat), 1 ≤ k ∧ k ≤ n ∧ i = .int .i64 k ∧ kd = .int .i64 kd' ∧ (kd' = n ∨ (1 ≤ kd' ∧ kd' < n)) ∧ GI w X r a len cp zs q g cap n D L (now + 1) wr ∧ q ≤ p + 2 + k) (fun _ i _ => n - (intOf i).toNat)
        case atStart => exact ⟨n, 1, p + 1 + 1, Nat.le_refl _, hn1, rfl, rfl, Or.inl rfl, hW5, by omega⟩
        case round =>
          obtain ⟨kd, k', q, hk1, hkn', rfl, rfl, hkd, hin, hq⟩ := hrel
          clear hW5
          have t0 : wr.cell? ⟨w.heap.size, 0, none⟩ = some (.slice (some ⟨g, 0, none⟩) n cap) := hin.t.cell 0
          by_cases hltk : k' < n
          · have HIN : Hid _ := hin
            have hki : (k' : Int) < (n : Int) := by omega
            clear hin
            go_wp2_with fail
            refine (pick_any wr r a len cp zs q 4 HIN.out.rd (by omega) (by omega) (by omega)).mono ?_
            rintro e w6 ⟨x4, rfl, hx40, hx41, hg6, hR6⟩
            have HG6 : Hid (GI w X r a len cp zs (q + 1) g cap n D L (now + 1) w6) := HIN.out.read hg6 hR6
            clear hg6 hR6 HIN t0
            have t0 : w6.cell? ⟨w.heap.size, 0, none⟩ = some (.slice (some ⟨g, 0, none⟩) n cap) := HG6.out.t.cell 0
            have e0 := (HG6.out.own.cells k' hltk).1
            cases hx4 : (x4 == 0) with
            | false =>
              go_wp2
              go_roundw
              case rel => exact ⟨kd, k' + 1, q + 1, by omega, by omega, by go_num, rfl, hkd, HG6.out, by omega⟩
              case measure => simp [intOf]; omega
            | true =>
              cases hkf : ((D k').kind == 1) with
              | false =>
                go_wp2
                go_roundw
                case rel => exact ⟨kd, k' + 1, q + 1, by omega, by omega, by go_num, rfl, hkd, HG6.out, by omega⟩
                case measure => simp [intOf]; omega
              | true =>
                go_wp2
                go_roundw
                case rel => exact ⟨k', k' + 1, q + 1, by omega, by omega, by go_num, rfl, Or.inr ⟨hk1, hltk⟩, HG6.out, by omega⟩
                case measure => simp [intOf]; omega
          · have hqq : q ≤ p + 12 := by omega
            by_cases hk10 : 10 ≤ kd
            · have hdk : decide ((10 : Int) ≤ kd) = true := by simp; omega
              have HE : Hid _ := hin.fin (p := p) (m := m) (by omega) (hN.more (Nat.le_succ _))
              have t1 : wr.cell? ⟨w.heap.size, 1, none⟩ = some (.int .i64 (now + 1)) := hin.t.cell 1
              have rs0 : wr.cell? ⟨w.heap.size + 1, 0, none⟩ = some (.slice none 0 0) := hin.res.cell 0
              have rs1 : wr.cell? ⟨w.heap.size + 1, 1, none⟩ = some (.int .i64 0) := hin.res.cell 1
              have rf0 := hin.res.frozen 0
              have rf1 := hin.res.frozen 1
              clear hin
              go_wp2
              refine end_world (F := GEnd w X r a len cp zs p m now g cap n D L) HE.out ?_
              clear HE t0 t1 rs0 rs1 rf0 rf1
              rintro WF ⟨hr, hgr⟩
              have r0 := hr.cell 0
              have r1 := hr.cell 1
              simp at r0 r1
              exact bodyPost_ret (v := .agg #[.slice (some ⟨g, 0, none⟩) n cap, .int .i64 (now + 1)]) (by simp [results, Try.results62, go_sem, r0, r1]) rfl (by first | exact ⟨g, cap, n, _, L, rfl, hgr⟩ | exact ⟨g, cap, n, rfl, _, L, hgr⟩)
            · have hdk : decide ((10 : Int) ≤ kd) = false := by simp; omega
              by_cases hkn2 : kd = n
              · have hkb : ((kd : Int) == (n : Int)) = true := by simp [hkn2]
                subst hkn2
                have HIN : Hid _ := hin
                have hwl := hin.t.lt
                have hgl := hin.own.lt
                have hgbX := hin.away.row
                have hgx0 : g ≠ w.heap.size := fun e => hgbX (Or.inl e)
                have hgx1 : w.heap.size ≠ g := fun e => hgbX (Or.inl e.symm)
                obtain ⟨i0, hi0, hz0, hz1, hz2⟩ := info_parts infoNode
                clear hin hgbX
                go_wp2_with fail
                apply wp_cut4 (X := Nat) (Y := Nat) (Z := Int) (U := Nat) (fun g' c' z b W => GI w X r a len cp zs (q + 1) g' c' (kd + 1) (putNd D kd (kindNd (1 + z))) (putLoc L kd loc00) (now + 1) W ∧ 0 ≤ z ∧ z < 2)
                · intro key
                  have KEY : Hid _ := key
                  clear key
                  go_region_law (first
                    | (obtain ⟨cur6, hc6, hs6⟩ := (hG6.alloc (.cells #[.int .i64 (1 + x2), .string ⟨#[]⟩, .slice none 0 0, .slice none 0 0, .int .i64 0] 38)).own.blk
                       refine step_append_lies _ (by rfl) _ _ _ (by rfl) (r + 1) 38 i0 _ 5 80 Try.underlying23 hi0 hz0 hz1 hz2 rfl (by decide) (.slice (some ⟨g, 0, none⟩) kd cap) kd (cur6.toList.take (kd * 5)) (by rfl) ((hG6.alloc _).own.owns hc6 hs6) ⟨w6.heap.size, 0, none⟩ 1 1 (kindCells (1 + x2)) (by rfl) (by rfl) (World.news_of_block (cs := #[.int .i64 (1 + x2), .string ⟨#[]⟩, .slice none 0 0, .slice none 0 0, .int .i64 0]) (t := 38) (fr := (0, 0)) (heap_alloc_new w6 _)) (by simp [kindCells, Value.oneCell']) (by decide) (by unfold maxLen; omega) (by omega) (by have := hG6.rlt; have := hG6.size; simp; omega) (w6.heap.size + 1) (by simp) ?_
                       intro g' c' w7 hown hgrow hat hlt7
                       have q0 : w7.cell? ⟨w.heap.size, 0, none⟩ = some (.slice (some ⟨g, 0, none⟩) kd cap) := (hgrow.cell_far _ (by simp; omega) (by simp [Value.ownBlock]; omega)).trans ((hG6.alloc _).t.cell 0)
                       have q0f : w7.frozen? ⟨w.heap.size, 0, none⟩ = false := (hgrow.frozen_far _ (by simp; omega) (by simp [Value.ownBlock]; omega)).trans ((hG6.alloc _).t.frozen 0))
                    | (go_simp
                       go_at_call 21
                       refine (pick_any (wr.drewN 1) r a len cp zs q 2 (HIN.out.drew 1).rd (by omega) (by omega) (by omega)).mono ?_
                       rintro e w6 ⟨x2, rfl, hx20, hx21, hg6, hR6⟩
                       have hG6 := (HIN.out.drew 1).read hg6 hR6
                       have T0 : w6.cell? ⟨w.heap.size, 0, none⟩ = some (.slice (some ⟨g, 0, none⟩) kd cap) := hG6.t.cell 0
                       have hwr : IntKind.i64.wrap (1 + x2) = 1 + x2 := wrap_i64 (1 + x2) (by omega) (by omega)
                       have hl6 := hG6.t.lt))
                  all_goals (generalize w6.heap.size = b6; exact KEY.out g' c' x2 b6 _ ⟨(hG6.alloc _).append hc6 hs6 hown (by simpa [Value.ownBlock] using hgrow) (hat.elim (fun e => Or.inl (by simpa [Value.ownBlock] using e)) (fun e => Or.inr (by rw [e]; simp))), hx20, hx21⟩)
                · intro g' c' z b6 W7 hF7
                  have hN7a : Nice (kd + 1) m (putNd D kd (kindNd (1 + z))) := hN.app (by omega) ⟨by omega, by omega⟩
                  obtain ⟨D6, hD6⟩ : ∃ X', X' = putNd D kd (kindNd (1 + z)) := ⟨_, rfl⟩
                  obtain ⟨L6, hL6⟩ : ∃ X', X' = putLoc L kd loc00 := ⟨_, rfl⟩
                  have hG7a := hF7.1
                  rw [← hD6, ← hL6] at hG7a
                  rw [← hD6] at hN7a
                  have HIN7 : Hid _ := hG7a
                  have HNN : Hid (Nice (kd + 1) m D6) := hN7a
                  clear hD6 hL6 hF7 hG7a hN7a hi0 hz0 hz1 hz2 t0 HIN hgx0 hgx1
                  have HIN : Hid _ := HIN7.out
                  clear HIN7
                  have hkdn : kd < kd + 1 := Nat.lt_succ_self _
                  have hxN : xd < kd + 1 := by omega
                  have t0 : W7.cell? ⟨w.heap.size, 0, none⟩ = some (.slice (some ⟨g', 0, none⟩) (kd + 1) c') := HIN.out.t.cell 0
                  have t1 : W7.cell? ⟨w.heap.size, 1, none⟩ = some (.int .i64 (now + 1)) := HIN.out.t.cell 1
                  obtain ⟨e0, e1, e2, e3, e4⟩ := HIN.out.own.cells kd hkdn
                  have ef4 := HIN.out.own.frozen (kd * 5 + 4)
                  have hgbX := HIN.out.away.row
                  have hgx0 : g' ≠ w.heap.size := fun e => hgbX (Or.inl e)
                  have hgx1 : w.heap.size ≠ g' := fun e => hgbX (Or.inl e.symm)
                  have hgx2 : g' ≠ w.heap.size + 1 := fun e => hgbX (Or.inr e)
                  have hgx3 : w.heap.size + 1 ≠ g' := fun e => hgbX (Or.inr e.symm)
                  have hkdi : (kd : Int) < (((kd + 1) : Nat) : Int) := by omega
                  have hxdi : (xd : Int) < (((kd + 1) : Nat) : Int) := by omega
                  have hG7 := HIN.out.put (by exact putNd_kn _ _ rfl) (HIN.out.own.setTurn hkdn (now + 1))
                  have hN7 := HNN.out.put hkdn ((HNN.out.each kd hkdn).setTurn (z := now + 1) (by omega) (by omega)) rfl
                  have HG7 : Hid _ := hG7
                  have HN7 : Hid _ := hN7
                  clear hG7 hN7 hgbX
                  go_wp2_with fail
                  obtain ⟨D7, hD7⟩ : ∃ X', X' = putNd D6 kd { D6 kd with turn := now + 1 } := ⟨_, rfl⟩
                  rw [← hD7] at HG7 HN7
                  clear hD7
                  refine wp_world (F := GI w X r a len cp zs (q + 1) g' c' (kd + 1) D7 L6 (now + 1)) HG7.out ?_
                  clear HG7 HIN HNN t0 t1 e0 e1 e2 e3 e4 ef4
                  intro W8 hW8
                  have t0 : W8.cell? ⟨w.heap.size, 0, none⟩ = some (.slice (some ⟨g', 0, none⟩) (kd + 1) c') := hW8.t.cell 0
                  obtain ⟨e0, e1, e2, e3, e4⟩ := hW8.own.cells xd hxN
                  have hn8 := HN7.out.each xd hxN
                  have HW8 : Hid _ := hW8
                  have hsz8 := hW8.size
                  have hlt8 := hW8.own.lt
                  clear hW8
                  apply wp_cut3 (X := List ByteArray) (Y := List Int) (Z := Loc) (fun NL KL l' W => GI w X r a len cp zs (q + 1) g' c' (kd + 1) (putNd D7 xd (withNd (D7 xd) NL KL)) (putLoc L6 xd l') (now + 1) W ∧ WL (fun z => 0 ≤ z ∧ z < (((kd + 1) : Nat) : Int)) (D7 xd).nn true NL KL)
                  · intro key
                    have KEY : Hid _ := key
                    clear key
                    go_region_with (
                      go_at_call 46
                      refine (l2With_any (fun z => 0 ≤ z ∧ z < (((kd + 1) : Nat) : Int)) (D7 xd) (L6 xd) name kd (W8.drewN 1) ((HW8.out.drew 1).own.lists xd hxN).1 hn8.same (by have := hn8.few; omega) hn8.short hname hn8.kids ⟨by omega, by omega⟩).mono ?_
                      rintro e w9 ⟨NL, KL, l', rfl, hmade, hwl⟩
                      unfold ndV
                      have hG9 := (HW8.out.drew 1).below hmade.bel
                      have T0 : w9.cell? ⟨w.heap.size, 0, none⟩ = some (.slice (some ⟨g', 0, none⟩) (kd + 1) c') := hG9.t.cell 0
                      obtain ⟨E0, E1, E2, E3, E4⟩ := hG9.own.cells xd hxN
                      have F0 := hG9.own.frozen (xd * 5)
                      have F1 := hG9.own.frozen (xd * 5 + 1)
                      have F2 := hG9.own.frozen (xd * 5 + 2)
                      have F3 := hG9.own.frozen (xd * 5 + 3)
                      have F4 := hG9.own.frozen (xd * 5 + 4))
                    all_goals exact KEY.out NL KL l' _ ⟨hG9.putNode hxN (withNd (D7 xd) NL KL) l' hmade.lies hmade.room hmade.apart (far_new hmade.kA hmade.nA (HW8.out.drew 1).own xd) (fun b o x e => by have := hmade.nA b o x e; have h2 : (W8.drewN 1).heap.size = W8.heap.size := rfl; omega) (fun b o x e => by have := hmade.kA b o x e; have h2 : (W8.drewN 1).heap.size = W8.heap.size := rfl; omega), hwl⟩
                  · intro NL KL l' W9 hF9
                    have hN9 := (HN7.out.more (Nat.le_succ _)).put hxN (nice_with hn8 hF9.2) rfl
                    obtain ⟨D9, hD9⟩ : ∃ X', X' = putNd D7 xd (withNd (D7 xd) NL KL) := ⟨_, rfl⟩
                    obtain ⟨L9, hL9⟩ : ∃ X', X' = putLoc L6 xd l' := ⟨_, rfl⟩
                    have hG9 := hF9.1
                    rw [← hD9] at hN9
                    rw [← hD9, ← hL9] at hG9
                    clear hD9 hL9 hF9
                    have hN10 := hN9.put hxN ((hN9.each xd hxN).setTurn (z := now + 1) (by omega) (by omega)) rfl
                    have HE : Hid _ := (hG9.put (by exact putNd_kn _ _ rfl) (hG9.own.setTurn hxN (now + 1))).fin (p := p) (by omega) hN10
                    have t0 : W9.cell? ⟨w.heap.size, 0, none⟩ = some (.slice (some ⟨g', 0, none⟩) (kd + 1) c') := hG9.t.cell 0
                    have t1 : W9.cell? ⟨w.heap.size, 1, none⟩ = some (.int .i64 (now + 1)) := hG9.t.cell 1
                    obtain ⟨e0, e1, e2, e3, e4⟩ := hG9.own.cells xd hxN
                    have ef4 := hG9.own.frozen (xd * 5 + 4)
                    have rs0 : W9.cell? ⟨w.heap.size + 1, 0, none⟩ = some (.slice none 0 0) := hG9.res.cell 0
                    have rs1 : W9.cell? ⟨w.heap.size + 1, 1, none⟩ = some (.int .i64 0) := hG9.res.cell 1
                    have rf0 := hG9.res.frozen 0
                    have rf1 := hG9.res.frozen 1
                    clear hN9 hN10 hG9 HN7 HW8 hn8
                    go_wp2
                    refine end_world (F := GEnd w X r a len cp zs p m now g' c' (kd + 1) (putNd D9 xd { D9 xd with turn := now + 1 }) L9) HE.out ?_
                    clear HE t0 t1 rs0 rs1 rf0 rf1 e0 e1 e2 e3 e4 ef4
                    rintro WF ⟨hr, hgr⟩
                    have r0 := hr.cell 0
                    have r1 := hr.cell 1
                    simp at r0 r1
                    exact bodyPost_ret (v := .agg #[.slice (some ⟨g', 0, none⟩) (kd + 1) c', .int .i64 (now + 1)]) (by simp [results, Try.results62, go_sem, r0, r1]) rfl (by first | exact ⟨g', c', (kd + 1), _, L9, rfl, hgr⟩ | exact ⟨g', c', (kd + 1), rfl, _, L9, hgr⟩)
              · have hkdn : kd < n := by omega
                have hkb : ((kd : Int) == (n : Int)) = false := by simp; omega
                have HIN : Hid _ := hin
                have HNN : Hid (Nice n m D) := hN
                have hxN : xd < n := hxn
                clear hin t0
                have t0 : wr.cell? ⟨w.heap.size, 0, none⟩ = some (.slice (some ⟨g, 0, none⟩) n cap) := HIN.out.t.cell 0
                have t1 : wr.cell? ⟨w.heap.size, 1, none⟩ = some (.int .i64 (now + 1)) := HIN.out.t.cell 1
                obtain ⟨e0, e1, e2, e3, e4⟩ := HIN.out.own.cells kd hkdn
                have ef4 := HIN.out.own.frozen (kd * 5 + 4)
                have hgbX := HIN.out.away.row
                have hgx0 : g ≠ w.heap.size := fun e => hgbX (Or.inl e)
                have hgx1 : w.heap.size ≠ g := fun e => hgbX (Or.inl e.symm)
                have hgx2 : g ≠ w.heap.size + 1 := fun e => hgbX (Or.inr e)
                have hgx3 : w.heap.size + 1 ≠ g := fun e => hgbX (Or.inr e.symm)
                have hkdi : (kd : Int) < ((n : Nat) : Int) := by omega
                have hxdi : (xd : Int) < ((n : Nat) : Int) := by omega
                have hG7 := HIN.out.put (by exact putNd_kn _ _ rfl) (HIN.out.own.setTurn hkdn (now + 1))
                have hN7 := HNN.out.put hkdn ((HNN.out.each kd hkdn).setTurn (z := now + 1) (by omega) (by omega)) rfl
                have HG7 : Hid _ := hG7
                have HN7 : Hid _ := hN7
                clear hG7 hN7 hgbX
                go_wp2_with fail
                obtain ⟨D7, hD7⟩ : ∃ X', X' = putNd D kd { D kd with turn := now + 1 } := ⟨_, rfl⟩
                rw [← hD7] at HG7 HN7
                clear hD7
                refine wp_world (F := GI w X r a len cp zs q g cap n D7 L (now + 1)) HG7.out ?_
                clear HG7 HIN HNN t0 t1 e0 e1 e2 e3 e4 ef4
                intro W8 hW8
                have t0 : W8.cell? ⟨w.heap.size, 0, none⟩ = some (.slice (some ⟨g, 0, none⟩) n cap) := hW8.t.cell 0
                obtain ⟨e0, e1, e2, e3, e4⟩ := hW8.own.cells xd hxN
                have hn8 := HN7.out.each xd hxN
                have HW8 : Hid _ := hW8
                have hsz8 := hW8.size
                have hlt8 := hW8.own.lt
                clear hW8
                apply wp_cut3 (X := List ByteArray) (Y := List Int) (Z := Loc) (fun NL KL l' W => GI w X r a len cp zs q g cap n (putNd D7 xd (withNd (D7 xd) NL KL)) (putLoc L xd l') (now + 1) W ∧ WL (fun z => 0 ≤ z ∧ z < ((n : Nat) : Int)) (D7 xd).nn true NL KL)
                · intro key
                  have KEY : Hid _ := key
                  clear key
                  go_region_with (
                    go_at_call 46
                    refine (l2With_any (fun z => 0 ≤ z ∧ z < ((n : Nat) : Int)) (D7 xd) (L xd) name kd (W8.drewN 1) ((HW8.out.drew 1).own.lists xd hxN).1 hn8.same (by have := hn8.few; omega) hn8.short hname hn8.kids ⟨by omega, by omega⟩).mono ?_
                    rintro e w9 ⟨NL, KL, l', rfl, hmade, hwl⟩
                    unfold ndV
                    have hG9 := (HW8.out.drew 1).below hmade.bel
                    have T0 : w9.cell? ⟨w.heap.size, 0, none⟩ = some (.slice (some ⟨g, 0, none⟩) n cap) := hG9.t.cell 0
                    obtain ⟨E0, E1, E2, E3, E4⟩ := hG9.own.cells xd hxN
                    have F0 := hG9.own.frozen (xd * 5)
                    have F1 := hG9.own.frozen (xd * 5 + 1)
                    have F2 := hG9.own.frozen (xd * 5 + 2)
                    have F3 := hG9.own.frozen (xd * 5 + 3)
                    have F4 := hG9.own.frozen (xd * 5 + 4))
                  all_goals exact KEY.out NL KL l' _ ⟨hG9.putNode hxN (withNd (D7 xd) NL KL) l' hmade.lies hmade.room hmade.apart (far_new hmade.kA hmade.nA (HW8.out.drew 1).own xd) (fun b o x e => by have := hmade.nA b o x e; have h2 : (W8.drewN 1).heap.size = W8.heap.size := rfl; omega) (fun b o x e => by have := hmade.kA b o x e; have h2 : (W8.drewN 1).heap.size = W8.heap.size := rfl; omega), hwl⟩
                · intro NL KL l' W9 hF9
                  have hN9 := (HN7.out.more (Nat.le_succ _)).put hxN (nice_with hn8 hF9.2) rfl
                  obtain ⟨D9, hD9⟩ : ∃ X', X' = putNd D7 xd (withNd (D7 xd) NL KL) := ⟨_, rfl⟩
                  obtain ⟨L9, hL9⟩ : ∃ X', X' = putLoc L xd l' := ⟨_, rfl⟩
                  have hG9 := hF9.1
                  rw [← hD9] at hN9
                  rw [← hD9, ← hL9] at hG9
                  clear hD9 hL9 hF9
                  have hN10 := hN9.put hxN ((hN9.each xd hxN).setTurn (z := now + 1) (by omega) (by omega)) rfl
                  have HE : Hid _ := (hG9.put (by exact putNd_kn _ _ rfl) (hG9.own.setTurn hxN (now + 1))).fin (p := p) (by omega) hN10
                  have t0 : W9.cell? ⟨w.heap.size, 0, none⟩ = some (.slice (some ⟨g, 0, none⟩) n cap) := hG9.t.cell 0
                  have t1 : W9.cell? ⟨w.heap.size, 1, none⟩ = some (.int .i64 (now + 1)) := hG9.t.cell 1
                  obtain ⟨e0, e1, e2, e3, e4⟩ := hG9.own.cells xd hxN
                  have ef4 := hG9.own.frozen (xd * 5 + 4)
                  have rs0 : W9.cell? ⟨w.heap.size + 1, 0, none⟩ = some (.slice none 0 0) := hG9.res.cell 0
                  have rs1 : W9.cell? ⟨w.heap.size + 1, 1, none⟩ = some (.int .i64 0) := hG9.res.cell 1
                  have rf0 := hG9.res.frozen 0
                  have rf1 := hG9.res.frozen 1
                  clear hN9 hN10 hG9 HN7 HW8 hn8
                  go_wp2
                  refine end_world (F := GEnd w X r a len cp zs p m now g cap n (putNd D9 xd { D9 xd with turn := now + 1 }) L9) HE.out ?_
                  clear HE t0 t1 rs0 rs1 rf0 rf1 e0 e1 e2 e3 e4 ef4
                  rintro WF ⟨hr, hgr⟩
                  have r0 := hr.cell 0
                  have r1 := hr.cell 1
                  simp at r0 r1
                  exact bodyPost_ret (v := .agg #[.slice (some ⟨g, 0, none⟩) n cap, .int .i64 (now + 1)]) (by simp [results, Try.results62, go_sem, r0, r1]) rfl (by first | exact ⟨g, cap, n, _, L9, rfl, hgr⟩ | exact ⟨g, cap, n, rfl, _, L9, hgr⟩)
      · rw [hix]
        clear hix hixe
        have hkx : ix < (D xd).kn := by rw [hnd.same]; exact hixn
        obtain ⟨b5, o5, ha5, hlt5, hc5⟩ := (HG4.out.own.lists xd hxn).1.2.at hkx
        obtain ⟨hf0, hf1⟩ := hnd.kids ix hixn
        obtain ⟨f, hf⟩ : ∃ f : Nat, (D xd).kids ix = f := ⟨((D xd).kids ix).toNat, by omega⟩
        have k5 := hc5 ix hkx
        rw [hf] at k5
        rw [ha5] at c3
        have hfn : f < n := by omega
        have hfi : (f : Int) < (n : Int) := by omega
        have hkxi : (ix : Int) < ((D xd).kn : Int) := by omega
        have hb5 : b5 ≠ w.heap.size := fun e => (HG4.out.away.lists xd hxn).2 b5 o5 none ha5 (Or.inl e)
        obtain ⟨e0, e1, e2, e3, e4⟩ := HG4.out.own.cells f hfn
        have ef4 := HG4.out.own.frozen (f * 5 + 4)
        have ef1 := HG4.out.own.frozen (f * 5 + 1)
        clear hc5 hf hf0 hf1
        have hnf := hN.each f hfn
        have hG5 := (HG4.out.setNow (now + 1)).put (by exact putNd_kn _ _ rfl) ((HG4.out.setNow (now + 1)).own.setTurn hfn (now + 1))
        have hN5 : Nice n (m + 1) (putNd D f { D f with turn := now + 1 }) := (hN.more (Nat.le_succ _)).put hfn ((hnf.more (Nat.le_refl _) (Nat.le_succ _)).setTurn (by omega) (by omega)) rfl
        cases hkf : ((D f).kind == 1) with
        | false =>
          have HE : Hid _ := hG5.fin (p := p) (by omega) hN5
          clear hG5 hN5
          go_wp2
          refine end_world (F := GEnd w X r a len cp zs p m now g cap n (putNd D f { D f with turn := now + 1 }) L) HE.out ?_
          clear HE HG4 t0 t1 tf1 c0 c1 c2 c3 c4 rs0 rs1 rf0 rf1 e0 e1 e2 e3 e4 ef4 ef1
          rintro WF ⟨hr, hgr⟩
          have r0 := hr.cell 0
          have r1 := hr.cell 1
          simp at r0 r1
          exact bodyPost_ret (v := .agg #[.slice (some ⟨g, 0, none⟩) n cap, .int .i64 (now + 1)]) (by simp [results, Try.results62, go_sem, r0, r1]) rfl (by first | exact ⟨g, cap, n, _, L, rfl, hgr⟩ | exact ⟨g, cap, n, rfl, _, L, hgr⟩)
        | true =>
          have HG5 : Hid _ := hG5
          have HN5 : Hid _ := hN5
          clear hG5 hN5
          go_wp2_with fail
          refine wp_world (F := GI w X r a len cp zs (p + 1 + 1) g cap n (putNd D f { D f with turn := now + 1 }) L (now + 1)) HG5.out ?_
          intro W5 hW5
          clear HG5 HG4 t0 t1 tf1 c0 c1 c2 c3 c4 rs0 rs1 rf0 rf1 e0 e1 e2 e3 e4 ef4 ef1 k5
          have t0 : W5.cell? ⟨w.heap.size, 0, none⟩ = some (.slice (some ⟨g, 0, none⟩) n cap) := hW5.t.cell 0
          have hwl := hW5.t.lt
          have hgl := hW5.own.lt
          have HW5 : Hid _ := hW5
          clear hW5
          apply wp_cut1 (X := ByteArray) (fun s W => GI w X r a len cp zs (p + 1 + 1 + 1) g cap n (putNd (putNd D f { D f with turn := now + 1 }) f { (putNd D f { D f with turn := now + 1 }) f with text := s }) L (now + 1) W ∧ s.size ≤ 10)
          · intro key
            have KEY : Hid _ := key
            clear key
            go_region_with (
              go_at_call 47
              refine (of_any ((W5.drewN 1).alloc _) r a len cp zs (p + 1 + 1) ((HW5.out.drew 1).alloc _).rd (by omega) W5.heap.size 0 4 4 (fun i => new4.getD i ByteArray.empty) (by have := HW5.out.rd.lt; omega) (by omega) (by omega) (new_strs (W5.drewN 1) new4)).mono ?_
              rintro e w6 ⟨i, hi4, rfl, hg6, hR6⟩
              have hs6 : (new4.getD i ByteArray.empty).size ≤ 10 := getD_size rfl i
              have hG6 := ((HW5.out.drew 1).alloc _).read hg6 hR6
              have T0 : w6.cell? ⟨w.heap.size, 0, none⟩ = some (.slice (some ⟨g, 0, none⟩) n cap) := hG6.t.cell 0
              have E1 := (hG6.own.cells f hfn).2.1
              have EF1 := hG6.own.frozen (f * 5 + 1)
              generalize hsd : new4.getD i ByteArray.empty = s at hs6)
            all_goals exact KEY.out s _ ⟨hG6.put (by exact putNd_kn _ _ rfl) (hG6.own.setText hfn s), hs6⟩
          · intro s W7 hF7
            have hN7 := HN5.out.put hfn ((HN5.out.each f hfn).setText hF7.2) rfl
            have HE : Hid _ := hF7.1.fin (p := p) (by omega) hN7
            have t0 : W7.cell? ⟨w.heap.size, 0, none⟩ = some (.slice (some ⟨g, 0, none⟩) n cap) := hF7.1.t.cell 0
            have t1 : W7.cell? ⟨w.heap.size, 1, none⟩ = some (.int .i64 (now + 1)) := hF7.1.t.cell 1
            have rs0 : W7.cell? ⟨w.heap.size + 1, 0, none⟩ = some (.slice none 0 0) := hF7.1.res.cell 0
            have rs1 : W7.cell? ⟨w.heap.size + 1, 1, none⟩ = some (.int .i64 0) := hF7.1.res.cell 1
            have rf0 := hF7.1.res.frozen 0
            have rf1 := hF7.1.res.frozen 1
            clear hF7 hN7 HN5 HW5
            go_wp2
            refine end_world (F := GEnd w X r a len cp zs p m now g cap n _ L) HE.out ?_
            clear HE t0 t1 rs0 rs1 rf0 rf1
            rintro WF ⟨hr, hgr⟩
            have r0 := hr.cell 0
            have r1 := hr.cell 1
            simp at r0 r1
            exact bodyPost_ret (v := .agg #[.slice (some ⟨g, 0, none⟩) n cap, .int .i64 (now + 1)]) (by simp [results, Try.results62, go_sem, r0, r1]) rfl (by first | exact ⟨g, cap, n, _, L, rfl, hgr⟩ | exact ⟨g, cap, n, rfl, _, L, hgr⟩)
end Go.Proofs.Ytoblndhmkehoaaa

/-
  What TreeNew of the specification and TreeNew of the program answer: a tree with a root alone; nothing, if that is no turn.
-/
namespace Go.Proofs.Ytoblndhmkehoaaa
open Go.RowKit
set_option linter.unusedVariables false

/-- The root of a new tree. -/
def rootNd (now : Int) : Nd := ⟨2, ByteArray.empty, 0, fun _ => ByteArray.empty, 0, fun _ => 0, now⟩
def noLoc : Loc := ⟨none, 0, none, 0⟩
/-- .. as it lies in memory. -/
def rootCells (now : Int) : Array Value := #[.int .i64 2, .string ByteArray.empty, .slice none 0 0, .slice none 0 0, .int .i64 now]

theorem root_nds {W : World} {b : Nat} {now : Int} (h : Blk W b (rootCells now) 38) : IsNds W (some ⟨b, 0, none⟩) 1 (fun _ => rootNd now) (fun _ => noLoc) := by
  refine Or.inr ⟨b, 0, rfl, h.lt, fun i hi => ?_⟩
  have : i = 0 := by omega
  subst this
  exact ⟨h.cell 0, h.cell 1, h.cell 2, h.cell 3, h.cell 4, Or.inl rfl, Or.inl rfl⟩

theorem root_fits {now : Int} (h : In64 now) : FitAll 1 (fun _ => rootNd now) := fun i _ =>
  ⟨⟨by show (-9223372036854775808 : Int) ≤ 2; omega, by show (2 : Int) ≤ 9223372036854775807; omega⟩, h, by unfold rootNd maxLen; simp, fun i hi => by unfold rootNd at hi; simp at hi, by unfold rootNd maxLen; simp, by unfold rootNd maxLen; simp, fun i hi => by unfold rootNd at hi; simp at hi⟩

set_option maxHeartbeats 400000 in
theorem specTreeNew_yes (now : Int) (w : World) (h1 : 1 ≤ now) (h2 : now ≤ 1000) :
    Calls Try.prog 61 #[.int .i64 now] w fun e w' => ∃ b, e = .returned (trV (some ⟨b, 0, none⟩) 1 1 now) ∧ w.heap.size ≤ b ∧ Below w.heap.size w w' ∧ Blk w' b (rootCells now) 38 := by
  have hb1 : decide (now < 1) = false := by simp; omega
  have hb2 : decide (1000 < now) = false := by simp; omega
  go_enter Try.func61, Try.ntmps61
  go_wp2
  have h := new2 w #[.slice (some ⟨w.heap.size + 1, 0, none⟩) 1 1, .int .i64 now] 25 (rootCells now) 38
  refine end_world (F := New2 w #[.slice (some ⟨w.heap.size + 1, 0, none⟩) 1 1, .int .i64 now] 25 (rootCells now) 38) h ?_
  rintro W ⟨h0, h1, hb, hs⟩
  have r0 : W.cell? ⟨w.heap.size, 0, none⟩ = some (.slice (some ⟨w.heap.size + 1, 0, none⟩) 1 1) := h0.cell 0
  have r1 : W.cell? ⟨w.heap.size, 1, none⟩ = some (.int .i64 now) := h0.cell 1
  exact bodyPost_ret (v := .agg #[.slice (some ⟨w.heap.size + 1, 0, none⟩) 1 1, .int .i64 now]) (by simp [results, Try.results61, go_sem, r0, r1]) rfl ⟨w.heap.size + 1, rfl, by omega, hb, h1⟩

set_option maxHeartbeats 400000 in
theorem specTreeNew_no (now : Int) (w : World) (h : ¬ (1 ≤ now ∧ now ≤ 1000)) :
    Calls Try.prog 61 #[.int .i64 now] w fun e w' => e = .returned (trV none 0 0 0) ∧ Below w.heap.size w w' := by
  by_cases h1 : now < 1
  · have hb1 : decide (now < 1) = true := by simp; omega
    go_enter Try.func61, Try.ntmps61
    go_wp2
    refine end_world (F := New1 w #[.slice none 0 0, .int .i64 0] 25) (new1 w _ _) ?_
    rintro W ⟨h0, hb, hs⟩
    have r0 : W.cell? ⟨w.heap.size, 0, none⟩ = some (.slice none 0 0) := h0.cell 0
    have r1 : W.cell? ⟨w.heap.size, 1, none⟩ = some (.int .i64 0) := h0.cell 1
    exact bodyPost_ret (v := .agg #[.slice none 0 0, .int .i64 0]) (by simp [results, Try.results61, go_sem, r0, r1]) rfl ⟨rfl, hb⟩
  · have hb1 : decide (now < 1) = false := by simp; omega
    have hb2 : decide (1000 < now) = true := by simp; omega
    go_enter Try.func61, Try.ntmps61
    go_wp2
    refine end_world (F := New1 w #[.slice none 0 0, .int .i64 0] 25) (new1 w _ _) ?_
    rintro W ⟨h0, hb, hs⟩
    have r0 : W.cell? ⟨w.heap.size, 0, none⟩ = some (.slice none 0 0) := h0.cell 0
    have r1 : W.cell? ⟨w.heap.size, 1, none⟩ = some (.int .i64 0) := h0.cell 1
    exact bodyPost_ret (v := .agg #[.slice none 0 0, .int .i64 0]) (by simp [results, Try.results61, go_sem, r0, r1]) rfl ⟨rfl, hb⟩
end Go.Proofs.Ytoblndhmkehoaaa

/-
  What l2Some gives: a tree in new memory.
-/
namespace Go.Proofs.Ytoblndhmkehoaaa
open Go.RowKit Go.Deep
set_option linter.unusedVariables false

/-- A tree has been drawn. -/
structure Drew (w : World) (r : Nat) (a : Option Addr) (len cp : Nat) (zs : Nat → Int) (q g cap n : Nat) (D : Nat → Nd) (L : Nat → Loc) (W : World) : Prop where
  rd : IsRd W r a len cp zs q
  own : OwnT W w.heap.size g cap n D L
  nice : Nice n 10 D
  grown : w.grownBy W (some r)
  kids : KidsOwn W n D L

theorem OwnT.lower {W : World} {B B' g cap n : Nat} {D : Nat → Nd} {L : Nat → Loc} (h : OwnT W B g cap n D L) (hB : B' ≤ B) : OwnT W B' g cap n D L :=
  ⟨h.blk, Nat.le_trans hB h.base, h.room, h.most, h.cells, fun i hi => ⟨(h.lists i hi).1, fun b o x e => by have := (h.lists i hi).2.1 b o x e; omega, fun b o x e => by have := (h.lists i hi).2.2 b o x e; omega⟩⟩

theorem OwnT.raise {W : World} {B B' g cap n : Nat} {D : Nat → Nd} {L : Nat → Loc} (h : OwnT W B g cap n D L) {X : Nat → Prop} (ha : Away X g n L) (hX : ∀ b, B ≤ b → ¬ X b → B' ≤ b) : OwnT W B' g cap n D L :=
  ⟨h.blk, hX _ h.base ha.row, h.room, h.most, h.cells, fun i hi => ⟨(h.lists i hi).1, fun b o x e => by have h1 := (h.lists i hi).2.1 b o x e; exact ⟨hX b h1.1 ((ha.lists i hi).1 b o x e), h1.2⟩, fun b o x e => by have h1 := (h.lists i hi).2.2 b o x e; exact ⟨hX b h1.1 ((ha.lists i hi).2 b o x e), h1.2⟩⟩⟩

/-- What is known within l2Some: its answer lies in block w.heap.size, t in block T. -/
structure SI (w : World) (T r : Nat) (a : Option Addr) (len cp : Nat) (zs : Nat → Int) (q g cap n m : Nat) (D : Nat → Nd) (L : Nat → Loc) (now : Int) (W : World) : Prop where
  rd : IsRd W r a len cp zs q
  res : Blk W w.heap.size #[.slice none 0 0, .int .i64 0] 25
  t : Blk W T #[.slice (some ⟨g, 0, none⟩) n cap, .int .i64 now] 25
  own : OwnT W (w.heap.size + 1) g cap n D L
  away : Away (fun b => b = T) g n L
  nice : Nice n m D
  above : w.heap.size < T
  grown : w.grownBy W (some r)
  rlt : r < w.heap.size
  kids : KidsOwn W n D L

/-- The blocks that l2Some keeps while l2Grow works. -/
def SX (w : World) (T r : Nat) : Nat → Prop := fun b => (b < w.heap.size + 1 ∧ b ≠ r) ∨ b = T

section
variable {w : World} {T r : Nat} {a : Option Addr} {len cp : Nat} {zs : Nat → Int} {q g cap n m : Nat} {D : Nat → Nd} {L : Nat → Loc} {now : Int} {W W' : World}

theorem SI.sx (h : SI w T r a len cp zs q g cap n m D L now W) : Away (SX w T r) g n L ∧ ∀ b, SX w T r b → b < W.heap.size ∧ b ≠ r := by
  have hb := h.own.base
  have hr : ¬ g = T := h.away.row
  have h1 := h.res.lt
  have h2 := h.t.lt
  have h3 := h.above
  have h4 := h.rlt
  refine ⟨⟨by unfold SX; omega, fun i hi => ⟨fun b o x e => ?_, fun b o x e => ?_⟩⟩, fun b hx => by unfold SX at hx; omega⟩
  · have := ((h.own.lists i hi).2.1 b o x e).1
    have : ¬ b = T := (h.away.lists i hi).1 b o x e
    unfold SX; omega
  · have := ((h.own.lists i hi).2.2 b o x e).1
    have : ¬ b = T := (h.away.lists i hi).2 b o x e
    unfold SX; omega

/-- The tree has grown, and is written into t. -/
theorem SI.grew (h : SI w T r a len cp zs q g cap n m D L now W) {g' cap' n' : Nat} {D' : Nat → Nd} {L' : Nat → Loc} (hg : Grew W (SX w T r) r a len cp zs q m now g' cap' n' D' L' W') :
    ∃ q', q' ≤ q + 20 ∧ SI w T r a len cp zs q' g' cap' n' (m + 1) D' L' (now + 1) ((W'.setCell ⟨T, 0, none⟩ (.slice (some ⟨g', 0, none⟩) n' cap')).setCell ⟨T, 1, none⟩ (.int .i64 (now + 1))) := by
  obtain ⟨q', hR, hq⟩ := hg.rd
  have h3 := h.above
  have h4 := h.rlt
  have h5 := h.grown.size
  have ha : Away (fun b => b = T) g' n' L' := ⟨fun e => hg.away.row (Or.inr e), fun i hi => ⟨fun b o x e e' => (hg.away.lists i hi).1 b o x e (Or.inr e'), fun b o x e e' => (hg.away.lists i hi).2 b o x e (Or.inr e')⟩⟩
  have ho : OwnT W' (w.heap.size + 1) g' cap' n' D' L' := hg.own.raise hg.away (fun b h1 h2 => by unfold SX at h2; omega)
  have hk : ∀ b, b < w.heap.size + 1 → b ≠ r → W'.heap[b]? = W.heap[b]? := fun b h1 h2 => hg.kept b (Or.inl ⟨h1, h2⟩)
  have hs : ∀ b, b ≠ T → ((W'.setCell ⟨T, 0, none⟩ (.slice (some ⟨g', 0, none⟩) n' cap')).setCell ⟨T, 1, none⟩ (.int .i64 (now + 1))).heap[b]? = W'.heap[b]? := fun b hb => (blk_setCell_other _ _ _ _ hb).trans (blk_setCell_other _ _ _ _ hb)
  refine ⟨q', hq, hR.kept (fun k hk => hs k (by omega)), (h.res.of_block (hk _ (by omega) (by omega))).of_block (hs _ (by omega)), ((h.t.of_block (hg.kept T (Or.inr rfl))).set 0 _).set 1 _, (ho.setOther ha rfl _ _).setOther ha rfl _ _, ha, hg.nice, h3, ⟨?_, ?_, ?_, ?_, fun k h1 h2 => (hs k (by omega)).trans ((hk k (by omega) (by simpa using h2)).trans (h.grown.block k h1 h2))⟩, h4, hg.kids.of_blocks (fun i hi b o x e => hs b (ha.lists i hi |>.2 b o x e))⟩
  · exact hg.bel.os.trans h.grown.os
  · exact hg.bel.tape.trans h.grown.tape
  · exact hg.bel.output.trans h.grown.output
  · have := hg.bel.size; simp [World.setCell]; omega

/-- The reader goes on. -/
theorem SI.read (h : SI w T r a len cp zs q g cap n m D L now W) (hg : W.grownBy W' (some r)) {q' : Nat} (hr : IsRd W' r a len cp zs q') : SI w T r a len cp zs q' g cap n m D L now W' := by
  have h3 := h.above
  have h4 := h.rlt
  have h5 := h.grown.size
  have h6 := h.res.lt
  have h7 := h.t.lt
  exact ⟨hr, h.res.of_block (hg.block _ h6 (by simp; omega)), h.t.of_block (hg.block _ h7 (by simp; omega)), h.own.grown hg (by omega), h.away, h.nice, h3, grown_trans h.grown hg, h4, h.kids.of_blocks (fun i hi b o x e => by have h1 := (h.own.lists i hi).2.2 b o x e; exact hg.block b (by omega) (by simp; omega))⟩
/-- .. and is written into the answer. -/
structure SEnd (w : World) (r : Nat) (a : Option Addr) (len cp : Nat) (zs : Nat → Int) (q g cap n : Nat) (D : Nat → Nd) (L : Nat → Loc) (now : Int) (W : World) : Prop where
  ans : Blk W w.heap.size #[.slice (some ⟨g, 0, none⟩) n cap, .int .i64 now] 25
  drew : Drew w r a len cp zs q g cap n D L W

theorem SI.fin (h : SI w T r a len cp zs q g cap n m D L now W) (hm : m ≤ 10) : SEnd w r a len cp zs q g cap n D L now ((W.setCell ⟨w.heap.size, 0, none⟩ (.slice (some ⟨g, 0, none⟩) n cap)).setCell ⟨w.heap.size, 1, none⟩ (.int .i64 now)) := by
  have h3 := h.above
  have h4 := h.rlt
  have h5 := h.grown.size
  have hb := h.own.base
  have ha : Away (fun b => b = w.heap.size) g n L := ⟨by omega, fun i hi => ⟨fun b o x e => by have := ((h.own.lists i hi).2.1 b o x e).1; omega, fun b o x e => by have := ((h.own.lists i hi).2.2 b o x e).1; omega⟩⟩
  have hs : ∀ b, b ≠ w.heap.size → ((W.setCell ⟨w.heap.size, 0, none⟩ (.slice (some ⟨g, 0, none⟩) n cap)).setCell ⟨w.heap.size, 1, none⟩ (.int .i64 now)).heap[b]? = W.heap[b]? := fun b hb => (blk_setCell_other _ _ _ _ hb).trans (blk_setCell_other _ _ _ _ hb)
  refine ⟨(h.res.set 0 _).set 1 _, h.rd.kept (fun k hk => hs k (by omega)), ((h.own.setOther ha rfl _ _).setOther ha rfl _ _).lower (by omega), h.nice.more hm, ⟨h.grown.os, h.grown.tape, h.grown.output, ?_, fun k h1 h2 => (hs k (by omega)).trans (h.grown.block k h1 h2)⟩, h.kids.of_blocks (fun i hi b o x e => hs b (ha.lists i hi |>.2 b o x e))⟩
  simp [World.setCell]; omega

/-- A new tree. -/
theorem root_own {b B : Nat} (h : Blk W b (rootCells now) 38) (hB : B ≤ b) : OwnT W B b 1 1 (fun _ => rootNd now) (fun _ => noLoc) := by
  refine ⟨⟨_, h, rfl⟩, hB, Nat.le_refl _, by unfold maxLen; omega, fun i hi => ?_, fun i hi => ⟨⟨Or.inl rfl, Or.inl rfl⟩, fun b o x e => by simp [noLoc] at e, fun b o x e => by simp [noLoc] at e⟩⟩
  have : i = 0 := by omega
  subst this
  exact ⟨h.cell 0, h.cell 1, h.cell 2, h.cell 3, h.cell 4⟩

theorem root_nice : Nice 1 1 (fun _ => rootNd 1) :=
  ⟨Nat.le_refl _, by omega, rfl, fun i hi => ⟨rfl, Nat.zero_le _, fun j hj => absurd hj (Nat.not_lt_zero _), fun j hj => absurd hj (Nat.not_lt_zero _), by simp [rootNd], by simp [rootNd], by simp [rootNd]⟩⟩

theorem SI.start {w1 : World} {b p : Nat} (hR : IsRd w1 r a len cp zs p) (hrl : r < w.heap.size) (hb : w.heap.size + 1 ≤ b) (hbel : Below (w.heap.size + 1) (w.alloc (.cells #[.slice none 0 0, .int .i64 0] 25)) w1) (hblk : Blk w1 b (rootCells 1) 38) :
    SI w w1.heap.size r a len cp zs p b 1 1 1 (fun _ => rootNd 1) (fun _ => noLoc) 1 (w1.alloc (.cells #[.slice (some ⟨b, 0, none⟩) 1 1, .int .i64 1] 25)) := by
  have hl := hblk.lt
  have hs := hbel.size
  have hs' : w.heap.size + 1 ≤ w1.heap.size := by simpa using hs
  refine ⟨hR.alloc _, ((Blk.new w _ _).below hbel (by omega)).alloc _, Blk.new w1 _ _, root_own (hblk.alloc _) hb, ⟨by omega, fun i hi => ⟨fun b o x e => by simp [noLoc] at e, fun b o x e => by simp [noLoc] at e⟩⟩, root_nice, by omega, ?_, hrl, ⟨fun i hi => Or.inl ⟨rfl, rfl, rfl⟩, fun i j hi hj e => apart_none _, fun i j hi hj => apart_none _⟩⟩
  exact ⟨hbel.os, hbel.tape, hbel.output, by simp; omega, fun k h1 h2 => ((blk_alloc_lt _ _ _ (by omega)).trans (hbel.block k (by omega))).trans (blk_alloc_lt _ _ _ h1)⟩
end

set_option maxRecDepth 100000 in
set_option maxHeartbeats 4000000 in
theorem l2Some_any (w : World) (r : Nat) (a : Option Addr) (len cp : Nat) (zs : Nat → Int) (p : Nat) (hR : IsRd w r a len cp zs p) (hp : p ≤ 500) :
    Calls Try.prog 44 #[.pointer (some ⟨r, 0, none⟩)] w fun e w' => ∃ g cap n D L now q, e = .returned (trV (some ⟨g, 0, none⟩) n cap now) ∧ 1 ≤ now ∧ now ≤ 9 ∧ q ≤ p + 200 ∧ Drew w r a len cp zs q g cap n D L w' := by
  have hrl := hR.lt
  go_enter Try.func44, Try.ntmps44
  go_wp2_with fail
  refine (specTreeNew_yes 1 _ (by omega) (by omega)).mono ?_
  rintro e w1 ⟨b, rfl, hb, hbel, hblk⟩
  unfold trV
  have HSI : Hid (SI w w1.heap.size r a len cp zs p b 1 1 1 (fun _ => rootNd 1) (fun _ => noLoc) 1 (w1.alloc (.cells #[.slice (some ⟨b, 0, none⟩) 1 1, .int .i64 1] 25))) := SI.start ((hR.alloc _).kept (fun k hk => hbel.block k (by simp; omega))) hrl (by simpa using hb) (by simpa using hbel) hblk
  clear hbel hblk
  go_wp2_with fail
  refine (pick_any _ r a len cp zs p 9 HSI.out.rd (by omega) (by omega) (by omega)).mono ?_
  rintro e w2 ⟨x, rfl, hx0, hx1, hg2, hR2⟩
  obtain ⟨x, rfl⟩ := Int.eq_ofNat_of_zero_le hx0
  have HS2 : Hid _ := HSI.out.read hg2 hR2
  clear hg2 hR2 HSI hx0
  obtain ⟨T, hT⟩ : ∃ T, T = w1.heap.size := ⟨_, rfl⟩
  rw [← hT] at HS2 ⊢
  clear hT
  go_wp2
  go_loopw [4] (fun i wr => ∃ (j k q g cap n : Nat) (D : Nat → Nd) (L : Nat → Loc), j + k ≤ 8 ∧ i = .int .i64 j ∧ SI w T r a len cp zs q g cap n (1 + k) D L (1 + (k : Int)) wr ∧ q ≤ p + 1 + 20 * k) (fun i _ => (intOf i).toNat)
  case atStart => exact ⟨x, 0, _, _, _, _, _, _, by omega, rfl, HS2.out, by omega⟩
  case round =>
    obtain ⟨j, k, q, g, cap, n, D, L, hj, rfl, hin, hq⟩ := hrel
    clear HS2
    have t0 : wr.cell? ⟨T, 0, none⟩ = some (.slice (some ⟨g, 0, none⟩) n cap) := hin.t.cell 0
    have t1 : wr.cell? ⟨T, 1, none⟩ = some (.int .i64 (1 + (k : Int))) := hin.t.cell 1
    have HIN : Hid _ := hin
    by_cases hj0 : 0 < j
    · have hd : decide ((0 : Int) < j) = true := by simp; omega
      clear hin
      go_wp2_with fail
      refine (l2Grow_any wr (SX w T r) r a len cp zs q g cap n (1 + k) D L (1 + (k : Int)) HIN.out.rd (by omega) (HIN.out.own.lower (by omega)) HIN.out.sx.1 HIN.out.sx.2 HIN.out.kids HIN.out.nice (by omega) (by omega) (by omega)).mono ?_
      rintro e w3 ⟨g', cap', n', D', L', rfl, hgr⟩
      obtain ⟨q', hq', hS⟩ := HIN.out.grew hgr
      have hb3 : Blk w3 T #[.slice (some ⟨g, 0, none⟩) n cap, .int .i64 (1 + (k : Int))] 25 := HIN.out.t.of_block (hgr.kept T (Or.inr rfl))
      have T0 : w3.cell? ⟨T, 0, none⟩ = some (.slice (some ⟨g, 0, none⟩) n cap) := hb3.cell 0
      have T1 : w3.cell? ⟨T, 1, none⟩ = some (.int .i64 (1 + (k : Int))) := hb3.cell 1
      have F0 := hb3.frozen 0
      have F1 := hb3.frozen 1
      have HS : Hid _ := hS
      unfold trV
      clear hb3 hgr hS HIN t0 t1
      go_wp2
      go_roundw
      case rel =>
        have e : (1 + (k : Int) + 1) = 1 + ((k + 1 : Nat) : Int) := by omega
        have e2 : 1 + k + 1 = 1 + (k + 1) := by omega
        have h := HS.out
        rw [e2] at h
        refine ⟨j - 1, k + 1, q', g', cap', n', D', L', by omega, by first | go_num | (congr 1; omega), ?_, by omega⟩
        rw [← e]
        exact h
      case measure => simp [intOf]; omega
    · have hd : decide ((0 : Int) < j) = false := by simp; omega
      have rs0 : wr.cell? ⟨w.heap.size, 0, none⟩ = some (.slice none 0 0) := hin.res.cell 0
      have rs1 : wr.cell? ⟨w.heap.size, 1, none⟩ = some (.int .i64 0) := hin.res.cell 1
      have rf0 := hin.res.frozen 0
      have rf1 := hin.res.frozen 1
      have HE : Hid _ := hin.fin (by omega)
      clear hin
      go_wp2
      refine end_world (F := SEnd w r a len cp zs q g cap n D L (1 + (k : Int))) HE.out ?_
      clear HE t0 t1 rs0 rs1 rf0 rf1 HIN
      rintro WF ⟨hr, hgr⟩
      have r0 := hr.cell 0
      have r1 := hr.cell 1
      simp at r0 r1
      exact bodyPost_ret (v := .agg #[.slice (some ⟨g, 0, none⟩) n cap, .int .i64 (1 + (k : Int))]) (by simp [results, Try.results44, go_sem, r0, r1]) rfl ⟨g, cap, n, D, L, 1 + (k : Int), q, rfl, by omega, by omega, by omega, hgr⟩
end Go.Proofs.Ytoblndhmkehoaaa

/-
  How a code that is handed in is opened: its bytes lie in memory from its address on.
-/
namespace Go.Proofs.Ytoblndhmkehoaaa
open Go.ChangeShapes Go.WideShapes Go.ChangeAt Go.RowKit

theorem own : ownKnob Try.prog.godebug = none := by kernel_rfl
theorem laidOut : laidOutB Try.prog = true := by kernel_rfl
theorem cellsU8 : Try.prog.cellsOf 5 = 1 := by kernel_rfl

theorem lt_of_cell {w : World} {b o : Nat} {v : Value} (h : w.cell? ⟨b, o, none⟩ = some v) : b < w.heap.size := by
  simp only [World.cell?] at h
  by_cases hb : b < w.heap.size
  · exact hb
  · rw [Array.getElem?_eq_none (by omega)] at h
    simp at h

theorem openCode {H : Type} {enc : TypeId × Value → H} {W : World} {a : Option Addr} {n cap : Nat} {d : DataW H} {p : List MemPlace}
    (h : DataW.Trod enc Try.prog W 0 (fun _ => true) true 22 (.slice a n cap) d p) : ∃ zs : Nat → Int, IsCode W a n zs ∧ n ≤ maxLen ∧ n ≤ cap := by
  obtain ⟨fuel, hf⟩ := h
  rcases open_ints Try.underlying22 Try.underlying5 cellsU8 hf with ⟨hcs, _⟩ | ⟨x, l, c, zs, hcs, _, hl, hm, hz, _, hcell, hwz⟩
  · simp [Value.cells] at hcs
    obtain ⟨rfl, rfl, rfl⟩ := hcs
    exact ⟨fun _ => 0, Or.inl rfl, by unfold maxLen; omega, by omega⟩
  · simp [Value.cells] at hcs
    obtain ⟨rfl, rfl, rfl⟩ := hcs
    simp at hz
    obtain ⟨b, off, spot⟩ := x
    refine ⟨fun i => zs.getD i 0, ?_, by omega, hl⟩
    by_cases h0 : n = 0
    · exact Or.inl h0
    · have h00 := hcell 0 (by omega)
      have hspot : spot = none := by simpa [Addr.add] using World.cell?_spot h00
      subst hspot
      refine Or.inr ⟨b, off, rfl, lt_of_cell (by simpa [Addr.add] using h00), fun i hi => ?_⟩
      have hci := hcell i (by omega)
      rw [add_plain] at hci
      refine ⟨hci, u8_bounds ?_⟩
      show (Lit.int .u8 (zs.getD i 0)).wf = true
      rw [List.getD_eq_getElem?_getD, List.getElem?_eq_getElem (by omega)]
      exact hwz _ (List.getElem_mem _)
end Go.Proofs.Ytoblndhmkehoaaa

/-
  What DrawTreeNew gives: one of six numbers.
-/
namespace Go.Proofs.Ytoblndhmkehoaaa
open Go.RowKit
set_option linter.unusedVariables false

set_option maxHeartbeats 400000 in
theorem num_any (w : World) (r : Nat) (a : Option Addr) (len cap : Nat) (zs : Nat → Int) (p : Nat) (hR : IsRd w r a len cap zs p) (hp : p ≤ 1000000)
    (b off m c : Nat) (S : Nat → Int) (hb : b ≠ r) (hm : 1 ≤ m) (hm2 : m ≤ 1000) (hc : ∀ i, i < m → w.cell? ⟨b, off + i, none⟩ = some (.int .i64 (S i))) :
    Calls Try.prog 45 #[.pointer (some ⟨r, 0, none⟩), .slice (some ⟨b, off, none⟩) m c] w fun e w' => ∃ i, i < m ∧ e = .returned (.int .i64 (S i)) ∧ w.grownBy w' (some r) ∧ IsRd w' r a len cap zs (p + 1) := by
  go_enter Try.func45, Try.ntmps45
  go_wp2_with fail
  refine (pick_any w r a len cap zs p m hR hp (by omega) (by omega)).mono ?_
  rintro e w1 ⟨x, rfl, hx0, hx1, hg, hR1⟩
  obtain ⟨i, rfl⟩ := Int.eq_ofNat_of_zero_le hx0
  have hi : i < m := by omega
  have hci : w1.cell? ⟨b, off + i, none⟩ = some (.int .i64 (S i)) := hg.cell (hc i hi) (by simp; exact hb)
  have HG : Hid (w.grownBy w1 (some r)) := hg
  have HR : Hid (IsRd w1 r a len cap zs (p + 1)) := hR1
  clear hc hg hR1 hR
  go_wp2
  go_ret
  exact ⟨i, hi, rfl, HG.out, HR.out⟩

end Go.Proofs.Ytoblndhmkehoaaa
