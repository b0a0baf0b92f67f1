/-
  Where a way leads in a tree: plain facts. Names of a directory are told apart, so a way leads to one place at most.
-/
import Derived.Test.YtbifhfnoogjoeaaSpecTreeOk
import Derived.Test.YtbifhfnoogjoeaaPath
namespace Go.Proofs.Ytbifhfnoogjoeaa
set_option linter.unusedVariables false

theorem less_trans : ∀ a b c : List UInt8, Op.bytesLess a b = true → Op.bytesLess b c = true → Op.bytesLess a c = true
  | _, [], _, h, _ => by simp [Op.bytesLess] at h
  | _, _ :: _, [], _, h => by simp [Op.bytesLess] at h
  | [], _ :: _, _ :: _, _, _ => by simp [Op.bytesLess]
  | a :: x, b :: y, c :: z, h1, h2 => by
    have ih := less_trans x y z
    simp only [Op.bytesLess, Bool.or_eq_true, Bool.and_eq_true, decide_eq_true_eq, beq_iff_eq] at *
    rcases h1 with h1 | ⟨rfl, h1⟩
    · rcases h2 with h2 | ⟨rfl, h2⟩
      · exact Or.inl (UInt8.lt_iff_toNat_lt.2 (Nat.lt_trans (UInt8.lt_iff_toNat_lt.1 h1) (UInt8.lt_iff_toNat_lt.1 h2)))
      · exact Or.inl h1
    · rcases h2 with h2 | ⟨rfl, h2⟩
      · exact Or.inl h2
      · exact Or.inr ⟨rfl, ih h1 h2⟩

theorem less_irrefl : ∀ a : List UInt8, Op.bytesLess a a = false
  | [] => rfl
  | a :: x => by
    have ih := less_irrefl x
    have : ¬ a < a := fun hh => by have := UInt8.lt_iff_toNat_lt.1 hh; omega
    simp [Op.bytesLess, ih, this]

theorem less_tot : ∀ a b : List UInt8, (!Op.bytesLess a b) = (Op.bytesLess b a || b == a)
  | [], [] => rfl
  | [], b :: y => by simp [Op.bytesLess]
  | a :: x, [] => by simp [Op.bytesLess]
  | a :: x, b :: y => by
    have ih := less_tot x y
    simp only [Op.bytesLess]
    have e1 : (b :: y == a :: x) = (b == a && y == x) := by simp [List.cons_beq_cons]
    rw [e1]
    rcases Nat.lt_trichotomy a.toNat b.toNat with h | h | h
    · have h1 : a < b := UInt8.lt_iff_toNat_lt.2 h
      have h2 : ¬ b < a := fun hh => by have := UInt8.lt_iff_toNat_lt.1 hh; omega
      have h3 : (b == a) = false := by simp; intro hh; subst hh; omega
      rw [decide_eq_true h1, decide_eq_false h2, h3]; rfl
    · have h1 : a = b := UInt8.toNat_inj.1 h
      subst h1
      have h2 : ¬ a < a := fun hh => by have := UInt8.lt_iff_toNat_lt.1 hh; omega
      rw [decide_eq_false h2]
      simpa using ih
    · have h1 : b < a := UInt8.lt_iff_toNat_lt.2 h
      have h2 : ¬ a < b := fun hh => by have := UInt8.lt_iff_toNat_lt.1 hh; omega
      have h3 : (a == b) = false := by simp; intro hh; subst hh; omega
      rw [decide_eq_true h1, decide_eq_false h2, h3]; rfl

/-- Names in order ascend. -/
theorem names_up {S : Nat → ByteArray} {n : Nat} (h : dirNames S n = true) {i j : Nat} (hij : i < j) (hj : j < n) : Op.bytesLess (S i).toList (S j).toList = true := by
  induction j with
  | zero => omega
  | succ j ih =>
    have h1 := List.all_eq_true.1 h (j + 1) (by simpa using hj)
    simp only [Bool.and_eq_true, Bool.or_eq_true] at h1
    have h2 : lessEq (S (j + 1)) (S j) = false := by
      rcases h1.2 with h2 | h2
      · simp at h2
      · simpa using h2
    have h3 : Op.bytesLess (S j).toList (S (j + 1)).toList = true := by
      have := less_tot (S j).toList (S (j + 1)).toList
      rw [show (Op.bytesLess (S (j + 1)).toList (S j).toList || (S (j + 1)).toList == (S j).toList) = lessEq (S (j + 1)) (S j) from rfl, h2] at this
      simpa using this
    by_cases e : i = j
    · subst e; exact h3
    · exact less_trans _ _ _ (ih (by omega) (by omega)) h3

theorem names_inj {S : Nat → ByteArray} {n : Nat} (h : dirNames S n = true) {i j : Nat} (hi : i < n) (hj : j < n) (e : (S i).toList = (S j).toList) : i = j := by
  rcases Nat.lt_trichotomy i j with hl | hl | hl
  · have := names_up h hl hj
    rw [e, less_irrefl] at this; cases this
  · exact hl
  · have := names_up h hl hi
    rw [e, less_irrefl] at this; cases this

/-- A place that has names is a directory. -/
theorem dir_of_names {n : Nat} {D : Nat → Nd} {now : Int} {d : Nd} (h : ndOk n D now d = true) (hn : 0 < d.nn) : d.kind = 2 ∧ dirNames d.names d.nn = true ∧ d.kn = d.nn := by
  unfold ndOk at h
  split at h
  · unfold freeOk at h; simp at h; omega
  · split at h
    · unfold fileOk at h; simp at h; omega
    · split at h
      · rename_i hk
        unfold dirOk at h
        simp only [Bool.and_eq_true, decide_eq_true_eq] at h
        exact ⟨hk, h.1.1.1.2, h.1.1.2.2⟩
      · cases h

/-- Behind k names of a way one stands at place x. -/
inductive Leads (D : Nat → Nd) (S : Nat → ByteArray) : Nat → Nat → Prop
  | root : Leads D S 0 0
  | step {k x i : Nat} : Leads D S k x → i < (D x).nn → ((D x).names i).toList = (S k).toList → Leads D S (k + 1) ((D x).kids i).toNat

theorem Leads.lt {n : Nat} {D : Nat → Nd} {now : Int} {S : Nat → ByteArray} (h : TreeGood n D now) {k x : Nat} (hl : Leads D S k x) : x < n := by
  induction hl with
  | root => exact h.some
  | step hl hi he ih =>
    rename_i k x i
    have := (dir_of_names (h.nodes x ih) (by omega)).2.2
    have hk := kids_in h.nodes x ih i (by omega)
    omega

theorem Leads.one {n : Nat} {D : Nat → Nd} {now : Int} {S : Nat → ByteArray} (h : TreeGood n D now) {k x : Nat} (hx : Leads D S k x) : ∀ {y : Nat}, Leads D S k y → x = y := by
  induction hx with
  | root => intro y hy; cases hy; rfl
  | step hl hi he ih =>
    intro y hy
    cases hy with
    | step hl' hi' he' =>
      have e := ih hl'
      subst e
      have := names_inj (dir_of_names (h.nodes _ (hl.lt h)) (by omega)).2.1 hi hi' (he.trans he'.symm)
      subst this
      rfl

/-- Where a name fails, the way leads nowhere. -/
theorem Leads.stuck {n : Nat} {D : Nat → Nd} {now : Int} {S : Nat → ByteArray} (h : TreeGood n D now) {k x : Nat} (hx : Leads D S k x) (hno : ∀ i, i < (D x).nn → ¬ ((D x).names i).toList = (S k).toList) {m : Nat} (hm : k < m) : ¬ ∃ y, Leads D S m y := by
  induction m with
  | zero => omega
  | succ m ih =>
    rintro ⟨y, hy⟩
    cases hy with
    | step hl hi he =>
      by_cases e : k = m
      · subst e
        have := hx.one h hl
        subst this
        exact hno _ hi he
      · exact ih (by omega) ⟨_, hl⟩

/-- The place at the end of a way; -1, if there is none. -/
structure FindAre (n : Nat) (D : Nat → Nd) (now : Int) (m : Nat) (S : Nat → ByteArray) (r : Int) : Prop where
  yes : TreeGood n D now → pathOk m S = true → ∀ x, Leads D S m x → r = (x : Int)
  no : ¬ (TreeGood n D now ∧ pathOk m S = true ∧ ∃ x, Leads D S m x) → r = -1

theorem FindAre.one {n : Nat} {D : Nat → Nd} {now : Int} {m : Nat} {S : Nat → ByteArray} {r r' : Int} (h : FindAre n D now m S r) (h' : FindAre n D now m S r') : r = r' := by
  by_cases g : TreeGood n D now ∧ pathOk m S = true ∧ ∃ x, Leads D S m x
  · obtain ⟨g1, g2, x, g3⟩ := g
    rw [h.yes g1 g2 x g3, h'.yes g1 g2 x g3]
  · rw [h.no g, h'.no g]

theorem findAre_end {n : Nat} {D : Nat → Nd} {now : Int} {m : Nat} {S : Nat → ByteArray} {x : Nat} (h : TreeGood n D now) (hp : pathOk m S = true) (hx : Leads D S m x) : FindAre n D now m S x :=
  ⟨fun _ _ y hy => by rw [hx.one h hy], fun g => absurd ⟨h, hp, x, hx⟩ g⟩

theorem findAre_no {n : Nat} {D : Nat → Nd} {now : Int} {m : Nat} {S : Nat → ByteArray} (hx : ¬ (TreeGood n D now ∧ pathOk m S = true ∧ ∃ x, Leads D S m x)) : FindAre n D now m S (-1) :=
  ⟨fun h1 h2 y hy => absurd ⟨h1, h2, y, hy⟩ hx, fun _ => rfl⟩
end Go.Proofs.Ytbifhfnoogjoeaa
