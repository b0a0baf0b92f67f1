/-
  The lists of Kids of a tree that is being drawn are its own: each lies in a block of its own, with room as its cap says. Plain facts.
-/
import Derived.Test.YtbifhfnoogjoeaaDrawGrowMem
namespace Go.Proofs.Ytbifhfnoogjoeaa
open Go.RowKit Go.Deep
set_option linter.unusedVariables false

structure KidsOwn (W : World) (n : Nat) (D : Nat → Nd) (L : Nat → Loc) : Prop where
  room : ∀ i, i < n → RoomK W (L i).kA (D i).kn (L i).kc
  kids : ∀ i j, i < n → j < n → i ≠ j → Apart (L i).kA (L j).kA
  names : ∀ i j, i < n → j < n → Apart (L i).kA (L j).nA

section
variable {W W' : World} {n : Nat} {D D' : Nat → Nd} {L : Nat → Loc}

theorem KidsOwn.of_blocks (h : KidsOwn W n D L) (hb : ∀ i, i < n → ∀ b o x, (L i).kA = some ⟨b, o, x⟩ → W'.heap[b]? = W.heap[b]?) : KidsOwn W' n D L :=
  ⟨fun i hi => (h.room i hi).of_blocks (hb i hi), h.kids, h.names⟩

theorem KidsOwn.same (h : KidsOwn W n D L) (hk : ∀ i, i < n → (D' i).kn = (D i).kn) : KidsOwn W n D' L :=
  ⟨fun i hi => by rw [hk i hi]; exact h.room i hi, h.kids, h.names⟩

/-- A place is written whole, with lists of its own. -/
theorem KidsOwn.put (h : KidsOwn W n D L) {i : Nat} (d : Nd) (l : Loc) (hr : RoomK W l.kA d.kn l.kc) (hl : Apart l.kA l.nA) (hk : ∀ j, j < n → j ≠ i → Apart l.kA (L j).kA) (hn : ∀ j, j < n → j ≠ i → Apart l.kA (L j).nA) (hn' : ∀ j, j < n → j ≠ i → Apart (L j).kA l.nA) : KidsOwn W n (putNd D i d) (putLoc L i l) := by
  refine ⟨fun j hj => ?_, fun j j' hj hj' hne => ?_, fun j j' hj hj' => ?_⟩
  · by_cases e : j = i
    · subst e; rw [putNd_same]; simp only [putLoc, if_true]; exact hr
    · rw [putNd_ne D _ e]; simp only [putLoc, if_neg e]; exact h.room j hj
  · by_cases e : j = i
    · by_cases e' : j' = i
      · omega
      · simp only [putLoc, if_pos e, if_neg e']; exact hk j' hj' e'
    · by_cases e' : j' = i
      · simp only [putLoc, if_pos e', if_neg e]; exact (hk j hj e).symm
      · simp only [putLoc, if_neg e', if_neg e]; exact h.kids j j' hj hj' hne
  · by_cases e : j = i
    · by_cases e' : j' = i
      · simp only [putLoc, if_pos e, if_pos e']; exact hl
      · simp only [putLoc, if_pos e, if_neg e']; exact hn j' hj' e'
    · by_cases e' : j' = i
      · simp only [putLoc, if_pos e', if_neg e]; exact hn' j hj e
      · simp only [putLoc, if_neg e', if_neg e]; exact h.names j j' hj hj'

/-- A place with no lists more. -/
theorem KidsOwn.app (h : KidsOwn W n D L) (d : Nd) (l : Loc) (hd : d.kn = 0) (hk : l.kA = none) (hc : l.kc = 0) (hn : l.nA = none) : KidsOwn W (n + 1) (putNd D n d) (putLoc L n l) := by
  have h0 : ∀ j, j < n + 1 → j ≠ n → j < n := fun j h1 h2 => by omega
  refine ⟨fun j hj => ?_, fun j j' hj hj' hne => ?_, fun j j' hj hj' => ?_⟩
  · by_cases e : j = n
    · subst e; rw [putNd_same]; simp only [putLoc, if_true]; exact Or.inl ⟨hk, hd, hc⟩
    · rw [putNd_ne D _ e]; simp only [putLoc, if_neg e]; exact h.room j (h0 j hj e)
  · by_cases e : j = n
    · simp only [putLoc, if_pos e]; rw [hk]; exact apart_none _
    · by_cases e' : j' = n
      · simp only [putLoc, if_pos e']; rw [hk]; exact apart_none' _
      · simp only [putLoc, if_neg e', if_neg e]; exact h.kids j j' (h0 j hj e) (h0 j' hj' e') hne
  · by_cases e : j = n
    · simp only [putLoc, if_pos e]; rw [hk]; exact apart_none _
    · by_cases e' : j' = n
      · simp only [putLoc, if_pos e']; rw [hn]; exact apart_none' _
      · simp only [putLoc, if_neg e', if_neg e]; exact h.names j j' (h0 j hj e) (h0 j' hj' e')
end
end Go.Proofs.Ytbifhfnoogjoeaa
