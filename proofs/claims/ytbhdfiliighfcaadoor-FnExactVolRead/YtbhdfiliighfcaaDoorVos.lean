/-
  What the helpers of the exact laws do at lists of pieces: holding two against each other, marking one, asking whether the marks are there.
-/
import Derived.Test.YtbhdfiliighfcaaDoorVosBase
import Derived.Test.YtbhdfiliighfcaaDoorVols
import Derived.Test.YtbhdfiliighfcaaDoorMark
import Derived.Test.YtbhdfiliighfcaaDoorLat
namespace Go.Proofs.YtbhdfiliighfcaaDoor
open Go.RowKit Go.Deep
set_option linter.unusedVariables false
set_option linter.unusedSimpArgs false

def sameV (d e : Vo) : Bool := (d.num == e.num) && (d.cnt == e.cnt) && (d.sum == e.sum) && (d.text.toList == e.text.toList)
theorem sameV_self (d : Vo) : sameV d d = true := by simp [sameV]
def eqVs (n : Nat) (E F : Nat → Vo) : Bool := (List.range n).all fun i => sameV (E i) (F i)
theorem eqVs_succ (k : Nat) (E F : Nat → Vo) (h : eqVs k E F = true) (h1 : sameV (E k) (F k) = true) : eqVs (k + 1) E F = true := by
  unfold eqVs at *
  rw [List.range_succ, List.all_append, h]; simp [h1]
theorem eqVs_not (n k : Nat) (E F : Nat → Vo) (hk : k < n) (h : sameV (E k) (F k) = false) : false = eqVs n E F := by
  symm
  rw [Bool.eq_false_iff]
  intro ha
  have := List.all_eq_true.1 ha k (by simpa using hk)
  rw [h] at this; cases this
theorem eqVs_self (n : Nat) (E F : Nat → Vo) (h : ∀ i, i < n → E i = F i) : eqVs n E F = true := by
  unfold eqVs
  rw [List.all_eq_true]
  intro i hi
  rw [h i (by simpa using hi)]
  exact sameV_self _

set_option maxHeartbeats 400000 in
theorem eqVol_any (d e : Vo) (w : World) : Calls Tryd.prog 11 #[voV d, voV e] w fun r w' => Below w.heap.size w w' ∧ r = .returned (.bool (sameV d e)) := by
  unfold voV
  cases h1 : (d.num == e.num) with
  | false =>
    have hx : sameV d e = false := by unfold sameV; rw [h1]; rfl
    have hn1 : (d.num != e.num) = true := by simp only [bne, h1]; rfl
    rw [hx]
    clear h1 hx
    go_enter Tryd.func11, Tryd.ntmps11
    go_wp2_with fail
    go_ret
    exact ⟨((Below.refl _ _).alloc (Nat.le_refl _) _).alloc (by simp) _, rfl⟩
  | true =>
    have hn1 : (d.num != e.num) = false := by simp only [bne, h1]; rfl
    cases h2 : (d.cnt == e.cnt) with
    | false =>
      have hx : sameV d e = false := by unfold sameV; rw [h1, h2]; rfl
      have hn2 : (d.cnt != e.cnt) = true := by simp only [bne, h2]; rfl
      rw [hx]
      clear h1 h2 hx
      go_enter Tryd.func11, Tryd.ntmps11
      go_wp2_with fail
      go_ret
      exact ⟨((Below.refl _ _).alloc (Nat.le_refl _) _).alloc (by simp) _, rfl⟩
    | true =>
      have hn2 : (d.cnt != e.cnt) = false := by simp only [bne, h2]; rfl
      cases h3 : (d.sum == e.sum) with
      | false =>
        have hx : sameV d e = false := by unfold sameV; rw [h1, h2, h3]; rfl
        have hn3 : (d.sum != e.sum) = true := by simp only [bne, h3]; rfl
        rw [hx]
        clear h1 h2 h3 hx
        go_enter Tryd.func11, Tryd.ntmps11
        go_wp2_with fail
        go_ret
        exact ⟨((Below.refl _ _).alloc (Nat.le_refl _) _).alloc (by simp) _, rfl⟩
      | true =>
        have hn3 : (d.sum != e.sum) = false := by simp only [bne, h3]; rfl
        cases h4 : (d.text.toList == e.text.toList) with
        | false =>
          have hx : sameV d e = false := by unfold sameV; rw [h1, h2, h3, h4]; rfl
          have hn4 : (!d.text.toList == e.text.toList) = true := by rw [h4]; rfl
          rw [hx]
          clear h1 h2 h3 h4 hx
          go_enter Tryd.func11, Tryd.ntmps11
          go_wp2_with fail
          go_ret
          exact ⟨((Below.refl _ _).alloc (Nat.le_refl _) _).alloc (by simp) _, rfl⟩
        | true =>
          have hx : sameV d e = true := by unfold sameV; rw [h1, h2, h3, h4]; rfl
          have hn4 : (!d.text.toList == e.text.toList) = false := by rw [h4]; rfl
          rw [hx]
          clear h1 h2 h3 h4 hx
          go_enter Tryd.func11, Tryd.ntmps11
          go_wp2_with fail
          go_ret
          exact ⟨((Below.refl _ _).alloc (Nat.le_refl _) _).alloc (by simp) _, rfl⟩

/-- The marks: four numbers a piece, the last as a text. -/
def marksV (k : Nat) (i : Nat) : Vo := ⟨((k + 4 * i : Nat) : Int), ((k + 4 * i + 1 : Nat) : Int), ((k + 4 * i + 2 : Nat) : Int), ⟨(markOf (k + 4 * i + 3)).toArray⟩⟩

/-- What grows alone. -/
theorem below_grown {w w' : World} (h : Below w.heap.size w w') (r : Option Nat) : w.grownBy w' r := ⟨h.os, h.tape, h.output, h.size, fun k hk _ => h.block k hk⟩

theorem vov_mark (n m k : Nat) (F : Nat → Vo) (hm : m < n) (t : ByteArray) (ht : t = ⟨(markOf (k + 4 * m + 3)).toArray⟩) :
    ((((vov n F).set (m * 4) (.int .i64 ((k : Int) + 4 * (m : Int)))).set (m * 4 + 1) (.int .i64 ((k : Int) + 4 * (m : Int) + 1))).set (m * 4 + 2) (.int .i64 ((k : Int) + 4 * (m : Int) + 1 + 1))).set (m * 4 + 3) (.string t) = vov n (fun i => if i = m then marksV k m else F i) := by
  rw [show (k : Int) + 4 * (m : Int) + 1 + 1 = ((k + 4 * m + 2 : Nat) : Int) by omega, show (k : Int) + 4 * (m : Int) + 1 = ((k + 4 * m + 1 : Nat) : Int) by omega, show (k : Int) + 4 * (m : Int) = ((k + 4 * m : Nat) : Int) by omega, ht]
  exact vov_set4 n m F (marksV k m) hm
end Go.Proofs.YtbhdfiliighfcaaDoor
