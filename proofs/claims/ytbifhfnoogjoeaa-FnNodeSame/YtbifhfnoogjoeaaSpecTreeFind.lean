/-
  What TreeFind of the specification answers.
-/
import Derived.Test.YtbifhfnoogjoeaaFindMath
namespace Go.Proofs.Ytbifhfnoogjoeaa
open Go.RowKit
set_option linter.unusedVariables false

/-- The first place of a name in a directory; -1, if there is none. -/
def nameIx (d : Nd) (s : ByteArray) : Int := match (List.range d.nn).find? (fun i => (d.names i).toList == s.toList) with | some i => (i : Int) | none => -1

theorem nameIx_none {d : Nd} {s : ByteArray} (h : ∀ i, i < d.nn → ¬ (d.names i).toList = s.toList) : nameIx d s = -1 := by
  unfold nameIx
  rw [List.find?_eq_none.2 (fun i hi => by simpa using h i (by simpa using hi))]

theorem nameIx_some {d : Nd} {s : ByteArray} {k : Nat} (hk : k < d.nn) (he : (d.names k).toList = s.toList) (h : ∀ i, i < k → ¬ (d.names i).toList = s.toList) : nameIx d s = k := by
  unfold nameIx
  have : (List.range d.nn).find? (fun i => (d.names i).toList == s.toList) = some k := by
    rw [List.find?_range_eq_some]
    exact ⟨by simpa using he, by simpa using hk, fun j hj => by simpa using h j hj⟩
  rw [this]

theorem nameIx_spec (d : Nd) (s : ByteArray) : (nameIx d s = -1 ∧ ∀ i, i < d.nn → ¬ (d.names i).toList = s.toList) ∨ ∃ i : Nat, nameIx d s = i ∧ i < d.nn ∧ (d.names i).toList = s.toList := by
  unfold nameIx
  split
  · rename_i i hi
    have h1 := List.find?_some hi
    have h2 := List.mem_of_find?_eq_some hi
    exact Or.inr ⟨i, rfl, by simpa using h2, by simpa using h1⟩
  · rename_i hi
    have := List.find?_eq_none.1 hi
    exact Or.inl ⟨rfl, fun i hlt => by simpa using this i (by simpa using hlt)⟩

/-- What is known within l2Name. -/
structure NmIn (w : World) (d : Nd) (l : Loc) (W : World) : Prop where
  d : Blk W w.heap.size #[.int .i64 d.kind, .string d.text, .slice l.nA d.nn l.nc, .slice l.kA d.kn l.kc, .int .i64 d.turn] 36
  bel : Below w.heap.size w W

set_option maxHeartbeats 1000000 in
theorem l2Name_any (d : Nd) (l : Loc) (s : ByteArray) (w : World) (hI : NdIn w d l) (hn : d.nn ≤ maxLen) :
    Calls Try.prog 61 #[ndV d l, .string s] w fun e w' => Below w.heap.size w w' ∧ e = .returned (.int .i64 (nameIx d s)) := by
  unfold maxLen at hn
  unfold ndV
  go_enter Try.func61, Try.ntmps61
  go_wp2
  go_loopw [5] (fun i wr => ∃ k : Nat, k ≤ d.nn ∧ i = .int .i64 k ∧ NmIn w d l wr ∧ ∀ i, i < k → ¬ (d.names i).toList = s.toList) (fun i _ => d.nn - (intOf i).toNat)
  case atStart => exact ⟨0, Nat.zero_le _, rfl, ⟨(new1 w _ _).b0, (new1 w _ _).bel⟩, fun i hi => by omega⟩
  case round =>
    obtain ⟨k, hk, rfl, hin, hall⟩ := hrel
    have d2 : wr.cell? ⟨w.heap.size, 2, none⟩ = some (.slice l.nA d.nn l.nc) := hin.d.cell 2
    have hIr := hI.1.below (Nat.le_refl _) hin.bel
    have HE : Hid (NmIn w d l wr ∧ ∀ i, i < k → ¬ (d.names i).toList = s.toList) := ⟨hin, hall⟩
    clear hin hall
    by_cases hlt : k < d.nn
    · obtain ⟨b, off, ha, hlt2, hc⟩ := hIr.at hlt
      rw [ha] at d2
      have h1 := hc k hlt
      have hlti : (k : Int) < (d.nn : Int) := by omega
      clear hc
      cases he : ((d.names k).toList == s.toList) with
      | true =>
        have HX : Hid ((d.names k).toList = s.toList) := show _ = _ by simpa using he
        go_wp2_with fail
        go_ret
        exact ⟨HE.out.1.bel, by rw [nameIx_some hlt HX.out HE.out.2]; rfl⟩
      | false =>
        have HX : Hid (¬ (d.names k).toList = s.toList) := show ¬ _ by simpa using he
        go_wp2_with fail
        go_roundw
        case rel => exact ⟨k + 1, by omega, by go_num, HE.out.1, fun i hi => by
          by_cases e : i = k
          · subst e; exact HX.out
          · exact HE.out.2 i (by omega)⟩
        case measure => simp [intOf]; omega
    · clear hIr
      go_wp2
      go_ret
      exact ⟨HE.out.1.bel, by rw [nameIx_none (fun i hi => HE.out.2 i (by omega))]; rfl⟩
end Go.Proofs.Ytbifhfnoogjoeaa
