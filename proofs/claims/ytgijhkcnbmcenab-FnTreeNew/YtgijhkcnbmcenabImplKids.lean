/-
  What kidsByName of the program answers: a map from the names of a place to its places.
-/
import Derived.Test.YtgijhkcnbmcenabSpecTreeFind
import Derived.Maps.Own
import Derived.Maps.OwnOps
import Derived.Maps.OwnSet
import Derived.Maps.Views
namespace Go.Proofs.Ytgijhkcnbmcenab
open Go.RowKit Go.Maps Go.WideMaps
set_option linter.unusedVariables false

theorem law : Keyed Try.prog 9 := string_keyed Try.underlying9
theorem zeroInt (w : World) : (zeroValue 3).run Try.prog w = .ok (.int .i64 0) w := by kernel_rfl

/-- What a name reads as. -/
def keyL (s : ByteArray) : Lit := .string s.data.toList

/-- The map has the first k names, and at each its place. -/
structure Kept (S : Nat → ByteArray) (Z : Nat → Int) (k : Nat) (M : DataW Unit) : Prop where
  isMap : IsMap M
  has : ∀ s : ByteArray, Maps.has M (keyL s) = true ↔ ∃ i, i < k ∧ (S i).toList = s.toList
  at_ : ∀ i, i < k → ∀ z, M.atKey (keyL (S i)) z = .lit (.int .i64 (Z i))

theorem run_makeMap_hint (n : Int) (w : World) : (Instr.makeMap 58 (some (.int .i64 n))).run Try.prog w = .ok (.map (some w.heap.size)) (w.alloc (.map #[] 0)) := by
  simp [Instr.makeMap, run_underlying Try.underlying58, asInt, asIntOf, Result.andThen]

theorem keyL_ne {s t : ByteArray} (h : ¬ s.toList = t.toList) : keyL s ≠ keyL t := by
  intro e
  unfold keyL at e
  simp only [Lit.string.injEq] at e
  exact h (by rw [ByteArray.toList_eq, ByteArray.toList_eq, e])

theorem keyL_eq {s t : ByteArray} (h : s.toList = t.toList) : keyL s = keyL t := by
  unfold keyL
  rw [← ByteArray.toList_eq, ← ByteArray.toList_eq, h]

theorem kept_start (S : Nat → ByteArray) (Z : Nat → Int) : Kept S Z 0 (.map []) := ⟨isMap_empty, fun s => ⟨fun h => by simp [Maps.has] at h, fun h => by obtain ⟨i, hi, _⟩ := h; omega⟩, fun i hi => by omega⟩

theorem Kept.step {S : Nat → ByteArray} {Z : Nat → Int} {k : Nat} {M : DataW Unit} (h : Kept S Z k M) (hne : ∀ i, i < k → ¬ (S i).toList = (S k).toList) : Kept S Z (k + 1) (M.put (keyL (S k)) (.lit (.int .i64 (Z k)))) := by
  refine ⟨h.isMap.put _ _, fun s => ?_, fun i hi z => ?_⟩
  · by_cases e : (S k).toList = s.toList
    · rw [← keyL_eq e, has_put_same h.isMap (show WideAt.IsKeyLit (keyL (S k)) from trivial)]
      exact ⟨fun _ => ⟨k, by omega, e⟩, fun _ => rfl⟩
    · rw [has_put_other (keyL_ne (fun e' => e e'.symm)), h.has s]
      constructor
      · rintro ⟨i, hi, he⟩; exact ⟨i, by omega, he⟩
      · rintro ⟨i, hi, he⟩
        by_cases e2 : i = k
        · subst e2; exact absurd he e
        · exact ⟨i, by omega, he⟩
  · by_cases e : i = k
    · subst e; exact atKey_put_same h.isMap (show WideAt.IsKeyLit (keyL (S i)) from trivial) _ _
    · rw [atKey_put_other (keyL_ne (hne i (by omega)))]; exact h.at_ i (by omega) z

/-- What is known within kidsByName. -/
structure KbIn (w : World) (d : Nd) (l : Loc) (M : DataW Unit) (k : Nat) (W : World) : Prop where
  d : Blk W w.heap.size #[.int .i64 d.kind, .string d.text, .slice l.nA d.nn l.nc, .slice l.kA d.kn l.kc, .int .i64 d.turn] 36
  own : W.ownsMap Try.prog 9 (plainElem Try.prog 3) (w.heap.size + 1) k M
  bel : Below w.heap.size w W

set_option maxHeartbeats 2000000 in
theorem kidsByName_any (d : Nd) (l : Loc) (w : World) (hI : NdIn w d l) (hf : d.Fits) (hk : d.kn = d.nn) (hinj : ∀ i j, i < d.nn → j < d.nn → (d.names i).toList = (d.names j).toList → i = j) :
    Calls Try.prog 40 #[ndV d l] w fun e w' => Below w.heap.size w w' ∧ ∃ b M, e = .returned (.map (some b)) ∧ w'.ownsMap Try.prog 9 (plainElem Try.prog 3) b d.nn M ∧ Kept d.names d.kids d.nn M := by
  have hnn := hf.nn
  have hkn := hf.kn
  have HK : Hid (d.kn = d.nn) := hk
  clear hk
  unfold maxLen at hnn hkn
  unfold ndV
  have hmm := run_makeMap_hint
  go_enter Try.func40, Try.ntmps40
  go_wp2
  go_loopw [13] (fun i wr => ∃ (k : Nat) (M : DataW Unit), k ≤ d.nn ∧ i = .int .i64 k ∧ KbIn w d l M k wr ∧ Kept d.names d.kids k M) (fun i _ => d.nn - (intOf i).toNat)
  case atStart =>
    have h1 := new1 w #[.int .i64 d.kind, .string d.text, .slice l.nA d.nn l.nc, .slice l.kA d.kn l.kc, .int .i64 d.turn] 36
    refine ⟨0, .map [], Nat.zero_le _, rfl, ⟨h1.b0.alloc _, ?_, h1.bel.alloc (by simp) _⟩, kept_start _ _⟩
    have := World.ownsMap_made (H := Unit) (w.alloc (.cells #[.int .i64 d.kind, .string d.text, .slice l.nA d.nn l.nc, .slice l.kA d.kn l.kc, .int .i64 d.turn] 36)) Try.prog 9 (plainElem Try.prog 3)
    rw [h1.size] at this
    exact this
  case round =>
    obtain ⟨k, M, hk', rfl, hin, hkept⟩ := hrel
    have d2 : wr.cell? ⟨w.heap.size, 2, none⟩ = some (.slice l.nA d.nn l.nc) := hin.d.cell 2
    have d3 : wr.cell? ⟨w.heap.size, 3, none⟩ = some (.slice l.kA d.kn l.kc) := hin.d.cell 3
    clear hmm
    by_cases hlt : k < d.nn
    · have hIr := hI.below (Nat.le_refl _) hin.bel
      obtain ⟨b, off, ha, hlt2, hc⟩ := hIr.1.at hlt
      obtain ⟨b', off', ha', hlt2', hc'⟩ := hIr.2.at (show k < d.kn by have := HK.out; omega)
      have h1 := hc k hlt
      have h2 := hc' k (by have := HK.out; omega)
      rw [ha] at d2
      rw [ha'] at d3
      rw [ha, ha']
      have hlti : (k : Int) < (d.nn : Int) := by omega
      have hltk : (k : Int) < (d.kn : Int) := by have := HK.out; omega
      have hkey : keyOf Try.prog 9 (.string (d.names k)) = some (keyL (d.names k)) := keyOf_string_mk Try.underlying9 (hf.names k hlt)
      have hwf : (Lit.int .i64 (d.kids k)).wf = true := by
        have := hf.kids k (by have := HK.out; omega)
        unfold In64 at this
        exact WalkArith.wf_i64 (by omega)
      have hown := hin.own
      have HIN : Hid (KbIn w d l M k wr ∧ Kept d.names d.kids k M) := ⟨hin, hkept⟩
      clear hc hc' hIr hin hkept
      go_wp2_with (at_mapUpdate; refine wpList_mapUpdate_own _ rfl _ _ _ 58 rfl 9 3 law Try.underlying58 _ (w.heap.size + 1) k _ rfl hown (by unfold maxLen; omega) _ _ _ rfl rfl hkey _ [] (plainElem_int Try.underlying3 hwf) ?_)
      intro w1 hown1 hgrow1
      have HN : Hid (KbIn w d l (M.put (keyL (d.names k)) (.lit (.int .i64 (d.kids k)))) (k + 1) w1 ∧ Kept d.names d.kids (k + 1) (M.put (keyL (d.names k)) (.lit (.int .i64 (d.kids k))))) :=
        ⟨⟨HIN.out.1.d.of_block (hgrow1.block _ HIN.out.1.d.lt (by simp)), hown1, HIN.out.1.bel.grown hgrow1 (by have := HIN.out.1.d.lt; omega) (fun g hg => by cases hg; omega)⟩, HIN.out.2.step (fun i hi e => by have := hinj i k (by omega) hlt e; omega)⟩
      clear hown1 hgrow1 hown d2 d3 h1 h2
      go_wp2
      go_roundw
      case rel => exact ⟨k + 1, _, by omega, by go_num, HN.out.1, HN.out.2⟩
      case measure => simp [intOf]; omega
    · have hke : k = d.nn := by omega
      have HIN : Hid (KbIn w d l M d.nn wr ∧ Kept d.names d.kids d.nn M) := ⟨hke ▸ hin, hke ▸ hkept⟩
      clear hke hin hkept
      go_wp2
      go_ret
      exact ⟨HIN.out.1.bel, _, M, rfl, HIN.out.1.own, HIN.out.2⟩
end Go.Proofs.Ytgijhkcnbmcenab
