/-
  For every text, FnExactPathRead answers true: PathRead of the program answers as PathRead of the specification, its answer owns its memory, also behind another call, and the text reads afterwards as it read before. No condition.
-/
import Derived.Test.YtgijhkcnbmcenarRows
import Derived.Test.YtgijhkcnbmcenarPathReadSpec
import Derived.Test.YtgijhkcnbmcenarPathReadImpl
import Derived.Test.YtgijhkcnbmcenarMark
import Derived.Test.YtgijhkcnbmcenarStrs
import Derived.ProofKit
import Derived.OpenShut
import Derived.ShutString
namespace Go.Proofs.Ytgijhkcnbmcenar.fnExactPathRead
open Go.ChangeShapes Go.WideShapes Go.ChangeAt Go.RowKit
open Go.ChangeMaps (open_string shut_string)
set_option linter.unusedVariables false

theorem prefix_yes {l : List UInt8} (h : Lib.hasPrefix l [47] = true) : l.head? = some 47 := by
  unfold Lib.hasPrefix at h
  cases l with
  | nil => simp at h
  | cons c r => simp at h ⊢; exact h.symm
theorem prefix_no {l : List UInt8} (h : Lib.hasPrefix l [47] = false) : l.head? ≠ some 47 := by
  unfold Lib.hasPrefix at h
  cases l with
  | nil => simp
  | cons c r => intro e; simp at e; subst e; simp [List.isPrefixOf] at h

/-- The list that is handed back lies in a row of the call's own. -/
def Own (w w' : World) (a : Option Addr) (n : Nat) (S : Nat → ByteArray) : Prop := n = 0 ∨ ∃ g, a = some ⟨g, 0, none⟩ ∧ w.heap.size ≤ g ∧ Row w' g n S

theorem own_row {w : World} {B : Nat} {v : Value} {L : List ByteArray} (h : w.ownsRow B 9 1 v L.length (L.map Value.string)) :
    ∃ a c, v = .slice a L.length c ∧ IsStrs w a L.length (fun i => L.getD i ByteArray.empty) ∧ (L.length = 0 ∨ ∃ g, a = some ⟨g, 0, none⟩ ∧ B ≤ g ∧ Row w g L.length (fun i => L.getD i ByteArray.empty)) := by
  obtain ⟨h1, h2⟩ := h
  rcases h2 with ⟨rfl, h0⟩ | ⟨g, cap, cur, rfl, hb, hblk, hn, hm, hsz, htake⟩
  · exact ⟨none, 0, by rw [h0], Or.inl h0, Or.inl h0⟩
  · have hglt : g < w.heap.size := (Array.getElem?_eq_some_iff.1 hblk).1
    have hcell : ∀ i, i < L.length → w.cell? ⟨g, 0 + i, none⟩ = some (.string (L.getD i ByteArray.empty)) := fun i hi => by
      have hi2 : (L.map Value.string)[i]? = some (.string (L.getD i ByteArray.empty)) := by simp [hi]
      rw [← htake, Nat.mul_one, List.getElem?_take_of_lt hi] at hi2
      simp only [World.cell?, hblk]
      simpa using hi2
    exact ⟨_, cap, rfl, Or.inr ⟨g, 0, rfl, hglt, hcell⟩, Or.inr ⟨g, rfl, hb, hglt, hcell, fun i hi => by simp [World.frozen?, hblk]⟩⟩

theorem implPathRead_any (s : ByteArray) (w : World) (hs : s.size ≤ 1048576) :
    Calls Try.prog 19 #[.string s] w fun e w' => ∃ a n c S, Handed w w' e a n c S (readOf (bytes s)) ∧ Own w w' a n S := by
  cases hp : Lib.hasPrefix s.data.toList [47]
  · refine (implPathRead_not s w hs hp).mono ?_
    rintro e w' ⟨he, hb⟩
    have hh := prefix_no hp
    have hrd : readOf (bytes s) = none := read_none (fun e => hh (by change (bytes s).head? = _; rw [e]; rfl)) (Or.inl hh)
    obtain ⟨a, n, c, S, H⟩ := handed_none (l := bytes s) he hrd hb
    exact ⟨a, n, c, S, H, Or.inl (by rw [H.len, hrd]; rfl)⟩
  · cases hr : (s.toList == [47])
    · have hh := prefix_yes hp
      have h1 : 1 ≤ s.size := by
        have := bytes_len s
        cases hb : bytes s with
        | nil => change (bytes s).head? = _ at hh; rw [hb] at hh; simp at hh
        | cons c r => rw [hb] at this; simp at this; omega
      refine (implPathRead_way s w hs hp hr h1).mono ?_
      rintro e w' ⟨v, ok, L, he, hok, hrow, hL, hb⟩
      rw [tail_bytes] at hok hL
      obtain ⟨a, c, rfl, hst, hown⟩ := own_row hrow
      cases ok with
      | false =>
        rw [if_neg (by simp)] at hL
        have hL0 : L = [] := by simpa using hL
        subst hL0
        have hrd : readOf (bytes s) = none := read_none (not_slash hr) (Or.inr hok.symm)
        exact ⟨a, 0, c, _, ⟨by rw [hrd]; exact he, by rw [hrd]; rfl, by omega, fun i hi => by omega, hst, hb⟩, hown⟩
      | true =>
        rw [if_pos rfl] at hL
        have hrd : readOf (bytes s) = some (L.map bytes) := by rw [hL]; exact read_some (not_slash hr) hh hok.symm
        have h5 : L.length ≤ 5 := by have := okCut_len hok.symm; rw [← hL, List.length_map] at this; exact this
        exact ⟨a, L.length, c, _, ⟨by rw [hrd]; exact he, by rw [hrd]; simp, h5, fun i hi => by rw [hrd]; simp [hi], hst, hb⟩, hown⟩
    · refine (implPathRead_root s w hs hp hr).mono ?_
      rintro e w' ⟨he, hb⟩
      have hrd : readOf (bytes s) = some [] := read_slash (is_slash hr)
      exact ⟨none, 0, 0, fun _ => ByteArray.empty, ⟨by rw [hrd]; exact he, by rw [hrd]; rfl, by omega, fun i hi => by omega, Or.inl rfl, hb⟩, Or.inl rfl⟩

set_option maxHeartbeats 400000 in
theorem markStringS_nil (a : Option Addr) (c k : Nat) (w : World) :
    Calls Try.prog 20 #[.slice a 0 c, .int .i64 k] w fun e w' => e = .returned (.int .i64 ((k + 0 : Nat) : Int)) ∧ w = w' := by
  go_enter Try.func20, Try.ntmps20
  go_wp2
  refine wp_loop_rounds 1 ?_
  rw [rounds_succ]
  go_wp2
  go_ret
  exact ⟨rfl, rfl⟩

/-- The marking of a list of the call's own. -/
theorem mark_own {w w1 : World} {a : Option Addr} {n c : Nat} {S : Nat → ByteArray} (h : Own w w1 a n S) (hn : n ≤ 5) (hw : w.heap.size ≤ w1.heap.size) :
    Calls Try.prog 20 #[.slice a n c, .int .i64 1] w1 fun e w' => e = .returned (.int .i64 ((1 + n : Nat) : Int)) ∧ Below w.heap.size w1 w' ∧ IsStrs w' a n (marks 1) := by
  rcases h with rfl | ⟨g, rfl, hg, hrow⟩
  · exact (markStringS_nil a c 1 w1).mono fun e w' ⟨he, hw'⟩ => ⟨he, by rw [← hw']; exact Below.refl _ _, Or.inl rfl⟩
  · exact (markStringS_any g n c 1 w.heap.size S w1 hrow hg (by omega) (by omega) (by omega)).mono fun e w' ⟨he, hb, hr⟩ => ⟨he, hb, Or.inr ⟨g, 0, rfl, hr.lt, hr.cell⟩⟩

theorem same_texts {w w' v v' : World} {e e' : Ending} {a a' : Option Addr} {n c n' c' : Nat} {S S' : Nat → ByteArray} {R : Option (List (List UInt8))} (h : Handed w w' e a n c S R) (h' : Handed v v' e' a' n' c' S' R) : n = n' ∧ ∀ i, i < n → S i = S' i := by
  have hn : n = n' := by rw [h.len, h'.len]
  refine ⟨hn, fun i hi => ?_⟩
  have e1 := h.txt i hi
  have e2 := h'.txt i (by omega)
  have e3 : (S i).data.toList = (S' i).data.toList := by change bytes (S i) = bytes (S' i); rw [e1, e2]
  exact ByteArray.ext (Array.toList_inj.1 e3)

theorem ret_true : Ending.returned (.bool true) = .returned (.bool true) := rfl

set_option maxHeartbeats 2000000 in
theorem walk (a0 : ByteArray) (w0 : a0.size ≤ maxLen) (w : World) :
    Calls Try.prog 6 #[.string a0] w fun e w' => e = .returned (.bool true) ∧ Below w.heap.size w w' := by
  unfold maxLen at w0
  by_cases hbig : (1048576 : Int) < a0.size
  · go_enter Try.func6, Try.ntmps6
    go_wp2
    go_ret
    exact ⟨rfl, Below.refl _ _⟩
  · have hs : a0.size ≤ 1048576 := by omega
    have hbd : decide ((1048576 : Int) < a0.size) = false := by simp; omega
    go_enter Try.func6, Try.ntmps6
    go_wp2_with fail
    refine (specPathRead_any a0 w hs).mono ?_
    rintro e w1 ⟨a, n, c, S, H1⟩
    obtain rfl := H1.ret
    have HH1 : Hid _ := H1
    clear H1
    go_wp2_with fail
    refine (implPathRead_any a0 w1 hs).mono ?_
    rintro e w2 ⟨a', n', c', S', H2, O2⟩
    obtain rfl := H2.ret
    obtain ⟨hnn, htx⟩ := same_texts H2 HH1.out
    subst hnn
    have HH2 : Hid _ := H2
    have HO2 : Hid _ := O2
    have HT : Hid (∀ i, i < n' → S' i = S i) := htx
    have n5 : n' ≤ 5 := HH2.out.few
    have nm : n' ≤ maxLen := by unfold maxLen; omega
    clear H2 O2 htx
    have hst1 : IsStrs w2 a n' S := HH1.out.strs.below (Nat.le_refl _) HH2.out.below
    go_wp2_with fail
    refine (eqStringS_any a' a n' c' n' c S' S _ HH2.out.strs hst1 nm nm).mono ?_
    rintro e w3 ⟨⟨q3, rfl⟩, rfl⟩
    rw [eqS_self n' S' S HT.out]
    have B3 : Below w2.heap.size w2 (w2.drewN q3) := below_drewN (Below.refl _ _) _
    have O3 : Own w1 (w2.drewN q3) a' n' S' := by
      rcases HO2.out with h | ⟨g, hg, hge, hr⟩
      · exact Or.inl h
      · exact Or.inr ⟨g, hg, hge, hr.below B3⟩
    have B13 : Below w1.heap.size w1 (w2.drewN q3) := HH2.out.below.trans (B3.mono HH2.out.below.size)
    generalize w2.drewN q3 = w3 at O3 B13 ⊢
    clear B3 hst1 HO2 HH2
    have hd1 : ∀ b : Bool, (b != b) = false := fun b => by cases b <;> rfl
    go_wp2_with fail
    refine (mark_own (c := c') O3 n5 B13.size).mono ?_
    rintro e w4 ⟨rfl, hb4, hm4⟩
    have B14 : Below w1.heap.size w1 w4 := B13.trans hb4
    clear hb4 O3 B13
    go_wp2_with fail
    refine (heldStringS_any a' n' c' 1 _ hm4 (by omega) (by omega) (by omega)).mono ?_
    rintro e w5 ⟨rfl, hb5⟩
    have B15 : Below w1.heap.size w1 w5 := B14.trans (hb5.mono B14.size)
    have hm5 := hm4.below (Nat.le_refl _) hb5
    clear hb5 hm4 B14
    go_wp2_with fail
    refine (implPathRead_any a0 w5 hs).mono ?_
    rintro e w6 ⟨a6, n6, c6, S6, H6, O6⟩
    obtain rfl := H6.ret
    obtain ⟨hn6, ht6⟩ := same_texts H6 HH1.out
    subst hn6
    have B16 : Below w1.heap.size w1 w6 := B15.trans (H6.below.mono B15.size)
    have hm6 := hm5.below (Nat.le_refl _) H6.below
    have hst6 : IsStrs w6 a n6 S := HH1.out.strs.below (Nat.le_refl _) B16
    have hs6 := H6.strs
    clear hm5 O6 B15 H6
    go_wp2_with fail
    refine (eqStringS_any a6 a n6 c6 n6 c S6 S _ hs6 hst6 nm nm).mono ?_
    rintro e w7 ⟨⟨q7, rfl⟩, rfl⟩
    rw [eqS_self n6 S6 S ht6]
    have B7 : Below w6.heap.size w6 (w6.drewN q7) := below_drewN (Below.refl _ _) _
    have B17 : Below w1.heap.size w1 (w6.drewN q7) := B16.trans (B7.mono B16.size)
    have hm7 := hm6.below (Nat.le_refl _) B7
    generalize w6.drewN q7 = w7 at B17 hm7 ⊢
    clear B7 hm6 hst6 hs6 B16 ht6
    go_wp2_with fail
    refine (heldStringS_any a' n6 c' 1 _ hm7 (by omega) (by omega) (by omega)).mono ?_
    rintro e w8 ⟨rfl, hb8⟩
    have B18 : Below w1.heap.size w1 w8 := B17.trans (hb8.mono B17.size)
    have HF : Hid (Below w.heap.size w w8) := HH1.out.below.trans (B18.mono HH1.out.below.size)
    clear hb8 B17 B18 hm7 HH1
    go_wp2
    go_ret
    exact ⟨rfl, HF.out⟩
theorem own : ownKnob Try.prog.godebug = none := by kernel_rfl

set_option maxRecDepth 100000 in
theorem lifted (os : Os) (started : os.Started) (H : Type) (enc : TypeId × Value → H) :
    ReturnsInHanded {} Try.checked os 6 .any (Rows.fnExactPathReadSpec.pre6 enc Try.prog Try.f6 Rows.fnExactPathReadRow.domain false) (Rows.fnExactPathReadSpec.post enc Try.prog Try.f6 false true false false) := by
  refine returnsInHanded_of_change (C := Try.checked) own started (by kernel_rfl) Try.func6
    (ChangeSpec.witness6 (enc := enc) (C := Try.checked) false ⟨#[], #[.string ByteArray.empty], []⟩ 8 (by kernel_rfl) (by kernel_rfl) (by kernel_rfl) (by kernel_rfl)) ?_
  intro W base args ds gs before hval0 hW hcnd _
  have hval : ∀ (j : Nat) t v, Try.f6.params[j]? = some t → args[j]? = some v → Value.okWide Try.prog W .any base t v := hval0
  have hW' := hW
  obtain ⟨p, q, hA0, hV, rfl, hfz, hnd⟩ := hW
  have hA : DataW.TrodAll enc Try.prog W 0 (fun _ => true) true Try.f6.params.toList args.toList ds p := hA0
  rw [Try.params6] at hA hval
  obtain ⟨v0, vs0, d0, ds0, p0, q0, hargs, rfl, rfl, h0, r0⟩ := trodAll_cons hA
  obtain ⟨rfl, rfl, rfl⟩ := trodAll_nil r0
  obtain rfl : args = #[v0] := by cases args; simp_all
  obtain ⟨rfl, rfl⟩ := trodVars_none hV
  obtain ⟨a0, rfl, rfl, rfl, w0⟩ := open_string Try.underlying9 (hval 0 9 v0 rfl rfl) h0
  clear hA0 hval0
  simp only [List.append_nil] at hW'
  refine (walk a0 w0 W).mono fun e W' ⟨he, bel⟩ => ?_
  subst he
  exact ⟨_, rfl, _, _, _, [], _, [], hW', trodAll_mk1 (shut_bool Try.underlying4 _), (trodAll_cons_mk (shut_string Try.underlying9 w0) trodAll_mk0), rfl, bel.frame _, fun h => by cases h⟩

theorem over : Rows.fnExactPathReadRow.holds Try.pinned (OpenSpec.ofChange Rows.fnExactPathReadSpec) :=
  OpenClaim.holds_of_wide 6 Try.f6 rfl rfl rfl rfl rfl rfl rfl ⟨rfl, rfl, rfl, rfl, rfl⟩ rfl rfl rfl rfl rfl (by kernel_rfl) Try.func6 (by kernel_rfl)
    (of_decide_eq_true (by kernel_rfl)) (by unfold Func.isWrapper; first | (rw [if_pos (by decide +kernel)]; kernel_rfl) | (rw [if_neg (by decide +kernel)]; exact ⟨rfl, rfl⟩))
    (fun os started H enc _ => lifted os started H enc)

end Go.Proofs.Ytgijhkcnbmcenar.fnExactPathRead

namespace Go.Proofs.Ytgijhkcnbmcenar
theorem fnExactPathRead_holds : Rows.FnExactPathReadSaid := fnExactPathRead.over
end Go.Proofs.Ytgijhkcnbmcenar
