/-
  Texts that the proof needs, laid one behind the other.
-/
import Derived.Test.YtokalajliphcdaaExBookChainB1
import Derived.WalkSmall
import Derived.Laws.AppendOwn
import Derived.OwnWalk
import Derived.Maps.AppendAt
import Derived.Laws.OwnMore
import Derived.Laws.Cover1

/-
  A statement whose order is drawn, walked operation by operation: what is known of what has come up is kept by whatever comes next. Plain laws.
-/
namespace Go.Proofs.Ytokalajliphcdaa
open Go.RowKit
set_option linter.unusedVariables false

section
variable {P : Program} {md : Region.Mode} {Q : Exit → Act → World → Prop} {ops : Array Oper}

/-- One more has come up. -/
def lset (L : Nat → Bool) (i : Nat) : Nat → Bool := fun j => j == i || L j

theorem lset_same (L : Nat → Bool) (i : Nat) : lset L i i = true := by simp [lset]
theorem lset_ne (L : Nat → Bool) {i j : Nat} (h : j ≠ i) : lset L i j = L j := by simp [lset, h]

theorem count_set_true : ∀ (l : List Bool) (i : Nat), l[i]? = some false → (l.set i true).count false + 1 = l.count false
  | [], i, h => by simp at h
  | b :: l, 0, h => by simp at h; subst h; simp
  | b :: l, i + 1, h => by
    have := count_set_true l i (by simpa using h)
    cases b <;> simp <;> omega

theorem ready_listed {listed : Array Bool} {i : Nat} (h : i ∈ Region.ready md ops listed) : listed.toList[i]? = some false := by
  obtain ⟨h0, _⟩ := mem_ready.1 h
  rcases Nat.lt_or_ge i listed.size with hi | hi
  · rw [getD_both hi] at h0
    simp [hi, h0]
  · simp [Array.getD, Nat.not_lt.2 hi] at h0

theorem wpAny_inv (hlt : ∀ (j : Nat) (oj : Oper), ops[j]? = some oj → ∀ e ∈ oj.after, Region.binds md e = true → e.on < j) (I : (Nat → Bool) → Act → World → Prop)
    (step : ∀ (i : Nat) (o : Oper), ops[i]? = some o → ∀ L a w, L i = false → (∀ e ∈ o.after, Region.binds md e = true → L e.on = true) → I L a w → ∀ K : Act → World → Prop, (∀ a' w', I (lset L i) a' w' → K a' w') →
      if Region.wanted o (yielded ops a.tmps) = true then Oper.wp P o a w K Q else K (a.put o.dst undef) w)
    (fin : ∀ L a w, (∀ i, i < ops.size → L i = true) → I L a w → Q .normal a w) :
    ∀ (fuel : Nat) (listed : Array Bool) (a : Act) (w : World), listed.size = ops.size → listed.toList.count false ≤ fuel → I (fun j => listed.getD j false) a w → wpAny P md ops Q fuel listed a w := by
  have hfin : ∀ (listed : Array Bool) (a : Act) (w : World), listed.size = ops.size → I (fun j => listed.getD j false) a w → Region.ready md ops listed = [] → Q .normal a w := fun listed a w hs hI hr => by
    refine fin _ a w ?_ hI
    intro j
    induction j using Nat.strongRecOn with
    | _ j ih =>
      intro hj
      show listed.getD j false = true
      cases hb : listed.getD j false with
      | true => rfl
      | false =>
        exfalso
        have hjl : j < listed.size := by rw [hs]; exact hj
        have : j ∈ Region.ready md ops listed := mem_ready.2 ⟨by rw [getD_both hjl] at hb ⊢; exact hb, ops[j], by simp [hj], fun e he hbn => ih e.on (hlt j ops[j] (by simp [hj]) e he hbn) (Nat.lt_trans (hlt j ops[j] (by simp [hj]) e he hbn) hj)⟩
        rw [hr] at this
        cases this
  intro fuel
  induction fuel with
  | zero =>
    intro listed a w hs hc hI
    have hr : Region.ready md ops listed = [] := by
      rw [List.eq_nil_iff_forall_not_mem]
      intro i hi
      have h1 := List.mem_of_getElem? (ready_listed hi)
      have h2 := List.count_pos_iff.2 h1
      omega
    exact ⟨hr, hfin listed a w hs hI hr⟩
  | succ fuel ih =>
    intro listed a w hs hc hI
    refine ⟨hfin listed a w hs hI, fun i hi => ?_⟩
    obtain ⟨h0, o, ho, hall⟩ := mem_ready.1 hi
    have hil : i < ops.size := (Array.getElem?_eq_some_iff.1 ho).1
    have hill : i < listed.size := by omega
    have h0' : listed.getD i false = false := by rw [getD_both hill] at h0 ⊢; exact h0
    have hst := step i o ho (fun j => listed.getD j false) a w h0' hall hI (wpAny P md ops Q fuel (listed.setIfInBounds i true)) (fun a' w' hI' => ih _ a' w' (by simp [hs]) (by
      have := count_set_true listed.toList i (ready_listed hi)
      rw [Array.toList_setIfInBounds]
      omega) (by
      have e : (fun j => (listed.setIfInBounds i true).getD j false) = lset (fun j => listed.getD j false) i := by
        funext j
        by_cases hj : j = i
        · subst hj; rw [lset_same]; simp [hill]
        · rw [lset_ne _ hj]; simp [Ne.symm hj]
      rw [e]; exact hI'))
    unfold wpOp
    simp only [ho]
    split
    · rename_i hw; rw [if_pos hw] at hst; exact Or.inl hst
    · rename_i hw; rw [if_neg hw] at hst; exact hst
theorem wpAnyH_inv {S : World → Prop} (hlt : ∀ (j : Nat) (oj : Oper), ops[j]? = some oj → ∀ e ∈ oj.after, Region.binds md e = true → e.on < j) (I : (Nat → Bool) → Act → World → Prop)
    (hS : ∀ L a w, I L a w → S w)
    (step : ∀ (i : Nat) (o : Oper), ops[i]? = some o → ∀ L a w, L i = false → (∀ e ∈ o.after, Region.binds md e = true → L e.on = true) → I L a w → ∀ K : Act → World → Prop, (∀ a' w', I (lset L i) a' w' → K a' w') →
      if Region.wanted o (yielded ops a.tmps) = true then Oper.wp P o a w K Q else K (a.put o.dst undef) w)
    (fin : ∀ L a w, (∀ i, i < ops.size → L i = true) → I L a w → Q .normal a w) :
    ∀ (fuel : Nat) (listed : Array Bool) (a : Act) (w : World), listed.size = ops.size → listed.toList.count false ≤ fuel → I (fun j => listed.getD j false) a w → wpAnyH P md ops Q S fuel listed a w := by
  have hfin : ∀ (listed : Array Bool) (a : Act) (w : World), listed.size = ops.size → I (fun j => listed.getD j false) a w → Region.ready md ops listed = [] → Q .normal a w := fun listed a w hs hI hr => by
    refine fin _ a w ?_ hI
    intro j
    induction j using Nat.strongRecOn with
    | _ j ih =>
      intro hj
      show listed.getD j false = true
      cases hb : listed.getD j false with
      | true => rfl
      | false =>
        exfalso
        have hjl : j < listed.size := by rw [hs]; exact hj
        have : j ∈ Region.ready md ops listed := mem_ready.2 ⟨by rw [getD_both hjl] at hb ⊢; exact hb, ops[j], by simp [hj], fun e he hbn => ih e.on (hlt j ops[j] (by simp [hj]) e he hbn) (Nat.lt_trans (hlt j ops[j] (by simp [hj]) e he hbn) hj)⟩
        rw [hr] at this
        cases this
  intro fuel
  induction fuel with
  | zero =>
    intro listed a w hs hc hI
    have hr : Region.ready md ops listed = [] := by
      rw [List.eq_nil_iff_forall_not_mem]
      intro i hi
      have h1 := List.mem_of_getElem? (ready_listed hi)
      have h2 := List.count_pos_iff.2 h1
      omega
    exact ⟨hr, hfin listed a w hs hI hr⟩
  | succ fuel ih =>
    intro listed a w hs hc hI
    refine ⟨hfin listed a w hs hI, fun i hi => ?_⟩
    obtain ⟨h0, o, ho, hall⟩ := mem_ready.1 hi
    have hil : i < ops.size := (Array.getElem?_eq_some_iff.1 ho).1
    have hill : i < listed.size := by omega
    have h0' : listed.getD i false = false := by rw [getD_both hill] at h0 ⊢; exact h0
    have hst := step i o ho (fun j => listed.getD j false) a w h0' hall hI (fun a' w' => S w' ∧ wpAnyH P md ops Q S fuel (listed.setIfInBounds i true) a' w') (fun a' w' hI' => ⟨hS _ _ _ hI', ih _ a' w' (by simp [hs]) (by
      have := count_set_true listed.toList i (ready_listed hi)
      rw [Array.toList_setIfInBounds]
      omega) (by
      have e : (fun j => (listed.setIfInBounds i true).getD j false) = lset (fun j => listed.getD j false) i := by
        funext j
        by_cases hj : j = i
        · subst hj; rw [lset_same]; simp [hill]
        · rw [lset_ne _ hj]; simp [Ne.symm hj]
      rw [e]; exact hI')⟩)
    unfold wpOp
    simp only [ho]
    split
    · rename_i hw; rw [if_pos hw] at hst; exact Or.inl hst
    · rename_i hw; rw [if_neg hw] at hst; exact hst
end

/-- The places ds of a frame hold these values. -/
def upd (a : Act) (ds : List Nat) (v : Nat → Value) : Act := { a with tmps := ds.foldl (fun t d => t.setIfInBounds d (v d)) a.tmps }

theorem upd_size (ds : List Nat) (v : Nat → Value) : ∀ t : Array Value, (ds.foldl (fun t d => t.setIfInBounds d (v d)) t).size = t.size := by
  induction ds with
  | nil => intro t; rfl
  | cons d ds ih => intro t; rw [List.foldl_cons, ih]; simp

theorem upd_get (ds : List Nat) (v : Nat → Value) : ∀ (t : Array Value) (j : Nat), (ds.foldl (fun t d => t.setIfInBounds d (v d)) t)[j]? = if j ∈ ds ∧ j < t.size then some (v j) else t[j]? := by
  induction ds with
  | nil => intro t j; simp
  | cons d ds ih =>
    intro t j
    rw [List.foldl_cons, ih, Array.size_setIfInBounds, Array.getElem?_setIfInBounds]
    by_cases hj : j < t.size
    · by_cases h1 : j ∈ ds
      · simp [h1, hj]
      · by_cases h2 : j = d
        · subst h2; simp [h1, hj]
        · simp [h1, h2, Ne.symm h2]
    · have hn : t[j]? = none := Array.getElem?_eq_none (by omega)
      by_cases h2 : d = j
      · subst h2; simp [hj]
      · simp [hj, h2]

/-- One of them is put. -/
def vset (v : Nat → Value) (d : Nat) (x : Value) : Nat → Value := fun j => if j = d then x else v j

theorem vset_same (v : Nat → Value) (d : Nat) (x : Value) : vset v d x d = x := by simp [vset]
theorem vset_ne (v : Nat → Value) {d j : Nat} (x : Value) (h : j ≠ d) : vset v d x j = v j := by simp [vset, h]

theorem upd_put (a : Act) (ds : List Nat) (v : Nat → Value) (d : Nat) (x : Value) (hd : d ∈ ds) : (upd a ds v).put (some d) x = upd a ds (vset v d x) := by
  unfold upd Act.put
  simp only [Act.mk.injEq, and_true]
  apply Array.ext_getElem?
  intro j
  rw [Array.getElem?_setIfInBounds, upd_get, upd_get, upd_size]
  by_cases hj : j < a.tmps.size
  · by_cases h : d = j
    · subst h; simp [hj, hd, vset]
    · simp [h, Ne.symm h, vset]
  · have hn : a.tmps[j]? = none := Array.getElem?_eq_none (by omega)
    by_cases h : d = j
    · subst h; simp [hj]
    · simp [hj, h]

theorem upd_eval_in (a : Act) (ds : List Nat) (v : Nat → Value) (t : Nat) (ht : t ∈ ds) (hs : t < a.tmps.size) : (upd a ds v).eval (.tmp t) = v t := by
  have := upd_get ds v a.tmps t
  rw [if_pos ⟨ht, hs⟩] at this
  unfold upd Act.eval
  simp [Array.getD_eq_getD_getElem?, this]

theorem upd_eval_out (a : Act) (ds : List Nat) (v : Nat → Value) (t : Nat) (ht : t ∉ ds) : (upd a ds v).eval (.tmp t) = a.eval (.tmp t) := by
  have := upd_get ds v a.tmps t
  rw [if_neg (fun h => ht h.1)] at this
  unfold upd Act.eval
  simp only [Array.getD_eq_getD_getElem?]
  rw [this]

theorem upd_self (a : Act) (ds : List Nat) : upd a ds (fun j => a.tmps.getD j undef) = a := by
  unfold upd
  cases a with | mk t d => ?_
  simp only [Act.mk.injEq, and_true]
  apply Array.ext_getElem?
  intro j
  rw [upd_get]
  split
  · rename_i h; simp [h.2]
  · rfl

section
variable {P : Program} {Q : Exit → Act → World → Prop}

/-- Each operation of a list keeps what is known. -/
def StepsAll (P : Program) (ops : Array Oper) (Q : Exit → Act → World → Prop) (a0 : Act) (ds : List Nat) (J : (Nat → Bool) → (Nat → Value) → World → Prop) : List Oper → Nat → Prop
  | [], _ => True
  | o :: l, k => (∀ (L : Nat → Bool) (v : Nat → Value) (w : World), L k = false → (∀ e ∈ o.after.toList, Region.binds .any e = true → L e.on = true) → J L v w → ∀ K : Act → World → Prop,
      (∀ a' v' w', a' = upd a0 ds v' → J (lset L k) v' w' → K a' w') → if Region.wanted o (yielded ops (upd a0 ds v).tmps) = true then Oper.wp P o (upd a0 ds v) w K Q else K ((upd a0 ds v).put o.dst undef) w) ∧ StepsAll P ops Q a0 ds J l (k + 1)

theorem StepsAll.get {ops : Array Oper} {a0 : Act} {ds : List Nat} {J : (Nat → Bool) → (Nat → Value) → World → Prop} : ∀ {l : List Oper} {k : Nat}, StepsAll P ops Q a0 ds J l k → ∀ (i : Nat) (o : Oper), l[i]? = some o →
    (∀ (L : Nat → Bool) (v : Nat → Value) (w : World), L (k + i) = false → (∀ e ∈ o.after.toList, Region.binds .any e = true → L e.on = true) → J L v w → ∀ K : Act → World → Prop,
      (∀ a' v' w', a' = upd a0 ds v' → J (lset L (k + i)) v' w' → K a' w') → if Region.wanted o (yielded ops (upd a0 ds v).tmps) = true then Oper.wp P o (upd a0 ds v) w K Q else K ((upd a0 ds v).put o.dst undef) w)
  | [], _, _, i, o, h => by simp at h
  | o' :: l, k, hs, 0, o, h => by simp at h; subst h; exact hs.1
  | o' :: l, k, hs, i + 1, o, h => by
    have := hs.2.get i o (by simpa using h)
    rw [show k + 1 + i = k + (i + 1) by omega] at this
    exact this

/-- Every operation waits for earlier ones alone. -/
def laterB (ops : Array Oper) : Bool := (List.range ops.size).all fun j => match ops[j]? with | some oj => oj.after.all (fun e => !Region.binds .any e || decide (e.on < j)) | none => true

theorem laterB_spec {ops : Array Oper} (h : laterB ops = true) : ∀ (j : Nat) (oj : Oper), ops[j]? = some oj → ∀ e ∈ oj.after, Region.binds .any e = true → e.on < j := fun j oj hj e he hb => by
  have hlt : j < ops.size := (Array.getElem?_eq_some_iff.1 hj).1
  unfold laterB at h
  have := List.all_eq_true.1 h j (by simpa using hlt)
  rw [hj] at this
  simp only [Array.all_eq_true_iff_forall_mem, Bool.or_eq_true, Bool.not_eq_true', decide_eq_true_eq] at this
  exact (this e he).resolve_left (by simp [hb])

theorem wp_region_inv {id : Nat} {l : List Oper} {a0 : Act} {w : World} (ds : List Nat) (J : (Nat → Bool) → (Nat → Value) → World → Prop) (hm : P.follows .mixedOrders = true) (hB : laterB l.toArray = true)
    (h0 : ∀ v, J (fun _ => false) v w.drew) (hs : StepsAll P l.toArray Q a0 ds J l 0) (fin : ∀ L v w', (∀ i, i < l.length → L i = true) → J L v w' → Q .normal (upd a0 ds v) w') : (Code.region id l.toArray true).wp P Q a0 w := by
  refine wp_region_any hm ?_
  refine wpAny_inv (laterB_spec hB) (fun L a w' => ∃ v, a = upd a0 ds v ∧ J L v w') ?_ ?_ _ _ _ _ (by simp) (by simp) ⟨fun j => a0.tmps.getD j undef, (upd_self a0 ds).symm, ?_⟩
  · rintro i o ho L a w' hi hd ⟨v, rfl, hJ⟩ K hK
    have := hs.get i o (by simpa using ho) L v w' (by simpa using hi) (fun e he hb => hd e (by simpa using he) hb) hJ K (fun a' v' w'' e h => hK a' w'' ⟨v', e, by simpa using h⟩)
    exact this
  · rintro L a w' hL ⟨v, rfl, hJ⟩
    exact fin L v w' (fun i hi => hL i (by simpa using hi)) hJ
  · have e : (fun j => (Array.replicate l.toArray.size false).getD j false) = fun _ => false := by funext j; simp [Array.getD]
    rw [e]; exact h0 _

/-- .. behind operations that were taken first. -/
theorem wpAnyH_vals {S : World → Prop} {l : List Oper} {a0 : Act} {w : World} {fuel : Nat} {listed : Array Bool} (ds : List Nat) (J : (Nat → Bool) → (Nat → Value) → World → Prop) (hB : laterB l.toArray = true) (hn : listed.size = l.length) (hc : listed.toList.count false ≤ fuel)
    (h0 : ∀ v, J (fun j => listed.getD j false) v w) (hS : ∀ L v w, J L v w → S w) (hs : StepsAll P l.toArray Q a0 ds J l 0) (fin : ∀ L v w', (∀ i, i < l.length → L i = true) → J L v w' → Q .normal (upd a0 ds v) w') : wpAnyH P .any l.toArray Q S fuel listed a0 w := by
  refine wpAnyH_inv (laterB_spec hB) (fun L a w' => ∃ v, a = upd a0 ds v ∧ J L v w') (fun L a w' ⟨v, _, h⟩ => hS L v w' h) ?_ ?_ _ _ _ _ (by simpa using hn) hc ⟨fun j => a0.tmps.getD j undef, (upd_self a0 ds).symm, h0 _⟩
  · rintro i o ho L a w' hi hd ⟨v, rfl, hJ⟩ K hK
    have := hs.get i o (by simpa using ho) L v w' (by simpa using hi) (fun e he hb => hd e (by simpa using he) hb) hJ K (fun a' v' w'' e h => hK a' w'' ⟨v', e, by simpa using h⟩)
    exact this
  · rintro L a w' hL ⟨v, rfl, hJ⟩
    exact fin L v w' (fun i hi => hL i (by simpa using hi)) hJ

/-- The places of a frame that hold rows: each with the operation that makes the row, and the one that takes it. -/
def liveAt (keys : List (Nat × Nat × Nat)) (L : Nat → Bool) (d : Nat) : Prop := ∃ j c, (d, j, c) ∈ keys ∧ L j = true ∧ L c = false
end
end Go.Proofs.Ytokalajliphcdaa

/-
  Lists of texts in a row of one's own: what an append to one leaves.
-/
namespace Go.Proofs.Ytokalajliphcdaa
open Go.RowKit
set_option linter.unusedVariables false

theorem new_block (w : World) (o : Obj) : (w.alloc o).heap[w.heap.size]? = some o := by
  show (w.heap.push o)[w.heap.size]? = some o
  simp

theorem grown_trans {a b c : World} {r : Option Nat} (h : a.grownBy b r) (k : b.grownBy c r) : a.grownBy c r :=
  ⟨k.os.trans h.os, k.tape.trans h.tape, k.output.trans h.output, Nat.le_trans h.size k.size, fun i hi hne => (k.block i (Nat.lt_of_lt_of_le hi h.size) hne).trans (h.block i hi hne)⟩

theorem grown_refl (a : World) (r : Option Nat) : a.grownBy a r := ⟨rfl, rfl, rfl, Nat.le_refl _, fun _ _ _ => rfl⟩

/-- A step that turns a row made since. -/
theorem grown_own {a b c : World} {r row : Option Nat} (h : a.grownBy b r) (k : b.grownBy c row) (hr : ∀ g, row = some g → a.heap.size ≤ g) : a.grownBy c r :=
  ⟨k.os.trans h.os, k.tape.trans h.tape, k.output.trans h.output, Nat.le_trans h.size k.size, fun i hi hne => (k.block i (Nat.lt_of_lt_of_le hi h.size) (fun e => by have := hr i e.symm; omega)).trans (h.block i hi hne)⟩

/-- A list of texts, as cells. -/
def strv (L : List ByteArray) : List Value := L.map Value.string
theorem strv_length (L : List ByteArray) : (strv L).length = L.length := by simp [strv]
theorem strv_append (L M : List ByteArray) : strv L ++ strv M = strv (L ++ M) := by simp [strv]
theorem strv_one (L : List ByteArray) : ∀ u ∈ strv L, u.oneCell' = true := by
  intro u hu
  simp only [strv, List.mem_map] at hu
  obtain ⟨s, _, rfl⟩ := hu
  rfl

theorem strv_cells (w : World) (L : List ByteArray) : ∀ j u, (strv L)[j]? = some u → (w.alloc (.cells (strv L).toArray 9)).cell? ((⟨w.heap.size, 0, none⟩ : Addr).add j) = some u := by
  intro j u h
  rw [show (⟨w.heap.size, 0, none⟩ : Addr).add j = ⟨w.heap.size, 0 + j, none⟩ by unfold Addr.add; split <;> simp_all]
  simp only [World.cell?, new_block]
  simpa using h

theorem new_strs (w : World) (L : List ByteArray) : ∀ i, i < L.length → (w.alloc (.cells (strv L).toArray 9)).cell? ⟨w.heap.size, 0 + i, none⟩ = some (.string (L.getD i ByteArray.empty)) := by
  intro i hi
  simp only [World.cell?, new_block]
  simp [strv, hi]

theorem getD_size {L : List ByteArray} {k : Nat} (h : (L.all fun s => decide (s.size ≤ k)) = true) (i : Nat) : (L.getD i ByteArray.empty).size ≤ k := by
  by_cases hi : i < L.length
  · have := List.all_eq_true.1 h (L[i]) (List.getElem_mem hi)
    simp [hi]; simpa using this
  · simp [hi]

/-- The names of drawn trees. -/
def nmL : List ByteArray := [⟨#[97]⟩, ⟨#[98]⟩, ⟨#[99]⟩, ⟨#[101, 116, 99]⟩, ⟨#[104, 111, 109, 101]⟩, ⟨#[122, 122]⟩]
def Nm (s : ByteArray) : Prop := s ∈ nmL
theorem Nm.size {s : ByteArray} (h : Nm s) : s.size ≤ 4 := by
  have : (nmL.all fun s => decide (s.size ≤ 4)) = true := rfl
  simpa using List.all_eq_true.1 this s h

theorem grown_alloc (w : World) (o : Obj) (r : Option Nat) : w.grownBy (w.alloc o) r := World.grownBy_alloc w o r


/-- A slice value that owns a list of texts. -/
def OwnsStrs (w : World) (B : Nat) (v : Value) (L : List ByteArray) : Prop := w.ownsRow B 9 1 v L.length (strv L) ∧ v ≠ .slice none 0 0

theorem OwnsStrs.block {w : World} {B : Nat} {v : Value} {L : List ByteArray} (h : OwnsStrs w B v L) : ∀ g, v.ownBlock = some g → B ≤ g := by
  intro g hg
  rcases h.1.2 with ⟨rfl, _⟩ | ⟨g', cap, cur, rfl, hb, _⟩
  · simp [Value.ownBlock] at hg
  · simp [Value.ownBlock] at hg; omega

theorem OwnsStrs.grown {w w' : World} {B r : Nat} {v : Value} {L : List ByteArray} (h : OwnsStrs w B v L) (hg : w.grownBy w' (some r)) (hr : r < B) : OwnsStrs w' B v L :=
  ⟨World.ownsRow.kept h.1 hg (by
    cases hv : v.ownBlock with
    | none => exact Or.inl rfl
    | some g => exact Or.inr (fun e => by have := h.block g hv; simp at e; omega)), h.2⟩

/-- An empty row of its own. -/
theorem owns_empty (w : World) : OwnsStrs (w.alloc (.cells #[] 9)) w.heap.size (.slice (some ⟨w.heap.size, 0, none⟩) 0 0) [] :=
  ⟨⟨rfl, Or.inr ⟨w.heap.size, 0, #[], rfl, Nat.le_refl _, new_block _ _, Nat.le_refl _, by unfold maxLen; omega, rfl, rfl⟩⟩, by simp⟩

theorem OwnsStrs.alloc {w : World} {B : Nat} {v : Value} {L : List ByteArray} (h : OwnsStrs w B v L) (o : Obj) : OwnsStrs (w.alloc o) B v L := ⟨World.ownsRow.alloc h.1 o, h.2⟩

theorem all_snoc4 {L : List ByteArray} {k : Nat} (h : (L.all fun s => decide (s.size ≤ k)) = true) {s : ByteArray} (hs : s.size ≤ k) : ((L ++ [s]).all fun s => decide (s.size ≤ k)) = true := by
  rw [List.all_append, h]; simp [hs]

theorem all_weaken {L : List ByteArray} {k m : Nat} (h : (L.all fun s => decide (s.size ≤ k)) = true) (hkm : k ≤ m) : (L.all fun s => decide (s.size ≤ m)) = true := by
  rw [List.all_eq_true] at *
  intro s hs
  have := h s hs
  simp at this ⊢
  omega

theorem all_app {L M : List ByteArray} {k : Nat} (h : (L.all fun s => decide (s.size ≤ k)) = true) (h2 : (M.all fun s => decide (s.size ≤ k)) = true) : ((L ++ M).all fun s => decide (s.size ≤ k)) = true := by
  rw [List.all_append, h, h2]; rfl

theorem OwnsStrs.hands {w' : World} {B : Nat} {v : Value} {L : List ByteArray} (h : OwnsStrs w' B v L) : ∃ g cap, v = .slice (some ⟨g, 0, none⟩) L.length cap ∧ B ≤ g ∧ g < w'.heap.size ∧ (∀ i, i < L.length → w'.cell? ⟨g, 0 + i, none⟩ = some (.string (L.getD i ByteArray.empty))) ∧ L.length ≤ cap ∧ cap ≤ maxLen := by
  obtain ⟨⟨h1, h2⟩, hne⟩ := h
  rcases h2 with ⟨rfl, h0⟩ | ⟨g, cap, cur, rfl, hb, hblk, hn, hm, hsz, htake⟩
  · exact absurd rfl hne
  · have hglt : g < w'.heap.size := (Array.getElem?_eq_some_iff.1 hblk).1
    refine ⟨g, cap, rfl, hb, hglt, fun i hi => ?_, hn, hm⟩
    have hi2 : (strv L)[i]? = some (.string (L.getD i ByteArray.empty)) := by simp [strv, hi]
    rw [← htake, Nat.mul_one, List.getElem?_take_of_lt hi] at hi2
    simp only [World.cell?, hblk]
    simpa using hi2

theorem list_size {L : List ByteArray} {k : Nat} (h : (L.all fun s => decide (s.size ≤ k)) = true) : ∀ i, ((fun i => L.getD i ByteArray.empty) i).size ≤ k := fun i => getD_size h i

/-- What an append to a row of one's own leaves: nothing below it turns. -/
theorem own_append {w0 w w2 : World} {B : Nat} {v v' : Value} {L M : List ByteArray} {k : Nat} (hB : Below B w0 w) (hBw : B ≤ w.heap.size) (hO : OwnsStrs w B v L) (hk : L.length + M.length = k)
    (hown : w2.ownsRow B 9 1 v' k (strv L ++ strv M)) (hgrow : w.grownBy w2 v.ownBlock) (hnil : ¬ v' = .slice none 0 0) :
    OwnsStrs w2 B v' (L ++ M) ∧ Below B w0 w2 ∧ B ≤ w2.heap.size := by
  refine ⟨⟨?_, hnil⟩, hB.grown hgrow hBw hO.block, Nat.le_trans hBw hgrow.size⟩
  rw [List.length_append, hk, ← strv_append]
  exact hown


/-- An append to a row of one's own where a guard has let it by. -/
theorem wpList_append_ownW {P : Program} (w : World) {ops : Array Oper} {rest : List Oper} {o : Oper} {a : Act} {Q : Exit → Act → World → Prop} (hw : Region.wanted o (yielded ops a.tmps) = true) (s x : Operand) (t : TypeId)
    (ho : o.op = .call { callee := .builtin .append, args := #[s, x], argTypes := #[t, t] })
    (base : Nat) (e : TypeId) (i : TypeInfo) (z : Value) (size bytes : Nat) (ht : P.underlying t = some (.slice e)) (hi : P.info? e = some i) (hz : i.zero = some z)
    (hsize : i.size = size) (hby : i.bytes = bytes) (hzs : z.cells.size = size) (hsz : 0 < size)
    (v : Value) (n : Nat) (xs : List Value) (hs : a.eval s = v) (hown : w.ownsRow base e size v n xs)
    (ad : Addr) (m c : Nat) (news : List Value) (hx : a.eval x = .slice (some ad) m c) (hl : news.length = m * size) (hnews : ∀ j u, news[j]? = some u → w.cell? (ad.add j) = some u) (h1 : ∀ u ∈ news, u.oneCell' = true)
    (h63 : n + m ≤ maxLen) (hbytes : (n + m) * bytes ≤ 140737488355328) (hbase : base ≤ w.heap.size)
    (h : ∀ v' w', w'.ownsRow base e size v' (n + m) (xs ++ news) → w.grownBy w' v.ownBlock → (v' = .slice none 0 0 ↔ v = .slice none 0 0 ∧ m = 0) → wpList P ops Q rest (a.put o.dst v') w') : wpList P ops Q (o :: rest) a w :=
  wpList_step fun K hK => by
    rw [if_pos hw]
    exact wp_append_own w s x t ho base e i z size bytes ht hi hz hsize hby hzs hsz v n xs hs hown ad m c news hx hl hnews h1 h63 hbytes hbase fun v' w' h2 h3 h4 => hK _ _ (h v' w' h2 h3 h4)
end Go.Proofs.Ytokalajliphcdaa

/-
  A list of texts as cells: plain facts.
-/
namespace Go.Proofs.Ytokalajliphcdaa
open Go.RowKit
set_option linter.unusedVariables false

theorem take_cells {w : World} {g : Nat} {L : List ByteArray} (hc : ∀ i, i < L.length → w.cell? ⟨g, 0 + i, none⟩ = some (.string (L.getD i ByteArray.empty))) (k : Nat) :
    ∀ j u, (strv (L.take k))[j]? = some u → w.cell? ((⟨g, 0, none⟩ : Addr).add j) = some u := by
  intro j u h
  rw [show (⟨g, 0, none⟩ : Addr).add j = ⟨g, 0 + j, none⟩ by unfold Addr.add; split <;> simp_all]
  have hj : j < (strv (L.take k)).length := by
    by_cases hh : j < (strv (L.take k)).length
    · exact hh
    · rw [List.getElem?_eq_none (by omega)] at h; cases h
  rw [strv_length, List.length_take] at hj
  rw [hc j (by omega), ← h]
  simp [strv, List.getElem?_take_of_lt (show j < k by omega), show j < L.length by omega]

/-- The first n of a list, as a list. -/
def lst (n : Nat) (S : Nat → ByteArray) : List ByteArray := (List.range n).map S
theorem lst_length (n : Nat) (S : Nat → ByteArray) : (lst n S).length = n := by simp [lst]
theorem lst_getD (n : Nat) (S : Nat → ByteArray) (i : Nat) (h : i < n) : (lst n S).getD i ByteArray.empty = S i := by simp [lst, h]

/-- One list behind another. -/
def catS (n : Nat) (S T : Nat → ByteArray) : Nat → ByteArray := fun i => if i < n then S i else T (i - n)

theorem cat_getD (n m : Nat) (S T : Nat → ByteArray) (i : Nat) (h : i < n + m) : (lst n S ++ lst m T).getD i ByteArray.empty = catS n S T i := by
  unfold catS
  by_cases hi : i < n
  · simp [hi, lst, List.getElem?_append_left]
  · simp only [if_neg hi, List.getD_eq_getElem?_getD]
    rw [List.getElem?_append_right (by rw [lst_length]; omega), lst_length]
    simp [lst, show i - n < m by omega]

theorem IsStrs.congr {w : World} {a : Option Addr} {n : Nat} {S T : Nat → ByteArray} (h : IsStrs w a n S) (e : ∀ i, i < n → S i = T i) : IsStrs w a n T := by
  rcases h with h | ⟨b, off, ha, hlt, hc⟩
  · exact Or.inl h
  · exact Or.inr ⟨b, off, ha, hlt, fun i hi => by rw [hc i hi, e i hi]⟩

theorem lst_cells {w : World} {g n : Nat} {S : Nat → ByteArray} (hc : ∀ i, i < n → w.cell? ⟨g, 0 + i, none⟩ = some (.string (S i))) :
    ∀ j u, (strv (lst n S))[j]? = some u → w.cell? ((⟨g, 0, none⟩ : Addr).add j) = some u := by
  have := take_cells (w := w) (g := g) (L := lst n S) (fun i hi => by rw [lst_length] at hi; rw [hc i hi, lst_getD n S i hi]) n
  rw [List.take_of_length_le (by rw [lst_length]; exact Nat.le_refl _)] at this
  exact this

theorem strv_lst (n : Nat) (S : Nat → ByteArray) : (strv (lst n S)).length = n * 1 := by rw [strv_length, lst_length]; omega
end Go.Proofs.Ytokalajliphcdaa

/-
  Rows of one's own that a statement makes and appends to, in whatever order: each is as it is said, and no two share memory. Plain laws.
-/
namespace Go.Proofs.Ytokalajliphcdaa
open Go.RowKit
set_option linter.unusedVariables false

/-- What a list to be appended holds, and where it lies; it may be nil. -/
structure Src (W : World) (size : Nat) (x : Value) (m : Nat) (news : List Value) : Prop where
  len : news.length = m * size
  one : ∀ u ∈ news, u.oneCell' = true
  lies : (∃ c, x = .slice none 0 c ∧ m = 0) ∨ ∃ ad c, x = .slice (some ad) m c ∧ ∀ j u, news[j]? = some u → W.cell? (ad.add j) = some u

theorem run_append_none {P : Program} (w : World) (base : Nat) (t ty e : TypeId) (i : TypeInfo) (size : Nat) (ht : P.underlying t = some (.slice e)) (hi : P.info? e = some i)
    (v : Value) (n : Nat) (xs : List Value) (hown : w.ownsRow base e size v n xs) (c : Nat) :
    (Builtin.append_ #[t, t] ty #[v, .slice none 0 c]).run P w = .ok v w := by
  rcases hown.2 with ⟨rfl, rfl⟩ | ⟨g, cap, cur, rfl, _, _, hnc, _⟩
  · simp [Builtin.append_, run_underlying ht, sizeOf, typeInfo, hi, Builtin.lenOf, Builtin.firstCells]
  · simp [Builtin.append_, run_underlying ht, sizeOf, typeInfo, hi, Builtin.lenOf, Builtin.firstCells, hnc, storeCells]

theorem run_append_src {P : Program} (w : World) (base : Nat) (t ty e : TypeId) (i : TypeInfo) (z : Value) (size bytes : Nat) (ht : P.underlying t = some (.slice e)) (hi : P.info? e = some i) (hz : i.zero = some z)
    (hsize : i.size = size) (hby : i.bytes = bytes) (hzs : z.cells.size = size) (hsz : 0 < size)
    (v : Value) (n : Nat) (xs : List Value) (hown : w.ownsRow base e size v n xs) (x : Value) (m : Nat) (news : List Value) (hx : Src w size x m news)
    (h63 : n + m ≤ maxLen) (hbytes : (n + m) * bytes ≤ 140737488355328) (hbase : base ≤ w.heap.size) :
    ∃ v' w', (Builtin.append_ #[t, t] ty #[v, x]).run P w = .ok v' w' ∧ w'.ownsRow base e size v' (n + m) (xs ++ news) ∧ w.grownBy w' v.ownBlock ∧
      (v' = .slice none 0 0 ↔ v = .slice none 0 0 ∧ m = 0) ∧ (v'.ownBlock = v.ownBlock ∨ v'.ownBlock = some w.heap.size) := by
  rcases hx.lies with ⟨c, rfl, rfl⟩ | ⟨ad, c, rfl, hc⟩
  · have hn : news = [] := List.length_eq_zero_iff.1 (by have := hx.len; omega)
    subst hn
    exact ⟨v, w, run_append_none w base t ty e i size ht hi v n xs hown c, by simpa using hown, ⟨rfl, rfl, rfl, Nat.le_refl _, fun _ _ _ => rfl⟩, by simp, Or.inl rfl⟩
  · exact run_append_own_at w base t ty e i z size bytes ht hi hz hsize hby hzs hsz v n xs hown ad m c news hx.len hc hx.one h63 hbytes hbase

theorem wp_append_src {P : Program} {o : Oper} {a : Act} {w : World} {K : Act → World → Prop} {Q : Exit → Act → World → Prop} (s y : Operand) (t : TypeId)
    (ho : o.op = .call { callee := .builtin .append, args := #[s, y], argTypes := #[t, t] })
    (base : Nat) (e : TypeId) (i : TypeInfo) (z : Value) (size bytes : Nat) (ht : P.underlying t = some (.slice e)) (hi : P.info? e = some i) (hz : i.zero = some z)
    (hsize : i.size = size) (hby : i.bytes = bytes) (hzs : z.cells.size = size) (hsz : 0 < size)
    (v : Value) (n : Nat) (xs : List Value) (hs : a.eval s = v) (hown : w.ownsRow base e size v n xs) (x : Value) (m : Nat) (news : List Value) (hxe : a.eval y = x) (hx : Src w size x m news)
    (h63 : n + m ≤ maxLen) (hbytes : (n + m) * bytes ≤ 140737488355328) (hbase : base ≤ w.heap.size)
    (h : ∀ v' w', w'.ownsRow base e size v' (n + m) (xs ++ news) → w.grownBy w' v.ownBlock → (v' = .slice none 0 0 ↔ v = .slice none 0 0 ∧ m = 0) → (v'.ownBlock = v.ownBlock ∨ v'.ownBlock = some w.heap.size) → K (a.put o.dst v') w') : o.wp P a w K Q := by
  obtain ⟨v', w', hr, h2, h3, h4, h5⟩ := run_append_src (P := P) w base t o.type e i z size bytes ht hi hz hsize hby hzs hsz v n xs hown x m news hx h63 hbytes hbase
  unfold Oper.wp execOp
  simp only [ho, resolve, invoke, builtin, Sem.run_bind, Sem.run_pure, Result.andThen_ok, List.map_toArray, List.map_cons, List.map_nil, hs, hxe, hr]
  exact h v' w' h2 h3 h4 h5

theorem wpList_append_src {P : Program} {ops : Array Oper} {rest : List Oper} {o : Oper} {a : Act} {w : World} {Q : Exit → Act → World → Prop} (hgd : o.guard = none) (s y : Operand) (t : TypeId)
    (ho : o.op = .call { callee := .builtin .append, args := #[s, y], argTypes := #[t, t] })
    (base : Nat) (e : TypeId) (i : TypeInfo) (z : Value) (size bytes : Nat) (ht : P.underlying t = some (.slice e)) (hi : P.info? e = some i) (hz : i.zero = some z)
    (hsize : i.size = size) (hby : i.bytes = bytes) (hzs : z.cells.size = size) (hsz : 0 < size)
    (v : Value) (n : Nat) (xs : List Value) (hs : a.eval s = v) (hown : w.ownsRow base e size v n xs) (x : Value) (m : Nat) (news : List Value) (hxe : a.eval y = x) (hx : Src w size x m news)
    (h63 : n + m ≤ maxLen) (hbytes : (n + m) * bytes ≤ 140737488355328) (hbase : base ≤ w.heap.size)
    (h : ∀ v' w', w'.ownsRow base e size v' (n + m) (xs ++ news) → w.grownBy w' v.ownBlock → (v' = .slice none 0 0 ↔ v = .slice none 0 0 ∧ m = 0) → (v'.ownBlock = v.ownBlock ∨ v'.ownBlock = some w.heap.size) → wpList P ops Q rest (a.put o.dst v') w') : wpList P ops Q (o :: rest) a w :=
  wpList_plain hgd fun _ hK => wp_append_src s y t ho base e i z size bytes ht hi hz hsize hby hzs hsz v n xs hs hown x m news hxe hx h63 hbytes hbase fun v' w' h2 h3 h4 h5 => hK _ _ (h v' w' h2 h3 h4 h5)

/-- A row: of which elements, how wide, how many, which. -/
structure Rw where
  e : TypeId
  size : Nat
  n : Nat
  xs : List Value

/-- The places d that are live hold such rows, in blocks of their own. -/
structure Rws (B : Nat) (row : Nat → Rw) (live : Nat → Prop) (v : Nat → Value) (w : World) : Prop where
  own : ∀ d, live d → w.ownsRow B (row d).e (row d).size (v d) (row d).n (row d).xs ∧ ∃ b, (v d).ownBlock = some b
  apart : ∀ d d', live d → live d' → d ≠ d' → (v d).ownBlock ≠ (v d').ownBlock

theorem owns_block {w : World} {B : Nat} {e : TypeId} {size n : Nat} {xs : List Value} {v : Value} (h : w.ownsRow B e size v n xs) {b : Nat} (hb : v.ownBlock = some b) : B ≤ b ∧ b < w.heap.size := h.lt b hb

/-- A row comes to be: a new one, or a live one appended to. -/
theorem Rws.step {B : Nat} {row : Nat → Rw} {live live' : Nat → Prop} {v : Nat → Value} {w w' : World} (h : Rws B row live v w) {d : Nat} {x : Value} {r : Option Nat} (hg : w.grownBy w' r)
    (hr : ∀ d', live' d' → d' ≠ d → live d' ∧ (v d').ownBlock ≠ r) (hown : w'.ownsRow B (row d).e (row d).size x (row d).n (row d).xs) {b : Nat} (hx : x.ownBlock = some b) (hb : r = some b ∨ w.heap.size ≤ b) : Rws B row live' (vset v d x) w' := by
  have key : ∀ d', live' d' → d' ≠ d → (v d').ownBlock ≠ some b := fun d' h1 h2 e => by
    obtain ⟨h3, h4⟩ := hr d' h1 h2
    rcases hb with hb | hb
    · exact h4 (e.trans hb.symm)
    · have := (owns_block (h.own d' h3).1 e).2
      omega
  refine ⟨fun d' hl => ?_, fun d1 d2 h1 h2 hne => ?_⟩
  · by_cases e : d' = d
    · subst e; rw [vset_same]; exact ⟨hown, b, hx⟩
    · rw [vset_ne _ _ e]
      obtain ⟨h3, h4⟩ := hr d' hl e
      exact ⟨(h.own d' h3).1.kept hg (Or.inr h4), (h.own d' h3).2⟩
  · by_cases e1 : d1 = d
    · have e2 : d2 ≠ d := fun e => hne (e1.trans e.symm)
      subst e1
      rw [vset_same, vset_ne _ _ e2, hx]
      exact Ne.symm (key d2 h2 e2)
    · by_cases e2 : d2 = d
      · subst e2
        rw [vset_same, vset_ne _ _ e1, hx]
        exact key d1 h1 e1
      · rw [vset_ne _ _ e1, vset_ne _ _ e2]
        exact h.apart d1 d2 (hr d1 h1 e1).1 (hr d2 h2 e2).1 hne

/-- Nothing of the rows turns. -/
theorem Rws.same {B : Nat} {row : Nat → Rw} {live live' : Nat → Prop} {v v' : Nat → Value} {w w' : World} (h : Rws B row live v w) (hl : ∀ d, live' d → live d ∧ v' d = v d) (hw : ∀ d b, live' d → (v d).ownBlock = some b → w'.heap[b]? = w.heap[b]?) : Rws B row live' v' w' := by
  refine ⟨fun d hd => ?_, fun d1 d2 h1 h2 hne => ?_⟩
  · obtain ⟨h1, h2⟩ := hl d hd
    rw [h2]
    obtain ⟨⟨h3, h4⟩, b, h5⟩ := h.own d h1
    refine ⟨⟨h3, ?_⟩, b, h5⟩
    rcases h4 with h4 | ⟨g, cap, cur, hv, hB, hg, hr⟩
    · exact Or.inl h4
    · refine Or.inr ⟨g, cap, cur, hv, hB, ?_, hr⟩
      have : b = g := by rw [hv] at h5; simpa [Value.ownBlock] using h5.symm
      subst this
      exact (hw d b hd h5).trans hg
  · rw [(hl d1 h1).2, (hl d2 h2).2]
    exact h.apart d1 d2 (hl d1 h1).1 (hl d2 h2).1 hne

/-- A row of a literal. -/
theorem owns_lit {w : World} {B : Nat} (hB : B ≤ w.heap.size) (xs : List Value) (e : TypeId) (size n : Nat) (hl : xs.length = n * size) (hn : n ≤ maxLen) : (w.alloc (.cells xs.toArray e)).ownsRow B e size (.slice (some ⟨w.heap.size, 0, none⟩) n n) n xs :=
  ⟨hl, Or.inr ⟨w.heap.size, n, xs.toArray, rfl, hB, Go.Deep.blk_alloc_new _ _, Nat.le_refl _, hn, by simpa using hl, by rw [← hl]; simp⟩⟩

/-- A live row, as a source. -/
theorem owns_src {w : World} {B : Nat} {e : TypeId} {size n : Nat} {xs : List Value} {v : Value} (h : w.ownsRow B e size v n xs) (h1 : ∀ u ∈ xs, u.oneCell' = true) {b : Nat} (hb : v.ownBlock = some b) : Src w size v n xs :=
  ⟨h.1, h1, Or.inr (by
    rcases h.2 with ⟨h0, _⟩ | ⟨g, cap, cur, hv, _⟩
    · rw [h0] at hb; simp [Value.ownBlock] at hb
    · exact ⟨⟨g, 0, none⟩, cap, hv, h.cells (g := g) (by rw [hv]; rfl)⟩)⟩

theorem addr_add (b o j : Nat) : (⟨b, o, none⟩ : Addr).add j = ⟨b, o + j, none⟩ := by unfold Addr.add; split <;> simp_all

theorem IsStrs.src {W : World} {a : Option Addr} {n : Nat} {S : Nat → ByteArray} (h : IsStrs W a n S) (c : Nat) : Src W 1 (.slice a n c) n (strv (lst n S)) := by
  refine ⟨strv_lst n S, strv_one _, ?_⟩
  rcases h with h | ⟨b, off, rfl, hlt, hc⟩
  · subst h
    cases a with
    | none => exact Or.inl ⟨c, rfl, rfl⟩
    | some ad => exact Or.inr ⟨ad, c, rfl, fun j u hu => by simp [strv, lst] at hu⟩
  · refine Or.inr ⟨⟨b, off, none⟩, c, rfl, fun j u hu => ?_⟩
    have hj : j < n := by
      rcases Nat.lt_or_ge j n with e | e
      · exact e
      · rw [List.getElem?_eq_none (by have := strv_lst n S; omega)] at hu; cases hu
    rw [addr_add, hc j hj]
    simp [strv, lst, hj] at hu
    rw [hu]

theorem IsInts.src {W : World} {a : Option Addr} {n : Nat} {Z : Nat → Int} (h : IsInts W a n Z) (c : Nat) : Src W 1 (.slice a n c) n ((List.range n).map fun i => .int .i64 (Z i)) := by
  refine ⟨by simp, fun u hu => by obtain ⟨i, _, rfl⟩ := List.mem_map.1 hu; rfl, ?_⟩
  rcases h with h | ⟨b, off, rfl, hlt, hc⟩
  · subst h
    cases a with
    | none => exact Or.inl ⟨c, rfl, rfl⟩
    | some ad => exact Or.inr ⟨ad, c, rfl, fun j u hu => by simp at hu⟩
  · refine Or.inr ⟨⟨b, off, none⟩, c, rfl, fun j u hu => ?_⟩
    have hj : j < n := by
      rcases Nat.lt_or_ge j n with e | e
      · exact e
      · rw [List.getElem?_eq_none (by simpa using e)] at hu; cases hu
    rw [addr_add, hc j hj]
    simp [hj] at hu
    rw [hu]

theorem Src.of_cells {w w' : World} {size : Nat} {x : Value} {m : Nat} {news : List Value} (h : Src w size x m news) {B : Nat} (hb : Below B w w') (hx : ∀ ad n c, x = .slice (some ad) n c → ad.block < B) : Src w' size x m news :=
  ⟨h.len, h.one, h.lies.imp id fun ⟨ad, c, e, hc⟩ => ⟨ad, c, e, fun j u hu => by
    rw [hb.cell (p := ad.add j) (by
      have h1 := hx ad m c e
      have : (ad.add j).block = ad.block := by unfold Addr.add; split <;> rfl
      omega)]
    exact hc j u hu⟩⟩

/-- What is known within a statement: what was taken first, that nothing old turns, the rows, and values that hang on no memory. -/
structure RJ (taken : List Nat) (W : World) (row : Nat → Rw) (keys : List (Nat × Nat × Nat)) (plain : List (Nat × Nat × Value)) (L : Nat → Bool) (v : Nat → Value) (w : World) : Prop where
  taken : ∀ j ∈ taken, L j = true
  none : L 99 = false
  bel : Below W.heap.size W w
  rws : Rws W.heap.size row (liveAt keys L) v w
  plain : ∀ t ∈ plain, L t.1 = true → v t.2.1 = t.2.2

section
variable {taken : List Nat} {W : World} {row : Nat → Rw} {keys : List (Nat × Nat × Nat)} {plain : List (Nat × Nat × Value)} {L : Nat → Bool} {v : Nat → Value} {w w' : World}

theorem RJ.start (hb : Below W.heap.size W w) (ht : ∀ j ∈ taken, L j = true) (hn : L 99 = false) (hk : ∀ t ∈ keys, L t.2.1 = false) (hp : ∀ t ∈ plain, L t.1 = false) : RJ taken W row keys plain L v w :=
  ⟨ht, hn, hb, ⟨fun d ⟨j, c, h1, h2, h3⟩ => by have := hk _ h1; simp_all, fun d d' ⟨j, c, h1, h2, h3⟩ => by have := hk _ h1; simp_all⟩, fun t h1 h2 => by have := hp t h1; simp_all⟩

theorem lset_true {i j : Nat} (h : L j = true) : lset L i j = true := by simp [lset, h]
theorem lset_false {i j : Nat} (h : lset L i j = false) : L j = false ∧ j ≠ i := by simp [lset] at h; exact ⟨h.2, h.1⟩
theorem lset_cases {i j : Nat} (h : lset L i j = true) : j = i ∨ L j = true := by simpa [lset] using h

/-- A row comes to be. -/
theorem RJ.rowStep (h : RJ taken W row keys plain L v w) {k d : Nat} {x : Value} {r : Option Nat} (hg : w.grownBy w' r) (hbel : Below W.heap.size W w') (hk : ∀ t ∈ keys, t.2.1 = k → t.1 = d) (hp : ∀ t ∈ plain, t.1 ≠ k ∧ t.2.1 ≠ d) (h99 : 99 ≠ k)
    (hr : ∀ d', liveAt keys (lset L k) d' → d' ≠ d → (v d').ownBlock ≠ r) (hown : w'.ownsRow W.heap.size (row d).e (row d).size x (row d).n (row d).xs) {b : Nat} (hx : x.ownBlock = some b) (hb : r = some b ∨ w.heap.size ≤ b) : RJ taken W row keys plain (lset L k) (vset v d x) w' :=
  ⟨fun j hj => lset_true (h.taken j hj), by rw [lset_ne _ h99]; exact h.none, hbel, h.rws.step hg (fun d' hl hne => ⟨by
    obtain ⟨j, c, h1, h2, h3⟩ := hl
    have hj : j ≠ k := fun e => hne (hk _ h1 e)
    rw [lset_ne _ hj] at h2
    exact ⟨j, c, h1, h2, (lset_false h3).1⟩, hr d' hl hne⟩) hown hx hb, fun t h1 h2 => by
    obtain ⟨h3, h4⟩ := hp t h1
    rw [lset_ne _ h3] at h2
    rw [vset_ne _ _ h4]
    exact h.plain t h1 h2⟩

theorem RJ.gone (h : RJ taken W row keys plain L v w) {k : Nat} (hk : k ∈ taken) (h0 : L k = false) {A : Prop} : A := by
  have := h.taken k hk
  rw [h0] at this
  cases this

/-- A new row. -/
theorem RJ.make (h : RJ taken W row keys plain L v w) {k d : Nat} (hk : ∀ t ∈ keys, t.2.1 = k → t.1 = d) (hp : ∀ t ∈ plain, t.1 ≠ k ∧ t.2.1 ≠ d) (h99 : 99 ≠ k) {xs : List Value} {n : Nat} {e : TypeId} {size : Nat} (hrow : row d = ⟨e, size, n, xs⟩) (hl : xs.length = n * size) (hn : n ≤ maxLen) :
    RJ taken W row keys plain (lset L k) (vset v d (.slice (some ⟨w.heap.size, 0, .none⟩) n n)) (w.alloc (.cells xs.toArray e)) :=
  h.rowStep (r := .none) (b := w.heap.size) (World.grownBy_alloc w _ _) (h.bel.alloc h.bel.size _) hk hp h99 (fun d' ⟨j, c, h1, h2, h3⟩ hne => by
    have hj : j ≠ k := fun e => hne (hk _ h1 e)
    rw [lset_ne _ hj] at h2
    obtain ⟨b, hb⟩ := (h.rws.own d' ⟨j, c, h1, h2, (lset_false h3).1⟩).2
    rw [hb]; simp) (by rw [hrow]; exact owns_lit h.bel.size xs e size n hl hn) rfl (Or.inr (Nat.le_refl _))

/-- A row is appended to. -/
theorem RJ.app (h : RJ taken W row keys plain L v w) {k d s : Nat} {x : Value} (hs : liveAt keys L s) (hsk : ∀ t ∈ keys, t.1 = s → t.2.2 = k) (hg : w.grownBy w' (v s).ownBlock) (hk : ∀ t ∈ keys, t.2.1 = k → t.1 = d) (hp : ∀ t ∈ plain, t.1 ≠ k ∧ t.2.1 ≠ d) (h99 : 99 ≠ k)
    (hown : w'.ownsRow W.heap.size (row d).e (row d).size x (row d).n (row d).xs) (hat : x.ownBlock = (v s).ownBlock ∨ x.ownBlock = some w.heap.size) : RJ taken W row keys plain (lset L k) (vset v d x) w' := by
  obtain ⟨b, hb⟩ := (h.rws.own s hs).2
  have hlt := owns_block (h.rws.own s hs).1 hb
  have hbel : Below W.heap.size W w' := h.bel.grown hg h.bel.size (fun b' e => by rw [hb] at e; cases e; exact hlt.1)
  have hbx : ∃ b', x.ownBlock = some b' ∧ ((v s).ownBlock = some b' ∨ w.heap.size ≤ b') := by
    rcases hat with e | e
    · exact ⟨b, e.trans hb, Or.inl hb⟩
    · exact ⟨_, e, Or.inr (Nat.le_refl _)⟩
  obtain ⟨b', hb1, hb2⟩ := hbx
  exact h.rowStep hg hbel hk hp h99 (fun d' ⟨j, c, h1, h2, h3⟩ hne => by
    have hj : j ≠ k := fun e => hne (hk _ h1 e)
    rw [lset_ne _ hj] at h2
    obtain ⟨h4, h5⟩ := lset_false h3
    exact h.rws.apart d' s ⟨j, c, h1, h2, h4⟩ hs (fun e => h5 (hsk _ h1 e))) hown hb1 hb2

/-- A value that hangs on no memory. -/
theorem RJ.value (h : RJ taken W row keys plain L v w) {k d : Nat} {x : Value} (hk : ∀ t ∈ keys, t.2.1 ≠ k ∧ t.1 ≠ d) (h99 : 99 ≠ k) (hp : ∀ t ∈ plain, t.1 = k → t.2.1 = d ∧ t.2.2 = x) (hd : ∀ t ∈ plain, t.1 ≠ k → t.2.1 ≠ d) : RJ taken W row keys plain (lset L k) (vset v d x) w :=
  ⟨fun j hj => lset_true (h.taken j hj), by rw [lset_ne _ h99]; exact h.none, h.bel, h.rws.same (fun d' ⟨j, c, h1, h2, h3⟩ => by
    obtain ⟨h4, h5⟩ := hk _ h1
    rw [lset_ne _ h4] at h2
    exact ⟨⟨j, c, h1, h2, (lset_false h3).1⟩, vset_ne _ _ h5⟩) (fun _ _ _ _ => rfl), fun t h1 h2 => by
    by_cases e : t.1 = k
    · obtain ⟨h3, h4⟩ := hp t h1 e
      rw [h3, vset_same, h4]
    · rw [lset_ne _ e] at h2
      rw [vset_ne _ _ (hd t h1 e)]
      exact h.plain t h1 h2⟩
end

/-- A row of texts, as a list. -/
theorem ownsRow_strs {w : World} {B g c n : Nat} {T : List ByteArray} (h : w.ownsRow B 9 1 (.slice (some ⟨g, 0, none⟩) n c) n (strv T)) (hn : T.length = n) (hg : g < w.heap.size) : IsStrs w (some ⟨g, 0, none⟩) n (fun i => T.getD i ByteArray.empty) :=
  Or.inr ⟨g, 0, rfl, hg, fun i hi => by
    have := h.cells (g := g) rfl i (.string (T.getD i ByteArray.empty)) (by simp [strv, hn, hi])
    rwa [addr_add] at this⟩

/-- An operation's condition, kept shut. -/
structure OW (P : Program) (o : Oper) (a : Act) (w : World) (K : Act → World → Prop) (Q : Exit → Act → World → Prop) : Prop where
  out : Oper.wp P o a w K Q

/-- .. and what is asked at the end. -/
structure QN (Q : Exit → Act → World → Prop) (a : Act) (w : World) : Prop where
  out : Q .normal a w

/-- Each operation of a list keeps what is known; none has a guard. -/
def StepsP (P : Program) (Q : Exit → Act → World → Prop) (a0 : Act) (ds : List Nat) (J : (Nat → Bool) → (Nat → Value) → World → Prop) : List Oper → Nat → Prop
  | [], _ => True
  | o :: l, k => (∀ (L : Nat → Bool) (v : Nat → Value) (w : World), L k = false → (∀ e ∈ o.after.toList, Region.binds .any e = true → L e.on = true) → J L v w → ∀ K : Act → World → Prop,
      (∀ a' v' w', a' = upd a0 ds v' → J (lset L k) v' w' → K a' w') → OW P o (upd a0 ds v) w K Q) ∧ StepsP P Q a0 ds J l (k + 1)

theorem StepsP.all {P : Program} {ops : Array Oper} {Q : Exit → Act → World → Prop} {a0 : Act} {ds : List Nat} {J : (Nat → Bool) → (Nat → Value) → World → Prop} : ∀ {l : List Oper} {k : Nat}, (l.all fun o => o.guard.isNone) = true → StepsP P Q a0 ds J l k → StepsAll P ops Q a0 ds J l k
  | [], _, _, _ => trivial
  | o :: l, k, hg, h => by
    simp only [List.all_cons, Bool.and_eq_true] at hg
    refine ⟨fun L v w h0 hd hJ K hK => ?_, StepsP.all hg.2 h.2⟩
    have hw : Region.wanted o (yielded ops (upd a0 ds v).tmps) = true := by
      have : o.guard = none := by simpa using hg.1
      simp [Region.wanted, this]
    rw [if_pos hw]
    exact (h.1 L v w h0 hd hJ K hK).out

theorem wpAnyH_plain {P : Program} {Q : Exit → Act → World → Prop} {S : World → Prop} {l : List Oper} {a0 : Act} {w : World} {fuel : Nat} {listed : Array Bool} (ds : List Nat) (J : (Nat → Bool) → (Nat → Value) → World → Prop) (hB : laterB l.toArray = true) (hg : (l.all fun o => o.guard.isNone) = true) (hn : listed.size = l.length) (hc : listed.toList.count false ≤ fuel)
    (h0 : ∀ v, J (fun j => listed.getD j false) v w) (hS : ∀ L v w, J L v w → S w) (hs : StepsP P Q a0 ds J l 0) (fin : ∀ L v w', (∀ i, i < l.length → L i = true) → J L v w' → QN Q (upd a0 ds v) w') : wpAnyH P .any l.toArray Q S fuel listed a0 w :=
  wpAnyH_vals ds J hB hn hc h0 hS (StepsP.all hg hs) (fun L v w' h1 h2 => (fin L v w' h1 h2).out)

theorem listed_none (md : Region.Mode) (ops : Array Oper) : ListedOk md ops (Array.replicate ops.size false) := ⟨by simp, fun j oj hj hl e he hbn => by
    rw [Array.getD_eq_getD_getElem?, Array.getElem?_replicate] at hl
    split at hl <;> cases hl⟩

theorem wpAny_peel1 {P : Program} {Q : Exit → Act → World → Prop} {ops : Array Oper} {a : Act} {w : World} (o : Oper) (hb : ops.back? = some o) (hok : peelOk .any ops.pop o = true) (h : wpAny P .any ops.pop (Peel P o Q) ops.pop.size (Array.replicate ops.pop.size false) a w) : wpAny P .any ops Q ops.size (Array.replicate ops.size false) a w := by
  have hp := push_pop hb
  have := wpAny_peel (Q := Q) (P := P) (peelOk_spec hok) ops.pop.size (Array.replicate ops.pop.size false) a w (listed_none _ _) h
  have e1 : (Array.replicate ops.pop.size false).push false = Array.replicate ops.size false := by
    rw [← hp]; simp [Array.replicate_succ]
  have e2 : ops.pop.size + 1 = ops.size := by rw [← hp]; simp
  rw [hp, e1, e2] at this
  exact this

/-- The last three operations are cut off. -/
theorem wp_region_peel3 {P : Program} {Q : Exit → Act → World → Prop} {id : Nat} {ops : Array Oper} {a : Act} {w : World} (S : World → Prop) (o1 o2 o3 : Oper) (hm : P.follows .mixedOrders = true) (hb3 : ops.back? = some o3) (hb2 : ops.pop.back? = some o2) (hb1 : ops.pop.pop.back? = some o1)
    (hok3 : peelOk .any ops.pop o3 = true) (hok2 : peelOk .any ops.pop.pop o2 = true) (hok1 : peelOk .any ops.pop.pop.pop o1 = true)
    (hS : S w.drew) (h : S w.drew → wpAnyH P .any ops.pop.pop.pop (Peel P o1 (Peel P o2 (Peel P o3 Q))) S ops.pop.pop.pop.size (Array.replicate ops.pop.pop.pop.size false) a w.drew) : (Code.region id ops true).wp P Q a w :=
  wp_region_any hm (wpAny_peel1 o3 hb3 hok3 (wpAny_peel1 o2 hb2 hok2 (wpAny_peel1 o1 hb1 hok1 (wpAny_of_held _ _ _ _ (h hS)))))

/-- The last two. -/
theorem wp_region_peel2 {P : Program} {Q : Exit → Act → World → Prop} {id : Nat} {ops : Array Oper} {a : Act} {w : World} (S : World → Prop) (o2 o3 : Oper) (hm : P.follows .mixedOrders = true) (hb3 : ops.back? = some o3) (hb2 : ops.pop.back? = some o2)
    (hok3 : peelOk .any ops.pop o3 = true) (hok2 : peelOk .any ops.pop.pop o2 = true)
    (hS : S w.drew) (h : S w.drew → wpAnyH P .any ops.pop.pop (Peel P o2 (Peel P o3 Q)) S ops.pop.pop.size (Array.replicate ops.pop.pop.size false) a w.drew) : (Code.region id ops true).wp P Q a w :=
  wp_region_any hm (wpAny_peel1 o3 hb3 hok3 (wpAny_peel1 o2 hb2 hok2 (wpAny_of_held _ _ _ _ (h hS))))

theorem wpAnyH_act {P : Program} {md : Region.Mode} {ops : Array Oper} {Q : Exit → Act → World → Prop} {S : World → Prop} {fuel : Nat} {listed : Array Bool} {a : Act} {w : World} (h : ∀ a0, a0 = a → wpAnyH P md ops Q S fuel listed a0 w) : wpAnyH P md ops Q S fuel listed a w := h a rfl
end Go.Proofs.Ytokalajliphcdaa

/-
  Single operations of a statement, at a frame of which only so much is said.
-/
namespace Go.Proofs.Ytokalajliphcdaa
open Go.RowKit
set_option linter.unusedVariables false

theorem step_of {P : Program} {ops : Array Oper} {o : Oper} {a : Act} {w : World} {K : Act → World → Prop} {Q : Exit → Act → World → Prop} {E : Prop} (hgd : o.guard = none) (h : o.wp P a w K Q) : if Region.wanted o (yielded ops a.tmps) = true then Oper.wp P o a w K Q else E := by
  have hw : Region.wanted o (yielded ops a.tmps) = true := by simp [Region.wanted, hgd]
  rw [if_pos hw]; exact h

theorem eval_tmp {a : Act} {t : Nat} {v : Value} (h : a.eval (.tmp t) = v) : a.tmps[t]?.getD undef = v := by
  rw [← h]; unfold Act.eval; simp [Array.getD_eq_getD_getElem?]

section
variable {d : Nat} {ty : TypeId} {pos : String} {af : Array Edge} {gd : Option (Nat × Bool)} {a : Act} {w : World} {K : Act → World → Prop} {Q : Exit → Act → World → Prop}

theorem wp_strs0 (h : K (a.put (some d) (.slice (some ⟨w.heap.size, 0, none⟩) 0 0)) (w.alloc (.cells #[] 9))) : Oper.wp Try.prog ⟨some d, .buildSlice 87 0 #[], ty, pos, af, gd⟩ a w K Q := by
  go_simp
  exact h

theorem wp_strs1 {s : ByteArray} (h : K (a.put (some d) (.slice (some ⟨w.heap.size, 0, none⟩) 1 1)) (w.alloc (.cells #[.string s] 9))) : Oper.wp Try.prog ⟨some d, .buildSlice 87 1 #[(0, .const (.string s))], ty, pos, af, gd⟩ a w K Q := by
  go_simp
  exact h

theorem wp_ints0 (h : K (a.put (some d) (.slice (some ⟨w.heap.size, 0, none⟩) 0 0)) (w.alloc (.cells #[] 3))) : Oper.wp Try.prog ⟨some d, .buildSlice 24 0 #[], ty, pos, af, gd⟩ a w K Q := by
  go_simp
  exact h

theorem wp_ints1 {t : Nat} {z : Int} (hx : a.eval (.tmp t) = .int .i64 z) (h : K (a.put (some d) (.slice (some ⟨w.heap.size, 0, none⟩) 1 1)) (w.alloc (.cells #[.int .i64 z] 3))) : Oper.wp Try.prog ⟨some d, .buildSlice 24 1 #[(0, .tmp t)], ty, pos, af, gd⟩ a w K Q := by
  have hx' := eval_tmp hx
  go_simp
  exact h

theorem wp_field2 {t g : Nat} (hx : a.eval (.tmp t) = .pointer (some ⟨g, 0, none⟩)) (h : K (a.put (some d) (.pointer (some ⟨g, 2, none⟩))) w) : Oper.wp Try.prog ⟨some d, .fieldAddr 89 (.tmp t) 2, ty, pos, af, gd⟩ a w K Q := by
  have hx' := eval_tmp hx
  go_simp
  exact h
end
end Go.Proofs.Ytokalajliphcdaa

/-
  What l2Copy gives: a place in new memory.
-/
namespace Go.Proofs.Ytokalajliphcdaa
open Go.RowKit Go.Deep
set_option linter.unusedVariables false

def intv0 (n : Nat) (Z : Nat → Int) : List Value := (List.range n).map fun i => .int .i64 (Z i)

/-- A place whose lists lie in new memory of their own. -/
structure NewNd (w : World) (d : Nd) (l : Loc) (W : World) : Prop where
  bel : Below w.heap.size w W
  names : W.ownsRow w.heap.size 9 1 (.slice l.nA d.nn l.nc) d.nn (strv (lst d.nn d.names))
  kids : W.ownsRow w.heap.size 3 1 (.slice l.kA d.kn l.kc) d.kn (intv0 d.kn d.kids)
  nA : ∃ b, l.nA = some ⟨b, 0, none⟩ ∧ w.heap.size ≤ b ∧ b < W.heap.size
  kA : ∃ b, l.kA = some ⟨b, 0, none⟩ ∧ w.heap.size ≤ b ∧ b < W.heap.size
  apart : ∀ b b', l.nA = some ⟨b, 0, none⟩ → l.kA = some ⟨b', 0, none⟩ → b ≠ b'

theorem NewNd.lies {w : World} {d : Nd} {l : Loc} {W : World} (h : NewNd w d l W) : NdIn W d l := by
  obtain ⟨b, e, _, hb⟩ := h.nA
  obtain ⟨b', e', _, hb'⟩ := h.kA
  have h1 := h.names
  have h2 := h.kids
  rw [e] at h1
  rw [e'] at h2
  unfold NdIn
  rw [e, e']
  refine ⟨(ownsRow_strs h1 (lst_length _ _) hb).congr (fun i hi => lst_getD _ _ _ hi), Or.inr ⟨b', 0, rfl, hb', fun i hi => ?_⟩⟩
  have := h2.cells (g := b') rfl i (.int .i64 (d.kids i)) (by simp [intv0, hi])
  rwa [addr_add] at this

theorem grown_cell (w : World) (b k : Nat) (v : Value) : w.grownBy (w.setCell ⟨b, k, none⟩ v) (some b) :=
  ⟨rfl, rfl, rfl, by simp [World.setCell], fun j _ hne => blk_setCell_other _ _ _ _ (fun e => hne (by rw [e]))⟩

theorem owns_lower {w : World} {B B' : Nat} {e : TypeId} {size n : Nat} {xs : List Value} {v : Value} (h : w.ownsRow B e size v n xs) (hB : B' ≤ B) : w.ownsRow B' e size v n xs :=
  ⟨h.1, h.2.imp id fun ⟨g, cap, cur, hv, hb, hr⟩ => ⟨g, cap, cur, hv, Nat.le_trans hB hb, hr⟩⟩

/-- A cell of a block that neither list lies in is written. -/
theorem NewNd.set {w : World} {d : Nd} {l : Loc} {W : World} (h : NewNd w d l W) {q k : Nat} {v : Value} (hq : w.heap.size ≤ q) (h1 : ∀ b, l.nA = some ⟨b, 0, none⟩ → b ≠ q) (h2 : ∀ b, l.kA = some ⟨b, 0, none⟩ → b ≠ q) : NewNd w d l (W.setCell ⟨q, k, none⟩ v) := by
  have hs : (W.setCell ⟨q, k, none⟩ v).heap.size = W.heap.size := by simp [World.setCell]
  obtain ⟨b, e, hb⟩ := h.nA
  obtain ⟨b', e', hb'⟩ := h.kA
  refine ⟨bel_put h.bel v hq, h.names.kept (grown_cell W q k v) (Or.inr ?_), h.kids.kept (grown_cell W q k v) (Or.inr ?_), ⟨b, e, by rw [hs]; exact hb⟩, ⟨b', e', by rw [hs]; exact hb'⟩, h.apart⟩
  · rw [e]; intro he; simp [Value.ownBlock] at he; exact h1 b e he
  · rw [e']; intro he; simp [Value.ownBlock] at he; exact h2 b' e' he

theorem owned_form {w : World} {B : Nat} {e : TypeId} {size n : Nat} {xs : List Value} {v : Value} (h : w.ownsRow B e size v n xs) {b : Nat} (hb : v.ownBlock = some b) : ∃ c, v = .slice (some ⟨b, 0, none⟩) n c ∧ B ≤ b ∧ b < w.heap.size := by
  have hlt := owns_block h hb
  rcases h.2 with ⟨h0, _⟩ | ⟨g, cap, cur, hv, _⟩
  · rw [h0] at hb; simp [Value.ownBlock] at hb
  · rw [hv] at hb
    simp [Value.ownBlock] at hb
    subst hb
    exact ⟨cap, hv, hlt.1, hlt.2⟩
end Go.Proofs.Ytokalajliphcdaa

/-
  What is kept, in memory of one's own: lists that grow, no two of which share a block. Plain facts.
-/
namespace Go.Proofs.Ytokalajliphcdaa
open Go.RowKit Go.Deep
set_option linter.unusedVariables false
set_option linter.unusedSimpArgs false

/-- Truth values as cells. -/
def boolv (n : Nat) (Z : Nat → Bool) : List Value := (List.range n).map fun i => .bool (Z i)
theorem boolv_len (n : Nat) (Z : Nat → Bool) : (boolv n Z).length = n := by simp [boolv]
theorem boolv_snoc (n : Nat) (Z : Nat → Bool) : boolv (n + 1) Z = boolv n Z ++ [.bool (Z n)] := by simp [boolv, List.range_succ]

/-- The cells of a place that was turned. -/
def it6 (o : Int) (d : Nd) (l : Loc) : List Value := [.int .i64 o, .int .i64 d.kind, .string d.text, .slice l.nA d.nn l.nc, .slice l.kA d.kn l.kc, .int .i64 d.turn]
/-- The cells of the first m. -/
def rowsI (O : Nat → Int) (D : Nat → Nd) (L : Nat → Loc) : Nat → List Value | 0 => [] | m + 1 => rowsI O D L m ++ it6 (O m) (D m) (L m)

section
variable {O O' : Nat → Int} {D D' : Nat → Nd} {L L' : Nat → Loc}

theorem rowsI_len : ∀ m, (rowsI O D L m).length = m * 6
  | 0 => rfl
  | m + 1 => by rw [rowsI, List.length_append, rowsI_len m]; simp [it6]; omega

theorem it6_one (o : Int) (d : Nd) (l : Loc) : ∀ u ∈ it6 o d l, u.oneCell' = true := by intro u hu; simp [it6] at hu; rcases hu with rfl | rfl | rfl | rfl | rfl | rfl <;> rfl

theorem rowsI_get : ∀ m i, i < m → ∀ r, r < 6 → (rowsI O D L m)[i * 6 + r]? = (it6 (O i) (D i) (L i))[r]?
  | 0, i, h, r, hr => by omega
  | m + 1, i, h, r, hr => by
    rw [rowsI]
    by_cases e : i < m
    · rw [List.getElem?_append_left (by rw [rowsI_len]; omega)]; exact rowsI_get m i e r hr
    · obtain rfl : i = m := by omega
      rw [List.getElem?_append_right (by rw [rowsI_len]; omega), rowsI_len, show i * 6 + r - i * 6 = r by omega]

theorem rowsI_ext : ∀ m, (∀ i, i < m → O' i = O i ∧ D' i = D i ∧ L' i = L i) → rowsI O' D' L' m = rowsI O D L m
  | 0, _ => rfl
  | m + 1, h => by rw [rowsI, rowsI, rowsI_ext m (fun i hi => h i (by omega)), (h m (by omega)).1, (h m (by omega)).2.1, (h m (by omega)).2.2]
end

/-- The rows of what is kept: 0 the truth values, 1 the places that were turned, then two for each of these. -/
def rowD (k : Nat) (Z : Nat → Bool) (m : Nat) (O : Nat → Int) (D : Nat → Nd) (L : Nat → Loc) (d : Nat) : Rw :=
  if d = 0 then ⟨4, 1, k, boolv k Z⟩ else if d = 1 then ⟨91, 6, m, rowsI O D L m⟩
  else if d % 2 = 0 then ⟨9, 1, (D ((d - 2) / 2)).nn, strv (lst (D ((d - 2) / 2)).nn (D ((d - 2) / 2)).names)⟩ else ⟨3, 1, (D ((d - 2) / 2)).kn, intv0 (D ((d - 2) / 2)).kn (D ((d - 2) / 2)).kids⟩
def valD (lv iv : Value) (D : Nat → Nd) (L : Nat → Loc) (d : Nat) : Value :=
  if d = 0 then lv else if d = 1 then iv else if d % 2 = 0 then .slice (L ((d - 2) / 2)).nA (D ((d - 2) / 2)).nn (L ((d - 2) / 2)).nc else .slice (L ((d - 2) / 2)).kA (D ((d - 2) / 2)).kn (L ((d - 2) / 2)).kc

/-- Rows of one's own, nil ones among them, no two of which share a block. -/
structure Rwn (B : Nat) (row : Nat → Rw) (live : Nat → Prop) (v : Nat → Value) (w : World) : Prop where
  own : ∀ d, live d → w.ownsRow B (row d).e (row d).size (v d) (row d).n (row d).xs
  apart : ∀ d d', live d → live d' → d ≠ d' → ∀ b, (v d).ownBlock = some b → (v d').ownBlock ≠ some b

structure OD (W : World) (B k : Nat) (Z : Nat → Bool) (m : Nat) (O : Nat → Int) (D : Nat → Nd) (L : Nat → Loc) (lv iv : Value) : Prop where
  rows : Rwn B (rowD k Z m O D L) (fun d => d < 2 + 2 * m) (valD lv iv D L) W

theorem owns_same {w w' : World} {B : Nat} {e : TypeId} {size n : Nat} {xs : List Value} {v : Value} (h : w.ownsRow B e size v n xs) (hw : ∀ b, v.ownBlock = some b → w'.heap[b]? = w.heap[b]?) : w'.ownsRow B e size v n xs := by
  refine ⟨h.1, ?_⟩
  rcases h.2 with h0 | ⟨g, cap, cur, hv, hB, hg, hr⟩
  · exact Or.inl h0
  · exact Or.inr ⟨g, cap, cur, hv, hB, (hw g (by rw [hv]; rfl)).trans hg, hr⟩

theorem owns_kept {w w' : World} {B : Nat} {e : TypeId} {size n : Nat} {xs : List Value} {v : Value} {r : Option Nat} (h : w.ownsRow B e size v n xs) (hg : w.grownBy w' r) (hr : ∀ b, v.ownBlock = some b → r ≠ some b) : w'.ownsRow B e size v n xs :=
  owns_same h fun b hb => hg.block b (owns_block h hb).2 (fun e => hr b hb e.symm)

/-- A place in new memory: its two lists are one's own; they may be nil. -/
structure NewNn (w : World) (d : Nd) (l : Loc) (W : World) : Prop where
  bel : Below w.heap.size w W
  names : W.ownsRow w.heap.size 9 1 (.slice l.nA d.nn l.nc) d.nn (strv (lst d.nn d.names))
  kids : W.ownsRow w.heap.size 3 1 (.slice l.kA d.kn l.kc) d.kn (intv0 d.kn d.kids)
  apart : ∀ b, (Value.slice l.nA d.nn l.nc).ownBlock = some b → (Value.slice l.kA d.kn l.kc).ownBlock ≠ some b

theorem NewNd.new {w : World} {d : Nd} {l : Loc} {W : World} (h : NewNd w d l W) : NewNn w d l W := by
  obtain ⟨b1, e1, g1, l1⟩ := h.nA
  obtain ⟨b2, e2, g2, l2⟩ := h.kA
  refine ⟨h.bel, h.names, h.kids, fun b hb => ?_⟩
  have := h.apart b1 b2 e1 e2
  rw [e1] at hb
  rw [e2]
  have hb' : b1 = b := by simpa [Value.ownBlock] using hb
  subst hb'
  simp [Value.ownBlock]
  omega

theorem NewNn.alloc {w : World} {d : Nd} {l : Loc} {W : World} (h : NewNn w d l W) (o : Obj) : NewNn w d l (W.alloc o) := ⟨h.bel.alloc h.bel.size _, h.names.alloc _, h.kids.alloc _, h.apart⟩

section
variable {W W' : World} {B k : Nat} {Z : Nat → Bool} {m : Nat} {O : Nat → Int} {D : Nat → Nd} {L : Nat → Loc} {lv iv lv' iv' : Value}

theorem OD.start (W : World) (B : Nat) (Z : Nat → Bool) (O : Nat → Int) (D : Nat → Nd) (L : Nat → Loc) : OD W B 0 Z 0 O D L (.slice none 0 0) (.slice none 0 0) :=
  ⟨⟨fun d hl => by
    have hd : d = 0 ∨ d = 1 := by omega
    rcases hd with rfl | rfl
    · exact World.ownsRow_nil _ _ _ _
    · exact World.ownsRow_nil _ _ _ _, fun d d' hl _ _ b hb => by
    have hd : d = 0 ∨ d = 1 := by omega
    rcases hd with rfl | rfl <;> simp [valD, Value.ownBlock] at hb⟩⟩

theorem OD.same (h : OD W B k Z m O D L lv iv) (hw : ∀ b, B ≤ b → b < W.heap.size → W'.heap[b]? = W.heap[b]?) : OD W' B k Z m O D L lv iv :=
  ⟨⟨fun d hl => owns_same (h.rows.own d hl) fun b hb => hw b (owns_block (h.rows.own d hl) hb).1 (owns_block (h.rows.own d hl) hb).2, h.rows.apart⟩⟩

theorem OD.below (h : OD W B k Z m O D L lv iv) (hb : Below W.heap.size W W') : OD W' B k Z m O D L lv iv := h.same fun b _ hlt => hb.block b hlt

theorem OD.off (h : OD W B k Z m O D L lv iv) {V i : Nat} (v : Value) (hV : V < B) : OD (W.setCell ⟨V, i, none⟩ v) B k Z m O D L lv iv := h.same fun b hB _ => blk_setCell_other _ _ _ _ (by show b ≠ V; omega)

theorem OD.lower {B' : Nat} (h : OD W B k Z m O D L lv iv) (hB : B' ≤ B) : OD W B' k Z m O D L lv iv := ⟨⟨fun d hl => owns_lower (h.rows.own d hl) hB, h.rows.apart⟩⟩

theorem OD.ownL (h : OD W B k Z m O D L lv iv) : W.ownsRow B 4 1 lv k (boolv k Z) := by
  have := h.rows.own 0 (by omega)
  simpa [rowD, valD] using this

theorem OD.ownI (h : OD W B k Z m O D L lv iv) : W.ownsRow B 91 6 iv m (rowsI O D L m) := by
  have := h.rows.own 1 (by omega)
  simpa [rowD, valD] using this

theorem rowD_rest {k k' m : Nat} {Z Z' : Nat → Bool} {d : Nat} (h : d ≠ 0) : rowD k' Z' m O D L d = rowD k Z m O D L d := by unfold rowD; rw [if_neg h, if_neg h]
theorem valD_rest {d : Nat} (h : d ≠ 0) : valD lv' iv D L d = valD lv iv D L d := by unfold valD; rw [if_neg h, if_neg h]

/-- One truth value more. -/
theorem OD.live (h : OD W B k Z m O D L lv iv) (hg : W.grownBy W' lv.ownBlock) (hown : W'.ownsRow B 4 1 lv' (k + 1) (boolv (k + 1) Z)) (hb : ∀ b, lv'.ownBlock = some b → lv.ownBlock = some b ∨ W.heap.size ≤ b) : OD W' B (k + 1) Z m O D L lv' iv := by
  have key : ∀ d, d < 2 + 2 * m → d ≠ 0 → ∀ b, (valD lv iv D L d).ownBlock = some b → b < W.heap.size ∧ lv.ownBlock ≠ some b := fun d hl hne b hb => ⟨(owns_block (h.rows.own d hl) hb).2, fun e => h.rows.apart d 0 hl (by omega) hne b hb (by simpa [valD] using e)⟩
  refine ⟨⟨fun d hl => ?_, fun d1 d2 g1 g2 hne b h1 h2 => ?_⟩⟩
  · by_cases e : d = 0
    · subst e; simpa [rowD, valD] using hown
    · rw [rowD_rest (k := k) (Z := Z) e, valD_rest (lv := lv) e]
      exact owns_kept (h.rows.own d hl) hg fun b hb => (key d hl e b hb).2
  · by_cases e1 : d1 = 0
    · have e2 : d2 ≠ 0 := fun e => hne (e1.trans e.symm)
      subst e1
      rw [valD_rest (lv := lv) e2] at h2
      have h1' : lv'.ownBlock = some b := by simpa [valD] using h1
      have := key d2 g2 e2 b h2
      rcases hb b h1' with e | e
      · exact this.2 e
      · omega
    · by_cases e2 : d2 = 0
      · subst e2
        rw [valD_rest (lv := lv) e1] at h1
        have h2' : lv'.ownBlock = some b := by simpa [valD] using h2
        have := key d1 g1 e1 b h1
        rcases hb b h2' with e | e
        · exact this.2 e
        · omega
      · rw [valD_rest (lv := lv) e1] at h1
        rw [valD_rest (lv := lv) e2] at h2
        exact h.rows.apart d1 d2 g1 g2 hne b h1 h2

/-- One place that was turned more: its lists are new, the list of them has grown. -/
theorem OD.item (h : OD W B k Z m O D L lv iv) {W1 : World} {o : Int} {x : Nd} {l : Loc} (hN : NewNn W x l W1) (hB : B ≤ W.heap.size) (hg : W1.grownBy W' iv.ownBlock) (hown : W'.ownsRow B 91 6 iv' (m + 1) (rowsI O D L m ++ it6 o x l)) (hb : ∀ b, iv'.ownBlock = some b → iv.ownBlock = some b ∨ W1.heap.size ≤ b) :
    OD W' B k Z (m + 1) (fun i => if i = m then o else O i) (fun i => if i = m then x else D i) (fun i => if i = m then l else L i) lv iv' := by
  have h1 := h.below hN.bel
  have hsz := hN.bel.size
  have hrow : rowsI (fun i => if i = m then o else O i) (fun i => if i = m then x else D i) (fun i => if i = m then l else L i) (m + 1) = rowsI O D L m ++ it6 o x l := by
    rw [rowsI, rowsI_ext (O := O) (D := D) (L := L) m (fun i hi => by simp [show i ≠ m by omega])]
    simp
  have hib : ∀ b, iv.ownBlock = some b → b < W.heap.size := fun b e => (owns_block h.ownI e).2
  have key : ∀ d, d < 2 + 2 * m → d ≠ 1 → ∀ b, (valD lv iv D L d).ownBlock = some b → b < W.heap.size ∧ iv.ownBlock ≠ some b := fun d hl hne b hb => ⟨(owns_block (h.rows.own d hl) hb).2, fun e => h.rows.apart d 1 hl (by omega) hne b hb (by simpa [valD] using e)⟩
  have e1 : rowD k Z (m + 1) (fun i => if i = m then o else O i) (fun i => if i = m then x else D i) (fun i => if i = m then l else L i) 1 = ⟨91, 6, m + 1, rowsI O D L m ++ it6 o x l⟩ := by unfold rowD; rw [hrow]; simp
  have v1 : valD lv iv' (fun i => if i = m then x else D i) (fun i => if i = m then l else L i) 1 = iv' := by simp [valD]
  have e2 : rowD k Z (m + 1) (fun i => if i = m then o else O i) (fun i => if i = m then x else D i) (fun i => if i = m then l else L i) (2 + 2 * m) = ⟨9, 1, x.nn, strv (lst x.nn x.names)⟩ := by
    have hi : (2 + 2 * m - 2) / 2 = m := by omega
    unfold rowD; rw [if_neg (by omega), if_neg (by omega), if_pos (by omega)]; simp [hi]
  have v2 : valD lv iv' (fun i => if i = m then x else D i) (fun i => if i = m then l else L i) (2 + 2 * m) = .slice l.nA x.nn l.nc := by
    have hi : (2 + 2 * m - 2) / 2 = m := by omega
    unfold valD; rw [if_neg (by omega), if_neg (by omega), if_pos (by omega)]; simp [hi]
  have e3 : rowD k Z (m + 1) (fun i => if i = m then o else O i) (fun i => if i = m then x else D i) (fun i => if i = m then l else L i) (3 + 2 * m) = ⟨3, 1, x.kn, intv0 x.kn x.kids⟩ := by
    have hi : (3 + 2 * m - 2) / 2 = m := by omega
    unfold rowD; rw [if_neg (by omega), if_neg (by omega), if_neg (by omega)]; simp [hi]
  have v3 : valD lv iv' (fun i => if i = m then x else D i) (fun i => if i = m then l else L i) (3 + 2 * m) = .slice l.kA x.kn l.kc := by
    have hi : (3 + 2 * m - 2) / 2 = m := by omega
    unfold valD; rw [if_neg (by omega), if_neg (by omega), if_neg (by omega)]; simp [hi]
  have e4 : ∀ d, d < 2 + 2 * m → d ≠ 1 → rowD k Z (m + 1) (fun i => if i = m then o else O i) (fun i => if i = m then x else D i) (fun i => if i = m then l else L i) d = rowD k Z m O D L d := fun d hl hne => by
    unfold rowD
    by_cases e0 : d = 0
    · rw [if_pos e0, if_pos e0]
    · have hi : (d - 2) / 2 ≠ m := by omega
      rw [if_neg e0, if_neg hne, if_neg e0, if_neg hne]; simp [hi]
  have v4 : ∀ d, d < 2 + 2 * m → d ≠ 1 → valD lv iv' (fun i => if i = m then x else D i) (fun i => if i = m then l else L i) d = valD lv iv D L d := fun d hl hne => by
    unfold valD
    by_cases e0 : d = 0
    · rw [if_pos e0, if_pos e0]
    · have hi : (d - 2) / 2 ≠ m := by omega
      rw [if_neg e0, if_neg hne, if_neg e0, if_neg hne]; simp [hi]
  have hcase : ∀ d, d < 2 + 2 * (m + 1) → (d < 2 + 2 * m ∧ d ≠ 1) ∨ d = 1 ∨ d = 2 + 2 * m ∨ d = 3 + 2 * m := fun d hl => by omega
  have hnl : ∀ b, (Value.slice l.nA x.nn l.nc).ownBlock = some b → W.heap.size ≤ b ∧ b < W1.heap.size := fun b e => owns_block hN.names e
  have hkl : ∀ b, (Value.slice l.kA x.kn l.kc).ownBlock = some b → W.heap.size ≤ b ∧ b < W1.heap.size := fun b e => owns_block hN.kids e
  refine ⟨⟨fun d hl => ?_, fun d1 d2 g1 g2 hne b p1 p2 => ?_⟩⟩
  · rcases hcase d hl with ⟨h2, h3⟩ | rfl | rfl | rfl
    · rw [e4 d h2 h3, v4 d h2 h3]
      exact owns_kept (h1.rows.own d h2) hg fun b hb => (key d h2 h3 b hb).2
    · rw [e1, v1]; exact hown
    · rw [e2, v2]
      exact owns_kept (owns_lower hN.names hB) hg fun b hb e => by have h4 := hnl b hb; have h5 := hib b e; omega
    · rw [e3, v3]
      exact owns_kept (owns_lower hN.kids hB) hg fun b hb e => by have h4 := hkl b hb; have h5 := hib b e; omega
  · have cl : ∀ d, d < 2 + 2 * (m + 1) → (valD lv iv' (fun i => if i = m then x else D i) (fun i => if i = m then l else L i) d).ownBlock = some b → (d < 2 + 2 * m ∧ d ≠ 1 ∧ (valD lv iv D L d).ownBlock = some b ∧ b < W.heap.size ∧ iv.ownBlock ≠ some b) ∨ (d = 1 ∧ (iv.ownBlock = some b ∧ b < W.heap.size ∨ W1.heap.size ≤ b)) ∨ (d = 2 + 2 * m ∧ (Value.slice l.nA x.nn l.nc).ownBlock = some b ∧ W.heap.size ≤ b ∧ b < W1.heap.size) ∨ (d = 3 + 2 * m ∧ (Value.slice l.kA x.kn l.kc).ownBlock = some b ∧ W.heap.size ≤ b ∧ b < W1.heap.size) := fun d hl hv => by
      rcases hcase d hl with ⟨h2, h3⟩ | rfl | rfl | rfl
      · rw [v4 d h2 h3] at hv
        exact Or.inl ⟨h2, h3, hv, key d h2 h3 b hv⟩
      · rw [v1] at hv
        exact Or.inr (Or.inl ⟨rfl, (hb b hv).imp (fun e => ⟨e, hib b e⟩) id⟩)
      · rw [v2] at hv
        exact Or.inr (Or.inr (Or.inl ⟨rfl, hv, hnl b hv⟩))
      · rw [v3] at hv
        exact Or.inr (Or.inr (Or.inr ⟨rfl, hv, hkl b hv⟩))
    rcases cl d1 g1 p1 with ⟨a1, a2, a3, a4, a5⟩ | ⟨a1, a2⟩ | ⟨a1, a2, a3, a4⟩ | ⟨a1, a2, a3, a4⟩ <;> rcases cl d2 g2 p2 with ⟨z1, z2, z3, z4, z5⟩ | ⟨z1, z2⟩ | ⟨z1, z2, z3, z4⟩ | ⟨z1, z2, z3, z4⟩
    · exact h.rows.apart d1 d2 a1 z1 hne b a3 z3
    · rcases z2 with ⟨e, _⟩ | e
      · exact a5 e
      · omega
    · omega
    · omega
    · rcases a2 with ⟨e, _⟩ | e
      · exact z5 e
      · omega
    · omega
    · rcases a2 with ⟨_, e⟩ | e <;> omega
    · rcases a2 with ⟨_, e⟩ | e <;> omega
    · omega
    · rcases z2 with ⟨_, e⟩ | e <;> omega
    · omega
    · exact hN.apart b a2 z2
    · omega
    · rcases z2 with ⟨_, e⟩ | e <;> omega
    · exact hN.apart b z2 a2
    · omega
end
end Go.Proofs.Ytokalajliphcdaa

/-
  What the helpers that mark a list do at a row of one's own, and that it is told to hold its marks.
-/
namespace Go.Proofs.Ytokalajliphcdaa
open Go.RowKit Go.Deep
set_option linter.unusedVariables false
set_option linter.unusedSimpArgs false

theorem intv0_set (n m : Nat) (Z : Nat → Int) (z : Int) : (intv0 n Z).set m (.int .i64 z) = intv0 n (fun i => if i = m then z else Z i) := by
  apply List.ext_getElem?
  intro j
  rw [List.getElem?_set]
  by_cases e : m = j
  · subst e
    by_cases h : m < n <;> simp [intv0, h]
  · by_cases h : j < n <;> simp [intv0, h, e, Ne.symm e]

theorem boolv_set (n m : Nat) (Z : Nat → Bool) (z : Bool) : (boolv n Z).set m (.bool z) = boolv n (fun i => if i = m then z else Z i) := by
  apply List.ext_getElem?
  intro j
  rw [List.getElem?_set]
  by_cases e : m = j
  · subst e
    by_cases h : m < n <;> simp [boolv, h]
  · by_cases h : j < n <;> simp [boolv, h, e, Ne.symm e]

theorem intv0_ext {n : Nat} {Z Y : Nat → Int} (h : ∀ i, i < n → Z i = Y i) : intv0 n Z = intv0 n Y := by
  unfold intv0
  exact List.map_congr_left fun i hi => by rw [h i (by simpa using hi)]
theorem boolv_ext {n : Nat} {Z Y : Nat → Bool} (h : ∀ i, i < n → Z i = Y i) : boolv n Z = boolv n Y := by
  unfold boolv
  exact List.map_congr_left fun i hi => by rw [h i (by simpa using hi)]

theorem owns_addr {w : World} {B : Nat} {e : TypeId} {size n c : Nat} {a : Option Addr} {xs : List Value} (h : w.ownsRow B e size (.slice a n c) n xs) (hn : 0 < n) : ∃ g, a = some ⟨g, 0, none⟩ ∧ g < w.heap.size := by
  rcases h.2 with ⟨h0, hz⟩ | ⟨g, cap, cur, hv, _, hg, _⟩
  · omega
  · cases hv
    exact ⟨g, rfl, (Array.getElem?_eq_some_iff.1 hg).1⟩

set_option maxHeartbeats 1000000 in
theorem markIntS_own (a : Option Addr) (n c k B : Nat) (Z : Nat → Int) (w : World) (h : w.ownsRow B 3 1 (.slice a n c) n (intv0 n Z)) (hn : n ≤ 1048576) (hk : k ≤ 100000000) :
    Calls Try.prog 12 #[.slice a n c, .int .i64 k] w fun e w' => e = .returned (.int .i64 ((k + n : Nat) : Int)) ∧ w'.ownsRow B 3 1 (.slice a n c) n (intv0 n (fun i => ((k + i : Nat) : Int))) ∧ w.grownBy w' (Value.slice a n c).ownBlock := by
  go_enter Try.func12, Try.ntmps12
  go_wp2
  go_loopw [1, 5] (fun kk i wr => ∃ m : Nat, m ≤ n ∧ i = .int .i64 m ∧ kk = .int .i64 ((k + m : Nat) : Int) ∧ wr.ownsRow B 3 1 (.slice a n c) n (intv0 n (fun i => if i < m then ((k + i : Nat) : Int) else Z i)) ∧ w.grownBy wr (Value.slice a n c).ownBlock) (fun _ i _ => n - (intOf i).toNat)
  case atStart => exact ⟨0, Nat.zero_le _, rfl, rfl, by simpa using h, World.grownBy.refl _ _⟩
  case round =>
    obtain ⟨m, hm, rfl, rfl, hrow, hg⟩ := hrel
    by_cases hlt : m < n
    · obtain ⟨g, rfl, hgl⟩ := owns_addr hrow (by omega)
      have hlti : (m : Int) < (n : Int) := by omega
      have hcm := hrow.cellAt m (by omega)
      have hfm := hrow.frozenAt m
      rw [show (intv0 n (fun i => if i < m then ((k + i : Nat) : Int) else Z i))[m]? = some (.int .i64 (Z m)) from by simp [intv0, hlt]] at hcm
      have HR : Hid _ := hrow.stored m (.int .i64 ((k + m : Nat) : Int))
      have HG : Hid (w.grownBy wr (Value.slice (some ⟨g, 0, none⟩) n c).ownBlock) := hg
      clear hrow hg
      go_wp2
      go_roundw
      case rel => exact ⟨m + 1, by omega, by go_num, by go_num, by
        have := HR.out.1
        rw [intv0_set] at this
        rw [intv0_ext (Y := fun i => if i = m then ((k + m : Nat) : Int) else if i < m then ((k + i : Nat) : Int) else Z i) (fun i hi => by
          by_cases e : i = m
          · subst e; simp
          · by_cases e2 : i < m
            · simp [e, e2, show i < m + 1 by omega]
            · simp [e, e2, show ¬ i < m + 1 by omega])]
        exact this, HG.out.trans HR.out.2⟩
      case measure => simp [intOf]; omega
    · obtain rfl : m = n := by omega
      have HR : Hid _ := And.intro hrow hg
      clear hrow hg
      go_wp2
      go_ret
      refine ⟨rfl, ?_, HR.out.2⟩
      rw [intv0_ext (Y := fun i => if i < m then ((k + i : Nat) : Int) else Z i) (fun i hi => by simp [hi])]
      exact HR.out.1

set_option maxHeartbeats 1000000 in
theorem heldIntS_own (a : Option Addr) (n c k : Nat) (w : World) (h : IsInts w a n (fun i => ((k + i : Nat) : Int))) (hn : n ≤ 1048576) (hk : k ≤ 100000000) :
    Calls Try.prog 13 #[.slice a n c, .int .i64 k] w fun e w' => e = .returned (.int .i64 ((k + n : Nat) : Int)) ∧ w' = w := by
  go_enter Try.func13, Try.ntmps13
  go_wp2
  go_loopw [1, 5] (fun kk i wr => ∃ m : Nat, m ≤ n ∧ i = .int .i64 m ∧ kk = .int .i64 ((k + m : Nat) : Int) ∧ wr = w) (fun _ i _ => n - (intOf i).toNat)
  case atStart => exact ⟨0, Nat.zero_le _, rfl, rfl, rfl⟩
  case round =>
    obtain ⟨m, hm, rfl, rfl, rfl⟩ := hrel
    by_cases hlt : m < n
    · obtain ⟨b, off, rfl, hlt2, hc⟩ := h.at hlt
      have g0 := hc m hlt
      have hlti : (m : Int) < (n : Int) := by omega
      clear hc
      go_wp2
      go_roundw
      case rel => exact ⟨m + 1, by omega, by go_num, by go_num, trivial⟩
      case measure => simp [intOf]; omega
    · obtain rfl : m = n := by omega
      go_wp2
      go_ret
      exact ⟨rfl, rfl⟩

/-- The marks of truth values. -/
def markB (k : Nat) : Nat → Bool := fun i => decide ((k + i) % 3 = 0)

theorem mod3 (k m : Nat) : (((k : Int) + (m : Int)) % 3 == 0) = markB k m := by
  unfold markB
  by_cases e : (k + m) % 3 = 0
  · rw [decide_eq_true e]
    have : ((k : Int) + (m : Int)) % 3 = 0 := by omega
    simp [this]
  · rw [decide_eq_false e]
    have : ¬ ((k : Int) + (m : Int)) % 3 = 0 := by omega
    simp [this]

set_option maxHeartbeats 1000000 in
theorem markBoolS_own (a : Option Addr) (n c k B : Nat) (Z : Nat → Bool) (w : World) (h : w.ownsRow B 4 1 (.slice a n c) n (boolv n Z)) (hn : n ≤ 1048576) (hk : k ≤ 100000000) :
    Calls Try.prog 34 #[.slice a n c, .int .i64 k] w fun e w' => e = .returned (.int .i64 ((k + n : Nat) : Int)) ∧ w'.ownsRow B 4 1 (.slice a n c) n (boolv n (markB k)) ∧ w.grownBy w' (Value.slice a n c).ownBlock := by
  go_enter Try.func34, Try.ntmps34
  go_wp2
  go_loopw [1, 5] (fun kk i wr => ∃ m : Nat, m ≤ n ∧ i = .int .i64 m ∧ kk = .int .i64 ((k + m : Nat) : Int) ∧ wr.ownsRow B 4 1 (.slice a n c) n (boolv n (fun i => if i < m then markB k i else Z i)) ∧ w.grownBy wr (Value.slice a n c).ownBlock) (fun _ i _ => n - (intOf i).toNat)
  case atStart => exact ⟨0, Nat.zero_le _, rfl, rfl, by simpa using h, World.grownBy.refl _ _⟩
  case round =>
    obtain ⟨m, hm, rfl, rfl, hrow, hg⟩ := hrel
    by_cases hlt : m < n
    · obtain ⟨g, rfl, hgl⟩ := owns_addr hrow (by omega)
      have hlti : (m : Int) < (n : Int) := by omega
      have hcm := hrow.cellAt m (by omega)
      have hfm := hrow.frozenAt m
      rw [show (boolv n (fun i => if i < m then markB k i else Z i))[m]? = some (.bool (Z m)) from by simp [boolv, hlt]] at hcm
      have hmod : (((k : Int) + (m : Int)) % 3 == 0) = markB k m := mod3 k m
      have HR : Hid _ := hrow.stored m (.bool (markB k m))
      have HG : Hid (w.grownBy wr (Value.slice (some ⟨g, 0, none⟩) n c).ownBlock) := hg
      have HM : Hid _ := hmod
      clear hrow hg hmod
      go_wp2
      go_roundw
      case rel => exact ⟨m + 1, by omega, by go_num, by go_num, by
        have := HR.out.1
        rw [boolv_set] at this
        rw [HM.out, boolv_ext (Y := fun i => if i = m then markB k m else if i < m then markB k i else Z i) (fun i hi => by
          by_cases e : i = m
          · subst e; simp
          · by_cases e2 : i < m
            · simp [e, e2, show i < m + 1 by omega]
            · simp [e, e2, show ¬ i < m + 1 by omega])]
        exact this, by rw [HM.out]; exact HG.out.trans HR.out.2⟩
      case measure => simp [intOf]; omega
    · obtain rfl : m = n := by omega
      have HR : Hid _ := And.intro hrow hg
      clear hrow hg
      go_wp2
      go_ret
      refine ⟨rfl, ?_, HR.out.2⟩
      rw [boolv_ext (Y := fun i => if i < m then markB k i else Z i) (fun i hi => by simp [hi])]
      exact HR.out.1

theorem strv_set (n m : Nat) (S : Nat → ByteArray) (s : ByteArray) : (strv (lst n S)).set m (.string s) = strv (lst n (fun i => if i = m then s else S i)) := by
  apply List.ext_getElem?
  intro j
  rw [List.getElem?_set]
  by_cases e : m = j
  · subst e
    by_cases h : m < n <;> simp [strv, lst, h]
  · by_cases h : j < n <;> simp [strv, lst, h, e, Ne.symm e]

theorem strv_ext {n : Nat} {S T : Nat → ByteArray} (h : ∀ i, i < n → S i = T i) : strv (lst n S) = strv (lst n T) := by
  unfold lst
  congr 1
  exact List.map_congr_left fun i hi => h i (by simpa using hi)

theorem grown_of_below {w w' : World} (h : Below w.heap.size w w') (r : Option Nat) : w.grownBy w' r := ⟨h.os, h.tape, h.output, h.size, fun k hk _ => h.block k hk⟩

set_option maxHeartbeats 1000000 in
theorem markStringS_own (a : Option Addr) (n c k B : Nat) (S : Nat → ByteArray) (w : World) (h : w.ownsRow B 9 1 (.slice a n c) n (strv (lst n S))) (hn : n ≤ 1048576) (hk1 : 1 ≤ k) (hk : k ≤ 100000000) :
    Calls Try.prog 47 #[.slice a n c, .int .i64 k] w fun e w' => e = .returned (.int .i64 ((k + n : Nat) : Int)) ∧ w'.ownsRow B 9 1 (.slice a n c) n (strv (lst n (marks k))) ∧ w.grownBy w' (Value.slice a n c).ownBlock := by
  go_enter Try.func47, Try.ntmps47
  go_wp2
  go_loopw [1, 5] (fun kk i wr => ∃ m : Nat, m ≤ n ∧ i = .int .i64 m ∧ kk = .int .i64 ((k + m : Nat) : Int) ∧ wr.ownsRow B 9 1 (.slice a n c) n (strv (lst n (fun i => if i < m then marks k i else S i))) ∧ w.grownBy wr (Value.slice a n c).ownBlock) (fun _ i _ => n - (intOf i).toNat)
  case atStart => exact ⟨0, Nat.zero_le _, rfl, rfl, by simpa using h, World.grownBy.refl _ _⟩
  case round =>
    obtain ⟨m, hm, rfl, rfl, hrow, hg⟩ := hrel
    by_cases hlt : m < n
    · obtain ⟨g, rfl, hgl⟩ := owns_addr hrow (by omega)
      have hlti : (m : Int) < (n : Int) := by omega
      have HRow : Hid _ := hrow
      have HG : Hid (w.grownBy wr (Value.slice (some ⟨g, 0, none⟩) n c).ownBlock) := hg
      clear hrow hg
      go_wp2_with fail
      refine (markText_any (k + m) _ (by omega) (by omega)).mono ?_
      rintro e w1 ⟨rfl, hb1⟩
      have hrow1 := owns_same HRow.out (w' := w1) (fun b hb => hb1.block b (owns_block HRow.out hb).2)
      have hcm := hrow1.cellAt m (by omega)
      have hfm := hrow1.frozenAt m
      rw [show (strv (lst n (fun i => if i < m then marks k i else S i)))[m]? = some (.string (S m)) from by simp [strv, lst, hlt]] at hcm
      have HR : Hid _ := hrow1.stored m (.string ⟨(markOf (k + m)).toArray⟩)
      have HG1 : Hid (w.grownBy w1 (Value.slice (some ⟨g, 0, none⟩) n c).ownBlock) := HG.out.trans (grown_of_below hb1 _)
      clear hrow1 hb1 HG HRow
      go_wp2
      go_roundw
      case rel => exact ⟨m + 1, by omega, by go_num, by go_num, by
        have := HR.out.1
        rw [strv_set] at this
        rw [strv_ext (T := fun i => if i = m then (⟨(markOf (k + m)).toArray⟩ : ByteArray) else if i < m then marks k i else S i) (fun i hi => by
          by_cases e : i = m
          · subst e; simp [marks]
          · by_cases e2 : i < m
            · simp [e, e2, show i < m + 1 by omega]
            · simp [e, e2, show ¬ i < m + 1 by omega])]
        exact this, HG1.out.trans HR.out.2⟩
      case measure => simp [intOf]; omega
    · obtain rfl : m = n := by omega
      have HR : Hid _ := And.intro hrow hg
      clear hrow hg
      go_wp2
      go_ret
      refine ⟨rfl, ?_, HR.out.2⟩
      rw [strv_ext (T := fun i => if i < m then marks k i else S i) (fun i hi => by simp [hi])]
      exact HR.out.1
end Go.Proofs.Ytokalajliphcdaa

/-
  What is kept, in memory of one's own, when one of its lists is written into. Plain facts.
-/
namespace Go.Proofs.Ytokalajliphcdaa
open Go.RowKit Go.Deep
set_option linter.unusedVariables false
set_option linter.unusedSimpArgs false

section
variable {W W' : World} {B k : Nat} {Z Z' : Nat → Bool} {m : Nat} {O O' : Nat → Int} {D D' : Nat → Nd} {L : Nat → Loc} {lv iv : Value}

theorem OD.turn (h : OD W B k Z m O D L lv iv) {d0 : Nat} (hd0 : d0 < 2 + 2 * m) (hg : W.grownBy W' (valD lv iv D L d0).ownBlock) (hrow : ∀ d, d < 2 + 2 * m → d ≠ d0 → rowD k Z' m O' D' L d = rowD k Z m O D L d) (hval : ∀ d, d < 2 + 2 * m → valD lv iv D' L d = valD lv iv D L d)
    (hown : W'.ownsRow B (rowD k Z' m O' D' L d0).e (rowD k Z' m O' D' L d0).size (valD lv iv D L d0) (rowD k Z' m O' D' L d0).n (rowD k Z' m O' D' L d0).xs) : OD W' B k Z' m O' D' L lv iv := by
  refine ⟨⟨fun d hl => ?_, fun d1 d2 g1 g2 hne b h1 h2 => ?_⟩⟩
  · rw [hval d hl]
    by_cases e : d = d0
    · subst e; exact hown
    · rw [hrow d hl e]
      exact owns_kept (h.rows.own d hl) hg fun b hb => Ne.symm (Ne.symm (h.rows.apart d d0 hl hd0 e b hb))
  · rw [hval d1 g1] at h1
    rw [hval d2 g2] at h2
    exact h.rows.apart d1 d2 g1 g2 hne b h1 h2

/-- The same lengths everywhere: the same addresses. -/
theorem val_same (hl : ∀ i, i < m → (D' i).nn = (D i).nn ∧ (D' i).kn = (D i).kn) : ∀ d, d < 2 + 2 * m → valD lv iv D' L d = valD lv iv D L d := fun d hd => by
  unfold valD
  by_cases e0 : d = 0
  · rw [if_pos e0, if_pos e0]
  · by_cases e1 : d = 1
    · rw [if_neg e0, if_pos e1, if_neg e0, if_pos e1]
    · rw [if_neg e0, if_neg e1, if_neg e0, if_neg e1, (hl ((d - 2) / 2) (by omega)).1, (hl ((d - 2) / 2) (by omega)).2]

/-- The truth values are others. -/
theorem OD.turnLive (h : OD W B k Z m O D L lv iv) (hg : W.grownBy W' lv.ownBlock) (hown : W'.ownsRow B 4 1 lv k (boolv k Z')) : OD W' B k Z' m O D L lv iv :=
  h.turn (d0 := 0) (by omega) (by simpa [valD] using hg) (fun d hl hne => rowD_rest hne) (fun d hl => rfl) (by simpa [rowD, valD] using hown)

/-- The list of places holds others, of the same lists. -/
theorem OD.turnItems (h : OD W B k Z m O D L lv iv) (hl : ∀ i, i < m → (D' i).nn = (D i).nn ∧ (D' i).kn = (D i).kn ∧ (D' i).names = (D i).names ∧ (D' i).kids = (D i).kids) (hg : W.grownBy W' iv.ownBlock) (hown : W'.ownsRow B 91 6 iv m (rowsI O' D' L m)) : OD W' B k Z m O' D' L lv iv :=
  h.turn (d0 := 1) (by omega) (by simpa [valD] using hg) (fun d hd hne => by
    unfold rowD
    by_cases e0 : d = 0
    · rw [if_pos e0, if_pos e0]
    · obtain ⟨a1, a2, a3, a4⟩ := hl ((d - 2) / 2) (by omega)
      rw [if_neg e0, if_neg hne, if_neg e0, if_neg hne, a1, a2, a3, a4]) (val_same fun i hi => ⟨(hl i hi).1, (hl i hi).2.1⟩) (by simpa [rowD, valD] using hown)

/-- The names of a place are others. -/
theorem OD.turnNames (h : OD W B k Z m O D L lv iv) {i : Nat} (hi : i < m) (S : Nat → ByteArray) (hg : W.grownBy W' (Value.slice (L i).nA (D i).nn (L i).nc).ownBlock) (hown : W'.ownsRow B 9 1 (.slice (L i).nA (D i).nn (L i).nc) (D i).nn (strv (lst (D i).nn S))) :
    OD W' B k Z m O (fun j => if j = i then { D i with names := S } else D j) L lv iv := by
  have hd : (2 + 2 * i - 2) / 2 = i := by omega
  have hv : valD lv iv D L (2 + 2 * i) = .slice (L i).nA (D i).nn (L i).nc := by unfold valD; rw [if_neg (by omega), if_neg (by omega), if_pos (by omega), hd]
  refine h.turn (d0 := 2 + 2 * i) (by omega) (by rw [hv]; exact hg) (fun d hdl hne => ?_) (val_same fun j hj => by by_cases e : j = i <;> simp [e]) ?_
  · have hrows : rowsI O (fun j => if j = i then { D i with names := S } else D j) L m = rowsI O D L m := by
      have key : ∀ q, rowsI O (fun j => if j = i then { D i with names := S } else D j) L q = rowsI O D L q := fun q => by
        induction q with
        | zero => rfl
        | succ q ih =>
          rw [rowsI, rowsI, ih]
          by_cases e : q = i
          · subst e; simp [it6]
          · simp [e]
      exact key m
    unfold rowD
    by_cases e0 : d = 0
    · rw [if_pos e0, if_pos e0]
    · by_cases e1 : d = 1
      · rw [if_neg e0, if_pos e1, if_neg e0, if_pos e1, hrows]
      · rw [if_neg e0, if_neg e1, if_neg e0, if_neg e1]
        by_cases e : (d - 2) / 2 = i
        · have : d % 2 ≠ 0 := by omega
          rw [if_neg this, if_neg this]
          simp [e]
        · simp [e]
  · rw [hv]
    unfold rowD
    rw [if_neg (by omega), if_neg (by omega), if_pos (by omega), hd]
    simpa using hown

/-- The places in a directory are others. -/
theorem OD.turnKids (h : OD W B k Z m O D L lv iv) {i : Nat} (hi : i < m) (K : Nat → Int) (hg : W.grownBy W' (Value.slice (L i).kA (D i).kn (L i).kc).ownBlock) (hown : W'.ownsRow B 3 1 (.slice (L i).kA (D i).kn (L i).kc) (D i).kn (intv0 (D i).kn K)) :
    OD W' B k Z m O (fun j => if j = i then { D i with kids := K } else D j) L lv iv := by
  have hd : (3 + 2 * i - 2) / 2 = i := by omega
  have hv : valD lv iv D L (3 + 2 * i) = .slice (L i).kA (D i).kn (L i).kc := by unfold valD; rw [if_neg (by omega), if_neg (by omega), if_neg (by omega), hd]
  refine h.turn (d0 := 3 + 2 * i) (by omega) (by rw [hv]; exact hg) (fun d hdl hne => ?_) (val_same fun j hj => by by_cases e : j = i <;> simp [e]) ?_
  · have hrows : rowsI O (fun j => if j = i then { D i with kids := K } else D j) L m = rowsI O D L m := by
      have key : ∀ q, rowsI O (fun j => if j = i then { D i with kids := K } else D j) L q = rowsI O D L q := fun q => by
        induction q with
        | zero => rfl
        | succ q ih =>
          rw [rowsI, rowsI, ih]
          by_cases e : q = i
          · subst e; simp [it6]
          · simp [e]
      exact key m
    unfold rowD
    by_cases e0 : d = 0
    · rw [if_pos e0, if_pos e0]
    · by_cases e1 : d = 1
      · rw [if_neg e0, if_pos e1, if_neg e0, if_pos e1, hrows]
      · rw [if_neg e0, if_neg e1, if_neg e0, if_neg e1]
        by_cases e : (d - 2) / 2 = i
        · have : d % 2 = 0 := by omega
          rw [if_pos this, if_pos this]
          simp [e]
        · simp [e]
  · rw [hv]
    unfold rowD
    rw [if_neg (by omega), if_neg (by omega), if_neg (by omega), hd]
    simpa using hown
end
end Go.Proofs.Ytokalajliphcdaa

/-
  A tree in memory of one's own: its list of places, and the lists of each place; no two share a block. Plain facts.
-/
namespace Go.Proofs.Ytokalajliphcdaa
open Go.RowKit Go.Deep
set_option linter.unusedVariables false
set_option linter.unusedSimpArgs false

/-- The cells of a place that was turned. -/
def nt5 (o : Int) (d : Nd) (l : Loc) : List Value := [.int .i64 d.kind, .string d.text, .slice l.nA d.nn l.nc, .slice l.kA d.kn l.kc, .int .i64 d.turn]
/-- The cells of the first m. -/
def rowsT (O : Nat → Int) (D : Nat → Nd) (L : Nat → Loc) : Nat → List Value | 0 => [] | m + 1 => rowsT O D L m ++ nt5 (O m) (D m) (L m)

section
variable {O O' : Nat → Int} {D D' : Nat → Nd} {L L' : Nat → Loc}

theorem rowsT_len : ∀ m, (rowsT O D L m).length = m * 5
  | 0 => rfl
  | m + 1 => by rw [rowsT, List.length_append, rowsT_len m]; simp [nt5]; omega

theorem nt5_one (o : Int) (d : Nd) (l : Loc) : ∀ u ∈ nt5 o d l, u.oneCell' = true := by intro u hu; simp [nt5] at hu; rcases hu with rfl | rfl | rfl | rfl | rfl <;> rfl

theorem rowsT_get : ∀ m i, i < m → ∀ r, r < 5 → (rowsT O D L m)[i * 5 + r]? = (nt5 (O i) (D i) (L i))[r]?
  | 0, i, h, r, hr => by omega
  | m + 1, i, h, r, hr => by
    rw [rowsT]
    by_cases e : i < m
    · rw [List.getElem?_append_left (by rw [rowsT_len]; omega)]; exact rowsT_get m i e r hr
    · obtain rfl : i = m := by omega
      rw [List.getElem?_append_right (by rw [rowsT_len]; omega), rowsT_len, show i * 5 + r - i * 5 = r by omega]

theorem rowsT_ext : ∀ m, (∀ i, i < m → O' i = O i ∧ D' i = D i ∧ L' i = L i) → rowsT O' D' L' m = rowsT O D L m
  | 0, _ => rfl
  | m + 1, h => by rw [rowsT, rowsT, rowsT_ext m (fun i hi => h i (by omega)), (h m (by omega)).1, (h m (by omega)).2.1, (h m (by omega)).2.2]
end

/-- The rows of what is kept: 0 the truth values, 1 the places that were turned, then two for each of these. -/
def rowT (k : Nat) (Z : Nat → Bool) (m : Nat) (O : Nat → Int) (D : Nat → Nd) (L : Nat → Loc) (d : Nat) : Rw :=
  if d = 0 then ⟨4, 1, k, boolv k Z⟩ else if d = 1 then ⟨89, 5, m, rowsT O D L m⟩
  else if d % 2 = 0 then ⟨9, 1, (D ((d - 2) / 2)).nn, strv (lst (D ((d - 2) / 2)).nn (D ((d - 2) / 2)).names)⟩ else ⟨3, 1, (D ((d - 2) / 2)).kn, intv0 (D ((d - 2) / 2)).kn (D ((d - 2) / 2)).kids⟩
def valT (lv iv : Value) (D : Nat → Nd) (L : Nat → Loc) (d : Nat) : Value :=
  if d = 0 then lv else if d = 1 then iv else if d % 2 = 0 then .slice (L ((d - 2) / 2)).nA (D ((d - 2) / 2)).nn (L ((d - 2) / 2)).nc else .slice (L ((d - 2) / 2)).kA (D ((d - 2) / 2)).kn (L ((d - 2) / 2)).kc

structure OT (W : World) (B k : Nat) (Z : Nat → Bool) (m : Nat) (O : Nat → Int) (D : Nat → Nd) (L : Nat → Loc) (lv iv : Value) : Prop where
  rows : Rwn B (rowT k Z m O D L) (fun d => d < 2 + 2 * m) (valT lv iv D L) W

section
variable {W W' : World} {B k : Nat} {Z : Nat → Bool} {m : Nat} {O : Nat → Int} {D : Nat → Nd} {L : Nat → Loc} {lv iv lv' iv' : Value}

theorem OT.start (W : World) (B : Nat) (Z : Nat → Bool) (O : Nat → Int) (D : Nat → Nd) (L : Nat → Loc) : OT W B 0 Z 0 O D L (.slice none 0 0) (.slice none 0 0) :=
  ⟨⟨fun d hl => by
    have hd : d = 0 ∨ d = 1 := by omega
    rcases hd with rfl | rfl
    · exact World.ownsRow_nil _ _ _ _
    · exact World.ownsRow_nil _ _ _ _, fun d d' hl _ _ b hb => by
    have hd : d = 0 ∨ d = 1 := by omega
    rcases hd with rfl | rfl <;> simp [valT, Value.ownBlock] at hb⟩⟩

theorem OT.same (h : OT W B k Z m O D L lv iv) (hw : ∀ b, B ≤ b → b < W.heap.size → W'.heap[b]? = W.heap[b]?) : OT W' B k Z m O D L lv iv :=
  ⟨⟨fun d hl => owns_same (h.rows.own d hl) fun b hb => hw b (owns_block (h.rows.own d hl) hb).1 (owns_block (h.rows.own d hl) hb).2, h.rows.apart⟩⟩

theorem OT.below (h : OT W B k Z m O D L lv iv) (hb : Below W.heap.size W W') : OT W' B k Z m O D L lv iv := h.same fun b _ hlt => hb.block b hlt

theorem OT.off (h : OT W B k Z m O D L lv iv) {V i : Nat} (v : Value) (hV : V < B) : OT (W.setCell ⟨V, i, none⟩ v) B k Z m O D L lv iv := h.same fun b hB _ => blk_setCell_other _ _ _ _ (by show b ≠ V; omega)

theorem OT.lower {B' : Nat} (h : OT W B k Z m O D L lv iv) (hB : B' ≤ B) : OT W B' k Z m O D L lv iv := ⟨⟨fun d hl => owns_lower (h.rows.own d hl) hB, h.rows.apart⟩⟩

theorem OT.ownL (h : OT W B k Z m O D L lv iv) : W.ownsRow B 4 1 lv k (boolv k Z) := by
  have := h.rows.own 0 (by omega)
  simpa [rowT, valT] using this

theorem OT.ownI (h : OT W B k Z m O D L lv iv) : W.ownsRow B 89 5 iv m (rowsT O D L m) := by
  have := h.rows.own 1 (by omega)
  simpa [rowT, valT] using this

theorem rowT_rest {k k' m : Nat} {Z Z' : Nat → Bool} {d : Nat} (h : d ≠ 0) : rowT k' Z' m O D L d = rowT k Z m O D L d := by unfold rowT; rw [if_neg h, if_neg h]
theorem valT_rest {d : Nat} (h : d ≠ 0) : valT lv' iv D L d = valT lv iv D L d := by unfold valT; rw [if_neg h, if_neg h]

/-- One truth value more. -/
theorem OT.live (h : OT W B k Z m O D L lv iv) (hg : W.grownBy W' lv.ownBlock) (hown : W'.ownsRow B 4 1 lv' (k + 1) (boolv (k + 1) Z)) (hb : ∀ b, lv'.ownBlock = some b → lv.ownBlock = some b ∨ W.heap.size ≤ b) : OT W' B (k + 1) Z m O D L lv' iv := by
  have key : ∀ d, d < 2 + 2 * m → d ≠ 0 → ∀ b, (valT lv iv D L d).ownBlock = some b → b < W.heap.size ∧ lv.ownBlock ≠ some b := fun d hl hne b hb => ⟨(owns_block (h.rows.own d hl) hb).2, fun e => h.rows.apart d 0 hl (by omega) hne b hb (by simpa [valT] using e)⟩
  refine ⟨⟨fun d hl => ?_, fun d1 d2 g1 g2 hne b h1 h2 => ?_⟩⟩
  · by_cases e : d = 0
    · subst e; simpa [rowT, valT] using hown
    · rw [rowT_rest (k := k) (Z := Z) e, valT_rest (lv := lv) e]
      exact owns_kept (h.rows.own d hl) hg fun b hb => (key d hl e b hb).2
  · by_cases e1 : d1 = 0
    · have e2 : d2 ≠ 0 := fun e => hne (e1.trans e.symm)
      subst e1
      rw [valT_rest (lv := lv) e2] at h2
      have h1' : lv'.ownBlock = some b := by simpa [valT] using h1
      have := key d2 g2 e2 b h2
      rcases hb b h1' with e | e
      · exact this.2 e
      · omega
    · by_cases e2 : d2 = 0
      · subst e2
        rw [valT_rest (lv := lv) e1] at h1
        have h2' : lv'.ownBlock = some b := by simpa [valT] using h2
        have := key d1 g1 e1 b h1
        rcases hb b h2' with e | e
        · exact this.2 e
        · omega
      · rw [valT_rest (lv := lv) e1] at h1
        rw [valT_rest (lv := lv) e2] at h2
        exact h.rows.apart d1 d2 g1 g2 hne b h1 h2

/-- One place that was turned more: its lists are new, the list of them has grown. -/
theorem OT.item (h : OT W B k Z m O D L lv iv) {W1 : World} {o : Int} {x : Nd} {l : Loc} (hN : NewNn W x l W1) (hB : B ≤ W.heap.size) (hg : W1.grownBy W' iv.ownBlock) (hown : W'.ownsRow B 89 5 iv' (m + 1) (rowsT O D L m ++ nt5 o x l)) (hb : ∀ b, iv'.ownBlock = some b → iv.ownBlock = some b ∨ W1.heap.size ≤ b) :
    OT W' B k Z (m + 1) (fun i => if i = m then o else O i) (fun i => if i = m then x else D i) (fun i => if i = m then l else L i) lv iv' := by
  have h1 := h.below hN.bel
  have hsz := hN.bel.size
  have hrow : rowsT (fun i => if i = m then o else O i) (fun i => if i = m then x else D i) (fun i => if i = m then l else L i) (m + 1) = rowsT O D L m ++ nt5 o x l := by
    rw [rowsT, rowsT_ext (O := O) (D := D) (L := L) m (fun i hi => by simp [show i ≠ m by omega])]
    simp
  have hib : ∀ b, iv.ownBlock = some b → b < W.heap.size := fun b e => (owns_block h.ownI e).2
  have key : ∀ d, d < 2 + 2 * m → d ≠ 1 → ∀ b, (valT lv iv D L d).ownBlock = some b → b < W.heap.size ∧ iv.ownBlock ≠ some b := fun d hl hne b hb => ⟨(owns_block (h.rows.own d hl) hb).2, fun e => h.rows.apart d 1 hl (by omega) hne b hb (by simpa [valT] using e)⟩
  have e1 : rowT k Z (m + 1) (fun i => if i = m then o else O i) (fun i => if i = m then x else D i) (fun i => if i = m then l else L i) 1 = ⟨89, 5, m + 1, rowsT O D L m ++ nt5 o x l⟩ := by unfold rowT; rw [hrow]; simp
  have v1 : valT lv iv' (fun i => if i = m then x else D i) (fun i => if i = m then l else L i) 1 = iv' := by simp [valT]
  have e2 : rowT k Z (m + 1) (fun i => if i = m then o else O i) (fun i => if i = m then x else D i) (fun i => if i = m then l else L i) (2 + 2 * m) = ⟨9, 1, x.nn, strv (lst x.nn x.names)⟩ := by
    have hi : (2 + 2 * m - 2) / 2 = m := by omega
    unfold rowT; rw [if_neg (by omega), if_neg (by omega), if_pos (by omega)]; simp [hi]
  have v2 : valT lv iv' (fun i => if i = m then x else D i) (fun i => if i = m then l else L i) (2 + 2 * m) = .slice l.nA x.nn l.nc := by
    have hi : (2 + 2 * m - 2) / 2 = m := by omega
    unfold valT; rw [if_neg (by omega), if_neg (by omega), if_pos (by omega)]; simp [hi]
  have e3 : rowT k Z (m + 1) (fun i => if i = m then o else O i) (fun i => if i = m then x else D i) (fun i => if i = m then l else L i) (3 + 2 * m) = ⟨3, 1, x.kn, intv0 x.kn x.kids⟩ := by
    have hi : (3 + 2 * m - 2) / 2 = m := by omega
    unfold rowT; rw [if_neg (by omega), if_neg (by omega), if_neg (by omega)]; simp [hi]
  have v3 : valT lv iv' (fun i => if i = m then x else D i) (fun i => if i = m then l else L i) (3 + 2 * m) = .slice l.kA x.kn l.kc := by
    have hi : (3 + 2 * m - 2) / 2 = m := by omega
    unfold valT; rw [if_neg (by omega), if_neg (by omega), if_neg (by omega)]; simp [hi]
  have e4 : ∀ d, d < 2 + 2 * m → d ≠ 1 → rowT k Z (m + 1) (fun i => if i = m then o else O i) (fun i => if i = m then x else D i) (fun i => if i = m then l else L i) d = rowT k Z m O D L d := fun d hl hne => by
    unfold rowT
    by_cases e0 : d = 0
    · rw [if_pos e0, if_pos e0]
    · have hi : (d - 2) / 2 ≠ m := by omega
      rw [if_neg e0, if_neg hne, if_neg e0, if_neg hne]; simp [hi]
  have v4 : ∀ d, d < 2 + 2 * m → d ≠ 1 → valT lv iv' (fun i => if i = m then x else D i) (fun i => if i = m then l else L i) d = valT lv iv D L d := fun d hl hne => by
    unfold valT
    by_cases e0 : d = 0
    · rw [if_pos e0, if_pos e0]
    · have hi : (d - 2) / 2 ≠ m := by omega
      rw [if_neg e0, if_neg hne, if_neg e0, if_neg hne]; simp [hi]
  have hcase : ∀ d, d < 2 + 2 * (m + 1) → (d < 2 + 2 * m ∧ d ≠ 1) ∨ d = 1 ∨ d = 2 + 2 * m ∨ d = 3 + 2 * m := fun d hl => by omega
  have hnl : ∀ b, (Value.slice l.nA x.nn l.nc).ownBlock = some b → W.heap.size ≤ b ∧ b < W1.heap.size := fun b e => owns_block hN.names e
  have hkl : ∀ b, (Value.slice l.kA x.kn l.kc).ownBlock = some b → W.heap.size ≤ b ∧ b < W1.heap.size := fun b e => owns_block hN.kids e
  refine ⟨⟨fun d hl => ?_, fun d1 d2 g1 g2 hne b p1 p2 => ?_⟩⟩
  · rcases hcase d hl with ⟨h2, h3⟩ | rfl | rfl | rfl
    · rw [e4 d h2 h3, v4 d h2 h3]
      exact owns_kept (h1.rows.own d h2) hg fun b hb => (key d h2 h3 b hb).2
    · rw [e1, v1]; exact hown
    · rw [e2, v2]
      exact owns_kept (owns_lower hN.names hB) hg fun b hb e => by have h4 := hnl b hb; have h5 := hib b e; omega
    · rw [e3, v3]
      exact owns_kept (owns_lower hN.kids hB) hg fun b hb e => by have h4 := hkl b hb; have h5 := hib b e; omega
  · have cl : ∀ d, d < 2 + 2 * (m + 1) → (valT lv iv' (fun i => if i = m then x else D i) (fun i => if i = m then l else L i) d).ownBlock = some b → (d < 2 + 2 * m ∧ d ≠ 1 ∧ (valT lv iv D L d).ownBlock = some b ∧ b < W.heap.size ∧ iv.ownBlock ≠ some b) ∨ (d = 1 ∧ (iv.ownBlock = some b ∧ b < W.heap.size ∨ W1.heap.size ≤ b)) ∨ (d = 2 + 2 * m ∧ (Value.slice l.nA x.nn l.nc).ownBlock = some b ∧ W.heap.size ≤ b ∧ b < W1.heap.size) ∨ (d = 3 + 2 * m ∧ (Value.slice l.kA x.kn l.kc).ownBlock = some b ∧ W.heap.size ≤ b ∧ b < W1.heap.size) := fun d hl hv => by
      rcases hcase d hl with ⟨h2, h3⟩ | rfl | rfl | rfl
      · rw [v4 d h2 h3] at hv
        exact Or.inl ⟨h2, h3, hv, key d h2 h3 b hv⟩
      · rw [v1] at hv
        exact Or.inr (Or.inl ⟨rfl, (hb b hv).imp (fun e => ⟨e, hib b e⟩) id⟩)
      · rw [v2] at hv
        exact Or.inr (Or.inr (Or.inl ⟨rfl, hv, hnl b hv⟩))
      · rw [v3] at hv
        exact Or.inr (Or.inr (Or.inr ⟨rfl, hv, hkl b hv⟩))
    rcases cl d1 g1 p1 with ⟨a1, a2, a3, a4, a5⟩ | ⟨a1, a2⟩ | ⟨a1, a2, a3, a4⟩ | ⟨a1, a2, a3, a4⟩ <;> rcases cl d2 g2 p2 with ⟨z1, z2, z3, z4, z5⟩ | ⟨z1, z2⟩ | ⟨z1, z2, z3, z4⟩ | ⟨z1, z2, z3, z4⟩
    · exact h.rows.apart d1 d2 a1 z1 hne b a3 z3
    · rcases z2 with ⟨e, _⟩ | e
      · exact a5 e
      · omega
    · omega
    · omega
    · rcases a2 with ⟨e, _⟩ | e
      · exact z5 e
      · omega
    · omega
    · rcases a2 with ⟨_, e⟩ | e <;> omega
    · rcases a2 with ⟨_, e⟩ | e <;> omega
    · omega
    · rcases z2 with ⟨_, e⟩ | e <;> omega
    · omega
    · exact hN.apart b a2 z2
    · omega
    · rcases z2 with ⟨_, e⟩ | e <;> omega
    · exact hN.apart b z2 a2
    · omega
end

section
variable {W W' : World} {B k : Nat} {Z Z' : Nat → Bool} {m : Nat} {O O' : Nat → Int} {D D' : Nat → Nd} {L : Nat → Loc} {lv iv : Value}

theorem OT.turn (h : OT W B k Z m O D L lv iv) {d0 : Nat} (hd0 : d0 < 2 + 2 * m) (hg : W.grownBy W' (valT lv iv D L d0).ownBlock) (hrow : ∀ d, d < 2 + 2 * m → d ≠ d0 → rowT k Z' m O' D' L d = rowT k Z m O D L d) (hval : ∀ d, d < 2 + 2 * m → valT lv iv D' L d = valT lv iv D L d)
    (hown : W'.ownsRow B (rowT k Z' m O' D' L d0).e (rowT k Z' m O' D' L d0).size (valT lv iv D L d0) (rowT k Z' m O' D' L d0).n (rowT k Z' m O' D' L d0).xs) : OT W' B k Z' m O' D' L lv iv := by
  refine ⟨⟨fun d hl => ?_, fun d1 d2 g1 g2 hne b h1 h2 => ?_⟩⟩
  · rw [hval d hl]
    by_cases e : d = d0
    · subst e; exact hown
    · rw [hrow d hl e]
      exact owns_kept (h.rows.own d hl) hg fun b hb => Ne.symm (Ne.symm (h.rows.apart d d0 hl hd0 e b hb))
  · rw [hval d1 g1] at h1
    rw [hval d2 g2] at h2
    exact h.rows.apart d1 d2 g1 g2 hne b h1 h2

/-- The same lengths everywhere: the same addresses. -/
theorem valT_same (hl : ∀ i, i < m → (D' i).nn = (D i).nn ∧ (D' i).kn = (D i).kn) : ∀ d, d < 2 + 2 * m → valT lv iv D' L d = valT lv iv D L d := fun d hd => by
  unfold valT
  by_cases e0 : d = 0
  · rw [if_pos e0, if_pos e0]
  · by_cases e1 : d = 1
    · rw [if_neg e0, if_pos e1, if_neg e0, if_pos e1]
    · rw [if_neg e0, if_neg e1, if_neg e0, if_neg e1, (hl ((d - 2) / 2) (by omega)).1, (hl ((d - 2) / 2) (by omega)).2]

/-- The truth values are others. -/
theorem OT.turnLive (h : OT W B k Z m O D L lv iv) (hg : W.grownBy W' lv.ownBlock) (hown : W'.ownsRow B 4 1 lv k (boolv k Z')) : OT W' B k Z' m O D L lv iv :=
  h.turn (d0 := 0) (by omega) (by simpa [valT] using hg) (fun d hl hne => rowT_rest hne) (fun d hl => rfl) (by simpa [rowT, valT] using hown)

/-- The list of places holds others, of the same lists. -/
theorem OT.turnItems (h : OT W B k Z m O D L lv iv) (hl : ∀ i, i < m → (D' i).nn = (D i).nn ∧ (D' i).kn = (D i).kn ∧ (D' i).names = (D i).names ∧ (D' i).kids = (D i).kids) (hg : W.grownBy W' iv.ownBlock) (hown : W'.ownsRow B 89 5 iv m (rowsT O' D' L m)) : OT W' B k Z m O' D' L lv iv :=
  h.turn (d0 := 1) (by omega) (by simpa [valT] using hg) (fun d hd hne => by
    unfold rowT
    by_cases e0 : d = 0
    · rw [if_pos e0, if_pos e0]
    · obtain ⟨a1, a2, a3, a4⟩ := hl ((d - 2) / 2) (by omega)
      rw [if_neg e0, if_neg hne, if_neg e0, if_neg hne, a1, a2, a3, a4]) (valT_same fun i hi => ⟨(hl i hi).1, (hl i hi).2.1⟩) (by simpa [rowT, valT] using hown)

/-- The names of a place are others. -/
theorem OT.turnNames (h : OT W B k Z m O D L lv iv) {i : Nat} (hi : i < m) (S : Nat → ByteArray) (hg : W.grownBy W' (Value.slice (L i).nA (D i).nn (L i).nc).ownBlock) (hown : W'.ownsRow B 9 1 (.slice (L i).nA (D i).nn (L i).nc) (D i).nn (strv (lst (D i).nn S))) :
    OT W' B k Z m O (fun j => if j = i then { D i with names := S } else D j) L lv iv := by
  have hd : (2 + 2 * i - 2) / 2 = i := by omega
  have hv : valT lv iv D L (2 + 2 * i) = .slice (L i).nA (D i).nn (L i).nc := by unfold valT; rw [if_neg (by omega), if_neg (by omega), if_pos (by omega), hd]
  refine h.turn (d0 := 2 + 2 * i) (by omega) (by rw [hv]; exact hg) (fun d hdl hne => ?_) (valT_same fun j hj => by by_cases e : j = i <;> simp [e]) ?_
  · have hrows : rowsT O (fun j => if j = i then { D i with names := S } else D j) L m = rowsT O D L m := by
      have key : ∀ q, rowsT O (fun j => if j = i then { D i with names := S } else D j) L q = rowsT O D L q := fun q => by
        induction q with
        | zero => rfl
        | succ q ih =>
          rw [rowsT, rowsT, ih]
          by_cases e : q = i
          · subst e; simp [nt5]
          · simp [e]
      exact key m
    unfold rowT
    by_cases e0 : d = 0
    · rw [if_pos e0, if_pos e0]
    · by_cases e1 : d = 1
      · rw [if_neg e0, if_pos e1, if_neg e0, if_pos e1, hrows]
      · rw [if_neg e0, if_neg e1, if_neg e0, if_neg e1]
        by_cases e : (d - 2) / 2 = i
        · have : d % 2 ≠ 0 := by omega
          rw [if_neg this, if_neg this]
          simp [e]
        · simp [e]
  · rw [hv]
    unfold rowT
    rw [if_neg (by omega), if_neg (by omega), if_pos (by omega), hd]
    simpa using hown

/-- The places in a directory are others. -/
theorem OT.turnKids (h : OT W B k Z m O D L lv iv) {i : Nat} (hi : i < m) (K : Nat → Int) (hg : W.grownBy W' (Value.slice (L i).kA (D i).kn (L i).kc).ownBlock) (hown : W'.ownsRow B 3 1 (.slice (L i).kA (D i).kn (L i).kc) (D i).kn (intv0 (D i).kn K)) :
    OT W' B k Z m O (fun j => if j = i then { D i with kids := K } else D j) L lv iv := by
  have hd : (3 + 2 * i - 2) / 2 = i := by omega
  have hv : valT lv iv D L (3 + 2 * i) = .slice (L i).kA (D i).kn (L i).kc := by unfold valT; rw [if_neg (by omega), if_neg (by omega), if_neg (by omega), hd]
  refine h.turn (d0 := 3 + 2 * i) (by omega) (by rw [hv]; exact hg) (fun d hdl hne => ?_) (valT_same fun j hj => by by_cases e : j = i <;> simp [e]) ?_
  · have hrows : rowsT O (fun j => if j = i then { D i with kids := K } else D j) L m = rowsT O D L m := by
      have key : ∀ q, rowsT O (fun j => if j = i then { D i with kids := K } else D j) L q = rowsT O D L q := fun q => by
        induction q with
        | zero => rfl
        | succ q ih =>
          rw [rowsT, rowsT, ih]
          by_cases e : q = i
          · subst e; simp [nt5]
          · simp [e]
      exact key m
    unfold rowT
    by_cases e0 : d = 0
    · rw [if_pos e0, if_pos e0]
    · by_cases e1 : d = 1
      · rw [if_neg e0, if_pos e1, if_neg e0, if_pos e1, hrows]
      · rw [if_neg e0, if_neg e1, if_neg e0, if_neg e1]
        by_cases e : (d - 2) / 2 = i
        · have : d % 2 = 0 := by omega
          rw [if_pos this, if_pos this]
          simp [e]
        · simp [e]
  · rw [hv]
    unfold rowT
    rw [if_neg (by omega), if_neg (by omega), if_neg (by omega), hd]
    simpa using hown
end

section
variable {O O' : Nat → Int} {D D' : Nat → Nd} {L : Nat → Loc}

theorem rowsT_set {m i r : Nat} {u : Value} (hi : i < m) (hr : r < 5) (hx : nt5 (O' i) (D' i) (L i) = (nt5 (O i) (D i) (L i)).set r u) (ho : ∀ j, j < m → j ≠ i → O' j = O j ∧ D' j = D j) : (rowsT O D L m).set (i * 5 + r) u = rowsT O' D' L m := by
  apply List.ext_getElem?
  intro q
  by_cases hq : q < m * 5
  · have h1 := rowsT_get (O := O') (D := D') (L := L) m (q / 5) (by omega) (q % 5) (by omega)
    have h2 := rowsT_get (O := O) (D := D) (L := L) m (q / 5) (by omega) (q % 5) (by omega)
    rw [show q / 5 * 5 + q % 5 = q by omega] at h1 h2
    rw [h1, List.getElem?_set]
    by_cases e : q / 5 = i
    · rw [e, hx, List.getElem?_set]
      by_cases e2 : i * 5 + r = q
      · have e3 : r = q % 5 := by omega
        rw [if_pos e2, if_pos (by rw [rowsT_len]; omega), if_pos e3, if_pos (by simp [nt5]; omega)]
      · have e3 : r ≠ q % 5 := by omega
        rw [if_neg e2, if_neg e3, h2, e]
    · obtain ⟨a1, a2⟩ := ho (q / 5) (by omega) e
      rw [if_neg (by omega), h2, a1, a2]
  · rw [List.getElem?_eq_none (by rw [List.length_set, rowsT_len]; omega), List.getElem?_eq_none (by rw [rowsT_len]; omega)]
end

section
variable {W : World} {B k : Nat} {Z : Nat → Bool} {m : Nat} {O : Nat → Int} {D : Nat → Nd} {L : Nat → Loc} {lv iv : Value} {g ic : Nat}

/-- The cells of a place that was turned. -/
theorem OT.cells (h : OT W B k Z m O D L lv (.slice (some ⟨g, 0, none⟩) m ic)) {i : Nat} (hi : i < m) : W.cell? ⟨g, i * 5, none⟩ = some (.int .i64 (D i).kind) ∧ W.cell? ⟨g, i * 5 + 1, none⟩ = some (.string (D i).text) ∧
    W.cell? ⟨g, i * 5 + 2, none⟩ = some (.slice (L i).nA (D i).nn (L i).nc) ∧ W.cell? ⟨g, i * 5 + 3, none⟩ = some (.slice (L i).kA (D i).kn (L i).kc) ∧ W.cell? ⟨g, i * 5 + 4, none⟩ = some (.int .i64 (D i).turn) := by
  have key : ∀ r, r < 5 → W.cell? ⟨g, i * 5 + r, none⟩ = (nt5 (O i) (D i) (L i))[r]? := fun r hr => by
    rw [h.ownI.cellAt (i * 5 + r) (by omega), rowsT_get m i hi r hr]
  exact ⟨key 0 (by omega), key 1 (by omega), key 2 (by omega), key 3 (by omega), key 4 (by omega)⟩

theorem OT.free (h : OT W B k Z m O D L lv (.slice (some ⟨g, 0, none⟩) m ic)) (j : Nat) : W.frozen? ⟨g, j, none⟩ = false := h.ownI.frozenAt j

theorem OT.putKind (h : OT W B k Z m O D L lv (.slice (some ⟨g, 0, none⟩) m ic)) {i : Nat} (hi : i < m) (z : Int) : OT (W.setCell ⟨g, i * 5, none⟩ (.int .i64 z)) B k Z m O (fun j => if j = i then { D i with kind := z } else D j) L lv (.slice (some ⟨g, 0, none⟩) m ic) := by
  obtain ⟨h1, h2⟩ := h.ownI.stored (i * 5 + 0) (.int .i64 z)
  rw [rowsT_set (O' := O) (D' := fun j => if j = i then { D i with kind := z } else D j) hi (by omega) (by simp [nt5]) (fun j hj e => by simp [e])] at h1
  exact h.turnItems (fun j hj => by by_cases e : j = i <;> simp [e]) h2 h1

theorem OT.putText (h : OT W B k Z m O D L lv (.slice (some ⟨g, 0, none⟩) m ic)) {i : Nat} (hi : i < m) (s : ByteArray) : OT (W.setCell ⟨g, i * 5 + 1, none⟩ (.string s)) B k Z m O (fun j => if j = i then { D i with text := s } else D j) L lv (.slice (some ⟨g, 0, none⟩) m ic) := by
  obtain ⟨h1, h2⟩ := h.ownI.stored (i * 5 + 1) (.string s)
  rw [rowsT_set (O' := O) (D' := fun j => if j = i then { D i with text := s } else D j) hi (by omega) (by simp [nt5]) (fun j hj e => by simp [e])] at h1
  exact h.turnItems (fun j hj => by by_cases e : j = i <;> simp [e]) h2 h1

theorem OT.putTurn (h : OT W B k Z m O D L lv (.slice (some ⟨g, 0, none⟩) m ic)) {i : Nat} (hi : i < m) (z : Int) : OT (W.setCell ⟨g, i * 5 + 4, none⟩ (.int .i64 z)) B k Z m O (fun j => if j = i then { D i with turn := z } else D j) L lv (.slice (some ⟨g, 0, none⟩) m ic) := by
  obtain ⟨h1, h2⟩ := h.ownI.stored (i * 5 + 4) (.int .i64 z)
  rw [rowsT_set (O' := O) (D' := fun j => if j = i then { D i with turn := z } else D j) hi (by omega) (by simp [nt5]) (fun j hj e => by simp [e])] at h1
  exact h.turnItems (fun j hj => by by_cases e : j = i <;> simp [e]) h2 h1

theorem OT.ownN (h : OT W B k Z m O D L lv iv) {i : Nat} (hi : i < m) : W.ownsRow B 9 1 (.slice (L i).nA (D i).nn (L i).nc) (D i).nn (strv (lst (D i).nn (D i).names)) := by
  have hd : (2 + 2 * i - 2) / 2 = i := by omega
  have := h.rows.own (2 + 2 * i) (by omega)
  unfold rowT valT at this
  rw [if_neg (by omega), if_neg (by omega), if_pos (by omega), if_neg (by omega), if_neg (by omega), if_pos (by omega), hd] at this
  exact this

theorem OT.ownK (h : OT W B k Z m O D L lv iv) {i : Nat} (hi : i < m) : W.ownsRow B 3 1 (.slice (L i).kA (D i).kn (L i).kc) (D i).kn (intv0 (D i).kn (D i).kids) := by
  have hd : (3 + 2 * i - 2) / 2 = i := by omega
  have := h.rows.own (3 + 2 * i) (by omega)
  unfold rowT valT at this
  rw [if_neg (by omega), if_neg (by omega), if_neg (by omega), if_neg (by omega), if_neg (by omega), if_neg (by omega), hd] at this
  exact this
end


end Go.Proofs.Ytokalajliphcdaa

/-
  What toTree answers: a tree in memory of its own.
-/
namespace Go.Proofs.Ytokalajliphcdaa
open Go.RowKit Go.Deep
set_option linter.unusedVariables false
set_option linter.unusedSimpArgs false

theorem row_below {W W' : World} {b n : Nat} {t : TypeId} {f : Nat → Value} (h : W.rowIs b t n f) (hb : Below W.heap.size W W') : W'.rowIs b t n f := by
  obtain ⟨c, h1, h2⟩ := h
  exact ⟨c, (hb.block b (Array.getElem?_eq_some_iff.1 h1).1).trans h1, h2⟩

theorem row_off {W : World} {b n : Nat} {t : TypeId} {f : Nat → Value} (h : W.rowIs b t n f) {b' i : Nat} (v : Value) (hb : b ≠ b') : (W.setCell ⟨b', i, none⟩ v).rowIs b t n f := h.setOther (a := ⟨b', i, none⟩) hb v

theorem row_own {W : World} {B b n : Nat} {t : TypeId} {f : Nat → Value} (h : W.rowIs b t n f) (hB : B ≤ b) (hn : n ≤ maxLen) : W.ownsRow B t 1 (.slice (some ⟨b, 0, none⟩) n n) n ((List.range n).map f) := by
  obtain ⟨cur, h1, h2, h3⟩ := h
  refine ⟨by simp, Or.inr ⟨b, n, cur, rfl, hB, h1, Nat.le_refl _, hn, by omega, ?_⟩⟩
  apply List.ext_getElem?
  intro i
  rw [List.getElem?_take]
  by_cases hi : i < n
  · rw [if_pos (by omega), Array.getElem?_toList, h3 i hi]
    simp [hi]
  · rw [if_neg (by omega)]
    simp [hi]

theorem row_ownS {W : World} {B b n : Nat} {S : Nat → ByteArray} (h : W.rowIs b 9 n (fun i => .string (S i))) (hB : B ≤ b) (hn : n ≤ maxLen) : W.ownsRow B 9 1 (.slice (some ⟨b, 0, none⟩) n n) n (strv (lst n S)) := by
  have := row_own h hB hn
  rw [show strv (lst n S) = (List.range n).map (fun i => .string (S i)) from by simp [strv, lst]]
  exact this

theorem row_ownI {W : World} {B b n : Nat} {Z : Nat → Int} (h : W.rowIs b 3 n (fun i => .int .i64 (Z i))) (hB : B ≤ b) (hn : n ≤ maxLen) : W.ownsRow B 3 1 (.slice (some ⟨b, 0, none⟩) n n) n (intv0 n Z) := row_own h hB hn

theorem toStringS_row (a : Option Addr) (n c : Nat) (S : Nat → ByteArray) (w : World) (hS : IsStrs w a n S) (hn : n ≤ 1048576) :
    Calls Try.prog 84 #[.slice a n c] w fun e w' => ∃ b, e = .returned (.slice (some ⟨b, 0, none⟩) n n) ∧ w.heap.size ≤ b ∧ b < w'.heap.size ∧ Below w.heap.size w w' ∧ w'.rowIs b 9 n (fun i => .string (S i)) :=
  (toStringS_any a n c S w hS hn).mono fun e w' ⟨he, hb, hr⟩ => ⟨_, he, Nat.le_refl _, hr.lt, hb, hr⟩

theorem toIntS_row (a : Option Addr) (n c : Nat) (Z : Nat → Int) (w : World) (hS : IsInts w a n Z) (hn : n ≤ 1048576) :
    Calls Try.prog 85 #[.slice a n c] w fun e w' => ∃ b, e = .returned (.slice (some ⟨b, 0, none⟩) n n) ∧ w.heap.size ≤ b ∧ b < w'.heap.size ∧ Below w.heap.size w w' ∧ w'.rowIs b 3 n (fun i => .int .i64 (Z i)) :=
  (toIntS_any a n c Z w hS hn).mono fun e w' ⟨he, hb, hr⟩ => ⟨_, he, Nat.le_refl _, hr.lt, hb, hr⟩

/-- What is known within toNode, the names being copied. -/
structure Node2o (w : World) (d : Nd) (l : Loc) (b : Nat) (W : World) : Prop where
  p : Blk W w.heap.size #[.int .i64 d.kind, .string d.text, .slice l.nA d.nn l.nc, .slice l.kA d.kn l.kc, .int .i64 d.turn] 114
  r : Blk W (w.heap.size + 1) #[.int .i64 0, .string ByteArray.empty, .slice none 0 0, .slice none 0 0, .int .i64 0] 89
  o : Blk W (w.heap.size + 1 + 1) #[.int .i64 d.kind, .string d.text, .slice (some ⟨b, 0, none⟩) d.nn d.nn, .slice none 0 0, .int .i64 0] 89
  bel : Below w.heap.size w W
  size : w.heap.size + 3 ≤ W.heap.size
  le : w.heap.size + 3 ≤ b
  lt : b < W.heap.size
  names : W.rowIs b 9 d.nn (fun i => .string (d.names i))

/-- What is known at toNode's end. -/
structure NodeEndo (w : World) (d : Nd) (b b' : Nat) (W : World) : Prop where
  r : Blk W (w.heap.size + 1) #[.int .i64 d.kind, .string d.text, .slice (some ⟨b, 0, none⟩) d.nn d.nn, .slice (some ⟨b', 0, none⟩) d.kn d.kn, .int .i64 d.turn] 89
  bel : Below w.heap.size w W
  names : W.rowIs b 9 d.nn (fun i => .string (d.names i))
  kids : W.rowIs b' 3 d.kn (fun i => .int .i64 (d.kids i))

set_option maxHeartbeats 1000000 in
theorem toNode_new (d : Nd) (l : Loc) (w : World) (hI : NdIn w d l) (hn : d.nn ≤ 1048576) (hk : d.kn ≤ 1048576) :
    Calls Try.prog 79 #[ndV d l] w fun e w' => ∃ l', e = .returned (ndV d l') ∧ NewNn w d l' w' := by
  unfold ndV
  go_enter Try.func79, Try.ntmps79
  go_wp2_with fail
  refine at_world (F := New3 w _ _ _ _ _ _) (new3 w _ _ _ _ _ _) ?_
  rintro W ⟨hp, hr, ho, hb0, hs0⟩
  refine (toStringS_row l.nA d.nn l.nc d.names _ (hI.1.below (Nat.le_refl _) hb0) hn).mono ?_
  rintro e w1 ⟨b, rfl, hge, hlt, hb1, hS1⟩
  have hp1 := hp.below hb1 (by omega)
  have hr1 := hr.below hb1 (by omega)
  have ho1 := ho.below hb1 (by omega)
  have hk1 := (hI.2.below (Nat.le_refl _) hb0).below (Nat.le_refl _) hb1
  have hB1 := hb0.trans (hb1.mono (by omega))
  have o2 : w1.cell? ⟨w.heap.size + 1 + 1, 2, none⟩ = some (.slice none 0 0) := ho1.cell 2
  have f2 := ho1.frozen 2
  have p3 : w1.cell? ⟨w.heap.size, 3, none⟩ = some (.slice l.kA d.kn l.kc) := hp1.cell 3
  have hsz1 := hb1.size
  have F2 : Hid (Node2o w d l b _) := ⟨hp1.off (b' := w.heap.size + 1 + 1) (i := 2) (.slice (some ⟨b, 0, none⟩) d.nn d.nn) (by omega), hr1.off _ (by omega), ho1.set 2 _, bel_put hB1 _ (by omega), by simp; omega, by omega, by simp; omega, row_off hS1 _ (by omega)⟩
  clear hp hr ho hb0 hb1 hp1 hr1 ho1 hk1 hB1 hS1
  go_wp2_with fail
  refine at_world (F := Node2o w d l b) F2.out ?_
  clear F2 hge hlt f2 o2 p3 hs0 hsz1
  rintro W ⟨hp, hr, ho, hb0, hs0, hlb, hbl, hS⟩
  refine (toIntS_row l.kA d.kn l.kc d.kids _ (hI.2.below (Nat.le_refl _) hb0) hk).mono ?_
  rintro e w2 ⟨b', rfl, hge, hlt, hb1, hZ⟩
  have hp1 := hp.below hb1 (by omega)
  have hr1 := hr.below hb1 (by omega)
  have ho1 := ho.below hb1 (by omega)
  have hB1 := hb0.trans (hb1.mono (by omega))
  have hS1 := row_below hS hb1
  have hsz := hb1.size
  have o0 : w2.cell? ⟨w.heap.size + 1 + 1, 0, none⟩ = some (.int .i64 d.kind) := ho1.cell 0
  have o1 : w2.cell? ⟨w.heap.size + 1 + 1, 1, none⟩ = some (.string d.text) := ho1.cell 1
  have o2 : w2.cell? ⟨w.heap.size + 1 + 1, 2, none⟩ = some (.slice (some ⟨b, 0, none⟩) d.nn d.nn) := ho1.cell 2
  have o3 : w2.cell? ⟨w.heap.size + 1 + 1, 3, none⟩ = some (.slice none 0 0) := ho1.cell 3
  have o4 : w2.cell? ⟨w.heap.size + 1 + 1, 4, none⟩ = some (.int .i64 0) := ho1.cell 4
  have f3 := ho1.frozen 3
  have f4 := ho1.frozen 4
  have p4 : w2.cell? ⟨w.heap.size, 4, none⟩ = some (.int .i64 d.turn) := hp1.cell 4
  have r0 : w2.cell? ⟨w.heap.size + 1, 0, none⟩ = some (.int .i64 0) := hr1.cell 0
  have r1 : w2.cell? ⟨w.heap.size + 1, 1, none⟩ = some (.string ByteArray.empty) := hr1.cell 1
  have r2 : w2.cell? ⟨w.heap.size + 1, 2, none⟩ = some (.slice none 0 0) := hr1.cell 2
  have r3 : w2.cell? ⟨w.heap.size + 1, 3, none⟩ = some (.slice none 0 0) := hr1.cell 3
  have r4 : w2.cell? ⟨w.heap.size + 1, 4, none⟩ = some (.int .i64 0) := hr1.cell 4
  have g0 := hr1.frozen 0
  have g1 := hr1.frozen 1
  have g2 := hr1.frozen 2
  have g3 := hr1.frozen 3
  have g4 := hr1.frozen 4
  have FB : Hid (Blk w2 (w.heap.size + 1) _ _ ∧ Below w.heap.size w w2 ∧ w2.rowIs b 9 d.nn (fun i => .string (d.names i)) ∧ w2.rowIs b' 3 d.kn (fun i => .int .i64 (d.kids i))) := ⟨hr1, hB1, hS1, hZ⟩
  clear hp hr ho hb0 hb1 hp1 hr1 ho1 hB1 hS1 hZ hS
  go_wp2_with fail
  obtain ⟨hr, hB, hS, hZ⟩ := FB.out
  refine end_world (F := NodeEndo w d b b')
    ⟨((((((hr.off _ (by omega)).off _ (by omega)).set 0 _).set 1 _).set 2 _).set 3 _).set 4 _,
     bel_put (bel_put (bel_put (bel_put (bel_put (bel_put (bel_put hB _ (by omega)) _ (by omega)) _ (by omega)) _ (by omega)) _ (by omega)) _ (by omega)) _ (by omega),
     (row_off (row_off (row_off (row_off (row_off (row_off (row_off hS _ (by omega)) _ (by omega)) _ (by omega)) _ (by omega)) _ (by omega)) _ (by omega)) _ (by omega)),
     (row_off (row_off (row_off (row_off (row_off (row_off (row_off hZ _ (by omega)) _ (by omega)) _ (by omega)) _ (by omega)) _ (by omega)) _ (by omega)) _ (by omega))⟩ ?_
  clear hr hB hS hZ FB o0 o1 o2 o3 o4 f3 f4 p4 r0 r1 r2 r3 r4 g0 g1 g2 g3 g4
  rintro W ⟨hr, hB, hS, hZ⟩
  have r0 : W.cell? ⟨w.heap.size + 1, 0, none⟩ = some (.int .i64 d.kind) := hr.cell 0
  have r1 : W.cell? ⟨w.heap.size + 1, 1, none⟩ = some (.string d.text) := hr.cell 1
  have r2 : W.cell? ⟨w.heap.size + 1, 2, none⟩ = some (.slice (some ⟨b, 0, none⟩) d.nn d.nn) := hr.cell 2
  have r3 : W.cell? ⟨w.heap.size + 1, 3, none⟩ = some (.slice (some ⟨b', 0, none⟩) d.kn d.kn) := hr.cell 3
  have r4 : W.cell? ⟨w.heap.size + 1, 4, none⟩ = some (.int .i64 d.turn) := hr.cell 4
  exact bodyPost_ret (v := .agg #[.int .i64 d.kind, .string d.text, .slice (some ⟨b, 0, none⟩) d.nn d.nn, .slice (some ⟨b', 0, none⟩) d.kn d.kn, .int .i64 d.turn]) (by simp [results, Try.results79, go_sem, r0, r1, r2, r3, r4]) rfl ⟨⟨some ⟨b, 0, none⟩, d.nn, some ⟨b', 0, none⟩, d.kn⟩, rfl, hB, row_ownS hS (by omega) (by unfold maxLen; omega), row_ownI hZ (by omega) (by unfold maxLen; omega), fun j e1 e2 => by
      have e3 : b = j := by simpa [Value.ownBlock] using e1
      have e4 : b' = j := by simpa [Value.ownBlock] using e2
      omega⟩

/-- A place more is laid behind the first ones, within the row's room. -/
theorem owns_fill {W : World} {B : Nat} {e : TypeId} {g k cap : Nat} {xs : List Value} {v0 v1 v2 v3 v4 : Value} (h : W.ownsRow B e 5 (.slice (some ⟨g, 0, none⟩) k cap) k xs) (hk : k < cap) :
    (((((W.setCell ⟨g, k * 5, none⟩ v0).setCell ⟨g, k * 5 + 1, none⟩ v1).setCell ⟨g, k * 5 + 2, none⟩ v2).setCell ⟨g, k * 5 + 3, none⟩ v3).setCell ⟨g, k * 5 + 4, none⟩ v4).ownsRow B e 5 (.slice (some ⟨g, 0, none⟩) (k + 1) cap) (k + 1) (xs ++ [v0, v1, v2, v3, v4]) := by
  obtain ⟨hl, h0 | ⟨g', cap', cur, hv, hB, hg, hc, hm, hs, ht⟩⟩ := h
  · simp at h0
  simp at hv
  obtain ⟨rfl, rfl⟩ := hv
  have hb : Blk W g cur e := hg
  have hb' := ((((hb.set (k * 5) v0).set (k * 5 + 1) v1).set (k * 5 + 2) v2).set (k * 5 + 3) v3).set (k * 5 + 4) v4
  refine ⟨by simp [hl]; omega, Or.inr ⟨g, cap, _, rfl, hB, hb', by omega, hm, by simp [hs], ?_⟩⟩
  apply List.ext_getElem?
  intro i
  rw [List.getElem?_take]
  by_cases hi : i < (k + 1) * 5
  · rw [if_pos hi, Array.getElem?_toList]
    simp only [Array.getElem?_setIfInBounds]
    by_cases h1 : i < k * 5
    · rw [List.getElem?_append_left (by omega)]
      have : xs[i]? = cur[i]? := by rw [← ht, List.getElem?_take, if_pos h1, Array.getElem?_toList]
      rw [this]
      simp only [show ¬ k * 5 + 4 = i by omega, show ¬ k * 5 + 3 = i by omega, show ¬ k * 5 + 2 = i by omega, show ¬ k * 5 + 1 = i by omega, show ¬ k * 5 = i by omega, if_false]
    · rw [List.getElem?_append_right (by omega), hl]
      obtain ⟨r, rfl⟩ : ∃ r, i = k * 5 + r := ⟨i - k * 5, by omega⟩
      have hr : r < 5 := by omega
      have hsz : ∀ q, q < 5 → k * 5 + q < cur.size := fun q hq => by omega
      rw [show k * 5 + r - k * 5 = r by omega]
      have hr5 : r = 0 ∨ r = 1 ∨ r = 2 ∨ r = 3 ∨ r = 4 := by omega
      rcases hr5 with rfl | rfl | rfl | rfl | rfl <;> simp [hsz 0 (by omega), hsz 1 (by omega), hsz 2 (by omega), hsz 3 (by omega), hsz 4 (by omega)] <;> (try (have := hsz 0 (by omega); omega))
  · rw [if_neg hi, List.getElem?_eq_none (by simp [hl]; omega)]

theorem OT.fill {W W1 : World} {B k : Nat} {O : Nat → Int} {D : Nat → Nd} {L : Nat → Loc} {g cap : Nat} {x : Nd} {l : Loc} (h : OT W B 0 (fun _ => false) k O D L (.slice none 0 0) (.slice (some ⟨g, 0, none⟩) k cap)) (hN : NewNn W x l W1) (hB : B ≤ W.heap.size) (hk : k < cap) :
    OT (((((W1.setCell ⟨g, k * 5, none⟩ (.int .i64 x.kind)).setCell ⟨g, k * 5 + 1, none⟩ (.string x.text)).setCell ⟨g, k * 5 + 2, none⟩ (.slice l.nA x.nn l.nc)).setCell ⟨g, k * 5 + 3, none⟩ (.slice l.kA x.kn l.kc)).setCell ⟨g, k * 5 + 4, none⟩ (.int .i64 x.turn)) B 0 (fun _ => false) (k + 1) (fun i => if i = k then 0 else O i) (fun i => if i = k then x else D i) (fun i => if i = k then l else L i) (.slice none 0 0) (.slice (some ⟨g, 0, none⟩) (k + 1) cap) := by
  refine h.item (o := 0) hN hB ?_ ?_ (fun b e => Or.inl e)
  · have hst : ∀ (i : Nat) (v : Value) (U : World), U.grownBy (U.setCell ⟨g, i, none⟩ v) (some g) := fun i v U => ⟨rfl, rfl, rfl, by simp, fun b _ hb => blk_setCell_other _ _ _ _ (show b ≠ g from fun e => hb (by rw [e]))⟩
    have tr : ∀ {A C E : World}, A.grownBy C (some g) → C.grownBy E (some g) → A.grownBy E (some g) := fun {A C E} h1 h2 => ⟨h2.os.trans h1.os, h2.tape.trans h1.tape, h2.output.trans h1.output, Nat.le_trans h1.size h2.size, fun b hb hne => (h2.block b (Nat.lt_of_lt_of_le hb h1.size) hne).trans (h1.block b hb hne)⟩
    exact tr (tr (tr (tr (hst _ _ _) (hst _ _ _)) (hst _ _ _)) (hst _ _ _)) (hst _ _ _)
  · exact owns_fill (owns_same h.ownI (fun b hb => hN.bel.block b (owns_block h.ownI hb).2)) hk

theorem OT.ext {W : World} {B k n : Nat} {Z : Nat → Bool} {O O' : Nat → Int} {D D' : Nat → Nd} {L L' : Nat → Loc} {lv iv : Value} (h : OT W B k Z n O D L lv iv) (he : ∀ i, i < n → D' i = D i ∧ L' i = L i) : OT W B k Z n O' D' L' lv iv := by
  have hr : ∀ d, d < 2 + 2 * n → rowT k Z n O' D' L' d = rowT k Z n O D L d := fun d hd => by
    unfold rowT
    by_cases e0 : d = 0
    · rw [if_pos e0, if_pos e0]
    · by_cases e1 : d = 1
      · rw [if_neg e0, if_pos e1, if_neg e0, if_pos e1]
        have key : ∀ m, m ≤ n → rowsT O' D' L' m = rowsT O D L m := fun m => by
          induction m with
          | zero => intro _; rfl
          | succ m ih => intro hm; rw [rowsT, rowsT, ih (by omega), (he m (by omega)).1, (he m (by omega)).2]; rfl
        rw [key n (Nat.le_refl _)]
      · rw [if_neg e0, if_neg e1, if_neg e0, if_neg e1, (he ((d - 2) / 2) (by omega)).1]
  have hv : ∀ d, d < 2 + 2 * n → valT lv iv D' L' d = valT lv iv D L d := fun d hd => by
    unfold valT
    by_cases e0 : d = 0
    · rw [if_pos e0, if_pos e0]
    · by_cases e1 : d = 1
      · rw [if_neg e0, if_pos e1, if_neg e0, if_pos e1]
      · rw [if_neg e0, if_neg e1, if_neg e0, if_neg e1, (he ((d - 2) / 2) (by omega)).1, (he ((d - 2) / 2) (by omega)).2]
  exact ⟨⟨fun d hd => by rw [hr d hd, hv d hd]; exact h.rows.own d hd, fun d1 d2 g1 g2 hne b e1 e2 => by rw [hv d1 g1] at e1; rw [hv d2 g2] at e2; exact h.rows.apart d1 d2 g1 g2 hne b e1 e2⟩⟩

theorem ot_strs {w : World} {B n c : Nat} {a : Option Addr} {S : Nat → ByteArray} (h : w.ownsRow B 9 1 (.slice a n c) n (strv (lst n S))) : IsStrs w a n S := by
  by_cases hn : n = 0
  · exact Or.inl hn
  · obtain ⟨g, rfl, hg⟩ := owns_addr h (by omega)
    exact Or.inr ⟨g, 0, rfl, hg, fun i hi => by rw [Nat.zero_add, h.cellAt i (by omega)]; simp [strv, lst, hi]⟩

theorem ot_ints {w : World} {B n c : Nat} {a : Option Addr} {Z : Nat → Int} (h : w.ownsRow B 3 1 (.slice a n c) n (intv0 n Z)) : IsInts w a n Z := by
  by_cases hn : n = 0
  · exact Or.inl hn
  · obtain ⟨g, rfl, hg⟩ := owns_addr h (by omega)
    exact Or.inr ⟨g, 0, rfl, hg, fun i hi => by rw [Nat.zero_add, h.cellAt i (by omega)]; simp [intv0, hi]⟩

theorem OT.nds {W : World} {B k n c : Nat} {Z : Nat → Bool} {O : Nat → Int} {D : Nat → Nd} {L : Nat → Loc} {lv : Value} {a : Option Addr} (h : OT W B k Z n O D L lv (.slice a n c)) : IsNds W a n D L := by
  by_cases hn : n = 0
  · exact Or.inl hn
  · obtain ⟨g, rfl, hg⟩ := owns_addr h.ownI (by omega)
    refine Or.inr ⟨g, 0, rfl, hg, fun i hi => ?_⟩
    obtain ⟨c0, c1, c2, c3, c4⟩ := h.cells hi
    rw [Nat.zero_add]
    exact ⟨c0, c1, c2, c3, c4, ot_strs (h.ownN hi), ot_ints (h.ownK hi)⟩

end Go.Proofs.Ytokalajliphcdaa

/-
  What the parts of TreeOk of the specification answer: texts, names, places, one place by itself.
-/
namespace Go.Proofs.Ytokalajliphcdaa
open Go.RowKit
set_option linter.unusedVariables false

/-- A text that can be in a file. -/
def textOk (s : ByteArray) : Bool := s.data.toList.all letter && decide (s.size ≤ 6)

/-- The order of texts, by their bytes. -/
def lessEq (s t : ByteArray) : Bool := Op.bytesLess s.toList t.toList || s.toList == t.toList

/-- The names are names, in order, each once: the first k of them. -/
def dirNames (S : Nat → ByteArray) (k : Nat) : Bool := (List.range k).all fun i => nameOk (S i).data.toList && (i == 0 || !lessEq (S i) (S (i - 1)))

theorem dirNames_bad (S : Nat → ByteArray) (k n : Nat) (hk : k < n) (h : (nameOk (S k).data.toList && (k == 0 || !lessEq (S k) (S (k - 1)))) = false) : false = dirNames S n := by
  symm
  rw [Bool.eq_false_iff]
  intro ha
  have := List.all_eq_true.1 ha k (by simpa using hk)
  rw [h] at this
  cases this

theorem dirNames_succ (S : Nat → ByteArray) (k : Nat) (h : dirNames S k = true) (hk : (nameOk (S k).data.toList && (k == 0 || !lessEq (S k) (S (k - 1)))) = true) : dirNames S (k + 1) = true := by
  unfold dirNames at *
  rw [List.range_succ, List.all_append, h]; simpa using hk

theorem dirNames_one (S : Nat → ByteArray) (h : nameOk (S 0).data.toList = true) : dirNames S 1 = true := dirNames_succ S 0 rfl (by rw [h]; rfl)
end Go.Proofs.Ytokalajliphcdaa

/-
  What l2Kids and l2Node of the specification answer.
-/
namespace Go.Proofs.Ytokalajliphcdaa
open Go.RowKit
set_option linter.unusedVariables false

/-- A place in a directory leads to one that is there and is not free. -/
def kidOk (n : Nat) (D : Nat → Nd) (z : Int) : Bool := decide (1 ≤ z) && decide (z < n) && (D z.toNat).kind != 0
/-- The first k places in a directory. -/
def kidsOk (n : Nat) (D : Nat → Nd) (Z : Nat → Int) (k : Nat) : Bool := (List.range k).all fun i => kidOk n D (Z i)

theorem kidsOk_succ {n : Nat} {D : Nat → Nd} {Z : Nat → Int} {k : Nat} (h : kidsOk n D Z k = true) (hk : kidOk n D (Z k) = true) : kidsOk n D Z (k + 1) = true := by
  unfold kidsOk at *
  rw [List.range_succ, List.all_append, h]; simpa using hk

theorem kidsOk_bad {n : Nat} {D : Nat → Nd} {Z : Nat → Int} {k m : Nat} (hk : k < m) (h : kidOk n D (Z k) = false) : kidsOk n D Z m = false := by
  rw [Bool.eq_false_iff]
  intro ha
  have := List.all_eq_true.1 ha k (by simpa using hk)
  simp [h] at this

end Go.Proofs.Ytokalajliphcdaa

/-
  What l2Node of the specification answers.
-/
namespace Go.Proofs.Ytokalajliphcdaa
open Go.RowKit
set_option linter.unusedVariables false

/-- A free place. -/
def freeOk (d : Nd) : Bool := (d.text.toList == []) && decide (d.nn = 0) && decide (d.kn = 0) && (d.turn == 0)
/-- A file. -/
def fileOk (now : Int) (d : Nd) : Bool := textOk d.text && decide (d.nn = 0) && decide (d.kn = 0) && decide (1 ≤ d.turn) && decide (d.turn ≤ now)
/-- A directory. -/
def dirOk (n : Nat) (D : Nat → Nd) (now : Int) (d : Nd) : Bool := (d.text.toList == []) && dirNames d.names d.nn && (kidsOk n D d.kids d.kn && decide (d.kn = d.nn)) && decide (1 ≤ d.turn) && decide (d.turn ≤ now)
/-- A place that is right by itself. -/
def ndOk (n : Nat) (D : Nat → Nd) (now : Int) (d : Nd) : Bool := if d.kind = 0 then freeOk d else if d.kind = 1 then fileOk now d else if d.kind = 2 then dirOk n D now d else false
end Go.Proofs.Ytokalajliphcdaa

/-
  What l2Refs of the specification answers: how many names a place has.
-/
namespace Go.Proofs.Ytokalajliphcdaa
open Go.RowKit
set_option linter.unusedVariables false

/-- How many of the first k are z. -/
def cnt (Z : Nat → Int) (z : Int) : Nat → Nat | 0 => 0 | k + 1 => cnt Z z k + (if Z k = z then 1 else 0)
/-- How many names a place has in the first i directories. -/
def refsTo (D : Nat → Nd) (z : Int) : Nat → Nat | 0 => 0 | i + 1 => refsTo D z i + cnt (D i).kids z (D i).kn

theorem cnt_le (Z : Nat → Int) (z : Int) (k : Nat) : cnt Z z k ≤ k := by
  induction k with
  | zero => exact Nat.le_refl _
  | succ k ih => unfold cnt; split <;> omega

theorem refsTo_le (D : Nat → Nd) (z : Int) (i : Nat) : refsTo D z i ≤ sizeTo D i := by
  induction i with
  | zero => exact Nat.le_refl _
  | succ i ih =>
    unfold refsTo
    rw [sizeTo_succ]
    have := cnt_le (D i).kids z (D i).kn
    unfold Nd.size
    omega

theorem sizeTo_mono (D : Nat → Nd) {i j : Nat} (h : i ≤ j) : sizeTo D i ≤ sizeTo D j := by
  induction j with
  | zero => have : i = 0 := by omega
            subst this; exact Nat.le_refl _
  | succ j ih =>
    by_cases e : i = j + 1
    · subst e; exact Nat.le_refl _
    · have := ih (by omega)
      rw [sizeTo_succ]; omega
end Go.Proofs.Ytokalajliphcdaa

/-
  Which places are reached from the root: plain facts. Marks that grow round by round come to just these within as many rounds as there are places.
-/
namespace Go.Proofs.Ytokalajliphcdaa
set_option linter.unusedVariables false

/-- A place that is reached from the root. -/
inductive Reach (n : Nat) (D : Nat → Nd) : Nat → Prop
  | root : Reach n D 0
  | step {i j : Nat} : Reach n D i → i < n → j < (D i).kn → Reach n D ((D i).kids j).toNat

/-- So many of the first k are marked. -/
def cntB (m : Nat → Bool) : Nat → Nat | 0 => 0 | k + 1 => cntB m k + (if m k = true then 1 else 0)

theorem cntB_le (m : Nat → Bool) (k : Nat) : cntB m k ≤ k := by
  induction k with
  | zero => exact Nat.le_refl _
  | succ k ih => unfold cntB; split <;> omega

theorem cntB_mono {m m' : Nat → Bool} (h : ∀ j, m j = true → m' j = true) (k : Nat) : cntB m k ≤ cntB m' k := by
  induction k with
  | zero => exact Nat.le_refl _
  | succ k ih =>
    unfold cntB
    by_cases hk : m k = true
    · rw [if_pos hk, if_pos (h k hk)]; omega
    · rw [if_neg hk]; omega

theorem cntB_lt {m m' : Nat → Bool} (h : ∀ j, m j = true → m' j = true) {i : Nat} (h1 : ¬ m i = true) (h2 : m' i = true) (k : Nat) (hi : i < k) : cntB m k + 1 ≤ cntB m' k := by
  induction k with
  | zero => omega
  | succ k ih =>
    unfold cntB
    by_cases e : i = k
    · subst e
      rw [if_neg h1, if_pos h2]
      have := cntB_mono h i
      omega
    · have := ih (by omega)
      by_cases hk : m k = true
      · rw [if_pos hk, if_pos (h k hk)]; omega
      · rw [if_neg hk]; omega

theorem cntB_one {m : Nat → Bool} (h : m 0 = true) (k : Nat) (hk : 1 ≤ k) : 1 ≤ cntB m k := by
  induction k with
  | zero => omega
  | succ k ih =>
    unfold cntB
    by_cases e : k = 0
    · subst e
      rw [if_pos h]; omega
    · have := ih (by omega)
      omega

/-- What is marked leads to what is marked. -/
def Closed (n : Nat) (D : Nat → Nd) (m : Nat → Bool) : Prop := ∀ i, i < n → m i = true → ∀ j, j < (D i).kn → m ((D i).kids j).toNat = true
/-- What is marked is reached. -/
def Sound (n : Nat) (D : Nat → Nd) (m : Nat → Bool) : Prop := ∀ i, m i = true → Reach n D i

/-- Behind r rounds. -/
structure Rounds (n : Nat) (D : Nat → Nd) (r : Nat) (m : Nat → Bool) : Prop where
  sound : Sound n D m
  root : m 0 = true
  more : Closed n D m ∨ r + 1 ≤ cntB m n

/-- Within a round that began with m0: the first i directories are through. -/
structure Pass (n : Nat) (D : Nat → Nd) (m0 : Nat → Bool) (i : Nat) (m : Nat → Bool) : Prop where
  sound : Sound n D m
  sub : ∀ j, m0 j = true → m j = true
  shut : Closed n D m0 → ∀ j, m j = true → m0 j = true
  kids : ∀ i', i' < i → m0 i' = true → ∀ j, j < (D i').kn → m ((D i').kids j).toNat = true

theorem Rounds.start {n : Nat} {D : Nat → Nd} (hn : 1 ≤ n) : Rounds n D 0 (fun j => decide (j = 0)) :=
  ⟨fun i hi => by simp at hi; subst hi; exact .root, by simp, Or.inr (cntB_one (by simp) n hn)⟩

theorem Rounds.pass {n : Nat} {D : Nat → Nd} {r : Nat} {m : Nat → Bool} (h : Rounds n D r m) : Pass n D m 0 m := ⟨h.sound, fun _ h => h, fun _ _ h => h, fun i' hi => by omega⟩

/-- One mark more. -/
theorem Pass.put {n : Nat} {D : Nat → Nd} {m0 : Nat → Bool} {i : Nat} {m : Nat → Bool} (h : Pass n D m0 i m) (hi : i < n) (hm : m i = true) {j : Nat} (hj : j < (D i).kn) :
    Pass n D m0 i (fun x => if x = ((D i).kids j).toNat then true else m x) := by
  refine ⟨fun x hx => ?_, fun x hx => ?_, fun hc x hx => ?_, fun i' hi' hm' j' hj' => ?_⟩
  · by_cases e : x = ((D i).kids j).toNat
    · subst e; exact .step (h.sound i hm) hi hj
    · simp only [if_neg e] at hx; exact h.sound x hx
  · by_cases e : x = ((D i).kids j).toNat
    · simp [e]
    · simp only [if_neg e]; exact h.sub x hx
  · by_cases e : x = ((D i).kids j).toNat
    · subst e; exact hc i hi (h.shut hc i hm) j hj
    · simp only [if_neg e] at hx; exact h.shut hc x hx
  · have := h.kids i' hi' hm' j' hj'
    by_cases e : ((D i').kids j').toNat = ((D i).kids j).toNat
    · simp [e]
    · simp only [if_neg e]; exact this

theorem Pass.next {n : Nat} {D : Nat → Nd} {m0 : Nat → Bool} {i : Nat} {m : Nat → Bool} (h : Pass n D m0 i m) (hk : m0 i = true → ∀ j, j < (D i).kn → m ((D i).kids j).toNat = true) : Pass n D m0 (i + 1) m :=
  ⟨h.sound, h.sub, h.shut, fun i' hi' hm => by
    by_cases e : i' = i
    · subst e; exact hk hm
    · exact h.kids i' (by omega) hm⟩

theorem Pass.done {n : Nat} {D : Nat → Nd} {m0 : Nat → Bool} {m : Nat → Bool} {r : Nat} (h0 : Rounds n D r m0) (h : Pass n D m0 n m) (hk : ∀ i, i < n → ∀ j, j < (D i).kn → 0 ≤ (D i).kids j ∧ (D i).kids j < n) : Rounds n D (r + 1) m := by
  refine ⟨h.sound, h.sub 0 h0.root, ?_⟩
  by_cases hc : Closed n D m0
  · left
    intro i hi hm j hj
    exact h.sub _ (hc i hi (h.shut hc i hm) j hj)
  · right
    have hr : r + 1 ≤ cntB m0 n := h0.more.resolve_left hc
    unfold Closed at hc
    simp only [Classical.not_forall] at hc
    obtain ⟨i, hi, hm, j, hj, hx⟩ := hc
    have hb := hk i hi j hj
    have := cntB_lt h.sub hx (h.kids i hi hm j hj) n (by omega)
    omega

/-- The marks at the end are just the places that are reached. -/
theorem Rounds.fin {n : Nat} {D : Nat → Nd} {m : Nat → Bool} (h : Rounds n D n m) (hk : ∀ i, i < n → ∀ j, j < (D i).kn → 0 ≤ (D i).kids j ∧ (D i).kids j < n) (i : Nat) : m i = true ↔ Reach n D i := by
  have hc : Closed n D m := by
    rcases h.more with hc | hc
    · exact hc
    · have := cntB_le m n; omega
  refine ⟨h.sound i, fun hr => ?_⟩
  induction hr with
  | root => exact h.root
  | step hr hi hj ih => exact hc _ hi ih _ hj
end Go.Proofs.Ytokalajliphcdaa

/-
  What l2Marks of the specification answers: which places are reached from the root.
-/
namespace Go.Proofs.Ytokalajliphcdaa
open Go.RowKit
set_option linter.unusedVariables false

end Go.Proofs.Ytokalajliphcdaa

/-
  What TreeOk of the specification answers.
-/
namespace Go.Proofs.Ytokalajliphcdaa
open Go.RowKit
set_option linter.unusedVariables false

/-- A tree that is one. -/
structure TreeGood (n : Nat) (D : Nat → Nd) (now : Int) : Prop where
  some : 1 ≤ n
  few : n ≤ 10
  begun : 1 ≤ now
  soon : now ≤ 1000
  root : (D 0).kind = 2
  nodes : ∀ i, i < n → ndOk n D now (D i) = true
  reach : ∀ i, 1 ≤ i → i < n → (Reach n D i ↔ (D i).kind ≠ 0)
  one : ∀ i, 1 ≤ i → i < n → (D i).kind = 2 → refsTo D i n = 1

/-- Places in the directories of such a tree lead to places. -/
theorem kids_in {n : Nat} {D : Nat → Nd} {now : Int} (h : ∀ i, i < n → ndOk n D now (D i) = true) : ∀ i, i < n → ∀ j, j < (D i).kn → 0 ≤ (D i).kids j ∧ (D i).kids j < n := by
  intro i hi j hj
  have := h i hi
  unfold ndOk at this
  split at this
  · unfold freeOk at this; simp at this; omega
  · split at this
    · unfold fileOk at this; simp at this; omega
    · split at this
      · unfold dirOk at this
        simp only [Bool.and_eq_true] at this
        have hk := List.all_eq_true.1 this.1.1.2.1 j (by simpa using hj)
        unfold kidOk at hk
        simp at hk
        omega
      · cases this

theorem tree_mark {n : Nat} {D : Nat → Nd} {now : Int} (h : TreeGood n D now) {m : Bool} {i : Nat} (hm : m = true ↔ Reach n D i) (h1 : 1 ≤ i) (h2 : i < n) : m = ((D i).kind != 0) := by
  have := h.reach i h1 h2
  cases hk : ((D i).kind != 0) with
  | true => exact hm.2 (this.2 (by simpa using hk))
  | false =>
    rw [Bool.eq_false_iff]
    intro hm'
    exact this.1 (hm.1 hm') (by simpa using hk)
end Go.Proofs.Ytokalajliphcdaa

/-
  What DumpOf of the specification answers.
-/
namespace Go.Proofs.Ytokalajliphcdaa
open Go.RowKit Go.Deep
set_option linter.unusedVariables false
set_option linter.unusedSimpArgs false

/-- A place that was turned since. -/
def turnedB (D : Nat → Nd) (since : Int) (i : Nat) : Bool := (D i).kind != 0 && decide (since < (D i).turn)
/-- Those of the first k. -/
def selTo (D : Nat → Nd) (since : Int) (k : Nat) : List Nat := (List.range k).filter (turnedB D since)

theorem selTo_yes {D : Nat → Nd} {since : Int} {k : Nat} (h : turnedB D since k = true) : selTo D since (k + 1) = selTo D since k ++ [k] := by simp [selTo, List.range_succ, List.filter_append, h]
theorem selTo_no {D : Nat → Nd} {since : Int} {k : Nat} (h : turnedB D since k = false) : selTo D since (k + 1) = selTo D since k := by simp [selTo, List.range_succ, List.filter_append, h]
theorem selTo_len (D : Nat → Nd) (since : Int) (k : Nat) : (selTo D since k).length ≤ k := by
  have := List.length_filter_le (turnedB D since) (List.range k)
  simpa [selTo] using this

/-- m places are the ones. -/
structure Sel (D : Nat → Nd) (since : Int) (k m : Nat) (O : Nat → Int) (E : Nat → Nd) : Prop where
  len : m = (selTo D since k).length
  each : ∀ i, i < m → O i = ((selTo D since k).getD i 0 : Nat) ∧ E i = D ((selTo D since k).getD i 0)

theorem Sel.no {D : Nat → Nd} {since : Int} {k m : Nat} {O : Nat → Int} {E : Nat → Nd} (h : Sel D since k m O E) (hk : turnedB D since k = false) : Sel D since (k + 1) m O E := by
  refine ⟨by rw [selTo_no hk]; exact h.len, by rw [selTo_no hk]; exact h.each⟩

theorem Sel.yes {D : Nat → Nd} {since : Int} {k m : Nat} {O : Nat → Int} {E : Nat → Nd} (h : Sel D since k m O E) (hk : turnedB D since k = true) : Sel D since (k + 1) (m + 1) (fun i => if i = m then (k : Int) else O i) (fun i => if i = m then D k else E i) := by
  have hl := h.len
  refine ⟨by rw [selTo_yes hk]; simp [hl], fun i hi => ?_⟩
  rw [selTo_yes hk]
  by_cases e : i = m
  · subst e
    simp [hl]
  · have hi' : i < m := by omega
    have := h.each i hi'
    simp only [if_neg e]
    rw [this.1, this.2]
    simp [List.getElem?_append_left (show i < (selTo D since k).length by omega)]

theorem src_item (W : World) (o : Int) (d : Nd) (l : Loc) : Src (W.alloc (.cells #[.int .i64 o, .int .i64 d.kind, .string d.text, .slice l.nA d.nn l.nc, .slice l.kA d.kn l.kc, .int .i64 d.turn] 91)) 6 (.slice (some ⟨W.heap.size, 0, none⟩) 1 1) 1 (it6 o d l) :=
  ⟨rfl, it6_one o d l, Or.inr ⟨⟨W.heap.size, 0, none⟩, 1, rfl, fun j u hu => by
    rw [addr_add, Nat.zero_add]
    have := (Blk.new W #[.int .i64 o, .int .i64 d.kind, .string d.text, .slice l.nA d.nn l.nc, .slice l.kA d.kn l.kc, .int .i64 d.turn] 91).cell j
    rw [this]
    simpa [it6] using hu⟩⟩

theorem blk_grown {w w' : World} {b : Nat} {cs : Array Value} {t : TypeId} {r : Option Nat} (h : Blk w b cs t) (hg : w.grownBy w' r) (hr : r ≠ some b) : Blk w' b cs t := h.of_block (hg.block b h.lt (fun e => hr e.symm))

/-- What it answers. -/
def DumpOfPost (w : World) (n : Nat) (D : Nat → Nd) (now since : Int) (e : Ending) (w' : World) : Prop :=
  Below w.heap.size w w' ∧ ((¬ (TreeGood n D now ∧ 0 ≤ since ∧ since ≤ now) ∧ e = .returned (.tuple #[.agg #[.int .i64 0, .int .i64 0, .slice none 0 0, .slice none 0 0], .bool false])) ∨
    (TreeGood n D now ∧ 0 ≤ since ∧ since ≤ now ∧ ∃ la lc m ia ic O E M, e = .returned (.tuple #[.agg #[.int .i64 since, .int .i64 now, .slice la n lc, .slice ia m ic], .bool true]) ∧ OD w' w.heap.size n (fun i => (D i).kind != 0) m O E M (.slice la n lc) (.slice ia m ic) ∧ Sel D since n m O E))

/-- A list of operations is walked at a world of which no more is said than this. -/
theorem wpList_at {P : Program} {ops : Array Oper} {l : List Oper} {a : Act} {Q : Exit → Act → World → Prop} {F : World → Prop} {w : World} (h : F w) (g : ∀ W, F W → wpList P ops Q l a W) : wpList P ops Q l a w := g w h

end Go.Proofs.Ytokalajliphcdaa

/-
  What markItemS does at what is kept, in memory of one's own: every list holds its own marks afterwards.
-/
namespace Go.Proofs.Ytokalajliphcdaa
open Go.RowKit Go.Deep
set_option linter.unusedVariables false
set_option linter.unusedSimpArgs false

section
variable {O O' : Nat → Int} {D D' : Nat → Nd} {L : Nat → Loc}

theorem rowsI_set {m i r : Nat} {u : Value} (hi : i < m) (hr : r < 6) (hx : it6 (O' i) (D' i) (L i) = (it6 (O i) (D i) (L i)).set r u) (ho : ∀ j, j < m → j ≠ i → O' j = O j ∧ D' j = D j) : (rowsI O D L m).set (i * 6 + r) u = rowsI O' D' L m := by
  apply List.ext_getElem?
  intro q
  by_cases hq : q < m * 6
  · have h1 := rowsI_get (O := O') (D := D') (L := L) m (q / 6) (by omega) (q % 6) (by omega)
    have h2 := rowsI_get (O := O) (D := D) (L := L) m (q / 6) (by omega) (q % 6) (by omega)
    rw [show q / 6 * 6 + q % 6 = q by omega] at h1 h2
    rw [h1, List.getElem?_set]
    by_cases e : q / 6 = i
    · rw [e, hx, List.getElem?_set]
      by_cases e2 : i * 6 + r = q
      · have e3 : r = q % 6 := by omega
        rw [if_pos e2, if_pos (by rw [rowsI_len]; omega), if_pos e3, if_pos (by simp [it6]; omega)]
      · have e3 : r ≠ q % 6 := by omega
        rw [if_neg e2, if_neg e3, h2, e]
    · obtain ⟨a1, a2⟩ := ho (q / 6) (by omega) e
      rw [if_neg (by omega), h2, a1, a2]
  · rw [List.getElem?_eq_none (by rw [List.length_set, rowsI_len]; omega), List.getElem?_eq_none (by rw [rowsI_len]; omega)]
end

section
variable {W : World} {B k : Nat} {Z : Nat → Bool} {m : Nat} {O : Nat → Int} {D : Nat → Nd} {L : Nat → Loc} {lv iv : Value} {g ic : Nat}

/-- The cells of a place that was turned. -/
theorem OD.cells (h : OD W B k Z m O D L lv (.slice (some ⟨g, 0, none⟩) m ic)) {i : Nat} (hi : i < m) : W.cell? ⟨g, i * 6, none⟩ = some (.int .i64 (O i)) ∧ W.cell? ⟨g, i * 6 + 1, none⟩ = some (.int .i64 (D i).kind) ∧ W.cell? ⟨g, i * 6 + 2, none⟩ = some (.string (D i).text) ∧
    W.cell? ⟨g, i * 6 + 3, none⟩ = some (.slice (L i).nA (D i).nn (L i).nc) ∧ W.cell? ⟨g, i * 6 + 4, none⟩ = some (.slice (L i).kA (D i).kn (L i).kc) ∧ W.cell? ⟨g, i * 6 + 5, none⟩ = some (.int .i64 (D i).turn) := by
  have key : ∀ r, r < 6 → W.cell? ⟨g, i * 6 + r, none⟩ = (it6 (O i) (D i) (L i))[r]? := fun r hr => by
    rw [h.ownI.cellAt (i * 6 + r) (by omega), rowsI_get m i hi r hr]
  exact ⟨key 0 (by omega), key 1 (by omega), key 2 (by omega), key 3 (by omega), key 4 (by omega), key 5 (by omega)⟩

theorem OD.free (h : OD W B k Z m O D L lv (.slice (some ⟨g, 0, none⟩) m ic)) (j : Nat) : W.frozen? ⟨g, j, none⟩ = false := h.ownI.frozenAt j

theorem OD.putIno (h : OD W B k Z m O D L lv (.slice (some ⟨g, 0, none⟩) m ic)) {i : Nat} (hi : i < m) (z : Int) : OD (W.setCell ⟨g, i * 6, none⟩ (.int .i64 z)) B k Z m (fun j => if j = i then z else O j) D L lv (.slice (some ⟨g, 0, none⟩) m ic) := by
  obtain ⟨h1, h2⟩ := h.ownI.stored (i * 6 + 0) (.int .i64 z)
  rw [rowsI_set (O' := fun j => if j = i then z else O j) (D' := D) hi (by omega) (by simp [it6]) (fun j hj e => by simp [e])] at h1
  exact h.turnItems (fun j hj => ⟨rfl, rfl, rfl, rfl⟩) h2 h1

theorem OD.putKind (h : OD W B k Z m O D L lv (.slice (some ⟨g, 0, none⟩) m ic)) {i : Nat} (hi : i < m) (z : Int) : OD (W.setCell ⟨g, i * 6 + 1, none⟩ (.int .i64 z)) B k Z m O (fun j => if j = i then { D i with kind := z } else D j) L lv (.slice (some ⟨g, 0, none⟩) m ic) := by
  obtain ⟨h1, h2⟩ := h.ownI.stored (i * 6 + 1) (.int .i64 z)
  rw [rowsI_set (O' := O) (D' := fun j => if j = i then { D i with kind := z } else D j) hi (by omega) (by simp [it6]) (fun j hj e => by simp [e])] at h1
  exact h.turnItems (fun j hj => by by_cases e : j = i <;> simp [e]) h2 h1

theorem OD.putText (h : OD W B k Z m O D L lv (.slice (some ⟨g, 0, none⟩) m ic)) {i : Nat} (hi : i < m) (s : ByteArray) : OD (W.setCell ⟨g, i * 6 + 2, none⟩ (.string s)) B k Z m O (fun j => if j = i then { D i with text := s } else D j) L lv (.slice (some ⟨g, 0, none⟩) m ic) := by
  obtain ⟨h1, h2⟩ := h.ownI.stored (i * 6 + 2) (.string s)
  rw [rowsI_set (O' := O) (D' := fun j => if j = i then { D i with text := s } else D j) hi (by omega) (by simp [it6]) (fun j hj e => by simp [e])] at h1
  exact h.turnItems (fun j hj => by by_cases e : j = i <;> simp [e]) h2 h1

theorem OD.putTurn (h : OD W B k Z m O D L lv (.slice (some ⟨g, 0, none⟩) m ic)) {i : Nat} (hi : i < m) (z : Int) : OD (W.setCell ⟨g, i * 6 + 5, none⟩ (.int .i64 z)) B k Z m O (fun j => if j = i then { D i with turn := z } else D j) L lv (.slice (some ⟨g, 0, none⟩) m ic) := by
  obtain ⟨h1, h2⟩ := h.ownI.stored (i * 6 + 5) (.int .i64 z)
  rw [rowsI_set (O' := O) (D' := fun j => if j = i then { D i with turn := z } else D j) hi (by omega) (by simp [it6]) (fun j hj e => by simp [e])] at h1
  exact h.turnItems (fun j hj => by by_cases e : j = i <;> simp [e]) h2 h1

theorem OD.ownN (h : OD W B k Z m O D L lv iv) {i : Nat} (hi : i < m) : W.ownsRow B 9 1 (.slice (L i).nA (D i).nn (L i).nc) (D i).nn (strv (lst (D i).nn (D i).names)) := by
  have hd : (2 + 2 * i - 2) / 2 = i := by omega
  have := h.rows.own (2 + 2 * i) (by omega)
  unfold rowD valD at this
  rw [if_neg (by omega), if_neg (by omega), if_pos (by omega), if_neg (by omega), if_neg (by omega), if_pos (by omega), hd] at this
  exact this

theorem OD.ownK (h : OD W B k Z m O D L lv iv) {i : Nat} (hi : i < m) : W.ownsRow B 3 1 (.slice (L i).kA (D i).kn (L i).kc) (D i).kn (intv0 (D i).kn (D i).kids) := by
  have hd : (3 + 2 * i - 2) / 2 = i := by omega
  have := h.rows.own (3 + 2 * i) (by omega)
  unfold rowD valD at this
  rw [if_neg (by omega), if_neg (by omega), if_neg (by omega), if_neg (by omega), if_neg (by omega), if_neg (by omega), hd] at this
  exact this
end

/-- Blocks below B, and those from H on, are kept. -/
structure Fr (B H : Nat) (w w' : World) : Prop where
  bel : Below B w w'
  far : ∀ b, H ≤ b → b < w.heap.size → w'.heap[b]? = w.heap[b]?

theorem Fr.refl (B H : Nat) (w : World) : Fr B H w w := ⟨Below.refl _ _, fun _ _ _ => rfl⟩
theorem Fr.put {B H : Nat} {a w : World} (h : Fr B H a w) {b i : Nat} (v : Value) (hb : B ≤ b) (hH : b < H) : Fr B H a (w.setCell ⟨b, i, none⟩ v) := ⟨bel_put h.bel v hb, fun j hj hl => (blk_setCell_other _ _ _ _ (show j ≠ b by omega)).trans (h.far j hj hl)⟩
theorem Fr.below {B H : Nat} {a w w' : World} (h : Fr B H a w) (hB : B ≤ w.heap.size) (hb : Below w.heap.size w w') : Fr B H a w' := ⟨h.bel.trans (hb.mono hB), fun j hj hl => (hb.block j (Nat.lt_of_lt_of_le hl h.bel.size)).trans (h.far j hj hl)⟩
theorem Fr.grow {B H : Nat} {a w w' : World} {r : Option Nat} (h : Fr B H a w) (hg : w.grownBy w' r) (hB : B ≤ w.heap.size) (hr : ∀ b, r = some b → B ≤ b ∧ b < H) : Fr B H a w' := ⟨h.bel.grown hg hB (fun b e => (hr b e).1), fun j hj hl => (hg.block j (Nat.lt_of_lt_of_le hl h.bel.size) (fun e => by have := (hr j e.symm).2; omega)).trans (h.far j hj hl)⟩

theorem Fr.trans {B H : Nat} {a b c : World} (h : Fr B H a b) (_hB : B ≤ b.heap.size) (k : Fr B H b c) : Fr B H a c := ⟨h.bel.trans k.bel, fun j hj hl => (k.far j hj (Nat.lt_of_lt_of_le hl h.bel.size)).trans (h.far j hj hl)⟩

theorem valD_n {lv iv : Value} {D : Nat → Nd} {L : Nat → Loc} {j : Nat} : valD lv iv D L (2 + 2 * j) = .slice (L j).nA (D j).nn (L j).nc := by unfold valD; rw [if_neg (by omega), if_neg (by omega), if_pos (by omega), show (2 + 2 * j - 2) / 2 = j by omega]
theorem valD_k {lv iv : Value} {D : Nat → Nd} {L : Nat → Loc} {j : Nat} : valD lv iv D L (3 + 2 * j) = .slice (L j).kA (D j).kn (L j).kc := by unfold valD; rw [if_neg (by omega), if_neg (by omega), if_neg (by omega), show (3 + 2 * j - 2) / 2 = j by omega]

/-- The first mark of place j. -/
def kap (D : Nat → Nd) (k0 : Nat) : Nat → Nat | 0 => k0 | j + 1 => kap D k0 j + (4 + (D j).nn + (D j).kn)
/-- A place, marked from q on. -/
def markNd (d : Nd) (q : Nat) : Nd := ⟨((q + 1 : Nat) : Int), ⟨(markOf (q + 2)).toArray⟩, d.nn, marks (q + 3), d.kn, fun i => ((q + 3 + d.nn + i : Nat) : Int), ((q + 3 + d.nn + d.kn : Nat) : Int)⟩
def markO (D : Nat → Nd) (k0 : Nat) (O : Nat → Int) (j : Nat) : Nat → Int := fun i => if i < j then ((kap D k0 i : Nat) : Int) else O i
def markD (D : Nat → Nd) (k0 j : Nat) : Nat → Nd := fun i => if i < j then markNd (D i) (kap D k0 i) else D i

theorem kap_mono (D : Nat → Nd) (k0 : Nat) {i j : Nat} (h : i ≤ j) : kap D k0 i ≤ kap D k0 j := by
  induction h with
  | refl => exact Nat.le_refl _
  | step _ ih => rw [kap]; omega

theorem kap_ge (D : Nat → Nd) (k0 i : Nat) : k0 ≤ kap D k0 i := kap_mono D k0 (Nat.zero_le i)

set_option maxRecDepth 100000 in
set_option maxHeartbeats 4000000 in
theorem markItemS_own (H : Nat) (ia : Option Addr) (m ic k0 B k : Nat) (Z : Nat → Bool) (O : Nat → Int) (D : Nat → Nd) (L : Nat → Loc) (lv : Value) (w : World) (h : OD w B k Z m O D L lv (.slice ia m ic)) (hm : m ≤ 1048576) (hk1 : 1 ≤ k0) (hH : ∀ d b, d < 2 + 2 * m → (valD lv (.slice ia m ic) D L d).ownBlock = some b → b < H) (hkap : kap D k0 m ≤ 90000000) (hsz : ∀ i, i < m → (D i).nn ≤ 1048576 ∧ (D i).kn ≤ 1048576) :
    Calls Try.prog 35 #[.slice ia m ic, .int .i64 k0] w fun e w' => e = .returned (.int .i64 (kap D k0 m : Nat)) ∧ Fr B H w w' ∧ OD w' B k Z m (markO D k0 O m) (markD D k0 m) L lv (.slice ia m ic) := by
  go_enter Try.func35, Try.ntmps35
  go_wp2
  go_loopw [1, 5] (fun kk i wr => ∃ j : Nat, j ≤ m ∧ i = .int .i64 j ∧ kk = .int .i64 (kap D k0 j : Nat) ∧ Fr B H w wr ∧ OD wr B k Z m (markO D k0 O j) (markD D k0 j) L lv (.slice ia m ic)) (fun _ i _ => m - (intOf i).toNat)
  case atStart => exact ⟨0, Nat.zero_le _, rfl, rfl, Fr.refl _ _ _, by rw [show markO D k0 O 0 = O from by funext i; simp [markO], show markD D k0 0 = D from by funext i; simp [markD]]; exact h⟩
  case round =>
    obtain ⟨j, hj, rfl, rfl, hb, hod⟩ := hrel
    by_cases hlt : j < m
    · obtain ⟨g, rfl, hgl⟩ := owns_addr hod.ownI (by omega)
      have hBg : B ≤ g := (owns_block hod.ownI rfl).1
      have hgH : g < H := hH 1 g (by omega) rfl
      have hlti : (j : Int) < (m : Int) := by omega
      have hq1 := kap_ge D k0 j
      have hq2 := kap_mono D k0 (show j + 1 ≤ m by omega)
      have hq3 : kap D k0 (j + 1) = kap D k0 j + (4 + (D j).nn + (D j).kn) := rfl
      obtain ⟨hs1, hs2⟩ := hsz j hlt
      generalize hq : kap D k0 j = q at *
      have HQ : Hid (kap D k0 j = q) := hq
      clear hq
      have hqb : q ≤ 90000000 := by omega
      have hDj : markD D k0 j j = D j := by simp [markD]
      obtain ⟨c0, c1, c2, c3, c4, c5⟩ := hod.cells hlt
      have f0 := hod.free (j * 6)
      have f1 := hod.free (j * 6 + 1)
      have f2 := hod.free (j * 6 + 2)
      have f5 := hod.free (j * 6 + 5)
      rw [hDj] at c1 c2 c3 c4 c5
      have H0 : Hid (Fr B H w wr ∧ OD wr B k Z m (markO D k0 O j) (markD D k0 j) L lv (.slice (some ⟨g, 0, none⟩) m ic)) := ⟨hb, hod⟩
      have H2 : Hid (Fr B H w ((wr.setCell ⟨g, j * 6, none⟩ (.int .i64 q)).setCell ⟨g, j * 6 + 1, none⟩ (.int .i64 ((q : Int) + 1))) ∧ OD ((wr.setCell ⟨g, j * 6, none⟩ (.int .i64 q)).setCell ⟨g, j * 6 + 1, none⟩ (.int .i64 ((q : Int) + 1))) B k Z m (fun i => if i = j then (q : Int) else markO D k0 O j i) (fun i => if i = j then { D j with kind := (q : Int) + 1 } else markD D k0 j i) L lv (.slice (some ⟨g, 0, none⟩) m ic)) := ⟨(hb.put _ hBg hgH).put _ hBg hgH, by have := (hod.putIno hlt (q : Int)).putKind hlt ((q : Int) + 1); rw [hDj] at this; exact this⟩
      clear hb hod H0
      go_wp2_with fail
      have e2 : (q : Int) + 1 + 1 = ((q + 2 : Nat) : Int) := by omega
      rw [e2]
      clear e2
      refine at_world (F := fun W => Fr B H w W ∧ OD W B k Z m (fun i => if i = j then (q : Int) else markO D k0 O j i) (fun i => if i = j then { D j with kind := (q : Int) + 1 } else markD D k0 j i) L lv (.slice (some ⟨g, 0, none⟩) m ic)) H2.out ?_
      clear H2 c0 c1 c2 c3 c4 c5 f0 f1 f2 f5
      rintro W2 ⟨hb2, hod2⟩
      refine (markText_any (q + 2) W2 (by omega) (by omega)).mono ?_
      rintro e W3 ⟨rfl, hb3⟩
      have hod3 := hod2.below hb3
      have hgl2 : g < W2.heap.size := (owns_block hod2.ownI rfl).2
      have hb3' : Fr B H w W3 := hb2.below (by omega) hb3
      obtain ⟨_, _, c2, _, _, _⟩ := hod3.cells hlt
      have f2 := hod3.free (j * 6 + 2)
      have c2' : W3.cell? ⟨g, j * 6 + 2, none⟩ = some (.string (D j).text) := by rw [c2]; simp
      have H4 : Hid (Fr B H w (W3.setCell ⟨g, j * 6 + 2, none⟩ (.string ⟨(markOf (q + 2)).toArray⟩)) ∧ OD (W3.setCell ⟨g, j * 6 + 2, none⟩ (.string ⟨(markOf (q + 2)).toArray⟩)) B k Z m (fun i => if i = j then (q : Int) else markO D k0 O j i) (fun i => if i = j then { D j with kind := (q : Int) + 1, text := ⟨(markOf (q + 2)).toArray⟩ } else markD D k0 j i) L lv (.slice (some ⟨g, 0, none⟩) m ic)) := ⟨hb3'.put _ hBg hgH, by
        have := hod3.putText hlt ⟨(markOf (q + 2)).toArray⟩
        rw [show (fun i => if i = j then { D j with kind := (q : Int) + 1, text := ⟨(markOf (q + 2)).toArray⟩ } else markD D k0 j i) = (fun i => if i = j then { (fun i => if i = j then { D j with kind := (q : Int) + 1 } else markD D k0 j i) j with text := ⟨(markOf (q + 2)).toArray⟩ } else (fun i => if i = j then { D j with kind := (q : Int) + 1 } else markD D k0 j i) i) from by
          funext i
          by_cases e : i = j <;> simp [e]]
        exact this⟩
      obtain ⟨_, _, _, c3, c4, _⟩ := H4.out.2.cells hlt
      have c3' : (W3.setCell ⟨g, j * 6 + 2, none⟩ (.string ⟨(markOf (q + 2)).toArray⟩)).cell? ⟨g, j * 6 + 3, none⟩ = some (.slice (L j).nA (D j).nn (L j).nc) := by rw [c3]; simp
      have d3 : W3.cell? ⟨g, j * 6 + 3, none⟩ = some (.slice (L j).nA (D j).nn (L j).nc) := by
        obtain ⟨_, _, _, c3, _, _⟩ := hod3.cells hlt
        rw [c3]; simp
      clear c2 c3 c4 c3' hod2 hod3 hb2 hb3 hb3'
      go_wp2_with fail
      have e3 : (q : Int) + 2 + 1 = ((q + 3 : Nat) : Int) := by omega
      rw [e3]
      clear e3
      refine at_world (F := fun W => Fr B H w W ∧ OD W B k Z m (fun i => if i = j then (q : Int) else markO D k0 O j i) (fun i => if i = j then { D j with kind := (q : Int) + 1, text := ⟨(markOf (q + 2)).toArray⟩ } else markD D k0 j i) L lv (.slice (some ⟨g, 0, none⟩) m ic)) H4.out ?_
      clear H4 c2' d3 f2
      rintro W4 ⟨hb4, hod4⟩
      have hN4 : W4.ownsRow B 9 1 (.slice (L j).nA (D j).nn (L j).nc) (D j).nn (strv (lst (D j).nn (D j).names)) := by simpa using hod4.ownN hlt
      have hgl4 : g < W4.heap.size := (owns_block hod4.ownI rfl).2
      refine (markStringS_own (L j).nA (D j).nn (L j).nc (q + 3) B (D j).names W4 hN4 hs1 (by omega) (by omega)).mono ?_
      rintro e W5 ⟨rfl, hown5, hg5⟩
      have hb5 : Fr B H w W5 := hb4.grow hg5 (by omega) (fun b e => ⟨(owns_block hN4 e).1, hH (2 + 2 * j) b (by omega) (by rw [valD_n]; exact e)⟩)
      have hod5 : OD W5 B k Z m (fun i => if i = j then (q : Int) else markO D k0 O j i) (fun i => if i = j then { D j with kind := (q : Int) + 1, text := ⟨(markOf (q + 2)).toArray⟩, names := marks (q + 3) } else markD D k0 j i) L lv (.slice (some ⟨g, 0, none⟩) m ic) := by
        have := hod4.turnNames hlt (marks (q + 3)) (by simpa using hg5) (by simpa using hown5)
        rw [show (fun i => if i = j then { D j with kind := (q : Int) + 1, text := ⟨(markOf (q + 2)).toArray⟩, names := marks (q + 3) } else markD D k0 j i) = (fun i => if i = j then { (fun i => if i = j then { D j with kind := (q : Int) + 1, text := ⟨(markOf (q + 2)).toArray⟩ } else markD D k0 j i) j with names := marks (q + 3) } else (fun i => if i = j then { D j with kind := (q : Int) + 1, text := ⟨(markOf (q + 2)).toArray⟩ } else markD D k0 j i) i) from by
          funext i
          by_cases e : i = j <;> simp [e]]
        exact this
      obtain ⟨_, _, _, _, c4, _⟩ := hod5.cells hlt
      have c4' : W5.cell? ⟨g, j * 6 + 4, none⟩ = some (.slice (L j).kA (D j).kn (L j).kc) := by rw [c4]; simp
      have hK5 : W5.ownsRow B 3 1 (.slice (L j).kA (D j).kn (L j).kc) (D j).kn (intv0 (D j).kn (D j).kids) := by simpa using hod5.ownK hlt
      have hgl5 : g < W5.heap.size := (owns_block hod5.ownI rfl).2
      have H5 : Hid (Fr B H w W5 ∧ OD W5 B k Z m (fun i => if i = j then (q : Int) else markO D k0 O j i) (fun i => if i = j then { D j with kind := (q : Int) + 1, text := ⟨(markOf (q + 2)).toArray⟩, names := marks (q + 3) } else markD D k0 j i) L lv (.slice (some ⟨g, 0, none⟩) m ic)) := ⟨hb5, hod5⟩
      have HK5 : Hid _ := hK5
      clear hb4 hod4 hN4 hown5 hg5 hb5 hod5 c4 hK5
      go_wp2_with fail
      refine (markIntS_own (L j).kA (D j).kn (L j).kc (q + 3 + (D j).nn) B (D j).kids W5 HK5.out hs2 (by omega)).mono ?_
      rintro e W6 ⟨rfl, hown6, hg6⟩
      have hb6 : Fr B H w W6 := H5.out.1.grow hg6 (by omega) (fun b e => ⟨(owns_block HK5.out e).1, hH (3 + 2 * j) b (by omega) (by rw [valD_k]; exact e)⟩)
      have hod6 : OD W6 B k Z m (fun i => if i = j then (q : Int) else markO D k0 O j i) (fun i => if i = j then { D j with kind := (q : Int) + 1, text := ⟨(markOf (q + 2)).toArray⟩, names := marks (q + 3), kids := fun i => ((q + 3 + (D j).nn + i : Nat) : Int) } else markD D k0 j i) L lv (.slice (some ⟨g, 0, none⟩) m ic) := by
        have := H5.out.2.turnKids hlt (fun i => ((q + 3 + (D j).nn + i : Nat) : Int)) (by simpa using hg6) (by simpa using hown6)
        rw [show (fun i => if i = j then { D j with kind := (q : Int) + 1, text := ⟨(markOf (q + 2)).toArray⟩, names := marks (q + 3), kids := fun i => ((q + 3 + (D j).nn + i : Nat) : Int) } else markD D k0 j i) = (fun i => if i = j then { (fun i => if i = j then { D j with kind := (q : Int) + 1, text := ⟨(markOf (q + 2)).toArray⟩, names := marks (q + 3) } else markD D k0 j i) j with kids := fun i => ((q + 3 + (D j).nn + i : Nat) : Int) } else (fun i => if i = j then { D j with kind := (q : Int) + 1, text := ⟨(markOf (q + 2)).toArray⟩, names := marks (q + 3) } else markD D k0 j i) i) from by
          funext i
          by_cases e : i = j <;> simp [e]]
        exact this
      obtain ⟨_, _, _, _, _, c5⟩ := hod6.cells hlt
      have c5' : W6.cell? ⟨g, j * 6 + 5, none⟩ = some (.int .i64 (D j).turn) := by rw [c5]; simp
      have f5 := hod6.free (j * 6 + 5)
      have H7 : Hid (Fr B H w (W6.setCell ⟨g, j * 6 + 5, none⟩ (.int .i64 ((q + 3 + (D j).nn + (D j).kn : Nat) : Int))) ∧ OD (W6.setCell ⟨g, j * 6 + 5, none⟩ (.int .i64 ((q + 3 + (D j).nn + (D j).kn : Nat) : Int))) B k Z m (markO D k0 O (j + 1)) (markD D k0 (j + 1)) L lv (.slice (some ⟨g, 0, none⟩) m ic)) := ⟨hb6.put _ hBg hgH, by
        have := hod6.putTurn hlt ((q + 3 + (D j).nn + (D j).kn : Nat) : Int)
        rw [show markO D k0 O (j + 1) = (fun i => if i = j then (q : Int) else markO D k0 O j i) from by
          funext i
          by_cases e : i = j
          · subst e; simp [markO, HQ.out]
          · by_cases e2 : i < j
            · simp [markO, e, e2, show i < j + 1 by omega]
            · simp [markO, e, e2, show ¬ i < j + 1 by omega], show markD D k0 (j + 1) = (fun i => if i = j then { (fun i => if i = j then { D j with kind := (q : Int) + 1, text := ⟨(markOf (q + 2)).toArray⟩, names := marks (q + 3), kids := fun i => ((q + 3 + (D j).nn + i : Nat) : Int) } else markD D k0 j i) j with turn := ((q + 3 + (D j).nn + (D j).kn : Nat) : Int) } else (fun i => if i = j then { D j with kind := (q : Int) + 1, text := ⟨(markOf (q + 2)).toArray⟩, names := marks (q + 3), kids := fun i => ((q + 3 + (D j).nn + i : Nat) : Int) } else markD D k0 j i) i) from by
          funext i
          by_cases e : i = j
          · subst e; simp [markD, markNd, HQ.out]
          · by_cases e2 : i < j
            · simp [markD, e, e2, show i < j + 1 by omega]
            · simp [markD, e, e2, show ¬ i < j + 1 by omega]]
        exact this⟩
      have HQ3 : Hid (kap D k0 (j + 1) = q + (4 + (D j).nn + (D j).kn)) := by show _ = _; rw [kap, HQ.out]
      clear hown6 hg6 hb6 hod6 c5 H5 HK5 c4' hq1 hq2 hq3
      go_wp2_with fail
      go_roundw
      case rel =>
        have h7 := H7.out
        rw [show ((q + 3 + (D j).nn + (D j).kn : Nat) : Int) = (q : Int) + 3 + ((D j).nn : Int) + ((D j).kn : Int) from by omega] at h7
        exact ⟨j + 1, by omega, by go_num, by rw [HQ3.out]; go_num, h7.1, h7.2⟩
      case measure => simp [intOf]; omega
    · obtain rfl : j = m := by omega
      have HR : Hid _ := And.intro hb hod
      clear hb hod
      go_wp2
      go_ret
      exact ⟨rfl, HR.out.1, HR.out.2⟩
end Go.Proofs.Ytokalajliphcdaa

/-
  What is kept and holds its marks is told to.
-/
namespace Go.Proofs.Ytokalajliphcdaa
open Go.RowKit Go.Deep
set_option linter.unusedVariables false
set_option linter.unusedSimpArgs false

theorem ownd_strs {w : World} {B n c : Nat} {a : Option Addr} {S : Nat → ByteArray} (h : w.ownsRow B 9 1 (.slice a n c) n (strv (lst n S))) : IsStrs w a n S := by
  by_cases hn : n = 0
  · exact Or.inl hn
  · obtain ⟨g, rfl, hg⟩ := owns_addr h (by omega)
    exact Or.inr ⟨g, 0, rfl, hg, fun i hi => by rw [Nat.zero_add, h.cellAt i (by omega)]; simp [strv, lst, hi]⟩

theorem ownd_ints {w : World} {B n c : Nat} {a : Option Addr} {Z : Nat → Int} (h : w.ownsRow B 3 1 (.slice a n c) n (intv0 n Z)) : IsInts w a n Z := by
  by_cases hn : n = 0
  · exact Or.inl hn
  · obtain ⟨g, rfl, hg⟩ := owns_addr h (by omega)
    exact Or.inr ⟨g, 0, rfl, hg, fun i hi => by rw [Nat.zero_add, h.cellAt i (by omega)]; simp [intv0, hi]⟩

theorem ownd_bools {w : World} {B n c : Nat} {a : Option Addr} {Z : Nat → Bool} (h : w.ownsRow B 4 1 (.slice a n c) n (boolv n Z)) : IsBools w a n Z := by
  by_cases hn : n = 0
  · exact Or.inl hn
  · obtain ⟨g, rfl, hg⟩ := owns_addr h (by omega)
    exact Or.inr ⟨g, 0, rfl, hg, fun i hi => by rw [Nat.zero_add, h.cellAt i (by omega)]; simp [boolv, hi]⟩
end Go.Proofs.Ytokalajliphcdaa

/-
  What DumpOf answers, said once for the specification and the program: one thing kept, in memory of its own.
-/
namespace Go.Proofs.Ytokalajliphcdaa
open Go.RowKit Go.Deep
set_option linter.unusedVariables false
set_option linter.unusedSimpArgs false

theorem OD.ext {W : World} {B k n : Nat} {Z : Nat → Bool} {O O' : Nat → Int} {D D' : Nat → Nd} {L : Nat → Loc} {lv iv : Value} (h : OD W B k Z n O D L lv iv) (he : ∀ i, i < n → O' i = O i ∧ D' i = D i) : OD W B k Z n O' D' L lv iv := by
  have hr : ∀ d, d < 2 + 2 * n → rowD k Z n O' D' L d = rowD k Z n O D L d := fun d hd => by
    unfold rowD
    by_cases e0 : d = 0
    · rw [if_pos e0, if_pos e0]
    · by_cases e1 : d = 1
      · rw [if_neg e0, if_pos e1, if_neg e0, if_pos e1, rowsI_ext n (fun i hi => ⟨(he i hi).1, (he i hi).2, rfl⟩)]
      · rw [if_neg e0, if_neg e1, if_neg e0, if_neg e1, (he ((d - 2) / 2) (by omega)).2]
  have hv : ∀ d, d < 2 + 2 * n → valD lv iv D' L d = valD lv iv D L d := fun d hd => by
    unfold valD
    by_cases e0 : d = 0
    · rw [if_pos e0, if_pos e0]
    · by_cases e1 : d = 1
      · rw [if_neg e0, if_pos e1, if_neg e0, if_pos e1]
      · rw [if_neg e0, if_neg e1, if_neg e0, if_neg e1, (he ((d - 2) / 2) (by omega)).2]
  exact ⟨⟨fun d hd => by rw [hr d hd, hv d hd]; exact h.rows.own d hd, fun d1 d2 g1 g2 hne b e1 e2 => by rw [hv d1 g1] at e1; rw [hv d2 g2] at e2; exact h.rows.apart d1 d2 g1 g2 hne b e1 e2⟩⟩

/-- Something kept, in memory of its own. -/
def OwnDp (W : World) (B : Nat) (d : Dp) (l : DLoc) : Prop := OD W B d.ln d.live d.m d.ino d.nd l.L (.slice l.lA d.ln l.lc) (.slice l.iA d.m l.ic)

theorem OwnDp.dpIn {W : World} {B : Nat} {d : Dp} {l : DLoc} (h : OwnDp W B d l) : DpIn W d l := by
  refine ⟨ownd_bools h.ownL, ?_⟩
  by_cases hm : d.m = 0
  · exact Or.inl hm
  · obtain ⟨g, hg, hgl⟩ := owns_addr h.ownI (by omega)
    refine Or.inr ⟨g, 0, hg, hgl, fun i hi => ?_⟩
    have h' : OD W B d.ln d.live d.m d.ino d.nd l.L (.slice l.lA d.ln l.lc) (.slice (some ⟨g, 0, none⟩) d.m l.ic) := by rw [← hg]; exact h
    obtain ⟨c0, c1, c2, c3, c4, c5⟩ := h'.cells hi
    rw [Nat.zero_add]
    exact ⟨c0, c1, c2, c3, c4, c5, ownd_strs (h.ownN hi), ownd_ints (h.ownK hi)⟩

/-- What is kept of a tree that is ok. -/
def dpOf (n : Nat) (D : Nat → Nd) (now since : Int) : Dp := ⟨since, now, n, fun i => (D i).kind != 0, (selTo D since n).length, fun i => ((selTo D since n).getD i 0 : Nat), fun i => D ((selTo D since n).getD i 0)⟩
/-- Nothing. -/
def dpNone : Dp := ⟨0, 0, 0, fun _ => false, 0, fun _ => 0, fun _ => ⟨0, ByteArray.empty, 0, fun _ => ByteArray.empty, 0, fun _ => 0, 0⟩⟩

theorem selTo_lt {D : Nat → Nd} {since : Int} {n i : Nat} (h : i < (selTo D since n).length) : (selTo D since n).getD i 0 < n := by
  have hm : (selTo D since n).getD i 0 ∈ selTo D since n := by
    rw [List.getD_eq_getElem?_getD, List.getElem?_eq_getElem h]
    exact List.getElem_mem h
  have := List.mem_filter.1 hm
  simpa using this.1

theorem ndOk_same {n : Nat} {D : Nat → Nd} {now : Int} {d : Nd} (h : ndOk n D now d = true) : d.kn = d.nn := by
  unfold ndOk at h
  split at h
  · unfold freeOk at h; simp at h; omega
  · split at h
    · unfold fileOk at h; simp at h; omega
    · split at h
      · unfold dirOk at h; simp at h; exact h.1.1.2.2
      · cases h

theorem kap_le {D : Nat → Nd} {k0 c : Nat} : ∀ m, (∀ i, i < m → (D i).nn + (D i).kn ≤ c) → kap D k0 m ≤ k0 + m * (4 + c)
  | 0, _ => by simp [kap]
  | m + 1, h => by
    have h1 := kap_le (D := D) (k0 := k0) m (fun i hi => h i (by omega))
    have h2 := h m (by omega)
    rw [kap, Nat.succ_mul]
    omega

/-- The bounds that an answer keeps. -/
structure DpSmall (d : Dp) : Prop where
  fits : d.Fits
  ln : d.ln ≤ 10
  m : d.m ≤ 10
  kap : kap d.nd (1 + d.ln) d.m ≤ 90000000
  nds : ∀ i, i < d.m → (d.nd i).nn ≤ 1000000 ∧ (d.nd i).kn ≤ 1000000

theorem dpNone_small : DpSmall dpNone :=
  ⟨⟨by unfold In64 dpNone; simp, by unfold In64 dpNone; simp, by unfold maxLen dpNone; simp, by unfold maxLen dpNone; simp, fun i hi => absurd hi (Nat.not_lt_zero _), fun i hi => absurd hi (Nat.not_lt_zero _)⟩, by simp [dpNone], by simp [dpNone], by simp [dpNone, kap], fun i hi => absurd hi (Nat.not_lt_zero _)⟩

theorem dpOf_small {n : Nat} {D : Nat → Nd} {now since : Int} (hg : TreeGood n D now) (hf : FitAll n D) (hsz : sizeTo D n ≤ 1048576) (h0 : 0 ≤ since) (h1 : since ≤ now) : DpSmall (dpOf n D now since) := by
  have hl := selTo_len D since n
  have hfew := hg.few
  have hsoon := hg.soon
  have hnd : ∀ i, i < (selTo D since n).length → ((D ((selTo D since n).getD i 0)).nn + (D ((selTo D since n).getD i 0)).kn ≤ 1048576) ∧ (D ((selTo D since n).getD i 0)).kn = (D ((selTo D since n).getD i 0)).nn := fun i hi => by
    have h2 := selTo_lt hi
    have h3 := size_le_sizeTo D n _ h2
    unfold Nd.size at h3
    exact ⟨by omega, ndOk_same (hg.nodes _ h2)⟩
  refine ⟨⟨?_, ?_, ?_, ?_, fun i hi => ?_, fun i hi => hf _ (selTo_lt hi)⟩, hfew, by show (selTo D since n).length ≤ 10; omega, ?_, fun i hi => ?_⟩
  · show In64 since; unfold In64; omega
  · show In64 now; unfold In64; omega
  · show n ≤ maxLen; unfold maxLen; omega
  · show (selTo D since n).length ≤ maxLen; unfold maxLen; omega
  · have := selTo_lt hi
    show In64 (((selTo D since n).getD i 0 : Nat) : Int)
    unfold In64
    omega
  · have h2 := kap_le (D := fun i => D ((selTo D since n).getD i 0)) (k0 := 1 + n) (c := 1048576) (selTo D since n).length (fun i hi => (hnd i hi).1)
    have h3 : (selTo D since n).length * (4 + 1048576) ≤ 10 * (4 + 1048576) := Nat.mul_le_mul_right _ (by omega)
    show kap (fun i => D ((selTo D since n).getD i 0)) (1 + n) (selTo D since n).length ≤ 90000000
    omega
  · have := hnd i hi
    exact ⟨by show (D ((selTo D since n).getD i 0)).nn ≤ 1000000; omega, by show (D ((selTo D since n).getD i 0)).kn ≤ 1000000; omega⟩

/-- One answer, whoever is asked. -/
theorem dump_ans (n : Nat) (D : Nat → Nd) (now since : Int) (hf : FitAll n D) (hsz : sizeTo D n ≤ 1048576) : ∃ (d : Dp) (ok : Bool), DpSmall d ∧ ∀ w e w', DumpOfPost w n D now since e w' → Below w.heap.size w w' ∧ ∃ l, e = .returned (.tuple #[dpV d l, .bool ok]) ∧ OwnDp w' w.heap.size d l := by
  by_cases hgo : TreeGood n D now ∧ 0 ≤ since ∧ since ≤ now
  · refine ⟨dpOf n D now since, true, dpOf_small hgo.1 hf hsz hgo.2.1 hgo.2.2, fun w e w' h => ⟨h.1, ?_⟩⟩
    rcases h.2 with ⟨hno, _⟩ | ⟨_, _, _, la, lc, m, ia, ic, O, E, M, he, hod, hsel⟩
    · exact absurd hgo hno
    · have hm := hsel.len
      subst hm
      exact ⟨⟨la, lc, ia, ic, M⟩, he, hod.ext (fun i hi => ⟨((hsel.each i hi).1).symm, ((hsel.each i hi).2).symm⟩)⟩
  · refine ⟨dpNone, false, dpNone_small, fun w e w' h => ⟨h.1, ?_⟩⟩
    rcases h.2 with ⟨_, he⟩ | ⟨h1, h2, h3, _⟩
    · exact ⟨⟨none, 0, none, 0, fun _ => ⟨none, 0, none, 0⟩⟩, he, OD.start _ _ _ _ _ _⟩
    · exact absurd ⟨h1, h2, h3⟩ hgo
end Go.Proofs.Ytokalajliphcdaa

/-
  What toDump answers: something kept in memory of its own.
-/
namespace Go.Proofs.Ytokalajliphcdaa
open Go.RowKit Go.Deep
set_option linter.unusedVariables false
set_option linter.unusedSimpArgs false

theorem own_off {W : World} {B : Nat} {e : TypeId} {size n : Nat} {xs : List Value} {v : Value} (h : W.ownsRow B e size v n xs) {V i : Nat} {u : Value} (hV : V < B) : (W.setCell ⟨V, i, none⟩ u).ownsRow B e size v n xs :=
  owns_same h fun b hb => blk_setCell_other _ _ _ _ (show b ≠ V by have := (owns_block h hb).1; omega)

theorem OD.ext2 {W : World} {B k n : Nat} {Z : Nat → Bool} {O O' : Nat → Int} {D D' : Nat → Nd} {L L' : Nat → Loc} {lv iv : Value} (h : OD W B k Z n O D L lv iv) (he : ∀ i, i < n → O' i = O i ∧ D' i = D i ∧ L' i = L i) : OD W B k Z n O' D' L' lv iv := by
  have hr : ∀ d, d < 2 + 2 * n → rowD k Z n O' D' L' d = rowD k Z n O D L d := fun d hd => by
    unfold rowD
    by_cases e0 : d = 0
    · rw [if_pos e0, if_pos e0]
    · by_cases e1 : d = 1
      · rw [if_neg e0, if_pos e1, if_neg e0, if_pos e1, rowsI_ext n he]
      · rw [if_neg e0, if_neg e1, if_neg e0, if_neg e1, (he ((d - 2) / 2) (by omega)).2.1]
  have hv : ∀ d, d < 2 + 2 * n → valD lv iv D' L' d = valD lv iv D L d := fun d hd => by
    unfold valD
    by_cases e0 : d = 0
    · rw [if_pos e0, if_pos e0]
    · by_cases e1 : d = 1
      · rw [if_neg e0, if_pos e1, if_neg e0, if_pos e1]
      · rw [if_neg e0, if_neg e1, if_neg e0, if_neg e1, (he ((d - 2) / 2) (by omega)).2.1, (he ((d - 2) / 2) (by omega)).2.2]
  exact ⟨⟨fun d hd => by rw [hr d hd, hv d hd]; exact h.rows.own d hd, fun d1 d2 g1 g2 hne b e1 e2 => by rw [hv d1 g1] at e1; rw [hv d2 g2] at e2; exact h.rows.apart d1 d2 g1 g2 hne b e1 e2⟩⟩

/-- The truth values come to it: their list lies below. -/
theorem OD.withLive {W : World} {B B' k : Nat} {Z : Nat → Bool} {n : Nat} {O : Nat → Int} {D : Nat → Nd} {L : Nat → Loc} {lv iv : Value} (h : OD W B 0 (fun _ => false) n O D L (.slice none 0 0) iv) (hown : W.ownsRow B' 4 1 lv k (boolv k Z)) (hB : B' ≤ B) (hl : ∀ b, lv.ownBlock = some b → b < B) : OD W B' k Z n O D L lv iv := by
  have key : ∀ d, d < 2 + 2 * n → d ≠ 0 → ∀ b, (valD (.slice none 0 0) iv D L d).ownBlock = some b → B ≤ b := fun d hd _ b hb => (owns_block (h.rows.own d hd) hb).1
  refine ⟨⟨fun d hd => ?_, fun d1 d2 g1 g2 hne b e1 e2 => ?_⟩⟩
  · by_cases e : d = 0
    · subst e; simpa [rowD, valD] using hown
    · rw [rowD_rest (k := 0) (Z := fun _ => false) e, valD_rest (lv := .slice none 0 0) e]
      exact owns_lower (h.rows.own d hd) hB
  · by_cases h1 : d1 = 0
    · have h2 : d2 ≠ 0 := fun e => hne (h1.trans e.symm)
      subst h1
      rw [valD_rest (lv := .slice none 0 0) h2] at e2
      have e1' : lv.ownBlock = some b := by simpa [valD] using e1
      have := key d2 g2 h2 b e2
      have := hl b e1'
      omega
    · by_cases h2 : d2 = 0
      · subst h2
        rw [valD_rest (lv := .slice none 0 0) h1] at e1
        have e2' : lv.ownBlock = some b := by simpa [valD] using e2
        have := key d1 g1 h1 b e1
        have := hl b e2'
        omega
      · rw [valD_rest (lv := .slice none 0 0) h1] at e1
        rw [valD_rest (lv := .slice none 0 0) h2] at e2
        exact h.rows.apart d1 d2 g1 g2 hne b e1 e2

theorem row_ownB {W : World} {B b n : Nat} {Z : Nat → Bool} (h : W.rowIs b 4 n (fun i => .bool (Z i))) (hB : B ≤ b) (hn : n ≤ maxLen) : W.ownsRow B 4 1 (.slice (some ⟨b, 0, none⟩) n n) n (boolv n Z) := row_own h hB hn

/-- What is known at toItem's end. -/
structure ItemEndo (w : World) (o : Int) (d : Nd) (l : Loc) (W : World) : Prop where
  r : Blk W (w.heap.size + 1) #[.int .i64 o, .int .i64 d.kind, .string d.text, .slice l.nA d.nn l.nc, .slice l.kA d.kn l.kc, .int .i64 d.turn] 91
  bel : Below w.heap.size w W
  names : W.ownsRow (w.heap.size + 3) 9 1 (.slice l.nA d.nn l.nc) d.nn (strv (lst d.nn d.names))
  kids : W.ownsRow (w.heap.size + 3) 3 1 (.slice l.kA d.kn l.kc) d.kn (intv0 d.kn d.kids)

set_option maxHeartbeats 1000000 in
theorem toItem_new (o : Int) (d : Nd) (l : Loc) (w : World) (hI : NdIn w d l) (hn : d.nn ≤ 1048576) (hk : d.kn ≤ 1048576) :
    Calls Try.prog 71 #[itV o d l] w fun e w' => ∃ l', e = .returned (itV o d l') ∧ NewNn w d l' w' := by
  unfold itV
  go_enter Try.func71, Try.ntmps71
  go_wp2_with fail
  refine at_world (F := New3 w _ _ _ _ _ _) (new3 w _ _ _ _ _ _) ?_
  rintro W ⟨hp, hr, ho, hb0, hs0⟩
  refine (toNode_new d l W (hI.below (Nat.le_refl _) hb0) hn hk).mono ?_
  rintro e w1 ⟨l', rfl, hN1⟩
  have hb1 := hN1.bel
  have HAP : Hid (∀ b, (Value.slice l'.nA d.nn l'.nc).ownBlock = some b → (Value.slice l'.kA d.kn l'.kc).ownBlock ≠ some b) := hN1.apart
  unfold ndV
  have hr1 := hr.below hb1 (by omega)
  have ho1 := ho.below hb1 (by omega)
  have hB1 := hb0.trans (hb1.mono (by omega))
  have hsz := hb1.size
  have o0 : w1.cell? ⟨w.heap.size + 1 + 1, 0, none⟩ = some (.int .i64 o) := ho1.cell 0
  have o1 : w1.cell? ⟨w.heap.size + 1 + 1, 1, none⟩ = some (.int .i64 0) := ho1.cell 1
  have o2 : w1.cell? ⟨w.heap.size + 1 + 1, 2, none⟩ = some (.string ByteArray.empty) := ho1.cell 2
  have o3 : w1.cell? ⟨w.heap.size + 1 + 1, 3, none⟩ = some (.slice none 0 0) := ho1.cell 3
  have o4 : w1.cell? ⟨w.heap.size + 1 + 1, 4, none⟩ = some (.slice none 0 0) := ho1.cell 4
  have o5 : w1.cell? ⟨w.heap.size + 1 + 1, 5, none⟩ = some (.int .i64 0) := ho1.cell 5
  have f0 := ho1.frozen 0
  have f1 := ho1.frozen 1
  have f2 := ho1.frozen 2
  have f3 := ho1.frozen 3
  have f4 := ho1.frozen 4
  have f5 := ho1.frozen 5
  have r0 : w1.cell? ⟨w.heap.size + 1, 0, none⟩ = some (.int .i64 0) := hr1.cell 0
  have r1 : w1.cell? ⟨w.heap.size + 1, 1, none⟩ = some (.int .i64 0) := hr1.cell 1
  have r2 : w1.cell? ⟨w.heap.size + 1, 2, none⟩ = some (.string ByteArray.empty) := hr1.cell 2
  have r3 : w1.cell? ⟨w.heap.size + 1, 3, none⟩ = some (.slice none 0 0) := hr1.cell 3
  have r4 : w1.cell? ⟨w.heap.size + 1, 4, none⟩ = some (.slice none 0 0) := hr1.cell 4
  have r5 : w1.cell? ⟨w.heap.size + 1, 5, none⟩ = some (.int .i64 0) := hr1.cell 5
  have g0 := hr1.frozen 0
  have g1 := hr1.frozen 1
  have g2 := hr1.frozen 2
  have g3 := hr1.frozen 3
  have g4 := hr1.frozen 4
  have g5 := hr1.frozen 5
  have FB : Hid (Blk w1 (w.heap.size + 1) _ _ ∧ Below w.heap.size w w1 ∧ w1.ownsRow (w.heap.size + 3) 9 1 (.slice l'.nA d.nn l'.nc) d.nn (strv (lst d.nn d.names)) ∧ w1.ownsRow (w.heap.size + 3) 3 1 (.slice l'.kA d.kn l'.kc) d.kn (intv0 d.kn d.kids)) := ⟨hr1, hB1, owns_lower hN1.names (by omega), owns_lower hN1.kids (by omega)⟩
  clear hp hr ho hb0 hb1 hr1 ho1 hB1 hN1 hs0 hsz
  go_wp2_with fail
  obtain ⟨hr, hB, hN, hP⟩ := FB.out
  refine end_world (F := ItemEndo w o d l')
    ⟨(((((((((((hr.off _ (by omega)).off _ (by omega)).off _ (by omega)).off _ (by omega)).off _ (by omega)).set 0 _).set 1 _).set 2 _).set 3 _).set 4 _).set 5 _),
     bel_put (bel_put (bel_put (bel_put (bel_put (bel_put (bel_put (bel_put (bel_put (bel_put (bel_put hB _ (by omega)) _ (by omega)) _ (by omega)) _ (by omega)) _ (by omega)) _ (by omega)) _ (by omega)) _ (by omega)) _ (by omega)) _ (by omega)) _ (by omega),
     (own_off (own_off (own_off (own_off (own_off (own_off (own_off (own_off (own_off (own_off (own_off hN (by omega)) (by omega)) (by omega)) (by omega)) (by omega)) (by omega)) (by omega)) (by omega)) (by omega)) (by omega)) (by omega)), (own_off (own_off (own_off (own_off (own_off (own_off (own_off (own_off (own_off (own_off (own_off hP (by omega)) (by omega)) (by omega)) (by omega)) (by omega)) (by omega)) (by omega)) (by omega)) (by omega)) (by omega)) (by omega))⟩ ?_
  clear hr hB hN FB o0 o1 o2 o3 o4 o5 f0 f1 f2 f3 f4 f5 r0 r1 r2 r3 r4 r5 g0 g1 g2 g3 g4 g5
  rintro W ⟨hr, hB, hN, hP⟩
  have r0 : W.cell? ⟨w.heap.size + 1, 0, none⟩ = some (.int .i64 o) := hr.cell 0
  have r1 : W.cell? ⟨w.heap.size + 1, 1, none⟩ = some (.int .i64 d.kind) := hr.cell 1
  have r2 : W.cell? ⟨w.heap.size + 1, 2, none⟩ = some (.string d.text) := hr.cell 2
  have r3 : W.cell? ⟨w.heap.size + 1, 3, none⟩ = some (.slice l'.nA d.nn l'.nc) := hr.cell 3
  have r4 : W.cell? ⟨w.heap.size + 1, 4, none⟩ = some (.slice l'.kA d.kn l'.kc) := hr.cell 4
  have r5 : W.cell? ⟨w.heap.size + 1, 5, none⟩ = some (.int .i64 d.turn) := hr.cell 5
  exact bodyPost_ret (v := .agg #[.int .i64 o, .int .i64 d.kind, .string d.text, .slice l'.nA d.nn l'.nc, .slice l'.kA d.kn l'.kc, .int .i64 d.turn]) (by simp [results, Try.results71, go_sem, r0, r1, r2, r3, r4, r5]) rfl ⟨l', rfl, hB, owns_lower hN (by omega), owns_lower hP (by omega), HAP.out⟩

/-- A place more is laid behind the first ones, within the row's room. -/
theorem owns_fill6 {W : World} {B : Nat} {e : TypeId} {g k cap : Nat} {xs : List Value} {v0 v1 v2 v3 v4 v5 : Value} (h : W.ownsRow B e 6 (.slice (some ⟨g, 0, none⟩) k cap) k xs) (hk : k < cap) :
    ((((((W.setCell ⟨g, k * 6, none⟩ v0).setCell ⟨g, k * 6 + 1, none⟩ v1).setCell ⟨g, k * 6 + 2, none⟩ v2).setCell ⟨g, k * 6 + 3, none⟩ v3).setCell ⟨g, k * 6 + 4, none⟩ v4).setCell ⟨g, k * 6 + 5, none⟩ v5).ownsRow B e 6 (.slice (some ⟨g, 0, none⟩) (k + 1) cap) (k + 1) (xs ++ [v0, v1, v2, v3, v4, v5]) := by
  obtain ⟨hl, h0 | ⟨g', cap', cur, hv, hB, hg, hc, hm, hs, ht⟩⟩ := h
  · simp at h0
  simp at hv
  obtain ⟨rfl, rfl⟩ := hv
  have hb : Blk W g cur e := hg
  have hb' := (((((hb.set (k * 6) v0).set (k * 6 + 1) v1).set (k * 6 + 2) v2).set (k * 6 + 3) v3).set (k * 6 + 4) v4).set (k * 6 + 5) v5
  refine ⟨by simp [hl]; omega, Or.inr ⟨g, cap, _, rfl, hB, hb', by omega, hm, by simp [hs], ?_⟩⟩
  apply List.ext_getElem?
  intro i
  rw [List.getElem?_take]
  by_cases hi : i < (k + 1) * 6
  · rw [if_pos hi, Array.getElem?_toList]
    simp only [Array.getElem?_setIfInBounds]
    by_cases h1 : i < k * 6
    · rw [List.getElem?_append_left (by omega)]
      have : xs[i]? = cur[i]? := by rw [← ht, List.getElem?_take, if_pos h1, Array.getElem?_toList]
      rw [this]
      simp only [show ¬ k * 6 + 5 = i by omega, show ¬ k * 6 + 4 = i by omega, show ¬ k * 6 + 3 = i by omega, show ¬ k * 6 + 2 = i by omega, show ¬ k * 6 + 1 = i by omega, show ¬ k * 6 = i by omega, if_false]
    · rw [List.getElem?_append_right (by omega), hl]
      obtain ⟨r, rfl⟩ : ∃ r, i = k * 6 + r := ⟨i - k * 6, by omega⟩
      have hr : r < 6 := by omega
      have hsz : ∀ q, q < 6 → k * 6 + q < cur.size := fun q hq => by omega
      rw [show k * 6 + r - k * 6 = r by omega]
      have hr5 : r = 0 ∨ r = 1 ∨ r = 2 ∨ r = 3 ∨ r = 4 ∨ r = 5 := by omega
      rcases hr5 with rfl | rfl | rfl | rfl | rfl | rfl <;> simp [hsz 0 (by omega), hsz 1 (by omega), hsz 2 (by omega), hsz 3 (by omega), hsz 4 (by omega), hsz 5 (by omega)] <;> (try (have := hsz 0 (by omega); omega))
  · rw [if_neg hi, List.getElem?_eq_none (by simp [hl]; omega)]

theorem OD.fill6 {W W1 : World} {B k : Nat} {O : Nat → Int} {D : Nat → Nd} {L : Nat → Loc} {g cap : Nat} {o : Int} {x : Nd} {l : Loc} (h : OD W B 0 (fun _ => false) k O D L (.slice none 0 0) (.slice (some ⟨g, 0, none⟩) k cap)) (hN : NewNn W x l W1) (hB : B ≤ W.heap.size) (hk : k < cap) :
    OD ((((((W1.setCell ⟨g, k * 6, none⟩ (.int .i64 o)).setCell ⟨g, k * 6 + 1, none⟩ (.int .i64 x.kind)).setCell ⟨g, k * 6 + 2, none⟩ (.string x.text)).setCell ⟨g, k * 6 + 3, none⟩ (.slice l.nA x.nn l.nc)).setCell ⟨g, k * 6 + 4, none⟩ (.slice l.kA x.kn l.kc)).setCell ⟨g, k * 6 + 5, none⟩ (.int .i64 x.turn)) B 0 (fun _ => false) (k + 1) (fun i => if i = k then o else O i) (fun i => if i = k then x else D i) (fun i => if i = k then l else L i) (.slice none 0 0) (.slice (some ⟨g, 0, none⟩) (k + 1) cap) := by
  refine h.item (o := o) hN hB ?_ ?_ (fun b e => Or.inl e)
  · have hst : ∀ (i : Nat) (v : Value) (U : World), U.grownBy (U.setCell ⟨g, i, none⟩ v) (some g) := fun i v U => ⟨rfl, rfl, rfl, by simp, fun b _ hb => blk_setCell_other _ _ _ _ (show b ≠ g from fun e => hb (by rw [e]))⟩
    have tr : ∀ {A C E : World}, A.grownBy C (some g) → C.grownBy E (some g) → A.grownBy E (some g) := fun {A C E} h1 h2 => ⟨h2.os.trans h1.os, h2.tape.trans h1.tape, h2.output.trans h1.output, Nat.le_trans h1.size h2.size, fun b hb hne => (h2.block b (Nat.lt_of_lt_of_le hb h1.size) hne).trans (h1.block b hb hne)⟩
    exact tr (tr (tr (tr (tr (hst _ _ _) (hst _ _ _)) (hst _ _ _)) (hst _ _ _)) (hst _ _ _)) (hst _ _ _)
  · exact owns_fill6 (owns_same h.ownI (fun b hb => hN.bel.block b (owns_block h.ownI hb).2)) hk

set_option maxHeartbeats 1000000 in
theorem toItemS_own (a : Option Addr) (n c : Nat) (O : Nat → Int) (D : Nat → Nd) (L : Nat → Loc) (w : World) (hS : IsIts w a n O D L) (hn : n ≤ 1048576) (hsm : ∀ i, i < n → (D i).nn ≤ 1048576 ∧ (D i).kn ≤ 1048576) :
    Calls Try.prog 56 #[.slice a n c] w fun e w' => e = .returned (.slice (some ⟨w.heap.size, 0, none⟩) n n) ∧ Below w.heap.size w w' ∧ ∃ L', OD w' w.heap.size 0 (fun _ => false) n O D L' (.slice none 0 0) (.slice (some ⟨w.heap.size, 0, none⟩) n n) := by
  have hmk := fun w => run_make_wide (P := Try.prog) 61 91 _ 88 6 Try.underlying61 infoItem .i64 .i64 n (by omega) (by omega) w
  go_enter Try.func56, Try.ntmps56
  go_wp2
  go_loopw [4] (fun i wr => ∃ (k : Nat) (L' : Nat → Loc), k ≤ n ∧ i = .int .i64 k ∧ Below w.heap.size w wr ∧ OD wr w.heap.size 0 (fun _ => false) k O D L' (.slice none 0 0) (.slice (some ⟨w.heap.size, 0, none⟩) k n) ∧ ∃ g, wr.rowIs w.heap.size 91 (n * 6) g) (fun i _ => n - (intOf i).toNat)
  case atStart =>
    obtain ⟨g, hg⟩ := rowIs_wide w #[.int .i64 0, .int .i64 0, .string ByteArray.empty, .slice none 0 0, .slice none 0 0, .int .i64 0] (n * 6) 91
    refine ⟨0, L, Nat.zero_le _, rfl, (Below.refl _ _).alloc (Nat.le_refl _) _, ?_, g, hg⟩
    obtain ⟨cur, h1, h2, _⟩ := hg
    refine ⟨⟨fun d hd => ?_, fun d1 d2 g1 g2 hne b e1 e2 => ?_⟩⟩
    · have hd' : d = 0 ∨ d = 1 := by omega
      rcases hd' with rfl | rfl
      · exact World.ownsRow_nil _ _ _ _
      · exact ⟨by simp [rowD, rowsI], Or.inr ⟨w.heap.size, n, cur, rfl, Nat.le_refl _, h1, by simp [rowD], by unfold maxLen; omega, by simpa [rowD] using h2, by simp [rowD, rowsI]⟩⟩
    · have hd1 : d1 = 0 ∨ d1 = 1 := by omega
      have hd2 : d2 = 0 ∨ d2 = 1 := by omega
      rcases hd1 with rfl | rfl
      · simp [valD, Value.ownBlock] at e1
      · rcases hd2 with rfl | rfl
        · simp [valD, Value.ownBlock] at e2
        · exact hne rfl
  case round =>
    obtain ⟨k, L', hk, rfl, hb, hot, g, hrow⟩ := hrel
    by_cases hlt : k < n
    · obtain ⟨b, off, rfl, hlt2, hc⟩ := (hS.below (Nat.le_refl _) hb).at hlt
      obtain ⟨c0, c1, c2, c3, c4, c5, hI⟩ := hc k hlt
      clear hc
      go_wp2_with fail
      refine (toItem_new (O k) (D k) (L k) wr hI (hsm k hlt).1 (hsm k hlt).2).mono ?_
      rintro e w1 ⟨l', rfl, hN⟩
      unfold itV
      have hB := hb.trans (hN.bel.mono hb.size)
      have hrow1 := row_below hrow hN.bel
      have HR : Hid (OD wr w.heap.size 0 (fun _ => false) k O D L' (.slice none 0 0) (.slice (some ⟨w.heap.size, 0, none⟩) k n) ∧ NewNn wr (D k) l' w1 ∧ Below w.heap.size w w1 ∧ w.heap.size ≤ wr.heap.size ∧ w1.rowIs w.heap.size 91 (n * 6) g) := ⟨hot, hN, hB, hb.size, hrow1⟩
      have d0 := hrow1.cell (show k * 6 < n * 6 by omega)
      have d1 := hrow1.cell (show k * 6 + 1 < n * 6 by omega)
      have d2 := hrow1.cell (show k * 6 + 2 < n * 6 by omega)
      have d3 := hrow1.cell (show k * 6 + 3 < n * 6 by omega)
      have d4 := hrow1.cell (show k * 6 + 4 < n * 6 by omega)
      have d5 := hrow1.cell (show k * 6 + 5 < n * 6 by omega)
      have e5 := hrow1.frozen (k * 6 + 5)
      have e0 := hrow1.frozen (k * 6)
      have e1 := hrow1.frozen (k * 6 + 1)
      have e2 := hrow1.frozen (k * 6 + 2)
      have e3 := hrow1.frozen (k * 6 + 3)
      have e4 := hrow1.frozen (k * 6 + 4)
      clear hb hot hrow hB hrow1 hN hI c0 c1 c2 c3 c4 c5
      go_wp2
      go_roundw
      case rel => exact ⟨k + 1, fun i => if i = k then l' else L' i, by omega, by go_num, bel_put (bel_put (bel_put (bel_put (bel_put (bel_put HR.out.2.2.1 _ (Nat.le_refl _)) _ (Nat.le_refl _)) _ (Nat.le_refl _)) _ (Nat.le_refl _)) _ (Nat.le_refl _)) _ (Nat.le_refl _), (HR.out.1.fill6 (o := O k) HR.out.2.1 HR.out.2.2.2.1 hlt).ext2 (fun i hi => by by_cases e : i = k <;> simp [e]), _, (((((HR.out.2.2.2.2.set _ _).set _ _).set _ _).set _ _).set _ _).set _ _⟩
      case measure => simp [intOf]; omega
    · have hkn : k = n := by omega
      subst hkn
      have HR : Hid (Below w.heap.size w wr ∧ ∃ L', OD wr w.heap.size 0 (fun _ => false) k O D L' (.slice none 0 0) (.slice (some ⟨w.heap.size, 0, none⟩) k k)) := ⟨hb, L', hot⟩
      clear hb hrow hot
      go_wp2
      go_ret
      exact ⟨rfl, HR.out.1, HR.out.2⟩

theorem toBoolS_row (a : Option Addr) (n c : Nat) (Z : Nat → Bool) (w : World) (hS : IsBools w a n Z) (hn : n ≤ 1048576) :
    Calls Try.prog 55 #[.slice a n c] w fun e w' => ∃ b, e = .returned (.slice (some ⟨b, 0, none⟩) n n) ∧ w.heap.size ≤ b ∧ b < w'.heap.size ∧ Below w.heap.size w w' ∧ w'.rowIs b 4 n (fun i => .bool (Z i)) :=
  (toBoolS_any a n c Z w hS hn).mono fun e w' ⟨he, hb, hr⟩ => ⟨_, he, Nat.le_refl _, hr.lt, hb, hr⟩

/-- What is known within toDump, the truth values being copied. -/
structure Dump2o (w : World) (d : Dp) (l : DLoc) (b : Nat) (W : World) : Prop where
  p : Blk W w.heap.size #[.int .i64 d.since, .int .i64 d.date, .slice l.lA d.ln l.lc, .slice l.iA d.m l.ic] 58
  r : Blk W (w.heap.size + 1) #[.int .i64 0, .int .i64 0, .slice none 0 0, .slice none 0 0] 63
  o : Blk W (w.heap.size + 1 + 1) #[.int .i64 d.since, .int .i64 d.date, .slice (some ⟨b, 0, none⟩) d.ln d.ln, .slice none 0 0] 63
  bel : Below w.heap.size w W
  size : w.heap.size + 3 ≤ W.heap.size
  le : w.heap.size + 3 ≤ b
  lt : b < W.heap.size
  live : W.rowIs b 4 d.ln (fun i => .bool (d.live i))

/-- What is known at toDump's end. -/
structure DumpEndo (w : World) (d : Dp) (b b' : Nat) (W : World) : Prop where
  r : Blk W (w.heap.size + 1) #[.int .i64 d.since, .int .i64 d.date, .slice (some ⟨b, 0, none⟩) d.ln d.ln, .slice (some ⟨b', 0, none⟩) d.m d.m] 63
  bel : Below w.heap.size w W
  live : W.rowIs b 4 d.ln (fun i => .bool (d.live i))
  items : ∃ L', OD W b' 0 (fun _ => false) d.m d.ino d.nd L' (.slice none 0 0) (.slice (some ⟨b', 0, none⟩) d.m d.m)

set_option maxHeartbeats 1000000 in
theorem toDump_own (d : Dp) (l : DLoc) (w : World) (hI : DpIn w d l) (hsz : d.size ≤ 1048576) :
    Calls Try.prog 43 #[dpV d l] w fun e w' => ∃ l', e = .returned (dpV d l') ∧ Below w.heap.size w w' ∧ OwnDp w' w.heap.size d l' := by
  unfold dpV
  have hln : d.ln ≤ 1048576 := by unfold Dp.size at hsz; omega
  have hm : d.m ≤ 1048576 := by unfold Dp.size at hsz; omega
  have HSM : Hid (∀ i, i < d.m → (d.nd i).nn ≤ 1048576 ∧ (d.nd i).kn ≤ 1048576) := small_of_size (by unfold Dp.size at hsz; omega)
  go_enter Try.func43, Try.ntmps43
  go_wp2_with fail
  refine at_world (F := New3 w _ _ _ _ _ _) (new3 w _ _ _ _ _ _) ?_
  rintro W ⟨hp, hr, ho, hb0, hs0⟩
  refine (toBoolS_row l.lA d.ln l.lc d.live _ (hI.live.below (Nat.le_refl _) hb0) hln).mono ?_
  rintro e w1 ⟨b, rfl, hge, hlt, hb1, hS1⟩
  have hp1 := hp.below hb1 (by omega)
  have hr1 := hr.below hb1 (by omega)
  have ho1 := ho.below hb1 (by omega)
  have hB1 := hb0.trans (hb1.mono (by omega))
  have o2 : w1.cell? ⟨w.heap.size + 1 + 1, 2, none⟩ = some (.slice none 0 0) := ho1.cell 2
  have f2 := ho1.frozen 2
  have p3 : w1.cell? ⟨w.heap.size, 3, none⟩ = some (.slice l.iA d.m l.ic) := hp1.cell 3
  have hsz1 := hb1.size
  have F2 : Hid (Dump2o w d l b _) := ⟨hp1.off (b' := w.heap.size + 1 + 1) (i := 2) (.slice (some ⟨b, 0, none⟩) d.ln d.ln) (by omega), hr1.off _ (by omega), ho1.set 2 _, bel_put hB1 _ (by omega), by simp; omega, by omega, by simp; omega, row_off hS1 _ (by omega)⟩
  clear hp hr ho hb0 hb1 hp1 hr1 ho1 hB1 hS1
  go_wp2_with fail
  refine at_world (F := Dump2o w d l b) F2.out ?_
  clear F2 hge hlt f2 o2 p3 hs0 hsz1
  rintro W ⟨hp, hr, ho, hb0, hs0, hlb, hbl, hS⟩
  refine (toItemS_own l.iA d.m l.ic d.ino d.nd l.L _ (hI.items.below (Nat.le_refl _) hb0) hm HSM.out).mono ?_
  rintro e w2 ⟨rfl, hb1, hrow⟩
  have hp1 := hp.below hb1 (by omega)
  have hr1 := hr.below hb1 (by omega)
  have ho1 := ho.below hb1 (by omega)
  have hB1 := hb0.trans (hb1.mono (by omega))
  have hS1 := row_below hS hb1
  have hsz := hb1.size
  have o0 : w2.cell? ⟨w.heap.size + 1 + 1, 0, none⟩ = some (.int .i64 d.since) := ho1.cell 0
  have o1 : w2.cell? ⟨w.heap.size + 1 + 1, 1, none⟩ = some (.int .i64 d.date) := ho1.cell 1
  have o2 : w2.cell? ⟨w.heap.size + 1 + 1, 2, none⟩ = some (.slice (some ⟨b, 0, none⟩) d.ln d.ln) := ho1.cell 2
  have o3 : w2.cell? ⟨w.heap.size + 1 + 1, 3, none⟩ = some (.slice none 0 0) := ho1.cell 3
  have f3 := ho1.frozen 3
  have r0 : w2.cell? ⟨w.heap.size + 1, 0, none⟩ = some (.int .i64 0) := hr1.cell 0
  have r1 : w2.cell? ⟨w.heap.size + 1, 1, none⟩ = some (.int .i64 0) := hr1.cell 1
  have r2 : w2.cell? ⟨w.heap.size + 1, 2, none⟩ = some (.slice none 0 0) := hr1.cell 2
  have r3 : w2.cell? ⟨w.heap.size + 1, 3, none⟩ = some (.slice none 0 0) := hr1.cell 3
  have g0 := hr1.frozen 0
  have g1 := hr1.frozen 1
  have g2 := hr1.frozen 2
  have g3 := hr1.frozen 3
  have FB : Hid (Blk w2 (w.heap.size + 1) _ _ ∧ Below w.heap.size w w2 ∧ w2.rowIs b 4 d.ln (fun i => .bool (d.live i)) ∧ ∃ L', OD w2 W.heap.size 0 (fun _ => false) d.m d.ino d.nd L' (.slice none 0 0) (.slice (some ⟨W.heap.size, 0, none⟩) d.m d.m)) := ⟨hr1, hB1, hS1, hrow⟩
  have hs1 : w.heap.size + 3 ≤ W.heap.size := by omega
  have hbw : b < W.heap.size := hbl
  generalize W.heap.size = bW at *
  clear hp hr ho hb0 hb1 hp1 hr1 ho1 hB1 hS1 hrow hS hs0
  go_wp2_with fail
  obtain ⟨hr, hB, hS, L', hrow⟩ := FB.out
  refine end_world (F := DumpEndo w d b bW)
    ⟨((((hr.off _ (by omega)).set 0 _).set 1 _).set 2 _).set 3 _,
     bel_put (bel_put (bel_put (bel_put (bel_put hB _ (by omega)) _ (by omega)) _ (by omega)) _ (by omega)) _ (by omega),
     (row_off (row_off (row_off (row_off (row_off hS _ (by omega)) _ (by omega)) _ (by omega)) _ (by omega)) _ (by omega)),
     L', ((((hrow.off _ (by omega)).off _ (by omega)).off _ (by omega)).off _ (by omega)).off _ (by omega)⟩ ?_
  clear hr hB hS hrow FB o0 o1 o2 o3 f3 r0 r1 r2 r3 g0 g1 g2 g3
  rintro W ⟨hr, hB, hS, L2, hrow⟩
  have r0 : W.cell? ⟨w.heap.size + 1, 0, none⟩ = some (.int .i64 d.since) := hr.cell 0
  have r1 : W.cell? ⟨w.heap.size + 1, 1, none⟩ = some (.int .i64 d.date) := hr.cell 1
  have r2 : W.cell? ⟨w.heap.size + 1, 2, none⟩ = some (.slice (some ⟨b, 0, none⟩) d.ln d.ln) := hr.cell 2
  have r3 : W.cell? ⟨w.heap.size + 1, 3, none⟩ = some (.slice (some ⟨bW, 0, none⟩) d.m d.m) := hr.cell 3
  exact bodyPost_ret (v := .agg #[.int .i64 d.since, .int .i64 d.date, .slice (some ⟨b, 0, none⟩) d.ln d.ln, .slice (some ⟨bW, 0, none⟩) d.m d.m]) (by simp [results, Try.results43, go_sem, r0, r1, r2, r3]) rfl ⟨⟨some ⟨b, 0, none⟩, d.ln, some ⟨bW, 0, none⟩, d.m, L2⟩, rfl, hB, OD.withLive hrow (row_ownB hS (by omega) (by unfold maxLen; omega)) (by omega) (fun x e => by simp [Value.ownBlock] at e; omega)⟩

end Go.Proofs.Ytokalajliphcdaa

/-
  What the helpers of the exact laws do at what was kept, with its levels.
-/
namespace Go.Proofs.Ytokalajliphcdaa
open Go.RowKit Go.Deep
set_option linter.unusedVariables false
set_option linter.unusedSimpArgs false

set_option maxHeartbeats 1000000 in
theorem szRec_any (v : Int) (d : Dp) (l : DLoc) (left : Int) (w : World) (hI : DpIn w d l) (hf : d.Fits) (h0 : 0 ≤ left) (h1 : left ≤ 1048576) :
    Calls Try.prog 29 #[recV v d l, .int .i64 left] w fun e w' => Below w.heap.size w w' ∧ ∃ r : Int, e = .returned (.int .i64 r) ∧ r ≤ left ∧ (0 ≤ r → r + d.size ≤ left) := by
  unfold recV
  go_enter Try.func29, Try.ntmps29
  go_wp2_with fail
  refine at_world (F := New1 w _ _) (new1 w _ _) ?_
  rintro W ⟨hp, hb, hs⟩
  refine (szDump_any d l left W (hI.below (Nat.le_refl _) hb) hf h0 h1).mono ?_
  rintro e w1 ⟨hb1, r, rfl, hr1, hr2⟩
  have HB : Hid (Below w.heap.size w w1 ∧ (0 ≤ r → r + d.size ≤ left)) := ⟨hb.trans (hb1.mono (by omega)), hr2⟩
  clear hb hb1 hr2 hp hs
  by_cases hr3 : r < 0
  · have hr3' : decide (r < 0) = true := decide_eq_true hr3
    go_wp2
    go_ret
    exact ⟨HB.out.1, -1, rfl, by omega, fun h => by omega⟩
  · have hr3' : decide (r < 0) = false := decide_eq_false hr3
    go_wp2
    go_ret
    exact ⟨HB.out.1, r, rfl, hr1, HB.out.2⟩

set_option maxHeartbeats 1000000 in
theorem szRecS_any (a : Option Addr) (n c : Nat) (V : Nat → Int) (D : Nat → Dp) (L : Nat → DLoc) (left : Int) (w : World) (hS : IsRecs w a n V D L) (hf : FitRecs n V D) (hn : n ≤ maxLen) (h0 : 0 ≤ left) (h1 : left ≤ 1048576) :
    Calls Try.prog 14 #[.slice a n c, .int .i64 left] w fun e w' => Below w.heap.size w w' ∧ ∃ r : Int, e = .returned (.int .i64 r) ∧ r ≤ left ∧ (0 ≤ r → r + n + recsTo D n ≤ left) := by
  unfold maxLen at hn
  by_cases hneg : left - n < 0
  · have hneg' : decide (left - (n : Int) < 0) = true := decide_eq_true hneg
    go_enter Try.func14, Try.ntmps14
    go_wp2
    go_ret
    exact ⟨Below.refl _ _, -1, rfl, by omega, fun h => by omega⟩
  · have hneg' : decide (left - (n : Int) < 0) = false := decide_eq_false hneg
    go_enter Try.func14, Try.ntmps14
    go_wp2
    go_loopw [1, 5] (fun v i wr => ∃ (k : Nat) (r : Int), k ≤ n ∧ i = .int .i64 k ∧ v = .int .i64 r ∧ 0 ≤ r ∧ r ≤ left - n ∧ r + recsTo D k ≤ left - n ∧ Below w.heap.size w wr) (fun _ i _ => n - (intOf i).toNat)
    case atStart => exact ⟨0, left - n, Nat.zero_le _, rfl, rfl, by omega, by omega, by simp [recsTo], Below.refl _ _⟩
    case round =>
      obtain ⟨k, r, hk, rfl, rfl, hr0, hr1, hr2, hb⟩ := hrel
      have HB : Hid (Below w.heap.size w wr ∧ r + recsTo D k ≤ left - n) := ⟨hb, hr2⟩
      have hge : w.heap.size ≤ wr.heap.size := hb.size
      by_cases hlt : k < n
      · obtain ⟨b, off, rfl, hlt2, hc⟩ := (hS.below (Nat.le_refl _) hb).at hlt
        obtain ⟨c0, c1, c2, c3, c4, hI⟩ := hc k hlt
        have hlti : (k : Int) < (n : Int) := by omega
        clear hc hb hr2
        go_wp2_with fail
        refine (szRec_any (V k) (D k) (L k) r wr hI (hf k hlt).2 hr0 (by omega)).mono ?_
        rintro e w1 ⟨hb1, r', rfl, hr1', hr2'⟩
        have HB1 : Hid (Below w.heap.size w w1 ∧ (0 ≤ r' → r' + (D k).size ≤ r)) := ⟨HB.out.1.trans (hb1.mono hge), hr2'⟩
        clear hb1 hr2' c0 c1 c2 c3 c4
        by_cases hr3 : r' < 0
        · have hr3' : decide (r' < 0) = true := decide_eq_true hr3
          go_wp2
          go_ret
          exact ⟨HB1.out.1, -1, rfl, by omega, fun h => by omega⟩
        · have hr3' : decide (r' < 0) = false := decide_eq_false hr3
          have HN : Hid (r' + (recsTo D (k + 1) : Nat) ≤ left - n) := by
            have h1 := HB1.out.2 (by omega)
            have h2 := HB.out.2
            show _ ≤ _
            rw [recsTo_succ]
            omega
          go_wp2
          go_roundw
          case rel => exact ⟨k + 1, r', by omega, by go_num, rfl, by omega, by omega, HN.out, HB1.out.1⟩
          case measure => simp [intOf] <;> omega
      · obtain rfl : k = n := by omega
        clear hb hr2
        go_wp2
        go_ret
        exact ⟨HB.out.1, r, rfl, by omega, fun _ => by have := HB.out.2; omega⟩

set_option maxHeartbeats 1000000 in
theorem eqRec_any (v u : Int) (d e : Dp) (l k : DLoc) (w : World) (hI : DpIn w d l) (hI' : DpIn w e k) (hf : d.Fits) (hf' : e.Fits) :
    Calls Try.prog 33 #[recV v d l, recV u e k] w fun r w' => Below w.heap.size w w' ∧ r = .returned (.bool (sameRec v u d e)) := by
  unfold recV sameRec
  cases h1 : (v == u) with
  | false =>
    have hnb : (v != u) = true := by simp only [bne, h1]; rfl
    clear h1
    go_enter Try.func33, Try.ntmps33
    go_wp2_with fail
    go_ret
    exact ⟨((Below.refl _ _).alloc (Nat.le_refl _) _).alloc (by simp) _, rfl⟩
  | true =>
    have hnb : (v != u) = false := by simpa [bne] using h1
    clear h1
    go_enter Try.func33, Try.ntmps33
    go_wp2_with fail
    refine at_world (F := New2 w _ _ _ _) (new2 w _ _ _ _) ?_
    rintro W ⟨hp, hp', hb, hs⟩
    refine (eqDump_any d e l k W (hI.below (Nat.le_refl _) hb) (hI'.below (Nat.le_refl _) hb) hf hf').mono ?_
    rintro r w1 ⟨hb1, rfl⟩
    have HB : Hid (Below w.heap.size w w1) := hb.trans (hb1.mono (by omega))
    clear hp hp' hb hs hb1
    cases hq : d.same e with
    | false =>
      have HQ : Hid (d.same e = false) := hq
      clear hq
      go_wp2
      go_ret
      exact ⟨HB.out, ret_bool (by rw [HQ.out]; rfl)⟩
    | true =>
      have HQ : Hid (d.same e = true) := hq
      clear hq
      go_wp2
      go_ret
      exact ⟨HB.out, ret_bool (by rw [HQ.out]; rfl)⟩

set_option maxHeartbeats 1000000 in
theorem eqRecS_any (a a' : Option Addr) (n c m c' : Nat) (V U : Nat → Int) (D E : Nat → Dp) (L M : Nat → DLoc) (w : World) (hS : IsRecs w a n V D L) (hT : IsRecs w a' m U E M) (hf : FitRecs n V D) (hf' : FitRecs m U E) (hn : n ≤ maxLen) (hm : m ≤ maxLen) :
    Calls Try.prog 18 #[.slice a n c, .slice a' m c'] w fun e w' => Below w.heap.size w w' ∧ e = .returned (.bool (decide (n = m) && sameRecs n V U D E)) := by
  unfold maxLen at hn hm
  by_cases hne : n = m
  · subst hne
    have hb : ((n : Int) != (n : Int)) = false := by simp
    go_enter Try.func18, Try.ntmps18
    go_wp2
    go_loopw [5] (fun i wr => ∃ k : Nat, k ≤ n ∧ i = .int .i64 k ∧ Below w.heap.size w wr ∧ sameRecs k V U D E = true) (fun i _ => n - (intOf i).toNat)
    case atStart => exact ⟨0, Nat.zero_le _, rfl, Below.refl _ _, rfl⟩
    case round =>
      obtain ⟨k, hk, rfl, hbel, heq⟩ := hrel
      have HE : Hid (sameRecs k V U D E = true) := heq
      clear heq
      by_cases hlt : k < n
      · obtain ⟨b, off, rfl, hlt2, hc⟩ := (hS.below (Nat.le_refl _) hbel).at hlt
        obtain ⟨b', off', rfl, hlt2', hc'⟩ := (hT.below (Nat.le_refl _) hbel).at hlt
        obtain ⟨c0, c1, c2, c3, c4, hI⟩ := hc k hlt
        obtain ⟨d0, d1, d2, d3, d4, hI'⟩ := hc' k hlt
        have hlti : (k : Int) < (n : Int) := by omega
        have C0 := Lat.cell (B := wr.heap.size) c0 hlt2
        have C1 := Lat.cell (B := wr.heap.size) c1 hlt2
        have C2 := Lat.cell (B := wr.heap.size) c2 hlt2
        have C3 := Lat.cell (B := wr.heap.size) c3 hlt2
        have C4 := Lat.cell (B := wr.heap.size) c4 hlt2
        have D0 := Lat.cell (B := wr.heap.size) d0 hlt2'
        have D1 := Lat.cell (B := wr.heap.size) d1 hlt2'
        have D2 := Lat.cell (B := wr.heap.size) d2 hlt2'
        have D3 := Lat.cell (B := wr.heap.size) d3 hlt2'
        have D4 := Lat.cell (B := wr.heap.size) d4 hlt2'
        have hcall : Hid (∀ n : Lat wr.heap.size wr, Calls Try.prog 33 #[recV (V k) (D k) (L k), recV (U k) (E k) (M k)] n.val fun e w'' => e = .returned (.bool (sameRec (V k) (U k) (D k) (E k))) ∧ ∃ m : Lat wr.heap.size wr, w'' = m.val) := fun n =>
          Calls.lat_of (eqRec_any (V k) (U k) (D k) (E k) (L k) (M k) n.val (hI.below (Nat.le_refl _) n.bel) (hI'.below (Nat.le_refl _) n.bel) (hf k hlt).2 (hf' k hlt).2) (fun e w' h => ⟨h.2, h.1.mono n.bel.size⟩)
        clear hc hc' c0 c1 c2 c3 c4 d0 d1 d2 d3 d4 hI hI'
        have HBL : Hid (Below w.heap.size w wr) := hbel
        clear hbel
        go_wp2_with fail
        refine wp_region_lat (B := wr.heap.size) (w0 := wr) (by kernel_rfl) (by kernel_rfl) (Below.refl _ _) ?_
        repeat (go_big_quiet_step (exact hcall.out _))
        refine wpQuiet_nil ?_
        rintro _ ⟨nq, rfl⟩
        have hB : Hid (Below w.heap.size w nq.val) := HBL.out.trans (nq.bel.mono HBL.out.size)
        clear hcall C0 C1 C2 C3 C4 D0 D1 D2 D3 D4
        cases hq : sameRec (V k) (U k) (D k) (E k) with
        | false =>
          have HX : Hid (false = sameRecs n V U D E) := sameRecs_not n k V U D E hlt hq
          clear hq
          go_wp2
          go_ret
          exact ⟨hB.out, ret_bool (by rw [← HX.out]; simp)⟩
        | true =>
          have HX : Hid (sameRecs (k + 1) V U D E = true) := sameRecs_succ k V U D E HE.out hq
          clear hq
          go_wp2
          go_roundw
          case rel => exact ⟨k + 1, by omega, by go_num, hB.out, HX.out⟩
          case measure => simp [intOf]; omega
      · have hkn : k = n := by omega
        have HK : Hid (k = n) := hkn
        have HBL : Hid (Below w.heap.size w wr) := hbel
        clear hkn hbel
        go_wp2
        go_ret
        exact ⟨HBL.out, ret_bool (by rw [← HK.out, HE.out]; simp)⟩
  · have hb : ((n : Int) != (m : Int)) = true := by simp; omega
    go_enter Try.func18, Try.ntmps18
    go_wp2
    go_ret
    exact ⟨Below.refl _ _, ret_bool (by simp [hne])⟩
end Go.Proofs.Ytokalajliphcdaa

/-
  What was kept, with its levels, in memory of one's own: a copy, and marking it.
-/
namespace Go.Proofs.Ytokalajliphcdaa
open Go.RowKit Go.Deep
set_option linter.unusedVariables false
set_option linter.unusedSimpArgs false

/-- Block g holds n of them, the first k laid; the parts of each lie in blocks of their own, those of i from H i on and below H (i + 1). -/
structure RecRow (w : World) (g n k : Nat) (V : Nat → Int) (D : Nat → Dp) (L : Nat → DLoc) (H : Nat → Nat) : Prop where
  row : ∃ f, w.rowIs g 65 (n * 5) f ∧ ∀ i, i < k → f (i * 5) = .int .i64 (V i) ∧ f (i * 5 + 1) = .int .i64 (D i).since ∧ f (i * 5 + 2) = .int .i64 (D i).date ∧ f (i * 5 + 3) = .slice (L i).lA (D i).ln (L i).lc ∧ f (i * 5 + 4) = .slice (L i).iA (D i).m (L i).ic
  own : ∀ i, i < k → OwnDp w (H i) (D i) (L i)
  blk : ∀ i, i < k → ∀ d b, d < 2 + 2 * (D i).m → (valD (.slice (L i).lA (D i).ln (L i).lc) (.slice (L i).iA (D i).m (L i).ic) (D i).nd (L i).L d).ownBlock = some b → b < H (i + 1)
  up : ∀ i, i < k → H i ≤ H (i + 1)
  top : H k ≤ w.heap.size
  low : g < H 0

theorem RecRow.mono {w : World} {g n k : Nat} {V : Nat → Int} {D : Nat → Dp} {L : Nat → DLoc} {H : Nat → Nat} (h : RecRow w g n k V D L H) : ∀ {i j : Nat}, i ≤ j → j ≤ k → H i ≤ H j := by
  intro i j hij
  induction hij with
  | refl => intro _; exact Nat.le_refl _
  | step hij ih =>
    rename_i m
    intro hm
    exact Nat.le_trans (ih (by omega)) (h.up m (by omega))

theorem RecRow.recs {w : World} {g n : Nat} {V : Nat → Int} {D : Nat → Dp} {L : Nat → DLoc} {H : Nat → Nat} (h : RecRow w g n n V D L H) : IsRecs w (some ⟨g, 0, none⟩) n V D L := by
  obtain ⟨f, hr, hf⟩ := h.row
  refine Or.inr ⟨g, 0, rfl, hr.lt, fun i hi => ?_⟩
  obtain ⟨f0, f1, f2, f3, f4⟩ := hf i hi
  rw [Nat.zero_add, ← f0, ← f1, ← f2, ← f3, ← f4]
  exact ⟨hr.cell (by omega), hr.cell (by omega), hr.cell (by omega), hr.cell (by omega), hr.cell (by omega), (h.own i hi).dpIn⟩

theorem RecRow.below {w w' : World} {g n k : Nat} {V : Nat → Int} {D : Nat → Dp} {L : Nat → DLoc} {H : Nat → Nat} (h : RecRow w g n k V D L H) (hb : Below w.heap.size w w') : RecRow w' g n k V D L H := by
  obtain ⟨f, hr, hf⟩ := h.row
  exact ⟨⟨f, rowIs_below hr hb hr.lt, hf⟩, fun i hi => OD.below (h.own i hi) hb, h.blk, h.up, Nat.le_trans h.top hb.size, h.low⟩

theorem five_ne {i k r s : Nat} (h : i ≠ k) (hr : r < 5) (hs : s < 5) : i * 5 + r ≠ k * 5 + s := by omega

theorem RecRow.step {w : World} {g n k : Nat} {V : Nat → Int} {D : Nat → Dp} {L : Nat → DLoc} {H : Nat → Nat} (h : RecRow w g n k V D L H) {l : DLoc} (hk : OwnDp w (H k) (D k) l) :
    RecRow (((((w.setCell ⟨g, k * 5, none⟩ (.int .i64 (V k))).setCell ⟨g, k * 5 + 1, none⟩ (.int .i64 (D k).since)).setCell ⟨g, k * 5 + 2, none⟩ (.int .i64 (D k).date)).setCell ⟨g, k * 5 + 3, none⟩ (.slice l.lA (D k).ln l.lc)).setCell ⟨g, k * 5 + 4, none⟩ (.slice l.iA (D k).m l.ic)) g n (k + 1) V D (fun i => if i = k then l else L i) (fun i => if i = k + 1 then w.heap.size else H i) := by
  have hlow := h.low
  have hm : ∀ i, i ≤ k → g < H i := fun i hi => Nat.lt_of_lt_of_le hlow (h.mono (Nat.zero_le _) hi)
  have htop := h.top
  obtain ⟨f, hr, hf⟩ := h.row
  refine ⟨⟨_, (((((hr.set _ _).set _ _).set _ _).set _ _).set _ _), fun i hi => ?_⟩, fun i hi => ?_, fun i hi d b hd hb => ?_, fun i hi => ?_, ?_, ?_⟩
  · by_cases e : i = k
    · subst e; simp
    · have := hf i (by omega)
      have n0 : ∀ r s, r < 5 → s < 5 → ¬ i * 5 + r = k * 5 + s := fun r s hr hs => five_ne e hr hs
      have z0 : ∀ s, s < 5 → ¬ i * 5 = k * 5 + s := fun s hs => n0 0 s (by omega) hs
      have z1 : ∀ r, r < 5 → ¬ i * 5 + r = k * 5 := fun r hr => n0 r 0 hr (by omega)
      have z2 : ¬ i * 5 = k * 5 := n0 0 0 (by omega) (by omega)
      simp only [if_neg e, z0 1 (by omega), z0 2 (by omega), z0 3 (by omega), z0 4 (by omega), z1 1 (by omega), z1 2 (by omega), z1 3 (by omega), z1 4 (by omega), z2, n0 1 1 (by omega) (by omega), n0 1 2 (by omega) (by omega), n0 1 3 (by omega) (by omega), n0 1 4 (by omega) (by omega), n0 2 1 (by omega) (by omega), n0 2 2 (by omega) (by omega), n0 2 3 (by omega) (by omega), n0 2 4 (by omega) (by omega), n0 3 1 (by omega) (by omega), n0 3 2 (by omega) (by omega), n0 3 3 (by omega) (by omega), n0 3 4 (by omega) (by omega), n0 4 1 (by omega) (by omega), n0 4 2 (by omega) (by omega), n0 4 3 (by omega) (by omega), n0 4 4 (by omega) (by omega), if_false]
      exact this
  · simp only [show i ≠ k + 1 by omega, if_false]
    have hg : g < H i := hm i (by omega)
    by_cases e : i = k
    · subst e
      simp only [if_true]
      exact (((((OD.off hk _ hg).off _ hg).off _ hg).off _ hg).off _ hg)
    · simp only [if_neg e]
      exact (((((OD.off (h.own i (by omega)) _ hg).off _ hg).off _ hg).off _ hg).off _ hg)
  · by_cases e : i = k
    · subst e
      simp only [if_true] at hb ⊢
      exact (owns_block (hk.rows.own d hd) hb).2
    · simp only [if_neg e] at hb
      have := h.blk i (by omega) d b hd hb
      simp only [show i + 1 ≠ k + 1 by omega, if_false]
      exact this
  · by_cases e : i = k
    · subst e
      simp only [show i ≠ i + 1 by omega, if_false, if_true]
      exact htop
    · simp only [show i ≠ k + 1 by omega, show i + 1 ≠ k + 1 by omega, if_false]
      exact h.up i (by omega)
  · simp [World.setCell]
  · simp only [show (0 : Nat) ≠ k + 1 by omega, if_false]
    exact hlow

set_option maxHeartbeats 1000000 in
theorem toRec_any (v : Int) (d : Dp) (l : DLoc) (w : World) (hI : DpIn w d l) (hsz : d.size ≤ 1048576) :
    Calls Try.prog 30 #[recV v d l] w fun e w' => ∃ l', e = .returned (recV v d l') ∧ Below w.heap.size w w' ∧ OwnDp w' w.heap.size d l' := by
  unfold recV
  go_enter Try.func30, Try.ntmps30
  go_wp2_with fail
  refine at_world (F := New3 w _ _ _ _ _ _) (new3 w _ _ _ _ _ _) ?_
  rintro W ⟨hp, hr, ho, hb0, hs0⟩
  refine (toDump_own d l W (hI.below (Nat.le_refl _) hb0) hsz).mono ?_
  rintro e w1 ⟨l', rfl, hb1, hod⟩
  unfold dpV
  have hr1 := hr.below hb1 (by omega)
  have ho1 := ho.below hb1 (by omega)
  have hB1 := hb0.trans (hb1.mono (by omega))
  have hod' : OwnDp w1 W.heap.size d l' := hod
  have o0 : w1.cell? ⟨w.heap.size + 1 + 1, 0, none⟩ = some (.int .i64 v) := ho1.cell 0
  have o1 : w1.cell? ⟨w.heap.size + 1 + 1, 1, none⟩ = some (.int .i64 0) := ho1.cell 1
  have o2 : w1.cell? ⟨w.heap.size + 1 + 1, 2, none⟩ = some (.int .i64 0) := ho1.cell 2
  have o3 : w1.cell? ⟨w.heap.size + 1 + 1, 3, none⟩ = some (.slice none 0 0) := ho1.cell 3
  have o4 : w1.cell? ⟨w.heap.size + 1 + 1, 4, none⟩ = some (.slice none 0 0) := ho1.cell 4
  have f1 := ho1.frozen 1
  have f2 := ho1.frozen 2
  have f3 := ho1.frozen 3
  have f4 := ho1.frozen 4
  have r0 : w1.cell? ⟨w.heap.size + 1, 0, none⟩ = some (.int .i64 0) := hr1.cell 0
  have r1 : w1.cell? ⟨w.heap.size + 1, 1, none⟩ = some (.int .i64 0) := hr1.cell 1
  have r2 : w1.cell? ⟨w.heap.size + 1, 2, none⟩ = some (.int .i64 0) := hr1.cell 2
  have r3 : w1.cell? ⟨w.heap.size + 1, 3, none⟩ = some (.slice none 0 0) := hr1.cell 3
  have r4 : w1.cell? ⟨w.heap.size + 1, 4, none⟩ = some (.slice none 0 0) := hr1.cell 4
  have g0 := hr1.frozen 0
  have g1 := hr1.frozen 1
  have g2 := hr1.frozen 2
  have g3 := hr1.frozen 3
  have g4 := hr1.frozen 4
  have FB : Hid (Blk w1 (w.heap.size + 1) _ _ ∧ Below w.heap.size w w1 ∧ OwnDp w1 (w.heap.size + 3) d l') := ⟨hr1, hB1, hod.lower (by omega)⟩
  clear hp hr ho hb0 hb1 hr1 ho1 hB1 hod hod' hs0
  go_wp2_with fail
  obtain ⟨hr, hB, hS⟩ := FB.out
  refine end_world (F := fun W => Blk W (w.heap.size + 1) #[.int .i64 v, .int .i64 d.since, .int .i64 d.date, .slice l'.lA d.ln l'.lc, .slice l'.iA d.m l'.ic] 65 ∧ Below w.heap.size w W ∧ OwnDp W (w.heap.size + 3) d l')
    ?_ ?_
  · refine ⟨?_, ?_, ?_⟩
    · exact (((((((((hr.off _ (by omega)).off _ (by omega)).off _ (by omega)).off _ (by omega)).set 0 _).set 1 _).set 2 _).set 3 _).set 4 _)
    · exact bel_put (bel_put (bel_put (bel_put (bel_put (bel_put (bel_put (bel_put (bel_put hB _ (by omega)) _ (by omega)) _ (by omega)) _ (by omega)) _ (by omega)) _ (by omega)) _ (by omega)) _ (by omega)) _ (by omega)
    · exact ((((((((OD.off hS _ (by omega)).off _ (by omega)).off _ (by omega)).off _ (by omega)).off _ (by omega)).off _ (by omega)).off _ (by omega)).off _ (by omega)).off _ (by omega)
  · clear hr hB hS FB o0 o1 o2 o3 o4 f1 f2 f3 f4 r0 r1 r2 r3 r4 g0 g1 g2 g3 g4
    rintro W ⟨hr, hB, hS⟩
    have r0 : W.cell? ⟨w.heap.size + 1, 0, none⟩ = some (.int .i64 v) := hr.cell 0
    have r1 : W.cell? ⟨w.heap.size + 1, 1, none⟩ = some (.int .i64 d.since) := hr.cell 1
    have r2 : W.cell? ⟨w.heap.size + 1, 2, none⟩ = some (.int .i64 d.date) := hr.cell 2
    have r3 : W.cell? ⟨w.heap.size + 1, 3, none⟩ = some (.slice l'.lA d.ln l'.lc) := hr.cell 3
    have r4 : W.cell? ⟨w.heap.size + 1, 4, none⟩ = some (.slice l'.iA d.m l'.ic) := hr.cell 4
    exact bodyPost_ret (v := .agg #[.int .i64 v, .int .i64 d.since, .int .i64 d.date, .slice l'.lA d.ln l'.lc, .slice l'.iA d.m l'.ic]) (by simp [results, Try.results30, go_sem, r0, r1, r2, r3, r4]) rfl ⟨l', rfl, hB, OD.lower hS (by omega)⟩

set_option maxHeartbeats 2000000 in
theorem toRecS_own (a : Option Addr) (n c : Nat) (V : Nat → Int) (D : Nat → Dp) (L : Nat → DLoc) (w : World) (hS : IsRecs w a n V D L) (hn : n ≤ 1048576) (hsz : recsTo D n ≤ 1048576) :
    Calls Try.prog 16 #[.slice a n c] w fun e w' => e = .returned (.slice (some ⟨w.heap.size, 0, none⟩) n n) ∧ Below w.heap.size w w' ∧ ∃ L' H, RecRow w' w.heap.size n n V D L' H := by
  have hmk := fun w => run_make_wide (P := Try.prog) 36 65 _ 72 5 Try.underlying36 infoRec .i64 .i64 n (by omega) (by omega) w
  go_enter Try.func16, Try.ntmps16
  go_wp2
  go_loopw [4] (fun i wr => ∃ (k : Nat) (L' : Nat → DLoc) (H : Nat → Nat), k ≤ n ∧ i = .int .i64 k ∧ Below w.heap.size w wr ∧ RecRow wr w.heap.size n k V D L' H) (fun i _ => n - (intOf i).toNat)
  case atStart =>
    obtain ⟨g, hg⟩ := rowIs_wide w #[.int .i64 0, .int .i64 0, .int .i64 0, .slice none 0 0, .slice none 0 0] (n * 5) 65
    exact ⟨0, L, fun _ => w.heap.size + 1, Nat.zero_le _, rfl, (Below.refl _ _).alloc (Nat.le_refl _) _, ⟨g, hg, fun i hi => by omega⟩, fun i hi => by omega, fun i hi => by omega, fun i hi => by omega, by simp, by omega⟩
  case round =>
    obtain ⟨k, L', H, hk, rfl, hb, hrow⟩ := hrel
    by_cases hlt : k < n
    · obtain ⟨b, off, rfl, hlt2, hc⟩ := (hS.below (Nat.le_refl _) hb).at hlt
      obtain ⟨c0, c1, c2, c3, c4, hI⟩ := hc k hlt
      clear hc
      go_wp2_with fail
      refine (toRec_any (V k) (D k) (L k) wr hI (by have := recs_size D hlt; omega)).mono ?_
      rintro e w1 ⟨l', rfl, hb1, hod⟩
      unfold recV
      have hrow1 := hrow.below hb1
      have hB := hb.trans (hb1.mono hb.size)
      have HR : Hid (RecRow w1 w.heap.size n k V D L' H ∧ OwnDp w1 (H k) (D k) l' ∧ Below w.heap.size w w1) := ⟨hrow1, OD.lower hod hrow.top, hB⟩
      obtain ⟨f, hr, _⟩ := hrow1.row
      have d0 := hr.cell (show k * 5 < n * 5 by omega)
      have d1 := hr.cell (show k * 5 + 1 < n * 5 by omega)
      have d2 := hr.cell (show k * 5 + 2 < n * 5 by omega)
      have d3 := hr.cell (show k * 5 + 3 < n * 5 by omega)
      have d4 := hr.cell (show k * 5 + 4 < n * 5 by omega)
      have e0 := hr.frozen (k * 5)
      have e1 := hr.frozen (k * 5 + 1)
      have e2 := hr.frozen (k * 5 + 2)
      have e3 := hr.frozen (k * 5 + 3)
      have e4 := hr.frozen (k * 5 + 4)
      clear hb hrow hrow1 hr hB hb1 hod hI c0 c1 c2 c3 c4
      go_wp2
      go_roundw
      case rel => exact ⟨k + 1, _, _, by omega, by go_num, bel_put (bel_put (bel_put (bel_put (bel_put HR.out.2.2 _ (Nat.le_refl _)) _ (Nat.le_refl _)) _ (Nat.le_refl _)) _ (Nat.le_refl _)) _ (Nat.le_refl _), HR.out.1.step HR.out.2.1⟩
      case measure => simp [intOf]; omega
    · have hkn : k = n := by omega
      have HR : Hid (Below w.heap.size w wr ∧ ∃ L' H, RecRow wr w.heap.size n n V D L' H) := ⟨hb, L', H, hkn ▸ hrow⟩
      clear hb hrow hkn
      go_wp2
      go_ret
      exact ⟨rfl, HR.out.1, HR.out.2⟩
end Go.Proofs.Ytokalajliphcdaa

/-
  What was kept, in memory of one's own, is marked: only that it goes on, and what it leaves alone.
-/
namespace Go.Proofs.Ytokalajliphcdaa
open Go.RowKit Go.Deep
set_option linter.unusedVariables false
set_option linter.unusedSimpArgs false

theorem kap_le6 (D : Nat → Nd) (k0 : Nat) : ∀ m, kap D k0 m ≤ k0 + 4 * m + sizeTo D m
  | 0 => by simp [kap, sizeTo]
  | m + 1 => by
    have h1 := kap_le6 D k0 m
    rw [kap, sizeTo_succ]
    unfold Nd.size
    omega

theorem kap_size6 {d : Dp} (k0 : Nat) : kap d.nd (k0 + d.ln) d.m ≤ k0 + 4 * d.size := by
  have h1 := kap_le6 d.nd (k0 + d.ln) d.m
  unfold Dp.size
  omega

theorem nd_sum6 {d : Dp} (h : d.size ≤ 1048576) {i : Nat} (hi : i < d.m) : (d.nd i).nn ≤ 1048576 ∧ (d.nd i).kn ≤ 1048576 := by
  have h1 := size_le_sizeTo d.nd d.m i hi
  unfold Dp.size at h
  unfold Nd.size at h1
  omega

theorem Fr.wide {B B' H H' : Nat} {a w : World} (h : Fr B H a w) (hB : B' ≤ B) (hH : H ≤ H') : Fr B' H' a w := ⟨h.bel.mono hB, fun b hb hl => h.far b (by omega) hl⟩

/-- Block g holds n of them, those from j on each in blocks of their own. -/
structure MkRow (w : World) (g n j : Nat) (D : Nat → Dp) (L : Nat → DLoc) (H : Nat → Nat) : Prop where
  row : ∃ f, w.rowIs g 65 (n * 5) f ∧ ∀ i, i < n → f (i * 5 + 3) = .slice (L i).lA (D i).ln (L i).lc ∧ f (i * 5 + 4) = .slice (L i).iA (D i).m (L i).ic
  own : ∀ i, j ≤ i → i < n → OwnDp w (H i) (D i) (L i)
  blk : ∀ i, i < n → ∀ d b, d < 2 + 2 * (D i).m → (valD (.slice (L i).lA (D i).ln (L i).lc) (.slice (L i).iA (D i).m (L i).ic) (D i).nd (L i).L d).ownBlock = some b → b < H (i + 1)
  up : ∀ i, i < n → H i ≤ H (i + 1)
  top : H n ≤ w.heap.size
  low : g < H 0

theorem RecRow.toMk {w : World} {g n : Nat} {V : Nat → Int} {D : Nat → Dp} {L : Nat → DLoc} {H : Nat → Nat} (h : RecRow w g n n V D L H) : MkRow w g n 0 D L H := by
  obtain ⟨f, hr, hf⟩ := h.row
  exact ⟨⟨f, hr, fun i hi => ⟨(hf i hi).2.2.2.1, (hf i hi).2.2.2.2⟩⟩, fun i _ hi => h.own i hi, h.blk, h.up, h.top, h.low⟩

theorem MkRow.mono {w : World} {g n j : Nat} {D : Nat → Dp} {L : Nat → DLoc} {H : Nat → Nat} (h : MkRow w g n j D L H) : ∀ {i j : Nat}, i ≤ j → j ≤ n → H i ≤ H j := by
  intro i j hij
  induction hij with
  | refl => intro _; exact Nat.le_refl _
  | step hij ih =>
    rename_i m
    intro hm
    exact Nat.le_trans (ih (by omega)) (h.up m (by omega))

/-- A number is written into a cell of the row. -/
theorem MkRow.put {w : World} {g n j : Nat} {D : Nat → Dp} {L : Nat → DLoc} {H : Nat → Nat} (h : MkRow w g n j D L H) (k r : Nat) (hr : r < 3) (v : Value) : MkRow (w.setCell ⟨g, k * 5 + r, none⟩ v) g n j D L H := by
  obtain ⟨f, hrow, hf⟩ := h.row
  refine ⟨⟨_, hrow.set _ _, fun i hi => ?_⟩, fun i hj hi => OD.off (h.own i hj hi) v (Nat.lt_of_lt_of_le h.low (h.mono (Nat.zero_le _) (by omega))), h.blk, h.up, by simpa [World.setCell] using h.top, h.low⟩
  rw [if_neg (show ¬ i * 5 + 3 = k * 5 + r by omega), if_neg (show ¬ i * 5 + 4 = k * 5 + r by omega)]
  exact hf i hi

/-- What only writes into the blocks of one of them leaves the row, and those behind it, alone. -/
theorem MkRow.next {w w' : World} {g n j : Nat} {D : Nat → Dp} {L : Nat → DLoc} {H : Nat → Nat} (h : MkRow w g n j D L H) (hj : j < n) (hf : Fr (H j) (H (j + 1)) w w') : MkRow w' g n (j + 1) D L H := by
  obtain ⟨f, hrow, hff⟩ := h.row
  have hg : g < H j := Nat.lt_of_lt_of_le h.low (h.mono (Nat.zero_le _) (by omega))
  refine ⟨⟨f, hrow.of_block (hf.bel.block g hg), hff⟩, fun i hji hi => OD.same (h.own i (by omega) hi) fun b hb hl => hf.far b ?_ hl, h.blk, h.up, Nat.le_trans h.top hf.bel.size, h.low⟩
  exact Nat.le_trans (h.mono hji (by omega)) hb

set_option maxHeartbeats 2000000 in
theorem markRecS_own (g n c k0 : Nat) (D : Nat → Dp) (L : Nat → DLoc) (H : Nat → Nat) (w : World) (h : MkRow w g n 0 D L H) (hn : n ≤ 1048576) (hsz : recsTo D n ≤ 1048576) (hk1 : 1 ≤ k0) (hk : k0 ≤ 10000000) :
    Calls Try.prog 19 #[.slice (some ⟨g, 0, none⟩) n c, .int .i64 (k0 : Int)] w fun e w' => (∃ q : Nat, e = .returned (.int .i64 (q : Int)) ∧ k0 ≤ q ∧ q ≤ k0 + 3 * n + 4 * recsTo D n) ∧ Fr g (H n) w w' := by
  go_enter Try.func19, Try.ntmps19
  go_wp2
  go_loopw [1, 5] (fun kk i wr => ∃ j q : Nat, j ≤ n ∧ i = .int .i64 j ∧ kk = .int .i64 (q : Int) ∧ k0 ≤ q ∧ q ≤ k0 + 3 * j + 4 * recsTo D j ∧ MkRow wr g n j D L H ∧ Fr g (H n) w wr) (fun _ i _ => n - (intOf i).toNat)
  case atStart => exact ⟨0, k0, Nat.zero_le _, rfl, rfl, Nat.le_refl _, by simp [recsTo], h, Fr.refl _ _ _⟩
  case round =>
    obtain ⟨j, q, hj, rfl, rfl, hq0, hq1, hm, hf⟩ := hrel
    have hrj : recsTo D j ≤ recsTo D n := recsTo_mono D hj
    by_cases hlt : j < n
    · have hlti : (j : Int) < (n : Int) := by omega
      have hgj : g < H j := Nat.lt_of_lt_of_le hm.low (hm.mono (Nat.zero_le _) (by omega))
      have hjn : H (j + 1) ≤ H n := hm.mono (by omega) (Nat.le_refl _)
      have hgn : g < H n := Nat.lt_of_lt_of_le hgj (hm.mono (by omega) (Nat.le_refl _))
      have hup : H j ≤ H (j + 1) := hm.up j hlt
      have hdz := recs_size D hlt
      have hq2 : q ≤ 18000000 := by omega
      obtain ⟨f, hr, hff⟩ := hm.row
      have d0 := hr.cell (show j * 5 < n * 5 by omega)
      have d1 := hr.cell (show j * 5 + 1 < n * 5 by omega)
      have d2 := hr.cell (show j * 5 + 2 < n * 5 by omega)
      have d3 := hr.cell (show j * 5 + 3 < n * 5 by omega)
      have e0 := hr.frozen (j * 5)
      have e1 := hr.frozen (j * 5 + 1)
      have e2 := hr.frozen (j * 5 + 2)
      rw [(hff j hlt).1] at d3
      have HM : Hid (MkRow (((wr.setCell ⟨g, j * 5, none⟩ (.int .i64 (q : Int))).setCell ⟨g, j * 5 + 1, none⟩ (.int .i64 ((q : Int) + 1))).setCell ⟨g, j * 5 + 2, none⟩ (.int .i64 ((q : Int) + 1 + 1))) g n j D L H ∧ Fr g (H n) w (((wr.setCell ⟨g, j * 5, none⟩ (.int .i64 (q : Int))).setCell ⟨g, j * 5 + 1, none⟩ (.int .i64 ((q : Int) + 1))).setCell ⟨g, j * 5 + 2, none⟩ (.int .i64 ((q : Int) + 1 + 1)))) :=
        ⟨((hm.put j 0 (by omega) _).put j 1 (by omega) _).put j 2 (by omega) _, ((hf.put _ (Nat.le_refl _) hgn).put _ (Nat.le_refl _) hgn).put _ (Nat.le_refl _) hgn⟩
      clear hm hf hr hff
      go_wp2_with fail
      refine at_world (F := fun W => MkRow W g n j D L H ∧ Fr g (H n) w W) HM.out ?_
      clear HM d0 d1 d2 d3 e0 e1 e2
      rintro W ⟨hm, hf⟩
      have hod := hm.own j (Nat.le_refl _) hlt
      rw [show (q : Int) + 1 + 1 + 1 = ((q + 3 : Nat) : Int) from by omega]
      refine (markBoolS_own (L j).lA (D j).ln (L j).lc (q + 3) (H j) (D j).live W hod.ownL (by have := hdz; unfold Dp.size at this; omega) (by omega)).mono ?_
      rintro e W2 ⟨rfl, hown, hg⟩
      have hod2 : OD W2 (H j) (D j).ln (markB (q + 3)) (D j).m (D j).ino (D j).nd (L j).L (.slice (L j).lA (D j).ln (L j).lc) (.slice (L j).iA (D j).m (L j).ic) := OD.turnLive hod hg hown
      have hbl : ∀ b, (Value.slice (L j).lA (D j).ln (L j).lc).ownBlock = some b → H j ≤ b ∧ b < H (j + 1) := fun b e => ⟨(owns_block (OD.ownL hod) e).1, hm.blk j hlt 0 b (by omega) e⟩
      have hf2 : Fr (H j) (H (j + 1)) W W2 := (Fr.refl _ _ W).grow hg (Nat.le_trans (hm.mono (by omega) (Nat.le_refl _)) hm.top) hbl
      obtain ⟨f, hr, hff⟩ := hm.row
      have d4 := (hr.of_block (hf2.bel.block g hgj)).cell (show j * 5 + 4 < n * 5 by omega)
      rw [(hff j hlt).2] at d4
      have H2 : Hid (MkRow W g n j D L H ∧ Fr g (H n) w W ∧ Fr (H j) (H (j + 1)) W W2 ∧ OD W2 (H j) (D j).ln (markB (q + 3)) (D j).m (D j).ino (D j).nd (L j).L (.slice (L j).lA (D j).ln (L j).lc) (.slice (L j).iA (D j).m (L j).ic)) := ⟨hm, hf, hf2, hod2⟩
      clear hm hf hod hown hg hod2 hbl hf2 hr hff
      have hks := kap_size6 (d := D j) (q + 3)
      have hkg := kap_ge (D j).nd (q + 3 + (D j).ln) (D j).m
      have hm1 : (D j).m ≤ 1048576 := by have := hdz; unfold Dp.size at this; omega
      go_wp2_with fail
      refine (markItemS_own (H (j + 1)) (L j).iA (D j).m (L j).ic (q + 3 + (D j).ln) (H j) (D j).ln (markB (q + 3)) (D j).ino (D j).nd (L j).L (.slice (L j).lA (D j).ln (L j).lc) W2 H2.out.2.2.2 hm1 (by omega) (H2.out.1.blk j hlt) (by omega) (fun i hi => nd_sum6 (by omega) hi)).mono ?_
      rintro e W3 ⟨rfl, hf3, _⟩
      have HF : Hid (Fr (H j) (H (j + 1)) W W3) := H2.out.2.2.1.trans (by have := H2.out.1.top; have := H2.out.1.mono (show j ≤ n by omega) (Nat.le_refl _); have := H2.out.2.2.1.bel.size; omega) hf3
      have HN : Hid (MkRow W3 g n (j + 1) D L H ∧ Fr g (H n) w W3) := ⟨H2.out.1.next hlt HF.out, H2.out.2.1.trans (by have := H2.out.1.top; omega) (HF.out.wide (by omega) hjn)⟩
      have hb1 : kap (D j).nd (q + 3 + (D j).ln) (D j).m ≤ k0 + 3 * (j + 1) + 4 * recsTo D (j + 1) := by rw [recsTo_succ]; omega
      clear H2 HF hf3 d4
      go_wp2
      go_roundw
      case rel => exact ⟨j + 1, kap (D j).nd (q + 3 + (D j).ln) (D j).m, by omega, by go_num, rfl, by omega, hb1, HN.out.1, HN.out.2⟩
      case measure => simp [intOf]; omega
    · obtain rfl : j = n := by omega
      have HR : Hid (Fr g (H j) w wr) := hf
      clear hm hf
      go_wp2
      go_ret
      exact ⟨⟨q, rfl, hq0, hq1⟩, HR.out⟩
end Go.Proofs.Ytokalajliphcdaa
