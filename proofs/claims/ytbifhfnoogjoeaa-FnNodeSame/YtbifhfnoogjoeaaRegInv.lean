/-
  A statement whose order is drawn, walked operation by operation: what is known of what has come up is kept by whatever comes next. Plain laws.
-/
import Derived.Test.YtbifhfnoogjoeaaPeel
namespace Go.Proofs.Ytbifhfnoogjoeaa
open Go.RowKit
set_option linter.unusedVariables false

section
variable {P : Program} {md : Region.Mode} {Q : Exit → Act → World → Prop} {ops : Array Oper}

/-- One more has come up. -/
def lset (L : Nat → Bool) (i : Nat) : Nat → Bool := fun j => j == i || L j

theorem lset_same (L : Nat → Bool) (i : Nat) : lset L i i = true := by simp [lset]
theorem lset_ne (L : Nat → Bool) {i j : Nat} (h : j ≠ i) : lset L i j = L j := by simp [lset, h]

theorem count_set_true : ∀ (l : List Bool) (i : Nat), l[i]? = some false → (l.set i true).count false + 1 = l.count false
  | [], i, h => by simp at h
  | b :: l, 0, h => by simp at h; subst h; simp
  | b :: l, i + 1, h => by
    have := count_set_true l i (by simpa using h)
    cases b <;> simp <;> omega

theorem ready_listed {listed : Array Bool} {i : Nat} (h : i ∈ Region.ready md ops listed) : listed.toList[i]? = some false := by
  obtain ⟨h0, _⟩ := mem_ready.1 h
  rcases Nat.lt_or_ge i listed.size with hi | hi
  · rw [getD_both hi] at h0
    simp [hi, h0]
  · simp [Array.getD, Nat.not_lt.2 hi] at h0

theorem wpAny_inv (hlt : ∀ (j : Nat) (oj : Oper), ops[j]? = some oj → ∀ e ∈ oj.after, Region.binds md e = true → e.on < j) (I : (Nat → Bool) → Act → World → Prop)
    (step : ∀ (i : Nat) (o : Oper), ops[i]? = some o → ∀ L a w, L i = false → (∀ e ∈ o.after, Region.binds md e = true → L e.on = true) → I L a w → ∀ K : Act → World → Prop, (∀ a' w', I (lset L i) a' w' → K a' w') →
      if Region.wanted o (yielded ops a.tmps) = true then Oper.wp P o a w K Q else K (a.put o.dst undef) w)
    (fin : ∀ L a w, (∀ i, i < ops.size → L i = true) → I L a w → Q .normal a w) :
    ∀ (fuel : Nat) (listed : Array Bool) (a : Act) (w : World), listed.size = ops.size → listed.toList.count false ≤ fuel → I (fun j => listed.getD j false) a w → wpAny P md ops Q fuel listed a w := by
  have hfin : ∀ (listed : Array Bool) (a : Act) (w : World), listed.size = ops.size → I (fun j => listed.getD j false) a w → Region.ready md ops listed = [] → Q .normal a w := fun listed a w hs hI hr => by
    refine fin _ a w ?_ hI
    intro j
    induction j using Nat.strongRecOn with
    | _ j ih =>
      intro hj
      show listed.getD j false = true
      cases hb : listed.getD j false with
      | true => rfl
      | false =>
        exfalso
        have hjl : j < listed.size := by rw [hs]; exact hj
        have : j ∈ Region.ready md ops listed := mem_ready.2 ⟨by rw [getD_both hjl] at hb ⊢; exact hb, ops[j], by simp [hj], fun e he hbn => ih e.on (hlt j ops[j] (by simp [hj]) e he hbn) (Nat.lt_trans (hlt j ops[j] (by simp [hj]) e he hbn) hj)⟩
        rw [hr] at this
        cases this
  intro fuel
  induction fuel with
  | zero =>
    intro listed a w hs hc hI
    have hr : Region.ready md ops listed = [] := by
      rw [List.eq_nil_iff_forall_not_mem]
      intro i hi
      have h1 := List.mem_of_getElem? (ready_listed hi)
      have h2 := List.count_pos_iff.2 h1
      omega
    exact ⟨hr, hfin listed a w hs hI hr⟩
  | succ fuel ih =>
    intro listed a w hs hc hI
    refine ⟨hfin listed a w hs hI, fun i hi => ?_⟩
    obtain ⟨h0, o, ho, hall⟩ := mem_ready.1 hi
    have hil : i < ops.size := (Array.getElem?_eq_some_iff.1 ho).1
    have hill : i < listed.size := by omega
    have h0' : listed.getD i false = false := by rw [getD_both hill] at h0 ⊢; exact h0
    have hst := step i o ho (fun j => listed.getD j false) a w h0' hall hI (wpAny P md ops Q fuel (listed.setIfInBounds i true)) (fun a' w' hI' => ih _ a' w' (by simp [hs]) (by
      have := count_set_true listed.toList i (ready_listed hi)
      rw [Array.toList_setIfInBounds]
      omega) (by
      have e : (fun j => (listed.setIfInBounds i true).getD j false) = lset (fun j => listed.getD j false) i := by
        funext j
        by_cases hj : j = i
        · subst hj; rw [lset_same]; simp [hill]
        · rw [lset_ne _ hj]; simp [Ne.symm hj]
      rw [e]; exact hI'))
    unfold wpOp
    simp only [ho]
    split
    · rename_i hw; rw [if_pos hw] at hst; exact Or.inl hst
    · rename_i hw; rw [if_neg hw] at hst; exact hst
theorem wpAnyH_inv {S : World → Prop} (hlt : ∀ (j : Nat) (oj : Oper), ops[j]? = some oj → ∀ e ∈ oj.after, Region.binds md e = true → e.on < j) (I : (Nat → Bool) → Act → World → Prop)
    (hS : ∀ L a w, I L a w → S w)
    (step : ∀ (i : Nat) (o : Oper), ops[i]? = some o → ∀ L a w, L i = false → (∀ e ∈ o.after, Region.binds md e = true → L e.on = true) → I L a w → ∀ K : Act → World → Prop, (∀ a' w', I (lset L i) a' w' → K a' w') →
      if Region.wanted o (yielded ops a.tmps) = true then Oper.wp P o a w K Q else K (a.put o.dst undef) w)
    (fin : ∀ L a w, (∀ i, i < ops.size → L i = true) → I L a w → Q .normal a w) :
    ∀ (fuel : Nat) (listed : Array Bool) (a : Act) (w : World), listed.size = ops.size → listed.toList.count false ≤ fuel → I (fun j => listed.getD j false) a w → wpAnyH P md ops Q S fuel listed a w := by
  have hfin : ∀ (listed : Array Bool) (a : Act) (w : World), listed.size = ops.size → I (fun j => listed.getD j false) a w → Region.ready md ops listed = [] → Q .normal a w := fun listed a w hs hI hr => by
    refine fin _ a w ?_ hI
    intro j
    induction j using Nat.strongRecOn with
    | _ j ih =>
      intro hj
      show listed.getD j false = true
      cases hb : listed.getD j false with
      | true => rfl
      | false =>
        exfalso
        have hjl : j < listed.size := by rw [hs]; exact hj
        have : j ∈ Region.ready md ops listed := mem_ready.2 ⟨by rw [getD_both hjl] at hb ⊢; exact hb, ops[j], by simp [hj], fun e he hbn => ih e.on (hlt j ops[j] (by simp [hj]) e he hbn) (Nat.lt_trans (hlt j ops[j] (by simp [hj]) e he hbn) hj)⟩
        rw [hr] at this
        cases this
  intro fuel
  induction fuel with
  | zero =>
    intro listed a w hs hc hI
    have hr : Region.ready md ops listed = [] := by
      rw [List.eq_nil_iff_forall_not_mem]
      intro i hi
      have h1 := List.mem_of_getElem? (ready_listed hi)
      have h2 := List.count_pos_iff.2 h1
      omega
    exact ⟨hr, hfin listed a w hs hI hr⟩
  | succ fuel ih =>
    intro listed a w hs hc hI
    refine ⟨hfin listed a w hs hI, fun i hi => ?_⟩
    obtain ⟨h0, o, ho, hall⟩ := mem_ready.1 hi
    have hil : i < ops.size := (Array.getElem?_eq_some_iff.1 ho).1
    have hill : i < listed.size := by omega
    have h0' : listed.getD i false = false := by rw [getD_both hill] at h0 ⊢; exact h0
    have hst := step i o ho (fun j => listed.getD j false) a w h0' hall hI (fun a' w' => S w' ∧ wpAnyH P md ops Q S fuel (listed.setIfInBounds i true) a' w') (fun a' w' hI' => ⟨hS _ _ _ hI', ih _ a' w' (by simp [hs]) (by
      have := count_set_true listed.toList i (ready_listed hi)
      rw [Array.toList_setIfInBounds]
      omega) (by
      have e : (fun j => (listed.setIfInBounds i true).getD j false) = lset (fun j => listed.getD j false) i := by
        funext j
        by_cases hj : j = i
        · subst hj; rw [lset_same]; simp [hill]
        · rw [lset_ne _ hj]; simp [Ne.symm hj]
      rw [e]; exact hI')⟩)
    unfold wpOp
    simp only [ho]
    split
    · rename_i hw; rw [if_pos hw] at hst; exact Or.inl hst
    · rename_i hw; rw [if_neg hw] at hst; exact hst
end

/-- The places ds of a frame hold these values. -/
def upd (a : Act) (ds : List Nat) (v : Nat → Value) : Act := { a with tmps := ds.foldl (fun t d => t.setIfInBounds d (v d)) a.tmps }

theorem upd_size (ds : List Nat) (v : Nat → Value) : ∀ t : Array Value, (ds.foldl (fun t d => t.setIfInBounds d (v d)) t).size = t.size := by
  induction ds with
  | nil => intro t; rfl
  | cons d ds ih => intro t; rw [List.foldl_cons, ih]; simp

theorem upd_get (ds : List Nat) (v : Nat → Value) : ∀ (t : Array Value) (j : Nat), (ds.foldl (fun t d => t.setIfInBounds d (v d)) t)[j]? = if j ∈ ds ∧ j < t.size then some (v j) else t[j]? := by
  induction ds with
  | nil => intro t j; simp
  | cons d ds ih =>
    intro t j
    rw [List.foldl_cons, ih, Array.size_setIfInBounds, Array.getElem?_setIfInBounds]
    by_cases hj : j < t.size
    · by_cases h1 : j ∈ ds
      · simp [h1, hj]
      · by_cases h2 : j = d
        · subst h2; simp [h1, hj]
        · simp [h1, h2, Ne.symm h2]
    · have hn : t[j]? = none := Array.getElem?_eq_none (by omega)
      by_cases h2 : d = j
      · subst h2; simp [hj]
      · simp [hj, h2]

/-- One of them is put. -/
def vset (v : Nat → Value) (d : Nat) (x : Value) : Nat → Value := fun j => if j = d then x else v j

theorem vset_same (v : Nat → Value) (d : Nat) (x : Value) : vset v d x d = x := by simp [vset]
theorem vset_ne (v : Nat → Value) {d j : Nat} (x : Value) (h : j ≠ d) : vset v d x j = v j := by simp [vset, h]

theorem upd_put (a : Act) (ds : List Nat) (v : Nat → Value) (d : Nat) (x : Value) (hd : d ∈ ds) : (upd a ds v).put (some d) x = upd a ds (vset v d x) := by
  unfold upd Act.put
  simp only [Act.mk.injEq, and_true]
  apply Array.ext_getElem?
  intro j
  rw [Array.getElem?_setIfInBounds, upd_get, upd_get, upd_size]
  by_cases hj : j < a.tmps.size
  · by_cases h : d = j
    · subst h; simp [hj, hd, vset]
    · simp [h, Ne.symm h, vset]
  · have hn : a.tmps[j]? = none := Array.getElem?_eq_none (by omega)
    by_cases h : d = j
    · subst h; simp [hj]
    · simp [hj, h]

theorem upd_eval_in (a : Act) (ds : List Nat) (v : Nat → Value) (t : Nat) (ht : t ∈ ds) (hs : t < a.tmps.size) : (upd a ds v).eval (.tmp t) = v t := by
  have := upd_get ds v a.tmps t
  rw [if_pos ⟨ht, hs⟩] at this
  unfold upd Act.eval
  simp [Array.getD_eq_getD_getElem?, this]

theorem upd_eval_out (a : Act) (ds : List Nat) (v : Nat → Value) (t : Nat) (ht : t ∉ ds) : (upd a ds v).eval (.tmp t) = a.eval (.tmp t) := by
  have := upd_get ds v a.tmps t
  rw [if_neg (fun h => ht h.1)] at this
  unfold upd Act.eval
  simp only [Array.getD_eq_getD_getElem?]
  rw [this]

theorem upd_self (a : Act) (ds : List Nat) : upd a ds (fun j => a.tmps.getD j undef) = a := by
  unfold upd
  cases a with | mk t d => ?_
  simp only [Act.mk.injEq, and_true]
  apply Array.ext_getElem?
  intro j
  rw [upd_get]
  split
  · rename_i h; simp [h.2]
  · rfl

section
variable {P : Program} {Q : Exit → Act → World → Prop}

/-- Each operation of a list keeps what is known. -/
def StepsAll (P : Program) (ops : Array Oper) (Q : Exit → Act → World → Prop) (a0 : Act) (ds : List Nat) (J : (Nat → Bool) → (Nat → Value) → World → Prop) : List Oper → Nat → Prop
  | [], _ => True
  | o :: l, k => (∀ (L : Nat → Bool) (v : Nat → Value) (w : World), L k = false → (∀ e ∈ o.after.toList, Region.binds .any e = true → L e.on = true) → J L v w → ∀ K : Act → World → Prop,
      (∀ a' v' w', a' = upd a0 ds v' → J (lset L k) v' w' → K a' w') → if Region.wanted o (yielded ops (upd a0 ds v).tmps) = true then Oper.wp P o (upd a0 ds v) w K Q else K ((upd a0 ds v).put o.dst undef) w) ∧ StepsAll P ops Q a0 ds J l (k + 1)

theorem StepsAll.get {ops : Array Oper} {a0 : Act} {ds : List Nat} {J : (Nat → Bool) → (Nat → Value) → World → Prop} : ∀ {l : List Oper} {k : Nat}, StepsAll P ops Q a0 ds J l k → ∀ (i : Nat) (o : Oper), l[i]? = some o →
    (∀ (L : Nat → Bool) (v : Nat → Value) (w : World), L (k + i) = false → (∀ e ∈ o.after.toList, Region.binds .any e = true → L e.on = true) → J L v w → ∀ K : Act → World → Prop,
      (∀ a' v' w', a' = upd a0 ds v' → J (lset L (k + i)) v' w' → K a' w') → if Region.wanted o (yielded ops (upd a0 ds v).tmps) = true then Oper.wp P o (upd a0 ds v) w K Q else K ((upd a0 ds v).put o.dst undef) w)
  | [], _, _, i, o, h => by simp at h
  | o' :: l, k, hs, 0, o, h => by simp at h; subst h; exact hs.1
  | o' :: l, k, hs, i + 1, o, h => by
    have := hs.2.get i o (by simpa using h)
    rw [show k + 1 + i = k + (i + 1) by omega] at this
    exact this

/-- Every operation waits for earlier ones alone. -/
def laterB (ops : Array Oper) : Bool := (List.range ops.size).all fun j => match ops[j]? with | some oj => oj.after.all (fun e => !Region.binds .any e || decide (e.on < j)) | none => true

theorem laterB_spec {ops : Array Oper} (h : laterB ops = true) : ∀ (j : Nat) (oj : Oper), ops[j]? = some oj → ∀ e ∈ oj.after, Region.binds .any e = true → e.on < j := fun j oj hj e he hb => by
  have hlt : j < ops.size := (Array.getElem?_eq_some_iff.1 hj).1
  unfold laterB at h
  have := List.all_eq_true.1 h j (by simpa using hlt)
  rw [hj] at this
  simp only [Array.all_eq_true_iff_forall_mem, Bool.or_eq_true, Bool.not_eq_true', decide_eq_true_eq] at this
  exact (this e he).resolve_left (by simp [hb])

theorem wp_region_inv {id : Nat} {l : List Oper} {a0 : Act} {w : World} (ds : List Nat) (J : (Nat → Bool) → (Nat → Value) → World → Prop) (hm : P.follows .mixedOrders = true) (hB : laterB l.toArray = true)
    (h0 : ∀ v, J (fun _ => false) v w.drew) (hs : StepsAll P l.toArray Q a0 ds J l 0) (fin : ∀ L v w', (∀ i, i < l.length → L i = true) → J L v w' → Q .normal (upd a0 ds v) w') : (Code.region id l.toArray true).wp P Q a0 w := by
  refine wp_region_any hm ?_
  refine wpAny_inv (laterB_spec hB) (fun L a w' => ∃ v, a = upd a0 ds v ∧ J L v w') ?_ ?_ _ _ _ _ (by simp) (by simp) ⟨fun j => a0.tmps.getD j undef, (upd_self a0 ds).symm, ?_⟩
  · rintro i o ho L a w' hi hd ⟨v, rfl, hJ⟩ K hK
    have := hs.get i o (by simpa using ho) L v w' (by simpa using hi) (fun e he hb => hd e (by simpa using he) hb) hJ K (fun a' v' w'' e h => hK a' w'' ⟨v', e, by simpa using h⟩)
    exact this
  · rintro L a w' hL ⟨v, rfl, hJ⟩
    exact fin L v w' (fun i hi => hL i (by simpa using hi)) hJ
  · have e : (fun j => (Array.replicate l.toArray.size false).getD j false) = fun _ => false := by funext j; simp [Array.getD]
    rw [e]; exact h0 _

/-- .. behind operations that were taken first. -/
theorem wpAnyH_vals {S : World → Prop} {l : List Oper} {a0 : Act} {w : World} {fuel : Nat} {listed : Array Bool} (ds : List Nat) (J : (Nat → Bool) → (Nat → Value) → World → Prop) (hB : laterB l.toArray = true) (hn : listed.size = l.length) (hc : listed.toList.count false ≤ fuel)
    (h0 : ∀ v, J (fun j => listed.getD j false) v w) (hS : ∀ L v w, J L v w → S w) (hs : StepsAll P l.toArray Q a0 ds J l 0) (fin : ∀ L v w', (∀ i, i < l.length → L i = true) → J L v w' → Q .normal (upd a0 ds v) w') : wpAnyH P .any l.toArray Q S fuel listed a0 w := by
  refine wpAnyH_inv (laterB_spec hB) (fun L a w' => ∃ v, a = upd a0 ds v ∧ J L v w') (fun L a w' ⟨v, _, h⟩ => hS L v w' h) ?_ ?_ _ _ _ _ (by simpa using hn) hc ⟨fun j => a0.tmps.getD j undef, (upd_self a0 ds).symm, h0 _⟩
  · rintro i o ho L a w' hi hd ⟨v, rfl, hJ⟩ K hK
    have := hs.get i o (by simpa using ho) L v w' (by simpa using hi) (fun e he hb => hd e (by simpa using he) hb) hJ K (fun a' v' w'' e h => hK a' w'' ⟨v', e, by simpa using h⟩)
    exact this
  · rintro L a w' hL ⟨v, rfl, hJ⟩
    exact fin L v w' (fun i hi => hL i (by simpa using hi)) hJ

/-- The places of a frame that hold rows: each with the operation that makes the row, and the one that takes it. -/
def liveAt (keys : List (Nat × Nat × Nat)) (L : Nat → Bool) (d : Nat) : Prop := ∃ j c, (d, j, c) ∈ keys ∧ L j = true ∧ L c = false
end
end Go.Proofs.Ytbifhfnoogjoeaa
