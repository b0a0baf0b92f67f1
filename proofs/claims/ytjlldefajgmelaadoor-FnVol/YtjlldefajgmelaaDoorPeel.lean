/-
  A statement whose order is drawn and whose last operation waits for all others: that one is cut off, and walked behind them. Plain laws.
-/
import Derived.Deep.RegionHeld3
import Derived.Test.YtjlldefajgmelaaDoorCut2
import Derived.Laws.AppendOwn
namespace Go.Proofs.YtjlldefajgmelaaDoor
open Go.RowKit

section
variable {P : Program} {md : Region.Mode} {Q : Exit → Act → World → Prop}

/-- What is asked ahead of the last operation. -/
def Peel (P : Program) (o : Oper) (Q : Exit → Act → World → Prop) : Exit → Act → World → Prop
  | .normal, a, w => o.wp P a w (fun a' w' => Q .normal a' w') Q
  | e, a, w => Q e a w

/-- All others come ahead of the last one, and none has a guard. -/
def peelOk (md : Region.Mode) (ops : Array Oper) (o : Oper) : Bool :=
  o.guard.isNone && (o.after.all fun e => !Region.binds md e || decide (e.on < ops.size)) && (List.range ops.size).all fun j =>
    (match ops[j]? with | some oj => oj.guard.isNone && oj.after.all (fun e => !Region.binds md e || decide (e.on < j)) | none => false) &&
    ((o.after.any fun e => Region.binds md e && e.on == j) || (List.range ops.size).any fun k => decide (j < k) && (match ops[k]? with | some ok => ok.after.any (fun e => Region.binds md e && e.on == j) | none => false))

structure PeelOk (md : Region.Mode) (ops : Array Oper) (o : Oper) : Prop where
  og : o.guard = none
  oa : ∀ e ∈ o.after, Region.binds md e = true → e.on < ops.size
  gs : ∀ (j : Nat) (oj : Oper), ops[j]? = some oj → oj.guard = none
  lt : ∀ (j : Nat) (oj : Oper), ops[j]? = some oj → ∀ e ∈ oj.after, Region.binds md e = true → e.on < j
  cov : ∀ j, j < ops.size → (∃ e ∈ o.after, Region.binds md e = true ∧ e.on = j) ∨ ∃ (k : Nat) (ok : Oper), j < k ∧ ops[k]? = some ok ∧ ∃ e ∈ ok.after, Region.binds md e = true ∧ e.on = j

theorem peelOk_spec {ops : Array Oper} {o : Oper} (h : peelOk md ops o = true) : PeelOk md ops o := by
  unfold peelOk at h
  simp only [Bool.and_eq_true, List.all_eq_true, List.mem_range] at h
  obtain ⟨⟨h1, h2⟩, h3⟩ := h
  have aux : ∀ (j : Nat) (oj : Oper), ops[j]? = some oj → oj.guard = none ∧ ∀ e ∈ oj.after, Region.binds md e = true → e.on < j := fun j oj hj => by
    have hlt : j < ops.size := (Array.getElem?_eq_some_iff.1 hj).1
    have := (h3 j hlt).1
    rw [hj] at this
    simp only [Bool.and_eq_true, Array.all_eq_true_iff_forall_mem, Bool.or_eq_true, Bool.not_eq_true', decide_eq_true_eq] at this
    exact ⟨by simpa using this.1, fun e he hb => (this.2 e he).resolve_left (by simp [hb])⟩
  refine ⟨by simpa using h1, fun e he hb => ?_, fun j oj hj => (aux j oj hj).1, fun j oj hj => (aux j oj hj).2, fun j hj => ?_⟩
  · simp only [Array.all_eq_true_iff_forall_mem, Bool.or_eq_true, Bool.not_eq_true', decide_eq_true_eq] at h2
    exact (h2 e he).resolve_left (by simp [hb])
  · have := (h3 j hj).2
    simp only [Bool.or_eq_true, Array.any_eq_true', Bool.and_eq_true, beq_iff_eq, List.any_eq_true, List.mem_range, decide_eq_true_eq] at this
    rcases this with ⟨e, he, hb, hon⟩ | ⟨k, hk, hjk, hm⟩
    · exact Or.inl ⟨e, he, hb, hon⟩
    · cases hok : ops[k]? with
      | none => rw [hok] at hm; cases hm
      | some ok =>
        rw [hok] at hm
        simp only [Array.any_eq_true', Bool.and_eq_true, beq_iff_eq] at hm
        obtain ⟨e, he, hb, hon⟩ := hm
        exact Or.inr ⟨k, ok, hjk, hok, e, he, hb, hon⟩

/-- What has come up, has so behind what it waits for. -/
def ListedOk (md : Region.Mode) (ops : Array Oper) (listed : Array Bool) : Prop :=
  listed.size = ops.size ∧ ∀ (j : Nat) (oj : Oper), ops[j]? = some oj → listed.getD j false = true → ∀ e ∈ oj.after, Region.binds md e = true → listed.getD e.on false = true

theorem getD_both {l : Array Bool} {j : Nat} (hj : j < l.size) (b : Bool) : l.getD j b = l[j] := by simp [hj]

theorem listed_all {ops : Array Oper} {o : Oper} (h : PeelOk md ops o) {listed : Array Bool} (hv : ListedOk md ops listed) (ho : ∀ e ∈ o.after, Region.binds md e = true → listed.getD e.on false = true) : ∀ d j, j < ops.size → ops.size - j ≤ d → listed.getD j false = true
  | 0, j, hj, hd => by omega
  | d + 1, j, hj, hd => by
    rcases h.cov j hj with ⟨e, he, hb, rfl⟩ | ⟨k, ok, hjk, hok, e, he, hb, rfl⟩
    · exact ho e he hb
    · have hk : k < ops.size := (Array.getElem?_eq_some_iff.1 hok).1
      exact hv.2 k ok hok (listed_all h hv ho d k hk (by omega)) e he hb

theorem ready_nil_all {ops : Array Oper} {o : Oper} (h : PeelOk md ops o) {listed : Array Bool} (hv : ListedOk md ops listed) (hr : Region.ready md ops listed = []) : ∀ j, j < ops.size → listed.getD j false = true := by
  intro j
  induction j using Nat.strongRecOn with
  | _ j ih =>
    intro hj
    cases hb : listed.getD j false with
    | true => rfl
    | false =>
      exfalso
      have hjl : j < listed.size := by rw [hv.1]; exact hj
      have : j ∈ Region.ready md ops listed := mem_ready.2 ⟨by rw [getD_both hjl] at hb ⊢; exact hb, ops[j], by simp [hj], fun e he hbn => ih e.on (h.lt j ops[j] (by simp [hj]) e he hbn) (Nat.lt_trans (h.lt j ops[j] (by simp [hj]) e he hbn) hj)⟩
      rw [hr] at this
      cases this

theorem listed_push {l : Array Bool} {j : Nat} (b : Bool) (hj : j < l.size) : (l.push false).getD j b = l.getD j b := by
  simp [Array.getElem_push, hj, Nat.lt_succ_of_lt hj]

theorem listed_push_last {l : Array Bool} (b : Bool) : (l.push false).getD l.size b = false := by simp

theorem wpOp_peel {ops : Array Oper} {o : Oper} (h : PeelOk md ops o) {i : Nat} (hi : i < ops.size) {K K' : Act → World → Prop} (hK : ∀ a w, K a w → K' a w) {a : Act} {w : World} (hh : wpOp P ops (Peel P o Q) i K a w) : wpOp P (ops.push o) Q i K' a w := by
  have e : (ops.push o)[i]? = ops[i]? := by rw [Array.getElem?_push]; simp [Nat.ne_of_lt hi]
  unfold wpOp at *
  rw [e]
  have hoi : ops[i]? = some ops[i] := by simp [hi]
  simp only [hoi] at hh ⊢
  have hg := h.gs i _ hoi
  have hw : ∀ y, Region.wanted ops[i] y = true := fun y => by simp [Region.wanted, hg]
  simp only [hw, if_true] at hh ⊢
  rcases hh with hh | ⟨h1, h2⟩
  · refine Or.inl ?_
    unfold Oper.wp at *
    generalize (execOp a.eval ops[i]).run P w = r at *
    cases r with
    | ok n w' =>
      cases n <;> simp only [Oper.upon] at hh ⊢
      case value v => exact hK _ _ hh
      case skip => exact hK _ _ hh
      case defer d => exact hK _ _ hh
      case enter f args =>
        refine Calls.mono hh fun e w'' he => ?_
        cases e with
        | returned u => exact hK _ _ he
        | panicked c => exact he
        | outgrown => exact he
      case row row args => exact Rows.mono hh fun u w'' he => hK _ _ he
    | halt x w' =>
      cases x <;> simp only [Oper.upon] at hh ⊢
      case panic u => exact hh
  · exact Or.inr ⟨h1, h2⟩

theorem wpAny_peel {ops : Array Oper} {o : Oper} (h : PeelOk md ops o) : ∀ (fuel : Nat) (listed : Array Bool) (a : Act) (w : World), ListedOk md ops listed → wpAny P md ops (Peel P o Q) fuel listed a w → wpAny P md (ops.push o) Q (fuel + 1) (listed.push false) a w := by
  intro fuel
  have lastOp : (ops.push o)[ops.size]? = some o := by simp
  have lastReady : ∀ listed, ListedOk md ops listed → Region.ready md ops listed = [] → ops.size ∈ Region.ready md (ops.push o) (listed.push false) := fun listed hv hr =>
    mem_ready.2 ⟨by rw [← hv.1]; exact listed_push_last _, o, lastOp, fun e he hb => by
      have := h.oa e he hb
      rw [listed_push _ (by rw [hv.1]; exact this)]
      exact ready_nil_all h hv hr e.on this⟩
  have readyOld : ∀ listed i, ListedOk md ops listed → i < ops.size → i ∈ Region.ready md (ops.push o) (listed.push false) → i ∈ Region.ready md ops listed := fun listed i hv hi hr => by
    rw [mem_ready] at hr ⊢
    obtain ⟨h0, oi, hoi, hall⟩ := hr
    rw [Array.getElem?_push] at hoi
    simp only [Nat.ne_of_lt hi, if_false] at hoi
    exact ⟨by rw [listed_push _ (by rw [hv.1]; exact hi)] at h0; exact h0, oi, hoi, fun e he hb => by
      have := h.lt i oi hoi e he hb
      rw [← hall e he hb, listed_push _ (by rw [hv.1]; omega)]⟩
  have doneLast : ∀ (f : Nat) listed a w, ListedOk md ops listed → Region.ready md ops listed = [] → Peel P o Q .normal a w → wpOp P (ops.push o) Q ops.size (wpAny P md (ops.push o) Q f ((listed.push false).setIfInBounds ops.size true)) a w := fun f listed a w hv hr hp => by
    unfold wpOp
    simp only [lastOp]
    have hw : Region.wanted o (yielded (ops.push o) a.tmps) = true := by simp [Region.wanted, h.og]
    simp only [hw, if_true]
    refine Or.inl (Oper.wp_mono (fun a' w' hq => wpAny_done ?_ hq f) hp)
    have hall := ready_nil_all h hv hr
    cases hrr : Region.ready md (ops.push o) ((listed.push false).setIfInBounds ops.size true) with
    | nil => rfl
    | cons x xs =>
      exfalso
      have hx : x ∈ Region.ready md (ops.push o) ((listed.push false).setIfInBounds ops.size true) := by rw [hrr]; simp
      obtain ⟨h0, ox, hox, _⟩ := mem_ready.1 hx
      have hxl : x < ops.size + 1 := by have := (Array.getElem?_eq_some_iff.1 hox).1; simpa using this
      have hsz := hv.1
      by_cases e : x = ops.size
      · subst e; simp [hsz] at h0
      · have hx' : x < ops.size := by omega
        rw [getD_set_ne true (Ne.symm e), listed_push _ (by omega)] at h0
        have := hall x hx'
        rw [getD_both (by omega)] at h0 this
        rw [h0] at this
        cases this
  have setPush : ∀ (listed : Array Bool) i, listed.size = ops.size → i < ops.size → (listed.push false).setIfInBounds i true = (listed.setIfInBounds i true).push false := fun listed i hs hi => by
    apply Array.ext_getElem?
    intro j
    by_cases e : j = i
    · subst e
      rw [Array.getElem?_push, Array.getElem?_setIfInBounds]
      simp [hs, Nat.ne_of_lt hi, hi, Nat.lt_succ_of_lt hi]
    · rw [Array.getElem?_push, Array.getElem?_setIfInBounds, if_neg (Ne.symm e), Array.getElem?_push, Array.size_setIfInBounds, Array.getElem?_setIfInBounds, if_neg (Ne.symm e)]
  have okSet : ∀ listed i, ListedOk md ops listed → i ∈ Region.ready md ops listed → ListedOk md ops (listed.setIfInBounds i true) := fun listed i hv hr => by
    obtain ⟨h0, oi, hoi, hall⟩ := mem_ready.1 hr
    refine ⟨by simpa using hv.1, fun j oj hj hl e he hb => ?_⟩
    by_cases ej : j = i
    · subst ej
      rw [hoi] at hj
      cases hj
      exact getD_set_true (hall e he hb)
    · rw [getD_set_ne false (Ne.symm ej)] at hl
      exact getD_set_true (hv.2 j oj hj hl e he hb)
  induction fuel with
  | zero =>
    intro listed a w hv hh
    obtain ⟨hr, hp⟩ := hh
    refine ⟨fun hn => ?_, fun i hi => ?_⟩
    · have := lastReady listed hv hr
      rw [hn] at this
      cases this
    · by_cases e : i = ops.size
      · subst e; exact doneLast 0 listed a w hv hr hp
      · have hlt : i < ops.size := by
          obtain ⟨_, oi, hoi, _⟩ := mem_ready.1 hi
          have := (Array.getElem?_eq_some_iff.1 hoi).1
          simp at this; omega
        have := readyOld listed i hv hlt hi
        rw [hr] at this
        cases this
  | succ fuel ih =>
    intro listed a w hv hh
    obtain ⟨hn, hstep⟩ := hh
    refine ⟨fun hnil => ?_, fun i hi => ?_⟩
    · exfalso
      cases hr : Region.ready md ops listed with
      | nil =>
        have := lastReady listed hv hr
        rw [hnil] at this
        cases this
      | cons x xs =>
        have hx : x ∈ Region.ready md ops listed := by rw [hr]; simp
        obtain ⟨h0, ox, hox, hall⟩ := mem_ready.1 hx
        have hxl : x < ops.size := (Array.getElem?_eq_some_iff.1 hox).1
        have : x ∈ Region.ready md (ops.push o) (listed.push false) := mem_ready.2 ⟨by rw [listed_push _ (by rw [hv.1]; exact hxl)]; exact h0, ox, by rw [Array.getElem?_push]; simp [Nat.ne_of_lt hxl, hox], fun e he hb => by
          have := h.lt x ox hox e he hb
          rw [listed_push _ (by rw [hv.1]; omega)]
          exact hall e he hb⟩
        rw [hnil] at this
        cases this
    · by_cases e : i = ops.size
      · subst e
        have hall : ∀ e ∈ o.after, Region.binds md e = true → listed.getD e.on false = true := fun e he hb => by
          obtain ⟨_, oi, hoi, hal⟩ := mem_ready.1 hi
          rw [lastOp] at hoi
          cases hoi
          rw [← hal e he hb, listed_push _ (by rw [hv.1]; exact h.oa e he hb)]
        have hr : Region.ready md ops listed = [] := by
          cases hrr : Region.ready md ops listed with
          | nil => rfl
          | cons x xs =>
            exfalso
            have hx : x ∈ Region.ready md ops listed := by rw [hrr]; simp
            obtain ⟨h0, ox, hox, _⟩ := mem_ready.1 hx
            have hxl : x < ops.size := (Array.getElem?_eq_some_iff.1 hox).1
            have := listed_all h hv hall ops.size x hxl (by omega)
            rw [getD_both (by rw [hv.1]; exact hxl)] at h0 this
            rw [h0] at this
            cases this
        exact doneLast (fuel + 1) listed a w hv hr (hn hr)
      · have hlt : i < ops.size := by
          obtain ⟨_, oi, hoi, _⟩ := mem_ready.1 hi
          have := (Array.getElem?_eq_some_iff.1 hoi).1
          simp at this; omega
        have hi' := readyOld listed i hv hlt hi
        refine wpOp_peel h hlt (fun a' w' hh => ?_) (hstep i hi')
        rw [setPush listed i hv.1 hlt]
        exact ih _ a' w' (okSet listed i hv hi') hh

theorem push_pop {ops : Array Oper} {o : Oper} (h : ops.back? = some o) : ops.pop.push o = ops := by
  rcases ops with ⟨l⟩
  rcases List.eq_nil_or_concat l with rfl | ⟨l', x, rfl⟩
  · simp at h
  · simp at h; subst h; simp

/-- The last operation is cut off; of the others a condition S on the world holds till they have all come up. -/
theorem wp_region_peel {id : Nat} {ops : Array Oper} {a : Act} {w : World} (S : World → Prop) (o : Oper) (hm : P.follows .mixedOrders = true) (hb : ops.back? = some o) (hok : peelOk .any ops.pop o = true)
    (hS : S w.drew) (h : S w.drew → wpAnyH P .any ops.pop (Peel P o Q) S ops.pop.size (Array.replicate ops.pop.size false) a w.drew) : (Code.region id ops true).wp P Q a w := by
  refine wp_region_any hm ?_
  have hp := push_pop hb
  have := wpAny_peel (Q := Q) (P := P) (peelOk_spec hok) ops.pop.size (Array.replicate ops.pop.size false) a w.drew ⟨by simp, fun j oj hj hl e he hbn => by
    rw [Array.getD_eq_getD_getElem?, Array.getElem?_replicate] at hl
    split at hl <;> cases hl⟩ (wpAny_of_held _ _ _ _ (h hS))
  have e1 : (Array.replicate ops.pop.size false).push false = Array.replicate ops.size false := by
    rw [← hp]; simp [Array.replicate_succ]
  have e2 : ops.pop.size + 1 = ops.size := by rw [← hp]; simp
  rw [hp, e1, e2] at this
  exact this

/-- Take number i first, where the last operation is cut off. -/
theorem peel_take {ops : Array Oper} {o : Oper} {S : World → Prop} {i : Nat} {oi : Oper} {v : Value} {fuel : Nat} {listed : Array Bool} {a : Act} {w : World} (hQ : ∀ c (a : Act) d v w, Q (.panic c) (a.put d v) w → Q (.panic c) a w) (hS : S w)
    (hi : ops[i]? = some oi) (hs : Region.noSelect ops = true) (hf : Region.free md ops listed i = true) (hr : (Region.ready md ops listed).contains i = true) (hw : Region.wanted oi (yielded ops a.tmps) = true) (hy : ∀ w, S w → (execOp a.eval oi).run P w = .ok (.value v) w)
    (h : wpAnyH P md ops (Peel P o Q) S fuel (listed.setIfInBounds i true) (a.put oi.dst v) w) : wpAnyH P md ops (Peel P o Q) S (fuel + 1) listed a w :=
  wpAnyH_take hi hs hf hr (fun c a w h => hQ c a _ _ w h) (Or.inl ⟨hw, hy⟩) hS h

/-- At a step of a drawn region: an append to a row of one's own. -/
theorem step_append_own (w : World) {ops : Array Oper} {o : Oper} {a : Act} {K : Act → World → Prop} {E : Prop} (hgd : o.guard = none) (s x : Operand) (t : TypeId)
    (ho : o.op = .call { callee := .builtin .append, args := #[s, x], argTypes := #[t, t] })
    (base : Nat) (e : TypeId) (i : TypeInfo) (z : Value) (size bytes : Nat) (ht : P.underlying t = some (.slice e)) (hi : P.info? e = some i) (hz : i.zero = some z)
    (hsize : i.size = size) (hby : i.bytes = bytes) (hzs : z.cells.size = size) (hsz : 0 < size)
    (v : Value) (n : Nat) (xs : List Value) (hs : a.eval s = v) (hown : w.ownsRow base e size v n xs)
    (ad : Addr) (m c : Nat) (news : List Value) (hx : a.eval x = .slice (some ad) m c) (hl : news.length = m * size) (hnews : ∀ j u, news[j]? = some u → w.cell? (ad.add j) = some u) (h1 : ∀ u ∈ news, u.oneCell' = true)
    (h63 : n + m ≤ maxLen) (hbytes : (n + m) * bytes ≤ 140737488355328) (hbase : base ≤ w.heap.size)
    (h : ∀ v' w', w'.ownsRow base e size v' (n + m) (xs ++ news) → w.grownBy w' v.ownBlock → (v' = .slice none 0 0 ↔ v = .slice none 0 0 ∧ m = 0) → K (a.put o.dst v') w') :
    if Region.wanted o (yielded ops a.tmps) = true then Oper.wp P o a w K Q else E := by
  have hw : Region.wanted o (yielded ops a.tmps) = true := by simp [Region.wanted, hgd]
  rw [if_pos hw]
  exact wp_append_own w s x t ho base e i z size bytes ht hi hz hsize hby hzs hsz v n xs hs hown ad m c news hx hl hnews h1 h63 hbytes hbase h
end
end Go.Proofs.YtjlldefajgmelaaDoor
