/-
  What PathRead of the program answers at every text of at most 1048576 bytes: the way of which it is the text, in new memory, and true; nothing and false, if there is none.
-/
import Derived.Test.YtgijhkcnbmcenaaNames
import Derived.Test.YtgijhkcnbmcenaaReadBase
import Derived.Test.YtgijhkcnbmcenaaOwns
import Derived.Test.YtgijhkcnbmcenaaStepIn
import Derived.Maps.AppendAt
namespace Go.Proofs.Ytgijhkcnbmcenaa
open Go.RowKit Go.Shelf
set_option linter.unusedVariables false
attribute [local go_sem] Oper.semAt_some


set_option maxRecDepth 100000 in
set_option maxHeartbeats 2000000 in
theorem implPathRead_not (s : ByteArray) (w : World) (hs : s.size ≤ 1048576) (hp : Lib.hasPrefix s.data.toList [47] = false) :
    Calls Try.prog 11 #[.string s] w fun e w' => e = .returned (.tuple #[.slice none 0 0, .bool false]) ∧ Below w.heap.size w w' := by
  refine (callsIn_wide (n := 3)).1 ?_
  refine callsIn_of_wp_marks Try.func11 rfl trivial ?_ rfl
  simp only [Try.ntmps11, List.size_toArray, List.length_cons, List.length_nil, Nat.reduceAdd, Nat.reduceSub, Array.replicate_succ, Array.replicate_zero, List.push_toArray, List.append_toArray, List.nil_append, List.cons_append]
  gi_wp2_with (refine ⟨trivial, ?_⟩; gi_at_call 27; refine (callsIn_wide.2 (Try.strings_HasPrefix s ⟨#[47]⟩ _)).mono ?_; rintro e w' ⟨rfl, rfl⟩)
  refine ⟨.tuple #[.slice none 0 0, .bool false], by simp [results, Try.results11, go_sem], rfl, ?_⟩
  exact ((Below.refl _ w).alloc (Nat.le_refl _) _).alloc (by simp) _

set_option maxRecDepth 100000 in
set_option maxHeartbeats 2000000 in
theorem implPathRead_root (s : ByteArray) (w : World) (hs : s.size ≤ 1048576) (hp : Lib.hasPrefix s.data.toList [47] = true) (hr : (s.toList == [47]) = true) :
    Calls Try.prog 11 #[.string s] w fun e w' => e = .returned (.tuple #[.slice none 0 0, .bool true]) ∧ Below w.heap.size w w' := by
  refine (callsIn_wide (n := 3)).1 ?_
  refine callsIn_of_wp_marks Try.func11 rfl trivial ?_ rfl
  simp only [Try.ntmps11, List.size_toArray, List.length_cons, List.length_nil, Nat.reduceAdd, Nat.reduceSub, Array.replicate_succ, Array.replicate_zero, List.push_toArray, List.append_toArray, List.nil_append, List.cons_append]
  gi_wp2_with (refine ⟨trivial, ?_⟩; gi_at_call 27; refine (callsIn_wide.2 (Try.strings_HasPrefix s ⟨#[47]⟩ _)).mono ?_; rintro e w' ⟨rfl, rfl⟩)
  refine ⟨.tuple #[.slice none 0 0, .bool true], by simp [results, Try.results11, go_sem], rfl, ?_⟩
  exact ((Below.refl _ w).alloc (Nat.le_refl _) _).alloc (by simp) _

/-- What the call holds between two rounds: the pieces so far, all names, at most five, in a row of its own behind the box. -/
def ReadI (B : Nat) (t : ByteArray) (w : World) (pre : List Pc) (W : World) : Prop :=
  (∃ v, Boxed W (B + 1 + 1) 23 v ∧ W.ownsRow (B + 1 + 1 + 1 + 1) 9 1 v pre.length (pre.map fun x => Value.string x.1) ∧ ((pre.map pb).all nameOk = true ∧ pre.length ≤ 5)) ∧
    (Boxed W B 23 (.slice none 0 0) ∧ (Boxed W (B + 1) 4 (.bool false) ∧ (Boxed W (B + 1 + 1 + 1) 9 (.string t) ∧ Below B w W)))
/-- What it holds where a round has left: the pieces so far are those of no way. -/
def ReadX (B : Nat) (w : World) (c : Code) (pre : List Pc) (W : World) : Prop :=
  (c = .ret ∧ ((pre.map pb).all nameOk && decide (pre.length ≤ 5)) = false) ∧ (Boxed W B 23 (.slice none 0 0) ∧ (Boxed W (B + 1) 4 (.bool false) ∧ Below B w W))

theorem readI_own (B M : Nat) (t : ByteArray) (w : World) (hw : B ≤ w.heap.size) (hM : B ≤ M) : OwnFrom M (ReadI B t w) :=
  OwnFrom.and (Own.from (holdsRow_own (B + 1 + 1 + 1 + 1) (B + 1 + 1) 23 9 1 (fun pre : List Pc => pre.length) (fun pre : List Pc => pre.map fun x => Value.string x.1) (fun (pre : List Pc) (v : Value) => (pre.map pb).all nameOk = true ∧ pre.length ≤ 5)) _)
    (OwnFrom.and (Own.from (boxed_own _ _ (fun _ : List Pc => Value.slice none 0 0)) _) (OwnFrom.and (Own.from (boxed_own _ _ (fun _ : List Pc => Value.bool false)) _) (OwnFrom.and (Own.from (boxed_own _ _ (fun _ : List Pc => Value.string t)) _) (ownFrom_below hw hM))))
theorem readX_own (B M : Nat) (w : World) (c : Code) (hw : B ≤ w.heap.size) (hM : B ≤ M) : OwnFrom M (ReadX B w c) :=
  OwnFrom.and (ownFrom_pure _ (fun pre : List Pc => c = .ret ∧ ((pre.map pb).all nameOk && decide (pre.length ≤ 5)) = false))
    (OwnFrom.and (Own.from (boxed_own _ _ (fun _ : List Pc => Value.slice none 0 0)) _) (OwnFrom.and (Own.from (boxed_own _ _ (fun _ : List Pc => Value.bool false)) _) (ownFrom_below hw hM)))

theorem Boxed.belowK {W W' : World} {B : Nat} {t : TypeId} {v : Value} (h : Boxed W B t v) (hb : Below W.heap.size W W') : Boxed W' B t v := (hb.block B h.lt).trans h

theorem keeps_below {W W' : World} (hb : Below W.heap.size W W') : KeepsOthers W W' := ⟨hb.size, fun k o hk _ => (hb.block k (Array.getElem?_eq_some_iff.1 hk).1).trans hk⟩

theorem own_ge {W : World} {n₀ : Nat} {e : TypeId} {size k : Nat} {v : Value} {xs : List Value} (h : W.ownsRow n₀ e size v k xs) : ∀ j, v.ownBlock = some j → n₀ ≤ j := by
  intro j ej
  rcases h.2 with ⟨rfl, _⟩ | ⟨g, cap, cur, rfl, hb, _, _⟩
  · simp [Value.ownBlock] at ej
  · obtain rfl : g = j := by simpa [Value.ownBlock] using ej
    exact hb

theorem own_cells {W : World} {n₀ : Nat} {e : TypeId} {size k : Nat} {v : Value} {xs : List Value} (h : W.ownsRow n₀ e size v k xs) : ∀ (j : Nat) (o : Obj), v.ownBlock = some j → W.heap[j]? = some o → o.isCells = true := by
  intro j o ej hj
  rcases h.2 with ⟨rfl, _⟩ | ⟨g, cap, cur, rfl, _, hgb, _⟩
  · simp [Value.ownBlock] at ej
  · obtain rfl : g = j := by simpa [Value.ownBlock] using ej
    rw [hgb] at hj; cases hj; rfl

/-- What a round that goes on leaves. -/
theorem read_step {B M : Nat} {t : ByteArray} {w W wc w1 : World} {pre : List Pc} {x : Pc} {v v' : Value} {tmp : Obj}
    (hv : Boxed W (B + 1 + 1) 23 v) (hrow : W.ownsRow (B + 1 + 1 + 1 + 1) 9 1 v pre.length (pre.map fun x => Value.string x.1)) (hall : (pre.map pb).all nameOk = true) (hlen : pre.length < 5) (hx : nameOk (pb x) = true)
    (h0 : Boxed W B 23 (.slice none 0 0)) (h1 : Boxed W (B + 1) 4 (.bool false)) (h3 : Boxed W (B + 1 + 1 + 1) 9 (.string t)) (hB : Below B w W)
    (hbc : Below W.heap.size W wc)
    (hown : w1.ownsRow (B + 1 + 1 + 1 + 1) 9 1 v' (pre.length + 1) ((pre.map fun x => Value.string x.1) ++ [.string x.1])) (hgrow : (wc.alloc tmp).grownBy w1 v.ownBlock) :
    (Boxed w1 (B + 1 + 1) 23 v) ∧ (KeepsFrom M W (w1.setCell ⟨B + 1 + 1, 0, none⟩ v') ∧ KeepsBlock (B + 1 + 1 + 1) W (w1.setCell ⟨B + 1 + 1, 0, none⟩ v') ∧ ReadI B t w (pre ++ [x]) (w1.setCell ⟨B + 1 + 1, 0, none⟩ v')) := by
  have hge := own_ge hrow
  have kp : ∀ {k : Nat} {ty : TypeId} {u : Value}, Boxed W k ty u → k ≤ B + 1 + 1 + 1 → Boxed w1 k ty u := fun {k ty u} hb hk =>
    ((Boxed.belowK hb hbc).alloc tmp).kept hgrow (fun e => by have := hge k e.symm; omega)
  have hrc : wc.ownsRow (B + 1 + 1 + 1 + 1) 9 1 v pre.length (pre.map fun x => Value.string x.1) := by
    refine hrow.kept (row := none) ⟨hbc.os, hbc.tape, hbc.output, hbc.size, fun k hk _ => hbc.block k hk⟩ ?_
    cases hvb : v.ownBlock with
    | none => exact Or.inl rfl
    | some g => exact Or.inr (by simp)
  have hs3 := h3.lt
  have hv1 := kp hv (by omega)
  have h31 := kp h3 (Nat.le_refl _)
  refine ⟨hv1, ?_, ?_, ⟨v', hv1.set v', ?_, ?_, ?_⟩, ?_, ?_, ?_, ?_⟩
  · refine (((keeps_below hbc).trans ((KeepsOthers.alloc wc tmp).trans (KeepsOthers.of_grownBy hgrow fun j o ej hj => ?_))).trans (KeepsOthers.setCell _ _ _)).from _
    exact own_cells (hrc.alloc tmp) j o ej hj
  · have e : Boxed (w1.setCell ⟨B + 1 + 1, 0, none⟩ v') (B + 1 + 1 + 1) 9 (.string t) := h31.kept (grownBy_setCell' _ _ _) (by simp)
    exact Eq.trans e (Eq.symm h3)
  · rw [List.length_append, List.map_append]
    refine World.ownsRow.kept hown (grownBy_setCell' w1 (B + 1 + 1) v') ?_
    cases hvb : v'.ownBlock with
    | none => exact Or.inl rfl
    | some g => exact Or.inr (fun e => by have := own_ge hown g hvb; simp at e; omega)
  · rw [List.map_append, List.all_append, hall]; simp [hx]
  · rw [List.length_append]; simp; omega
  · exact (kp h0 (by omega)).kept (grownBy_setCell' _ _ _) (by simp; omega)
  · exact (kp h1 (by omega)).kept (grownBy_setCell' _ _ _) (by simp)
  · exact h31.kept (grownBy_setCell' _ _ _) (by simp)
  · have hBW : B ≤ W.heap.size := by omega
    refine (((hB.trans (hbc.mono hBW)).alloc (Nat.le_trans hBW hbc.size) tmp).grown hgrow (by have := hbc.size; simp; omega) (fun k e => by have := hge k e; omega)).setCell (p := ⟨B + 1 + 1, 0, none⟩) (by show B ≤ B + 1 + 1; omega) _

/-- What a copy of the piece leaves of what the call holds. -/
theorem read_clone {B : Nat} {t : ByteArray} {w W wc : World} {pre : List Pc} {v : Value} (h : ReadI B t w pre W) (hv : Boxed W (B + 1 + 1) 23 v)
    (hrow : W.ownsRow (B + 1 + 1 + 1 + 1) 9 1 v pre.length (pre.map fun x => Value.string x.1)) (hb : Below W.drew.heap.size W.drew wc) :
    wc.cell? ⟨B + 1 + 1, 0, none⟩ = some v ∧ wc.ownsRow (B + 1 + 1 + 1 + 1) 9 1 v pre.length (pre.map fun x => Value.string x.1) ∧ (∀ o, B + 1 + 1 + 1 + 1 ≤ (wc.alloc o).heap.size) ∧ ∀ o, (wc.alloc o).cell? ⟨B + 1 + 1, 0, none⟩ = some v := by
  have hbc : Below W.heap.size W wc := (Below.refl W.heap.size W).drew.trans hb
  have h3 := h.2.2.2.1.lt
  refine ⟨(Boxed.belowK hv hbc).cell, ?_, fun o => ?_, fun o => ((Boxed.belowK hv hbc).alloc o).cell⟩
  · refine hrow.kept (row := none) ⟨hbc.os, hbc.tape, hbc.output, hbc.size, fun k hk _ => hbc.block k hk⟩ ?_
    cases hvb : v.ownBlock with
    | none => exact Or.inl rfl
    | some g => exact Or.inr (by simp)
  · have := hbc.size; simp; omega

theorem read_go {B M : Nat} {t : ByteArray} {w W wc w1 : World} {pre : List Pc} {x : Pc} {v v' : Value} {tmp : Obj} (h : ReadI B t w pre W) (hv : Boxed W (B + 1 + 1) 23 v)
    (hrow : W.ownsRow (B + 1 + 1 + 1 + 1) 9 1 v pre.length (pre.map fun x => Value.string x.1)) (hlen : pre.length < 5) (hx : nameOk (pb x) = true) (hb : Below W.drew.heap.size W.drew wc)
    (hown : w1.ownsRow (B + 1 + 1 + 1 + 1) 9 1 v' (pre.length + 1) ((pre.map fun x => Value.string x.1) ++ [.string x.1])) (hgrow : (wc.alloc tmp).grownBy w1 v.ownBlock) :
    (Boxed w1 (B + 1 + 1) 23 v) ∧ (KeepsFrom M W (w1.setCell ⟨B + 1 + 1, 0, none⟩ v') ∧ KeepsBlock (B + 1 + 1 + 1) W (w1.setCell ⟨B + 1 + 1, 0, none⟩ v') ∧ ReadI B t w (pre ++ [x]) (w1.setCell ⟨B + 1 + 1, 0, none⟩ v')) :=
  read_step hv hrow h.1.choose_spec.2.2.1 hlen hx h.2.1 h.2.2.1 h.2.2.2.1 h.2.2.2.2 ((Below.refl W.heap.size W).drew.trans hb) hown hgrow

theorem own_base {W : World} {n₀ n₁ : Nat} {e : TypeId} {size k : Nat} {v : Value} {xs : List Value} (h : W.ownsRow n₀ e size v k xs) (hn : n₁ ≤ n₀) : W.ownsRow n₁ e size v k xs := by
  obtain ⟨h1, h2⟩ := h
  refine ⟨h1, ?_⟩
  rcases h2 with h2 | ⟨g, cap, cur, hv, hb, r⟩
  · exact Or.inl h2
  · exact Or.inr ⟨g, cap, cur, hv, Nat.le_trans hn hb, r⟩

theorem okCut_pre {Q : List (List UInt8)} {pre : List Pc} (h : pre.map pb <+: Q) (hbad : ((pre.map pb).all nameOk && decide (pre.length ≤ 5)) = false) : okCut Q = false := by
  obtain ⟨R, rfl⟩ := h
  rw [Bool.eq_false_iff]
  intro hok
  unfold okCut at hok
  rw [Bool.and_eq_true, List.all_append, Bool.and_eq_true] at hok
  have hl : pre.length ≤ 5 := by
    have := of_decide_eq_true hok.2
    simp at this
    omega
  rw [hok.1.1] at hbad
  simp [hl] at hbad

/-- At the call's end, where a round has left. -/
theorem read_gone {B D : Nat} {w W : World} (h0 : Boxed W B 23 (.slice none 0 0)) (h1 : Boxed W (B + 1) 4 (.bool false)) (hB : Below B w W) (hK : W.heap[D]? = some (.deferred (some []))) (hD : B + 1 + 1 + 1 + 1 ≤ D) :
    Boxed (W.putObj D (.deferred none)) B 23 (.slice none 0 0) ∧ Boxed (W.putObj D (.deferred none)) (B + 1) 4 (.bool false) ∧ Below B w (W.putObj D (.deferred none)) := by
  have hg := grownBy_putObj' W D (.deferred none)
  exact ⟨h0.kept hg (by simp; omega), h1.kept hg (by simp; omega), hB.grown hg (by have := h0.lt; omega) (fun k e => by cases e; omega)⟩

/-- At the call's end, where the rounds have run out. -/
theorem read_end {B D : Nat} {w W : World} {v : Value} {k : Nat} {xs : List Value} (hrow : W.ownsRow (B + 1 + 1 + 1 + 1) 9 1 v k xs) (h0 : Boxed W B 23 (.slice none 0 0)) (h1 : Boxed W (B + 1) 4 (.bool false)) (hB : Below B w W)
    (hK : W.heap[D]? = some (.deferred (some []))) (hD : B + 1 + 1 + 1 + 1 ≤ D) :
    ((W.setCell ⟨B, 0, none⟩ v).setCell ⟨B + 1, 0, none⟩ (.bool true)).heap[D]? = some (.deferred (some [])) ∧
    Boxed (((W.setCell ⟨B, 0, none⟩ v).setCell ⟨B + 1, 0, none⟩ (.bool true)).putObj D (.deferred none)) B 23 v ∧ Boxed (((W.setCell ⟨B, 0, none⟩ v).setCell ⟨B + 1, 0, none⟩ (.bool true)).putObj D (.deferred none)) (B + 1) 4 (.bool true) ∧
    (((W.setCell ⟨B, 0, none⟩ v).setCell ⟨B + 1, 0, none⟩ (.bool true)).putObj D (.deferred none)).ownsRow B 9 1 v k xs ∧ Below B w (((W.setCell ⟨B, 0, none⟩ v).setCell ⟨B + 1, 0, none⟩ (.bool true)).putObj D (.deferred none)) := by
  have hge := own_ge hrow
  have k1 : ((W.setCell ⟨B, 0, none⟩ v).setCell ⟨B + 1, 0, none⟩ (.bool true)).heap[D]? = some (.deferred (some [])) :=
    ((KeepsOthers.setCell W ⟨B, 0, none⟩ v).trans (KeepsOthers.setCell _ ⟨B + 1, 0, none⟩ _)).same D _ hK rfl
  have hg := grownBy_putObj' ((W.setCell ⟨B, 0, none⟩ v).setCell ⟨B + 1, 0, none⟩ (.bool true)) D (.deferred none)
  have a0 : Boxed ((W.setCell ⟨B, 0, none⟩ v).setCell ⟨B + 1, 0, none⟩ (.bool true)) B 23 v := (h0.set v).kept (grownBy_setCell' _ (B + 1) _) (by simp)
  have a1 : Boxed ((W.setCell ⟨B, 0, none⟩ v).setCell ⟨B + 1, 0, none⟩ (.bool true)) (B + 1) 4 (.bool true) := (h1.kept (grownBy_setCell' W B v) (by simp)).set _
  have hne : ∀ m, m < B + 1 + 1 + 1 + 1 → v.ownBlock = none ∨ v.ownBlock ≠ some m := fun m hm => by
    cases hvb : v.ownBlock with
    | none => exact Or.inl rfl
    | some g => exact Or.inr (fun e => by have := hge g hvb; simp at e; omega)
  have r1 : ((W.setCell ⟨B, 0, none⟩ v).setCell ⟨B + 1, 0, none⟩ (.bool true)).ownsRow (B + 1 + 1 + 1 + 1) 9 1 v k xs := (hrow.kept (grownBy_setCell' W B v) (hne B (by omega))).kept (grownBy_setCell' _ (B + 1) _) (hne (B + 1) (by omega))
  refine ⟨k1, a0.kept hg (by simp; omega), a1.kept hg (by simp; omega), ownsRow_putObj (own_base r1 (by omega)) _ k1 rfl, ?_⟩
  exact ((hB.setCell (p := ⟨B, 0, none⟩) (Nat.le_refl _) v).setCell (p := ⟨B + 1, 0, none⟩) (Nat.le_succ _) _).grown hg (by have := a0.lt; omega) (fun k e => by cases e; omega)

/-- Where a round leaves. -/
theorem read_leave {B M : Nat} {w W : World} {t : ByteArray} {pre : List Pc} {x : Pc} (h : ReadI B t w pre W) (_u : Unit) (hbad : (((pre ++ [x]).map pb).all nameOk && decide ((pre ++ [x]).length ≤ 5)) = false) :
    KeepsFrom M W ((W.setCell ⟨B, 0, none⟩ (.slice none 0 0)).setCell ⟨B + 1, 0, none⟩ (.bool false)) ∧ ReadX B w .ret (pre ++ [x]) ((W.setCell ⟨B, 0, none⟩ (.slice none 0 0)).setCell ⟨B + 1, 0, none⟩ (.bool false)) := by
  obtain ⟨_, h0, h1, _, hB⟩ := h
  refine ⟨((KeepsOthers.setCell _ _ _).trans (KeepsOthers.setCell _ _ _)).from _, ⟨rfl, hbad⟩, ?_, ?_, ?_⟩
  · exact (h0.set _).kept (grownBy_setCell' _ (B + 1) _) (by simp)
  · exact (h1.kept (grownBy_setCell' W B _) (by simp)).set _
  · exact (hB.setCell (p := ⟨B, 0, none⟩) (Nat.le_refl _) _).setCell (p := ⟨B + 1, 0, none⟩) (Nat.le_succ _) _

theorem row_shape {W : World} {B : Nat} {v : Value} {n : Nat} {xs : List Value} (h : W.ownsRow B 9 1 v n xs) : ∃ a cap, v = .slice a n cap := by
  rcases h.2 with ⟨rfl, rfl⟩ | ⟨g, cap, cur, rfl, _⟩
  · exact ⟨none, 0, rfl⟩
  · exact ⟨_, cap, rfl⟩

set_option maxRecDepth 100000 in
set_option maxHeartbeats 4000000 in
theorem implPathRead_way (s : ByteArray) (w : World) (hs : s.size ≤ 1048576) (hp : Lib.hasPrefix s.data.toList [47] = true) (hr : (s.toList == [47]) = false) (h1 : 1 ≤ s.size) :
    Calls Try.prog 11 #[.string s] w fun e w' => ∃ (v : Value) (ok : Bool) (L : List ByteArray), e = .returned (.tuple #[v, .bool ok]) ∧ ok = okCut (cut (bytes (s.extract 1 s.size))) ∧
      w'.ownsRow w.heap.size 9 1 v L.length (L.map Value.string) ∧ L.map bytes = (if ok = true then cut (bytes (s.extract 1 s.size)) else []) ∧ Below w.heap.size w w' := by
  obtain ⟨i0, hi, hz0, hz1, hz2⟩ := info_parts infoStr
  refine (callsIn_wide (n := 3)).1 ?_
  refine callsIn_of_wp_marks Try.func11 rfl trivial ?_ rfl
  simp only [Try.ntmps11, List.size_toArray, List.length_cons, List.length_nil, Nat.reduceAdd, Nat.reduceSub, Array.replicate_succ, Array.replicate_zero, List.push_toArray, List.append_toArray, List.nil_append, List.cons_append]
  gi_wp2_with (first | (refine ⟨trivial, ?_⟩; gi_at_call 27; refine (callsIn_wide.2 (Try.strings_HasPrefix s ⟨#[47]⟩ _)).mono ?_; rintro e w' ⟨rfl, rfl⟩) | (refine ⟨trivial, ?_⟩; gi_at_call 28; refine (names_in _ _ _).mono ?_; rintro e w' ⟨rfl, rfl⟩))
  obtain ⟨t, ht⟩ : ∃ t, t = s.extract 1 s.size := ⟨_, rfl⟩
  rw [← ht]
  have hts : t.size ≤ 1048576 := by rw [ht]; exact cut_size s hs 1 s.size
  have HT : Hid (t = s.extract 1 s.size) := ht
  clear ht
  have b0 := (((Boxed.new w 23 (.slice none 0 0)).alloc (.cells #[.bool false] 4)).alloc (.cells #[.slice none 0 0] 23)).alloc (.cells #[.string t] 9)
  have b1 := ((Boxed.new (w.alloc (.cells #[.slice none 0 0] 23)) 4 (.bool false)).alloc (.cells #[.slice none 0 0] 23)).alloc (.cells #[.string t] 9)
  have b2 := (Boxed.new ((w.alloc (.cells #[.slice none 0 0] 23)).alloc (.cells #[.bool false] 4)) 23 (.slice none 0 0)).alloc (.cells #[.string t] 9)
  have b3 := Boxed.new (((w.alloc (.cells #[.slice none 0 0] 23)).alloc (.cells #[.bool false] 4)).alloc (.cells #[.slice none 0 0] 23)) 9 (.string t)
  simp only [World.size_alloc] at b1 b2 b3
  have hB0 : Below w.heap.size w ((((w.alloc (.cells #[.slice none 0 0] 23)).alloc (.cells #[.bool false] 4)).alloc (.cells #[.slice none 0 0] 23)).alloc (.cells #[.string t] 9)) := ((((Below.refl _ w).alloc (Nat.le_refl _) _).alloc (by simp) _).alloc (by simp; omega) _).alloc (by simp; omega) _
  refine wpIn_rangeFunc_ownG rfl (by omega) (gf := 40) (lb := #[.pointer (some ⟨w.heap.size + 1 + 1 + 1, 0, none⟩)]) rfl trivial (enters_of Try.func40 (by kernel_rfl) rfl)
    (names_stops 2 (by omega) (w.heap.size + 1 + 1 + 1) t hts _ b3.lt b3.cell) keepsBlock_t (keepsBlock_b b3.lt) (Below.refl _ _) (fun _ => rfl)
    (ReadI w.heap.size t w) (ReadX w.heap.size w)
    (readI_own _ _ _ _ (Nat.le_refl _) (by simp; omega)) (fun c => readX_own _ _ _ _ (Nat.le_refl _) (by simp; omega))
    ⟨⟨_, b2, World.ownsRow_nil _ _ _ _, rfl, Nat.zero_le _⟩, b0, b1, b3, hB0⟩
    (fun x => { tmps := #[.string s, undef, .pointer (some ⟨w.heap.size, 0, none⟩), .pointer (some ⟨w.heap.size + 1, 0, none⟩), .pointer (some ⟨w.heap.size + 1 + 1, 0, none⟩), .string x.1, .string s, .bool true, .bool false, .string s, .bool false, .string s, .string t, .func (.func 40) #[] #[.pointer (some ⟨w.heap.size + 1 + 1 + 1, 0, none⟩)], .string x.1, undef, undef, undef, undef, undef, undef, undef, undef, undef, undef, undef, undef, undef, undef], defers := [] }) ?assign ?body ?done ?stop
  case assign =>
    intro l x W K hK
    gi_wp2
    exact hK
  case body =>
    rintro l pre x W ⟨⟨v, hv, hrow, hall, hlen⟩, hx0, hx1, hx3, hB⟩ hlt
    obtain ⟨a, cap, rfl⟩ := row_shape hrow
    have hxs : x.1.size ≤ maxLen := by have := x.2; unfold maxLen; omega
    have cv := hv.cell
    have c0 := hx0.cell
    have f0 := hx0.frozen
    have c1 := hx1.cell
    have f1 := hx1.frozen
    have HR : Hid (ReadI w.heap.size t w pre W) := ⟨⟨_, hv, hrow, hall, hlen⟩, hx0, hx1, hx3, hB⟩
    have Hv : Hid (Boxed W (w.heap.size + 1 + 1) 23 (.slice a pre.length cap)) := hv
    have Hrow : Hid (W.ownsRow (w.heap.size + 1 + 1 + 1 + 1) 9 1 (.slice a pre.length cap) pre.length (pre.map fun x => Value.string x.1)) := hrow
    clear hv hrow hx0 hx1 hx3 hall hlt hB
    by_cases h5 : pre.length = 5
    · have h5b : ((pre.length : Int) == 5) = true := by simp; omega
      have H5 : Hid (pre.length = 5) := h5
      clear h5
      gi_wp2
      refine ⟨trivial, ?_⟩
      gi_wp2
      exact read_leave HR.out () (by rw [List.length_append, H5.out]; simp)
    · have h5b : ((pre.length : Int) == 5) = false := by simp; omega
      cases hok : nameOk x.1.data.toList
      · gi_wp2_with (refine ⟨trivial, ?_⟩; gi_at_call 18; refine (CallsIn.inRound l (callsIn_wide.2 (implNameOk_any x.1 _ hxs))).mono ?_; rintro e w' ⟨rfl, rfl⟩)
        exact read_leave HR.out () (by rw [List.map_append, List.all_append]; simp [pb, bytes, hok])
      · gi_wp2_with (refine ⟨trivial, ?_⟩; gi_at_call 18; refine (CallsIn.inRound l (callsIn_wide.2 (implNameOk_any x.1 _ hxs))).mono ?_; rintro e w' ⟨rfl, rfl⟩)
        have hmx : Try.prog.follows .mixedOrders = true := by kernel_rfl
        have hxp : nameOk (pb x) = true := hok
        refine wpIn_region_any hmx ?_
        change wpAnyIn _ _ _ _ _ _ _ _ _ (World.drew _)
        have HC : Hid (∀ W0, CallsIn (Fence.wide.inRound l) 0 Try.prog 29 #[.string x.1] W0 fun e w' => e = .returned (.string x.1) ∧ Below W0.heap.size W0 w') := fun W0 => CallsIn.inRound l ((callsIn_wide (n := 0)).2 (stringsClone_any x.1 W0 x.2))
        have HF : Hid (∀ wc, Below w'.drew.heap.size w'.drew wc → wc.cell? ⟨w.heap.size + 1 + 1, 0, none⟩ = some (.slice a pre.length cap) ∧ wc.ownsRow (w.heap.size + 1 + 1 + 1 + 1) 9 1 (.slice a pre.length cap) pre.length (pre.map fun x => Value.string x.1) ∧ (∀ o, w.heap.size + 1 + 1 + 1 + 1 ≤ (wc.alloc o).heap.size) ∧ ∀ o, (wc.alloc o).cell? ⟨w.heap.size + 1 + 1, 0, none⟩ = some (.slice a pre.length cap)) := fun wc hb => read_clone HR.out Hv.out Hrow.out hb
        have HG : Hid (∀ wc w1 v' tmp M, Below w'.drew.heap.size w'.drew wc → w1.ownsRow (w.heap.size + 1 + 1 + 1 + 1) 9 1 v' (pre.length + 1) ((pre.map fun x => Value.string x.1) ++ [.string x.1]) → (wc.alloc tmp).grownBy w1 (Value.slice a pre.length cap).ownBlock → (Boxed w1 (w.heap.size + 1 + 1) 23 (.slice a pre.length cap)) ∧ (KeepsFrom M w' (w1.setCell ⟨w.heap.size + 1 + 1, 0, none⟩ v') ∧ KeepsBlock (w.heap.size + 1 + 1 + 1) w' (w1.setCell ⟨w.heap.size + 1 + 1, 0, none⟩ v') ∧ ReadI w.heap.size t w (pre ++ [x]) (w1.setCell ⟨w.heap.size + 1 + 1, 0, none⟩ v'))) := fun wc w1 v' tmp M hb ho hg => read_go HR.out Hv.out Hrow.out (by omega) hxp hb ho hg
        clear HR Hv Hrow
        refine wpAnyIn_ready (rs := [0, 1]) (by kernel_rfl) (by simp) ?_
        refine AllReadyIn.cons rfl (fun K hK => ?_) ?_
        · go_simp
          refine hK _ _ ?_
          clear hK K
          refine wpAnyIn_ready (rs := [1]) (by kernel_rfl) (by simp) ?_
          refine AllReadyIn.cons rfl (fun K hK => ?_) AllReadyIn.nil
          go_simp
          refine hK _ _ ?_
          clear hK K
          refine wpAnyIn_ready (rs := [2]) (by kernel_rfl) (by simp) ?_
          refine AllReadyIn.cons rfl (fun K hK => ?_) AllReadyIn.nil
          go_simp
          refine ⟨trivial, ?_⟩
          refine (HC.out _).mono ?_
          rintro e wc ⟨rfl, hbc⟩
          have hcw := (HF.out wc hbc).1
          have hcw2 := (HF.out wc hbc).2.2.2
          refine hK _ _ ?_
          clear hK K
          refine wpAnyIn_ready (rs := [3]) (by kernel_rfl) (by simp) ?_
          refine AllReadyIn.cons rfl (fun K hK => ?_) AllReadyIn.nil
          go_simp
          refine hK _ _ ?_
          clear hK K
          refine wpAnyIn_ready (rs := [4]) (by kernel_rfl) (by simp) ?_
          refine AllReadyIn.cons rfl (fun K hK => ?_) AllReadyIn.nil
          refine step_append_own_in rfl (.tmp 23) (.tmp 26) 23 rfl (w.heap.size + 1 + 1 + 1 + 1) 9 i0 (.string ByteArray.empty) 1 16 Try.underlying23 hi hz0 hz1 hz2 rfl (by decide) (.slice a pre.length cap) pre.length _ rfl ((HF.out wc hbc).2.1.alloc _) ⟨wc.heap.size, 0, none⟩ 1 1 [.string x.1] rfl rfl (cell_one_new _ _ _) (by simp [Value.oneCell']) (by unfold maxLen; omega) (by omega) ((HF.out wc hbc).2.2.1 _) ?_
          intro v' w1 hown hgrow _
          obtain ⟨hv1, hfin⟩ := HG.out wc w1 v' _ (((((w.alloc (.cells #[.slice none 0 0] 23)).alloc (.cells #[.bool false] 4)).alloc (.cells #[.slice none 0 0] 23)).alloc (.cells #[.string t] 9)).heap.size) hbc hown hgrow
          obtain ⟨g', cap', rfl⟩ := ownsRow_succ hown
          have hc1 := hv1.cell
          have hf1 := hv1.frozen
          refine hK _ _ ?_
          clear hK K
          refine wpAnyIn_ready (rs := [5]) (by kernel_rfl) (by simp) ?_
          refine AllReadyIn.cons rfl (fun K hK => ?_) AllReadyIn.nil
          go_simp
          refine hK _ _ ?_
          clear hK K
          refine wpAnyIn_done (by kernel_rfl) ?_ _
          exact hfin
        · refine AllReadyIn.cons rfl (fun K hK => ?_) AllReadyIn.nil
          go_simp
          refine hK _ _ ?_
          clear hK K
          refine wpAnyIn_ready (rs := [0, 2]) (by kernel_rfl) (by simp) ?_
          refine AllReadyIn.cons rfl (fun K hK => ?_) ?_
          · go_simp
            refine hK _ _ ?_
            clear hK K
            refine wpAnyIn_ready (rs := [2]) (by kernel_rfl) (by simp) ?_
            refine AllReadyIn.cons rfl (fun K hK => ?_) AllReadyIn.nil
            go_simp
            refine ⟨trivial, ?_⟩
            refine (HC.out _).mono ?_
            rintro e wc ⟨rfl, hbc⟩
            have hcw := (HF.out wc hbc).1
            have hcw2 := (HF.out wc hbc).2.2.2
            refine hK _ _ ?_
            clear hK K
            refine wpAnyIn_ready (rs := [3]) (by kernel_rfl) (by simp) ?_
            refine AllReadyIn.cons rfl (fun K hK => ?_) AllReadyIn.nil
            go_simp
            refine hK _ _ ?_
            clear hK K
            refine wpAnyIn_ready (rs := [4]) (by kernel_rfl) (by simp) ?_
            refine AllReadyIn.cons rfl (fun K hK => ?_) AllReadyIn.nil
            refine step_append_own_in rfl (.tmp 23) (.tmp 26) 23 rfl (w.heap.size + 1 + 1 + 1 + 1) 9 i0 (.string ByteArray.empty) 1 16 Try.underlying23 hi hz0 hz1 hz2 rfl (by decide) (.slice a pre.length cap) pre.length _ rfl ((HF.out wc hbc).2.1.alloc _) ⟨wc.heap.size, 0, none⟩ 1 1 [.string x.1] rfl rfl (cell_one_new _ _ _) (by simp [Value.oneCell']) (by unfold maxLen; omega) (by omega) ((HF.out wc hbc).2.2.1 _) ?_
            intro v' w1 hown hgrow _
            obtain ⟨hv1, hfin⟩ := HG.out wc w1 v' _ (((((w.alloc (.cells #[.slice none 0 0] 23)).alloc (.cells #[.bool false] 4)).alloc (.cells #[.slice none 0 0] 23)).alloc (.cells #[.string t] 9)).heap.size) hbc hown hgrow
            obtain ⟨g', cap', rfl⟩ := ownsRow_succ hown
            have hc1 := hv1.cell
            have hf1 := hv1.frozen
            refine hK _ _ ?_
            clear hK K
            refine wpAnyIn_ready (rs := [5]) (by kernel_rfl) (by simp) ?_
            refine AllReadyIn.cons rfl (fun K hK => ?_) AllReadyIn.nil
            go_simp
            refine hK _ _ ?_
            clear hK K
            refine wpAnyIn_done (by kernel_rfl) ?_ _
            exact hfin
          · refine AllReadyIn.cons rfl (fun K hK => ?_) AllReadyIn.nil
            go_simp
            refine ⟨trivial, ?_⟩
            refine (HC.out _).mono ?_
            rintro e wc ⟨rfl, hbc⟩
            have hcw := (HF.out wc hbc).1
            have hcw2 := (HF.out wc hbc).2.2.2
            refine hK _ _ ?_
            clear hK K
            refine wpAnyIn_ready (rs := [0, 3]) (by kernel_rfl) (by simp) ?_
            refine AllReadyIn.cons rfl (fun K hK => ?_) ?_
            · go_simp
              refine hK _ _ ?_
              clear hK K
              refine wpAnyIn_ready (rs := [3]) (by kernel_rfl) (by simp) ?_
              refine AllReadyIn.cons rfl (fun K hK => ?_) AllReadyIn.nil
              go_simp
              refine hK _ _ ?_
              clear hK K
              refine wpAnyIn_ready (rs := [4]) (by kernel_rfl) (by simp) ?_
              refine AllReadyIn.cons rfl (fun K hK => ?_) AllReadyIn.nil
              refine step_append_own_in rfl (.tmp 23) (.tmp 26) 23 rfl (w.heap.size + 1 + 1 + 1 + 1) 9 i0 (.string ByteArray.empty) 1 16 Try.underlying23 hi hz0 hz1 hz2 rfl (by decide) (.slice a pre.length cap) pre.length _ rfl ((HF.out wc hbc).2.1.alloc _) ⟨wc.heap.size, 0, none⟩ 1 1 [.string x.1] rfl rfl (cell_one_new _ _ _) (by simp [Value.oneCell']) (by unfold maxLen; omega) (by omega) ((HF.out wc hbc).2.2.1 _) ?_
              intro v' w1 hown hgrow _
              obtain ⟨hv1, hfin⟩ := HG.out wc w1 v' _ (((((w.alloc (.cells #[.slice none 0 0] 23)).alloc (.cells #[.bool false] 4)).alloc (.cells #[.slice none 0 0] 23)).alloc (.cells #[.string t] 9)).heap.size) hbc hown hgrow
              obtain ⟨g', cap', rfl⟩ := ownsRow_succ hown
              have hc1 := hv1.cell
              have hf1 := hv1.frozen
              refine hK _ _ ?_
              clear hK K
              refine wpAnyIn_ready (rs := [5]) (by kernel_rfl) (by simp) ?_
              refine AllReadyIn.cons rfl (fun K hK => ?_) AllReadyIn.nil
              go_simp
              refine hK _ _ ?_
              clear hK K
              refine wpAnyIn_done (by kernel_rfl) ?_ _
              exact hfin
            · refine AllReadyIn.cons rfl (fun K hK => ?_) AllReadyIn.nil
              go_simp
              refine hK _ _ ?_
              clear hK K
              refine wpAnyIn_ready (rs := [0]) (by kernel_rfl) (by simp) ?_
              refine AllReadyIn.cons rfl (fun K hK => ?_) AllReadyIn.nil
              go_simp
              refine hK _ _ ?_
              clear hK K
              refine wpAnyIn_ready (rs := [4]) (by kernel_rfl) (by simp) ?_
              refine AllReadyIn.cons rfl (fun K hK => ?_) AllReadyIn.nil
              refine step_append_own_in rfl (.tmp 23) (.tmp 26) 23 rfl (w.heap.size + 1 + 1 + 1 + 1) 9 i0 (.string ByteArray.empty) 1 16 Try.underlying23 hi hz0 hz1 hz2 rfl (by decide) (.slice a pre.length cap) pre.length _ rfl ((HF.out wc hbc).2.1.alloc _) ⟨wc.heap.size, 0, none⟩ 1 1 [.string x.1] rfl rfl (cell_one_new _ _ _) (by simp [Value.oneCell']) (by unfold maxLen; omega) (by omega) ((HF.out wc hbc).2.2.1 _) ?_
              intro v' w1 hown hgrow _
              obtain ⟨hv1, hfin⟩ := HG.out wc w1 v' _ (((((w.alloc (.cells #[.slice none 0 0] 23)).alloc (.cells #[.bool false] 4)).alloc (.cells #[.slice none 0 0] 23)).alloc (.cells #[.string t] 9)).heap.size) hbc hown hgrow
              obtain ⟨g', cap', rfl⟩ := ownsRow_succ hown
              have hc1 := hv1.cell
              have hf1 := hv1.frozen
              refine hK _ _ ?_
              clear hK K
              refine wpAnyIn_ready (rs := [5]) (by kernel_rfl) (by simp) ?_
              refine AllReadyIn.cons rfl (fun K hK => ?_) AllReadyIn.nil
              go_simp
              refine hK _ _ ?_
              clear hK K
              refine wpAnyIn_done (by kernel_rfl) ?_ _
              exact hfin
  case done =>
    rintro D ys W hD hys ⟨⟨v, hv, hrow, hall, hlen⟩, h0, h1, h3, hB⟩ hK
    obtain ⟨a, cap, rfl⟩ := row_shape hrow
    have hD' : w.heap.size + 1 + 1 + 1 + 1 ≤ D := by simpa using hD
    have cv := hv.cell
    have c0 := h0.cell
    have f0 := h0.frozen
    have c1 := h1.cell
    have f1 := h1.frozen
    have HF : Hid _ := read_end (D := D) hrow h0 h1 hB hK hD'
    have HY : Hid (ys.map pb = cut (bytes t)) := hys
    have HA : Hid ((ys.map pb).all nameOk = true ∧ ys.length ≤ 5) := ⟨hall, hlen⟩
    clear hv hrow h0 h1 h3 hB hys hall
    gi_wp2
    refine ⟨by simp, .inl ⟨_, _, rfl, run_takeDeferred HF.out.1, ?_⟩⟩
    have r0 := HF.out.2.1.cell
    have r1 := HF.out.2.2.1.cell
    refine ⟨.tuple #[.slice a ys.length cap, .bool true], by simp [results, Try.results11, go_sem, r0, r1], .slice a ys.length cap, true, ys.map (·.1), rfl, ?_, ?_, ?_, HF.out.2.2.2.2⟩
    · rw [← HT.out]
      unfold okCut
      rw [← HY.out, HA.out.1]
      simp [HA.out.2]
    · rw [List.length_map, List.map_map]
      exact HF.out.2.2.2.1
    · rw [if_pos rfl, ← HT.out, ← HY.out, List.map_map]
      rfl
  case stop =>
    rintro D c pre W hD hpre ⟨⟨rfl, hbad⟩, h0, h1, hB⟩ hK
    have hD' : w.heap.size + 1 + 1 + 1 + 1 ≤ D := by simpa using hD
    have HF : Hid _ := read_gone (D := D) h0 h1 hB hK hD'
    have HO : Hid (false = okCut (cut (bytes t))) := (okCut_pre hpre hbad).symm
    have HK : Hid _ := hK
    clear h0 h1 hB hpre hbad hK
    gi_wp2
    refine ⟨by simp, .inl ⟨_, _, rfl, run_takeDeferred HK.out, ?_⟩⟩
    have r0 := HF.out.1.cell
    have r1 := HF.out.2.1.cell
    refine ⟨.tuple #[.slice none 0 0, .bool false], by simp [results, Try.results11, go_sem, r0, r1], .slice none 0 0, false, [], rfl, by rw [← HT.out]; exact HO.out, World.ownsRow_nil _ _ _ _, by simp, HF.out.2.2⟩
end Go.Proofs.Ytgijhkcnbmcenaa
