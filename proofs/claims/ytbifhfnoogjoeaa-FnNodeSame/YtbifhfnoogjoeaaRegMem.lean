/-
  Rows of one's own that a statement makes and appends to, in whatever order: each is as it is said, and no two share memory. Plain laws.
-/
import Derived.Test.YtbifhfnoogjoeaaRegInv
import Derived.Test.YtbifhfnoogjoeaaBlk
import Derived.Test.YtbifhfnoogjoeaaCat0
import Derived.Maps.AppendAt
import Derived.Laws.OwnMore
namespace Go.Proofs.Ytbifhfnoogjoeaa
open Go.RowKit
set_option linter.unusedVariables false

/-- What a list to be appended holds, and where it lies; it may be nil. -/
structure Src (W : World) (size : Nat) (x : Value) (m : Nat) (news : List Value) : Prop where
  len : news.length = m * size
  one : ∀ u ∈ news, u.oneCell' = true
  lies : (∃ c, x = .slice none 0 c ∧ m = 0) ∨ ∃ ad c, x = .slice (some ad) m c ∧ ∀ j u, news[j]? = some u → W.cell? (ad.add j) = some u

theorem run_append_none {P : Program} (w : World) (base : Nat) (t ty e : TypeId) (i : TypeInfo) (size : Nat) (ht : P.underlying t = some (.slice e)) (hi : P.info? e = some i)
    (v : Value) (n : Nat) (xs : List Value) (hown : w.ownsRow base e size v n xs) (c : Nat) :
    (Builtin.append_ #[t, t] ty #[v, .slice none 0 c]).run P w = .ok v w := by
  rcases hown.2 with ⟨rfl, rfl⟩ | ⟨g, cap, cur, rfl, _, _, hnc, _⟩
  · simp [Builtin.append_, run_underlying ht, sizeOf, typeInfo, hi, Builtin.lenOf, Builtin.firstCells]
  · simp [Builtin.append_, run_underlying ht, sizeOf, typeInfo, hi, Builtin.lenOf, Builtin.firstCells, hnc, storeCells]

theorem run_append_src {P : Program} (w : World) (base : Nat) (t ty e : TypeId) (i : TypeInfo) (z : Value) (size bytes : Nat) (ht : P.underlying t = some (.slice e)) (hi : P.info? e = some i) (hz : i.zero = some z)
    (hsize : i.size = size) (hby : i.bytes = bytes) (hzs : z.cells.size = size) (hsz : 0 < size)
    (v : Value) (n : Nat) (xs : List Value) (hown : w.ownsRow base e size v n xs) (x : Value) (m : Nat) (news : List Value) (hx : Src w size x m news)
    (h63 : n + m ≤ maxLen) (hbytes : (n + m) * bytes ≤ 140737488355328) (hbase : base ≤ w.heap.size) :
    ∃ v' w', (Builtin.append_ #[t, t] ty #[v, x]).run P w = .ok v' w' ∧ w'.ownsRow base e size v' (n + m) (xs ++ news) ∧ w.grownBy w' v.ownBlock ∧
      (v' = .slice none 0 0 ↔ v = .slice none 0 0 ∧ m = 0) ∧ (v'.ownBlock = v.ownBlock ∨ v'.ownBlock = some w.heap.size) := by
  rcases hx.lies with ⟨c, rfl, rfl⟩ | ⟨ad, c, rfl, hc⟩
  · have hn : news = [] := List.length_eq_zero_iff.1 (by have := hx.len; omega)
    subst hn
    exact ⟨v, w, run_append_none w base t ty e i size ht hi v n xs hown c, by simpa using hown, ⟨rfl, rfl, rfl, Nat.le_refl _, fun _ _ _ => rfl⟩, by simp, Or.inl rfl⟩
  · exact run_append_own_at w base t ty e i z size bytes ht hi hz hsize hby hzs hsz v n xs hown ad m c news hx.len hc hx.one h63 hbytes hbase

theorem wp_append_src {P : Program} {o : Oper} {a : Act} {w : World} {K : Act → World → Prop} {Q : Exit → Act → World → Prop} (s y : Operand) (t : TypeId)
    (ho : o.op = .call { callee := .builtin .append, args := #[s, y], argTypes := #[t, t] })
    (base : Nat) (e : TypeId) (i : TypeInfo) (z : Value) (size bytes : Nat) (ht : P.underlying t = some (.slice e)) (hi : P.info? e = some i) (hz : i.zero = some z)
    (hsize : i.size = size) (hby : i.bytes = bytes) (hzs : z.cells.size = size) (hsz : 0 < size)
    (v : Value) (n : Nat) (xs : List Value) (hs : a.eval s = v) (hown : w.ownsRow base e size v n xs) (x : Value) (m : Nat) (news : List Value) (hxe : a.eval y = x) (hx : Src w size x m news)
    (h63 : n + m ≤ maxLen) (hbytes : (n + m) * bytes ≤ 140737488355328) (hbase : base ≤ w.heap.size)
    (h : ∀ v' w', w'.ownsRow base e size v' (n + m) (xs ++ news) → w.grownBy w' v.ownBlock → (v' = .slice none 0 0 ↔ v = .slice none 0 0 ∧ m = 0) → (v'.ownBlock = v.ownBlock ∨ v'.ownBlock = some w.heap.size) → K (a.put o.dst v') w') : o.wp P a w K Q := by
  obtain ⟨v', w', hr, h2, h3, h4, h5⟩ := run_append_src (P := P) w base t o.type e i z size bytes ht hi hz hsize hby hzs hsz v n xs hown x m news hx h63 hbytes hbase
  unfold Oper.wp execOp
  simp only [ho, resolve, invoke, builtin, Sem.run_bind, Sem.run_pure, Result.andThen_ok, List.map_toArray, List.map_cons, List.map_nil, hs, hxe, hr]
  exact h v' w' h2 h3 h4 h5

theorem wpList_append_src {P : Program} {ops : Array Oper} {rest : List Oper} {o : Oper} {a : Act} {w : World} {Q : Exit → Act → World → Prop} (hgd : o.guard = none) (s y : Operand) (t : TypeId)
    (ho : o.op = .call { callee := .builtin .append, args := #[s, y], argTypes := #[t, t] })
    (base : Nat) (e : TypeId) (i : TypeInfo) (z : Value) (size bytes : Nat) (ht : P.underlying t = some (.slice e)) (hi : P.info? e = some i) (hz : i.zero = some z)
    (hsize : i.size = size) (hby : i.bytes = bytes) (hzs : z.cells.size = size) (hsz : 0 < size)
    (v : Value) (n : Nat) (xs : List Value) (hs : a.eval s = v) (hown : w.ownsRow base e size v n xs) (x : Value) (m : Nat) (news : List Value) (hxe : a.eval y = x) (hx : Src w size x m news)
    (h63 : n + m ≤ maxLen) (hbytes : (n + m) * bytes ≤ 140737488355328) (hbase : base ≤ w.heap.size)
    (h : ∀ v' w', w'.ownsRow base e size v' (n + m) (xs ++ news) → w.grownBy w' v.ownBlock → (v' = .slice none 0 0 ↔ v = .slice none 0 0 ∧ m = 0) → (v'.ownBlock = v.ownBlock ∨ v'.ownBlock = some w.heap.size) → wpList P ops Q rest (a.put o.dst v') w') : wpList P ops Q (o :: rest) a w :=
  wpList_plain hgd fun _ hK => wp_append_src s y t ho base e i z size bytes ht hi hz hsize hby hzs hsz v n xs hs hown x m news hxe hx h63 hbytes hbase fun v' w' h2 h3 h4 h5 => hK _ _ (h v' w' h2 h3 h4 h5)

/-- A row: of which elements, how wide, how many, which. -/
structure Rw where
  e : TypeId
  size : Nat
  n : Nat
  xs : List Value

/-- The places d that are live hold such rows, in blocks of their own. -/
structure Rws (B : Nat) (row : Nat → Rw) (live : Nat → Prop) (v : Nat → Value) (w : World) : Prop where
  own : ∀ d, live d → w.ownsRow B (row d).e (row d).size (v d) (row d).n (row d).xs ∧ ∃ b, (v d).ownBlock = some b
  apart : ∀ d d', live d → live d' → d ≠ d' → (v d).ownBlock ≠ (v d').ownBlock

theorem owns_block {w : World} {B : Nat} {e : TypeId} {size n : Nat} {xs : List Value} {v : Value} (h : w.ownsRow B e size v n xs) {b : Nat} (hb : v.ownBlock = some b) : B ≤ b ∧ b < w.heap.size := h.lt b hb

/-- A row comes to be: a new one, or a live one appended to. -/
theorem Rws.step {B : Nat} {row : Nat → Rw} {live live' : Nat → Prop} {v : Nat → Value} {w w' : World} (h : Rws B row live v w) {d : Nat} {x : Value} {r : Option Nat} (hg : w.grownBy w' r)
    (hr : ∀ d', live' d' → d' ≠ d → live d' ∧ (v d').ownBlock ≠ r) (hown : w'.ownsRow B (row d).e (row d).size x (row d).n (row d).xs) {b : Nat} (hx : x.ownBlock = some b) (hb : r = some b ∨ w.heap.size ≤ b) : Rws B row live' (vset v d x) w' := by
  have key : ∀ d', live' d' → d' ≠ d → (v d').ownBlock ≠ some b := fun d' h1 h2 e => by
    obtain ⟨h3, h4⟩ := hr d' h1 h2
    rcases hb with hb | hb
    · exact h4 (e.trans hb.symm)
    · have := (owns_block (h.own d' h3).1 e).2
      omega
  refine ⟨fun d' hl => ?_, fun d1 d2 h1 h2 hne => ?_⟩
  · by_cases e : d' = d
    · subst e; rw [vset_same]; exact ⟨hown, b, hx⟩
    · rw [vset_ne _ _ e]
      obtain ⟨h3, h4⟩ := hr d' hl e
      exact ⟨(h.own d' h3).1.kept hg (Or.inr h4), (h.own d' h3).2⟩
  · by_cases e1 : d1 = d
    · have e2 : d2 ≠ d := fun e => hne (e1.trans e.symm)
      subst e1
      rw [vset_same, vset_ne _ _ e2, hx]
      exact Ne.symm (key d2 h2 e2)
    · by_cases e2 : d2 = d
      · subst e2
        rw [vset_same, vset_ne _ _ e1, hx]
        exact key d1 h1 e1
      · rw [vset_ne _ _ e1, vset_ne _ _ e2]
        exact h.apart d1 d2 (hr d1 h1 e1).1 (hr d2 h2 e2).1 hne

/-- Nothing of the rows turns. -/
theorem Rws.same {B : Nat} {row : Nat → Rw} {live live' : Nat → Prop} {v v' : Nat → Value} {w w' : World} (h : Rws B row live v w) (hl : ∀ d, live' d → live d ∧ v' d = v d) (hw : ∀ d b, live' d → (v d).ownBlock = some b → w'.heap[b]? = w.heap[b]?) : Rws B row live' v' w' := by
  refine ⟨fun d hd => ?_, fun d1 d2 h1 h2 hne => ?_⟩
  · obtain ⟨h1, h2⟩ := hl d hd
    rw [h2]
    obtain ⟨⟨h3, h4⟩, b, h5⟩ := h.own d h1
    refine ⟨⟨h3, ?_⟩, b, h5⟩
    rcases h4 with h4 | ⟨g, cap, cur, hv, hB, hg, hr⟩
    · exact Or.inl h4
    · refine Or.inr ⟨g, cap, cur, hv, hB, ?_, hr⟩
      have : b = g := by rw [hv] at h5; simpa [Value.ownBlock] using h5.symm
      subst this
      exact (hw d b hd h5).trans hg
  · rw [(hl d1 h1).2, (hl d2 h2).2]
    exact h.apart d1 d2 (hl d1 h1).1 (hl d2 h2).1 hne

/-- A row of a literal. -/
theorem owns_lit {w : World} {B : Nat} (hB : B ≤ w.heap.size) (xs : List Value) (e : TypeId) (size n : Nat) (hl : xs.length = n * size) (hn : n ≤ maxLen) : (w.alloc (.cells xs.toArray e)).ownsRow B e size (.slice (some ⟨w.heap.size, 0, none⟩) n n) n xs :=
  ⟨hl, Or.inr ⟨w.heap.size, n, xs.toArray, rfl, hB, Go.Deep.blk_alloc_new _ _, Nat.le_refl _, hn, by simpa using hl, by rw [← hl]; simp⟩⟩

/-- A live row, as a source. -/
theorem owns_src {w : World} {B : Nat} {e : TypeId} {size n : Nat} {xs : List Value} {v : Value} (h : w.ownsRow B e size v n xs) (h1 : ∀ u ∈ xs, u.oneCell' = true) {b : Nat} (hb : v.ownBlock = some b) : Src w size v n xs :=
  ⟨h.1, h1, Or.inr (by
    rcases h.2 with ⟨h0, _⟩ | ⟨g, cap, cur, hv, _⟩
    · rw [h0] at hb; simp [Value.ownBlock] at hb
    · exact ⟨⟨g, 0, none⟩, cap, hv, h.cells (g := g) (by rw [hv]; rfl)⟩)⟩

theorem addr_add (b o j : Nat) : (⟨b, o, none⟩ : Addr).add j = ⟨b, o + j, none⟩ := by unfold Addr.add; split <;> simp_all

theorem IsStrs.src {W : World} {a : Option Addr} {n : Nat} {S : Nat → ByteArray} (h : IsStrs W a n S) (c : Nat) : Src W 1 (.slice a n c) n (strv (lst n S)) := by
  refine ⟨strv_lst n S, strv_one _, ?_⟩
  rcases h with h | ⟨b, off, rfl, hlt, hc⟩
  · subst h
    cases a with
    | none => exact Or.inl ⟨c, rfl, rfl⟩
    | some ad => exact Or.inr ⟨ad, c, rfl, fun j u hu => by simp [strv, lst] at hu⟩
  · refine Or.inr ⟨⟨b, off, none⟩, c, rfl, fun j u hu => ?_⟩
    have hj : j < n := by
      rcases Nat.lt_or_ge j n with e | e
      · exact e
      · rw [List.getElem?_eq_none (by have := strv_lst n S; omega)] at hu; cases hu
    rw [addr_add, hc j hj]
    simp [strv, lst, hj] at hu
    rw [hu]

theorem IsInts.src {W : World} {a : Option Addr} {n : Nat} {Z : Nat → Int} (h : IsInts W a n Z) (c : Nat) : Src W 1 (.slice a n c) n ((List.range n).map fun i => .int .i64 (Z i)) := by
  refine ⟨by simp, fun u hu => by obtain ⟨i, _, rfl⟩ := List.mem_map.1 hu; rfl, ?_⟩
  rcases h with h | ⟨b, off, rfl, hlt, hc⟩
  · subst h
    cases a with
    | none => exact Or.inl ⟨c, rfl, rfl⟩
    | some ad => exact Or.inr ⟨ad, c, rfl, fun j u hu => by simp at hu⟩
  · refine Or.inr ⟨⟨b, off, none⟩, c, rfl, fun j u hu => ?_⟩
    have hj : j < n := by
      rcases Nat.lt_or_ge j n with e | e
      · exact e
      · rw [List.getElem?_eq_none (by simpa using e)] at hu; cases hu
    rw [addr_add, hc j hj]
    simp [hj] at hu
    rw [hu]

theorem Src.of_cells {w w' : World} {size : Nat} {x : Value} {m : Nat} {news : List Value} (h : Src w size x m news) {B : Nat} (hb : Below B w w') (hx : ∀ ad n c, x = .slice (some ad) n c → ad.block < B) : Src w' size x m news :=
  ⟨h.len, h.one, h.lies.imp id fun ⟨ad, c, e, hc⟩ => ⟨ad, c, e, fun j u hu => by
    rw [hb.cell (p := ad.add j) (by
      have h1 := hx ad m c e
      have : (ad.add j).block = ad.block := by unfold Addr.add; split <;> rfl
      omega)]
    exact hc j u hu⟩⟩

/-- What is known within a statement: what was taken first, that nothing old turns, the rows, and values that hang on no memory. -/
structure RJ (taken : List Nat) (W : World) (row : Nat → Rw) (keys : List (Nat × Nat × Nat)) (plain : List (Nat × Nat × Value)) (L : Nat → Bool) (v : Nat → Value) (w : World) : Prop where
  taken : ∀ j ∈ taken, L j = true
  none : L 99 = false
  bel : Below W.heap.size W w
  rws : Rws W.heap.size row (liveAt keys L) v w
  plain : ∀ t ∈ plain, L t.1 = true → v t.2.1 = t.2.2

section
variable {taken : List Nat} {W : World} {row : Nat → Rw} {keys : List (Nat × Nat × Nat)} {plain : List (Nat × Nat × Value)} {L : Nat → Bool} {v : Nat → Value} {w w' : World}

theorem RJ.start (hb : Below W.heap.size W w) (ht : ∀ j ∈ taken, L j = true) (hn : L 99 = false) (hk : ∀ t ∈ keys, L t.2.1 = false) (hp : ∀ t ∈ plain, L t.1 = false) : RJ taken W row keys plain L v w :=
  ⟨ht, hn, hb, ⟨fun d ⟨j, c, h1, h2, h3⟩ => by have := hk _ h1; simp_all, fun d d' ⟨j, c, h1, h2, h3⟩ => by have := hk _ h1; simp_all⟩, fun t h1 h2 => by have := hp t h1; simp_all⟩

theorem lset_true {i j : Nat} (h : L j = true) : lset L i j = true := by simp [lset, h]
theorem lset_false {i j : Nat} (h : lset L i j = false) : L j = false ∧ j ≠ i := by simp [lset] at h; exact ⟨h.2, h.1⟩
theorem lset_cases {i j : Nat} (h : lset L i j = true) : j = i ∨ L j = true := by simpa [lset] using h

/-- A row comes to be. -/
theorem RJ.rowStep (h : RJ taken W row keys plain L v w) {k d : Nat} {x : Value} {r : Option Nat} (hg : w.grownBy w' r) (hbel : Below W.heap.size W w') (hk : ∀ t ∈ keys, t.2.1 = k → t.1 = d) (hp : ∀ t ∈ plain, t.1 ≠ k ∧ t.2.1 ≠ d) (h99 : 99 ≠ k)
    (hr : ∀ d', liveAt keys (lset L k) d' → d' ≠ d → (v d').ownBlock ≠ r) (hown : w'.ownsRow W.heap.size (row d).e (row d).size x (row d).n (row d).xs) {b : Nat} (hx : x.ownBlock = some b) (hb : r = some b ∨ w.heap.size ≤ b) : RJ taken W row keys plain (lset L k) (vset v d x) w' :=
  ⟨fun j hj => lset_true (h.taken j hj), by rw [lset_ne _ h99]; exact h.none, hbel, h.rws.step hg (fun d' hl hne => ⟨by
    obtain ⟨j, c, h1, h2, h3⟩ := hl
    have hj : j ≠ k := fun e => hne (hk _ h1 e)
    rw [lset_ne _ hj] at h2
    exact ⟨j, c, h1, h2, (lset_false h3).1⟩, hr d' hl hne⟩) hown hx hb, fun t h1 h2 => by
    obtain ⟨h3, h4⟩ := hp t h1
    rw [lset_ne _ h3] at h2
    rw [vset_ne _ _ h4]
    exact h.plain t h1 h2⟩

theorem RJ.gone (h : RJ taken W row keys plain L v w) {k : Nat} (hk : k ∈ taken) (h0 : L k = false) {A : Prop} : A := by
  have := h.taken k hk
  rw [h0] at this
  cases this

/-- A new row. -/
theorem RJ.make (h : RJ taken W row keys plain L v w) {k d : Nat} (hk : ∀ t ∈ keys, t.2.1 = k → t.1 = d) (hp : ∀ t ∈ plain, t.1 ≠ k ∧ t.2.1 ≠ d) (h99 : 99 ≠ k) {xs : List Value} {n : Nat} {e : TypeId} {size : Nat} (hrow : row d = ⟨e, size, n, xs⟩) (hl : xs.length = n * size) (hn : n ≤ maxLen) :
    RJ taken W row keys plain (lset L k) (vset v d (.slice (some ⟨w.heap.size, 0, .none⟩) n n)) (w.alloc (.cells xs.toArray e)) :=
  h.rowStep (r := .none) (b := w.heap.size) (World.grownBy_alloc w _ _) (h.bel.alloc h.bel.size _) hk hp h99 (fun d' ⟨j, c, h1, h2, h3⟩ hne => by
    have hj : j ≠ k := fun e => hne (hk _ h1 e)
    rw [lset_ne _ hj] at h2
    obtain ⟨b, hb⟩ := (h.rws.own d' ⟨j, c, h1, h2, (lset_false h3).1⟩).2
    rw [hb]; simp) (by rw [hrow]; exact owns_lit h.bel.size xs e size n hl hn) rfl (Or.inr (Nat.le_refl _))

/-- A row is appended to. -/
theorem RJ.app (h : RJ taken W row keys plain L v w) {k d s : Nat} {x : Value} (hs : liveAt keys L s) (hsk : ∀ t ∈ keys, t.1 = s → t.2.2 = k) (hg : w.grownBy w' (v s).ownBlock) (hk : ∀ t ∈ keys, t.2.1 = k → t.1 = d) (hp : ∀ t ∈ plain, t.1 ≠ k ∧ t.2.1 ≠ d) (h99 : 99 ≠ k)
    (hown : w'.ownsRow W.heap.size (row d).e (row d).size x (row d).n (row d).xs) (hat : x.ownBlock = (v s).ownBlock ∨ x.ownBlock = some w.heap.size) : RJ taken W row keys plain (lset L k) (vset v d x) w' := by
  obtain ⟨b, hb⟩ := (h.rws.own s hs).2
  have hlt := owns_block (h.rws.own s hs).1 hb
  have hbel : Below W.heap.size W w' := h.bel.grown hg h.bel.size (fun b' e => by rw [hb] at e; cases e; exact hlt.1)
  have hbx : ∃ b', x.ownBlock = some b' ∧ ((v s).ownBlock = some b' ∨ w.heap.size ≤ b') := by
    rcases hat with e | e
    · exact ⟨b, e.trans hb, Or.inl hb⟩
    · exact ⟨_, e, Or.inr (Nat.le_refl _)⟩
  obtain ⟨b', hb1, hb2⟩ := hbx
  exact h.rowStep hg hbel hk hp h99 (fun d' ⟨j, c, h1, h2, h3⟩ hne => by
    have hj : j ≠ k := fun e => hne (hk _ h1 e)
    rw [lset_ne _ hj] at h2
    obtain ⟨h4, h5⟩ := lset_false h3
    exact h.rws.apart d' s ⟨j, c, h1, h2, h4⟩ hs (fun e => h5 (hsk _ h1 e))) hown hb1 hb2

/-- A value that hangs on no memory. -/
theorem RJ.value (h : RJ taken W row keys plain L v w) {k d : Nat} {x : Value} (hk : ∀ t ∈ keys, t.2.1 ≠ k ∧ t.1 ≠ d) (h99 : 99 ≠ k) (hp : ∀ t ∈ plain, t.1 = k → t.2.1 = d ∧ t.2.2 = x) (hd : ∀ t ∈ plain, t.1 ≠ k → t.2.1 ≠ d) : RJ taken W row keys plain (lset L k) (vset v d x) w :=
  ⟨fun j hj => lset_true (h.taken j hj), by rw [lset_ne _ h99]; exact h.none, h.bel, h.rws.same (fun d' ⟨j, c, h1, h2, h3⟩ => by
    obtain ⟨h4, h5⟩ := hk _ h1
    rw [lset_ne _ h4] at h2
    exact ⟨⟨j, c, h1, h2, (lset_false h3).1⟩, vset_ne _ _ h5⟩) (fun _ _ _ _ => rfl), fun t h1 h2 => by
    by_cases e : t.1 = k
    · obtain ⟨h3, h4⟩ := hp t h1 e
      rw [h3, vset_same, h4]
    · rw [lset_ne _ e] at h2
      rw [vset_ne _ _ (hd t h1 e)]
      exact h.plain t h1 h2⟩
end

/-- A row of texts, as a list. -/
theorem ownsRow_strs {w : World} {B g c n : Nat} {T : List ByteArray} (h : w.ownsRow B 9 1 (.slice (some ⟨g, 0, none⟩) n c) n (strv T)) (hn : T.length = n) (hg : g < w.heap.size) : IsStrs w (some ⟨g, 0, none⟩) n (fun i => T.getD i ByteArray.empty) :=
  Or.inr ⟨g, 0, rfl, hg, fun i hi => by
    have := h.cells (g := g) rfl i (.string (T.getD i ByteArray.empty)) (by simp [strv, hn, hi])
    rwa [addr_add] at this⟩

/-- An operation's condition, kept shut. -/
structure OW (P : Program) (o : Oper) (a : Act) (w : World) (K : Act → World → Prop) (Q : Exit → Act → World → Prop) : Prop where
  out : Oper.wp P o a w K Q

/-- .. and what is asked at the end. -/
structure QN (Q : Exit → Act → World → Prop) (a : Act) (w : World) : Prop where
  out : Q .normal a w

/-- Each operation of a list keeps what is known; none has a guard. -/
def StepsP (P : Program) (Q : Exit → Act → World → Prop) (a0 : Act) (ds : List Nat) (J : (Nat → Bool) → (Nat → Value) → World → Prop) : List Oper → Nat → Prop
  | [], _ => True
  | o :: l, k => (∀ (L : Nat → Bool) (v : Nat → Value) (w : World), L k = false → (∀ e ∈ o.after.toList, Region.binds .any e = true → L e.on = true) → J L v w → ∀ K : Act → World → Prop,
      (∀ a' v' w', a' = upd a0 ds v' → J (lset L k) v' w' → K a' w') → OW P o (upd a0 ds v) w K Q) ∧ StepsP P Q a0 ds J l (k + 1)

theorem StepsP.all {P : Program} {ops : Array Oper} {Q : Exit → Act → World → Prop} {a0 : Act} {ds : List Nat} {J : (Nat → Bool) → (Nat → Value) → World → Prop} : ∀ {l : List Oper} {k : Nat}, (l.all fun o => o.guard.isNone) = true → StepsP P Q a0 ds J l k → StepsAll P ops Q a0 ds J l k
  | [], _, _, _ => trivial
  | o :: l, k, hg, h => by
    simp only [List.all_cons, Bool.and_eq_true] at hg
    refine ⟨fun L v w h0 hd hJ K hK => ?_, StepsP.all hg.2 h.2⟩
    have hw : Region.wanted o (yielded ops (upd a0 ds v).tmps) = true := by
      have : o.guard = none := by simpa using hg.1
      simp [Region.wanted, this]
    rw [if_pos hw]
    exact (h.1 L v w h0 hd hJ K hK).out

theorem wpAnyH_plain {P : Program} {Q : Exit → Act → World → Prop} {S : World → Prop} {l : List Oper} {a0 : Act} {w : World} {fuel : Nat} {listed : Array Bool} (ds : List Nat) (J : (Nat → Bool) → (Nat → Value) → World → Prop) (hB : laterB l.toArray = true) (hg : (l.all fun o => o.guard.isNone) = true) (hn : listed.size = l.length) (hc : listed.toList.count false ≤ fuel)
    (h0 : ∀ v, J (fun j => listed.getD j false) v w) (hS : ∀ L v w, J L v w → S w) (hs : StepsP P Q a0 ds J l 0) (fin : ∀ L v w', (∀ i, i < l.length → L i = true) → J L v w' → QN Q (upd a0 ds v) w') : wpAnyH P .any l.toArray Q S fuel listed a0 w :=
  wpAnyH_vals ds J hB hn hc h0 hS (StepsP.all hg hs) (fun L v w' h1 h2 => (fin L v w' h1 h2).out)

theorem listed_none (md : Region.Mode) (ops : Array Oper) : ListedOk md ops (Array.replicate ops.size false) := ⟨by simp, fun j oj hj hl e he hbn => by
    rw [Array.getD_eq_getD_getElem?, Array.getElem?_replicate] at hl
    split at hl <;> cases hl⟩

theorem wpAny_peel1 {P : Program} {Q : Exit → Act → World → Prop} {ops : Array Oper} {a : Act} {w : World} (o : Oper) (hb : ops.back? = some o) (hok : peelOk .any ops.pop o = true) (h : wpAny P .any ops.pop (Peel P o Q) ops.pop.size (Array.replicate ops.pop.size false) a w) : wpAny P .any ops Q ops.size (Array.replicate ops.size false) a w := by
  have hp := push_pop hb
  have := wpAny_peel (Q := Q) (P := P) (peelOk_spec hok) ops.pop.size (Array.replicate ops.pop.size false) a w (listed_none _ _) h
  have e1 : (Array.replicate ops.pop.size false).push false = Array.replicate ops.size false := by
    rw [← hp]; simp [Array.replicate_succ]
  have e2 : ops.pop.size + 1 = ops.size := by rw [← hp]; simp
  rw [hp, e1, e2] at this
  exact this

/-- The last three operations are cut off. -/
theorem wp_region_peel3 {P : Program} {Q : Exit → Act → World → Prop} {id : Nat} {ops : Array Oper} {a : Act} {w : World} (S : World → Prop) (o1 o2 o3 : Oper) (hm : P.follows .mixedOrders = true) (hb3 : ops.back? = some o3) (hb2 : ops.pop.back? = some o2) (hb1 : ops.pop.pop.back? = some o1)
    (hok3 : peelOk .any ops.pop o3 = true) (hok2 : peelOk .any ops.pop.pop o2 = true) (hok1 : peelOk .any ops.pop.pop.pop o1 = true)
    (hS : S w.drew) (h : S w.drew → wpAnyH P .any ops.pop.pop.pop (Peel P o1 (Peel P o2 (Peel P o3 Q))) S ops.pop.pop.pop.size (Array.replicate ops.pop.pop.pop.size false) a w.drew) : (Code.region id ops true).wp P Q a w :=
  wp_region_any hm (wpAny_peel1 o3 hb3 hok3 (wpAny_peel1 o2 hb2 hok2 (wpAny_peel1 o1 hb1 hok1 (wpAny_of_held _ _ _ _ (h hS)))))

/-- The last two. -/
theorem wp_region_peel2 {P : Program} {Q : Exit → Act → World → Prop} {id : Nat} {ops : Array Oper} {a : Act} {w : World} (S : World → Prop) (o2 o3 : Oper) (hm : P.follows .mixedOrders = true) (hb3 : ops.back? = some o3) (hb2 : ops.pop.back? = some o2)
    (hok3 : peelOk .any ops.pop o3 = true) (hok2 : peelOk .any ops.pop.pop o2 = true)
    (hS : S w.drew) (h : S w.drew → wpAnyH P .any ops.pop.pop (Peel P o2 (Peel P o3 Q)) S ops.pop.pop.size (Array.replicate ops.pop.pop.size false) a w.drew) : (Code.region id ops true).wp P Q a w :=
  wp_region_any hm (wpAny_peel1 o3 hb3 hok3 (wpAny_peel1 o2 hb2 hok2 (wpAny_of_held _ _ _ _ (h hS))))

theorem wpAnyH_act {P : Program} {md : Region.Mode} {ops : Array Oper} {Q : Exit → Act → World → Prop} {S : World → Prop} {fuel : Nat} {listed : Array Bool} {a : Act} {w : World} (h : ∀ a0, a0 = a → wpAnyH P md ops Q S fuel listed a0 w) : wpAnyH P md ops Q S fuel listed a w := h a rfl
end Go.Proofs.Ytbifhfnoogjoeaa
