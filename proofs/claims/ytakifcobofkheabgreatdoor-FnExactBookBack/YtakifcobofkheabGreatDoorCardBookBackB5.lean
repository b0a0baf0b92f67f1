/-
  FnExactBookBack as it is stated: the card.
-/
import Derived.Test.YtakifcobofkheabGreatDoorCardBookBackB4
import Derived.RangeFuncNested
import Derived.RangeFuncBound
import Derived.WalkSmall
import Derived.RangeFuncBox
import Derived.OwnWalkIn
import Derived.Maps.OwnIn
import Derived.Maps.AppendAt
import Derived.Test.YtakifcobofkheabGreatDoorRows
import Derived.ProofKit
import Derived.LaidMore
import Derived.LaidHandle
import Derived.OpenShut
import Derived.ShutString
import Derived.ChangeOld
import Derived.Stop.LaidErr
import Derived.Stop.Joined
import Derived.Test.YtakifcobofkheabGreatDoorCards
import Derived.Test.YtakifcobofkheabGreatDoorTie
import Derived.SevenTiedAt

/-
  A range over an iterator that lays blocks of its own and turns them between two rounds: what it laid goes with the caller's word as a set.
-/
namespace Go.Proofs.YtakifcobofkheabGreatDoor
open Go.RowKit Go.Deep
set_option linter.unusedVariables false

/-- J may be said behind a turn of a block of X, and where new blocks have come, which may join X. -/
def AbidesSet {β : Type} (J : β → (Nat → Prop) → World → Prop) : Prop :=
  ∀ s (X X' : Nat → Prop) W W' row, J s X W → W.grownBy W' row → (∀ r, row = some r → X r) → (∀ r, X' r → X r ∨ (W.heap.size ≤ r ∧ r < W'.heap.size)) → J s X' W'

structure KeepsSet (X : Nat → Prop) (W W' : World) : Prop where
  size : W.heap.size ≤ W'.heap.size
  same : ∀ r, X r → r < W.heap.size → W'.heap[r]? = W.heap[r]?

def SeqSet {α : Type} (F : Fence) (n : Nat) (P : Program) (g : Nat) (lb : Array Value) (encs : α → Array Value) (Z : Nat → Prop) (S Sp : List α → Prop) (N : Nat) (w : World) : Prop :=
  ∀ (l : Nat) (J Jx : List α → (Nat → Prop) → World → Prop) (W : World), Below w.heap.size w W → AbidesSet J → AbidesSet Jx →
    (∀ pre x X W1, J pre X W1 → pre.length < N → YieldAt F (n - 1) P l (encs x) W1 fun e W' =>
      (e = .returned (.bool true) ∧ J (pre ++ [x]) X W' ∧ KeepsSet (fun r => X r ∨ Z r) W1 W') ∨ (e = .returned (.bool false) ∧ Jx (pre ++ [x]) X W' ∧ KeepsSet (fun r => X r ∨ Z r) W1 W')) →
    J [] (fun _ => False) W →
    CallsIn F n P g (#[.func (.yield l) #[] #[]] ++ lb) W fun e W' => (∃ v, e = .returned v) ∧ ((∃ xs X, S xs ∧ J xs X W') ∨ (∃ pre X, Sp pre ∧ Jx pre X W'))

/-- How a round may be left. -/
def setPost {α : Type} (Z : Nat → Prop) (I : List α → (Nat → Prop) → World → Prop) (Ix : Code → List α → (Nat → Prop) → World → Prop) (xs : List α) (X : Nat → Prop) (W : World) : Exit → Act → World → Prop
  | .normal, _, W' => KeepsSet (fun r => X r ∨ Z r) W W' ∧ I xs X W'
  | .ret, _, W' => KeepsSet (fun r => X r ∨ Z r) W W' ∧ Ix .ret xs X W'
  | .exit id, _, W' => KeepsSet (fun r => X r ∨ Z r) W W' ∧ Ix (.exit id) xs X W'
  | .goto t, _, W' => KeepsSet (fun r => X r ∨ Z r) W W' ∧ Ix (.goto t) xs X W'
  | _, _, _ => False

section
variable {F : Fence} {n : Nat} {P : Program}

theorem AbidesSet.turn {β : Type} {J : β → (Nat → Prop) → World → Prop} (h : AbidesSet J) {s : β} {X : Nat → Prop} {W : World} {r : Nat} (hs : J s X W) (hr : X r) (o : Obj) : J s X (W.putObj r o) :=
  h s X X W _ (some r) hs (grownBy_putObj' W r o) (fun k e => by cases e; exact hr) (fun k hk => Or.inl hk)

theorem wpIn_rangeFunc_set {α : Type} {g : Operand} {ps : Array Tmp} {assign body : Code} {Q : Exit → Act → World → Prop} {a : Act} {w : World}
    (hro : F.round = none) (h1 : 1 ≤ n) {gf : Nat} {lb : Array Value} (hg : a.eval g = .func (.func gf) #[] lb) (hFg : F.fn gf) (eg : ∀ args w, (callFunc gf args).run P w = .ok (.enter gf args) w)
    {encs : α → Array Value} {Z : Nat → Prop} {S Sp : List α → Prop} {N : Nat} {w0 : World} (hseq : SeqSet F (n - 1) P gf lb encs Z S Sp N w0) (hZ : ∀ r, Z r → r < w.heap.size) (hb0 : Below w0.heap.size w0 w) (hps : ∀ x, (encs x).size = ps.size)
    (I : List α → (Nat → Prop) → World → Prop) (Ix : Code → List α → (Nat → Prop) → World → Prop) (hI : AbidesSet I) (hIx : ∀ c, AbidesSet (Ix c)) (h0 : I [] (fun _ => False) w) (Ax : α → (Nat → Prop) → Act → World → Prop) (hAx : ∀ x X a' W l r o', Ax x X a' W → W.heap[l]? = some (.loop r) → Ax x X a' (W.putObj l o'))
    (hassign : ∀ (l : Nat) (pre : List α) (x : α) (X : Nat → Prop) (W : World) (K : Act → World → Prop), I pre X W → (∀ a' W' (X' : Nat → Prop), (∀ r, X r → X' r) → (∀ r, X' r → X r ∨ (W.heap.size ≤ r ∧ r < W'.heap.size)) → KeepsSet (fun r => X r ∨ Z r) W W' → I pre X' W' → Ax x X' a' W' → K a' W') → assign.wpIn (F.inRound l) (n - 1 - 1) P (Exit.then K (fun _ _ _ => False)) { tmps := (ps.zip (encs x)).foldl (fun t (p, v) => t.setIfInBounds p v) a.tmps, defers := [] } W)
    (hbody : ∀ (l : Nat) (pre : List α) (x : α) (X : Nat → Prop) (a' : Act) (W : World), (∃ r, W.heap[l]? = some (.loop r)) → I pre X W → Ax x X a' W → pre.length < N → body.wpIn (F.inRound l) (n - 1 - 1) P (setPost Z I Ix (pre ++ [x]) X W) a' W)
    (hdone : ∀ (D : Nat) (xs : List α) (X : Nat → Prop) (W : World), w.heap.size ≤ D → X D → S xs → I xs X W → W.heap[D]? = some (.deferred (some [])) → Q .normal { a with defers := { target := .collected D, args := #[] } :: a.defers } W)
    (hstop : ∀ (D : Nat) (c : Code) (pre : List α) (X : Nat → Prop) (W : World), w.heap.size ≤ D → X D → Sp pre → Ix c pre X W → W.heap[D]? = some (.deferred (some [])) → c.wpIn F n P Q { a with defers := { target := .collected D, args := #[] } :: a.defers } W) :
    (Code.rangeFunc g ps assign body).wpIn F n P Q a w := by
  refine wpIn_rangeFunc ?_
  intro fn hfn
  rw [hro]
  obtain ⟨d, hd⟩ : ∃ d, d = w.heap.size := ⟨_, rfl⟩
  obtain ⟨rec, hrec⟩ : ∃ rec : LoopState → Option Code → Loop, rec = fun st pe => { state := st, pending := pe, fn, tmps := a.tmps, params := ps, assign, body, defers := d } := ⟨_, rfl⟩
  obtain ⟨U, hU⟩ : ∃ U, (w.alloc (.deferred (some []))).alloc (.loop (rec .ready none)) = U := ⟨_, rfl⟩
  have hUs : U.heap.size = d + 2 := by rw [← hU, hd]; simp
  have hl : U.heap[d + 1]? = some (.loop (rec .ready none)) := by
    rw [← hU, hd]; have := World.alloc_heap_new (w.alloc (.deferred (some []))) (.loop (rec .ready none)); rwa [World.size_alloc] at this
  have hk : U.heap[d]? = some (.deferred (some [])) := by
    rw [← hU, hd]; exact (blk_alloc_lt _ _ _ (by simp)).trans (World.alloc_heap_new w _)
  have hwU : Below w.heap.size w U := by rw [← hU]; exact ((Below.refl _ w).alloc (Nat.le_refl _) _).alloc (by simp) _
  -- the law's own two blocks
  let T : (Nat → Prop) → Nat → Prop := fun X r => X r ∨ r = d ∨ r = d + 1
  have hIU : I [] (T fun _ => False) U := by
    have s1 := hI [] (fun _ => False) (fun r => r = d) w _ none h0 (World.grownBy_alloc w (.deferred (some [])) none) (fun r e => by cases e) (fun r e => Or.inr (by subst e; simp; omega))
    have s2 := hI [] (fun r => r = d) (T fun _ => False) _ _ none s1 (World.grownBy_alloc _ (.loop (rec .ready none)) none) (fun r e => by cases e) (fun r e => by
      rcases e with e | e | e
      · exact e.elim
      · exact Or.inl e
      · right; subst e; simp; omega)
    rw [← hU]; exact s2
  refine ⟨d + 1, [{ target := .collected d, args := #[] }], U, { target := .fn (.func gf) lb, args := #[.func (.yield (d + 1)) #[] #[]] }, U, gf, #[.func (.yield (d + 1)) #[] #[]] ++ lb, U, ?_, ?_, ?_, ?_, fun _ => h1, ?_⟩
  · rw [← hU, hrec, hd]; exact run_enterLoop_outer _ _ _ _ _
  · simp only [resolve, hg]
    simp [go_sem]
  · intro f' hf'; simp [Target.leads] at hf'; subst hf'; exact hFg
  · simp [invoke, go_sem, eg]
  · have hab : ∀ {I' : List α → (Nat → Prop) → World → Prop} (st : Loop), AbidesSet I' → AbidesSet (fun pre X W => I' pre (T X) W ∧ W.heap[d + 1]? = some (.loop st) ∧ W.heap[d]? = some (.deferred (some [])) ∧ ¬ X d ∧ ¬ X (d + 1)) := by
      intro I' st hI' s X X' W W' row hs hgr hrow hX
      obtain ⟨h1, h2, h3, h4, h5⟩ := hs
      have q1 := (Array.getElem?_eq_some_iff.1 h2).1
      have q2 := (Array.getElem?_eq_some_iff.1 h3).1
      refine ⟨hI' s (T X) (T X') W W' row h1 hgr (fun r e => Or.inl (hrow r e)) (fun r e => ?_), (hgr.block _ q1 (fun e => h5 (hrow _ e.symm))).trans h2, (hgr.block _ q2 (fun e => h4 (hrow _ e.symm))).trans h3, fun e => ?_, fun e => ?_⟩
      · rcases e with e | e
        · rcases hX r e with e | e
          · exact Or.inl (Or.inl e)
          · exact Or.inr e
        · exact Or.inl (Or.inr e)
      · rcases hX _ e with e | e
        · exact h4 e
        · omega
      · rcases hX _ e with e | e
        · exact h5 e
        · omega
    refine (hseq (d + 1) (fun pre X W => I pre (T X) W ∧ W.heap[d + 1]? = some (.loop (rec .ready none)) ∧ W.heap[d]? = some (.deferred (some [])) ∧ ¬ X d ∧ ¬ X (d + 1))
      (fun pre X W => ∃ c, Ix c pre (T X) W ∧ W.heap[d + 1]? = some (.loop (rec .done (some c))) ∧ W.heap[d]? = some (.deferred (some [])) ∧ ¬ X d ∧ ¬ X (d + 1))
      U (hb0.trans (hwU.mono hb0.size)) (hab _ hI) (fun s X X' W W' row hs hgr hrow hX => by obtain ⟨c, hc⟩ := hs; exact ⟨c, hab _ (hIx c) s X X' W W' row hc hgr hrow hX⟩) ?_ ⟨hIU, hl, hk, id, id⟩).mono ?_
    · rintro pre x X W ⟨hi, hl, hk, hX1, hX2⟩ hlen
      have hlt : d + 1 < W.heap.size := (Array.getElem?_eq_some_iff.1 hl).1
      have hy := run_yield (P := P) (args := encs x) hl (by rw [hrec]; exact hps x)
      rw [hrec] at hy
      refine ⟨fn, _, assign, body, hy, roundIn_of_wpIn hfn (hassign _ pre x (T X) W _ hi ?_)⟩
      clear hy
      obtain ⟨V, hV⟩ : ∃ V, V = W := ⟨_, rfl⟩
      rw [← hV] at hl hk hlt hi ⊢
      clear hV
      intro a' W Y hYs hYn hka hia hax
      have hVk := hlt
      replace hl := (hka.same (d + 1) (Or.inl (Or.inr (Or.inr rfl))) hlt).trans hl
      replace hk := (hka.same d (Or.inl (Or.inr (Or.inl rfl))) (by omega)).trans hk
      replace hlt : d + 1 < W.heap.size := (Array.getElem?_eq_some_iff.1 hl).1
      replace hi := hia
      refine ⟨_, run_beginRound hl (by rw [hrec]), ?_⟩
      obtain ⟨W2, hW2⟩ : ∃ W2, W.putObj (d + 1) (.loop { rec .ready none with state := .busy }) = W2 := ⟨_, rfl⟩
      have hl2 : W2.heap[d + 1]? = some (.loop { rec .ready none with state := .busy }) := by rw [← hW2]; exact World.putObj_heap_same hlt
      have hk2 : W2.heap[d]? = some (.deferred (some [])) := by rw [← hW2]; exact (World.putObj_heap_other (by omega)).trans hk
      have hYl : Y (d + 1) := hYs _ (Or.inr (Or.inr rfl))
      have hYd : Y d := hYs _ (Or.inr (Or.inl rfl))
      have hi2 : I pre Y W2 := by rw [← hW2]; exact hI.turn hi hYl _
      have hs2 : W2.heap.size = W.heap.size := by rw [← hW2]; simp [World.putObj]
      rw [hW2]
      have hax2 : Ax x Y a' W2 := by rw [← hW2]; exact hAx _ _ _ _ _ _ _ hax hl
      have less : ∀ {I' : List α → (Nat → Prop) → World → Prop}, AbidesSet I' → ∀ {ys : List α} {U : World}, I' ys Y U → I' ys (T X) U := fun hI' ys U h => hI' ys Y (T X) U U none h (World.grownBy.refl _ _) (fun r e => by cases e) (fun r hr => Or.inl (hYs r hr))
      refine wpIn_mono (hbody _ pre x Y a' W2 ⟨_, hl2⟩ hi2 hax2 hlen) ?_
      have fin : ∀ (jump : Option Code) (W3 : World), KeepsSet (fun r => Y r ∨ Z r) W2 W3 →
          (Instr.endRound (d + 1) jump).run P W3 = .ok (.bool jump.isNone) (W3.putObj (d + 1) (.loop (rec (if jump.isNone then .ready else .done) jump))) ∧
          (W3.putObj (d + 1) (.loop (rec (if jump.isNone then .ready else .done) jump))).heap[d + 1]? = some (.loop (rec (if jump.isNone then .ready else .done) jump)) ∧
          (W3.putObj (d + 1) (.loop (rec (if jump.isNone then .ready else .done) jump))).heap[d]? = some (.deferred (some [])) ∧
          KeepsSet (fun r => X r ∨ Z r) V (W3.putObj (d + 1) (.loop (rec (if jump.isNone then .ready else .done) jump))) := fun jump W3 hk3 => by
        have hl3 := (hk3.same (d + 1) (Or.inl hYl) (by omega)).trans hl2
        have hd3 := (hk3.same d (Or.inl hYd) (by omega)).trans hk2
        have := run_endRound (P := P) jump hl3
        rw [hrec] at this ⊢
        refine ⟨this, World.putObj_heap_same (Array.getElem?_eq_some_iff.1 hl3).1, (World.putObj_heap_other (by omega)).trans hd3, ⟨?_, fun r hr hlr => ?_⟩⟩
        · have := hk3.size
          have := hka.size
          simp [World.putObj]
          omega
        · have hne : r ≠ d + 1 := by
            rintro rfl
            rcases hr with hr | hr
            · exact hX2 hr
            · have := hZ _ hr; omega
          refine (World.putObj_heap_other hne).trans ((hk3.same r (hr.imp (fun h => hYs r (Or.inl h)) id) (by have := hka.size; omega)).trans (Eq.trans ?_ (hka.same r (hr.imp Or.inl id) hlr)))
          rw [← hW2]
          exact World.putObj_heap_other hne
      rintro e a3 W3 hp
      cases e with
      | normal =>
        obtain ⟨hk3, hi3⟩ := hp
        obtain ⟨hr, hl4, hk4, hk5⟩ := fin none W3 hk3
        exact ⟨_, _, hr, .inl ⟨rfl, ⟨hI.turn (less hI hi3) (Or.inr (Or.inr rfl)) _, hl4, hk4, hX1, hX2⟩, hk5⟩⟩
      | ret =>
        obtain ⟨hk3, hi3⟩ := hp
        obtain ⟨hr, hl4, hk4, hk5⟩ := fin (some .ret) W3 hk3
        exact ⟨_, _, hr, .inr ⟨rfl, ⟨.ret, (hIx _).turn (less (hIx _) hi3) (Or.inr (Or.inr rfl)) _, hl4, hk4, hX1, hX2⟩, hk5⟩⟩
      | exit id =>
        obtain ⟨hk3, hi3⟩ := hp
        obtain ⟨hr, hl4, hk4, hk5⟩ := fin (some (.exit id)) W3 hk3
        exact ⟨_, _, hr, .inr ⟨rfl, ⟨.exit id, (hIx _).turn (less (hIx _) hi3) (Or.inr (Or.inr rfl)) _, hl4, hk4, hX1, hX2⟩, hk5⟩⟩
      | goto t =>
        obtain ⟨hk3, hi3⟩ := hp
        obtain ⟨hr, hl4, hk4, hk5⟩ := fin (some (.goto t)) W3 hk3
        exact ⟨_, _, hr, .inr ⟨rfl, ⟨.goto t, (hIx _).turn (less (hIx _) hi3) (Or.inr (Or.inr rfl)) _, hl4, hk4, hX1, hX2⟩, hk5⟩⟩
      | panic ch => exact hp.elim
      | outgrown => exact hp.elim
    · rintro e W2 ⟨⟨v, rfl⟩, (⟨xs, X, hS, hi, hl, hk, _, _⟩ | ⟨pre, X, hSp, c, hi, hl, hk, _, _⟩)⟩
      · exact ⟨none, _, by have := run_endLoop (P := P) hl (by rw [hrec]; simp); rw [hrec] at this; exact this, hdone d xs (T X) _ (by omega) (Or.inr (Or.inl rfl)) hS (hI.turn hi (Or.inr (Or.inr rfl)) _) ((World.putObj_heap_other (by omega)).trans hk)⟩
      · exact ⟨some c, _, by have := run_endLoop (P := P) hl (by rw [hrec]; simp); rw [hrec] at this; exact this, hstop d c pre (T X) _ (by omega) (Or.inr (Or.inl rfl)) hSp ((hIx c).turn hi (Or.inr (Or.inr rfl)) _) ((World.putObj_heap_other (by omega)).trans hk)⟩
end

theorem backward_set (q : Nat) (hq : 1 ≤ q) (T b off n c : Nat) (a : Option Addr) (hA : 0 < n → a = some ⟨b, off, none⟩) (V : Nat → Int) (D : Nat → Dp) (L : Nat → DLoc) (hn : n ≤ 1048576) (w0 : World)
    (hT : w0.cell? ⟨T, 0, none⟩ = some (.slice a n c)) (hTl : T < w0.heap.size) (hbl : 0 < n → b < w0.heap.size)
    (hc : ∀ i, i < n → w0.cell? ⟨b, off + i * 5, none⟩ = some (.int .i64 (V i)) ∧ w0.cell? ⟨b, off + i * 5 + 1, none⟩ = some (.int .i64 (D i).since) ∧ w0.cell? ⟨b, off + i * 5 + 2, none⟩ = some (.int .i64 (D i).date) ∧
      w0.cell? ⟨b, off + i * 5 + 3, none⟩ = some (.slice (L i).lA (D i).ln (L i).lc) ∧ w0.cell? ⟨b, off + i * 5 + 4, none⟩ = some (.slice (L i).iA (D i).m (L i).ic)) :
    SeqSet Fence.wide q Tryz.prog 123 #[.pointer (some ⟨T, 0, none⟩)] (fun x : Nat => #[.int .i64 (x : Int), recV (V x) (D x) (L x)]) (fun r => r = T ∨ (r = b ∧ 0 < n)) (fun xs => xs = downs n n) (fun _ => True) n w0 := by
  intro l J Jx W hW hJ hJx hY h0
  refine (backward1_in q hq l T b off n c a hA V D L hn (fun k W => J (downs n k) (fun _ => False) W ∧ T < W.heap.size ∧ (0 < n → b < W.heap.size)) (fun W => ∃ p X, Jx p X W) ?_ W ((hW.cell (p := ⟨T, 0, none⟩) hTl).trans hT) ?_ ⟨h0, Nat.lt_of_lt_of_le hTl hW.size, fun h => Nat.lt_of_lt_of_le (hbl h) hW.size⟩).mono ?_
  · rintro k W1 hk ⟨hp, hp1, hp2⟩
    obtain ⟨fn, tmps, assign, body, hy, hR⟩ := hY (downs n k) (n - 1 - k) _ W1 hp (by rw [downs_length]; exact hk)
    refine ⟨fn, tmps, assign, body, hy, hR.mono ?_⟩
    rintro e W2 (⟨rfl, h1, h2⟩ | ⟨rfl, h1, _⟩)
    · refine Or.inl ⟨rfl, ⟨by rw [downs_succ]; exact h1, Nat.lt_of_lt_of_le hp1 h2.size, fun h => Nat.lt_of_lt_of_le (hp2 h) h2.size⟩, h2.same T (Or.inr (Or.inl rfl)) hp1, h2.same b (Or.inr (Or.inr ⟨rfl, by omega⟩)) (hp2 (by omega))⟩
    · exact Or.inr ⟨rfl, _, _, h1⟩
  · intro i hi
    obtain ⟨c0, c1, c2, c3, c4⟩ := hc i hi
    have k : ∀ o v, w0.cell? ⟨b, o, none⟩ = some v → W.cell? ⟨b, o, none⟩ = some v := fun o v h => (hW.cell (p := ⟨b, o, none⟩) (hbl (by omega))).trans h
    exact ⟨k _ _ c0, k _ _ c1, k _ _ c2, k _ _ c3, k _ _ c4⟩
  · rintro e W2 ⟨hv, ⟨h1, _⟩ | ⟨p, X, h2⟩⟩
    · exact ⟨hv, Or.inl ⟨_, _, rfl, h1⟩⟩
    · exact ⟨hv, Or.inr ⟨p, X, trivial, h2⟩⟩
end Go.Proofs.YtakifcobofkheabGreatDoor

/-
  The places that are needed, as neededFromEnd yields them.
-/
namespace Go.Proofs.YtakifcobofkheabGreatDoor
open Go.RowKit Go.Deep
set_option linter.unusedVariables false
set_option linter.unusedSimpArgs false
attribute [local go_sem] Oper.semAt_some

/-- The least level that the first of these leave, at first 10; and which of them are chosen, in their order. -/
def leastOf (V : Nat → Int) (xs : List Nat) : Int := xs.foldl (fun m x => if V x < m ∧ 0 ≤ V x then V x else m) 10
def chosen (V : Nat → Int) (xs : List Nat) : List Nat := (xs.foldl (fun (p : List Nat × Int) x => if V x < p.2 ∧ 0 ≤ V x then (p.1 ++ [x], V x) else p) ([], 10)).1

theorem fold_least (V : Nat → Int) (xs : List Nat) : (xs.foldl (fun (p : List Nat × Int) x => if V x < p.2 ∧ 0 ≤ V x then (p.1 ++ [x], V x) else p) ([], 10)).2 = leastOf V xs := by
  unfold leastOf
  have : ∀ (xs : List Nat) (p : List Nat × Int), (xs.foldl (fun (p : List Nat × Int) x => if V x < p.2 ∧ 0 ≤ V x then (p.1 ++ [x], V x) else p) p).2 = xs.foldl (fun m x => if V x < m ∧ 0 ≤ V x then V x else m) p.2 := by
    intro xs
    induction xs with
    | nil => intro p; rfl
    | cons x xs ih =>
      intro p
      rw [List.foldl_cons, List.foldl_cons, ih]
      congr 1
      split <;> rfl
  exact this xs _

theorem least_yes {V : Nat → Int} {xs : List Nat} {x : Nat} (h : V x < leastOf V xs ∧ 0 ≤ V x) : leastOf V (xs ++ [x]) = V x ∧ chosen V (xs ++ [x]) = chosen V xs ++ [x] := by
  have hf := fold_least V xs
  constructor
  · have : leastOf V (xs ++ [x]) = if V x < leastOf V xs ∧ 0 ≤ V x then V x else leastOf V xs := by unfold leastOf; rw [List.foldl_append]; rfl
    rw [this, if_pos h]
  · unfold chosen
    rw [List.foldl_append, List.foldl_cons, List.foldl_nil]
    rw [hf, if_pos h]

theorem least_no {V : Nat → Int} {xs : List Nat} {x : Nat} (h : ¬ (V x < leastOf V xs ∧ 0 ≤ V x)) : leastOf V (xs ++ [x]) = leastOf V xs ∧ chosen V (xs ++ [x]) = chosen V xs := by
  have hf := fold_least V xs
  constructor
  · have : leastOf V (xs ++ [x]) = if V x < leastOf V xs ∧ 0 ≤ V x then V x else leastOf V xs := by unfold leastOf; rw [List.foldl_append]; rfl
    rw [this, if_neg h]
  · unfold chosen
    rw [List.foldl_append, List.foldl_cons, List.foldl_nil]
    rw [hf, if_neg h]

theorem chosen_le (V : Nat → Int) (xs : List Nat) : (chosen V xs).length ≤ xs.length := by
  have : ∀ (xs : List Nat) (p : List Nat × Int), (xs.foldl (fun (p : List Nat × Int) x => if V x < p.2 ∧ 0 ≤ V x then (p.1 ++ [x], V x) else p) p).1.length ≤ p.1.length + xs.length := by
    intro xs
    induction xs with
    | nil => intro p; simp
    | cons x xs ih =>
      intro p
      rw [List.foldl_cons]
      refine Nat.le_trans (ih _) ?_
      split <;> simp <;> omega
  simpa [chosen] using this xs ([], 10)

theorem chosen_length (V : Nat → Int) : ∀ k n, (chosen V (downs n k)).length ≤ k
  | 0, n => by simp [chosen, downs]
  | k + 1, n => by
    have := chosen_length V k n
    rw [downs_succ]
    by_cases h : V (n - 1 - k) < leastOf V (downs n k) ∧ 0 ≤ V (n - 1 - k)
    · rw [(least_yes h).2]; simp; omega
    · rw [(least_no h).2]; omega

theorem least_downs (V : Nat → Int) (n : Nat) : ∀ k, leastOf V (downs n k) = leastFrom V n k ∧ (chosen V (downs n k)).reverse = chainFrom V n k
  | 0 => by simp [leastOf, chosen, downs, leastFrom, chainFrom]
  | k + 1 => by
    obtain ⟨h1, h2⟩ := least_downs V n k
    rw [downs_succ]
    unfold leastFrom chainFrom
    by_cases h : V (n - 1 - k) < leastOf V (downs n k) ∧ 0 ≤ V (n - 1 - k)
    · rw [(least_yes h).1, (least_yes h).2, if_pos (h1 ▸ h), if_pos (h1 ▸ h), List.reverse_append, h2]
      exact ⟨rfl, rfl⟩
    · rw [(least_no h).1, (least_no h).2, if_neg (h1 ▸ h), if_neg (h1 ▸ h)]
      exact ⟨h1, h2⟩

set_option maxRecDepth 100000 in
set_option maxHeartbeats 4000000 in
theorem needed_set (q : Nat) (hq : 3 ≤ q) (T b off n c : Nat) (a : Option Addr) (hA : 0 < n → a = some ⟨b, off, none⟩) (V : Nat → Int) (D : Nat → Dp) (L : Nat → DLoc) (hn : n ≤ 1048576) (w0 : World)
    (hT : w0.cell? ⟨T, 0, none⟩ = some (.slice a n c)) (hTl : T < w0.heap.size) (hbl : 0 < n → b < w0.heap.size)
    (hc : ∀ i, i < n → w0.cell? ⟨b, off + i * 5, none⟩ = some (.int .i64 (V i)) ∧ w0.cell? ⟨b, off + i * 5 + 1, none⟩ = some (.int .i64 (D i).since) ∧ w0.cell? ⟨b, off + i * 5 + 2, none⟩ = some (.int .i64 (D i).date) ∧
      w0.cell? ⟨b, off + i * 5 + 3, none⟩ = some (.slice (L i).lA (D i).ln (L i).lc) ∧ w0.cell? ⟨b, off + i * 5 + 4, none⟩ = some (.slice (L i).iA (D i).m (L i).ic)) :
    SeqSet Fence.wide q Tryz.prog 107 #[.pointer (some ⟨T, 0, none⟩)] (fun x : Nat => #[.int .i64 (x : Int)]) (fun r => r = b ∧ 0 < n) (fun xs => xs = chosen V (downs n n)) (fun _ => True) n w0 := by
  intro l J Jx W hW hJ hJx hY h0
  have hTW : W.cell? ⟨T, 0, none⟩ = some (.slice a n c) := (hW.cell (p := ⟨T, 0, none⟩) hTl).trans hT
  have hTlW : T < W.heap.size := Nat.lt_of_lt_of_le hTl hW.size
  have ne1 : T ≠ W.heap.size := by omega
  have ne2 : T ≠ W.heap.size + 1 := by omega
  refine callsIn_of_wp_marks Tryz.func107 rfl trivial ?_ rfl
  simp only [Tryz.ntmps107, List.size_toArray, List.length_cons, List.length_nil, Nat.reduceAdd, Nat.reduceSub, Array.replicate_succ, Array.replicate_zero, List.push_toArray, List.append_toArray, List.nil_append, List.cons_append]
  have hq1 : 1 ≤ q := by omega
  have hq2 : 1 ≤ q - 1 := by omega
  have hq3 : 1 ≤ q - 1 - 1 := by omega
  gi_wp2_with (refine ⟨trivial, ?_⟩; gi_at_call 108; refine (backward_in _ a n c _).mono ?_; rintro e w' ⟨rfl, rfl⟩)
  obtain ⟨B, hB⟩ : ∃ B, W.heap.size = B := ⟨_, rfl⟩
  have hWW : Below W.heap.size W (((W.alloc (.cells #[.func (.yield l) #[] #[]] 150)).alloc (.cells #[.int .i64 10] 3)).alloc (.cells #[.slice a n c] 47)) := (((Below.refl _ W).alloc (Nat.le_refl _) _).alloc (by simp) _).alloc (by simp; omega) _
  have hgr : W.grownBy (((W.alloc (.cells #[.func (.yield l) #[] #[]] 150)).alloc (.cells #[.int .i64 10] 3)).alloc (.cells #[.slice a n c] 47)) none := ((World.grownBy_alloc _ _ none).trans (World.grownBy_alloc _ _ none)).trans (World.grownBy_alloc _ _ none)
  have hBY := ((Boxed.new W 150 (.func (.yield l) #[] #[])).alloc (.cells #[.int .i64 10] 3)).alloc (.cells #[.slice a n c] 47)
  have hBL := (Boxed.new (W.alloc (.cells #[.func (.yield l) #[] #[]] 150)) 3 (.int .i64 10)).alloc (.cells #[.slice a n c] 47)
  have hBT := Boxed.new ((W.alloc (.cells #[.func (.yield l) #[] #[]] 150)).alloc (.cells #[.int .i64 10] 3)) 47 (.slice a n c)
  have hsz : (((W.alloc (.cells #[.func (.yield l) #[] #[]] 150)).alloc (.cells #[.int .i64 10] 3)).alloc (.cells #[.slice a n c] 47)).heap.size = B + 3 := by simp; omega
  simp only [World.size_alloc, hB] at hBY hBL hBT
  simp only [hB]
  obtain ⟨W0, hW0⟩ : ∃ W0, W0 = (((W.alloc (.cells #[.func (.yield l) #[] #[]] 150)).alloc (.cells #[.int .i64 10] 3)).alloc (.cells #[.slice a n c] 47)) := ⟨_, rfl⟩
  rw [← hW0] at hWW hgr hBY hBL hBT hsz ⊢
  clear hW0
  let own : Nat → Prop := fun r => r = B ∨ r = B + 1 ∨ r = B + 1 + 1
  have hJ0 : J [] (fun r => False ∨ own r) W0 := hJ [] (fun _ => False) _ W W0 none h0 hgr (fun r e => by cases e) (fun r e => by
    rcases e with e | e | e | e
    · exact e.elim
    all_goals right; omega)
  have hbl0 : 0 < n → b < W0.heap.size := fun h => by have := hbl h; have := hW.size; omega
  have hc0 : ∀ i, i < n → W0.cell? ⟨b, off + i * 5, none⟩ = some (.int .i64 (V i)) ∧ W0.cell? ⟨b, off + i * 5 + 1, none⟩ = some (.int .i64 (D i).since) ∧ W0.cell? ⟨b, off + i * 5 + 2, none⟩ = some (.int .i64 (D i).date) ∧
      W0.cell? ⟨b, off + i * 5 + 3, none⟩ = some (.slice (L i).lA (D i).ln (L i).lc) ∧ W0.cell? ⟨b, off + i * 5 + 4, none⟩ = some (.slice (L i).iA (D i).m (L i).ic) := fun i hi => by
    obtain ⟨c0, c1, c2, c3, c4⟩ := hc i hi
    have hb1 := hbl (by omega)
    have k : ∀ o v, w0.cell? ⟨b, o, none⟩ = some v → W0.cell? ⟨b, o, none⟩ = some v := fun o v h => ((hWW.cell (p := ⟨b, o, none⟩) (by have := hW.size; show b < W.heap.size; omega)).trans (hW.cell (p := ⟨b, o, none⟩) hb1)).trans h
    exact ⟨k _ _ c0, k _ _ c1, k _ _ c2, k _ _ c3, k _ _ c4⟩
  have HSeq : Hid _ := backward_set (q - 1) hq2 (B + 1 + 1) b off n c a hA V D L hn W0 hBT.cell (by omega) hbl0 hc0
  have HY : Hid _ := hY
  clear hY hc hc0 hgr hBT
  refine wpIn_rangeFunc_set rfl hq1 (gf := 123) (lb := #[.pointer (some ⟨B + 1 + 1, 0, none⟩)]) rfl trivial (enters_of Tryz.func123 (by kernel_rfl) rfl) HSeq.out ?hZ (Below.refl _ _) (fun _ => rfl)
    (fun pre X U => J (chosen V pre) (fun r => X r ∨ own r) U ∧ Boxed U B 150 (.func (.yield l) #[] #[]) ∧ Boxed U (B + 1) 3 (.int .i64 (leastOf V pre)) ∧ (∀ r, X r → B + 3 ≤ r ∧ r < U.heap.size) ∧ B + 3 ≤ U.heap.size)
    (fun c pre X U => c = .ret ∧ ∃ p, Jx p (fun r => X r ∨ own r) U) ?hI ?hIx ⟨hJ0, hBY, hBL, fun r h => h.elim, by omega⟩
    (fun x X a' U => ∃ Bx, U.cell? ⟨Bx, 0, none⟩ = some (.int .i64 (V x)) ∧ X Bx ∧ a' = { tmps := #[.func (.yield l) #[] #[], .pointer (some ⟨T, 0, none⟩), .pointer (some ⟨B, 0, none⟩), .pointer (some ⟨B + 1, 0, none⟩), .int .i64 (x : Nat), .pointer (some ⟨Bx, 0, none⟩), .slice a n c, .func (.func 123) #[] #[.pointer (some ⟨B + 1 + 1, 0, none⟩)], .int .i64 (x : Nat), .agg #[.int .i64 (V x), .int .i64 (D x).since, .int .i64 (D x).date, .slice (L x).lA (D x).ln (L x).lc, .slice (L x).iA (D x).m (L x).ic], undef, undef, undef, undef, undef, undef, undef, undef, undef, undef, undef, undef, undef, undef, undef], defers := [] }) ?hAx ?assign ?body ?done ?stop
  case hZ => rintro r (rfl | ⟨rfl, h⟩); omega; exact hbl0 h
  case hI =>
    rintro pre X X' U U' row ⟨k1, k2, k3, k4, k5⟩ hgr hrow hX
    refine ⟨hJ _ _ _ U U' row k1 hgr (fun r e => Or.inl (hrow r e)) (fun r e => ?_), k2.kept hgr (fun e => by have := k4 _ (hrow _ e.symm); omega), k3.kept hgr (fun e => by have := k4 _ (hrow _ e.symm); omega), fun r hr => ?_, by have := hgr.size; omega⟩
    · rcases e with e | e
      · exact (hX r e).imp Or.inl id
      · exact Or.inl (Or.inr e)
    · have := hgr.size
      rcases hX r hr with e | e
      · have := k4 r e; omega
      · omega
  case hIx =>
    rintro c pre X X' U U' row ⟨k0, p, k1⟩ hgr hrow hX
    refine ⟨k0, p, hJx _ _ _ U U' row k1 hgr (fun r e => Or.inl (hrow r e)) (fun r e => ?_)⟩
    rcases e with e | e
    · exact (hX r e).imp Or.inl id
    · exact Or.inl (Or.inr e)
  case hAx =>
    rintro x X a' U l' r o' ⟨Bx, h1, h2, h3⟩ hl'
    refine ⟨Bx, ?_, h2, h3⟩
    refine (World.cell?_of_block (a := ⟨Bx, 0, none⟩) (World.putObj_heap_other ?_)).trans h1
    rintro rfl
    simp [World.cell?, hl'] at h1
  case assign =>
    rintro l' pre x X U K hi hK
    have HK : Hid _ := hK
    have HI : Hid _ := hi
    clear hK hi
    dsimp only [recV]
    gi_wp2
    obtain ⟨k1, k2, k3, k4, k5⟩ := HI.out
    have nb := (Blk.new U #[.int .i64 (V x), .int .i64 (D x).since, .int .i64 (D x).date, .slice (L x).lA (D x).ln (L x).lc, .slice (L x).iA (D x).m (L x).ic] 77).cell 0
    refine HK.out _ _ (fun r => X r ∨ r = U.heap.size) (fun r h => Or.inl h) (fun r h => h.imp id fun e => by subst e; simp) ⟨by simp, fun r hr hl => blk_alloc_lt _ _ _ hl⟩ ⟨?_, k2.alloc _, k3.alloc _, fun r h => ?_, by simp; omega⟩ ⟨U.heap.size, nb, Or.inr rfl, rfl⟩
    · refine hJ _ _ _ U _ none k1 (World.grownBy_alloc _ _ none) (fun r e => by cases e) (fun r e => ?_)
      rcases e with (e | e) | e
      · exact Or.inl (Or.inl e)
      · right; subst e; simp
      · exact Or.inl (Or.inr e)
    · rcases h with h | h
      · have := k4 r h; simp; omega
      · subst h; simp; omega
  case done =>
    rintro DD xs X U hD hX rfl ⟨k1, k2, k3, k4, k5⟩ hk
    have HK : Hid (J (chosen V (downs n n)) (fun r => X r ∨ own r) (U.putObj DD (.deferred none))) := hJ.turn k1 (Or.inl hX) _
    have HD : Hid _ := hk
    clear k1 k2 k3 hk
    gi_wp2
    refine ⟨by simp, .inl ⟨_, _, rfl, run_takeDeferred HD.out, ?_⟩⟩
    exact ⟨_, results_none rfl _ _ _, ⟨_, rfl⟩, .inl ⟨_, HK.out⟩⟩
  case stop =>
    rintro DD cc pre X U hD hX _ ⟨rfl, p, k1⟩ hk
    have HK : Hid (Jx p (fun r => X r ∨ own r) (U.putObj DD (.deferred none))) := hJx.turn k1 (Or.inl hX) _
    have HD : Hid _ := hk
    clear k1 hk
    gi_wp2
    refine ⟨by simp, .inl ⟨_, _, rfl, run_takeDeferred HD.out, ?_⟩⟩
    exact ⟨_, results_none rfl _ _ _, ⟨_, rfl⟩, .inr ⟨_, _, HK.out⟩⟩
  case body =>
    rintro l' pre x X a' U ⟨r, hr⟩ ⟨k1, k2, k3, k4, k5⟩ ⟨Bx, hx, hXB, rfl⟩ hlen
    have HI : Hid (J (chosen V pre) (fun r => X r ∨ own r) U) := k1
    have y0 := k2.cell
    have l0 := k3.cell
    have lf := k3.frozen
    by_cases hneg : V x < 0
    · have hneg' : decide (V x < 0) = true := decide_eq_true hneg
      have hno := least_no (V := V) (xs := pre) (x := x) (by omega)
      clear k1 lf
      gi_wp2
      exact ⟨⟨Nat.le_refl _, fun _ _ _ => rfl⟩, by rw [hno.2]; exact HI.out, k2, by rw [hno.1]; exact k3, k4, k5⟩
    · have hneg' : decide (V x < 0) = false := decide_eq_false hneg
      by_cases hge : leastOf V pre ≤ V x
      · have hge' : decide (leastOf V pre ≤ V x) = true := decide_eq_true hge
        have hno := least_no (V := V) (xs := pre) (x := x) (by omega)
        clear k1 lf
        gi_wp2
        exact ⟨⟨Nat.le_refl _, fun _ _ _ => rfl⟩, by rw [hno.2]; exact HI.out, k2, by rw [hno.1]; exact k3, k4, k5⟩
      · have hge' : decide (leastOf V pre ≤ V x) = false := decide_eq_false hge
        have hyes := least_yes (V := V) (xs := pre) (x := x) (by omega)
        obtain ⟨fn, tmps, assign, body, hy, hR⟩ := HY.out (chosen V pre) x _ U HI.out (Nat.lt_of_le_of_lt (chosen_le V pre) hlen)
        have hbB : 0 < n → b < B := fun h => by have := hbl h; have := hW.size; omega
        have hBxl := (k4 Bx hXB).2
        clear k1
        gi_wp2
        refine RoundIn.mono (⟨hR.1, fun c cs _ => hR.2 c cs (fun d h => by cases h)⟩ : RoundIn (Fence.wide.inRound l') (q - 1 - 1 - 1) Tryz.prog l fn tmps assign body U _) ?_
        clear hy hR
        rintro e' W3 (⟨rfl, hJ3, hk3⟩ | ⟨rfl, hJ3, hk3⟩)
        · have b3 : W3.cell? ⟨Bx, 0, none⟩ = some (.int .i64 (V x)) := (World.cell?_of_block (a := ⟨Bx, 0, none⟩) (hk3.same Bx (Or.inl (Or.inl hXB)) hBxl)).trans hx
          have y3 : Boxed W3 B 150 (.func (.yield l) #[] #[]) := (hk3.same B (Or.inl (Or.inr (Or.inl rfl))) (by omega)).trans k2
          have l3 : Boxed W3 (B + 1) 3 (.int .i64 (leastOf V pre)) := (hk3.same (B + 1) (Or.inl (Or.inr (Or.inr (Or.inl rfl)))) (by omega)).trans k3
          have H3 : Hid _ := And.intro hJ3 hk3
          have lc := l3.cell
          have lf3 := l3.frozen
          clear hJ3 hk3 hx y0 l0 lf
          gi_wp2
          refine ⟨⟨?_, fun r hr hl => ?_⟩, ?_, y3.kept (grownBy_setCell' W3 (B + 1) _) (fun e => by simp at e), by rw [hyes.1]; exact l3.set _, fun r h => ?_, ?_⟩
          · have := H3.out.2.size; simp [World.setCell]; omega
          · have hne : r ≠ B + 1 := by
              rintro rfl
              rcases hr with h | h | ⟨h, h'⟩
              · have := k4 _ h; omega
              · omega
              · have := hbB h'; omega
            refine (blk_setCell_other _ _ _ _ hne).trans (H3.out.2.same r ?_ hl)
            rcases hr with h | h | h
            · exact Or.inl (Or.inl h)
            · exact Or.inl (Or.inr (Or.inr (Or.inr h)))
            · exact Or.inr h
          · rw [hyes.2]
            exact hJ _ _ _ W3 _ (some (B + 1)) H3.out.1 (grownBy_setCell' W3 (B + 1) _) (fun r e => by cases e; exact Or.inr (Or.inr (Or.inl rfl))) (fun r h => Or.inl h)
          · have := k4 r h; have := H3.out.2.size; simp [World.setCell]; omega
          · have := H3.out.2.size; simp [World.setCell]; omega
        · have H3 : Hid _ := And.intro hJ3 hk3
          clear hJ3 hk3 hx y0 l0 lf
          gi_wp2
          refine ⟨⟨H3.out.2.size, fun r hr hl => H3.out.2.same r ?_ hl⟩, rfl, _, H3.out.1⟩
          rcases hr with h | h | h
          · exact Or.inl (Or.inl h)
          · exact Or.inl (Or.inr (Or.inr (Or.inr h)))
          · exact Or.inr h
end Go.Proofs.YtakifcobofkheabGreatDoor

/-
  What BookChain of the specification answers.
-/
namespace Go.Proofs.YtakifcobofkheabGreatDoor
open Go.RowKit Go.Deep
set_option linter.unusedVariables false
set_option linter.unusedSimpArgs false

/-- Numbers as cells. -/
def plcv (L : List Nat) : List Value := L.map fun x : Nat => Value.int .i64 (x : Int)
theorem plcv_len (L : List Nat) : (plcv L).length = L.length := by simp [plcv]
theorem plcv_one (L : List Nat) : ∀ u ∈ plcv L, u.oneCell' = true := by
  intro u hu
  simp only [plcv, List.mem_map] at hu
  obtain ⟨x, _, rfl⟩ := hu
  rfl

/-- A list of places in memory of one's own. -/
def OwnN (w : World) (B : Nat) (v : Value) (l : List Nat) : Prop := w.ownsRow B 3 1 v l.length (plcv l)

theorem OwnN.below {w w' : World} {B : Nat} {v : Value} {l : List Nat} (h : OwnN w B v l) (hb : Below w.heap.size w w') : OwnN w' B v l :=
  eowns_same h fun b e => hb.block b (eowns_block h e).2

theorem OwnN.alloc {w : World} {B : Nat} {v : Value} {l : List Nat} (h : OwnN w B v l) (o : Obj) : OwnN (w.alloc o) B v l := World.ownsRow.alloc h o

theorem OwnN.lower {w : World} {B B' : Nat} {v : Value} {l : List Nat} (h : OwnN w B v l) (hB : B' ≤ B) : OwnN w B' v l := by
  refine ⟨h.1, ?_⟩
  rcases h.2 with h0 | ⟨g, cap, cur, hv, hb, hr⟩
  · exact Or.inl h0
  · exact Or.inr ⟨g, cap, cur, hv, by omega, hr⟩

theorem OwnN.empty (w : World) : OwnN (w.alloc (.cells #[] 3)) w.heap.size (.slice (some ⟨w.heap.size, 0, none⟩) 0 0) [] :=
  ⟨rfl, Or.inr ⟨w.heap.size, 0, #[], rfl, Nat.le_refl _, ent_new_block _ _, Nat.le_refl _, by unfold maxLen; omega, rfl, rfl⟩⟩
theorem OwnN.nil (w : World) (B : Nat) : OwnN w B (.slice none 0 0) [] := World.ownsRow_nil _ _ _ _

/-- A list of one in a new block. -/
theorem OwnN.one (w : World) (x : Nat) : OwnN (w.alloc (.cells #[.int .i64 (x : Int)] 3)) w.heap.size (.slice (some ⟨w.heap.size, 0, none⟩) 1 1) [x] :=
  ⟨rfl, Or.inr ⟨w.heap.size, 1, #[.int .i64 (x : Int)], rfl, Nat.le_refl _, ent_new_block _ _, Nat.le_refl _, by unfold maxLen; omega, rfl, rfl⟩⟩

theorem OwnN.reads {w : World} {B n c : Nat} {a : Option Addr} {l : List Nat} (h : OwnN w B (.slice a n c) l) : IsInts w a n (fun i => ((l.getD i 0 : Nat) : Int)) ∧ n = l.length ∧ n ≤ c ∧ c ≤ maxLen := by
  rcases h.2 with ⟨h0, hz⟩ | ⟨g, cap, cur, hv, hB, hg, hn, hm, hsz, htake⟩
  · cases h0
    exact ⟨Or.inl rfl, hz.symm, Nat.le_refl _, by unfold maxLen; omega⟩
  · cases hv
    refine ⟨Or.inr ⟨g, 0, rfl, (Array.getElem?_eq_some_iff.1 hg).1, fun i hi => ?_⟩, rfl, hn, hm⟩
    have h2 : (plcv l)[i]? = some (.int .i64 ((l.getD i 0 : Nat) : Int)) := by simp [plcv, hi]
    rw [← htake, Nat.mul_one, List.getElem?_take_of_lt hi] at h2
    simp only [World.cell?, hg]
    simpa using h2

/-- What lies in a row of one's own, as the source of an append. -/
theorem OwnN.src {w : World} {B n c g : Nat} {l : List Nat} (h : OwnN w B (.slice (some ⟨g, 0, none⟩) n c) l) : ∀ j u, (plcv l)[j]? = some u → w.cell? ((⟨g, 0, none⟩ : Addr).add j) = some u := h.cells (g := g) rfl

theorem OwnN.addr {w : World} {B n c : Nat} {a : Option Addr} {l : List Nat} (h : OwnN w B (.slice a n c) l) (hne : a ≠ none) : ∃ g, a = some ⟨g, 0, none⟩ ∧ B ≤ g ∧ g < w.heap.size := by
  rcases h.2 with ⟨h0, _⟩ | ⟨g, cap, cur, hv, hB, hg, _⟩
  · cases h0; exact absurd rfl hne
  · cases hv
    exact ⟨g, rfl, hB, (Array.getElem?_eq_some_iff.1 hg).1⟩

set_option maxRecDepth 8000 in
set_option maxHeartbeats 4000000 in
theorem specBookChain_any (a : Option Addr) (n c : Nat) (V : Nat → Int) (D : Nat → Dp) (L : Nat → DLoc) (w : World) (hS : IsRecs w a n V D L) (hn : n ≤ maxLen) :
    Calls Tryz.prog 43 #[.slice a n c] w fun e w' => ∃ g m cc, e = .returned (.slice (some ⟨g, 0, none⟩) m cc) ∧ Below w.heap.size w w' ∧ OwnN w' w.heap.size (.slice (some ⟨g, 0, none⟩) m cc) (chainOf n V) := by
  have hn' := hn
  unfold maxLen at hn
  obtain ⟨i0, hi, hz0, hz1, hz2⟩ := info_parts infoInt
  have ho0 := OwnN.empty w
  have hb0 : Below w.heap.size w (w.alloc (.cells #[] 3)) := (Below.refl _ _).alloc (Nat.le_refl _) _
  by_cases h0 : n = 0
  · subst h0
    have HX : Hid (chainOf 0 V = []) := rfl
    go_enter Tryz.func43, Tryz.ntmps43
    go_wp2
    go_ret
    exact ⟨_, 0, 0, rfl, hb0, by rw [HX.out]; exact ho0⟩
  · have hnz : ((n : Int) == 0) = false := by simp; omega
    by_cases h20 : (20 : Int) < n
    · have h20' : decide ((20 : Int) < n) = true := decide_eq_true h20
      have HX : Hid (chainOf n V = []) := by show _ = _; unfold chainOf; rw [if_neg (by omega)]
      clear h20
      go_enter Tryz.func43, Tryz.ntmps43
      go_wp2
      go_ret
      exact ⟨_, 0, 0, rfl, hb0, by rw [HX.out]; exact ho0⟩
    · have h20' : decide ((20 : Int) < n) = false := decide_eq_false h20
      have HX : Hid (chainOf n V = chainFrom V n n) := by show _ = _; unfold chainOf; rw [if_pos (by omega)]
      have hn20 : n ≤ 20 := by omega
      clear h20
      go_enter Tryz.func43, Tryz.ntmps43
      go_wp2
      go_loopw [3, 4, 5] (fun o lv i wr => ∃ (k : Nat) (g m cc : Nat), k ≤ n ∧ i = .int .i64 ((n : Int) - 1 - k) ∧ lv = .int .i64 (leastFrom V n k) ∧ o = .slice (some ⟨g, 0, none⟩) m cc ∧ m = (chainFrom V n k).length ∧ OwnN wr w.heap.size o (chainFrom V n k) ∧ Below w.heap.size w wr) (fun _ _ i _ => (intOf i + 1).toNat)
      case atStart => exact ⟨0, w.heap.size, 0, 0, Nat.zero_le _, by rw [show ((n : Int) - 1 - ((0 : Nat) : Int)) = (n : Int) - 1 from by omega], rfl, rfl, rfl, ho0, hb0⟩
      case round =>
        obtain ⟨k, g, m, cc, hk, rfl, rfl, rfl, hm, ho, hb⟩ := hrel
        have hll := chain_len V n k
        have HM : Hid (m = (chainFrom V n k).length) := hm
        have hm20 : m ≤ 20 := by omega
        clear hm
        by_cases hlt : k < n
        · obtain ⟨x, hx⟩ : ∃ x : Nat, n - 1 - k = x := ⟨_, rfl⟩
          have hxi : (n : Int) - 1 - k = (x : Int) := by omega
          rw [hxi]
          obtain ⟨b, off, rfl, hlt2, hcc⟩ := (hS.below (Nat.le_refl _) hb).at (show x < n by omega)
          have c0 := (hcc x (by omega)).1
          have hxn : (x : Int) < (n : Int) := by omega
          have HLF : Hid (leastFrom V n (k + 1) = if V x < leastFrom V n k ∧ 0 ≤ V x then V x else leastFrom V n k) := by show _ = _; rw [leastFrom, hx]
          have HCF : Hid (chainFrom V n (k + 1) = if V x < leastFrom V n k ∧ 0 ≤ V x then x :: chainFrom V n k else chainFrom V n k) := by show _ = _; rw [chainFrom, hx]
          have HXI : Hid ((n : Int) - 1 - ((k + 1 : Nat) : Int) = (x : Int) - 1) := show _ = _ by omega
          have HB : Hid (Below w.heap.size w wr) := hb
          have hwr : w.heap.size ≤ wr.heap.size := hb.size
          clear hcc hxi hb hx
          by_cases hg : V x < leastFrom V n k ∧ 0 ≤ V x
          · have hd1 : decide (V x < leastFrom V n k) = true := decide_eq_true hg.1
            have hd2 : decide (0 ≤ V x) = true := decide_eq_true hg.2
            have HL2 : Hid (leastFrom V n (k + 1) = V x) := by show _ = _; rw [HLF.out, if_pos hg]
            have HC2 : Hid (chainFrom V n (k + 1) = [x] ++ chainFrom V n k) := by show _ = _; rw [HCF.out, if_pos hg]; rfl
            clear hg HLF HCF
            have hsrc := (ho.alloc (.cells #[.int .i64 (x : Int)] 3)).src
            have HSRC : Hid _ := hsrc
            have hone := (OwnN.one wr x).lower hwr
            clear hsrc ho
            go_wp2_with (at_builtin; refine wpList_append_own _ rfl _ _ 26 rfl w.heap.size 3 i0 (.int .i64 0) 1 8 Tryz.underlying26 hi hz0 hz1 hz2 rfl (by decide) _ _ _ rfl hone ⟨g, 0, none⟩ m cc (plcv (chainFrom V n k)) rfl (by rw [plcv_len, HM.out, Nat.mul_one]) HSRC.out (plcv_one _) ?c3 ?c4 ?c5 ?_)
            case c3 => unfold maxLen; simp; omega
            case c4 => simp; omega
            case c5 => simp; omega
            intro v' w1 hown hgrow hnil
            have hO1 : OwnN w1 w.heap.size v' ([x] ++ chainFrom V n k) := by
              unfold OwnN
              rw [List.length_append, ← HM.out]
              have e : plcv ([x] ++ chainFrom V n k) = plcv [x] ++ plcv (chainFrom V n k) := by simp [plcv]
              rw [e]
              exact hown
            have hB1 : Below w.heap.size w w1 := (HB.out.alloc hwr (.cells #[.int .i64 (x : Int)] 3)).grown hgrow (by simp; omega) (fun q e => by cases e; exact hwr)
            obtain ⟨q1, c1, e1⟩ : ∃ q1 c1, v' = .slice (some ⟨q1, 0, none⟩) (1 + m) c1 := by
              rcases hown.2 with ⟨h0, hz⟩ | ⟨q, cap, cur, hv, _⟩
              · exfalso; simp at hz
              · exact ⟨q, cap, hv⟩
            subst e1
            have c0a : (wr.alloc (.cells #[.int .i64 (x : Int)] 3)).cell? ⟨b, off + x * 5, none⟩ = some (.int .i64 (V x)) := (((Below.refl wr.heap.size wr).alloc (Nat.le_refl _) (.cells #[.int .i64 (x : Int)] 3)).cell (p := ⟨b, off + x * 5, none⟩) hlt2).trans c0
            have c0b : w1.cell? ⟨b, off + x * 5, none⟩ = some (.int .i64 (V x)) := hgrow.cell c0a (by simp [Value.ownBlock]; omega)
            have HO1 : Hid _ := And.intro hO1 hB1
            have HM1 : Hid (1 + m = ([x] ++ chainFrom V n k).length) := by show _ = _; rw [List.length_append, ← HM.out]; rfl
            clear hown hgrow hnil hone hO1 hB1 HSRC c0a
            go_wp2
            go_roundw
            case rel => exact ⟨k + 1, q1, 1 + m, c1, by omega, by rw [HXI.out], by rw [HL2.out], rfl, by rw [HC2.out]; exact HM1.out, by rw [HC2.out]; exact HO1.out.1, HO1.out.2⟩
            case measure => simp [intOf] <;> omega
          · have HL2 : Hid (leastFrom V n (k + 1) = leastFrom V n k) := by show _ = _; rw [HLF.out, if_neg hg]
            have HC2 : Hid (chainFrom V n (k + 1) = chainFrom V n k) := by show _ = _; rw [HCF.out, if_neg hg]
            have HO1 : Hid _ := And.intro ho HB.out
            clear HLF HCF ho
            by_cases hg1 : V x < leastFrom V n k
            · have hd1 : decide (V x < leastFrom V n k) = true := decide_eq_true hg1
              have hd2 : decide (0 ≤ V x) = false := decide_eq_false (fun h => hg ⟨hg1, h⟩)
              clear hg hg1
              go_wp2
              go_roundw
              case rel => exact ⟨k + 1, g, m, cc, by omega, by rw [HXI.out], by rw [HL2.out], rfl, by rw [HC2.out]; exact HM.out, by rw [HC2.out]; exact HO1.out.1, HO1.out.2⟩
              case measure => simp [intOf] <;> omega
            · have hd1 : decide (V x < leastFrom V n k) = false := decide_eq_false hg1
              clear hg hg1
              go_wp2
              go_roundw
              case rel => exact ⟨k + 1, g, m, cc, by omega, by rw [HXI.out], by rw [HL2.out], rfl, by rw [HC2.out]; exact HM.out, by rw [HC2.out]; exact HO1.out.1, HO1.out.2⟩
              case measure => simp [intOf] <;> omega
        · obtain rfl : k = n := by omega
          have hneg : decide (0 ≤ ((k : Int) - 1 - (k : Int))) = false := decide_eq_false (by omega)
          have HO1 : Hid _ := And.intro ho hb
          clear ho hb
          go_wp2
          go_ret
          exact ⟨g, m, cc, rfl, HO1.out.2, by rw [HX.out]; exact HO1.out.1⟩
end Go.Proofs.YtakifcobofkheabGreatDoor

/-
  What BookChain of the program answers: the places that are needed, ascending, in memory of its own.
-/
namespace Go.Proofs.YtakifcobofkheabGreatDoor
open Go.RowKit Go.Deep
set_option linter.unusedVariables false
set_option linter.unusedSimpArgs false
attribute [local go_sem] Oper.semAt_some

/-- What is stored into a row of one's own from place o on. -/
theorem owns_setCells {e : TypeId} {B g n cap : Nat} : ∀ (vs : List Value) (o : Nat) (xs : List Value) (w : World), w.ownsRow B e 1 (.slice (some ⟨g, 0, none⟩) n cap) n xs → xs.length = n → o + vs.length ≤ n →
    (w.setCells g o vs).ownsRow B e 1 (.slice (some ⟨g, 0, none⟩) n cap) n (xs.take o ++ vs ++ xs.drop (o + vs.length)) ∧ w.grownBy (w.setCells g o vs) (some g)
  | [], o, xs, w, h, hl, ho => by
    refine ⟨?_, World.grownBy.refl _ _⟩
    simpa [World.setCells] using h
  | v :: r, o, xs, w, h, hl, ho => by
    have h1 := h.stored o v
    have h2 := owns_setCells r (o + 1) (xs.set o v) (w.setCell ⟨g, o, none⟩ v) h1.1 (by simpa using hl) (by simp at ho ⊢; omega)
    refine ⟨?_, h1.2.trans h2.2⟩
    have ho' : o < xs.length := by simp at ho; omega
    have e1 : (xs.set o v).take (o + 1) = xs.take o ++ [v] := by
      rw [List.take_set, List.take_succ_eq_append_getElem ho', List.set_append, if_neg (by simp; omega), show o - (xs.take o).length = 0 from by simp; omega]
      rfl
    have e2 : (xs.set o v).drop (o + 1 + r.length) = xs.drop (o + (v :: r).length) := by
      rw [List.drop_set_of_lt (by omega)]
      congr 1
      simp; omega
    have := h2.1
    rw [e1, e2] at this
    simpa [World.setCells] using this

set_option maxHeartbeats 1000000 in
/-- Reverse, in memory of one's own. -/
theorem reverse_own (v : Value) (B : Nat) (l : List Nat) (w : World) (h : OwnN w B v l) (hn : l.length ≤ 1048576) :
    Calls Tryz.prog 84 #[v] w fun e w' => e = .returned (.tuple #[]) ∧ OwnN w' B v l.reverse ∧ w.grownBy w' v.ownBlock := by
  rcases h.2 with ⟨rfl, h0⟩ | ⟨g, cap, cur, rfl, hB, hg, hc, hm, hsz, htake⟩
  · have hl : l = [] := List.length_eq_zero_iff.1 (by simpa using h0)
    subst hl
    exact (Tryz.slices_Reverse_int_empty none 0 w).mono fun e w' ⟨he, hw⟩ => ⟨he, by subst hw; exact h, by subst hw; exact World.grownBy.refl _ _⟩
  · have hcell : ∀ j, j < l.length → w.cell? ⟨g, 0 + j, none⟩ = some (.int .i64 ((l.map fun x : Nat => (x : Int)).getD j 0)) := fun j hj => by
      have := h.cells (g := g) rfl j (.int .i64 ((l.map fun x : Nat => (x : Int)).getD j 0)) (by simp [plcv, hj])
      rwa [show ((⟨g, 0, none⟩ : Addr).add j) = ⟨g, 0 + j, none⟩ from by unfold Addr.add; split <;> simp_all] at this
    refine (Tryz.slices_Reverse_int_cells g 0 l.length cap (l.map fun x : Nat => (x : Int)) w (by simp) (by omega) (fun j hj => hcell j (by simpa using hj)) (fun j hj => by simp [World.frozen?, hg])).mono ?_
    rintro e w' ⟨he, q, rfl⟩
    have h1 : (w.drewN q).ownsRow B 3 1 (.slice (some ⟨g, 0, none⟩) l.length cap) l.length (plcv l) := eowns_same h (fun b _ => rfl)
    obtain ⟨s1, s2⟩ := owns_setCells (plcv l.reverse) 0 (plcv l) (w.drewN q) h1 (plcv_len l) (by simp [plcv])
    have ev : (((l.map fun x : Nat => (x : Int)).take l.length).reverse.map (Value.int .i64)) = plcv l.reverse := by
      rw [List.take_of_length_le (by simp)]
      simp [plcv, List.map_reverse]
    rw [ev]
    refine ⟨he, ?_, ?_⟩
    · unfold OwnN
      rw [List.length_reverse]
      have e2 : (plcv l).take 0 ++ plcv l.reverse ++ (plcv l).drop (0 + (plcv l.reverse).length) = plcv l.reverse := by
        rw [List.drop_of_length_le (by simp [plcv])]; simp
      rwa [e2] at s1
    · show w.grownBy _ (some g)
      exact (show w.grownBy (w.drewN q) (some g) from ⟨rfl, rfl, rfl, Nat.le_refl _, fun _ _ _ => rfl⟩).trans s2
/-- The blocks of the chain's own keep what they hold where others turn. -/
structure ChainI (B : Nat) (w : World) (l : List Nat) (X : Nat → Prop) (U : World) : Prop where
  all : ∃ v, Boxed U B 26 v ∧ OwnN U B v l ∧ ∀ g, v.ownBlock = some g → ¬ X g
  bel : Below B w U
  box : ¬ X B
  low : ∀ r, X r → B ≤ r ∧ r < U.heap.size
  len : B + 2 ≤ U.heap.size

theorem chainI_abides (B : Nat) (w : World) (hw : B ≤ w.heap.size) : AbidesSet (ChainI B w) := by
  intro l X X' U U' row h hgr hrow hX
  obtain ⟨v, hv, ho, hX1⟩ := h.all
  have hs := hgr.size
  have hbl := h.len
  refine ⟨⟨v, hv.kept hgr (fun e => h.box (hrow B e.symm)), ho.kept hgr ?_, fun g hg hXg => ?_⟩, h.bel.grown hgr (by omega) (fun r e => (h.low r (hrow r e)).1), fun hB => ?_, fun r hr => ?_, by omega⟩
  · cases hvb : v.ownBlock with
    | none => exact Or.inl rfl
    | some g => exact Or.inr (fun e => hX1 g hvb (hrow g e.symm))
  · rcases hX g hXg with e | e
    · exact hX1 g hg e
    · have := (eowns_block ho hg).2; omega
  · rcases hX B hB with e | e
    · exact h.box e
    · omega
  · rcases hX r hr with e | e
    · have := h.low r e; omega
    · omega

set_option maxRecDepth 100000 in
set_option maxHeartbeats 4000000 in
theorem implBookChain_any (a : Option Addr) (n c : Nat) (V : Nat → Int) (D : Nat → Dp) (L : Nat → DLoc) (w : World) (hS : IsRecs w a n V D L) (hn : n ≤ maxLen) :
    Calls Tryz.prog 65 #[.slice a n c] w fun e w' => ∃ b m cc, e = .returned (.slice b m cc) ∧ Below w.heap.size w w' ∧ OwnN w' w.heap.size (.slice b m cc) (chainOf n V) := by
  have hn' := hn
  unfold maxLen at hn'
  obtain ⟨i0, hi, hz0, hz1, hz2⟩ := info_parts infoInt
  by_cases hbig : 20 < n
  · have hb : decide ((20 : Int) < (n : Int)) = true := by simp; omega
    have hch : chainOf n V = [] := if_neg (by omega)
    rw [hch]
    clear hS
    go_enter Tryz.func65, Tryz.ntmps65
    go_wp2
    go_ret
    exact ⟨none, 0, 0, rfl, Below.refl _ _, OwnN.nil _ _⟩
  · have hb : decide ((20 : Int) < (n : Int)) = false := by simp; omega
    have hch : chainOf n V = (chosen V (downs n n)).reverse := by
      unfold chainOf
      rw [if_pos (by omega), (least_downs V n n).2]
    rw [hch]
    obtain ⟨b, off, hA, hbl, hcells⟩ : ∃ b off, (0 < n → a = some ⟨b, off, none⟩) ∧ (0 < n → b < w.heap.size) ∧ ∀ i, i < n → w.cell? ⟨b, off + i * 5, none⟩ = some (.int .i64 (V i)) ∧ w.cell? ⟨b, off + i * 5 + 1, none⟩ = some (.int .i64 (D i).since) ∧ w.cell? ⟨b, off + i * 5 + 2, none⟩ = some (.int .i64 (D i).date) ∧
        w.cell? ⟨b, off + i * 5 + 3, none⟩ = some (.slice (L i).lA (D i).ln (L i).lc) ∧ w.cell? ⟨b, off + i * 5 + 4, none⟩ = some (.slice (L i).iA (D i).m (L i).ic) := by
      rcases hS with h | ⟨b, off, ha, hlt, hc⟩
      · exact ⟨0, 0, fun h' => by omega, fun h' => by omega, fun i hi => by omega⟩
      · exact ⟨b, off, fun _ => ha, fun _ => hlt, fun i hi => ⟨(hc i hi).1, (hc i hi).2.1, (hc i hi).2.2.1, (hc i hi).2.2.2.1, (hc i hi).2.2.2.2.1⟩⟩
    clear hS
    refine (callsIn_wide (n := 6)).1 ?_
    refine callsIn_of_wp_marks Tryz.func65 rfl trivial ?_ rfl
    simp only [Tryz.ntmps65, List.size_toArray, List.length_cons, List.length_nil, Nat.reduceAdd, Nat.reduceSub, Array.replicate_succ, Array.replicate_zero, List.push_toArray, List.append_toArray, List.nil_append, List.cons_append]
    gi_wp2_with (refine ⟨trivial, ?_⟩; gi_at_call 83; refine (needed_in _ a n c _).mono ?_; rintro e w' ⟨rfl, rfl⟩)
    obtain ⟨B, hB⟩ : ∃ B, w.heap.size = B := ⟨_, rfl⟩
    have hWW : Below w.heap.size w ((w.alloc (.cells #[.slice none 0 0] 26)).alloc (.cells #[.slice a n c] 47)) := ((Below.refl _ w).alloc (Nat.le_refl _) _).alloc (by simp) _
    have hBC := (Boxed.new w 26 (.slice none 0 0)).alloc (.cells #[.slice a n c] 47)
    have hBT := Boxed.new (w.alloc (.cells #[.slice none 0 0] 26)) 47 (.slice a n c)
    have hsz : ((w.alloc (.cells #[.slice none 0 0] 26)).alloc (.cells #[.slice a n c] 47)).heap.size = B + 2 := by simp; omega
    simp only [World.size_alloc, hB] at hBC hBT
    simp only [hB]
    obtain ⟨W0, hW0⟩ : ∃ W0, W0 = ((w.alloc (.cells #[.slice none 0 0] 26)).alloc (.cells #[.slice a n c] 47)) := ⟨_, rfl⟩
    rw [← hW0] at hWW hBC hBT hsz ⊢
    clear hW0
    rw [hB] at hWW hbl
    have hbl0 : 0 < n → b < W0.heap.size := fun h => by have := hbl h; omega
    have hc0 : ∀ i, i < n → W0.cell? ⟨b, off + i * 5, none⟩ = some (.int .i64 (V i)) ∧ W0.cell? ⟨b, off + i * 5 + 1, none⟩ = some (.int .i64 (D i).since) ∧ W0.cell? ⟨b, off + i * 5 + 2, none⟩ = some (.int .i64 (D i).date) ∧
        W0.cell? ⟨b, off + i * 5 + 3, none⟩ = some (.slice (L i).lA (D i).ln (L i).lc) ∧ W0.cell? ⟨b, off + i * 5 + 4, none⟩ = some (.slice (L i).iA (D i).m (L i).ic) := fun i hi => by
      obtain ⟨c0, c1, c2, c3, c4⟩ := hcells i hi
      have k : ∀ o v, w.cell? ⟨b, o, none⟩ = some v → W0.cell? ⟨b, o, none⟩ = some v := fun o v h => (hWW.cell (p := ⟨b, o, none⟩) (hbl (by omega))).trans h
      exact ⟨k _ _ c0, k _ _ c1, k _ _ c2, k _ _ c3, k _ _ c4⟩
    have HSeq : Hid _ := needed_set 5 (by omega) (B + 1) b off n c a hA V D L (by omega) W0 hBT.cell (by omega) hbl0 hc0
    clear hc0 hcells hBT
    refine wpIn_rangeFunc_set rfl (by omega) (gf := 107) (lb := #[.pointer (some ⟨B + 1, 0, none⟩)]) rfl trivial (enters_of Tryz.func107 (by kernel_rfl) rfl) HSeq.out ?hZ (Below.refl _ _) (fun _ => rfl)
      (ChainI B w) (fun _ _ _ _ => False) (chainI_abides B w (by omega)) (fun _ _ _ _ _ _ _ h _ _ _ => h) ⟨⟨_, hBC, OwnN.nil _ _, fun g h => by simp [Value.ownBlock] at h⟩, hWW, id, fun r h => h.elim, by omega⟩
      (fun x X a' U => a' = { tmps := #[.slice a n c, undef, .slice none 0 0, .pointer (some ⟨B, 0, none⟩), .int .i64 (x : Nat), .slice a n c, .int .i64 (n : Nat), .bool false, .slice a n c, .func (.func 107) #[] #[.pointer (some ⟨B + 1, 0, none⟩)], .int .i64 (x : Nat), undef, undef, undef, undef, undef, undef, undef], defers := [] }) ?hAx ?assign ?body ?done ?stop
    case hZ => rintro r ⟨rfl, h⟩; exact hbl0 h
    case hAx => rintro x X a' U l' r o' h hl'; exact h
    case assign =>
      intro l' pre x X U K hi' hK
      have HK : Hid _ := hK
      clear hK
      gi_wp2
      exact HK.out _ U X (fun r h => h) (fun r h => Or.inl h) ⟨Nat.le_refl _, fun _ _ _ => rfl⟩ hi' rfl
    case stop =>
      rintro DD cc pre X U _ _ _ h _
      exact h.elim
    case done =>
      rintro DD ys X U hD hX rfl h hk
      obtain ⟨v, hv, ho, hX1⟩ := h.all
      have hlen : (chosen V (downs n n)).length ≤ 20 := Nat.le_trans (chosen_length V n n) (by omega)
      have hc := hv.cell
      have hDB : B + 2 ≤ DD := by omega
      have HB : Hid (Below B w U) := h.bel
      have hBU := h.len
      have hBX : B ≠ DD := by omega
      have HK : Hid (U.heap[DD]? = some (.deferred (some []))) := hk
      have HV : Hid (Boxed U B 26 v) := hv
      have HO : Hid (OwnN U B v (chosen V (downs n n))) := ho
      have hBn : some B ≠ v.ownBlock := hv.not_row (by decide) ho
      have hNb : v.ownBlock ≠ some DD := fun e => hX1 DD e hX
      obtain ⟨b1, m1, c1, rfl⟩ : ∃ b1 m1 c1, v = .slice b1 m1 c1 := by
        rcases ho.2 with ⟨h0, _⟩ | ⟨g, cap, cur, h0, _⟩
        · exact ⟨_, _, _, h0⟩
        · exact ⟨_, _, _, h0⟩
      have hRev : Hid _ := reverse_own _ B (chosen V (downs n n)) U ho (by omega)
      clear h hk hX1 hv ho HSeq
      gi_wp2_with (refine ⟨trivial, ?_⟩; gi_at_call 84; refine (callsIn_wide.2 hRev.out).mono ?_; rintro e w' ⟨rfl, ho2, hg2⟩; have hv2 := HV.out.kept hg2 hBn; have hc2 := hv2.cell; have HO2 : Hid _ := And.intro ho2 hg2; clear ho2 hg2 hv2)
      have hk2 : w'.heap[DD]? = some (.deferred (some [])) := (HO2.out.2.block DD (Array.getElem?_eq_some_iff.1 HK.out).1 (Ne.symm hNb)).trans HK.out
      refine ⟨by simp, .inl ⟨_, _, rfl, run_takeDeferred hk2, ?_⟩⟩
      have hsz2 := HO2.out.2.size
      have hb2 : Below B w w' := HB.out.grown HO2.out.2 (by omega) (fun k e => (eowns_block HO.out e).1)
      exact ⟨_, results_tmp rfl _ _ _, b1, m1, c1, rfl, by rw [hB]; exact hb2.grown (grownBy_putObj' w' DD (.deferred none)) (by omega) (fun k e => by cases e; omega), by rw [hB]; exact ownsRow_putObj HO2.out.1 _ hk2 rfl⟩
    case body =>
      rintro l' pre x X a' U ⟨r, hr⟩ h rfl hlen
      obtain ⟨v, hv, ho, hX1⟩ := h.all
      have hc := hv.cell
      have HH : Hid (ChainI B w pre X U) := h
      have hBU := h.len
      clear h
      gi_wp2_with (gi_at_builtin; refine wpListIn_append_own_at _ rfl _ _ 26 rfl B 3 i0 (.int .i64 0) 1 8 Tryz.underlying26 hi hz0 hz1 hz2 rfl (by decide) _ _ _ rfl (ho.alloc _) ⟨U.heap.size, 0, none⟩ 1 1 [.int .i64 (x : Nat)] rfl rfl (cell_one_new _ _ _) (by simp [Value.oneCell']) (by unfold maxLen; omega) (by omega) (by simp; omega) ?_; intro v' w1 hown' hgrow _ hat; obtain ⟨g', cap', rfl⟩ := ownsRow_succ hown'; obtain ⟨hv1, hv2, hr2, hk2, hb2⟩ := hv.appended (by decide) ho (by omega) (Nat.le_refl _) hown' hgrow; have hc1 := hv1.cell; have hf1 := hv1.frozen)
      have hgs := hgrow.size
      have hsz3 : U.heap.size ≤ (w1.setCell ⟨B, 0, none⟩ (.slice (some ⟨g', 0, none⟩) (pre.length + 1) cap')).heap.size := by simp [World.setCell] at hgs ⊢; omega
      refine ⟨⟨hsz3, fun r hr hl => ?_⟩, ⟨⟨_, hv2, ?_, ?_⟩, HH.out.bel.trans hb2, HH.out.box, fun r h => by have := HH.out.low r h; omega, by omega⟩⟩
      · have hne : r ≠ B := by
          rcases hr with h | ⟨rfl, h⟩
          · exact fun e => HH.out.box (e ▸ h)
          · have := hbl h; omega
        have hne2 : some r ≠ v.ownBlock := by
          intro e
          rcases hr with h | ⟨rfl, h⟩
          · exact hX1 r e.symm h
          · have := hbl h; have := (eowns_block ho e.symm).1; omega
        exact (blk_setCell_other _ _ _ _ hne).trans ((hgrow.block r (by simp; omega) hne2).trans (blk_alloc_lt _ _ _ hl))
      · unfold OwnN
        rw [List.length_append, show plcv (pre ++ [x]) = plcv pre ++ [.int .i64 (x : Nat)] from by simp [plcv]]
        exact hr2
      · intro g hg hXg
        obtain rfl : g' = g := by simpa [Value.ownBlock] using hg
        rcases hat with e | e
        · exact hX1 g' e.symm hXg
        · have e2 : g' = U.heap.size + 1 := by simpa [Value.ownBlock] using e
          have := (HH.out.low g' hXg).2
          omega
end Go.Proofs.YtakifcobofkheabGreatDoor

/-
  What neededDumps and BookBack of the program answer.
-/
namespace Go.Proofs.YtakifcobofkheabGreatDoor
open Go.RowKit Go.Deep
set_option linter.unusedVariables false
set_option linter.unusedSimpArgs false
set_option linter.unnecessarySimpa false

set_option maxRecDepth 100000 in
set_option maxHeartbeats 8000000 in
theorem neededDumps_any (a : Option Addr) (n c : Nat) (V : Nat → Int) (D : Nat → Dp) (L : Nat → DLoc) (w : World) (hS : IsRecs w a n V D L) (hn : n ≤ maxLen) :
    Calls Tryz.prog 45 #[.slice a n c] w fun e w' => Below w.heap.size w w' ∧ ∃ a' c', e = .returned (.slice a' (chainOf n V).length c') ∧ IsDps w' a' (chainOf n V).length (need (chainOf n V) D) (need (chainOf n V) L) := by
  have hn' := hn
  unfold maxLen at hn'
  obtain ⟨y0, hy, hy0, hy1, hy2⟩ := info_parts infoDumpE
  obtain ⟨hrise, hlt, hlen⟩ := chainOf_rise n V
  have HLT : Hid (∀ k, k < (chainOf n V).length → (chainOf n V).getD k 0 < n) := fun k hk => hlt _ (getD_mem hk)
  go_enter Tryz.func45, Tryz.ntmps45
  go_wp2_with fail
  refine (implBookChain_any a n c V D L w hS hn).mono ?_
  rintro e w1 ⟨ga, m, cc, rfl, hb1, ho⟩
  generalize hxs : chainOf n V = xs at *
  have HXS : Hid (chainOf n V = xs) := hxs
  obtain ⟨_, hm, _, _⟩ := ho.reads
  have HO : Hid (OwnN w1 w.heap.size (.slice ga m cc) xs) := ho
  subst hm
  have hs2 : w.heap.size ≤ w1.heap.size := hb1.size
  have H1 : Hid (Below w.heap.size w w1) := hb1
  clear hb1 ho hrise hlt hxs
  go_wp2
  go_loopw [3, 9] (fun v i wr => ∃ (k : Nat) (a' : Option Addr) (c' : Nat), k ≤ xs.length ∧ i = .int .i64 k ∧ v = .slice a' k c' ∧ Below w1.heap.size w1 wr ∧ wr.ownsRow w1.heap.size 64 4 (.slice a' k c') k (dpRows (need xs D) (need xs L) k)) (fun _ i _ => xs.length - (intOf i).toNat)
  case atStart => exact ⟨0, _, 0, Nat.zero_le _, rfl, rfl, Below.refl _ _, World.ownsRow_nil _ _ _ _⟩
  case round =>
    obtain ⟨k, a', c', hk, rfl, rfl, hbw, hown⟩ := hrel
    have HB : Hid (Below w1.heap.size w1 wr) := hbw
    have HOW : Hid (wr.ownsRow w1.heap.size 64 4 (.slice a' k c') k (dpRows (need xs D) (need xs L) k)) := hown
    have hws : w1.heap.size ≤ wr.heap.size := hbw.size
    by_cases hlt : k < xs.length
    · have hlti : (k : Int) < (xs.length : Int) := by omega
      obtain ⟨g, goff, rfl, hgl, hgc⟩ : ∃ b off, ga = some ⟨b, off, none⟩ ∧ b < w1.heap.size ∧ ∀ i, i < xs.length → w1.cell? ⟨b, off + i, none⟩ = some (.int .i64 ((xs.getD i 0 : Nat) : Int)) := by
        rcases HO.out.reads.1 with h | h
        · omega
        · exact h
      have q0 : wr.cell? ⟨g, goff + k, none⟩ = some (.int .i64 ((xs.getD k 0 : Nat) : Int)) := (hbw.cell (p := ⟨g, goff + k, none⟩) hgl).trans (hgc k hlt)
      have hX : xs.getD k 0 < n := HLT.out k hlt
      obtain ⟨b, off, rfl, hlt2, hc⟩ := (hS.below (Nat.le_refl _) (H1.out.trans (hbw.mono (by omega)))).at hX
      obtain ⟨c0, c1, c2, c3, c4, hI⟩ := hc _ hX
      have HND : Hid (need xs D k = D (xs.getD k 0) ∧ need xs L k = L (xs.getD k 0)) := ⟨rfl, rfl⟩
      generalize xs.getD k 0 = X at *
      have hXi : (X : Int) < (n : Int) := by omega
      have hOA := World.ownsRow.alloc hown (.cells #[.int .i64 (D X).since, .int .i64 (D X).date, .slice (L X).lA (D X).ln (L X).lc, .slice (L X).iA (D X).m (L X).ic] 64)
      have HOA : Hid _ := hOA
      have hsrc := src_dump wr (D X) (L X)
      have HSRC : Hid _ := hsrc
      clear hc hbw hown hgc hgl hI hOA hsrc
      go_wp2_with (at_builtin; go_must (refine wpList_append_src (by rfl) _ _ 31 rfl w1.heap.size 64 y0 (.agg #[.int .i64 0, .int .i64 0, .slice none 0 0, .slice none 0 0]) 4 64 Tryz.underlying31 hy hy0 hy1 hy2 rfl (by decide) (.slice a' k c') k (dpRows (need xs D) (need xs L) k) (by rfl) HOA.out (.slice (some ⟨wr.heap.size, 0, none⟩) 1 1) 1 (dp4 (D X) (L X)) (by rfl) HSRC.out (by unfold maxLen; omega) (by omega) (by simp; omega) ?_))
      intro vI W7 hown hgrow hnil hat
      obtain ⟨gI, cI, rfl⟩ := ownsRow_succ hown
      have HN : Hid (Below w1.heap.size w1 W7 ∧ W7.ownsRow w1.heap.size 64 4 (.slice (some ⟨gI, 0, none⟩) (k + 1) cI) (k + 1) (dpRows (need xs D) (need xs L) (k + 1))) := by
        refine ⟨?_, ?_⟩
        · have hba : Below w1.heap.size w1 (wr.alloc (.cells #[.int .i64 (D X).since, .int .i64 (D X).date, .slice (L X).lA (D X).ln (L X).lc, .slice (L X).iA (D X).m (L X).ic] 64)) := HB.out.alloc hws _
          exact hba.grown hgrow hba.size (fun q e => (eowns_block HOW.out e).1)
        · show W7.ownsRow _ _ _ _ _ (dpRows (need xs D) (need xs L) k ++ dp4 (need xs D k) (need xs L k))
          rw [HND.out.1, HND.out.2]
          exact hown
      clear hown hgrow hnil hat HOA HSRC HB HOW q0 c0 c1 c2 c3 c4
      go_wp2
      go_roundw
      case rel => exact ⟨k + 1, _, _, by omega, by go_num, by go_num, HN.out.1, HN.out.2⟩
      case measure => simp [intOf]; omega
    · obtain rfl : k = xs.length := by omega
      have hbW : Below w.heap.size w wr := H1.out.trans (hbw.mono (by omega))
      have HIS : Hid (Below w.heap.size w wr ∧ IsDps wr a' xs.length (need xs D) (need xs L)) := ⟨hbW, rows_dps hown fun i hi => by
        obtain ⟨b, off, _, _, hc⟩ := (hS.below (Nat.le_refl _) hbW).at (HLT.out i hi)
        exact (hc _ (HLT.out i hi)).2.2.2.2.2⟩
      clear hbw hown hbW
      go_wp2
      go_ret
      rw [HXS.out]
      exact ⟨HIS.out.1, a', c', rfl, HIS.out.2⟩

set_option maxHeartbeats 2000000 in
theorem implBookBack_any (a : Option Addr) (n c : Nat) (V : Nat → Int) (D : Nat → Dp) (L : Nat → DLoc) (w : World) (hg : ErrType w) (hS : IsRecs w a n V D L) (hf : FitRecs n V D) (hn : n ≤ maxLen) (hs : recsTo D n ≤ 1048576) :
    Calls Tryz.prog 21 #[.slice a n c] w (AllPost w (bookAns n V D)) := by
  obtain ⟨hrise, hlt, hlen⟩ := chainOf_rise n V
  have HBA : Hid (∀ W a' c' L', ErrType W → IsDps W a' (chainOf n V).length (need (chainOf n V) D) L' → Calls Tryz.prog 32 #[.slice a' (chainOf n V).length c'] W (AllPost W (bookAns n V D))) := fun W a' c' L' hg h => implBackAll_any a' _ c' _ L' W hg h (fun i hi => (hf _ (hlt _ (getD_mem hi))).2) (by unfold maxLen; omega) (Nat.le_trans (need_sum hrise hlt) hs)
  clear hrise hlt
  go_enter Tryz.func21, Tryz.ntmps21
  go_wp2_with fail
  refine at_world (F := New1 w #[.slice none 0 0, .int .i64 0] 44) (new1 w _ _) ?_
  rintro W ⟨hr, hb, hsz⟩
  refine (neededDumps_any a n c V D L W (hS.below (Nat.le_refl _) hb) hn).mono ?_
  rintro e w1 ⟨hb1, a', c', rfl, hI⟩
  generalize need (chainOf n V) D = DD at *
  generalize need (chainOf n V) L = LL at *
  generalize (chainOf n V).length = m at *
  have HI : Hid (IsDps w1 a' m DD LL) := hI
  have hs1 : w.heap.size + 1 ≤ w1.heap.size := by have := hb1.size; omega
  have H1 : Hid (Blk w1 w.heap.size #[.slice none 0 0, .int .i64 0] 44 ∧ Below w.heap.size w w1) := ⟨hr.below hb1 (by omega), hb.trans (hb1.mono (by omega))⟩
  have HG : Hid (ErrType w1) := (hg.bel hb).bel hb1
  clear hr hb hb1 hsz hI
  go_wp2_with fail
  refine (HBA.out w1 a' c' LL HG.out HI.out).mono ?_
  generalize hrz : bookAns n V D = rz
  obtain ⟨t, z⟩ := rz
  have HRZ : Hid (bookAns n V D = (t, z)) := hrz
  clear hrz
  rintro e w2 ⟨hb2, l, rfl, hot⟩
  unfold tV
  have H3 : Hid (Blk w2 w.heap.size #[.slice none 0 0, .int .i64 0] 44 ∧ Below w.heap.size w w2 ∧ OwnTr w2 (w.heap.size + 1) t l) := ⟨H1.out.1.below hb2 H1.out.1.lt, H1.out.2.trans (hb2.mono H1.out.2.size), hot.lower hs1⟩
  clear hb2 hot
  have r0 : w2.cell? ⟨w.heap.size, 0, none⟩ = some (.slice none 0 0) := H3.out.1.cell 0
  have r1 : w2.cell? ⟨w.heap.size, 1, none⟩ = some (.int .i64 0) := H3.out.1.cell 1
  have g0 := H3.out.1.frozen 0
  have g1 := H3.out.1.frozen 1
  dsimp only
  go_wp2_with fail
  refine end_world (F := fun U => Blk U w.heap.size (tC t l) 44 ∧ Below w.heap.size w U ∧ OwnTr U (w.heap.size + 1) t l) ⟨(H3.out.1.set 0 _).set 1 _, bel_put (bel_put H3.out.2.1 _ (Nat.le_refl _)) _ (Nat.le_refl _), (H3.out.2.2.put (V := w.heap.size) (i := 0) _ (by omega)).put (V := w.heap.size) (i := 1) _ (by omega)⟩ ?_
  clear r0 r1 g0 g1
  rintro U ⟨hr, hB, ho⟩
  obtain ⟨e0, e1⟩ := tC_cells hr
  exact bodyPost_ret (v := .tuple #[.agg #[.slice l.a t.n l.c, .int .i64 t.now], .int .i64 z]) (by simp [results, Tryz.results21, go_sem, e0, e1]) rfl (by rw [HRZ.out]; exact ⟨hB, l, rfl, ho.lower (by omega)⟩)
end Go.Proofs.YtakifcobofkheabGreatDoor

/-
  What BookBack of the specification answers.
-/
namespace Go.Proofs.YtakifcobofkheabGreatDoor
open Go.RowKit Go.Deep
set_option linter.unusedVariables false
set_option linter.unusedSimpArgs false
set_option linter.unnecessarySimpa false

set_option maxRecDepth 100000 in
set_option maxHeartbeats 8000000 in
theorem specBookBack_any (a : Option Addr) (n c : Nat) (V : Nat → Int) (D : Nat → Dp) (L : Nat → DLoc) (w : World) (hS : IsRecs w a n V D L) (hf : FitRecs n V D) (hn : n ≤ maxLen) (hs : recsTo D n ≤ 1048576) :
    Calls Tryz.prog 19 #[.slice a n c] w (AllPost w (bookAns n V D)) := by
  have hn' := hn
  unfold maxLen at hn'
  obtain ⟨y0, hy, hy0, hy1, hy2⟩ := info_parts infoDumpE
  obtain ⟨hrise, hlt, hlen⟩ := chainOf_rise n V
  have HSUM : Hid (recsTo (need (chainOf n V) D) (chainOf n V).length ≤ 1048576) := Nat.le_trans (need_sum hrise hlt) hs
  have HLT : Hid (∀ k, k < (chainOf n V).length → (chainOf n V).getD k 0 < n) := fun k hk => hlt _ (getD_mem hk)
  have HFIT : Hid (FitDps (chainOf n V).length (need (chainOf n V) D)) := fun i hi => (hf _ (HLT.out i hi)).2
  have HBA : Hid (∀ W a' c' L', IsDps W a' (chainOf n V).length (need (chainOf n V) D) L' → Calls Tryz.prog 28 #[.slice a' (chainOf n V).length c'] W (AllPost W (bookAns n V D))) := fun W a' c' L' h => specBackAll_any a' _ c' _ L' W h HFIT.out (by unfold maxLen; omega) HSUM.out
  go_enter Tryz.func19, Tryz.ntmps19
  go_wp2_with fail
  refine at_world (F := New1 w #[.slice none 0 0, .int .i64 0] 44) (new1 w _ _) ?_
  rintro W ⟨hr, hb, hsz⟩
  refine (specBookChain_any a n c V D L W (hS.below (Nat.le_refl _) hb) hn).mono ?_
  rintro e w1 ⟨g, m, cc, rfl, hb1, ho⟩
  generalize hxs : chainOf n V = xs at *
  obtain ⟨_, hm, _, _⟩ := ho.reads
  have HO : Hid (OwnN w1 W.heap.size (.slice (some ⟨g, 0, none⟩) m cc) xs) := ho
  subst hm
  have hs1 : w.heap.size + 1 ≤ W.heap.size := by omega
  have hs2 : W.heap.size ≤ w1.heap.size := hb1.size
  have H1 : Hid (Blk w1 w.heap.size #[.slice none 0 0, .int .i64 0] 44 ∧ Below w.heap.size w w1) := ⟨hr.below hb1 (by omega), hb.trans (hb1.mono (by omega))⟩
  clear hr hb hb1 ho hrise hlt hxs hsz
  go_wp2
  go_loopw [5, 6] (fun v i wr => ∃ (k : Nat) (a' : Option Addr) (c' : Nat), k ≤ xs.length ∧ i = .int .i64 k ∧ v = .slice a' k c' ∧ Below w1.heap.size w1 wr ∧ wr.ownsRow w1.heap.size 64 4 (.slice a' k c') k (dpRows (need xs D) (need xs L) k)) (fun _ i _ => xs.length - (intOf i).toNat)
  case atStart => exact ⟨0, _, 0, Nat.zero_le _, rfl, rfl, (Below.refl _ _).alloc (Nat.le_refl _) _, rows_empty w1⟩
  case round =>
    obtain ⟨k, a', c', hk, rfl, rfl, hbw, hown⟩ := hrel
    have HB : Hid (Below w1.heap.size w1 wr) := hbw
    have HOW : Hid (wr.ownsRow w1.heap.size 64 4 (.slice a' k c') k (dpRows (need xs D) (need xs L) k)) := hown
    have hws : w1.heap.size ≤ wr.heap.size := hbw.size
    by_cases hlt : k < xs.length
    · have hlti : (k : Int) < (xs.length : Int) := by omega
      obtain ⟨gb, goff, hga, hgl, hgc⟩ : ∃ b off, (some ⟨g, 0, none⟩ : Option Addr) = some ⟨b, off, none⟩ ∧ b < w1.heap.size ∧ ∀ i, i < xs.length → w1.cell? ⟨b, off + i, none⟩ = some (.int .i64 ((xs.getD i 0 : Nat) : Int)) := by
        rcases HO.out.reads.1 with h | h
        · omega
        · exact h
      cases hga
      have q1 : w1.cell? ⟨g, k, none⟩ = some (.int .i64 ((xs.getD k 0 : Nat) : Int)) := by
        have h := hgc k hlt
        rw [Nat.zero_add] at h
        exact h
      have q0 : wr.cell? ⟨g, k, none⟩ = some (.int .i64 ((xs.getD k 0 : Nat) : Int)) := (hbw.cell (p := ⟨g, k, none⟩) hgl).trans q1
      clear q1
      have hX : xs.getD k 0 < n := HLT.out k hlt
      obtain ⟨b, off, rfl, hlt2, hc⟩ := (hS.below (Nat.le_refl _) (H1.out.2.trans (hbw.mono (by omega)))).at hX
      obtain ⟨c0, c1, c2, c3, c4, hI⟩ := hc _ hX
      have HND : Hid (need xs D k = D (xs.getD k 0) ∧ need xs L k = L (xs.getD k 0)) := ⟨rfl, rfl⟩
      generalize xs.getD k 0 = X at *
      have hXi : (X : Int) < (n : Int) := by omega
      have hOA := World.ownsRow.alloc hown (.cells #[.int .i64 (D X).since, .int .i64 (D X).date, .slice (L X).lA (D X).ln (L X).lc, .slice (L X).iA (D X).m (L X).ic] 64)
      have HOA : Hid _ := hOA
      have hsrc := src_dump wr (D X) (L X)
      have HSRC : Hid _ := hsrc
      clear hc hbw hown hgc hgl hI hOA hsrc
      go_wp2_with (at_builtin; go_must (refine wpList_append_src (by rfl) _ _ 31 rfl w1.heap.size 64 y0 (.agg #[.int .i64 0, .int .i64 0, .slice none 0 0, .slice none 0 0]) 4 64 Tryz.underlying31 hy hy0 hy1 hy2 rfl (by decide) (.slice a' k c') k (dpRows (need xs D) (need xs L) k) (by rfl) HOA.out (.slice (some ⟨wr.heap.size, 0, none⟩) 1 1) 1 (dp4 (D X) (L X)) (by rfl) HSRC.out (by unfold maxLen; omega) (by omega) (by simp; omega) ?_))
      intro vI W7 hown hgrow hnil hat
      obtain ⟨gI, cI, rfl⟩ := ownsRow_succ hown
      have HN : Hid (Below w1.heap.size w1 W7 ∧ W7.ownsRow w1.heap.size 64 4 (.slice (some ⟨gI, 0, none⟩) (k + 1) cI) (k + 1) (dpRows (need xs D) (need xs L) (k + 1))) := by
        refine ⟨?_, ?_⟩
        · have hba : Below w1.heap.size w1 (wr.alloc (.cells #[.int .i64 (D X).since, .int .i64 (D X).date, .slice (L X).lA (D X).ln (L X).lc, .slice (L X).iA (D X).m (L X).ic] 64)) := HB.out.alloc hws _
          exact hba.grown hgrow hba.size (fun q e => (eowns_block HOW.out e).1)
        · show W7.ownsRow _ _ _ _ _ (dpRows (need xs D) (need xs L) k ++ dp4 (need xs D k) (need xs L k))
          rw [HND.out.1, HND.out.2]
          exact hown
      clear hown hgrow hnil hat HOA HSRC HB HOW q0 c0 c1 c2 c3 c4
      go_wp2
      go_roundw
      case rel => exact ⟨k + 1, _, _, by omega, by go_num, by go_num, HN.out.1, HN.out.2⟩
      case measure => simp [intOf]; omega
    · obtain rfl : k = xs.length := by omega
      have hbW : Below w.heap.size w wr := H1.out.2.trans (hbw.mono (by omega))
      have HIS : Hid (IsDps wr a' xs.length (need xs D) (need xs L)) := rows_dps hown fun i hi => by
        obtain ⟨b, off, _, _, hc⟩ := (hS.below (Nat.le_refl _) hbW).at (HLT.out i hi)
        exact (hc _ (HLT.out i hi)).2.2.2.2.2
      have H2 : Hid (Blk wr w.heap.size #[.slice none 0 0, .int .i64 0] 44 ∧ Below w.heap.size w wr) := ⟨H1.out.1.of_block (hbw.block _ (by omega)), hbW⟩
      have hsr : w.heap.size + 1 ≤ wr.heap.size := by omega
      clear hbw hown hbW
      go_wp2_with fail
      refine (HBA.out wr a' c' _ HIS.out).mono ?_
      generalize hrz : bookAns n V D = rz
      obtain ⟨t, z⟩ := rz
      have HRZ : Hid (bookAns n V D = (t, z)) := hrz
      clear hrz
      rintro e w2 ⟨hb2, l, rfl, hot⟩
      unfold tV
      have H3 : Hid (Blk w2 w.heap.size #[.slice none 0 0, .int .i64 0] 44 ∧ Below w.heap.size w w2 ∧ OwnTr w2 (w.heap.size + 1) t l) := ⟨H2.out.1.below hb2 H2.out.1.lt, H2.out.2.trans (hb2.mono H2.out.2.size), hot.lower hsr⟩
      clear hb2 hot
      have r0 : w2.cell? ⟨w.heap.size, 0, none⟩ = some (.slice none 0 0) := H3.out.1.cell 0
      have r1 : w2.cell? ⟨w.heap.size, 1, none⟩ = some (.int .i64 0) := H3.out.1.cell 1
      have g0 := H3.out.1.frozen 0
      have g1 := H3.out.1.frozen 1
      dsimp only
      go_wp2_with fail
      refine end_world (F := fun U => Blk U w.heap.size (tC t l) 44 ∧ Below w.heap.size w U ∧ OwnTr U (w.heap.size + 1) t l) ⟨(H3.out.1.set 0 _).set 1 _, bel_put (bel_put H3.out.2.1 _ (Nat.le_refl _)) _ (Nat.le_refl _), (H3.out.2.2.put (V := w.heap.size) (i := 0) _ (by omega)).put (V := w.heap.size) (i := 1) _ (by omega)⟩ ?_
      clear r0 r1 g0 g1
      rintro U ⟨hr, hB, ho⟩
      obtain ⟨e0, e1⟩ := tC_cells hr
      exact bodyPost_ret (v := .tuple #[.agg #[.slice l.a t.n l.c, .int .i64 t.now], .int .i64 z]) (by simp [results, Tryz.results19, go_sem, e0, e1]) rfl (by rw [HRZ.out]; exact ⟨hB, l, rfl, ho.lower (by omega)⟩)
end Go.Proofs.YtakifcobofkheabGreatDoor

/-
  What the helpers of the exact laws do at what was kept, with its levels.
-/
namespace Go.Proofs.YtakifcobofkheabGreatDoor
open Go.RowKit Go.Deep
set_option linter.unusedVariables false
set_option linter.unusedSimpArgs false

set_option maxHeartbeats 1000000 in
theorem szRec_any (v : Int) (d : Dp) (l : DLoc) (left : Int) (w : World) (hI : DpIn w d l) (hf : d.Fits) (h0 : 0 ≤ left) (h1 : left ≤ 1048576) :
    Calls Tryz.prog 42 #[recV v d l, .int .i64 left] w fun e w' => Below w.heap.size w w' ∧ ∃ r : Int, e = .returned (.int .i64 r) ∧ r ≤ left ∧ (0 ≤ r → r + d.size ≤ left) := by
  unfold recV
  go_enter Tryz.func42, Tryz.ntmps42
  go_wp2_with fail
  refine at_world (F := New1 w _ _) (new1 w _ _) ?_
  rintro W ⟨hp, hb, hs⟩
  refine (szDump_any d l left W (hI.below (Nat.le_refl _) hb) hf h0 h1).mono ?_
  rintro e w1 ⟨hb1, r, rfl, hr1, hr2⟩
  have HB : Hid (Below w.heap.size w w1 ∧ (0 ≤ r → r + d.size ≤ left)) := ⟨hb.trans (hb1.mono (by omega)), hr2⟩
  clear hb hb1 hr2 hp hs
  by_cases hr3 : r < 0
  · have hr3' : decide (r < 0) = true := decide_eq_true hr3
    go_wp2
    go_ret
    exact ⟨HB.out.1, -1, rfl, by omega, fun h => by omega⟩
  · have hr3' : decide (r < 0) = false := decide_eq_false hr3
    go_wp2
    go_ret
    exact ⟨HB.out.1, r, rfl, hr1, HB.out.2⟩

set_option maxHeartbeats 1000000 in
theorem szRecS_any (a : Option Addr) (n c : Nat) (V : Nat → Int) (D : Nat → Dp) (L : Nat → DLoc) (left : Int) (w : World) (hS : IsRecs w a n V D L) (hf : FitRecs n V D) (hn : n ≤ maxLen) (h0 : 0 ≤ left) (h1 : left ≤ 1048576) :
    Calls Tryz.prog 18 #[.slice a n c, .int .i64 left] w fun e w' => Below w.heap.size w w' ∧ ∃ r : Int, e = .returned (.int .i64 r) ∧ r ≤ left ∧ (0 ≤ r → r + n + recsTo D n ≤ left) := by
  unfold maxLen at hn
  by_cases hneg : left - n < 0
  · have hneg' : decide (left - (n : Int) < 0) = true := decide_eq_true hneg
    go_enter Tryz.func18, Tryz.ntmps18
    go_wp2
    go_ret
    exact ⟨Below.refl _ _, -1, rfl, by omega, fun h => by omega⟩
  · have hneg' : decide (left - (n : Int) < 0) = false := decide_eq_false hneg
    go_enter Tryz.func18, Tryz.ntmps18
    go_wp2
    go_loopw [1, 5] (fun v i wr => ∃ (k : Nat) (r : Int), k ≤ n ∧ i = .int .i64 k ∧ v = .int .i64 r ∧ 0 ≤ r ∧ r ≤ left - n ∧ r + recsTo D k ≤ left - n ∧ Below w.heap.size w wr) (fun _ i _ => n - (intOf i).toNat)
    case atStart => exact ⟨0, left - n, Nat.zero_le _, rfl, rfl, by omega, by omega, by simp [recsTo], Below.refl _ _⟩
    case round =>
      obtain ⟨k, r, hk, rfl, rfl, hr0, hr1, hr2, hb⟩ := hrel
      have HB : Hid (Below w.heap.size w wr ∧ r + recsTo D k ≤ left - n) := ⟨hb, hr2⟩
      have hge : w.heap.size ≤ wr.heap.size := hb.size
      by_cases hlt : k < n
      · obtain ⟨b, off, rfl, hlt2, hc⟩ := (hS.below (Nat.le_refl _) hb).at hlt
        obtain ⟨c0, c1, c2, c3, c4, hI⟩ := hc k hlt
        have hlti : (k : Int) < (n : Int) := by omega
        clear hc hb hr2
        go_wp2_with fail
        refine (szRec_any (V k) (D k) (L k) r wr hI (hf k hlt).2 hr0 (by omega)).mono ?_
        rintro e w1 ⟨hb1, r', rfl, hr1', hr2'⟩
        have HB1 : Hid (Below w.heap.size w w1 ∧ (0 ≤ r' → r' + (D k).size ≤ r)) := ⟨HB.out.1.trans (hb1.mono hge), hr2'⟩
        clear hb1 hr2' c0 c1 c2 c3 c4
        by_cases hr3 : r' < 0
        · have hr3' : decide (r' < 0) = true := decide_eq_true hr3
          go_wp2
          go_ret
          exact ⟨HB1.out.1, -1, rfl, by omega, fun h => by omega⟩
        · have hr3' : decide (r' < 0) = false := decide_eq_false hr3
          have HN : Hid (r' + (recsTo D (k + 1) : Nat) ≤ left - n) := by
            have h1 := HB1.out.2 (by omega)
            have h2 := HB.out.2
            show _ ≤ _
            rw [recsTo_succ]
            omega
          go_wp2
          go_roundw
          case rel => exact ⟨k + 1, r', by omega, by go_num, rfl, by omega, by omega, HN.out, HB1.out.1⟩
          case measure => simp [intOf] <;> omega
      · obtain rfl : k = n := by omega
        clear hb hr2
        go_wp2
        go_ret
        exact ⟨HB.out.1, r, rfl, by omega, fun _ => by have := HB.out.2; omega⟩

set_option maxHeartbeats 1000000 in
theorem eqRec_any (v u : Int) (d e : Dp) (l k : DLoc) (w : World) (hI : DpIn w d l) (hI' : DpIn w e k) (hf : d.Fits) (hf' : e.Fits) :
    Calls Tryz.prog 47 #[recV v d l, recV u e k] w fun r w' => Below w.heap.size w w' ∧ r = .returned (.bool (sameRec v u d e)) := by
  unfold recV sameRec
  cases h1 : (v == u) with
  | false =>
    have hnb : (v != u) = true := by simp only [bne, h1]; rfl
    clear h1
    go_enter Tryz.func47, Tryz.ntmps47
    go_wp2_with fail
    go_ret
    exact ⟨((Below.refl _ _).alloc (Nat.le_refl _) _).alloc (by simp) _, rfl⟩
  | true =>
    have hnb : (v != u) = false := by simpa [bne] using h1
    clear h1
    go_enter Tryz.func47, Tryz.ntmps47
    go_wp2_with fail
    refine at_world (F := New2 w _ _ _ _) (new2 w _ _ _ _) ?_
    rintro W ⟨hp, hp', hb, hs⟩
    refine (eqDump_any d e l k W (hI.below (Nat.le_refl _) hb) (hI'.below (Nat.le_refl _) hb) hf hf').mono ?_
    rintro r w1 ⟨hb1, rfl⟩
    have HB : Hid (Below w.heap.size w w1) := hb.trans (hb1.mono (by omega))
    clear hp hp' hb hs hb1
    cases hq : d.same e with
    | false =>
      have HQ : Hid (d.same e = false) := hq
      clear hq
      go_wp2
      go_ret
      exact ⟨HB.out, ret_bool (by rw [HQ.out]; rfl)⟩
    | true =>
      have HQ : Hid (d.same e = true) := hq
      clear hq
      go_wp2
      go_ret
      exact ⟨HB.out, ret_bool (by rw [HQ.out]; rfl)⟩

set_option maxHeartbeats 1000000 in
theorem eqRecS_any (a a' : Option Addr) (n c m c' : Nat) (V U : Nat → Int) (D E : Nat → Dp) (L M : Nat → DLoc) (w : World) (hS : IsRecs w a n V D L) (hT : IsRecs w a' m U E M) (hf : FitRecs n V D) (hf' : FitRecs m U E) (hn : n ≤ maxLen) (hm : m ≤ maxLen) :
    Calls Tryz.prog 23 #[.slice a n c, .slice a' m c'] w fun e w' => Below w.heap.size w w' ∧ e = .returned (.bool (decide (n = m) && sameRecs n V U D E)) := by
  unfold maxLen at hn hm
  by_cases hne : n = m
  · subst hne
    have hb : ((n : Int) != (n : Int)) = false := by simp
    go_enter Tryz.func23, Tryz.ntmps23
    go_wp2
    go_loopw [5] (fun i wr => ∃ k : Nat, k ≤ n ∧ i = .int .i64 k ∧ Below w.heap.size w wr ∧ sameRecs k V U D E = true) (fun i _ => n - (intOf i).toNat)
    case atStart => exact ⟨0, Nat.zero_le _, rfl, Below.refl _ _, rfl⟩
    case round =>
      obtain ⟨k, hk, rfl, hbel, heq⟩ := hrel
      have HE : Hid (sameRecs k V U D E = true) := heq
      clear heq
      by_cases hlt : k < n
      · obtain ⟨b, off, rfl, hlt2, hc⟩ := (hS.below (Nat.le_refl _) hbel).at hlt
        obtain ⟨b', off', rfl, hlt2', hc'⟩ := (hT.below (Nat.le_refl _) hbel).at hlt
        obtain ⟨c0, c1, c2, c3, c4, hI⟩ := hc k hlt
        obtain ⟨d0, d1, d2, d3, d4, hI'⟩ := hc' k hlt
        have hlti : (k : Int) < (n : Int) := by omega
        have C0 := Lat.cell (B := wr.heap.size) c0 hlt2
        have C1 := Lat.cell (B := wr.heap.size) c1 hlt2
        have C2 := Lat.cell (B := wr.heap.size) c2 hlt2
        have C3 := Lat.cell (B := wr.heap.size) c3 hlt2
        have C4 := Lat.cell (B := wr.heap.size) c4 hlt2
        have D0 := Lat.cell (B := wr.heap.size) d0 hlt2'
        have D1 := Lat.cell (B := wr.heap.size) d1 hlt2'
        have D2 := Lat.cell (B := wr.heap.size) d2 hlt2'
        have D3 := Lat.cell (B := wr.heap.size) d3 hlt2'
        have D4 := Lat.cell (B := wr.heap.size) d4 hlt2'
        have hcall : Hid (∀ n : Lat wr.heap.size wr, Calls Tryz.prog 47 #[recV (V k) (D k) (L k), recV (U k) (E k) (M k)] n.val fun e w'' => e = .returned (.bool (sameRec (V k) (U k) (D k) (E k))) ∧ ∃ m : Lat wr.heap.size wr, w'' = m.val) := fun n =>
          Calls.lat_of (eqRec_any (V k) (U k) (D k) (E k) (L k) (M k) n.val (hI.below (Nat.le_refl _) n.bel) (hI'.below (Nat.le_refl _) n.bel) (hf k hlt).2 (hf' k hlt).2) (fun e w' h => ⟨h.2, h.1.mono n.bel.size⟩)
        clear hc hc' c0 c1 c2 c3 c4 d0 d1 d2 d3 d4 hI hI'
        have HBL : Hid (Below w.heap.size w wr) := hbel
        clear hbel
        go_wp2_with fail
        refine wp_region_lat (B := wr.heap.size) (w0 := wr) (by kernel_rfl) (by kernel_rfl) (Below.refl _ _) ?_
        repeat (go_big_quiet_step (exact hcall.out _))
        refine wpQuiet_nil ?_
        rintro _ ⟨nq, rfl⟩
        have hB : Hid (Below w.heap.size w nq.val) := HBL.out.trans (nq.bel.mono HBL.out.size)
        clear hcall C0 C1 C2 C3 C4 D0 D1 D2 D3 D4
        cases hq : sameRec (V k) (U k) (D k) (E k) with
        | false =>
          have HX : Hid (false = sameRecs n V U D E) := sameRecs_not n k V U D E hlt hq
          clear hq
          go_wp2
          go_ret
          exact ⟨hB.out, ret_bool (by rw [← HX.out]; simp)⟩
        | true =>
          have HX : Hid (sameRecs (k + 1) V U D E = true) := sameRecs_succ k V U D E HE.out hq
          clear hq
          go_wp2
          go_roundw
          case rel => exact ⟨k + 1, by omega, by go_num, hB.out, HX.out⟩
          case measure => simp [intOf]; omega
      · have hkn : k = n := by omega
        have HK : Hid (k = n) := hkn
        have HBL : Hid (Below w.heap.size w wr) := hbel
        clear hkn hbel
        go_wp2
        go_ret
        exact ⟨HBL.out, ret_bool (by rw [← HK.out, HE.out]; simp)⟩
  · have hb : ((n : Int) != (m : Int)) = true := by simp; omega
    go_enter Tryz.func23, Tryz.ntmps23
    go_wp2
    go_ret
    exact ⟨Below.refl _ _, ret_bool (by simp [hne])⟩
end Go.Proofs.YtakifcobofkheabGreatDoor

/-
  What was kept, with its levels, in memory of one's own: a copy, and marking it.
-/
namespace Go.Proofs.YtakifcobofkheabGreatDoor
open Go.RowKit Go.Deep
set_option linter.unusedVariables false
set_option linter.unusedSimpArgs false

/-- Block g holds n of them, the first k laid; the parts of each lie in blocks of their own, those of i from H i on and below H (i + 1). -/
structure RecRow (w : World) (g n k : Nat) (V : Nat → Int) (D : Nat → Dp) (L : Nat → DLoc) (H : Nat → Nat) : Prop where
  row : ∃ f, w.rowIs g 77 (n * 5) f ∧ ∀ i, i < k → f (i * 5) = .int .i64 (V i) ∧ f (i * 5 + 1) = .int .i64 (D i).since ∧ f (i * 5 + 2) = .int .i64 (D i).date ∧ f (i * 5 + 3) = .slice (L i).lA (D i).ln (L i).lc ∧ f (i * 5 + 4) = .slice (L i).iA (D i).m (L i).ic
  own : ∀ i, i < k → OwnDp w (H i) (D i) (L i)
  blk : ∀ i, i < k → ∀ d b, d < 2 + 2 * (D i).m → (valD (.slice (L i).lA (D i).ln (L i).lc) (.slice (L i).iA (D i).m (L i).ic) (D i).nd (L i).L d).ownBlock = some b → b < H (i + 1)
  up : ∀ i, i < k → H i ≤ H (i + 1)
  top : H k ≤ w.heap.size
  low : g < H 0

theorem RecRow.mono {w : World} {g n k : Nat} {V : Nat → Int} {D : Nat → Dp} {L : Nat → DLoc} {H : Nat → Nat} (h : RecRow w g n k V D L H) : ∀ {i j : Nat}, i ≤ j → j ≤ k → H i ≤ H j := by
  intro i j hij
  induction hij with
  | refl => intro _; exact Nat.le_refl _
  | step hij ih =>
    rename_i m
    intro hm
    exact Nat.le_trans (ih (by omega)) (h.up m (by omega))

theorem RecRow.recs {w : World} {g n : Nat} {V : Nat → Int} {D : Nat → Dp} {L : Nat → DLoc} {H : Nat → Nat} (h : RecRow w g n n V D L H) : IsRecs w (some ⟨g, 0, none⟩) n V D L := by
  obtain ⟨f, hr, hf⟩ := h.row
  refine Or.inr ⟨g, 0, rfl, hr.lt, fun i hi => ?_⟩
  obtain ⟨f0, f1, f2, f3, f4⟩ := hf i hi
  rw [Nat.zero_add, ← f0, ← f1, ← f2, ← f3, ← f4]
  exact ⟨hr.cell (by omega), hr.cell (by omega), hr.cell (by omega), hr.cell (by omega), hr.cell (by omega), (h.own i hi).dpIn⟩

theorem RecRow.below {w w' : World} {g n k : Nat} {V : Nat → Int} {D : Nat → Dp} {L : Nat → DLoc} {H : Nat → Nat} (h : RecRow w g n k V D L H) (hb : Below w.heap.size w w') : RecRow w' g n k V D L H := by
  obtain ⟨f, hr, hf⟩ := h.row
  exact ⟨⟨f, rowIs_below hr hb hr.lt, hf⟩, fun i hi => OD.below (h.own i hi) hb, h.blk, h.up, Nat.le_trans h.top hb.size, h.low⟩

theorem five_ne {i k r s : Nat} (h : i ≠ k) (hr : r < 5) (hs : s < 5) : i * 5 + r ≠ k * 5 + s := by omega

theorem RecRow.step {w : World} {g n k : Nat} {V : Nat → Int} {D : Nat → Dp} {L : Nat → DLoc} {H : Nat → Nat} (h : RecRow w g n k V D L H) {l : DLoc} (hk : OwnDp w (H k) (D k) l) :
    RecRow (((((w.setCell ⟨g, k * 5, none⟩ (.int .i64 (V k))).setCell ⟨g, k * 5 + 1, none⟩ (.int .i64 (D k).since)).setCell ⟨g, k * 5 + 2, none⟩ (.int .i64 (D k).date)).setCell ⟨g, k * 5 + 3, none⟩ (.slice l.lA (D k).ln l.lc)).setCell ⟨g, k * 5 + 4, none⟩ (.slice l.iA (D k).m l.ic)) g n (k + 1) V D (fun i => if i = k then l else L i) (fun i => if i = k + 1 then w.heap.size else H i) := by
  have hlow := h.low
  have hm : ∀ i, i ≤ k → g < H i := fun i hi => Nat.lt_of_lt_of_le hlow (h.mono (Nat.zero_le _) hi)
  have htop := h.top
  obtain ⟨f, hr, hf⟩ := h.row
  refine ⟨⟨_, (((((hr.set _ _).set _ _).set _ _).set _ _).set _ _), fun i hi => ?_⟩, fun i hi => ?_, fun i hi d b hd hb => ?_, fun i hi => ?_, ?_, ?_⟩
  · by_cases e : i = k
    · subst e; simp
    · have := hf i (by omega)
      have n0 : ∀ r s, r < 5 → s < 5 → ¬ i * 5 + r = k * 5 + s := fun r s hr hs => five_ne e hr hs
      have z0 : ∀ s, s < 5 → ¬ i * 5 = k * 5 + s := fun s hs => n0 0 s (by omega) hs
      have z1 : ∀ r, r < 5 → ¬ i * 5 + r = k * 5 := fun r hr => n0 r 0 hr (by omega)
      have z2 : ¬ i * 5 = k * 5 := n0 0 0 (by omega) (by omega)
      simp only [if_neg e, z0 1 (by omega), z0 2 (by omega), z0 3 (by omega), z0 4 (by omega), z1 1 (by omega), z1 2 (by omega), z1 3 (by omega), z1 4 (by omega), z2, n0 1 1 (by omega) (by omega), n0 1 2 (by omega) (by omega), n0 1 3 (by omega) (by omega), n0 1 4 (by omega) (by omega), n0 2 1 (by omega) (by omega), n0 2 2 (by omega) (by omega), n0 2 3 (by omega) (by omega), n0 2 4 (by omega) (by omega), n0 3 1 (by omega) (by omega), n0 3 2 (by omega) (by omega), n0 3 3 (by omega) (by omega), n0 3 4 (by omega) (by omega), n0 4 1 (by omega) (by omega), n0 4 2 (by omega) (by omega), n0 4 3 (by omega) (by omega), n0 4 4 (by omega) (by omega), if_false]
      exact this
  · simp only [show i ≠ k + 1 by omega, if_false]
    have hg : g < H i := hm i (by omega)
    by_cases e : i = k
    · subst e
      simp only [if_true]
      exact (((((OD.off hk _ hg).off _ hg).off _ hg).off _ hg).off _ hg)
    · simp only [if_neg e]
      exact (((((OD.off (h.own i (by omega)) _ hg).off _ hg).off _ hg).off _ hg).off _ hg)
  · by_cases e : i = k
    · subst e
      simp only [if_true] at hb ⊢
      exact (owns_block (hk.rows.own d hd) hb).2
    · simp only [if_neg e] at hb
      have := h.blk i (by omega) d b hd hb
      simp only [show i + 1 ≠ k + 1 by omega, if_false]
      exact this
  · by_cases e : i = k
    · subst e
      simp only [show i ≠ i + 1 by omega, if_false, if_true]
      exact htop
    · simp only [show i ≠ k + 1 by omega, show i + 1 ≠ k + 1 by omega, if_false]
      exact h.up i (by omega)
  · simp [World.setCell]
  · simp only [show (0 : Nat) ≠ k + 1 by omega, if_false]
    exact hlow

set_option maxHeartbeats 1000000 in
theorem toRec_any (v : Int) (d : Dp) (l : DLoc) (w : World) (hI : DpIn w d l) (hsz : d.size ≤ 1048576) :
    Calls Tryz.prog 44 #[recV v d l] w fun e w' => ∃ l', e = .returned (recV v d l') ∧ Below w.heap.size w w' ∧ OwnDp w' w.heap.size d l' := by
  unfold recV
  go_enter Tryz.func44, Tryz.ntmps44
  go_wp2_with fail
  refine at_world (F := New3 w _ _ _ _ _ _) (new3 w _ _ _ _ _ _) ?_
  rintro W ⟨hp, hr, ho, hb0, hs0⟩
  refine (toDump_own d l W (hI.below (Nat.le_refl _) hb0) hsz).mono ?_
  rintro e w1 ⟨l', rfl, hb1, hod⟩
  unfold dpV
  have hr1 := hr.below hb1 (by omega)
  have ho1 := ho.below hb1 (by omega)
  have hB1 := hb0.trans (hb1.mono (by omega))
  have hod' : OwnDp w1 W.heap.size d l' := hod
  have o0 : w1.cell? ⟨w.heap.size + 1 + 1, 0, none⟩ = some (.int .i64 v) := ho1.cell 0
  have o1 : w1.cell? ⟨w.heap.size + 1 + 1, 1, none⟩ = some (.int .i64 0) := ho1.cell 1
  have o2 : w1.cell? ⟨w.heap.size + 1 + 1, 2, none⟩ = some (.int .i64 0) := ho1.cell 2
  have o3 : w1.cell? ⟨w.heap.size + 1 + 1, 3, none⟩ = some (.slice none 0 0) := ho1.cell 3
  have o4 : w1.cell? ⟨w.heap.size + 1 + 1, 4, none⟩ = some (.slice none 0 0) := ho1.cell 4
  have f1 := ho1.frozen 1
  have f2 := ho1.frozen 2
  have f3 := ho1.frozen 3
  have f4 := ho1.frozen 4
  have r0 : w1.cell? ⟨w.heap.size + 1, 0, none⟩ = some (.int .i64 0) := hr1.cell 0
  have r1 : w1.cell? ⟨w.heap.size + 1, 1, none⟩ = some (.int .i64 0) := hr1.cell 1
  have r2 : w1.cell? ⟨w.heap.size + 1, 2, none⟩ = some (.int .i64 0) := hr1.cell 2
  have r3 : w1.cell? ⟨w.heap.size + 1, 3, none⟩ = some (.slice none 0 0) := hr1.cell 3
  have r4 : w1.cell? ⟨w.heap.size + 1, 4, none⟩ = some (.slice none 0 0) := hr1.cell 4
  have g0 := hr1.frozen 0
  have g1 := hr1.frozen 1
  have g2 := hr1.frozen 2
  have g3 := hr1.frozen 3
  have g4 := hr1.frozen 4
  have FB : Hid (Blk w1 (w.heap.size + 1) _ _ ∧ Below w.heap.size w w1 ∧ OwnDp w1 (w.heap.size + 3) d l') := ⟨hr1, hB1, hod.lower (by omega)⟩
  clear hp hr ho hb0 hb1 hr1 ho1 hB1 hod hod' hs0
  go_wp2_with fail
  obtain ⟨hr, hB, hS⟩ := FB.out
  refine end_world (F := fun W => Blk W (w.heap.size + 1) #[.int .i64 v, .int .i64 d.since, .int .i64 d.date, .slice l'.lA d.ln l'.lc, .slice l'.iA d.m l'.ic] 77 ∧ Below w.heap.size w W ∧ OwnDp W (w.heap.size + 3) d l')
    ?_ ?_
  · refine ⟨?_, ?_, ?_⟩
    · exact (((((((((hr.off _ (by omega)).off _ (by omega)).off _ (by omega)).off _ (by omega)).set 0 _).set 1 _).set 2 _).set 3 _).set 4 _)
    · exact bel_put (bel_put (bel_put (bel_put (bel_put (bel_put (bel_put (bel_put (bel_put hB _ (by omega)) _ (by omega)) _ (by omega)) _ (by omega)) _ (by omega)) _ (by omega)) _ (by omega)) _ (by omega)) _ (by omega)
    · exact ((((((((OD.off hS _ (by omega)).off _ (by omega)).off _ (by omega)).off _ (by omega)).off _ (by omega)).off _ (by omega)).off _ (by omega)).off _ (by omega)).off _ (by omega)
  · clear hr hB hS FB o0 o1 o2 o3 o4 f1 f2 f3 f4 r0 r1 r2 r3 r4 g0 g1 g2 g3 g4
    rintro W ⟨hr, hB, hS⟩
    have r0 : W.cell? ⟨w.heap.size + 1, 0, none⟩ = some (.int .i64 v) := hr.cell 0
    have r1 : W.cell? ⟨w.heap.size + 1, 1, none⟩ = some (.int .i64 d.since) := hr.cell 1
    have r2 : W.cell? ⟨w.heap.size + 1, 2, none⟩ = some (.int .i64 d.date) := hr.cell 2
    have r3 : W.cell? ⟨w.heap.size + 1, 3, none⟩ = some (.slice l'.lA d.ln l'.lc) := hr.cell 3
    have r4 : W.cell? ⟨w.heap.size + 1, 4, none⟩ = some (.slice l'.iA d.m l'.ic) := hr.cell 4
    exact bodyPost_ret (v := .agg #[.int .i64 v, .int .i64 d.since, .int .i64 d.date, .slice l'.lA d.ln l'.lc, .slice l'.iA d.m l'.ic]) (by simp [results, Tryz.results44, go_sem, r0, r1, r2, r3, r4]) rfl ⟨l', rfl, hB, OD.lower hS (by omega)⟩

set_option maxHeartbeats 2000000 in
theorem toRecS_own (a : Option Addr) (n c : Nat) (V : Nat → Int) (D : Nat → Dp) (L : Nat → DLoc) (w : World) (hS : IsRecs w a n V D L) (hn : n ≤ 1048576) (hsz : recsTo D n ≤ 1048576) :
    Calls Tryz.prog 20 #[.slice a n c] w fun e w' => e = .returned (.slice (some ⟨w.heap.size, 0, none⟩) n n) ∧ Below w.heap.size w w' ∧ ∃ L' H, RecRow w' w.heap.size n n V D L' H := by
  have hmk := fun w => run_make_wide (P := Tryz.prog) 47 77 _ 72 5 Tryz.underlying47 infoRec .i64 .i64 n (by omega) (by omega) w
  go_enter Tryz.func20, Tryz.ntmps20
  go_wp2
  go_loopw [4] (fun i wr => ∃ (k : Nat) (L' : Nat → DLoc) (H : Nat → Nat), k ≤ n ∧ i = .int .i64 k ∧ Below w.heap.size w wr ∧ RecRow wr w.heap.size n k V D L' H) (fun i _ => n - (intOf i).toNat)
  case atStart =>
    obtain ⟨g, hg⟩ := rowIs_wide w #[.int .i64 0, .int .i64 0, .int .i64 0, .slice none 0 0, .slice none 0 0] (n * 5) 77
    exact ⟨0, L, fun _ => w.heap.size + 1, Nat.zero_le _, rfl, (Below.refl _ _).alloc (Nat.le_refl _) _, ⟨g, hg, fun i hi => by omega⟩, fun i hi => by omega, fun i hi => by omega, fun i hi => by omega, by simp, by omega⟩
  case round =>
    obtain ⟨k, L', H, hk, rfl, hb, hrow⟩ := hrel
    by_cases hlt : k < n
    · obtain ⟨b, off, rfl, hlt2, hc⟩ := (hS.below (Nat.le_refl _) hb).at hlt
      obtain ⟨c0, c1, c2, c3, c4, hI⟩ := hc k hlt
      clear hc
      go_wp2_with fail
      refine (toRec_any (V k) (D k) (L k) wr hI (by have := recs_size D hlt; omega)).mono ?_
      rintro e w1 ⟨l', rfl, hb1, hod⟩
      unfold recV
      have hrow1 := hrow.below hb1
      have hB := hb.trans (hb1.mono hb.size)
      have HR : Hid (RecRow w1 w.heap.size n k V D L' H ∧ OwnDp w1 (H k) (D k) l' ∧ Below w.heap.size w w1) := ⟨hrow1, OD.lower hod hrow.top, hB⟩
      obtain ⟨f, hr, _⟩ := hrow1.row
      have d0 := hr.cell (show k * 5 < n * 5 by omega)
      have d1 := hr.cell (show k * 5 + 1 < n * 5 by omega)
      have d2 := hr.cell (show k * 5 + 2 < n * 5 by omega)
      have d3 := hr.cell (show k * 5 + 3 < n * 5 by omega)
      have d4 := hr.cell (show k * 5 + 4 < n * 5 by omega)
      have e0 := hr.frozen (k * 5)
      have e1 := hr.frozen (k * 5 + 1)
      have e2 := hr.frozen (k * 5 + 2)
      have e3 := hr.frozen (k * 5 + 3)
      have e4 := hr.frozen (k * 5 + 4)
      clear hb hrow hrow1 hr hB hb1 hod hI c0 c1 c2 c3 c4
      go_wp2
      go_roundw
      case rel => exact ⟨k + 1, _, _, by omega, by go_num, bel_put (bel_put (bel_put (bel_put (bel_put HR.out.2.2 _ (Nat.le_refl _)) _ (Nat.le_refl _)) _ (Nat.le_refl _)) _ (Nat.le_refl _)) _ (Nat.le_refl _), HR.out.1.step HR.out.2.1⟩
      case measure => simp [intOf]; omega
    · have hkn : k = n := by omega
      have HR : Hid (Below w.heap.size w wr ∧ ∃ L' H, RecRow wr w.heap.size n n V D L' H) := ⟨hb, L', H, hkn ▸ hrow⟩
      clear hb hrow hkn
      go_wp2
      go_ret
      exact ⟨rfl, HR.out.1, HR.out.2⟩
end Go.Proofs.YtakifcobofkheabGreatDoor

/-
  What was kept, in memory of one's own, is marked: only that it goes on, and what it leaves alone.
-/
namespace Go.Proofs.YtakifcobofkheabGreatDoor
open Go.RowKit Go.Deep
set_option linter.unusedVariables false
set_option linter.unusedSimpArgs false

theorem kap_le6 (D : Nat → Nd) (k0 : Nat) : ∀ m, kap D k0 m ≤ k0 + 4 * m + sizeTo D m
  | 0 => by simp [kap, sizeTo]
  | m + 1 => by
    have h1 := kap_le6 D k0 m
    rw [kap, sizeTo_succ]
    unfold Nd.size
    omega

theorem kap_size6 {d : Dp} (k0 : Nat) : kap d.nd (k0 + d.ln) d.m ≤ k0 + 4 * d.size := by
  have h1 := kap_le6 d.nd (k0 + d.ln) d.m
  unfold Dp.size
  omega

theorem nd_sum6 {d : Dp} (h : d.size ≤ 1048576) {i : Nat} (hi : i < d.m) : (d.nd i).nn ≤ 1048576 ∧ (d.nd i).kn ≤ 1048576 := by
  have h1 := size_le_sizeTo d.nd d.m i hi
  unfold Dp.size at h
  unfold Nd.size at h1
  omega

theorem Fr.wide {B B' H H' : Nat} {a w : World} (h : Fr B H a w) (hB : B' ≤ B) (hH : H ≤ H') : Fr B' H' a w := ⟨h.bel.mono hB, fun b hb hl => h.far b (by omega) hl⟩

/-- Block g holds n of them, those from j on each in blocks of their own. -/
structure MkRow (w : World) (g n j : Nat) (D : Nat → Dp) (L : Nat → DLoc) (H : Nat → Nat) : Prop where
  row : ∃ f, w.rowIs g 77 (n * 5) f ∧ ∀ i, i < n → f (i * 5 + 3) = .slice (L i).lA (D i).ln (L i).lc ∧ f (i * 5 + 4) = .slice (L i).iA (D i).m (L i).ic
  own : ∀ i, j ≤ i → i < n → OwnDp w (H i) (D i) (L i)
  blk : ∀ i, i < n → ∀ d b, d < 2 + 2 * (D i).m → (valD (.slice (L i).lA (D i).ln (L i).lc) (.slice (L i).iA (D i).m (L i).ic) (D i).nd (L i).L d).ownBlock = some b → b < H (i + 1)
  up : ∀ i, i < n → H i ≤ H (i + 1)
  top : H n ≤ w.heap.size
  low : g < H 0

theorem RecRow.toMk {w : World} {g n : Nat} {V : Nat → Int} {D : Nat → Dp} {L : Nat → DLoc} {H : Nat → Nat} (h : RecRow w g n n V D L H) : MkRow w g n 0 D L H := by
  obtain ⟨f, hr, hf⟩ := h.row
  exact ⟨⟨f, hr, fun i hi => ⟨(hf i hi).2.2.2.1, (hf i hi).2.2.2.2⟩⟩, fun i _ hi => h.own i hi, h.blk, h.up, h.top, h.low⟩

theorem MkRow.mono {w : World} {g n j : Nat} {D : Nat → Dp} {L : Nat → DLoc} {H : Nat → Nat} (h : MkRow w g n j D L H) : ∀ {i j : Nat}, i ≤ j → j ≤ n → H i ≤ H j := by
  intro i j hij
  induction hij with
  | refl => intro _; exact Nat.le_refl _
  | step hij ih =>
    rename_i m
    intro hm
    exact Nat.le_trans (ih (by omega)) (h.up m (by omega))

/-- A number is written into a cell of the row. -/
theorem MkRow.put {w : World} {g n j : Nat} {D : Nat → Dp} {L : Nat → DLoc} {H : Nat → Nat} (h : MkRow w g n j D L H) (k r : Nat) (hr : r < 3) (v : Value) : MkRow (w.setCell ⟨g, k * 5 + r, none⟩ v) g n j D L H := by
  obtain ⟨f, hrow, hf⟩ := h.row
  refine ⟨⟨_, hrow.set _ _, fun i hi => ?_⟩, fun i hj hi => OD.off (h.own i hj hi) v (Nat.lt_of_lt_of_le h.low (h.mono (Nat.zero_le _) (by omega))), h.blk, h.up, by simpa [World.setCell] using h.top, h.low⟩
  rw [if_neg (show ¬ i * 5 + 3 = k * 5 + r by omega), if_neg (show ¬ i * 5 + 4 = k * 5 + r by omega)]
  exact hf i hi

/-- What only writes into the blocks of one of them leaves the row, and those behind it, alone. -/
theorem MkRow.next {w w' : World} {g n j : Nat} {D : Nat → Dp} {L : Nat → DLoc} {H : Nat → Nat} (h : MkRow w g n j D L H) (hj : j < n) (hf : Fr (H j) (H (j + 1)) w w') : MkRow w' g n (j + 1) D L H := by
  obtain ⟨f, hrow, hff⟩ := h.row
  have hg : g < H j := Nat.lt_of_lt_of_le h.low (h.mono (Nat.zero_le _) (by omega))
  refine ⟨⟨f, hrow.of_block (hf.bel.block g hg), hff⟩, fun i hji hi => OD.same (h.own i (by omega) hi) fun b hb hl => hf.far b ?_ hl, h.blk, h.up, Nat.le_trans h.top hf.bel.size, h.low⟩
  exact Nat.le_trans (h.mono hji (by omega)) hb

set_option maxHeartbeats 2000000 in
theorem markRecS_own (g n c k0 : Nat) (D : Nat → Dp) (L : Nat → DLoc) (H : Nat → Nat) (w : World) (h : MkRow w g n 0 D L H) (hn : n ≤ 1048576) (hsz : recsTo D n ≤ 1048576) (hk1 : 1 ≤ k0) (hk : k0 ≤ 10000000) :
    Calls Tryz.prog 24 #[.slice (some ⟨g, 0, none⟩) n c, .int .i64 (k0 : Int)] w fun e w' => (∃ q : Nat, e = .returned (.int .i64 (q : Int)) ∧ k0 ≤ q ∧ q ≤ k0 + 3 * n + 4 * recsTo D n) ∧ Fr g (H n) w w' := by
  go_enter Tryz.func24, Tryz.ntmps24
  go_wp2
  go_loopw [1, 5] (fun kk i wr => ∃ j q : Nat, j ≤ n ∧ i = .int .i64 j ∧ kk = .int .i64 (q : Int) ∧ k0 ≤ q ∧ q ≤ k0 + 3 * j + 4 * recsTo D j ∧ MkRow wr g n j D L H ∧ Fr g (H n) w wr) (fun _ i _ => n - (intOf i).toNat)
  case atStart => exact ⟨0, k0, Nat.zero_le _, rfl, rfl, Nat.le_refl _, by simp [recsTo], h, Fr.refl _ _ _⟩
  case round =>
    obtain ⟨j, q, hj, rfl, rfl, hq0, hq1, hm, hf⟩ := hrel
    have hrj : recsTo D j ≤ recsTo D n := recsTo_mono D hj
    by_cases hlt : j < n
    · have hlti : (j : Int) < (n : Int) := by omega
      have hgj : g < H j := Nat.lt_of_lt_of_le hm.low (hm.mono (Nat.zero_le _) (by omega))
      have hjn : H (j + 1) ≤ H n := hm.mono (by omega) (Nat.le_refl _)
      have hgn : g < H n := Nat.lt_of_lt_of_le hgj (hm.mono (by omega) (Nat.le_refl _))
      have hup : H j ≤ H (j + 1) := hm.up j hlt
      have hdz := recs_size D hlt
      have hq2 : q ≤ 18000000 := by omega
      obtain ⟨f, hr, hff⟩ := hm.row
      have d0 := hr.cell (show j * 5 < n * 5 by omega)
      have d1 := hr.cell (show j * 5 + 1 < n * 5 by omega)
      have d2 := hr.cell (show j * 5 + 2 < n * 5 by omega)
      have d3 := hr.cell (show j * 5 + 3 < n * 5 by omega)
      have e0 := hr.frozen (j * 5)
      have e1 := hr.frozen (j * 5 + 1)
      have e2 := hr.frozen (j * 5 + 2)
      rw [(hff j hlt).1] at d3
      have HM : Hid (MkRow (((wr.setCell ⟨g, j * 5, none⟩ (.int .i64 (q : Int))).setCell ⟨g, j * 5 + 1, none⟩ (.int .i64 ((q : Int) + 1))).setCell ⟨g, j * 5 + 2, none⟩ (.int .i64 ((q : Int) + 1 + 1))) g n j D L H ∧ Fr g (H n) w (((wr.setCell ⟨g, j * 5, none⟩ (.int .i64 (q : Int))).setCell ⟨g, j * 5 + 1, none⟩ (.int .i64 ((q : Int) + 1))).setCell ⟨g, j * 5 + 2, none⟩ (.int .i64 ((q : Int) + 1 + 1)))) :=
        ⟨((hm.put j 0 (by omega) _).put j 1 (by omega) _).put j 2 (by omega) _, ((hf.put _ (Nat.le_refl _) hgn).put _ (Nat.le_refl _) hgn).put _ (Nat.le_refl _) hgn⟩
      clear hm hf hr hff
      go_wp2_with fail
      refine at_world (F := fun W => MkRow W g n j D L H ∧ Fr g (H n) w W) HM.out ?_
      clear HM d0 d1 d2 d3 e0 e1 e2
      rintro W ⟨hm, hf⟩
      have hod := hm.own j (Nat.le_refl _) hlt
      rw [show (q : Int) + 1 + 1 + 1 = ((q + 3 : Nat) : Int) from by omega]
      refine (markBoolS_own (L j).lA (D j).ln (L j).lc (q + 3) (H j) (D j).live W hod.ownL (by have := hdz; unfold Dp.size at this; omega) (by omega)).mono ?_
      rintro e W2 ⟨rfl, hown, hg⟩
      have hod2 : OD W2 (H j) (D j).ln (markB (q + 3)) (D j).m (D j).ino (D j).nd (L j).L (.slice (L j).lA (D j).ln (L j).lc) (.slice (L j).iA (D j).m (L j).ic) := OD.turnLive hod hg hown
      have hbl : ∀ b, (Value.slice (L j).lA (D j).ln (L j).lc).ownBlock = some b → H j ≤ b ∧ b < H (j + 1) := fun b e => ⟨(owns_block (OD.ownL hod) e).1, hm.blk j hlt 0 b (by omega) e⟩
      have hf2 : Fr (H j) (H (j + 1)) W W2 := (Fr.refl _ _ W).grow hg (Nat.le_trans (hm.mono (by omega) (Nat.le_refl _)) hm.top) hbl
      obtain ⟨f, hr, hff⟩ := hm.row
      have d4 := (hr.of_block (hf2.bel.block g hgj)).cell (show j * 5 + 4 < n * 5 by omega)
      rw [(hff j hlt).2] at d4
      have H2 : Hid (MkRow W g n j D L H ∧ Fr g (H n) w W ∧ Fr (H j) (H (j + 1)) W W2 ∧ OD W2 (H j) (D j).ln (markB (q + 3)) (D j).m (D j).ino (D j).nd (L j).L (.slice (L j).lA (D j).ln (L j).lc) (.slice (L j).iA (D j).m (L j).ic)) := ⟨hm, hf, hf2, hod2⟩
      clear hm hf hod hown hg hod2 hbl hf2 hr hff
      have hks := kap_size6 (d := D j) (q + 3)
      have hkg := kap_ge (D j).nd (q + 3 + (D j).ln) (D j).m
      have hm1 : (D j).m ≤ 1048576 := by have := hdz; unfold Dp.size at this; omega
      go_wp2_with fail
      refine (markItemS_own (H (j + 1)) (L j).iA (D j).m (L j).ic (q + 3 + (D j).ln) (H j) (D j).ln (markB (q + 3)) (D j).ino (D j).nd (L j).L (.slice (L j).lA (D j).ln (L j).lc) W2 H2.out.2.2.2 hm1 (by omega) (H2.out.1.blk j hlt) (by omega) (fun i hi => nd_sum6 (by omega) hi)).mono ?_
      rintro e W3 ⟨rfl, hf3, _⟩
      have HF : Hid (Fr (H j) (H (j + 1)) W W3) := H2.out.2.2.1.trans (by have := H2.out.1.top; have := H2.out.1.mono (show j ≤ n by omega) (Nat.le_refl _); have := H2.out.2.2.1.bel.size; omega) hf3
      have HN : Hid (MkRow W3 g n (j + 1) D L H ∧ Fr g (H n) w W3) := ⟨H2.out.1.next hlt HF.out, H2.out.2.1.trans (by have := H2.out.1.top; omega) (HF.out.wide (by omega) hjn)⟩
      have hb1 : kap (D j).nd (q + 3 + (D j).ln) (D j).m ≤ k0 + 3 * (j + 1) + 4 * recsTo D (j + 1) := by rw [recsTo_succ]; omega
      clear H2 HF hf3 d4
      go_wp2
      go_roundw
      case rel => exact ⟨j + 1, kap (D j).nd (q + 3 + (D j).ln) (D j).m, by omega, by go_num, rfl, by omega, hb1, HN.out.1, HN.out.2⟩
      case measure => simp [intOf]; omega
    · obtain rfl : j = n := by omega
      have HR : Hid (Fr g (H j) w wr) := hf
      clear hm hf
      go_wp2
      go_ret
      exact ⟨⟨q, rfl, hq0, hq1⟩, HR.out⟩
end Go.Proofs.YtakifcobofkheabGreatDoor

/-
  FnExactBookBack, walked.
-/
namespace Go.Proofs.YtakifcobofkheabGreatDoor
open Go.RowKit Go.Deep
set_option linter.unusedVariables false
set_option linter.unusedSimpArgs false
set_option linter.unnecessarySimpa false

theorem bookAns_small {n : Nat} {V : Nat → Int} {D : Nat → Dp} (hf : FitRecs n V D) (hs : recsTo D n ≤ 1048576) : SmTr (bookAns n V D).1 := by
  obtain ⟨hrise, hlt, hlen⟩ := chainOf_rise n V
  exact allAns_small (fun i hi => (hf _ (hlt _ (getD_mem hi))).2) (Nat.le_trans (need_sum hrise hlt) hs)

/-- What is known behind the calls. -/
structure FBBook (w w3 : World) (r : Tr) (lr lg : TLoc) (V bG : Nat) (W : World) : Prop where
  bel : Below w.heap.size w W
  base : Below w3.heap.size w3 W
  v : Blk W V (tC r lr) 44
  g : Blk W bG (tC r lg) 44
  vl : V < w3.heap.size
  wl : w.heap.size ≤ w3.heap.size

theorem FBBook.below {w w3 : World} {r : Tr} {lr lg : TLoc} {V bG : Nat} {W W' : World} (h : FBBook w w3 r lr lg V bG W) (hb : Below W.heap.size W W') : FBBook w w3 r lr lg V bG W' :=
  ⟨h.bel.trans (hb.mono h.bel.size), h.base.trans (hb.mono h.base.size), h.v.below hb h.v.lt, h.g.below hb h.g.lt, h.vl, h.wl⟩

theorem FBBook.fr {w w3 : World} {r : Tr} {lr lg : TLoc} {V bG : Nat} {W W' : World} (h : FBBook w w3 r lr lg V bG W) {B H : Nat} (hb : Fr B H W W') (hB : w3.heap.size ≤ B) (hG : bG < B ∨ H ≤ bG) : FBBook w w3 r lr lg V bG W' := by
  have hwl := h.wl
  have hvl := h.vl
  have key : ∀ {q : Nat} {cs : Array Value} {t : TypeId}, Blk W q cs t → q < B ∨ H ≤ q → Blk W' q cs t := fun hq e => hq.of_block (by
    rcases e with e | e
    · exact hb.bel.block _ e
    · exact hb.far _ e hq.lt)
  exact ⟨h.bel.trans (hb.bel.mono (by omega)), h.base.trans (hb.bel.mono hB), key h.v (Or.inl (by omega)), key h.g hG, h.vl, h.wl⟩

set_option maxRecDepth 100000 in
set_option maxHeartbeats 32000000 in
theorem lawBookBack (x0 : Rs) (l0 : RsLoc) (w : World) (hE : ErrType w) (hI0 : RsIn w x0 l0) (hf0 : x0.Fits) :
    Calls Tryz.prog 4 #[rsV x0 l0] w fun r w' => r = .returned (.bool true) ∧ Below w.heap.size w w' := by
  obtain ⟨n, V0, D⟩ := x0
  obtain ⟨a, c, L⟩ := l0
  have hI : IsRecs w a n V0 D L := hI0
  have hn : n ≤ maxLen := hf0.n
  have hf : FitRecs n V0 D := hf0.d
  unfold rsV
  clear hI0 hf0
  have hn' := hn
  unfold maxLen at hn'
  go_enter Tryz.func4, Tryz.ntmps4
  go_wp2_with fail
  refine (szRecS_any a n c V0 D L _ w hI hf hn (by omega) (by omega)).mono ?_
  rintro r0 ws0 ⟨hbs0, rr0, rfl, hra0, hrb0⟩
  by_cases hrc0 : rr0 < 0
  · have hrd0 : decide (rr0 < 0) = true := by simp; omega
    have HB : Hid (Below w.heap.size w ws0) := hbs0
    clear hrb0 hbs0
    go_wp2
    go_ret
    exact ⟨rfl, HB.out⟩
  · have hrd0 : decide (rr0 < 0) = false := by simp; omega
    have hsz0 := hrb0 (by omega)
    have HSZ : Hid (recsTo D n ≤ 1048576 ∧ n ≤ 1048576) := by constructor <;> omega
    have HSM : Hid (SmTr (bookAns n V0 D).1) := bookAns_small hf HSZ.out.1
    have HSP : Hid (∀ W a' c' L', IsRecs W a' n V0 D L' → Calls Tryz.prog 19 #[.slice a' n c'] W (AllPost W (bookAns n V0 D))) := fun W a' c' L' h => specBookBack_any a' n c' V0 D L' W h hf hn HSZ.out.1
    have HIM : Hid (∀ W a' c' L', ErrType W → IsRecs W a' n V0 D L' → Calls Tryz.prog 21 #[.slice a' n c'] W (AllPost W (bookAns n V0 D))) := fun W a' c' L' hg h => implBookBack_any a' n c' V0 D L' W hg h hf hn HSZ.out.1
    have H2 : Hid (Below w.heap.size w ws0) := hbs0
    generalize bookAns n V0 D = rz at *
    obtain ⟨r, z⟩ := rz
    replace HSM : Hid (SmTr r) := HSM
    clear hrb0 hsz0 hbs0
    go_wp2_with fail
    refine (toRecS_own a n c V0 D L ws0 (hI.below (Nat.le_refl _) H2.out) HSZ.out.2 HSZ.out.1).mono ?_
    rintro e wq1p ⟨rfl, hbc, Lq, Hq, hrow⟩
    have HQ1p : Hid (Below w.heap.size w wq1p ∧ Below ws0.heap.size ws0 wq1p ∧ IsRecs wq1p (some ⟨ws0.heap.size, 0, none⟩) n V0 D Lq) := ⟨H2.out.trans (hbc.mono H2.out.size), hbc, hrow.recs⟩
    clear hbc hrow
    go_wp2_with fail
    refine (HSP.out wq1p _ _ Lq HQ1p.out.2.2).mono ?_
    rintro e wq2p ⟨hbc, lr, rfl, ho⟩
    unfold tV
    have HQ2p : Hid (Below w.heap.size w wq2p ∧ Below ws0.heap.size ws0 wq2p ∧ OwnTr wq2p wq1p.heap.size r lr) := ⟨HQ1p.out.1.trans (hbc.mono HQ1p.out.1.size), HQ1p.out.2.1.trans (hbc.mono HQ1p.out.2.1.size), ho⟩
    clear hbc ho HQ1p
    dsimp only
    go_wp2_with fail
    refine at_world (F := fun U => Below ws0.heap.size ws0 U ∧ Blk U wq2p.heap.size (tC r lr) 44 ∧ TIn U r lr ∧ ws0.heap.size ≤ wq2p.heap.size) ?_ ?_
    · have hb1 := (new1 wq2p (tC r lr) 44).bel
      have hv1 := (new1 wq2p (tC r lr) 44).b0
      exact ⟨HQ2p.out.2.1.trans (hb1.mono HQ2p.out.2.1.size), hv1, HQ2p.out.2.2.tIn.below (Nat.le_refl _) hb1, HQ2p.out.2.1.size⟩
    · generalize wq2p.heap.size = V
      clear HQ2p
      intro W3 h3
      obtain ⟨hb3, hv3, hi3, hVge⟩ := h3
      have H3 : Hid (Below w.heap.size w W3 ∧ Blk W3 V (tC r lr) 44) := ⟨H2.out.trans (hb3.mono H2.out.size), hv3⟩
      have HI3 : Hid (TIn W3 r lr) := hi3
      have hVl := hv3.lt
      have hwl : w.heap.size ≤ W3.heap.size := H3.out.1.size
      clear hb3 hv3 hi3 H2 hVge
      refine (toRecS_own a n c V0 D L W3 (hI.below (Nat.le_refl _) H3.out.1) HSZ.out.2 HSZ.out.1).mono ?_
      rintro e wc0 ⟨rfl, hbc, Lx, Hx, hrow⟩
      have HC0 : Hid (Below w.heap.size w wc0 ∧ Below W3.heap.size W3 wc0 ∧ RecRow wc0 W3.heap.size n n V0 D Lx Hx) := ⟨H3.out.1.trans (hbc.mono H3.out.1.size), hbc, hrow⟩
      have hlc0 : W3.heap.size ≤ wc0.heap.size := hbc.size
      have hHt : Hx n ≤ wc0.heap.size := hrow.top
      obtain ⟨X, hX⟩ : ∃ X, X = W3.heap.size := ⟨_, rfl⟩
      have HX : Hid (X = W3.heap.size) := hX
      rw [← hX] at hlc0
      have hVX : V < X := by omega
      have hrowX : RecRow wc0 X n n V0 D Lx Hx := by rw [hX]; exact hrow
      have HCX : Hid (RecRow wc0 X n n V0 D Lx Hx) := hrowX
      rw [← hX]
      clear hbc hrow hX hrowX
      go_wp2_with fail
      refine (HIM.out wc0 _ _ Lx (hE.bel HC0.out.1) HCX.out.recs).mono ?_
      rintro e wg ⟨hbc, lg, rfl, hog⟩
      unfold tV
      have hb3 : Below W3.heap.size W3 wg := HC0.out.2.1.trans (hbc.mono HC0.out.2.1.size)
      have HTG : Hid (TopTr r lg wg.heap.size) := hog.top
      have hlg : wc0.heap.size ≤ wg.heap.size := hbc.size
      have hVg : V < wg.heap.size := by omega
      have hVn : V ≠ wg.heap.size := by omega
      have HG : Hid (Below w.heap.size w wg ∧ Below W3.heap.size W3 wg ∧ Blk wg V (tC r lr) 44 ∧ RecRow wg X n n V0 D Lx Hx ∧ OwnTr wg wc0.heap.size r lg) := ⟨HC0.out.1.trans (hbc.mono HC0.out.1.size), hb3, H3.out.2.below hb3 hVl, HCX.out.below hbc, hog⟩
      clear hbc hog hb3 HC0 HCX
      have hne : (z != z) = false := by simp
      obtain ⟨z0, z1⟩ := tC_cells HG.out.2.2.1
      dsimp only
      go_wp2_with fail
      clear z0 z1
      have HF9 : Hid (∀ W9, W9 = wg.alloc (.cells (tC r lg) 44) → FBBook w W3 r lr lg V wg.heap.size W9 ∧ RecRow W9 X n n V0 D Lx Hx ∧ OwnTr W9 wc0.heap.size r lg) := fun W9 e => by
        obtain ⟨hvG, hb9, hs9⟩ := new1 wg (tC r lg) 44
        rw [← e] at hvG hb9
        obtain ⟨e1, e2, e3, o0, eg⟩ := HG.out
        exact ⟨⟨e1.trans (hb9.mono e1.size), e2.trans (hb9.mono e2.size), e3.below hb9 hVg, hvG, by omega, hwl⟩, o0.below hb9, eg.below hb9⟩
      refine at_world (F := fun W9 => FBBook w W3 r lr lg V wg.heap.size W9 ∧ RecRow W9 X n n V0 D Lx Hx ∧ OwnTr W9 wc0.heap.size r lg) (HF9.out _ rfl) ?_
      clear HF9 HG H3
      rintro W9 ⟨hF9, hx0, hg9⟩
      refine (eqTr r r lg lr W9 hg9.tIn (HI3.out.below (Nat.le_refl _) hF9.base) HSM.out.fits HSM.out.fits).mono ?_
      rintro e v0 ⟨hb, rfl⟩
      rw [Tr.same_self]
      have HA0 : Hid (FBBook w W3 r lr lg V wg.heap.size v0 ∧ RecRow v0 X n n V0 D Lx Hx ∧ OwnTr v0 wc0.heap.size r lg) := ⟨hF9.below hb, hx0.below hb, hg9.below hb⟩
      clear hF9 hx0 hg9 hb
      go_wp2_with fail
      refine (toRecS_own a n c V0 D L v0 (hI.below (Nat.le_refl _) HA0.out.1.bel) HSZ.out.2 HSZ.out.1).mono ?_
      rintro e v1 ⟨rfl, hbc, Ly, Hy, hrow⟩
      have HA1 : Hid ((FBBook w W3 r lr lg V wg.heap.size v1 ∧ RecRow v1 X n n V0 D Lx Hx ∧ OwnTr v1 wc0.heap.size r lg) ∧ RecRow v1 v0.heap.size n n V0 D Ly Hy) := ⟨⟨HA0.out.1.below hbc, HA0.out.2.1.below hbc, HA0.out.2.2.below hbc⟩, hrow⟩
      clear hbc hrow HA0
      go_wp2_with fail
      refine (eqRecS_any _ _ n _ n _ V0 V0 D D Lx Ly v1 HA1.out.1.2.1.recs HA1.out.2.recs hf hf hn hn).mono ?_
      rintro e v2 ⟨hbc, rfl⟩
      rw [sameRecs_self]
      simp only [decide_true, Bool.and_true]
      have HA2 : Hid (FBBook w W3 r lr lg V wg.heap.size v2 ∧ RecRow v2 X n n V0 D Lx Hx ∧ OwnTr v2 wc0.heap.size r lg) := ⟨HA1.out.1.1.below hbc, HA1.out.1.2.1.below hbc, HA1.out.1.2.2.below hbc⟩
      clear hbc HA1
      go_wp2_with fail
      refine (markRecS_own X n n 1 D Lx Hx v2 HA2.out.2.1.toMk HSZ.out.2 HSZ.out.1 (by omega) (by omega)).mono ?_
      rintro e vm0 ⟨⟨kk0, rfl, hkp0, hka0⟩, hfr⟩
      have HM0 : Hid (FBBook w W3 r lr lg V wg.heap.size vm0 ∧ OwnTr vm0 wc0.heap.size r lg) := ⟨HA2.out.1.fr hfr (by have := HX.out; omega) (Or.inr (by omega)), HA2.out.2.2.far hfr hHt⟩
      clear hfr HA2 hka0
      have hkn : decide (((kk0 : Nat) : Int) < 0) = false := by simp
      obtain ⟨g0, g1⟩ := tC_cells HM0.out.1.g
      obtain ⟨z0, z1⟩ := tC_cells HM0.out.1.v
      go_wp2_with fail
      refine (eqTr r r lg lr vm0 HM0.out.2.tIn (HI3.out.below (Nat.le_refl _) HM0.out.1.base) HSM.out.fits HSM.out.fits).mono ?_
      rintro e va ⟨hb, rfl⟩
      rw [Tr.same_self]
      have HVA : Hid (FBBook w W3 r lr lg V wg.heap.size va ∧ OwnTr va wc0.heap.size r lg) := ⟨HM0.out.1.below hb, HM0.out.2.below hb⟩
      clear hb HM0 g0 g1 z0 z1
      obtain ⟨g0, g1⟩ := tC_cells HVA.out.1.g
      go_wp2_with fail
      refine (markTr r lg 1 wc0.heap.size wg.heap.size va HVA.out.2 HTG.out (by have := HVA.out.1.g.lt; omega) HSM.out.size (by omega) (by omega)).mono ?_
      rintro e vb ⟨rfl, hfr, hmk⟩
      have HVB : Hid (FBBook w W3 r lr lg V wg.heap.size vb ∧ MarkedTr vb wc0.heap.size r lg 1) := ⟨HVA.out.1.fr hfr (by have := HX.out; omega) (Or.inr (Nat.le_refl _)), hmk⟩
      clear hfr hmk HVA g0 g1
      obtain ⟨g0, g1⟩ := tC_cells HVB.out.1.g
      go_wp2_with fail
      refine (heldTr r lg 1 wc0.heap.size vb HVB.out.2 HSM.out.size HSM.out.nds (by omega) (by omega)).mono ?_
      rintro e vc ⟨rfl, hb⟩
      have HVC : Hid (FBBook w W3 r lr lg V wg.heap.size vc ∧ MarkedTr vc wc0.heap.size r lg 1) := ⟨HVB.out.1.below hb, HVB.out.2.below hb⟩
      have hkm : decide (((kTr r 1 : Nat) : Int) < 0) = false := by simp
      have hkk : (((kTr r 1 : Nat) : Int) != ((kTr r 1 : Nat) : Int)) = false := by simp
      clear hb HVB g0 g1
      go_wp2_with fail
      refine (toRecS_own a n c V0 D L vc (hI.below (Nat.le_refl _) HVC.out.1.bel) HSZ.out.2 HSZ.out.1).mono ?_
      rintro e wq1r ⟨rfl, hbc, Lq, Hq, hrow⟩
      have HQ1r : Hid (Below w.heap.size w wq1r ∧ Below vc.heap.size vc wq1r ∧ IsRecs wq1r (some ⟨vc.heap.size, 0, none⟩) n V0 D Lq) := ⟨HVC.out.1.bel.trans (hbc.mono HVC.out.1.bel.size), hbc, hrow.recs⟩
      clear hbc hrow
      go_wp2_with fail
      refine (HIM.out wq1r _ _ Lq (hE.bel HQ1r.out.1) HQ1r.out.2.2).mono ?_
      rintro e wq2r ⟨hbc, lh, rfl, ho⟩
      unfold tV
      have HQ2r : Hid (Below vc.heap.size vc wq2r ∧ OwnTr wq2r wq1r.heap.size r lh) := ⟨HQ1r.out.2.1.trans (hbc.mono HQ1r.out.2.1.size), ho⟩
      clear hbc ho HQ1r
      have hq2lt : V < wq2r.heap.size := (HVC.out.1.below HQ2r.out.1).v.lt
      obtain ⟨z0, z1⟩ := tC_cells (HVC.out.1.below HQ2r.out.1).v
      dsimp only
      go_wp2_with fail
      clear z0 z1
      refine at_world (F := fun U => Below vc.heap.size vc U ∧ Blk U wq2r.heap.size (tC r lh) 44 ∧ TIn U r lh) ?_ ?_
      · have hb1 := (new1 wq2r (tC r lh) 44).bel
        have hv1 := (new1 wq2r (tC r lh) 44).b0
        exact ⟨HQ2r.out.1.trans (hb1.mono HQ2r.out.1.size), hv1, HQ2r.out.2.tIn.below (Nat.le_refl _) hb1⟩
      generalize wq2r.heap.size = V3
      clear HQ2r
      · intro vd hd
        obtain ⟨hbd, hvd, hid⟩ := hd
        have HVE : Hid (FBBook w W3 r lr lg V wg.heap.size vd ∧ MarkedTr vd wc0.heap.size r lg 1 ∧ TIn vd r lh) := ⟨HVC.out.1.below hbd, HVC.out.2.below hbd, hid⟩
        clear hbd hvd hid HVC
        refine (eqTr r r lh lr vd HVE.out.2.2 (HI3.out.below (Nat.le_refl _) HVE.out.1.base) HSM.out.fits HSM.out.fits).mono ?_
        rintro e vf ⟨hb, rfl⟩
        rw [Tr.same_self]
        have HVF : Hid (FBBook w W3 r lr lg V wg.heap.size vf ∧ MarkedTr vf wc0.heap.size r lg 1) := ⟨HVE.out.1.below hb, HVE.out.2.1.below hb⟩
        clear hb HVE
        obtain ⟨g0, g1⟩ := tC_cells HVF.out.1.g
        go_wp2_with fail
        refine (heldTr r lg 1 wc0.heap.size vf HVF.out.2 HSM.out.size HSM.out.nds (by omega) (by omega)).mono ?_
        rintro e vh ⟨rfl, hb⟩
        have HBB : Hid (Below w.heap.size w vh) := (HVF.out.1.below hb).bel
        clear hb HVF g0 g1
        go_wp2
        go_ret
        exact ⟨rfl, HBB.out⟩
end Go.Proofs.YtakifcobofkheabGreatDoor

/-
  FnExactBookBack as it is stated: the row, where the listed variable of the library reads as it is laid.
-/
namespace Go.Proofs.YtakifcobofkheabGreatDoor.fnExactBookBack
open Go.ChangeShapes Go.WideShapes Go.ChangeAt Go.RowKit Go.Joins
open Go.ChangeMaps (open_string)
set_option linter.unusedVariables false

abbrev laids : List (String × DataW Unit) := [("errors.errorType", Rows.laid_errors_errorType)]

theorem door_met (os : Os) (args : Array Value) : laidMetH Tryz.prog laids ((World.doorLaid Tryz.prog 16 os).forCall (fun _ _ => 0) ⟨#[], args, []⟩).memory :=
  laidMetH_of_parts3 (fuel := 8) (laidMet_of_run' 8 (by kernel_rfl) (by kernel_rfl)) (by kernel_rfl) (by kernel_rfl)

theorem et : Tryz.prog.globalNamed "errors.errorType" = some 0 := by kernel_rfl
theorem rt : (Tryz.prog.cutTypes.find? (·.1 == "internal/reflectlite.rtype")).map (·.2) = some 157 := by kernel_rfl
theorem oneRow : ((List.range 206).filter fun t => Tryz.prog.rowNamed t [101, 114, 114, 111, 114]) = [91] := by kernel_rfl
theorem typesSize : Tryz.prog.types.size = 206 := by kernel_rfl

/-- What the condition gives a walk: the variable's one cell. -/
theorem err_of_laid {W : World} (h : laidMetH Tryz.prog laids W) : ErrType W := by
  have h' : laidMet Tryz.prog [] W ∧ handlesMet Tryz.prog laids W := h
  obtain ⟨name, u, ty, e1, e2, e3, e4, e5⟩ := h'.2 _ (List.mem_singleton.2 rfl)
  have en : name = [101, 114, 114, 111, 114] := (Option.some.inj e1).symm
  subst en
  obtain rfl := Option.some.inj (rt.symm.trans e2)
  have hm : ty ∈ (List.range 206).filter fun t => Tryz.prog.rowNamed t [101, 114, 114, 111, 114] := List.mem_filter.2 ⟨List.mem_range.2 (by rw [← typesSize]; exact e3), e4⟩
  rw [oneRow] at hm
  obtain rfl := List.mem_singleton.1 hm
  have hh : typeHandle Tryz.prog 91 = .pointer (some ⟨1, 91, none⟩) := by kernel_rfl
  rw [hh] at e5
  have := World.var?_cell et e5 0
  unfold ErrType
  simpa using this

set_option maxRecDepth 100000 in
theorem lifted (os : Os) (started : os.Started) (H : Type) (enc : TypeId × Value → H) :
    ReturnsInHanded {} Tryz.checked os 4 .any (fun w args => (Rows.fnExactBookBackSpec.pre enc Tryz.prog Tryz.f4 [] false w args ∧ laidMetH Tryz.prog laids w) ∧ sizedMet enc Tryz.prog Tryz.f4 (OpenSpec.ofChange Rows.fnExactBookBackSpec) false w args)
      (Rows.fnExactBookBackSpec.post enc Tryz.prog Tryz.f4 false true false false) := by
  refine returnsInHanded_of_change_and (C := Tryz.checked) (X := fun w _ => laidMetH Tryz.prog laids w) (fun _ _ _ hh h => h.of_heap hh) own started (by kernel_rfl) Tryz.func4
    (ChangeSpec.witness_shaped (enc := enc) (C := Tryz.checked) (os := os) (X := fun w _ => laidMetH Tryz.prog laids w) false (World.doorLaid Tryz.prog 16 os) #[.slice none 0 0] 8 rfl (World.shaped_of_RefB (by kernel_rfl) (by kernel_rfl)) (by kernel_rfl) (by kernel_rfl) (by kernel_rfl) (door_met os _)) ?_
  intro W base args ds gs before hval0 hW _ _ hL _
  have hval : ∀ (j : Nat) t v, Tryz.f4.params[j]? = some t → args[j]? = some v → Value.okWide Tryz.prog W .any base t v := hval0
  have hW' := hW
  obtain ⟨p, q, hA0, hV, rfl, hfz, hnd⟩ := hW
  have hA : DataW.TrodAll enc Tryz.prog W 0 (fun _ => true) true Tryz.f4.params.toList args.toList ds p := hA0
  rw [Tryz.params4] at hA hval
  obtain ⟨v0, vs0, d0, ds0, p0, q0, hargs, rfl, rfl, h0, r0⟩ := trodAll_cons hA
  obtain ⟨rfl, rfl, rfl⟩ := trodAll_nil r0
  obtain rfl : args = #[v0] := by cases args; simp_all
  obtain ⟨rfl, rfl⟩ := trodVars_none hV
  have k0 := h0
  have lt0 : ∀ x ∈ p0, x.block < W.heap.size := by obtain ⟨m, hm⟩ := k0; exact DataW.trod_lt m _ _ _ hm
  obtain ⟨e0, l0, rfl, hI0, hf0⟩ := openRecsP (hval 0 40 v0 rfl rfl) h0
  clear hA0 hval0
  refine (lawBookBack e0 l0 W (err_of_laid hL) hI0 hf0).mono fun e W' ⟨he, bel⟩ => ?_
  subst he
  exact ⟨_, rfl, _, _, _, [], _, [], hW', trodAll_mk1 (shut_bool Tryz.underlying4 _), (trodAll_cons_mk (Below.trod laidOut (by kernel_rfl) (of_decide_eq_true (by kernel_rfl)) k0 bel lt0) trodAll_mk0), rfl, bel.frame _, fun h => by cases h⟩

theorem over : Rows.fnExactBookBackRow.holds Tryz.pinned (OpenSpec.ofChange Rows.fnExactBookBackSpec) :=
  OpenClaim.holds_of_wide 4 Tryz.f4 rfl rfl rfl rfl rfl rfl rfl ⟨rfl, rfl, rfl, rfl, rfl⟩ rfl rfl rfl rfl rfl (by kernel_rfl) Tryz.func4 (by kernel_rfl)
    (of_decide_eq_true (by kernel_rfl)) (by unfold Func.isWrapper; first | (rw [if_pos (by decide +kernel)]; kernel_rfl) | (rw [if_neg (by decide +kernel)]; exact ⟨rfl, rfl⟩))
    (fun os started H enc _ => lifted os started H enc)
end Go.Proofs.YtakifcobofkheabGreatDoor.fnExactBookBack

/-
  FnExactBookBack as it is stated: the card.
-/
namespace Go.Proofs.YtakifcobofkheabGreatDoor
open Go

theorem fnExactBookBack_holds : Rows.FnExactBookBackCardSaid :=
  Claim7.holds_tied_plain_at .later [] [.handle] true (true, "4c636494980e828f4dad90b476c57cd818f6247b6f918578e8d945476bc251ab") true
    fnExactBookBack.over (fun _ h => by cases h) (by kernel_rfl) (fun _ h => by cases h) fnExactBookBack_row_tie rfl ⟨rfl, rfl⟩ (by kernel_rfl) rfl
    (fun f fn hf hfn => by
      obtain rfl : f = 4 := Option.some.inj ((show Tryz.prog.funcNamed "loop.example/cellarage/laws.FnExactBookBack" = some 4 by kernel_rfl).symm.trans hf) |>.symm
      obtain rfl : fn = Tryz.f4 := (Option.some.inj (Tryz.func4.symm.trans hfn)).symm
      exact ⟨by kernel_rfl, fun j t ht => by
        rw [Tryz.params4] at ht
        have hm : t ∈ [40] := by simpa using Array.mem_of_getElem? ht
        have hall : ([40].all fun u => !Tryz.prog.wantsStandIn u) = true := by kernel_rfl
        exact (show Tryz.prog.wantsStandIn t = false by simpa using List.all_eq_true.1 hall t hm)⟩)
    (by kernel_rfl)
end Go.Proofs.YtakifcobofkheabGreatDoor
