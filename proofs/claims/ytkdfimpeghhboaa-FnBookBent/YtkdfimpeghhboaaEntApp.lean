/-
  'append(append([]Entry{}, b...), e)' and 'append(append([]Entry{}, b[:i]...), b[i+1:]...)' as drawn regions: plain laws.
-/
import Derived.Test.YtkdfimpeghhboaaPeel
import Derived.Test.YtkdfimpeghhboaaLawBookAdd
namespace Go.Proofs.Ytkdfimpeghhboaa
open Go.RowKit Go.Deep
set_option linter.unusedVariables false

/-- A book of one's own, made since wr. -/
structure RgB (wr W : World) (v : Value) (L : List En) : Prop where
  bel : Below wr.heap.size wr W
  own : OwnE W wr.heap.size v L
  nn : v ≠ .slice none 0 0

theorem RgB.alloc {wr W : World} {v : Value} {L : List En} (h : RgB wr W v L) (o : Obj) : RgB wr (W.alloc o) v L := ⟨h.bel.alloc h.bel.size _, h.own.alloc o, h.nn⟩

theorem rgB_new {wr W : World} (h : Below wr.heap.size wr W) : RgB wr (W.alloc (.cells #[] 30)) (.slice (some ⟨W.heap.size, 0, none⟩) 0 0) [] :=
  ⟨h.alloc h.size _, (OwnE.empty W).lower h.size, by simp⟩

theorem belB_drew (wr : World) : Below wr.heap.size wr wr.drew := below_drewN (Below.refl _ _) 1

theorem rgB1 (wr : World) : RgB wr (wr.drew.alloc (.cells #[] 30)) (.slice (some ⟨wr.heap.size, 0, none⟩) 0 0) [] := rgB_new (belB_drew wr)
theorem rgB2 (wr : World) (e : En) : RgB wr ((wr.drew.alloc (.cells #[.int .i64 e.lev, .int .i64 e.date] 30)).alloc (.cells #[] 30)) (.slice (some ⟨wr.heap.size + 1, 0, none⟩) 0 0) [] := by
  have := rgB_new ((belB_drew wr).alloc (Nat.le_refl _) (.cells #[.int .i64 e.lev, .int .i64 e.date] 30))
  have e : (wr.drew.alloc (.cells #[.int .i64 e.lev, .int .i64 e.date] 30)).heap.size = wr.heap.size + 1 := by simp
  rwa [e] at this
theorem rgB3 (wr : World) (e : En) : RgB wr ((wr.drew.alloc (.cells #[] 30)).alloc (.cells #[.int .i64 e.lev, .int .i64 e.date] 30)) (.slice (some ⟨wr.heap.size, 0, none⟩) 0 0) [] := (rgB1 wr).alloc _

theorem newB2 (wr : World) (e : En) : Blk ((wr.drew.alloc (.cells #[.int .i64 e.lev, .int .i64 e.date] 30)).alloc (.cells #[] 30)) wr.heap.size #[.int .i64 e.lev, .int .i64 e.date] 30 := (Blk.new wr.drew #[.int .i64 e.lev, .int .i64 e.date] 30).alloc _
theorem newB3 (wr : World) (e : En) : Blk ((wr.drew.alloc (.cells #[] 30)).alloc (.cells #[.int .i64 e.lev, .int .i64 e.date] 30)) (wr.heap.size + 1) #[.int .i64 e.lev, .int .i64 e.date] 30 := by
  have := Blk.new (wr.drew.alloc (.cells #[] 30)) #[.int .i64 e.lev, .int .i64 e.date] 30
  have h : (wr.drew.alloc (.cells #[] 30)).heap.size = wr.heap.size + 1 := by simp
  rw [h] at this
  exact this

theorem oneB {W : World} {b : Nat} {e : En} (h : Blk W b #[.int .i64 e.lev, .int .i64 e.date] 30) : ∀ j u, (entv [e])[j]? = some u → W.cell? ((⟨b, 0, none⟩ : Addr).add j) = some u := by
  intro j u hu
  rw [show (⟨b, 0, none⟩ : Addr).add j = ⟨b, 0 + j, none⟩ by unfold Addr.add; split <;> simp_all, Nat.zero_add, h.cell]
  simpa [entv] using hu
theorem keptB {W W' : World} {b : Nat} {e : En} {r : Option Nat} (h : Blk W b #[.int .i64 e.lev, .int .i64 e.date] 30) (hg : W.grownBy W' r) (hr : some b ≠ r) : ∀ j u, (entv [e])[j]? = some u → W'.cell? ((⟨b, 0, none⟩ : Addr).add j) = some u := oneB (h.of_block (hg.block b h.lt hr))
theorem freshB (W : World) (e : En) : ∀ j u, (entv [e])[j]? = some u → (W.alloc (.cells #[.int .i64 e.lev, .int .i64 e.date] 30)).cell? ((⟨W.heap.size, 0, none⟩ : Addr).add j) = some u := entv_cells W [e]

/-- A piece of a list that lies in memory. -/
theorem pieceB {W : World} {b off n : Nat} {E : Nat → En} (hc : ∀ i, i < n → W.cell? ⟨b, off + i * 2, none⟩ = some (.int .i64 (E i).lev) ∧ W.cell? ⟨b, off + i * 2 + 1, none⟩ = some (.int .i64 (E i).date)) (l m : Nat) (hl : l + m ≤ n) :
    ∀ j u, (entv (enl m (fun i => E (l + i))))[j]? = some u → W.cell? ((⟨b, off + l * 2, none⟩ : Addr).add j) = some u := by
  intro j u hu
  rw [show (⟨b, off + l * 2, none⟩ : Addr).add j = ⟨b, off + l * 2 + j, none⟩ by unfold Addr.add; split <;> simp_all]
  have hj : j < m * 2 := by
    rcases Nat.lt_or_ge j (m * 2) with h | h
    · exact h
    · rw [List.getElem?_eq_none (by rw [entv_len, enl_len]; omega)] at hu; cases hu
  obtain ⟨i, r, hr, rfl⟩ : ∃ i r, r < 2 ∧ j = i * 2 + r := ⟨j / 2, j % 2, by omega, by omega⟩
  have hi : i < m := by omega
  have h1 := entv_get (enl m (fun i => E (l + i))) i (by rw [enl_len]; exact hi)
  rw [enl_getD _ _ _ hi] at h1
  obtain ⟨c0, c1⟩ := hc (l + i) (by omega)
  match r, hr with
  | 0, _ =>
    rw [Nat.add_zero, h1.1] at hu
    rw [← hu, ← c0, show off + l * 2 + (i * 2 + 0) = off + (l + i) * 2 by omega]
  | 1, _ =>
    rw [h1.2] at hu
    rw [← hu, ← c1, show off + l * 2 + (i * 2 + 1) = off + (l + i) * 2 + 1 by omega]

section
variable {ops : Array Oper} {o : Oper} {a : Act} {K : Act → World → Prop} {Q : Exit → Act → World → Prop} {F : Prop}

/-- An append to it. -/
theorem appB {wr W : World} {v : Value} {L : List En} (hgd : o.guard = none) (s x : Operand) (ho : o.op = .call { callee := .builtin .append, args := #[s, x], argTypes := #[23, 23] }) (hA : RgB wr W v L)
    {ad : Addr} {m c : Nat} {M : List En} (hM : M.length = m) (hc : ∀ j u, (entv M)[j]? = some u → W.cell? (ad.add j) = some u) (hl : L.length ≤ 1000) (hm : m ≤ 1000) (hs : a.eval s = v) (hx : a.eval x = .slice (some ad) m c)
    (h : ∀ v' w', RgB wr w' v' (L ++ M) → W.grownBy w' v.ownBlock → K (a.put o.dst v') w') : if Region.wanted o (yielded ops a.tmps) = true then Oper.wp Try.prog o a W K Q else F := by
  obtain ⟨i0, hi, hz0, hz1, hz2⟩ := info_parts infoEnt
  have hsz := hA.bel.size
  refine step_append_own W hgd s x 23 ho wr.heap.size 30 i0 (.agg #[.int .i64 0, .int .i64 0]) 2 16 Try.underlying23 hi hz0 hz1 hz2 rfl (by decide) v L.length (entv L) hs hA.own ad m c (entv M) hx (by rw [entv_len, hM]) hc (entv_one _) (by unfold maxLen; omega) (by omega) hsz ?_
  intro v' w' hown hgrow hnil
  obtain ⟨h1, h2, h3⟩ := OwnE.app hA.bel hsz hA.own (by rw [hM]) hown hgrow
  exact h v' w' ⟨h2, h1, fun e => hA.nn (hnil.1 e).1⟩ hgrow
end

theorem sizeEnt (w : World) : (sizeOf 30).run Try.prog w = .ok 2 w := by kernel_rfl

/-- The first k of a list. -/
theorem slice_head (b off n c k : Nat) (hk : k ≤ c) (w : World) : (Instr.sliceAt 23 (.slice (some ⟨b, off, none⟩) n c) none (some (.int .i64 (k : Int))) none).run Try.prog w = .ok (.slice (some ⟨b, off, none⟩) k c) w := by
  have hu : Try.prog.underlying 23 = some (.slice (Try.prog.elem 23)) := by kernel_rfl
  have hel : Try.prog.elem 23 = 30 := by kernel_rfl
  rw [run_sliceAt_slice (h := hu), run_slice_h (P := Try.prog) (w := w) (t := 23) (a := some ⟨b, off, none⟩) (len := n) (cap := c) (ht := hu) (kh := .i64) (h := (k : Int)) (by omega) (by omega), hel, sizeEnt]
  have e : ((k : Int)).toNat = k := by omega
  by_cases h : c = 0
  · simp [sliced, e, Result.andThen, h]
  · simp [sliced, e, Result.andThen, h, Addr.add]

/-- All behind the first l. -/
theorem slice_tail (b off n c l : Nat) (hl : l ≤ n) (hne : c ≠ l) (w : World) : (Instr.sliceAt 23 (.slice (some ⟨b, off, none⟩) n c) (some (.int .i64 (l : Int))) none none).run Try.prog w = .ok (.slice (some ⟨b, off + l * 2, none⟩) (n - l) (c - l)) w := by
  have hu : Try.prog.underlying 23 = some (.slice (Try.prog.elem 23)) := by kernel_rfl
  have hel : Try.prog.elem 23 = 30 := by kernel_rfl
  rw [run_sliceAt_slice (h := hu), run_slice_l (P := Try.prog) (w := w) (t := 23) (a := some ⟨b, off, none⟩) (len := n) (cap := c) (ht := hu) (kl := .i64) (l := (l : Int)) (by omega) (by omega), hel, sizeEnt]
  have e : ((l : Int)).toNat = l := by omega
  have ha : (⟨b, off, none⟩ : Addr).add (l * 2) = ⟨b, off + l * 2, none⟩ := by unfold Addr.add; split <;> simp_all
  simp [sliced, e, Result.andThen, hne, ha]

theorem slice_none (b off l : Nat) (w : World) : (Instr.sliceAt 23 (.slice (some ⟨b, off, none⟩) l l) (some (.int .i64 (l : Int))) none none).run Try.prog w = .ok (.slice (some ⟨b, off, none⟩) 0 0) w := by
  have hu : Try.prog.underlying 23 = some (.slice (Try.prog.elem 23)) := by kernel_rfl
  have hel : Try.prog.elem 23 = 30 := by kernel_rfl
  rw [run_sliceAt_slice (h := hu), run_slice_l (P := Try.prog) (w := w) (t := 23) (a := some ⟨b, off, none⟩) (len := l) (cap := l) (ht := hu) (kl := .i64) (l := (l : Int)) (by omega) (by omega), hel, sizeEnt]
  have e : ((l : Int)).toNat = l := by omega
  simp [sliced, e, Result.andThen]
end Go.Proofs.Ytkdfimpeghhboaa
