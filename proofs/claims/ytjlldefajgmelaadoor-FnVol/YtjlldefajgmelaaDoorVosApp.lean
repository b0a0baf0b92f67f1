/-
  Appends of lists of pieces in drawn regions: plain laws; the first of a list and the rest of it.
-/
import Derived.Test.YtjlldefajgmelaaDoorVosBase
import Derived.Test.YtjlldefajgmelaaDoorPeel
import Derived.Test.YtjlldefajgmelaaDoorRd
namespace Go.Proofs.YtjlldefajgmelaaDoor
open Go.RowKit Go.Deep
set_option linter.unusedVariables false

/-- One list behind another. -/
def catV (n : Nat) (E F : Nat → Vo) : Nat → Vo := fun i => if i < n then E i else F (i - n)
theorem vov_add (n m : Nat) (E F : Nat → Vo) : vov n E ++ vov m F = vov (n + m) (catV n E F) := by
  induction m with
  | zero => rw [vov_zero, List.append_nil]; exact vov_ext (fun i hi => by simp [catV, hi])
  | succ m ih =>
    have h : catV n E F (n + m) = F m := by
      unfold catV
      rw [if_neg (by omega), show n + m - n = m by omega]
    rw [vov_succ m F, ← List.append_assoc, ih, ← Nat.add_assoc, vov_succ (n + m), h]

/-- A list of pieces of one's own, from block B on, while what lies below B since wr is kept. -/
structure RgV (B : Nat) (wr W : World) (v : Value) (n : Nat) (E : Nat → Vo) : Prop where
  bel : Below B wr W
  size : B ≤ W.heap.size
  own : OwnV W B v n E
  nn : v ≠ .slice none 0 0

theorem RgV.alloc {B : Nat} {wr W : World} {v : Value} {n : Nat} {E : Nat → Vo} (h : RgV B wr W v n E) (o : Obj) : RgV B wr (W.alloc o) v n E := ⟨h.bel.alloc h.size _, by have := h.size; simp; omega, h.own.alloc o, h.nn⟩

theorem rgV_new {B : Nat} {wr : World} (hB : B ≤ wr.heap.size) (E : Nat → Vo) : RgV B wr (wr.drew.alloc (.cells #[] 24)) (.slice (some ⟨wr.heap.size, 0, none⟩) 0 0) 0 E :=
  ⟨(below_drewN (Below.refl _ _) 1).alloc hB _, by show B ≤ (wr.alloc _).heap.size; simp; omega, (OwnV.empty wr.drew E).lower hB, by simp⟩

/-- The first k. -/
theorem RgV.head {B : Nat} {wr W : World} {b n c : Nat} {E : Nat → Vo} (h : RgV B wr W (.slice (some ⟨b, 0, none⟩) n c) n E) (k : Nat) (hk : k ≤ n) : RgV B wr W (.slice (some ⟨b, 0, none⟩) k c) k E := by
  refine ⟨h.bel, h.size, ⟨vov_len k E, ?_⟩, by simp⟩
  rcases h.own.2 with ⟨h0, _⟩ | ⟨g, cap, cur, hv, hb, hg, h1, h2, h3, h4⟩
  · cases h0
  · cases hv
    refine .inr ⟨b, c, cur, rfl, hb, hg, by omega, h2, h3, ?_⟩
    have e : cur.toList.take (k * 4) = (cur.toList.take (n * 4)).take (k * 4) := by rw [List.take_take]; congr 1; omega
    rw [e, h4]
    apply List.ext_getElem?
    intro j
    rw [List.getElem?_take]
    by_cases hj : j < k * 4
    · rw [if_pos hj, vov_get (by omega), vov_get hj]
    · rw [if_neg hj, List.getElem?_eq_none (by rw [vov_len]; omega)]

theorem OwnV.cap {W : World} {B b n c : Nat} {E : Nat → Vo} (h : OwnV W B (.slice (some ⟨b, 0, none⟩) n c) n E) : n ≤ c ∧ B ≤ b ∧ b < W.heap.size := by
  rcases h.2 with ⟨h0, _⟩ | ⟨g, cap, cur, hv, hb, hg, h1, h2, h3, h4⟩
  · cases h0
  · cases hv
    exact ⟨h1, hb, (Array.getElem?_eq_some_iff.1 hg).1⟩

/-- A piece of a list of one's own, as cells. -/
theorem pieceV {W : World} {B b n c : Nat} {E : Nat → Vo} (h : OwnV W B (.slice (some ⟨b, 0, none⟩) n c) n E) (l m : Nat) (hl : l + m ≤ n) :
    ∀ j u, (vov m (fun i => E (l + i)))[j]? = some u → W.cell? ((⟨b, 0 + l * 4, none⟩ : Addr).add j) = some u := by
  intro j u hu
  rw [show (⟨b, 0 + l * 4, none⟩ : Addr).add j = ⟨b, l * 4 + j, none⟩ by unfold Addr.add; split <;> simp_all]
  have hj : j < m * 4 := by
    rcases Nat.lt_or_ge j (m * 4) with h | h
    · exact h
    · rw [List.getElem?_eq_none (by rw [vov_len]; omega)] at hu; cases hu
  rcases h.2 with ⟨h0, _⟩ | ⟨g, cap, cur, hv, hb, hg, h1, h2, h3, h4⟩
  · cases h0
  · cases hv
    have hget : cur.toList[l * 4 + j]? = (vov n E)[l * 4 + j]? := by
      rw [← h4, List.getElem?_take, if_pos (by omega)]
    rw [vov_get (by omega), show (l * 4 + j) / 4 = l + j / 4 by omega, show (l * 4 + j) % 4 = j % 4 by omega] at hget
    rw [vov_get hj] at hu
    rw [← hu, ← hget]
    simp only [World.cell?, hg]
    simp

section
variable {ops : Array Oper} {o : Oper} {a : Act} {K : Act → World → Prop} {Q : Exit → Act → World → Prop} {F : Prop}

/-- An append to it. -/
theorem appV {B : Nat} {wr W : World} {v : Value} {n : Nat} {E : Nat → Vo} (hgd : o.guard = none) (s x : Operand) (ho : o.op = .call { callee := .builtin .append, args := #[s, x], argTypes := #[47, 47] }) (hA : RgV B wr W v n E)
    {ad : Addr} {m c : Nat} {M : Nat → Vo} (hc : ∀ j u, (vov m M)[j]? = some u → W.cell? (ad.add j) = some u) (hl : n ≤ 1000) (hm : m ≤ 1000) (hs : a.eval s = v) (hx : a.eval x = .slice (some ad) m c)
    (h : ∀ v' w', RgV B wr w' v' (n + m) (catV n E M) → W.grownBy w' v.ownBlock → K (a.put o.dst v') w') : if Region.wanted o (yielded ops a.tmps) = true then Oper.wp Tryd.prog o a W K Q else F := by
  obtain ⟨i0, hi, hz0, hz1, hz2⟩ := info_parts infoVol
  refine step_append_own W hgd s x 47 ho B 24 i0 (.agg #[.int .i64 0, .int .i64 0, .int .i64 0, .string ⟨#[]⟩]) 4 40 Tryd.underlying47 hi hz0 hz1 hz2 rfl (by decide) v n (vov n E) hs hA.own ad m c (vov m M) hx (vov_len _ _) hc (vov_one _ _) (by unfold maxLen; omega) (by omega) hA.size ?_
  intro v' w' hown hgrow hnil
  rw [vov_add] at hown
  exact h v' w' ⟨hA.bel.grown hgrow hA.size (fun g hg => (vowns_block hA.own hg).1), Nat.le_trans hA.size hgrow.size, hown, fun e => hA.nn (hnil.1 e).1⟩ hgrow
end

theorem sizeVol (w : World) : (sizeOf 24).run Tryd.prog w = .ok 4 w := by kernel_rfl

theorem slice_headV (b off n c k : Nat) (hk : k ≤ c) (w : World) : (Instr.sliceAt 47 (.slice (some ⟨b, off, none⟩) n c) none (some (.int .i64 (k : Int))) none).run Tryd.prog w = .ok (.slice (some ⟨b, off, none⟩) k c) w := by
  have hu : Tryd.prog.underlying 47 = some (.slice (Tryd.prog.elem 47)) := by kernel_rfl
  have hel : Tryd.prog.elem 47 = 24 := by kernel_rfl
  rw [run_sliceAt_slice (h := hu), run_slice_h (P := Tryd.prog) (w := w) (t := 47) (a := some ⟨b, off, none⟩) (len := n) (cap := c) (ht := hu) (kh := .i64) (h := (k : Int)) (by omega) (by omega), hel, sizeVol]
  have e : ((k : Int)).toNat = k := by omega
  by_cases h : c = 0
  · simp [sliced, e, Result.andThen, h]
  · simp [sliced, e, Result.andThen, h, Addr.add]

theorem slice_tailV (b off n c l : Nat) (hl : l ≤ n) (hne : c ≠ l) (w : World) : (Instr.sliceAt 47 (.slice (some ⟨b, off, none⟩) n c) (some (.int .i64 (l : Int))) none none).run Tryd.prog w = .ok (.slice (some ⟨b, off + l * 4, none⟩) (n - l) (c - l)) w := by
  have hu : Tryd.prog.underlying 47 = some (.slice (Tryd.prog.elem 47)) := by kernel_rfl
  have hel : Tryd.prog.elem 47 = 24 := by kernel_rfl
  rw [run_sliceAt_slice (h := hu), run_slice_l (P := Tryd.prog) (w := w) (t := 47) (a := some ⟨b, off, none⟩) (len := n) (cap := c) (ht := hu) (kl := .i64) (l := (l : Int)) (by omega) (by omega), hel, sizeVol]
  have e : ((l : Int)).toNat = l := by omega
  have ha : (⟨b, off, none⟩ : Addr).add (l * 4) = ⟨b, off + l * 4, none⟩ := by unfold Addr.add; split <;> simp_all
  simp [sliced, e, Result.andThen, hne, ha]

theorem slice_noneV (b off l : Nat) (w : World) : (Instr.sliceAt 47 (.slice (some ⟨b, off, none⟩) l l) (some (.int .i64 (l : Int))) none none).run Tryd.prog w = .ok (.slice (some ⟨b, off, none⟩) 0 0) w := by
  have hu : Tryd.prog.underlying 47 = some (.slice (Tryd.prog.elem 47)) := by kernel_rfl
  have hel : Tryd.prog.elem 47 = 24 := by kernel_rfl
  rw [run_sliceAt_slice (h := hu), run_slice_l (P := Tryd.prog) (w := w) (t := 47) (a := some ⟨b, off, none⟩) (len := l) (cap := l) (ht := hu) (kl := .i64) (l := (l : Int)) (by omega) (by omega), hel, sizeVol]
  have e : ((l : Int)).toNat = l := by omega
  simp [sliced, e, Result.andThen]
end Go.Proofs.YtjlldefajgmelaaDoor
