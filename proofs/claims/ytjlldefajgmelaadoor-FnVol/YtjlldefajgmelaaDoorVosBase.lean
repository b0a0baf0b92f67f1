/-
  Lists of pieces as they lie in memory, four cells each: plain facts.
-/
import Derived.Test.YtjlldefajgmelaaDoorVolBase
import Derived.Test.YtjlldefajgmelaaDoorBlk
import Derived.Maps.AppendAt
import Derived.WalkSmall
import Derived.Laws.AppendOwn
import Derived.OwnWalk
namespace Go.Proofs.YtjlldefajgmelaaDoor
open Go.RowKit Go.Deep
set_option linter.unusedVariables false
set_option linter.unusedSimpArgs false

theorem infoVol : (Tryd.prog.info? 24).map (fun i => (i.zero, i.size, i.bytes)) = some (some (.agg #[.int .i64 0, .int .i64 0, .int .i64 0, .string ⟨#[]⟩]), 4, 40) := by kernel_rfl

/-- The cells of a piece. -/
def cellOf (v : Vo) (r : Nat) : Value := if r = 0 then .int .i64 v.num else if r = 1 then .int .i64 v.cnt else if r = 2 then .int .i64 v.sum else .string v.text
def voc (v : Vo) : List Value := [.int .i64 v.num, .int .i64 v.cnt, .int .i64 v.sum, .string v.text]
def vov (n : Nat) (E : Nat → Vo) : List Value := (List.range (n * 4)).map fun j => cellOf (E (j / 4)) (j % 4)

theorem vov_len (n : Nat) (E : Nat → Vo) : (vov n E).length = n * 4 := by simp [vov]
theorem vov_get {n : Nat} {E : Nat → Vo} {j : Nat} (h : j < n * 4) : (vov n E)[j]? = some (cellOf (E (j / 4)) (j % 4)) := by simp [vov, h]
theorem vov_at {n : Nat} {E : Nat → Vo} {i : Nat} (h : i < n) :
    (vov n E)[i * 4]? = some (.int .i64 (E i).num) ∧ (vov n E)[i * 4 + 1]? = some (.int .i64 (E i).cnt) ∧ (vov n E)[i * 4 + 2]? = some (.int .i64 (E i).sum) ∧ (vov n E)[i * 4 + 3]? = some (.string (E i).text) := by
  refine ⟨?_, ?_, ?_, ?_⟩
  · rw [vov_get (by omega), show i * 4 / 4 = i by omega, show i * 4 % 4 = 0 by omega]; rfl
  · rw [vov_get (by omega), show (i * 4 + 1) / 4 = i by omega, show (i * 4 + 1) % 4 = 1 by omega]; rfl
  · rw [vov_get (by omega), show (i * 4 + 2) / 4 = i by omega, show (i * 4 + 2) % 4 = 2 by omega]; rfl
  · rw [vov_get (by omega), show (i * 4 + 3) / 4 = i by omega, show (i * 4 + 3) % 4 = 3 by omega]; rfl
theorem vov_ext {n : Nat} {E F : Nat → Vo} (h : ∀ i, i < n → E i = F i) : vov n E = vov n F := by
  unfold vov
  exact List.map_congr_left fun j hj => by
    have : j < n * 4 := by simpa using hj
    rw [h (j / 4) (by omega)]
theorem vov_zero (E : Nat → Vo) : vov 0 E = [] := by simp [vov]
theorem vov_succ (n : Nat) (E : Nat → Vo) : vov (n + 1) E = vov n E ++ voc (E n) := by
  apply List.ext_getElem?
  intro j
  by_cases h : j < n * 4
  · rw [List.getElem?_append_left (by rw [vov_len]; exact h), vov_get (by omega), vov_get h]
  · rw [List.getElem?_append_right (by rw [vov_len]; omega), vov_len]
    by_cases h4 : j < (n + 1) * 4
    · have hat := vov_at (E := E) (show n < n + 1 by omega)
      have : j = n * 4 ∨ j = n * 4 + 1 ∨ j = n * 4 + 2 ∨ j = n * 4 + 3 := by omega
      rcases this with e | e | e | e
      · rw [e, hat.1]; simp [voc]
      · rw [e, hat.2.1]; simp [voc]
      · rw [e, hat.2.2.1]; simp [voc]
      · rw [e, hat.2.2.2]; simp [voc]
    · rw [List.getElem?_eq_none (by rw [vov_len]; omega), List.getElem?_eq_none (by simp [voc]; omega)]
theorem cellOf_one (v : Vo) (r : Nat) : (cellOf v r).oneCell' = true := by unfold cellOf; split; rfl; split; rfl; split <;> rfl
theorem vov_one (n : Nat) (E : Nat → Vo) : ∀ u ∈ vov n E, u.oneCell' = true := by
  intro u hu
  simp only [vov, List.mem_map] at hu
  obtain ⟨j, _, rfl⟩ := hu
  exact cellOf_one _ _
theorem voc_one (v : Vo) : ∀ u ∈ voc v, u.oneCell' = true := by
  intro u hu
  simp only [voc, List.mem_cons, List.not_mem_nil, or_false] at hu
  rcases hu with rfl | rfl | rfl | rfl <;> rfl

/-- A piece written over. -/
theorem vov_set4 (n m : Nat) (E : Nat → Vo) (v : Vo) (hm : m < n) :
    ((((vov n E).set (m * 4) (.int .i64 v.num)).set (m * 4 + 1) (.int .i64 v.cnt)).set (m * 4 + 2) (.int .i64 v.sum)).set (m * 4 + 3) (.string v.text) = vov n (fun i => if i = m then v else E i) := by
  apply List.ext_getElem?
  intro j
  by_cases h : j < n * 4
  · rw [vov_get h]
    have hl : ∀ (L : List Value), L.length = n * 4 → j < L.length := fun L e => by rw [e]; exact h
    by_cases e3 : j = m * 4 + 3
    · subst e3
      rw [List.getElem?_set_self (by simp [vov_len]; omega), show (m * 4 + 3) / 4 = m by omega, show (m * 4 + 3) % 4 = 3 by omega]
      simp [cellOf]
    · rw [List.getElem?_set_ne (by omega)]
      by_cases e2 : j = m * 4 + 2
      · subst e2
        rw [List.getElem?_set_self (by simp [vov_len]; omega), show (m * 4 + 2) / 4 = m by omega, show (m * 4 + 2) % 4 = 2 by omega]
        simp [cellOf]
      · rw [List.getElem?_set_ne (by omega)]
        by_cases e1 : j = m * 4 + 1
        · subst e1
          rw [List.getElem?_set_self (by simp [vov_len]; omega), show (m * 4 + 1) / 4 = m by omega, show (m * 4 + 1) % 4 = 1 by omega]
          simp [cellOf]
        · rw [List.getElem?_set_ne (by omega)]
          by_cases e0 : j = m * 4
          · subst e0
            rw [List.getElem?_set_self (by simp [vov_len]; omega), show (m * 4) / 4 = m by omega, show (m * 4) % 4 = 0 by omega]
            simp [cellOf]
          · rw [List.getElem?_set_ne (by omega), vov_get h, if_neg (show ¬ j / 4 = m by omega)]
  · rw [List.getElem?_eq_none (by simp [vov_len]; omega), List.getElem?_eq_none (by rw [vov_len]; omega)]

/-- n pieces lie in memory from the address on. -/
def IsVos (w : World) (a : Option Addr) (n : Nat) (E : Nat → Vo) : Prop :=
  n = 0 ∨ ∃ b off, a = some ⟨b, off, none⟩ ∧ b < w.heap.size ∧ ∀ i, i < n → w.cell? ⟨b, off + i * 4, none⟩ = some (.int .i64 (E i).num) ∧ w.cell? ⟨b, off + i * 4 + 1, none⟩ = some (.int .i64 (E i).cnt) ∧ w.cell? ⟨b, off + i * 4 + 2, none⟩ = some (.int .i64 (E i).sum) ∧ w.cell? ⟨b, off + i * 4 + 3, none⟩ = some (.string (E i).text)

theorem IsVos.at {w : World} {a : Option Addr} {n : Nat} {E : Nat → Vo} (h : IsVos w a n E) {k : Nat} (hk : k < n) :
    ∃ b off, a = some ⟨b, off, none⟩ ∧ b < w.heap.size ∧ ∀ i, i < n → w.cell? ⟨b, off + i * 4, none⟩ = some (.int .i64 (E i).num) ∧ w.cell? ⟨b, off + i * 4 + 1, none⟩ = some (.int .i64 (E i).cnt) ∧ w.cell? ⟨b, off + i * 4 + 2, none⟩ = some (.int .i64 (E i).sum) ∧ w.cell? ⟨b, off + i * 4 + 3, none⟩ = some (.string (E i).text) := by
  rcases h with h | h
  · omega
  · exact h

theorem IsVos.below {w w' : World} {a : Option Addr} {n : Nat} {E : Nat → Vo} (h : IsVos w a n E) {B : Nat} (hB : w.heap.size ≤ B) (hb : Below B w w') : IsVos w' a n E := by
  rcases h with h | ⟨b, off, ha, hlt, hc⟩
  · exact Or.inl h
  · have hs := hb.size
    have e : ∀ o, w'.cell? ⟨b, o, none⟩ = w.cell? ⟨b, o, none⟩ := fun o => hb.cell (p := ⟨b, o, none⟩) (by show b < B; omega)
    exact Or.inr ⟨b, off, ha, by omega, fun i hi => ⟨(e _).trans (hc i hi).1, (e _).trans (hc i hi).2.1, (e _).trans (hc i hi).2.2.1, (e _).trans (hc i hi).2.2.2⟩⟩

theorem IsVos.congr {w : World} {a : Option Addr} {n : Nat} {E F : Nat → Vo} (h : IsVos w a n E) (he : ∀ i, i < n → E i = F i) : IsVos w a n F := by
  rcases h with h | ⟨b, off, ha, hlt, hc⟩
  · exact Or.inl h
  · exact Or.inr ⟨b, off, ha, hlt, fun i hi => by rw [← he i hi]; exact hc i hi⟩

theorem vowns_block {w : World} {B : Nat} {e : TypeId} {size n : Nat} {xs : List Value} {v : Value} (h : w.ownsRow B e size v n xs) {b : Nat} (hb : v.ownBlock = some b) : B ≤ b ∧ b < w.heap.size := h.lt b hb

theorem vowns_same {w w' : World} {B : Nat} {e : TypeId} {size n : Nat} {xs : List Value} {v : Value} (h : w.ownsRow B e size v n xs) (hw : ∀ b, v.ownBlock = some b → w'.heap[b]? = w.heap[b]?) : w'.ownsRow B e size v n xs := by
  refine ⟨h.1, ?_⟩
  rcases h.2 with h0 | ⟨g, cap, cur, hv, hB, hg, hr⟩
  · exact Or.inl h0
  · exact Or.inr ⟨g, cap, cur, hv, hB, (hw g (by rw [hv]; rfl)).trans hg, hr⟩

/-- A row of pieces of one's own. -/
def OwnV (w : World) (B : Nat) (v : Value) (n : Nat) (E : Nat → Vo) : Prop := w.ownsRow B 24 4 v n (vov n E)

theorem OwnV.below {w w' : World} {B n : Nat} {v : Value} {E : Nat → Vo} (h : OwnV w B v n E) (hb : Below w.heap.size w w') : OwnV w' B v n E :=
  vowns_same h fun b e => hb.block b (vowns_block h e).2
theorem OwnV.alloc {w : World} {B n : Nat} {v : Value} {E : Nat → Vo} (h : OwnV w B v n E) (o : Obj) : OwnV (w.alloc o) B v n E := World.ownsRow.alloc h o
theorem OwnV.lower {w : World} {B B' n : Nat} {v : Value} {E : Nat → Vo} (h : OwnV w B v n E) (hB : B' ≤ B) : OwnV w B' v n E := by
  refine ⟨h.1, ?_⟩
  rcases h.2 with h0 | ⟨g, cap, cur, hv, hb, hr⟩
  · exact Or.inl h0
  · exact Or.inr ⟨g, cap, cur, hv, by omega, hr⟩
theorem vo_new_block (w : World) (o : Obj) : (w.alloc o).heap[w.heap.size]? = some o := by
  show (w.heap.push o)[w.heap.size]? = some o
  simp
theorem OwnV.empty (w : World) (E : Nat → Vo) : OwnV (w.alloc (.cells #[] 24)) w.heap.size (.slice (some ⟨w.heap.size, 0, none⟩) 0 0) 0 E :=
  ⟨by rw [vov_zero]; rfl, Or.inr ⟨w.heap.size, 0, #[], rfl, Nat.le_refl _, vo_new_block _ _, Nat.le_refl _, by unfold maxLen; omega, rfl, by rw [vov_zero]; rfl⟩⟩
theorem OwnV.nil (w : World) (B : Nat) (E : Nat → Vo) : OwnV w B (.slice none 0 0) 0 E := by unfold OwnV; rw [vov_zero]; exact World.ownsRow_nil _ _ _ _
theorem OwnV.ext {w : World} {B n : Nat} {v : Value} {E F : Nat → Vo} (h : OwnV w B v n E) (he : ∀ i, i < n → E i = F i) : OwnV w B v n F := by unfold OwnV at *; rwa [← vov_ext he]

/-- What it is told by a reader. -/
theorem OwnV.lies {w : World} {B n : Nat} {v : Value} {E : Nat → Vo} (h : OwnV w B v n E) : ∃ a c, v = .slice a n c ∧ IsVos w a n E ∧ n ≤ maxLen := by
  rcases h.2 with ⟨rfl, h0⟩ | ⟨g, cap, cur, rfl, hB, hg, hn, hm, hsz, htake⟩
  · exact ⟨none, 0, by rw [h0], Or.inl h0, by rw [h0]; unfold maxLen; omega⟩
  · refine ⟨_, _, rfl, Or.inr ⟨g, 0, rfl, (Array.getElem?_eq_some_iff.1 hg).1, fun i hi => ?_⟩, by omega⟩
    have h2 := vov_at (E := E) hi
    rw [← htake, List.getElem?_take_of_lt (by omega), List.getElem?_take_of_lt (by omega), List.getElem?_take_of_lt (by omega), List.getElem?_take_of_lt (by omega)] at h2
    simp only [World.cell?, hg, Nat.zero_add]
    simpa using h2

/-- What an append to a row of one's own leaves. -/
theorem OwnV.app {w0 w w2 : World} {B n : Nat} {v v' : Value} {E : Nat → Vo} {L : List Value} (o : Obj) (hB : Below B w0 w) (hBw : B ≤ w.heap.size) (hO : OwnV w B v n E) (hL : L = voc (E n))
    (hown : w2.ownsRow B 24 4 v' (n + 1) (vov n E ++ L)) (hgrow : (w.alloc o).grownBy w2 v.ownBlock) : ∃ a c, v' = .slice a (n + 1) c ∧ OwnV w2 B (.slice a (n + 1) c) (n + 1) E ∧ Below B w0 w2 := by
  have h1 : OwnV w2 B v' (n + 1) E := by unfold OwnV; rw [vov_succ, ← hL]; exact hown
  obtain ⟨a, c, rfl, _⟩ := h1.lies
  exact ⟨a, c, rfl, h1, (hB.alloc hBw o).grown hgrow (by simp; omega) (fun g hg => (vowns_block hO hg).1)⟩

theorem voc_cells (w : World) (v : Vo) : ∀ j u, (voc v)[j]? = some u → (w.alloc (.cells #[.int .i64 v.num, .int .i64 v.cnt, .int .i64 v.sum, .string v.text] 24)).cell? ((⟨w.heap.size, 0, none⟩ : Addr).add j) = some u := by
  intro j u h
  rw [show (⟨w.heap.size, 0, none⟩ : Addr).add j = ⟨w.heap.size, 0 + j, none⟩ by unfold Addr.add; split <;> simp_all]
  simp only [World.cell?, vo_new_block]
  simpa [voc] using h

theorem vowns_addr {w : World} {B : Nat} {e : TypeId} {size n c : Nat} {a : Option Addr} {xs : List Value} (h : w.ownsRow B e size (.slice a n c) n xs) (hn : 0 < n) : ∃ g, a = some ⟨g, 0, none⟩ ∧ g < w.heap.size := by
  rcases h.2 with ⟨h0, hz⟩ | ⟨g, cap, cur, hv, _, hg, _⟩
  · omega
  · cases hv
    exact ⟨g, rfl, (Array.getElem?_eq_some_iff.1 hg).1⟩
end Go.Proofs.YtjlldefajgmelaaDoor
