/-
  What the draws of ways give: some list of at most nine texts of at most five letters each, in new memory; nothing that was there turns but the reader's own place.
-/
import Derived.Test.YtomacpailikmoabRd
namespace Go.Proofs.Ytomacpailikmoab
open Go.RowKit
set_option linter.unusedVariables false

theorem IsRd.grown {W W' : World} {r : Nat} {a : Option Addr} {len cap : Nat} {zs : Nat → Int} {p : Nat} (h : IsRd W r a len cap zs p) {row : Option Nat} (hg : W.grownBy W' row) (hr : ∀ g, row = some g → r < g) : IsRd W' r a len cap zs p :=
  h.kept fun k hk => hg.block k (Nat.lt_of_le_of_lt hk h.lt) (fun e => by have := hr k e.symm; omega)

theorem IsRd.alloc {W : World} {r : Nat} {a : Option Addr} {len cap : Nat} {zs : Nat → Int} {p : Nat} (h : IsRd W r a len cap zs p) (o : Obj) : IsRd (W.alloc o) r a len cap zs p :=
  h.kept fun k hk => Below.heap_alloc W o k (Nat.lt_of_le_of_lt hk h.lt)

def names7 : List ByteArray := [⟨#[97]⟩, ⟨#[98]⟩, ⟨#[99]⟩, ⟨#[97]⟩, ⟨#[98]⟩, ⟨#[101, 116, 99]⟩, ⟨#[104, 111, 109, 101]⟩]

theorem names7_nm (i : Nat) (hi : i < 7) : Nm (names7.getD i ByteArray.empty) := by
  unfold Nm
  match i, hi with
  | 0, _ => simp [names7, nmL]
  | 1, _ => simp [names7, nmL]
  | 2, _ => simp [names7, nmL]
  | 3, _ => simp [names7, nmL]
  | 4, _ => simp [names7, nmL]
  | 5, _ => simp [names7, nmL]
  | 6, _ => simp [names7, nmL]

set_option maxHeartbeats 400000 in
theorem l1Name_nm (w : World) (r : Nat) (a : Option Addr) (len cap : Nat) (zs : Nat → Int) (p : Nat) (hR : IsRd w r a len cap zs p) (hp : p ≤ 1000000) :
    Calls Try.prog 64 #[.pointer (some ⟨r, 0, none⟩)] w fun e w' => ∃ s : ByteArray, e = .returned (.string s) ∧ Nm s ∧ w.grownBy w' (some r) ∧ IsRd w' r a len cap zs (p + 1) := by
  have HL : Hid (r < w.heap.size) := hR.lt
  have H7 : Hid (∀ i, i < 7 → (w.alloc (.cells #[.string ⟨#[97]⟩, .string ⟨#[98]⟩, .string ⟨#[99]⟩, .string ⟨#[97]⟩, .string ⟨#[98]⟩, .string ⟨#[101, 116, 99]⟩, .string ⟨#[104, 111, 109, 101]⟩] 9)).cell? ⟨w.heap.size, 0 + i, none⟩ = some (.string (names7.getD i ByteArray.empty))) := new_strs w names7
  go_enter Try.func64, Try.ntmps64
  go_wp2_with fail
  refine (of_any _ r a len cap zs p (hR.alloc _) hp w.heap.size 0 7 7 (fun i => names7.getD i ByteArray.empty) (by have := HL.out; omega) (by omega) (by omega) H7.out).mono ?_
  rintro e w1 ⟨i, hi, rfl, hg, hR1⟩
  have HG : Hid (w.grownBy w1 (some r)) := grown_trans (grown_alloc w _ _) hg
  have HR : Hid (IsRd w1 r a len cap zs (p + 1)) := hR1
  clear hg hR1 hR H7
  go_wp2
  go_ret
  exact ⟨_, rfl, names7_nm i hi, HG.out, HR.out⟩

theorem l1Name_any (w : World) (r : Nat) (a : Option Addr) (len cap : Nat) (zs : Nat → Int) (p : Nat) (hR : IsRd w r a len cap zs p) (hp : p ≤ 1000000) :
    Calls Try.prog 64 #[.pointer (some ⟨r, 0, none⟩)] w fun e w' => ∃ s : ByteArray, e = .returned (.string s) ∧ s.size ≤ 4 ∧ w.grownBy w' (some r) ∧ IsRd w' r a len cap zs (p + 1) :=
  (l1Name_nm w r a len cap zs p hR hp).mono fun e w' ⟨s, h1, h2, h3⟩ => ⟨s, h1, h2.size, h3⟩

/-- What an append of texts to a row of one's own leaves. -/
theorem owns_step {w wr w2 : World} {r : Nat} {a : Option Addr} {len cap : Nat} {zs : Nat → Int} {q : Nat} {v v' : Value} {L M : List ByteArray}
    (hr : r < w.heap.size) (hg : w.grownBy wr (some r)) (hR : IsRd wr r a len cap zs q) (hO : OwnsStrs wr w.heap.size v L) (o : Obj)
    (hown : w2.ownsRow w.heap.size 9 1 v' (L.length + M.length) (strv L ++ strv M)) (hgrow : (wr.alloc o).grownBy w2 v.ownBlock) (hnil : ¬ v' = .slice none 0 0) :
    OwnsStrs w2 w.heap.size v' (L ++ M) ∧ w.grownBy w2 (some r) ∧ IsRd w2 r a len cap zs q := by
  refine ⟨?_, grown_own (grown_trans hg (grown_alloc wr o _)) hgrow hO.block, (hR.alloc o).grown hgrow (fun g e => by have := hO.block g e; omega)⟩
  unfold OwnsStrs
  rw [List.length_append, ← strv_append]
  exact ⟨hown, hnil⟩

set_option maxHeartbeats 1000000 in
theorem l1Path_any (w : World) (r : Nat) (a : Option Addr) (len cap : Nat) (zs : Nat → Int) (p : Nat) (hR : IsRd w r a len cap zs p) (hp : p ≤ 900000) :
    Calls Try.prog 63 #[.pointer (some ⟨r, 0, none⟩)] w fun e w' => ∃ (v : Value) (L : List ByteArray) (q : Nat), e = .returned v ∧ OwnsStrs w' w.heap.size v L ∧ L.length ≤ 3 ∧ (L.all fun s => decide (s.size ≤ 4)) = true ∧ w.grownBy w' (some r) ∧ IsRd w' r a len cap zs q ∧ q ≤ p + 4 := by
  have HL : Hid (r < w.heap.size) := hR.lt
  obtain ⟨i0, hi, hz0, hz1, hz2⟩ := info_parts infoStr
  go_enter Try.func63, Try.ntmps63
  go_wp2_with fail
  refine (pick_any _ r a len cap zs p 4 (hR.alloc _) (by omega) (by omega) (by omega)).mono ?_
  rintro e w1 ⟨x, rfl, hx0, hx1, hg, hR1⟩
  obtain ⟨x, rfl⟩ := Int.eq_ofNat_of_zero_le hx0
  have HG : Hid (w.grownBy w1 (some r)) := grown_trans (grown_alloc w _ _) hg
  have HO : Hid (OwnsStrs w1 w.heap.size (.slice (some ⟨w.heap.size, 0, none⟩) 0 0) []) := (owns_empty w).grown hg HL.out
  have HR : Hid (IsRd w1 r a len cap zs (p + 1)) := hR1
  clear hg hR1 hR hx0
  go_wp2
  go_loopw [3, 4] (fun v i wr => ∃ (k : Nat) (L : List ByteArray) (q : Nat), i = .int .i64 k ∧ k + L.length ≤ 3 ∧ OwnsStrs wr w.heap.size v L ∧ (L.all fun s => decide (s.size ≤ 4)) = true ∧ w.grownBy wr (some r) ∧ IsRd wr r a len cap zs q ∧ q ≤ p + 1 + L.length) (fun _ i _ => (intOf i).toNat)
  case atStart => exact ⟨x, [], p + 1, rfl, by simp; omega, HO.out, rfl, HG.out, HR.out, by simp⟩
  case round =>
    obtain ⟨k, L, q, rfl, hkL, hO, hall, hg, hRr, hq⟩ := hrel
    clear HG HO HR
    have HO : Hid (OwnsStrs wr w.heap.size u3 L) := hO
    have HA : Hid ((L.all fun s => decide (s.size ≤ 4)) = true) := hall
    have HG : Hid (w.grownBy wr (some r)) := hg
    clear hO hall hg
    by_cases hk : k = 0
    · subst hk
      have HR : Hid (IsRd wr r a len cap zs q) := hRr
      clear hRr
      go_wp2
      go_ret
      exact ⟨_, L, q, rfl, HO.out, by omega, HA.out, HG.out, HR.out, by omega⟩
    · have hk0 : (0 : Int) < (k : Int) := by omega
      go_wp2_with fail
      refine (l1Name_any _ r a len cap zs q hRr (by omega)).mono ?_
      rintro e w2 ⟨s, rfl, hs, hg2, hR2⟩
      have HG2 : Hid (w.grownBy w2 (some r)) := grown_trans HG.out hg2
      have hO2 : OwnsStrs w2 w.heap.size u3 L := HO.out.grown hg2 HL.out
      have HR2 : Hid (IsRd w2 r a len cap zs q.succ) := hR2
      have hsz : w.heap.size ≤ w2.heap.size := HG2.out.size
      clear hg2 hR2 hRr HG HO
      go_wp2_with (at_builtin; refine wpList_append_own _ rfl _ _ 33 rfl w.heap.size 9 i0 (.string ByteArray.empty) 1 16 Try.underlying33 hi hz0 hz1 hz2 rfl (by decide) _ _ _ rfl (hO2.alloc _).1 ⟨w2.heap.size, 0, none⟩ 1 1 (strv [s]) rfl rfl ?c1 ?c2 ?c3 ?c4 ?c5 ?_)
      case c1 => exact strv_cells w2 [s]
      case c2 => exact strv_one [s]
      case c3 => unfold maxLen; omega
      case c4 => omega
      case c5 => simp; omega
      intro v' w3 hown hgrow hnil
      have R := owns_step (M := [s]) HL.out HG2.out HR2.out hO2 _ hown hgrow hnil
      clear hown hgrow hnil hO2 HG2 HR2
      go_wp2
      go_roundw
      case rel => exact ⟨k - 1, L ++ [s], q + 1, by go_num, by simp; omega, R.1, all_snoc4 HA.out hs, R.2.1, R.2.2, by simp; omega⟩
      case measure => simp [intOf]; omega

def bent4 : List ByteArray := [⟨#[]⟩, ⟨#[65]⟩, ⟨#[97, 98, 99, 100, 101]⟩, ⟨#[97, 47, 98]⟩]
def six : List ByteArray := [⟨#[97]⟩, ⟨#[98]⟩, ⟨#[99]⟩, ⟨#[100]⟩, ⟨#[101]⟩, ⟨#[102]⟩]

set_option maxHeartbeats 1000000 in
theorem l1Bent_any (w : World) (r : Nat) (a : Option Addr) (len cap : Nat) (zs : Nat → Int) (p : Nat) (hR : IsRd w r a len cap zs p) (hp : p ≤ 800000) :
    Calls Try.prog 43 #[.pointer (some ⟨r, 0, none⟩)] w fun e w' => ∃ (v : Value) (L : List ByteArray) (q : Nat), e = .returned v ∧ OwnsStrs w' w.heap.size v L ∧ L.length ≤ 9 ∧ (L.all fun s => decide (s.size ≤ 5)) = true ∧ w.grownBy w' (some r) ∧ IsRd w' r a len cap zs q ∧ q ≤ p + 6 := by
  have HL : Hid (r < w.heap.size) := hR.lt
  obtain ⟨i0, hi, hz0, hz1, hz2⟩ := info_parts infoStr
  go_enter Try.func43, Try.ntmps43
  go_wp2_with fail
  refine (l1Path_any _ r a len cap zs p hR (by omega)).mono ?_
  rintro e w1 ⟨v, L, q, rfl, hO1, hl, hall, hg1, hR1, hq⟩
  have HA : Hid ((L.all fun s => decide (s.size ≤ 5)) = true) := all_weaken hall (by omega)
  clear hall hR
  go_wp2_with fail
  refine (pick_any _ r a len cap zs q 24 hR1 (by omega) (by omega) (by omega)).mono ?_
  rintro e w2 ⟨x, rfl, hx0, hx1, hg2, hR2⟩
  have hO2 : OwnsStrs w2 w.heap.size v L := hO1.grown hg2 HL.out
  have HG2 : Hid (w.grownBy w2 (some r)) := grown_trans hg1 hg2
  have hsz2 : w.heap.size ≤ w2.heap.size := HG2.out.size
  clear hO1 hg1 hg2 hR1
  by_cases hx : x = 0
  · subst hx
    have H4 : Hid (∀ i, i < 4 → (w2.alloc (.cells #[.string ⟨#[]⟩, .string ⟨#[65]⟩, .string ⟨#[97, 98, 99, 100, 101]⟩, .string ⟨#[97, 47, 98]⟩] 9)).cell? ⟨w2.heap.size, 0 + i, none⟩ = some (.string (bent4.getD i ByteArray.empty))) := new_strs w2 bent4
    have hlt2 := hR2.lt
    go_wp2_with fail
    refine (of_any _ r a len cap zs (q + 1) (hR2.alloc _) (by omega) w2.heap.size 0 4 4 (fun i => bent4.getD i ByteArray.empty) (by omega) (by omega) (by omega) H4.out).mono ?_
    rintro e w3 ⟨i, hi4, rfl, hg3, hR3⟩
    have hs : (bent4.getD i ByteArray.empty).size ≤ 5 := getD_size rfl i
    generalize bent4.getD i ByteArray.empty = s at hs ⊢
    have hO3 : OwnsStrs w3 w.heap.size v L := (hO2.alloc _).grown hg3 HL.out
    have HG3 : Hid (w.grownBy w3 (some r)) := grown_trans (grown_trans HG2.out (grown_alloc _ _ _)) hg3
    have HR3 : Hid (IsRd w3 r a len cap zs (q + 1 + 1)) := hR3
    have hsz3 : w.heap.size ≤ w3.heap.size := HG3.out.size
    clear hO2 HG2 hR2 H4 hg3 hR3 hlt2
    go_wp2_with (at_builtin; refine wpList_append_own _ rfl _ _ 33 rfl w.heap.size 9 i0 (.string ByteArray.empty) 1 16 Try.underlying33 hi hz0 hz1 hz2 rfl (by decide) _ _ _ rfl (hO3.alloc _).1 ⟨w3.heap.size, 0, none⟩ 1 1 (strv [s]) rfl rfl ?c1 ?c2 ?c3 ?c4 ?c5 ?_)
    case c1 => exact strv_cells w3 [s]
    case c2 => exact strv_one [s]
    case c3 => unfold maxLen; omega
    case c4 => omega
    case c5 => simp; omega
    intro v' w4 hown hgrow hnil
    have R := owns_step (M := [s]) HL.out HG3.out HR3.out hO3 _ hown hgrow hnil
    clear hown hgrow hnil hO3 HG3 HR3
    have HRR : Hid _ := R
    clear R
    go_wp2
    go_ret
    exact ⟨_, L ++ [s], q + 1 + 1, rfl, HRR.out.1, by simp; omega, all_snoc4 HA.out hs, HRR.out.2.1, HRR.out.2.2, by omega⟩
  · by_cases hx1' : x = 1
    · subst hx1'
      have HR2 : Hid (IsRd w2 r a len cap zs (q + 1)) := hR2
      clear hR2
      go_wp2_with (at_builtin; refine wpList_append_own _ rfl _ _ 33 rfl w.heap.size 9 i0 (.string ByteArray.empty) 1 16 Try.underlying33 hi hz0 hz1 hz2 rfl (by decide) _ _ _ rfl (hO2.alloc _).1 ⟨w2.heap.size, 0, none⟩ 6 6 (strv six) rfl rfl ?d1 ?d2 ?d3 ?d4 ?d5 ?_)
      case d1 => exact strv_cells w2 six
      case d2 => exact strv_one six
      case d3 => unfold maxLen; omega
      case d4 => omega
      case d5 => simp; omega
      intro v' w4 hown hgrow hnil
      have R := owns_step (M := six) HL.out HG2.out HR2.out hO2 _ hown hgrow hnil
      clear hown hgrow hnil hO2 HG2 HR2
      have HRR : Hid _ := R
      clear R
      go_wp2
      go_ret
      exact ⟨_, L ++ six, q + 1, rfl, HRR.out.1, by simp [six]; omega, all_app HA.out rfl, HRR.out.2.1, HRR.out.2.2, by omega⟩
    · have hb0 : (x == 0) = false := by simp; exact hx
      have hb1 : (x == 1) = false := by simp; exact hx1'
      have HR2 : Hid (IsRd w2 r a len cap zs (q + 1)) := hR2
      have HO2 : Hid (OwnsStrs w2 w.heap.size v L) := hO2
      clear hR2 hO2 hx hx1'
      go_wp2
      go_ret
      exact ⟨_, L, q + 1, rfl, HO2.out, by omega, HA.out, HG2.out, HR2.out, by omega⟩

/-- A code that was handed in: len bytes. -/
def IsCode (w : World) (a : Option Addr) (len : Nat) (zs : Nat → Int) : Prop :=
  len = 0 ∨ ∃ b off, a = some ⟨b, off, none⟩ ∧ b < w.heap.size ∧ ∀ i, i < len → w.cell? ⟨b, off + i, none⟩ = some (.int .u8 (zs i)) ∧ 0 ≤ zs i ∧ zs i ≤ 255

theorem IsCode.below {w w' : World} {a : Option Addr} {len : Nat} {zs : Nat → Int} (h : IsCode w a len zs) (hb : Below w.heap.size w w') : IsCode w' a len zs := by
  rcases h with h | ⟨b, off, ha, hlt, hc⟩
  · exact Or.inl h
  · exact Or.inr ⟨b, off, ha, Nat.lt_of_lt_of_le hlt hb.size, fun i hi => ⟨(hb.cell (p := ⟨b, off + i, none⟩) hlt).trans (hc i hi).1, (hc i hi).2⟩⟩

/-- A drawn list: it lies in memory; at most nine texts of at most five letters. -/
structure Drawn (w : World) (g n cap : Nat) (S : Nat → ByteArray) : Prop where
  lt : g < w.heap.size
  cell : ∀ i, i < n → w.cell? ⟨g, 0 + i, none⟩ = some (.string (S i))
  room : n ≤ cap
  most : cap ≤ maxLen
  few : n ≤ 9
  short : ∀ i, (S i).size ≤ 5

theorem Drawn.strs {w : World} {g n cap : Nat} {S : Nat → ByteArray} (h : Drawn w g n cap S) : IsStrs w (some ⟨g, 0, none⟩) n S := Or.inr ⟨g, 0, rfl, h.lt, h.cell⟩
theorem Drawn.small {w : World} {g n cap : Nat} {S : Nat → ByteArray} (h : Drawn w g n cap S) : Small n S := fun i _ => by have := h.short i; unfold maxLen; omega
theorem Drawn.below {w w' : World} {g n cap : Nat} {S : Nat → ByteArray} (h : Drawn w g n cap S) (hb : Below w.heap.size w w') : Drawn w' g n cap S :=
  ⟨Nat.lt_of_lt_of_le h.lt hb.size, fun i hi => (hb.cell (p := ⟨g, 0 + i, none⟩) h.lt).trans (h.cell i hi), h.room, h.most, h.few, h.short⟩
theorem Drawn.len {w : World} {g n cap : Nat} {S : Nat → ByteArray} (h : Drawn w g n cap S) : n ≤ maxLen := by have := h.few; unfold maxLen; omega

theorem OwnsStrs.drawn {w : World} {B : Nat} {v : Value} {L : List ByteArray} (h : OwnsStrs w B v L) (h9 : L.length ≤ 9) (h5 : (L.all fun s => decide (s.size ≤ 5)) = true) :
    ∃ g cap, v = .slice (some ⟨g, 0, none⟩) L.length cap ∧ Drawn w g L.length cap (fun i => L.getD i ByteArray.empty) := by
  obtain ⟨g, cap, hv, _, hlt, hc, hn, hm⟩ := h.hands
  exact ⟨g, cap, hv, hlt, hc, hn, hm, h9, list_size h5⟩

theorem below_grown {w w' w'' : World} {r : Nat} (h : Below w.heap.size w w') (hr : w.heap.size ≤ r) (hg : w'.grownBy w'' (some r)) : Below w.heap.size w w'' :=
  h.grown hg h.size (fun k e => by simp at e; omega)

end Go.Proofs.Ytomacpailikmoab
