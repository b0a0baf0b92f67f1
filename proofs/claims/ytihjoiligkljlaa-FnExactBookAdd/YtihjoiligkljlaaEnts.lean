/-
  What the helpers of the exact laws do at a book that lies in memory: counting it, copying it, holding two against each other, marking one.
-/
import Derived.Test.YtihjoiligkljlaaEntsBase
import Derived.Test.YtihjoiligkljlaaNodesDef
namespace Go.Proofs.Ytihjoiligkljlaa
open Go.RowKit Go.Deep
set_option linter.unusedVariables false
set_option linter.unusedSimpArgs false

set_option maxHeartbeats 400000 in
theorem szEntryS_any (a : Option Addr) (n c : Nat) (left : Int) (w : World) (hn : n ≤ maxLen) (h0 : 0 ≤ left) (h1 : left ≤ 1048576) :
    Calls Try.prog 7 #[.slice a n c, .int .i64 left] w fun e w' => w = w' ∧ ∃ r : Int, e = .returned (.int .i64 r) ∧ r ≤ left ∧ (0 ≤ r → r + n ≤ left) := by
  unfold maxLen at hn
  go_enter Try.func7, Try.ntmps7
  go_wp2
  · go_ret
    exact ⟨rfl, -1, rfl, by omega, fun h => by omega⟩
  · go_ret
    exact ⟨rfl, left - n, rfl, by omega, fun h => by omega⟩

set_option maxHeartbeats 400000 in
theorem toEntry_any (e : En) (w : World) : Calls Try.prog 27 #[enV e] w fun r w' => r = .returned (enV e) ∧ Below w.heap.size w w' := by
  unfold enV
  go_enter Try.func27, Try.ntmps27
  go_wp2_with fail
  exact bodyPost_ret (v := .agg #[.int .i64 e.lev, .int .i64 e.date]) (by simp [results, Try.results27, go_sem]) rfl ⟨rfl, by
    repeat (first | exact Below.refl _ _ | (refine Below.alloc ?_ (by simp <;> omega) _) | (refine Below.setCell ?_ (by simp <;> omega) _))⟩

/-- n entries lie in a block of their own, the first k of them laid. -/
def EnRow (w : World) (b n k : Nat) (E : Nat → En) : Prop :=
  ∃ g, w.rowIs b 46 (n * 2) g ∧ ∀ i, i < k → g (i * 2) = .int .i64 (E i).lev ∧ g (i * 2 + 1) = .int .i64 (E i).date

theorem EnRow.below {w w' : World} {b n k : Nat} {E : Nat → En} (h : EnRow w b n k E) {B : Nat} (hb : Below B w w') (hB : b < B) : EnRow w' b n k E := by
  obtain ⟨g, hr, hg⟩ := h
  exact ⟨g, rowIs_below hr hb hB, hg⟩

theorem EnRow.step {w : World} {b n k : Nat} {E : Nat → En} (h : EnRow w b n k E) :
    EnRow ((w.setCell ⟨b, k * 2, none⟩ (.int .i64 (E k).lev)).setCell ⟨b, k * 2 + 1, none⟩ (.int .i64 (E k).date)) b n (k + 1) E := by
  obtain ⟨g, hr, hg⟩ := h
  refine ⟨_, (hr.set _ _).set _ _, fun i hi => ?_⟩
  by_cases e : i = k
  · subst e; simp
  · have := hg i (by omega)
    simp only [show ¬ i * 2 = k * 2 + 1 by omega, show ¬ i * 2 = k * 2 by omega, show ¬ i * 2 + 1 = k * 2 + 1 by omega, show ¬ i * 2 + 1 = k * 2 by omega, if_false]
    exact this

theorem entv_enl (n : Nat) (E : Nat → En) (j : Nat) : (entv (enl n E))[j]? = if j < n * 2 then some (if j % 2 = 0 then .int .i64 (E (j / 2)).lev else .int .i64 (E (j / 2)).date) else none := by
  by_cases h : j < n * 2
  · have h2 := entv_get (enl n E) (j / 2) (by rw [enl_len]; omega)
    rw [enl_getD n E _ (by omega)] at h2
    rw [if_pos h]
    by_cases e : j % 2 = 0
    · rw [if_pos e, ← h2.1, show j / 2 * 2 = j by omega]
    · rw [if_neg e, ← h2.2, show j / 2 * 2 + 1 = j by omega]
  · rw [if_neg h, List.getElem?_eq_none (by rw [entv_len, enl_len]; omega)]

/-- A block of one's own is a row of one's own. -/
theorem EnRow.own {w : World} {b n : Nat} {E : Nat → En} (h : EnRow w b n n E) (hn : n ≤ maxLen) : OwnE w b (.slice (some ⟨b, 0, none⟩) n n) (enl n E) := by
  obtain ⟨g, ⟨cur, hb, hs, hc⟩, hg⟩ := h
  unfold OwnE
  rw [enl_len]
  refine ⟨by rw [entv_len, enl_len], Or.inr ⟨b, n, cur, rfl, Nat.le_refl _, hb, Nat.le_refl _, hn, hs, ?_⟩⟩
  apply List.ext_getElem?
  intro j
  rw [entv_enl]
  by_cases h : j < n * 2
  · rw [if_pos h, List.getElem?_take_of_lt h]
    have := hc j (by omega)
    rw [Array.getElem?_toList, this]
    have h2 := hg (j / 2) (by omega)
    by_cases e : j % 2 = 0
    · rw [if_pos e, ← h2.1, show j / 2 * 2 = j by omega]
    · rw [if_neg e, ← h2.2, show j / 2 * 2 + 1 = j by omega]
  · rw [if_neg h, List.getElem?_eq_none (by rw [List.length_take]; omega)]

set_option maxHeartbeats 1000000 in
theorem toEntryS_any (a : Option Addr) (n c : Nat) (E : Nat → En) (w : World) (hS : IsEns w a n E) (hn : n ≤ 1048576) :
    Calls Try.prog 9 #[.slice a n c] w fun e w' => e = .returned (.slice (some ⟨w.heap.size, 0, none⟩) n n) ∧ Below w.heap.size w w' ∧ OwnE w' w.heap.size (.slice (some ⟨w.heap.size, 0, none⟩) n n) (enl n E) := by
  have hmk := fun w => run_make_wide (P := Try.prog) 25 46 _ 16 2 Try.underlying25 infoEnt .i64 .i64 n (by omega) (by omega) w
  go_enter Try.func9, Try.ntmps9
  go_wp2
  go_loopw [4] (fun i wr => ∃ (k : Nat), k ≤ n ∧ i = .int .i64 k ∧ Below w.heap.size w wr ∧ EnRow wr w.heap.size n k E) (fun i _ => n - (intOf i).toNat)
  case atStart =>
    obtain ⟨g, hg⟩ := rowIs_wide w #[.int .i64 0, .int .i64 0] (n * 2) 46
    exact ⟨0, Nat.zero_le _, rfl, (Below.refl _ _).alloc (Nat.le_refl _) _, ⟨g, hg, fun i hi => by omega⟩⟩
  case round =>
    obtain ⟨k, hk, rfl, hb, hrow⟩ := hrel
    by_cases hlt : k < n
    · obtain ⟨b, off, rfl, hlt2, hc⟩ := (hS.below (Nat.le_refl _) hb).at hlt
      obtain ⟨c0, c1⟩ := hc k hlt
      clear hc
      go_wp2_with fail
      refine (toEntry_any (E k) wr).mono ?_
      rintro e w1 ⟨rfl, hb1⟩
      unfold enV
      have hwl : w.heap.size < wr.heap.size := by obtain ⟨g, hr, _⟩ := hrow; exact hr.lt
      have hrow1 := hrow.below hb1 hwl
      have hB := hb.trans (hb1.mono hb.size)
      have HR : Hid (EnRow w1 w.heap.size n k E ∧ Below w.heap.size w w1) := ⟨hrow1, hB⟩
      obtain ⟨g, hr, _⟩ := hrow1
      have d0 := hr.cell (show k * 2 < n * 2 by omega)
      have d1 := hr.cell (show k * 2 + 1 < n * 2 by omega)
      have e0 := hr.frozen (k * 2)
      have e1 := hr.frozen (k * 2 + 1)
      clear hb hrow hr hB hb1 c0 c1
      go_wp2
      go_roundw
      case rel => exact ⟨k + 1, by omega, by go_num, bel_put (bel_put HR.out.2 _ (Nat.le_refl _)) _ (Nat.le_refl _), HR.out.1.step⟩
      case measure => simp [intOf]; omega
    · have hkn : k = n := by omega
      have HR : Hid (Below w.heap.size w wr ∧ EnRow wr w.heap.size n n E) := ⟨hb, hkn ▸ hrow⟩
      clear hb hrow hkn
      go_wp2
      go_ret
      exact ⟨rfl, HR.out.1, HR.out.2.own (by unfold maxLen; omega)⟩

set_option maxHeartbeats 1000000 in
theorem eqEntry_any (d e : En) (w : World) : Calls Try.prog 29 #[enV d, enV e] w fun r w' => Below w.heap.size w w' ∧ r = .returned (.bool (sameE d e)) := by
  unfold enV sameE
  cases h1 : (d.lev == e.lev) with
  | false =>
    have hnb : (d.lev != e.lev) = true := by simp only [bne, h1]; rfl
    clear h1
    go_enter Try.func29, Try.ntmps29
    go_wp2_with fail
    go_ret
    exact ⟨((Below.refl _ _).alloc (Nat.le_refl _) _).alloc (by simp) _, rfl⟩
  | true =>
    have hnb : (d.lev != e.lev) = false := by simpa [bne] using h1
    clear h1
    cases h2 : (d.date == e.date) with
    | false =>
      have hnc : (d.date != e.date) = true := by simp only [bne, h2]; rfl
      clear h2
      go_enter Try.func29, Try.ntmps29
      go_wp2_with fail
      go_ret
      exact ⟨((Below.refl _ _).alloc (Nat.le_refl _) _).alloc (by simp) _, rfl⟩
    | true =>
      have hnc : (d.date != e.date) = false := by simpa [bne] using h2
      clear h2
      go_enter Try.func29, Try.ntmps29
      go_wp2_with fail
      go_ret
      exact ⟨((Below.refl _ _).alloc (Nat.le_refl _) _).alloc (by simp) _, rfl⟩

set_option maxHeartbeats 1000000 in
theorem eqEntryS_any (a a' : Option Addr) (n c m c' : Nat) (E F : Nat → En) (w : World) (hS : IsEns w a n E) (hT : IsEns w a' m F) (hn : n ≤ maxLen) (hm : m ≤ maxLen) :
    Calls Try.prog 11 #[.slice a n c, .slice a' m c'] w fun e w' => Below w.heap.size w w' ∧ e = .returned (.bool (decide (n = m) && eqEs n E F)) := by
  unfold maxLen at hn hm
  by_cases hne : n = m
  · subst hne
    have hb : ((n : Int) != (n : Int)) = false := by simp
    go_enter Try.func11, Try.ntmps11
    go_wp2
    go_loopw [5] (fun i wr => ∃ k : Nat, k ≤ n ∧ i = .int .i64 k ∧ Below w.heap.size w wr ∧ eqEs k E F = true) (fun i _ => n - (intOf i).toNat)
    case atStart => exact ⟨0, Nat.zero_le _, rfl, Below.refl _ _, rfl⟩
    case round =>
      obtain ⟨k, hk, rfl, hb, heq⟩ := hrel
      have HE : Hid (eqEs k E F = true) := heq
      have HB : Hid (Below w.heap.size w wr) := hb
      clear heq hb
      by_cases hlt : k < n
      · obtain ⟨b, off, rfl, hlt2, hc⟩ := (hS.below (Nat.le_refl _) HB.out).at hlt
        obtain ⟨b', off', rfl, hlt2', hc'⟩ := (hT.below (Nat.le_refl _) HB.out).at hlt
        obtain ⟨c0, c1⟩ := hc k hlt
        obtain ⟨d0, d1⟩ := hc' k hlt
        have hlti : (k : Int) < (n : Int) := by omega
        have C0 := Lat.cell (B := wr.heap.size) c0 hlt2
        have C1 := Lat.cell (B := wr.heap.size) c1 hlt2
        have D0 := Lat.cell (B := wr.heap.size) d0 hlt2'
        have D1 := Lat.cell (B := wr.heap.size) d1 hlt2'
        have hcall : Hid (∀ n : Lat wr.heap.size wr, Calls Try.prog 29 #[enV (E k), enV (F k)] n.val fun e w'' => e = .returned (.bool (sameE (E k) (F k))) ∧ ∃ m : Lat wr.heap.size wr, w'' = m.val) := fun n =>
          Calls.lat_of (eqEntry_any (E k) (F k) n.val) (fun e w' h => ⟨h.2, h.1.mono n.bel.size⟩)
        clear hc hc' c0 c1 d0 d1
        go_wp2_with fail
        refine wp_region_lat (B := wr.heap.size) (w0 := wr) (by kernel_rfl) (by kernel_rfl) (Below.refl _ _) ?_
        repeat (go_big_quiet_step (exact hcall.out _))
        refine wpQuiet_nil ?_
        rintro _ ⟨nq, rfl⟩
        have hB : Hid (Below w.heap.size w nq.val) := HB.out.trans (nq.bel.mono HB.out.size)
        clear hcall C0 C1 D0 D1
        cases hq : sameE (E k) (F k) with
        | false =>
          have HX : Hid (false = eqEs n E F) := eqEs_not n k E F hlt hq
          clear hq
          go_wp2
          go_ret
          exact ⟨hB.out, ret_bool (by rw [← HX.out]; simp)⟩
        | true =>
          have HX : Hid (eqEs (k + 1) E F = true) := eqEs_succ k E F HE.out hq
          clear hq
          go_wp2
          go_roundw
          case rel => exact ⟨k + 1, by omega, by go_num, hB.out, HX.out⟩
          case measure => simp [intOf]; omega
      · have hkn : k = n := by omega
        have HK : Hid (k = n) := hkn
        clear hkn
        go_wp2
        go_ret
        exact ⟨HB.out, ret_bool (by rw [← HK.out, HE.out]; simp)⟩
  · have hb : ((n : Int) != (m : Int)) = true := by simp; omega
    go_enter Try.func11, Try.ntmps11
    go_wp2
    go_ret
    exact ⟨Below.refl _ _, ret_bool (by simp [hne])⟩

theorem entv_set1 (n m : Nat) (E : Nat → En) (z : Int) : (entv (enl n E)).set (m * 2) (.int .i64 z) = entv (enl n (fun i => if i = m then ⟨z, (E m).date⟩ else E i)) := by
  apply List.ext_getElem?
  intro j
  rw [List.getElem?_set, entv_enl, entv_enl, entv_len, enl_len]
  by_cases e : m * 2 = j
  · subst e
    by_cases h : m * 2 < n * 2 <;> simp [h]
  · by_cases h : j < n * 2
    · rw [if_neg e, if_pos h, if_pos h]
      by_cases e2 : j / 2 = m
      · have : ¬ j % 2 = 0 := by omega
        simp [e2, this]
      · simp [e2]
    · rw [if_neg e, if_neg h, if_neg h]

theorem entv_set2 (n m : Nat) (E : Nat → En) (z : Int) : (entv (enl n E)).set (m * 2 + 1) (.int .i64 z) = entv (enl n (fun i => if i = m then ⟨(E m).lev, z⟩ else E i)) := by
  apply List.ext_getElem?
  intro j
  rw [List.getElem?_set, entv_enl, entv_enl, entv_len, enl_len]
  by_cases e : m * 2 + 1 = j
  · subst e
    by_cases h : m * 2 + 1 < n * 2
    · have h2 : (m * 2 + 1) / 2 = m := by omega
      have h3 : ¬ (m * 2 + 1) % 2 = 0 := by omega
      rw [if_pos rfl, if_pos h, if_pos h, h2, if_neg h3, if_pos rfl]
    · simp [h]
  · by_cases h : j < n * 2
    · rw [if_neg e, if_pos h, if_pos h]
      by_cases e2 : j / 2 = m
      · have : j % 2 = 0 := by omega
        simp [e2, this]
      · simp [e2]
    · rw [if_neg e, if_neg h, if_neg h]

theorem enl_ext {n : Nat} {E F : Nat → En} (h : ∀ i, i < n → E i = F i) : enl n E = enl n F := by
  unfold enl
  exact List.map_congr_left fun i hi => h i (by simpa using hi)

/-- The marks of entries. -/
def marksE (k : Nat) (i : Nat) : En := ⟨((k + 2 * i : Nat) : Int), ((k + 2 * i + 1 : Nat) : Int)⟩

theorem eowns_addr {w : World} {B : Nat} {e : TypeId} {size n c : Nat} {a : Option Addr} {xs : List Value} (h : w.ownsRow B e size (.slice a n c) n xs) (hn : 0 < n) : ∃ g, a = some ⟨g, 0, none⟩ ∧ g < w.heap.size := by
  rcases h.2 with ⟨h0, hz⟩ | ⟨g, cap, cur, hv, _, hg, _⟩
  · omega
  · cases hv
    exact ⟨g, rfl, (Array.getElem?_eq_some_iff.1 hg).1⟩

set_option maxHeartbeats 1000000 in
theorem markEntryS_own (a : Option Addr) (n c k B : Nat) (E : Nat → En) (w : World) (h : w.ownsRow B 46 2 (.slice a n c) n (entv (enl n E))) (hn : n ≤ 1048576) (hk : k ≤ 100000000) :
    Calls Try.prog 16 #[.slice a n c, .int .i64 k] w fun e w' => e = .returned (.int .i64 ((k + 2 * n : Nat) : Int)) ∧ w'.ownsRow B 46 2 (.slice a n c) n (entv (enl n (marksE k))) ∧ w.grownBy w' (Value.slice a n c).ownBlock := by
  go_enter Try.func16, Try.ntmps16
  go_wp2
  go_loopw [1, 5] (fun kk i wr => ∃ m : Nat, m ≤ n ∧ i = .int .i64 m ∧ kk = .int .i64 ((k + 2 * m : Nat) : Int) ∧ wr.ownsRow B 46 2 (.slice a n c) n (entv (enl n (fun i => if i < m then marksE k i else E i))) ∧ w.grownBy wr (Value.slice a n c).ownBlock) (fun _ i _ => n - (intOf i).toNat)
  case atStart => exact ⟨0, Nat.zero_le _, rfl, rfl, by simpa using h, World.grownBy.refl _ _⟩
  case round =>
    obtain ⟨m, hm, rfl, rfl, hrow, hg⟩ := hrel
    by_cases hlt : m < n
    · obtain ⟨g, rfl, hgl⟩ := eowns_addr hrow (by omega)
      have hlti : (m : Int) < (n : Int) := by omega
      have hcm := hrow.cellAt (m * 2) (by omega)
      have hcd := hrow.cellAt (m * 2 + 1) (by omega)
      have hfm := hrow.frozenAt (m * 2)
      have hfd := hrow.frozenAt (m * 2 + 1)
      rw [entv_enl, if_pos (by omega), if_pos (by omega), show m * 2 / 2 = m by omega] at hcm
      rw [entv_enl, if_pos (by omega), if_neg (by omega), show (m * 2 + 1) / 2 = m by omega] at hcd
      have HR1 := hrow.stored (m * 2) (.int .i64 ((k + 2 * m : Nat) : Int))
      have HR : Hid _ := HR1.1.stored (m * 2 + 1) (.int .i64 ((k + 2 * m + 1 : Nat) : Int))
      have HG : Hid (w.grownBy _ (Value.slice (some ⟨g, 0, none⟩) n c).ownBlock) := hg.trans HR1.2
      clear hrow hg HR1
      go_wp2
      go_roundw
      case rel => exact ⟨m + 1, by omega, by go_num, by go_num, by
        have := HR.out.1
        rw [entv_set1, entv_set2] at this
        rw [enl_ext (E := fun i => if i < m + 1 then marksE k i else E i) (F := fun i => if i = m then ⟨(fun i => if i = m then ⟨((k + 2 * m : Nat) : Int), ((fun i => if i < m then marksE k i else E i) m).date⟩ else (fun i => if i < m then marksE k i else E i) i) m |>.lev, ((k + 2 * m + 1 : Nat) : Int)⟩ else (fun i => if i = m then ⟨((k + 2 * m : Nat) : Int), ((fun i => if i < m then marksE k i else E i) m).date⟩ else (fun i => if i < m then marksE k i else E i) i) i) (fun i hi => by
          by_cases e : i = m
          · subst e; simp [marksE]
          · by_cases e2 : i < m
            · simp [e, e2, show i < m + 1 by omega]
            · simp [e, e2, show ¬ i < m + 1 by omega])]
        exact this, HG.out.trans HR.out.2⟩
      case measure => simp [intOf]; omega
    · obtain rfl : m = n := by omega
      have HR : Hid _ := And.intro hrow hg
      clear hrow hg
      go_wp2
      go_ret
      refine ⟨rfl, ?_, HR.out.2⟩
      rw [enl_ext (F := fun i => if i < m then marksE k i else E i) (fun i hi => by simp [hi])]
      exact HR.out.1

set_option maxHeartbeats 1000000 in
theorem heldEntryS_any (a : Option Addr) (n c k : Nat) (w : World) (h : IsEns w a n (marksE k)) (hn : n ≤ 1048576) (hk : k ≤ 100000000) :
    Calls Try.prog 17 #[.slice a n c, .int .i64 k] w fun e w' => e = .returned (.int .i64 ((k + 2 * n : Nat) : Int)) ∧ w' = w := by
  go_enter Try.func17, Try.ntmps17
  go_wp2
  go_loopw [1, 5] (fun kk i wr => ∃ m : Nat, m ≤ n ∧ i = .int .i64 m ∧ kk = .int .i64 ((k + 2 * m : Nat) : Int) ∧ wr = w) (fun _ i _ => n - (intOf i).toNat)
  case atStart => exact ⟨0, Nat.zero_le _, rfl, rfl, rfl⟩
  case round =>
    obtain ⟨m, hm, rfl, rfl, rfl⟩ := hrel
    by_cases hlt : m < n
    · obtain ⟨b, off, rfl, hlt2, hc⟩ := h.at hlt
      obtain ⟨g0, g1⟩ := hc m hlt
      have hlti : (m : Int) < (n : Int) := by omega
      unfold marksE at g0 g1
      clear hc
      go_wp2
      go_roundw
      case rel => exact ⟨m + 1, by omega, by go_num, by go_num, trivial⟩
      case measure => simp [intOf]; omega
    · obtain rfl : m = n := by omega
      go_wp2
      go_ret
      exact ⟨rfl, rfl⟩
end Go.Proofs.Ytihjoiligkljlaa
