/-
  What l2Bent gives: a tree in new memory, bent or not.
-/
import Derived.Test.YtbifhfnoogjoeaaDrawBentIn
import Derived.Test.YtbifhfnoogjoeaaPeel
namespace Go.Proofs.Ytbifhfnoogjoeaa
open Go.RowKit Go.Deep
set_option linter.unusedVariables false

theorem new_ints (w : World) (L : List Int) : ∀ i, i < L.length → (w.alloc (.cells (intv L).toArray 3)).cell? ⟨w.heap.size, 0 + i, none⟩ = some (.int .i64 (L.getD i 0)) := by
  intro i hi
  simp only [World.cell?, new_block]
  simp [intv, hi]

theorem getD_in {L : List Int} {lo hi : Int} (h : ∀ z ∈ L, lo ≤ z ∧ z ≤ hi) (i : Nat) (hi' : i < L.length) : lo ≤ L.getD i 0 ∧ L.getD i 0 ≤ hi := by
  have := h (L[i]) (List.getElem_mem hi')
  simpa [hi'] using this

theorem wp_cutq3 {X Y Z : Type} (F : X → Y → Z → World → Prop) {P : Program} {c : Code} {Q : Exit → Act → World → Prop} {a : Act} {w : World} (A : X → Y → Z → Act)
    (leaf : (∀ x y z W, F x y z W → Q .normal (A x y z) W) → c.wp P Q a w) (k : ∀ x y z W, F x y z W → Q .normal (A x y z) W) : c.wp P Q a w := leaf k

theorem wp_cutq4 {X Y Z U : Type} (F : X → Y → Z → U → World → Prop) {P : Program} {c : Code} {Q : Exit → Act → World → Prop} {a : Act} {w : World} (A : X → Y → Z → U → Act)
    (leaf : (∀ x y z u W, F x y z u W → Q .normal (A x y z u) W) → c.wp P Q a w) (k : ∀ x y z u W, F x y z u W → Q .normal (A x y z u) W) : c.wp P Q a w := leaf k

def bent3 : List ByteArray := [⟨#[65]⟩, ⟨#[97, 98, 99, 100, 101, 102, 103]⟩, ⟨#[120]⟩]

/-- What l2Bent leaves. -/
def BentPost (w : World) (r : Nat) (a : Option Addr) (len cp : Nat) (zs : Nat → Int) (p : Nat) (e : Ending) (w' : World) : Prop :=
  ∃ g cap n D L now q, e = .returned (trV (some ⟨g, 0, none⟩) n cap now) ∧ 0 ≤ now ∧ now ≤ 1001 ∧ q ≤ p + 210 ∧ BentD w r a len cp zs q g cap n D L w'

theorem bentPost_mk {w : World} {r : Nat} {a : Option Addr} {len cp : Nat} {zs : Nat → Int} {p q g cap n : Nat} {D : Nat → Nd} {L : Nat → Loc} {now : Int} {W : World} (h0 : 0 ≤ now) (h1 : now ≤ 1001) (hq : q ≤ p + 210) (h : BentD w r a len cp zs q g cap n D L W) : BentPost w r a len cp zs p (.returned (.agg #[.slice (some ⟨g, 0, none⟩) n cap, .int .i64 now])) W :=
  ⟨g, cap, n, D, L, now, q, rfl, h0, h1, hq, h⟩

theorem kid_block {w : World} {T r : Nat} {a : Option Addr} {len cp : Nat} {zs : Nat → Int} {q g cap n : Nat} {D : Nat → Nd} {L : Nat → Loc} {now : Int} {W : World} (h : BI w T r a len cp zs q g cap n D L now W) (hk : KidsOwn W n D L) {k : Nat} (hi : k < n) :
    ∀ b, (Value.slice (L k).kA (D k).kn (L k).kc).ownBlock = some b → b ≠ g ∧ b ≠ T := fun b e => by
  rcases hk.room k hi with ⟨e1, e2, e3⟩ | ⟨b', cur, e1, _⟩
  · rw [e1, e2, e3] at e; simp [Value.ownBlock] at e
  · have e' := e
    rw [e1] at e'; simp [Value.ownBlock] at e'; subst e'
    exact ⟨((h.own.lists k hi).2.2 b' 0 none e1).2.1, (h.away.lists k hi).2 b' 0 none e1⟩

set_option maxRecDepth 100000 in
set_option maxHeartbeats 8000000 in
theorem l2Bent_any (w : World) (r : Nat) (a : Option Addr) (len cp : Nat) (zs : Nat → Int) (p : Nat) (hR : IsRd w r a len cp zs p) (hp : p ≤ 400) :
    Calls Try.prog 24 #[.pointer (some ⟨r, 0, none⟩)] w (BentPost w r a len cp zs p) := by
  have hrl := hR.lt
  obtain ⟨j0, hj, hy0, hy1, hy2⟩ := info_parts infoInt
  obtain ⟨i0, hi0, hz0, hz1, hz2⟩ := info_parts infoNode
  go_enter Try.func24, Try.ntmps24
  go_wp2_with fail
  refine (l2Some_any _ r a len cp zs p (hR.alloc _) (by omega)).mono ?_
  rintro e w1 ⟨g, cap, n, D, L, now, q, rfl, hnow0, hnow1, hq, hd⟩
  unfold trV
  have hN := hd.nice
  have hn1 := hN.some
  have hn10 := hN.few
  have HF : Hid (BI w w1.heap.size r a len cp zs q g cap n D L now (w1.alloc (.cells #[.slice (some ⟨g, 0, none⟩) n cap, .int .i64 now] 25))) := BI.start (p := p) hd hrl
  have HK : Hid (KidsOwn (w1.alloc (.cells #[.slice (some ⟨g, 0, none⟩) n cap, .int .i64 now] 25)) n D L) := hd.kids2 _
  have hw1 : w.heap.size < w1.heap.size := HF.out.above
  clear hd hR
  go_wp2_with fail
  obtain ⟨T, hT⟩ : ∃ T, T = w1.heap.size := ⟨_, rfl⟩
  refine (pick_any _ r a len cp zs q n HF.out.rd (by omega) (by omega) (by omega)).mono ?_
  rintro e w2 ⟨x, rfl, hx0, hx1, hg2, hR2⟩
  obtain ⟨k, rfl⟩ := Int.eq_ofNat_of_zero_le hx0
  have hkn : k < n := by omega
  have HK2 : Hid _ := HF.out.readKids HK.out hg2
  have HF2 : Hid _ := HF.out.read hg2 hR2
  clear hg2 hR2 HF HK hx0
  rw [← hT] at HF2 hw1 ⊢
  clear hT
  go_wp2_with fail
  refine (pick_any _ r a len cp zs (q + 1) 56 HF2.out.rd (by omega) (by omega) (by omega)).mono ?_
  rintro e w3 ⟨x, rfl, hxa, hx56, hg3, hR3⟩
  have HK : Hid _ := HF2.out.readKids HK2.out hg3
  have HF : Hid _ := HF2.out.read hg3 hR3
  clear hg3 hR3 HF2 HK2
  have hgT : g ≠ T := HF.out.base.2.1
  have hTg : T ≠ g := Ne.symm hgT
  have hki : (k : Int) < (n : Int) := by omega
  have hwT : w.heap.size < T := HF.out.above
  have hTlt : T < w3.heap.size := HF.out.t.lt
  have hglt : g < w3.heap.size := HF.out.own.lt
  have hfk := (hN.fair (Nat.le_refl _)).each k hkn
  have t0 : w3.cell? ⟨T, 0, none⟩ = some (.slice (some ⟨g, 0, none⟩) n cap) := HF.out.t.cell 0
  have t1 : w3.cell? ⟨T, 1, none⟩ = some (.int .i64 now) := HF.out.t.cell 1
  by_cases hx0 : x = 0
  · subst hx0
    go_wp2_with fail
    clear HK
    have hwr : IntKind.i64.wrap (now + 1) = now + 1 := wrap_i64 (now + 1) (by omega) (by omega)
    apply wp_cutq1 (X := Int) (fun z W => BI w T r a len cp zs (q + 1 + 1 + 1) g cap n (putNd D k { D k with turn := z }) L now W ∧ -1 ≤ z ∧ z ≤ 1001)
    · intro key
      have KEY : Hid _ := key
      clear key
      go_region_with (
        go_at_call 26
        refine (num_any ((w3.drewN 1).alloc _) r a len cp zs (q + 1 + 1) ((HF.out.drew 1).alloc _).rd (by omega) w3.heap.size 0 3 3 (fun i => [0, -1, now + 1].getD i 0) (by omega) (by omega) (by omega) (new_ints (w3.drewN 1) [0, -1, now + 1])).mono ?_
        rintro e w6 ⟨i, hi3, rfl, hg6, hR6⟩
        have hs6 : -1 ≤ [0, -1, now + 1].getD i 0 ∧ [0, -1, now + 1].getD i 0 ≤ 1001 := getD_in (by simp; omega) i hi3
        have hG6 := ((HF.out.drew 1).alloc _).read hg6 hR6
        have T0 : w6.cell? ⟨T, 0, none⟩ = some (.slice (some ⟨g, 0, none⟩) n cap) := hG6.t.cell 0
        have E4 := (hG6.own.cells k hkn).2.2.2.2
        have EF4 := hG6.own.frozen (k * 5 + 4)
        generalize hsd : [0, -1, now + 1].getD i 0 = z at hs6)
      all_goals exact KEY.out z _ ⟨hG6.put (hG6.own.setTurn hkn z), hs6⟩
    · intro z W7 hF7
      have hf : Fair n (putNd D k { D k with turn := z }) := (hN.fair (Nat.le_refl _)).put ⟨hfk.nn, hfk.kn, hfk.names, hfk.kids, hfk.text, hfk.kind, hF7.2⟩
      have HF7 : Hid _ := hF7.1
      have HE : Hid _ := hF7.1.fin hf
      clear hf hF7 t0 t1 HF
      have t0 : W7.cell? ⟨T, 0, none⟩ = some (.slice (some ⟨g, 0, none⟩) (n) cap) := HF7.out.t.cell 0
      have t1 : W7.cell? ⟨T, 1, none⟩ = some (.int .i64 (now)) := HF7.out.t.cell 1
      have rs0 : W7.cell? ⟨w.heap.size, 0, none⟩ = some (.slice none 0 0) := HF7.out.res.cell 0
      have rs1 : W7.cell? ⟨w.heap.size, 1, none⟩ = some (.int .i64 0) := HF7.out.res.cell 1
      have rf0 := HF7.out.res.frozen 0
      have rf1 := HF7.out.res.frozen 1
      clear HF7
      go_wp2
      refine end_world (F := BEnd w r a len cp zs (q + 1 + 1 + 1) g cap (n) _ L (now)) HE.out ?_
      clear HE
      rintro WF ⟨hr, hgr⟩
      have r0 := hr.cell 0
      have r1 := hr.cell 1
      simp at r0 r1
      exact bodyPost_ret (v := .agg #[.slice (some ⟨g, 0, none⟩) (n) cap, .int .i64 (now)]) (by simp [results, Try.results24, go_sem, r0, r1]) rfl (bentPost_mk (by omega) (by omega) (by omega) hgr)
  have hb0 : (x == 0) = false := by simp; exact hx0
  by_cases hx1 : x = 1
  · subst hx1
    go_wp2_with fail
    clear HK
    apply wp_cutq1 (X := Int) (fun z W => BI w T r a len cp zs (q + 1 + 1 + 1) g cap n (putNd D k { D k with kind := z }) L now W ∧ 0 ≤ z ∧ z < 4)
    · intro key
      have KEY : Hid _ := key
      clear key
      go_region_with (
        go_at_call 38
        refine (pick_any (w3.drewN 1) r a len cp zs (q + 1 + 1) 4 (HF.out.drew 1).rd (by omega) (by omega) (by omega)).mono ?_
        rintro e w6 ⟨z, rfl, hzz0, hzz1, hg6, hR6⟩
        have hG6 := (HF.out.drew 1).read hg6 hR6
        have T0 : w6.cell? ⟨T, 0, none⟩ = some (.slice (some ⟨g, 0, none⟩) n cap) := hG6.t.cell 0
        have E0 := (hG6.own.cells k hkn).1
        have EF0 := hG6.own.frozen (k * 5))
      all_goals exact KEY.out z _ ⟨hG6.put (hG6.own.setKind hkn z), hzz0, hzz1⟩
    · intro z W7 hF7
      have hf : Fair n (putNd D k { D k with kind := z }) := (hN.fair (Nat.le_refl _)).put ⟨hfk.nn, hfk.kn, hfk.names, hfk.kids, hfk.text, ⟨hF7.2.1, by have := hF7.2.2; show z ≤ 3; omega⟩, hfk.turn⟩
      have HF7 : Hid _ := hF7.1
      have HE : Hid _ := hF7.1.fin hf
      clear hf hF7 t0 t1 HF
      have t0 : W7.cell? ⟨T, 0, none⟩ = some (.slice (some ⟨g, 0, none⟩) (n) cap) := HF7.out.t.cell 0
      have t1 : W7.cell? ⟨T, 1, none⟩ = some (.int .i64 (now)) := HF7.out.t.cell 1
      have rs0 : W7.cell? ⟨w.heap.size, 0, none⟩ = some (.slice none 0 0) := HF7.out.res.cell 0
      have rs1 : W7.cell? ⟨w.heap.size, 1, none⟩ = some (.int .i64 0) := HF7.out.res.cell 1
      have rf0 := HF7.out.res.frozen 0
      have rf1 := HF7.out.res.frozen 1
      clear HF7
      go_wp2
      refine end_world (F := BEnd w r a len cp zs (q + 1 + 1 + 1) g cap (n) _ L (now)) HE.out ?_
      clear HE
      rintro WF ⟨hr, hgr⟩
      have r0 := hr.cell 0
      have r1 := hr.cell 1
      simp at r0 r1
      exact bodyPost_ret (v := .agg #[.slice (some ⟨g, 0, none⟩) (n) cap, .int .i64 (now)]) (by simp [results, Try.results24, go_sem, r0, r1]) rfl (bentPost_mk (by omega) (by omega) (by omega) hgr)
  have hb1 : (x == 1) = false := by simp; exact hx1
  by_cases hx2 : x = 2
  · subst hx2
    go_wp2_with fail
    have c3 := (HF.out.own.cells k hkn).2.2.2.1
    have hk10 : (D k).kn ≤ 10 := by have h1 := (hN.each k hkn).same; have h2 := (hN.each k hkn).few; omega
    have hnum : ∀ i, i < 4 → (0 : Int) ≤ [0, 1, (k : Int), 99].getD i 0 ∧ [0, 1, (k : Int), 99].getD i 0 ≤ 99 := fun i hi => getD_in (L := [0, 1, (k : Int), 99]) (by simp; omega) i hi
    apply wp_cutq4 (X := Nat) (Y := Nat) (Z := Int) (U := Nat) (fun g' c' z _ W => BI w T r a len cp zs (q + 1 + 1 + 1) g cap n (putNd D k (kidNd (D k) z)) (putLoc L k { L k with kA := some ⟨g', 0, none⟩, kc := c' }) now W ∧ 0 ≤ z ∧ z ≤ 99)
    · intro key
      have KEY : Hid _ := key
      clear key
      refine wp_region_noPanic ?_
      refine wp_region_peel (fun W' => W'.cell? ⟨T, 0, none⟩ = some (.slice (some ⟨g, 0, none⟩) n cap) ∧ W'.cell? ⟨g, k * 5 + 3, none⟩ = some (.slice (L k).kA (D k).kn (L k).kc)) _ (by kernel_rfl) rfl (by kernel_rfl) ?_ (fun hHeld => ?_)
      · exact ⟨t0, c3⟩
      simp only [List.pop_toArray, List.dropLast, List.size_toArray, List.length_cons, List.length_nil, Nat.reduceAdd, Nat.reduceSub, List.getElem_toArray, List.getElem_cons_succ, List.getElem_cons_zero]
      refine peel_take (i := 0) (oi := ?oi0b) (v := ?v0b) (fun _ _ _ _ _ h => h) hHeld ?hi0b (by kernel_rfl) (by kernel_rfl) (by kernel_rfl) ?hw0b ?hy0b ?rest0b
      case hi0b =>
        simp only [List.getElem?_toArray, List.getElem?_cons_zero]
        rfl
      case hw0b => rfl
      case hy0b =>
        intro w hSw
        obtain ⟨s0, s1⟩ := hSw
        go_simp
        try with_reducible rfl
      try simp only [Act.put, List.setIfInBounds_toArray, List.set_cons_zero, List.set_cons_succ]
      refine peel_take (i := 1) (oi := ?oi1b) (v := ?v1b) (fun _ _ _ _ _ h => h) hHeld ?hi1b (by kernel_rfl) (by kernel_rfl) (by kernel_rfl) ?hw1b ?hy1b ?rest1b
      case hi1b =>
        simp only [List.getElem?_toArray, List.getElem?_cons_succ, List.getElem?_cons_zero]
        rfl
      case hw1b => rfl
      case hy1b =>
        intro w hSw
        obtain ⟨s0, s1⟩ := hSw
        go_simp
        try with_reducible rfl
      try simp only [Act.put, List.setIfInBounds_toArray, List.set_cons_zero, List.set_cons_succ]
      refine peel_take (i := 2) (oi := ?oi2b) (v := ?v2b) (fun _ _ _ _ _ h => h) hHeld ?hi2b (by kernel_rfl) (by kernel_rfl) (by kernel_rfl) ?hw2b ?hy2b ?rest2b
      case hi2b =>
        simp only [List.getElem?_toArray, List.getElem?_cons_succ, List.getElem?_cons_zero]
        rfl
      case hw2b => rfl
      case hy2b =>
        intro w hSw
        obtain ⟨s0, s1⟩ := hSw
        go_simp
        try with_reducible rfl
      try simp only [Act.put, List.setIfInBounds_toArray, List.set_cons_zero, List.set_cons_succ]
      refine peel_take (i := 3) (oi := ?oi3b) (v := ?v3b) (fun _ _ _ _ _ h => h) hHeld ?hi3b (by kernel_rfl) (by kernel_rfl) (by kernel_rfl) ?hw3b ?hy3b ?rest3b
      case hi3b =>
        simp only [List.getElem?_toArray, List.getElem?_cons_succ, List.getElem?_cons_zero]
        rfl
      case hw3b => rfl
      case hy3b =>
        intro w hSw
        obtain ⟨s0, s1⟩ := hSw
        go_simp
        try with_reducible rfl
      try simp only [Act.put, List.setIfInBounds_toArray, List.set_cons_zero, List.set_cons_succ]
      refine peel_take (i := 4) (oi := ?oi4b) (v := ?v4b) (fun _ _ _ _ _ h => h) hHeld ?hi4b (by kernel_rfl) (by kernel_rfl) (by kernel_rfl) ?hw4b ?hy4b ?rest4b
      case hi4b =>
        simp only [List.getElem?_toArray, List.getElem?_cons_succ, List.getElem?_cons_zero]
        rfl
      case hw4b => rfl
      case hy4b =>
        intro w hSw
        obtain ⟨s0, s1⟩ := hSw
        go_simp
        try with_reducible rfl
      try simp only [Act.put, List.setIfInBounds_toArray, List.set_cons_zero, List.set_cons_succ]
      refine peel_take (i := 5) (oi := ?oi5b) (v := ?v5b) (fun _ _ _ _ _ h => h) hHeld ?hi5b (by kernel_rfl) (by kernel_rfl) (by kernel_rfl) ?hw5b ?hy5b ?rest5b
      case hi5b =>
        simp only [List.getElem?_toArray, List.getElem?_cons_succ, List.getElem?_cons_zero]
        rfl
      case hw5b => rfl
      case hy5b =>
        intro w hSw
        obtain ⟨s0, s1⟩ := hSw
        go_simp
        try with_reducible rfl
      try simp only [Act.put, List.setIfInBounds_toArray, List.set_cons_zero, List.set_cons_succ]
      refine peel_take (i := 6) (oi := ?oi6b) (v := ?v6b) (fun _ _ _ _ _ h => h) hHeld ?hi6b (by kernel_rfl) (by kernel_rfl) (by kernel_rfl) ?hw6b ?hy6b ?rest6b
      case hi6b =>
        simp only [List.getElem?_toArray, List.getElem?_cons_succ, List.getElem?_cons_zero]
        rfl
      case hw6b => rfl
      case hy6b =>
        intro w hSw
        obtain ⟨s0, s1⟩ := hSw
        go_simp
        try with_reducible rfl
      try simp only [Act.put, List.setIfInBounds_toArray, List.set_cons_zero, List.set_cons_succ]
      refine peel_take (i := 7) (oi := ?oi7b) (v := ?v7b) (fun _ _ _ _ _ h => h) hHeld ?hi7b (by kernel_rfl) (by kernel_rfl) (by kernel_rfl) ?hw7b ?hy7b ?rest7b
      case hi7b =>
        simp only [List.getElem?_toArray, List.getElem?_cons_succ, List.getElem?_cons_zero]
        rfl
      case hw7b => rfl
      case hy7b =>
        intro w hSw
        obtain ⟨s0, s1⟩ := hSw
        go_simp
        try with_reducible rfl
      try simp only [Act.put, List.setIfInBounds_toArray, List.set_cons_zero, List.set_cons_succ]
      refine peel_take (i := 8) (oi := ?oi8b) (v := ?v8b) (fun _ _ _ _ _ h => h) hHeld ?hi8b (by kernel_rfl) (by kernel_rfl) (by kernel_rfl) ?hw8b ?hy8b ?rest8b
      case hi8b =>
        simp only [List.getElem?_toArray, List.getElem?_cons_succ, List.getElem?_cons_zero]
        rfl
      case hw8b => rfl
      case hy8b =>
        intro w hSw
        obtain ⟨s0, s1⟩ := hSw
        go_simp
        try with_reducible rfl
      try simp only [Act.put, List.setIfInBounds_toArray, List.set_cons_zero, List.set_cons_succ]
      refine peel_take (i := 9) (oi := ?oi9b) (v := ?v9b) (fun _ _ _ _ _ h => h) hHeld ?hi9b (by kernel_rfl) (by kernel_rfl) (by kernel_rfl) ?hw9b ?hy9b ?rest9b
      case hi9b =>
        simp only [List.getElem?_toArray, List.getElem?_cons_succ, List.getElem?_cons_zero]
        rfl
      case hw9b => rfl
      case hy9b =>
        intro w hSw
        obtain ⟨s0, s1⟩ := hSw
        go_simp
        try with_reducible rfl
      try simp only [Act.put, List.setIfInBounds_toArray, List.set_cons_zero, List.set_cons_succ]
      refine peel_take (i := 10) (oi := ?oi10b) (v := ?v10b) (fun _ _ _ _ _ h => h) hHeld ?hi10b (by kernel_rfl) (by kernel_rfl) (by kernel_rfl) ?hw10b ?hy10b ?rest10b
      case hi10b =>
        simp only [List.getElem?_toArray, List.getElem?_cons_succ, List.getElem?_cons_zero]
        rfl
      case hw10b => rfl
      case hy10b =>
        intro w hSw
        obtain ⟨s0, s1⟩ := hSw
        go_simp
        try with_reducible rfl
      try simp only [Act.put, List.setIfInBounds_toArray, List.set_cons_zero, List.set_cons_succ]
      refine wpAnyH_ready (rs := [11]) (by kernel_rfl) (by simp) ?_
      refine AllReadyH.cons (o := ?o11b) ?ho11b (fun K hK => ?st11b) AllReadyH.nil
      case ho11b =>
        simp only [List.getElem?_toArray, List.getElem?_cons_succ, List.getElem?_cons_zero]
        rfl
      go_simp
      refine hK.out _ _ ?hs11b (fun hHeld => ?re11b)
      case hs11b =>
        have hG5 := (HF.out.drew 1).alloc (.cells #[.int .i64 0, .int .i64 1, .int .i64 k, .int .i64 99] 3)
        exact ⟨hG5.t.cell 0, (hG5.own.cells k hkn).2.2.2.1⟩
      clear hK K
      try simp only [Act.put, List.setIfInBounds_toArray, List.set_cons_zero, List.set_cons_succ]
      refine wpAnyH_ready (rs := [12]) (by kernel_rfl) (by simp) ?_
      refine AllReadyH.cons (o := ?o12b) ?ho12b (fun K hK => ?st12b) AllReadyH.nil
      case ho12b =>
        simp only [List.getElem?_toArray, List.getElem?_cons_succ, List.getElem?_cons_zero]
        rfl
      go_simp
      refine (num_any ((w3.drewN 1).alloc _) r a len cp zs (q + 1 + 1) ((HF.out.drew 1).alloc _).rd (by omega) w3.heap.size 0 4 4 (fun i => [0, 1, (k : Int), 99].getD i 0) (by omega) (by omega) (by omega) (new_ints (w3.drewN 1) [0, 1, (k : Int), 99])).mono ?_
      rintro e w6 ⟨i, hi4, rfl, hg6, hR6⟩
      have hs6 := hnum i hi4
      have hG6 := ((HF.out.drew 1).alloc _).read hg6 hR6
      have hK6 := ((HF.out.drew 1).alloc _).readKids ((HF.out.drew 1).belowKids (HF.out.belowKids HK.out (below_drewN (Below.refl _ _) 1)) ((Below.refl _ _).alloc (Nat.le_refl _) _)) hg6
      have hOw6 : w6.ownsRow (w.heap.size + 1) 3 1 (.slice (L k).kA (D k).kn (L k).kc) (D k).kn (intv ((List.range (D k).kn).map (D k).kids)) := (hK6.room k hkn).owns (hG6.own.lists k hkn).1.2 (fun b o x e => ((hG6.own.lists k hkn).2.2 b o x e).1)
      have hl6 := hG6.t.lt
      have hl6g := hG6.own.lt
      have hl6w := hG6.res.lt
      have hob6 : ∀ b, (Value.slice (L k).kA (D k).kn (L k).kc).ownBlock = some b → b ≠ g ∧ b ≠ T := kid_block hG6 hK6 hkn
      have hnT : some T ≠ (Value.slice (L k).kA (D k).kn (L k).kc).ownBlock := fun e => (hob6 T e.symm).2 rfl
      have hnG : some g ≠ (Value.slice (L k).kA (D k).kn (L k).kc).ownBlock := fun e => (hob6 g e.symm).1 rfl
      generalize hsd : [0, 1, (k : Int), 99].getD i 0 = z at hs6
      refine hK.out _ _ ⟨hG6.t.cell 0, (hG6.own.cells k hkn).2.2.2.1⟩ (fun hHeld => ?re12b)
      clear hK K
      try simp only [Act.put, List.setIfInBounds_toArray, List.set_cons_zero, List.set_cons_succ]
      refine wpAnyH_ready (rs := [13]) (by kernel_rfl) (by simp) ?_
      refine AllReadyH.cons (o := ?o13b) ?ho13b (fun K hK => ?st13b) AllReadyH.nil
      case ho13b =>
        simp only [List.getElem?_toArray, List.getElem?_cons_succ, List.getElem?_cons_zero]
        rfl
      go_simp
      have hG7 := hG6.alloc (.cells #[.int .i64 z] 3)
      refine hK.out _ _ ⟨hG7.t.cell 0, (hG7.own.cells k hkn).2.2.2.1⟩ (fun hHeld => ?re13b)
      clear hK K
      try simp only [Act.put, List.setIfInBounds_toArray, List.set_cons_zero, List.set_cons_succ]
      refine wpAnyH_ready (rs := [14]) (by kernel_rfl) (by simp) ?_
      refine AllReadyH.cons (o := ?o14b) ?ho14b (fun K hK => ?st14b) AllReadyH.nil
      case ho14b =>
        simp only [List.getElem?_toArray, List.getElem?_cons_succ, List.getElem?_cons_zero]
        rfl
      refine step_append_lies _ (by rfl) _ _ _ (by rfl) (w.heap.size + 1) 3 j0 (.int .i64 0) 1 8 Try.underlying34 hj hy0 hy1 hy2 rfl (by decide) (.slice (L k).kA (D k).kn (L k).kc) (D k).kn (intv ((List.range (D k).kn).map (D k).kids)) (by rfl) (hOw6.alloc _) ⟨w6.heap.size, 0, none⟩ 1 1 (intv [z]) (by rfl) (by rfl) (intv_at w6 _) (intv_one _) (by decide) (by unfold maxLen; omega) (by omega) (by simp; omega) (w6.heap.size + 1) (by simp) ?_
      intro g' c' w7 hown hgrow hat hlt7
      have q0 : w7.cell? ⟨T, 0, none⟩ = some (.slice (some ⟨g, 0, none⟩) n cap) := (hgrow.cell_far _ (by simp; omega) hnT).trans (hG7.t.cell 0)
      have q3 : w7.cell? ⟨g, k * 5 + 3, none⟩ = some (.slice (L k).kA (D k).kn (L k).kc) := (hgrow.cell_far _ (by simp; omega) hnG).trans (hG7.own.cells k hkn).2.2.2.1
      have q3f : w7.frozen? ⟨g, k * 5 + 3, none⟩ = false := (hgrow.frozen_far _ (by simp; omega) hnG).trans (hG7.own.frozen (k * 5 + 3))
      refine hK.out _ _ ⟨q0, q3⟩ (fun hHeld => ?re14b)
      clear hK K
      try simp only [Act.put, List.setIfInBounds_toArray, List.set_cons_zero, List.set_cons_succ]
      refine peel_take (i := 15) (oi := ?oi15b) (v := ?v15b) (fun _ _ _ _ _ h => h) hHeld ?hi15b (by kernel_rfl) (by kernel_rfl) (by kernel_rfl) ?hw15b ?hy15b ?rest15b
      case hi15b =>
        simp only [List.getElem?_toArray, List.getElem?_cons_succ, List.getElem?_cons_zero]
        rfl
      case hw15b => rfl
      case hy15b =>
        intro w hSw
        obtain ⟨s0, s1⟩ := hSw
        go_simp
        try with_reducible rfl
      try simp only [Act.put, List.setIfInBounds_toArray, List.set_cons_zero, List.set_cons_succ]
      refine peel_take (i := 16) (oi := ?oi16b) (v := ?v16b) (fun _ _ _ _ _ h => h) hHeld ?hi16b (by kernel_rfl) (by kernel_rfl) (by kernel_rfl) ?hw16b ?hy16b ?rest16b
      case hi16b =>
        simp only [List.getElem?_toArray, List.getElem?_cons_succ, List.getElem?_cons_zero]
        rfl
      case hw16b => rfl
      case hy16b =>
        intro w hSw
        obtain ⟨s0, s1⟩ := hSw
        go_simp
        try with_reducible rfl
      try simp only [Act.put, List.setIfInBounds_toArray, List.set_cons_zero, List.set_cons_succ]
      refine wpAnyH_done (by kernel_rfl) ?_ _
      show Oper.wp _ _ _ _ _ _
      go_simp
      generalize w6.heap.size = b6
      exact NoPanic.normal (KEY.out g' c' z b6 _ ⟨hG7.kidApp (hG6.belowKids hK6 ((Below.refl _ _).alloc (Nat.le_refl _) _)) hkn hown hgrow (hat.elim Or.inl (fun e => Or.inr (by rw [e]; simp))), hs6⟩)
    · intro g' c' z b6 W7 hF7
      have hf : Fair n (putNd D k (kidNd (D k) z)) := (hN.fair (Nat.le_refl _)).put (kid_fair hfk hk10 hF7.2.1 hF7.2.2)
      have HF7 : Hid _ := hF7.1
      have HE : Hid _ := hF7.1.fin hf
      clear hf hF7 t0 t1 HF HK c3
      have t0 : W7.cell? ⟨T, 0, none⟩ = some (.slice (some ⟨g, 0, none⟩) (n) cap) := HF7.out.t.cell 0
      have t1 : W7.cell? ⟨T, 1, none⟩ = some (.int .i64 (now)) := HF7.out.t.cell 1
      have rs0 : W7.cell? ⟨w.heap.size, 0, none⟩ = some (.slice none 0 0) := HF7.out.res.cell 0
      have rs1 : W7.cell? ⟨w.heap.size, 1, none⟩ = some (.int .i64 0) := HF7.out.res.cell 1
      have rf0 := HF7.out.res.frozen 0
      have rf1 := HF7.out.res.frozen 1
      clear HF7
      go_wp2
      refine end_world (F := BEnd w r a len cp zs (q + 1 + 1 + 1) g cap (n) _ _ (now)) HE.out ?_
      clear HE
      rintro WF ⟨hr, hgr⟩
      have r0 := hr.cell 0
      have r1 := hr.cell 1
      simp at r0 r1
      exact bodyPost_ret (v := .agg #[.slice (some ⟨g, 0, none⟩) (n) cap, .int .i64 (now)]) (by simp [results, Try.results24, go_sem, r0, r1]) rfl (bentPost_mk (by omega) (by omega) (by omega) hgr)
  have hb2 : (x == 2) = false := by simp; exact hx2
  by_cases hx3 : x = 3
  · subst hx3
    go_wp2_with fail
    obtain ⟨c0, c1, c2, c3, c4⟩ := HF.out.own.cells 0 hn1
    have hn8 := hN.each 0 hn1
    have hf8 := (hN.fair (Nat.le_refl _)).each 0 hn1
    have hn0i : (0 : Int) < (n : Int) := by omega
    have hn00 : 0 < n := hn1
    have hnum : ∀ i, i < 3 → (0 : Int) ≤ [0, (k : Int), (n : Int)].getD i 0 ∧ [0, (k : Int), (n : Int)].getD i 0 ≤ 99 := fun i hi => getD_in (L := [0, (k : Int), (n : Int)]) (by simp; omega) i hi
    apply wp_cutq4 (X := List ByteArray) (Y := List Int) (Z := Loc) (U := Int) (fun NL KL l' _ W => BI w T r a len cp zs (q + 1 + 1 + 1) g cap n (putNd D 0 (withNd (D 0) NL KL)) (putLoc L 0 l') now W ∧ WL (fun z => 0 ≤ z ∧ z ≤ 99) (D 0).nn true NL KL)
    · intro key
      have KEY : Hid _ := key
      clear key
      refine wp_region_noPanic ?_
      refine wp_region_peel (fun W' => W'.cell? ⟨T, 0, none⟩ = some (.slice (some ⟨g, 0, none⟩) n cap) ∧ W'.cell? ⟨g, 0, none⟩ = some (.int .i64 (D 0).kind) ∧ W'.cell? ⟨g, 1, none⟩ = some (.string (D 0).text) ∧ W'.cell? ⟨g, 2, none⟩ = some (.slice (L 0).nA (D 0).nn (L 0).nc) ∧ W'.cell? ⟨g, 3, none⟩ = some (.slice (L 0).kA (D 0).kn (L 0).kc) ∧ W'.cell? ⟨g, 4, none⟩ = some (.int .i64 (D 0).turn)) _ (by kernel_rfl) rfl (by kernel_rfl) ?_ (fun hHeld => ?_)
      · exact ⟨t0, c0, c1, c2, c3, c4⟩
      simp only [List.pop_toArray, List.dropLast, List.size_toArray, List.length_cons, List.length_nil, Nat.reduceAdd, Nat.reduceSub, List.getElem_toArray, List.getElem_cons_succ, List.getElem_cons_zero]
      refine peel_take (i := 0) (oi := ?oi0) (v := ?v0) (fun _ _ _ _ _ h => h) hHeld ?hi0 (by kernel_rfl) (by kernel_rfl) (by kernel_rfl) ?hw0 ?hy0 ?rest0
      case hi0 =>
        simp only [List.getElem?_toArray, List.getElem?_cons_zero]
        rfl
      case hw0 => rfl
      case hy0 =>
        intro w hSw
        obtain ⟨s0, s1, s2, s3, s4, s5⟩ := hSw
        go_simp
        try with_reducible rfl
      try simp only [Act.put, List.setIfInBounds_toArray, List.set_cons_zero, List.set_cons_succ]
      refine peel_take (i := 1) (oi := ?oi1) (v := ?v1) (fun _ _ _ _ _ h => h) hHeld ?hi1 (by kernel_rfl) (by kernel_rfl) (by kernel_rfl) ?hw1 ?hy1 ?rest1
      case hi1 =>
        simp only [List.getElem?_toArray, List.getElem?_cons_succ, List.getElem?_cons_zero]
        rfl
      case hw1 => rfl
      case hy1 =>
        intro w hSw
        obtain ⟨s0, s1, s2, s3, s4, s5⟩ := hSw
        go_simp
        try with_reducible rfl
      try simp only [Act.put, List.setIfInBounds_toArray, List.set_cons_zero, List.set_cons_succ]
      refine peel_take (i := 2) (oi := ?oi2) (v := ?v2) (fun _ _ _ _ _ h => h) hHeld ?hi2 (by kernel_rfl) (by kernel_rfl) (by kernel_rfl) ?hw2 ?hy2 ?rest2
      case hi2 =>
        simp only [List.getElem?_toArray, List.getElem?_cons_succ, List.getElem?_cons_zero]
        rfl
      case hw2 => rfl
      case hy2 =>
        intro w hSw
        obtain ⟨s0, s1, s2, s3, s4, s5⟩ := hSw
        go_simp
        try with_reducible rfl
      try simp only [Act.put, List.setIfInBounds_toArray, List.set_cons_zero, List.set_cons_succ]
      refine peel_take (i := 3) (oi := ?oi3) (v := ?v3) (fun _ _ _ _ _ h => h) hHeld ?hi3 (by kernel_rfl) (by kernel_rfl) (by kernel_rfl) ?hw3 ?hy3 ?rest3
      case hi3 =>
        simp only [List.getElem?_toArray, List.getElem?_cons_succ, List.getElem?_cons_zero]
        rfl
      case hw3 => rfl
      case hy3 =>
        intro w hSw
        obtain ⟨s0, s1, s2, s3, s4, s5⟩ := hSw
        go_simp
        try with_reducible rfl
      try simp only [Act.put, List.setIfInBounds_toArray, List.set_cons_zero, List.set_cons_succ]
      refine peel_take (i := 4) (oi := ?oi4) (v := ?v4) (fun _ _ _ _ _ h => h) hHeld ?hi4 (by kernel_rfl) (by kernel_rfl) (by kernel_rfl) ?hw4 ?hy4 ?rest4
      case hi4 =>
        simp only [List.getElem?_toArray, List.getElem?_cons_succ, List.getElem?_cons_zero]
        rfl
      case hw4 => rfl
      case hy4 =>
        intro w hSw
        obtain ⟨s0, s1, s2, s3, s4, s5⟩ := hSw
        go_simp
        try with_reducible rfl
      try simp only [Act.put, List.setIfInBounds_toArray, List.set_cons_zero, List.set_cons_succ]
      refine peel_take (i := 5) (oi := ?oi5) (v := ?v5) (fun _ _ _ _ _ h => h) hHeld ?hi5 (by kernel_rfl) (by kernel_rfl) (by kernel_rfl) ?hw5 ?hy5 ?rest5
      case hi5 =>
        simp only [List.getElem?_toArray, List.getElem?_cons_succ, List.getElem?_cons_zero]
        rfl
      case hw5 => rfl
      case hy5 =>
        intro w hSw
        obtain ⟨s0, s1, s2, s3, s4, s5⟩ := hSw
        go_simp
        try with_reducible rfl
      try simp only [Act.put, List.setIfInBounds_toArray, List.set_cons_zero, List.set_cons_succ]
      refine peel_take (i := 6) (oi := ?oi6) (v := ?v6) (fun _ _ _ _ _ h => h) hHeld ?hi6 (by kernel_rfl) (by kernel_rfl) (by kernel_rfl) ?hw6 ?hy6 ?rest6
      case hi6 =>
        simp only [List.getElem?_toArray, List.getElem?_cons_succ, List.getElem?_cons_zero]
        rfl
      case hw6 => rfl
      case hy6 =>
        intro w hSw
        obtain ⟨s0, s1, s2, s3, s4, s5⟩ := hSw
        go_simp
        try with_reducible rfl
      try simp only [Act.put, List.setIfInBounds_toArray, List.set_cons_zero, List.set_cons_succ]
      refine peel_take (i := 7) (oi := ?oi7) (v := ?v7) (fun _ _ _ _ _ h => h) hHeld ?hi7 (by kernel_rfl) (by kernel_rfl) (by kernel_rfl) ?hw7 ?hy7 ?rest7
      case hi7 =>
        simp only [List.getElem?_toArray, List.getElem?_cons_succ, List.getElem?_cons_zero]
        rfl
      case hw7 => rfl
      case hy7 =>
        intro w hSw
        obtain ⟨s0, s1, s2, s3, s4, s5⟩ := hSw
        go_simp
        try with_reducible rfl
      try simp only [Act.put, List.setIfInBounds_toArray, List.set_cons_zero, List.set_cons_succ]
      refine peel_take (i := 8) (oi := ?oi8) (v := ?v8) (fun _ _ _ _ _ h => h) hHeld ?hi8 (by kernel_rfl) (by kernel_rfl) (by kernel_rfl) ?hw8 ?hy8 ?rest8
      case hi8 =>
        simp only [List.getElem?_toArray, List.getElem?_cons_succ, List.getElem?_cons_zero]
        rfl
      case hw8 => rfl
      case hy8 =>
        intro w hSw
        obtain ⟨s0, s1, s2, s3, s4, s5⟩ := hSw
        go_simp
        try with_reducible rfl
      try simp only [Act.put, List.setIfInBounds_toArray, List.set_cons_zero, List.set_cons_succ]
      refine peel_take (i := 9) (oi := ?oi9) (v := ?v9) (fun _ _ _ _ _ h => h) hHeld ?hi9 (by kernel_rfl) (by kernel_rfl) (by kernel_rfl) ?hw9 ?hy9 ?rest9
      case hi9 =>
        simp only [List.getElem?_toArray, List.getElem?_cons_succ, List.getElem?_cons_zero]
        rfl
      case hw9 => rfl
      case hy9 =>
        intro w hSw
        obtain ⟨s0, s1, s2, s3, s4, s5⟩ := hSw
        go_simp
        try with_reducible rfl
      try simp only [Act.put, List.setIfInBounds_toArray, List.set_cons_zero, List.set_cons_succ]
      refine peel_take (i := 10) (oi := ?oi10) (v := ?v10) (fun _ _ _ _ _ h => h) hHeld ?hi10 (by kernel_rfl) (by kernel_rfl) (by kernel_rfl) ?hw10 ?hy10 ?rest10
      case hi10 =>
        simp only [List.getElem?_toArray, List.getElem?_cons_succ, List.getElem?_cons_zero]
        rfl
      case hw10 => rfl
      case hy10 =>
        intro w hSw
        obtain ⟨s0, s1, s2, s3, s4, s5⟩ := hSw
        go_simp
        try with_reducible rfl
      try simp only [Act.put, List.setIfInBounds_toArray, List.set_cons_zero, List.set_cons_succ]
      refine wpAnyH_ready (rs := [11]) (by kernel_rfl) (by simp) ?_
      refine AllReadyH.cons (o := ?o11) ?ho11 (fun K hK => ?st11) AllReadyH.nil
      case ho11 =>
        simp only [List.getElem?_toArray, List.getElem?_cons_succ, List.getElem?_cons_zero]
        rfl
      go_simp
      refine hK.out _ _ ?hs11 (fun hHeld => ?re11)
      case hs11 =>
        have hG5 := (HF.out.drew 1).alloc (.cells #[.int .i64 0, .int .i64 k, .int .i64 n] 3)
        obtain ⟨C0, C1, C2, C3, C4⟩ := hG5.own.cells 0 hn1
        exact ⟨hG5.t.cell 0, C0, C1, C2, C3, C4⟩
      clear hK K
      try simp only [Act.put, List.setIfInBounds_toArray, List.set_cons_zero, List.set_cons_succ]
      refine wpAnyH_ready (rs := [12]) (by kernel_rfl) (by simp) ?_
      refine AllReadyH.cons (o := ?o12) ?ho12 (fun K hK => ?st12) AllReadyH.nil
      case ho12 =>
        simp only [List.getElem?_toArray, List.getElem?_cons_succ, List.getElem?_cons_zero]
        rfl
      go_simp
      refine (num_any ((w3.drewN 1).alloc _) r a len cp zs (q + 1 + 1) ((HF.out.drew 1).alloc _).rd (by omega) w3.heap.size 0 3 3 (fun i => [0, (k : Int), (n : Int)].getD i 0) (by omega) (by omega) (by omega) (new_ints (w3.drewN 1) [0, (k : Int), (n : Int)])).mono ?_
      rintro e w6 ⟨i, hi3, rfl, hg6, hR6⟩
      have hs6 := hnum i hi3
      have hG6 := ((HF.out.drew 1).alloc _).read hg6 hR6
      obtain ⟨C0, C1, C2, C3, C4⟩ := hG6.own.cells 0 hn1
      have hl6 := hG6.t.lt
      have hl6g := hG6.own.lt
      generalize hsd : [0, (k : Int), (n : Int)].getD i 0 = z at hs6
      refine hK.out _ _ ⟨hG6.t.cell 0, C0, C1, C2, C3, C4⟩ (fun hHeld => ?re12)
      clear hK K
      try simp only [Act.put, List.setIfInBounds_toArray, List.set_cons_zero, List.set_cons_succ]
      refine wpAnyH_ready (rs := [13]) (by kernel_rfl) (by simp) ?_
      refine AllReadyH.cons (o := ?o13) ?ho13 (fun K hK => ?st13) AllReadyH.nil
      case ho13 =>
        simp only [List.getElem?_toArray, List.getElem?_cons_succ, List.getElem?_cons_zero]
        rfl
      go_simp
      refine (l2With_any (fun z => 0 ≤ z ∧ z ≤ 99) (D 0) (L 0) ⟨#[122, 122]⟩ z w6 (hG6.own.lists 0 hn1).1 hn8.same (by have := hn8.few; omega) hn8.short (by simp [Nm, nmL]) (fun i hi => by have h1 := hn8.kids i hi; omega) hs6).mono ?_
      rintro e w9 ⟨NL, KL, l', rfl, hmade, hwl⟩
      unfold ndV
      have hG9 := hG6.below hmade.bel
      obtain ⟨E0, E1, E2, E3, E4⟩ := hG9.own.cells 0 hn1
      refine hK.out _ _ ⟨hG9.t.cell 0, E0, E1, E2, E3, E4⟩ (fun hHeld => ?re13)
      clear hK K
      try simp only [Act.put, List.setIfInBounds_toArray, List.set_cons_zero, List.set_cons_succ]
      refine peel_take (i := 14) (oi := ?oi14) (v := ?v14) (fun _ _ _ _ _ h => h) hHeld ?hi14 (by kernel_rfl) (by kernel_rfl) (by kernel_rfl) ?hw14 ?hy14 ?rest14
      case hi14 =>
        simp only [List.getElem?_toArray, List.getElem?_cons_succ, List.getElem?_cons_zero]
        rfl
      case hw14 => rfl
      case hy14 =>
        intro w hSw
        obtain ⟨s0, s1, s2, s3, s4, s5⟩ := hSw
        go_simp
        try with_reducible rfl
      try simp only [Act.put, List.setIfInBounds_toArray, List.set_cons_zero, List.set_cons_succ]
      refine wpAnyH_done (by kernel_rfl) ?_ _
      have F0 := hG9.own.frozen (0 * 5)
      have F1 := hG9.own.frozen (0 * 5 + 1)
      have F2 := hG9.own.frozen (0 * 5 + 2)
      have F3 := hG9.own.frozen (0 * 5 + 3)
      have F4 := hG9.own.frozen (0 * 5 + 4)
      obtain ⟨S0, S1, S2, S3, S4, S5⟩ := hHeld
      show Oper.wp _ _ _ _ _ _
      go_simp
      exact NoPanic.normal (KEY.out NL KL l' z _ ⟨hG9.putNode hn1 (withNd (D 0) NL KL) l' hmade.lies (fun b o x e => by have := hmade.nA b o x e; omega) (fun b o x e => by have := hmade.kA b o x e; omega), hwl⟩)
    · intro NL KL l' z W7 hF7
      have hf : Fair n (putNd D 0 (withNd (D 0) NL KL)) := (hN.fair (Nat.le_refl _)).put (with_fair hf8 (by have := hn8.few; omega) hF7.2)
      have HF7 : Hid _ := hF7.1
      have HE : Hid _ := hF7.1.fin hf
      clear hf hF7 t0 t1 HF c0 c1 c2 c3 c4
      have t0 : W7.cell? ⟨T, 0, none⟩ = some (.slice (some ⟨g, 0, none⟩) (n) cap) := HF7.out.t.cell 0
      have t1 : W7.cell? ⟨T, 1, none⟩ = some (.int .i64 (now)) := HF7.out.t.cell 1
      have rs0 : W7.cell? ⟨w.heap.size, 0, none⟩ = some (.slice none 0 0) := HF7.out.res.cell 0
      have rs1 : W7.cell? ⟨w.heap.size, 1, none⟩ = some (.int .i64 0) := HF7.out.res.cell 1
      have rf0 := HF7.out.res.frozen 0
      have rf1 := HF7.out.res.frozen 1
      clear HF7
      go_wp2
      refine end_world (F := BEnd w r a len cp zs (q + 1 + 1 + 1) g cap (n) _ _ (now)) HE.out ?_
      clear HE
      rintro WF ⟨hr, hgr⟩
      have r0 := hr.cell 0
      have r1 := hr.cell 1
      simp at r0 r1
      exact bodyPost_ret (v := .agg #[.slice (some ⟨g, 0, none⟩) (n) cap, .int .i64 (now)]) (by simp [results, Try.results24, go_sem, r0, r1]) rfl (bentPost_mk (by omega) (by omega) (by omega) hgr)
  have hb3 : (x == 3) = false := by simp; exact hx3
  by_cases hx4 : x = 4
  · subst hx4
    go_wp2_with fail
    clear HK
    apply wp_cutq1 (X := ByteArray) (fun s W => BI w T r a len cp zs (q + 1 + 1 + 1) g cap n (putNd D k { D k with text := s }) L now W ∧ s.size ≤ 10)
    · intro key
      have KEY : Hid _ := key
      clear key
      go_region_with (
        go_at_call 46
        refine (of_any ((w3.drewN 1).alloc _) r a len cp zs (q + 1 + 1) ((HF.out.drew 1).alloc _).rd (by omega) w3.heap.size 0 3 3 (fun i => bent3.getD i ByteArray.empty) (by omega) (by omega) (by omega) (new_strs (w3.drewN 1) bent3)).mono ?_
        rintro e w6 ⟨i, hi3, rfl, hg6, hR6⟩
        have hs6 : (bent3.getD i ByteArray.empty).size ≤ 10 := getD_size rfl i
        have hG6 := ((HF.out.drew 1).alloc _).read hg6 hR6
        have T0 : w6.cell? ⟨T, 0, none⟩ = some (.slice (some ⟨g, 0, none⟩) n cap) := hG6.t.cell 0
        have E1 := (hG6.own.cells k hkn).2.1
        have EF1 := hG6.own.frozen (k * 5 + 1)
        generalize hsd : bent3.getD i ByteArray.empty = s at hs6)
      all_goals exact KEY.out s _ ⟨hG6.put (hG6.own.setText hkn s), hs6⟩
    · intro s W7 hF7
      have hf : Fair n (putNd D k { D k with text := s }) := (hN.fair (Nat.le_refl _)).put ⟨hfk.nn, hfk.kn, hfk.names, hfk.kids, hF7.2, hfk.kind, hfk.turn⟩
      have HF7 : Hid _ := hF7.1
      have HE : Hid _ := hF7.1.fin hf
      clear hf hF7 t0 t1 HF
      have t0 : W7.cell? ⟨T, 0, none⟩ = some (.slice (some ⟨g, 0, none⟩) (n) cap) := HF7.out.t.cell 0
      have t1 : W7.cell? ⟨T, 1, none⟩ = some (.int .i64 (now)) := HF7.out.t.cell 1
      have rs0 : W7.cell? ⟨w.heap.size, 0, none⟩ = some (.slice none 0 0) := HF7.out.res.cell 0
      have rs1 : W7.cell? ⟨w.heap.size, 1, none⟩ = some (.int .i64 0) := HF7.out.res.cell 1
      have rf0 := HF7.out.res.frozen 0
      have rf1 := HF7.out.res.frozen 1
      clear HF7
      go_wp2
      refine end_world (F := BEnd w r a len cp zs (q + 1 + 1 + 1) g cap (n) _ L (now)) HE.out ?_
      clear HE
      rintro WF ⟨hr, hgr⟩
      have r0 := hr.cell 0
      have r1 := hr.cell 1
      simp at r0 r1
      exact bodyPost_ret (v := .agg #[.slice (some ⟨g, 0, none⟩) (n) cap, .int .i64 (now)]) (by simp [results, Try.results24, go_sem, r0, r1]) rfl (bentPost_mk (by omega) (by omega) (by omega) hgr)
  have hb4 : (x == 4) = false := by simp; exact hx4
  by_cases hx5 : x = 5
  · subst hx5
    clear HK
    obtain ⟨cur6, hc6, hs6⟩ := (HF.out.alloc (.cells #[.int .i64 1, .string ⟨#[]⟩, .slice none 0 0, .slice none 0 0, .int .i64 1] 36)).own.blk
    go_wp2_with (at_builtin; refine wpList_append_lies _ rfl _ _ 23 rfl (w.heap.size + 1) 36 i0 _ 5 80 Try.underlying23 hi0 hz0 hz1 hz2 rfl (by decide) (.slice (some ⟨g, 0, none⟩) n cap) n (cur6.toList.take (n * 5)) rfl ((HF.out.alloc _).own.owns hc6 hs6) ⟨w3.heap.size, 0, none⟩ 1 1 (leafCells 1 1) rfl rfl (World.news_of_block (cs := #[.int .i64 1, .string ⟨#[]⟩, .slice none 0 0, .slice none 0 0, .int .i64 1]) (t := 36) (fr := (0, 0)) (heap_alloc_new w3 _)) (by simp [leafCells, Value.oneCell']) (by decide) (by unfold maxLen; omega) (by omega) (by simp; omega) (w3.heap.size + 1) (by simp) ?_)
    intro g' c' w7 hown hgrow hat hlt7
    have q0 : w7.cell? ⟨T, 0, none⟩ = some (.slice (some ⟨g, 0, none⟩) n cap) := (hgrow.cell_far _ (by simp; omega) (by simp [Value.ownBlock]; omega)).trans ((HF.out.alloc _).t.cell 0)
    have q1 : w7.cell? ⟨T, 1, none⟩ = some (.int .i64 now) := (hgrow.cell_far _ (by simp; omega) (by simp [Value.ownBlock]; omega)).trans ((HF.out.alloc _).t.cell 1)
    have q0f : w7.frozen? ⟨T, 0, none⟩ = false := (hgrow.frozen_far _ (by simp; omega) (by simp [Value.ownBlock]; omega)).trans ((HF.out.alloc _).t.frozen 0)
    have hgw : g ≠ w.heap.size := by have := HF.out.base.1; omega
    have rs0 : w7.cell? ⟨w.heap.size, 0, none⟩ = some (.slice none 0 0) := (hgrow.cell_far _ (by simp; omega) (by simp [Value.ownBlock]; omega)).trans ((HF.out.alloc _).res.cell 0)
    have rs1 : w7.cell? ⟨w.heap.size, 1, none⟩ = some (.int .i64 0) := (hgrow.cell_far _ (by simp; omega) (by simp [Value.ownBlock]; omega)).trans ((HF.out.alloc _).res.cell 1)
    have rf0 : w7.frozen? ⟨w.heap.size, 0, none⟩ = false := (hgrow.frozen_far _ (by simp; omega) (by simp [Value.ownBlock]; omega)).trans ((HF.out.alloc _).res.frozen 0)
    have rf1 : w7.frozen? ⟨w.heap.size, 1, none⟩ = false := (hgrow.frozen_far _ (by simp; omega) (by simp [Value.ownBlock]; omega)).trans ((HF.out.alloc _).res.frozen 1)
    have hF7 := (HF.out.alloc _).append hc6 hs6 hown (by simpa [Value.ownBlock] using hgrow) (hat.elim (fun e => Or.inl (by simpa [Value.ownBlock] using e)) (fun e => Or.inr (by rw [e]; simp)))
    have HE : Hid _ := hF7.fin ((hN.fair (Nat.le_refl _)).app (by omega) leaf_fair)
    clear hF7 hown hgrow hat hlt7 t0 t1 HF hc6 hs6
    go_wp2
    refine end_world (F := BEnd w r a len cp zs (q + 1 + 1) g' c' (n + 1) _ _ (now)) HE.out ?_
    clear HE
    rintro WF ⟨hr, hgr⟩
    have r0 := hr.cell 0
    have r1 := hr.cell 1
    simp at r0 r1
    exact bodyPost_ret (v := .agg #[.slice (some ⟨g', 0, none⟩) (n + 1) c', .int .i64 (now)]) (by simp [results, Try.results24, go_sem, r0, r1]) rfl (bentPost_mk (by omega) (by omega) (by omega) hgr)
  have hb5 : (x == 5) = false := by simp; exact hx5
  by_cases hx6 : x = 6
  · subst hx6
    go_wp2_with fail
    clear HK
    refine (num_any (w3.alloc _) r a len cp zs (q + 1 + 1) (HF.out.alloc _).rd (by omega) w3.heap.size 0 2 2 (fun i => [(0 : Int), 1001].getD i 0) (by omega) (by omega) (by omega) (new_ints w3 [0, 1001])).mono ?_
    rintro e w6 ⟨i, hi3, rfl, hg6, hR6⟩
    have hs6 : 0 ≤ [(0 : Int), 1001].getD i 0 ∧ [(0 : Int), 1001].getD i 0 ≤ 1001 := getD_in (by simp) i hi3
    have HF6 : Hid _ := (HF.out.alloc _).read hg6 hR6
    generalize [(0 : Int), 1001].getD i 0 = z at hs6 ⊢
    have HE : Hid _ := (HF6.out.setNow z).fin (hN.fair (Nat.le_refl _))
    clear hg6 hR6 t0 t1 HF
    have t0 : w6.cell? ⟨T, 0, none⟩ = some (.slice (some ⟨g, 0, none⟩) n cap) := HF6.out.t.cell 0
    have t1 : w6.cell? ⟨T, 1, none⟩ = some (.int .i64 now) := HF6.out.t.cell 1
    have tf1 := HF6.out.t.frozen 1
    have rs0 : w6.cell? ⟨w.heap.size, 0, none⟩ = some (.slice none 0 0) := HF6.out.res.cell 0
    have rs1 : w6.cell? ⟨w.heap.size, 1, none⟩ = some (.int .i64 0) := HF6.out.res.cell 1
    have rf0 := HF6.out.res.frozen 0
    have rf1 := HF6.out.res.frozen 1
    clear HF6
    go_wp2
    refine end_world (F := BEnd w r a len cp zs (q + 1 + 1 + 1) g cap (n) D L (z)) HE.out ?_
    clear HE
    rintro WF ⟨hr, hgr⟩
    have r0 := hr.cell 0
    have r1 := hr.cell 1
    simp at r0 r1
    exact bodyPost_ret (v := .agg #[.slice (some ⟨g, 0, none⟩) (n) cap, .int .i64 (z)]) (by simp [results, Try.results24, go_sem, r0, r1]) rfl (bentPost_mk (by omega) (by omega) (by omega) hgr)
  have hb6 : (x == 6) = false := by simp; exact hx6
  have HE : Hid _ := HF.out.fin (hN.fair (Nat.le_refl _))
  have rs0 : w3.cell? ⟨w.heap.size, 0, none⟩ = some (.slice none 0 0) := HF.out.res.cell 0
  have rs1 : w3.cell? ⟨w.heap.size, 1, none⟩ = some (.int .i64 0) := HF.out.res.cell 1
  have rf0 := HF.out.res.frozen 0
  have rf1 := HF.out.res.frozen 1
  clear HF HK hx0 hx1 hx2 hx3 hx4 hx5 hx6
  go_wp2
  refine end_world (F := BEnd w r a len cp zs (q + 1 + 1) g cap (n) D L (now)) HE.out ?_
  clear HE
  rintro WF ⟨hr, hgr⟩
  have r0 := hr.cell 0
  have r1 := hr.cell 1
  simp at r0 r1
  exact bodyPost_ret (v := .agg #[.slice (some ⟨g, 0, none⟩) (n) cap, .int .i64 (now)]) (by simp [results, Try.results24, go_sem, r0, r1]) rfl (bentPost_mk (by omega) (by omega) (by omega) hgr)
end Go.Proofs.Ytbifhfnoogjoeaa
