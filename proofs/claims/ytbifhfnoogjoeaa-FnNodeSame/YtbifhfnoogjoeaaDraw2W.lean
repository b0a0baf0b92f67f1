/-
  What l2With answers: a directory with a name more, in new memory.
-/
import Derived.Test.YtbifhfnoogjoeaaRoom
import Derived.Test.YtbifhfnoogjoeaaCut2
import Derived.Deep.RegionLaw
namespace Go.Proofs.Ytbifhfnoogjoeaa
open Go.RowKit Go.Deep
set_option linter.unusedVariables false

/-- So far: the names are short, the places are right. -/
structure WL (Q : Int → Prop) (k : Nat) (b : Bool) (NL : List ByteArray) (KL : List Int) : Prop where
  len : NL.length = k + (if b = true then 1 else 0)
  same : KL.length = NL.length
  short : ∀ s ∈ NL, Nm s
  right : ∀ z ∈ KL, Q z

theorem WL.one {Q : Int → Prop} {k : Nat} {b : Bool} {NL : List ByteArray} {KL : List Int} (h : WL Q k b NL KL) {s : ByteArray} {z : Int} (hs : Nm s) (hz : Q z) : WL Q (k + 1) b (NL ++ [s]) (KL ++ [z]) :=
  ⟨by rw [List.length_append, h.len]; simp; omega, by rw [List.length_append, List.length_append, h.same]; rfl, fun x hx => by
    rcases List.mem_append.1 hx with hx | hx
    · exact h.short x hx
    · simp at hx; subst hx; exact hs, fun x hx => by
    rcases List.mem_append.1 hx with hx | hx
    · exact h.right x hx
    · simp at hx; subst hx; exact hz⟩

theorem WL.ins {Q : Int → Prop} {k : Nat} {NL : List ByteArray} {KL : List Int} (h : WL Q k false NL KL) {s : ByteArray} {z : Int} (hs : Nm s) (hz : Q z) : WL Q k true (NL ++ [s]) (KL ++ [z]) :=
  ⟨by rw [List.length_append, h.len]; simp, by rw [List.length_append, List.length_append, h.same]; rfl, (h.one hs hz).short, (h.one hs hz).right⟩

/-- The directory that comes of it. -/
def withNd (d : Nd) (NL : List ByteArray) (KL : List Int) : Nd := ⟨d.kind, ByteArray.empty, NL.length, fun i => NL.getD i ByteArray.empty, KL.length, fun i => KL.getD i 0, d.turn⟩

/-- A new address. -/
def New (w w' : World) (a : Option Addr) : Prop := ∀ b o x, a = some ⟨b, o, x⟩ → w.heap.size ≤ b ∧ b < w'.heap.size

/-- It lies in new memory. -/
structure Made (w : World) (d : Nd) (NL : List ByteArray) (KL : List Int) (l' : Loc) (w' : World) : Prop where
  bel : Below w.heap.size w w'
  lies : NdIn w' (withNd d NL KL) l'
  nA : New w w' l'.nA
  kA : New w w' l'.kA
  room : RoomK w' l'.kA KL.length l'.kc
  apart : Apart l'.kA l'.nA

theorem owns_strs {W : World} {B : Nat} {v : Value} {L : List ByteArray} (h : W.ownsRow B 9 1 v L.length (strv L)) : ∃ a c, v = .slice a L.length c ∧ IsStrs W a L.length (fun i => L.getD i ByteArray.empty) ∧ ∀ b o x, a = some ⟨b, o, x⟩ → B ≤ b ∧ b < W.heap.size := by
  rcases h.2 with ⟨rfl, h0⟩ | ⟨g, cap, cur, rfl, hb, hblk, hn, hm, hsz, htake⟩
  · exact ⟨none, 0, by rw [h0], Or.inl h0, fun b o x e => by cases e⟩
  · have hglt : g < W.heap.size := (Array.getElem?_eq_some_iff.1 hblk).1
    refine ⟨some ⟨g, 0, none⟩, cap, rfl, Or.inr ⟨g, 0, rfl, hglt, fun i hi => ?_⟩, fun b o x e => by cases e; exact ⟨hb, hglt⟩⟩
    have hi2 : (strv L)[i]? = some (.string (L.getD i ByteArray.empty)) := by simp [strv, hi]
    rw [← htake, Nat.mul_one, List.getElem?_take_of_lt hi] at hi2
    simp only [World.cell?, hblk]
    simpa using hi2

theorem owns_ints {W : World} {B : Nat} {v : Value} {L : List Int} (h : W.ownsRow B 3 1 v L.length (intv L)) : ∃ a c, v = .slice a L.length c ∧ IsInts W a L.length (fun i => L.getD i 0) ∧ ∀ b o x, a = some ⟨b, o, x⟩ → B ≤ b ∧ b < W.heap.size := by
  rcases h.2 with ⟨rfl, h0⟩ | ⟨g, cap, cur, rfl, hb, hblk, hn, hm, hsz, htake⟩
  · exact ⟨none, 0, by rw [h0], Or.inl h0, fun b o x e => by cases e⟩
  · have hglt : g < W.heap.size := (Array.getElem?_eq_some_iff.1 hblk).1
    refine ⟨some ⟨g, 0, none⟩, cap, rfl, Or.inr ⟨g, 0, rfl, hglt, fun i hi => ?_⟩, fun b o x e => by cases e; exact ⟨hb, hglt⟩⟩
    have hi2 : (intv L)[i]? = some (.int .i64 (L.getD i 0)) := by simp [intv, hi]
    rw [← htake, Nat.mul_one, List.getElem?_take_of_lt hi] at hi2
    simp only [World.cell?, hblk]
    simpa using hi2

/-- What is known at l2With's end, behind the store into its answer. -/
structure WEnd (w : World) (d : Nd) (NL : List ByteArray) (KL : List Int) (l' : Loc) (W : World) : Prop where
  r : Blk W (w.heap.size + 1) (outA d.kind d.turn (.slice l'.nA NL.length l'.nc) (.slice l'.kA KL.length l'.kc)) 36
  made : Made w d NL KL l' W

theorem WI.fin {w : World} {d : Nd} {l : Loc} {NL : List ByteArray} {KL : List Int} {vN vK : Value} {W : World} (h : WI w d l NL KL vN vK W) :
    ∃ l' : Loc, vN = .slice l'.nA NL.length l'.nc ∧ vK = .slice l'.kA KL.length l'.kc ∧
      WEnd w d NL KL l' (((((W.setCell ⟨w.heap.size + 1, 0, none⟩ (.int .i64 d.kind)).setCell ⟨w.heap.size + 1, 1, none⟩ (.string ByteArray.empty)).setCell ⟨w.heap.size + 1, 2, none⟩ (.slice l'.nA NL.length l'.nc)).setCell ⟨w.heap.size + 1, 3, none⟩ (.slice l'.kA KL.length l'.kc)).setCell ⟨w.heap.size + 1, 4, none⟩ (.int .i64 d.turn)) := by
  obtain ⟨a1, c1, e1, h1, f1⟩ := owns_strs h.names
  obtain ⟨a2, c2, e2, h2, f2⟩ := owns_ints h.kids
  refine ⟨⟨a1, c1, a2, c2⟩, e1, e2, ⟨?_, ?_⟩⟩
  · exact ((((h.r.set 0 _).set 1 _).set 2 _).set 3 _).set 4 _
  · have hsz : ∀ (X : World) (i : Nat) (v : Value), (X.setCell ⟨w.heap.size + 1, i, none⟩ v).heap.size = X.heap.size := fun X i v => by simp [World.setCell]
    have hoth : ∀ (X : World) (i : Nat) (v : Value) (b : Nat), w.heap.size + 3 ≤ b → (X.setCell ⟨w.heap.size + 1, i, none⟩ v).heap[b]? = X.heap[b]? := fun X i v b hb => blk_setCell_other _ _ _ _ (by show b ≠ w.heap.size + 1; omega)
    refine ⟨bel_put (bel_put (bel_put (bel_put (bel_put h.bel _ (by omega)) _ (by omega)) _ (by omega)) _ (by omega)) _ (by omega), ⟨?_, ?_⟩, ?_, ?_, ?_, ?_⟩
    · exact h1.of_blocks (by simp only [hsz]; exact Nat.le_refl _) (fun b o x e => by have := (f1 b o x e).1; simp only [hoth _ _ _ b this])
    · exact h2.of_blocks (by simp only [hsz]; exact Nat.le_refl _) (fun b o x e => by have := (f2 b o x e).1; simp only [hoth _ _ _ b this])
    · intro b o x e; have := f1 b o x e; simp only [hsz]; omega
    · intro b o x e; have := f2 b o x e; simp only [hsz]; omega
    · exact (room_owns h.kids e2).of_blocks (fun b o x e => by have := (f2 b o x e).1; simp only [hoth _ _ _ b this])
    · intro b o x b' o' x' e e' hbb
      dsimp only at e e'
      subst e e' hbb e1 e2
      exact h.apart b rfl rfl

set_option maxHeartbeats 4000000 in
theorem l2With_any (Q : Int → Prop) (d : Nd) (l : Loc) (name : ByteArray) (kid : Int) (w : World) (hI : NdIn w d l) (hk : d.kn = d.nn) (hn : d.nn ≤ 1000) (hs : ∀ i, i < d.nn → Nm (d.names i)) (hs' : Nm name) (hq : ∀ i, i < d.nn → Q (d.kids i)) (hq' : Q kid) :
    Calls Try.prog 45 #[ndV d l, .string name, .int .i64 kid] w fun e w' => ∃ NL KL l', e = .returned (ndV (withNd d NL KL) l') ∧ Made w d NL KL l' w' ∧ WL Q d.nn true NL KL := by
  obtain ⟨i0, hi, hz0, hz1, hz2⟩ := info_parts infoStr
  obtain ⟨j0, hj, hy0, hy1, hy2⟩ := info_parts infoInt
  have HK : Hid (d.kn = d.nn) := hk
  clear hk
  unfold ndV
  go_enter Try.func45, Try.ntmps45
  go_wp2
  go_loopw [8, 9] (fun dn i wr => ∃ (k : Nat) (b : Bool) (NL : List ByteArray) (KL : List Int) (vN vK : Value), k ≤ d.nn ∧ i = .int .i64 k ∧ dn = .bool b ∧ WI w d l NL KL vN vK wr ∧ WL Q k b NL KL) (fun _ i _ => d.nn - (intOf i).toNat)
  case atStart =>
    have h3 := new3 w (ndA d l) 36 (outA 0 0 (.slice none 0 0) (.slice none 0 0)) 36 (outA d.kind d.turn (.slice none 0 0) (.slice none 0 0)) 36
    exact ⟨0, false, [], [], .slice none 0 0, .slice none 0 0, Nat.zero_le _, rfl, rfl, ⟨h3.b0, h3.b1, h3.b2, World.ownsRow_nil _ _ _ _, World.ownsRow_nil _ _ _ _, fun b e => by simp [Value.ownBlock] at e, h3.bel, by simp⟩, ⟨rfl, rfl, fun s hs => by simp at hs, fun s hs => by simp at hs⟩⟩
  case round =>
    obtain ⟨k, b, NL, KL, vN, vK, hkn, rfl, rfl, hin, hwl⟩ := hrel
    have hIr := hI.below (Nat.le_refl _) hin.bel
    have hsz := hin.size
    have hl0 : w.heap.size < wr.heap.size := by omega
    have hl2 : w.heap.size + 1 + 1 < wr.heap.size := by omega
    have p2 : wr.cell? ⟨w.heap.size, 2, none⟩ = some (.slice l.nA d.nn l.nc) := hin.p.cell 2
    have p3 : wr.cell? ⟨w.heap.size, 3, none⟩ = some (.slice l.kA d.kn l.kc) := hin.p.cell 3
    have o2 : wr.cell? ⟨w.heap.size + 1 + 1, 2, none⟩ = some vN := hin.o.cell 2
    have o3 : wr.cell? ⟨w.heap.size + 1 + 1, 3, none⟩ = some vK := hin.o.cell 3
    have of2 := hin.o.frozen 2
    have of3 := hin.o.frozen 3
    have hlen : NL.length ≤ 1002 := by have := hwl.len; split at this <;> omega
    have hsame : KL.length ≤ 1002 := by have := hwl.same; omega
    by_cases hlt : k < d.nn
    · obtain ⟨b1, off1, ha1, hlt1, hc1⟩ := hIr.1.at hlt
      obtain ⟨b2, off2, ha2, hlt2, hc2⟩ := hIr.2.at (show k < d.kn by have := HK.out; omega)
      have n0 := hc1 k hlt
      have k0 := hc2 k (by have := HK.out; omega)
      have hki : (k : Int) < (d.nn : Int) := by omega
      have hkk : (k : Int) < (d.kn : Int) := by have := HK.out; omega
      rw [ha1] at p2
      rw [ha2] at p3
      rw [ha1, ha2]
      cases b with
      | true =>
        have HX : Hid (WI w d l NL KL vN vK wr ∧ WL Q k true NL KL) := ⟨hin, hwl⟩
        clear hc1 hc2 hIr hin hwl
        go_wp2_with fail
        clear p2 p3 o2 o3 of2 of3 n0 k0 hl0 hl2 hsz hlen hsame
        obtain ⟨hXi, hXl⟩ := HX.out
        have hlenX : NL.length ≤ 1003 := by have := hXl.len; split at this <;> omega
        have hlenK : KL.length ≤ 1003 := by have := hXl.same; omega
        have hszX := hXi.size
        have hm0 : w.heap.size < wr.heap.size := by omega
        have hm2 : w.heap.size + 1 + 1 < wr.heap.size := by omega
        obtain ⟨b3, off3, ha3, hlt3, hc3⟩ := (hI.below (Nat.le_refl _) hXi.bel).1.at hlt
        rw [ha1] at ha3
        cases ha3
        have n1 := hc3 k hlt
        have P2 : wr.cell? ⟨w.heap.size, 2, none⟩ = some (.slice (some ⟨b1, off1, none⟩) d.nn l.nc) := by rw [← ha1]; exact hXi.p.cell 2
        have O2 : wr.cell? ⟨w.heap.size + 1 + 1, 2, none⟩ = some vN := hXi.o.cell 2
        have OF2 := hXi.o.frozen 2
        have hX := hXi.drew 1
        have hob := own_ge hX.names
        clear hXi hXl hc3
        apply wp_cut2 (X := Nat) (Y := Nat) (fun g cap W => WI w d l (NL ++ [d.names k]) KL (.slice (some ⟨g, 0, none⟩) (NL.length + 1) cap) vK W)
        · intro key
          have KEY : Hid _ := key
          clear key
          go_region_law (
            refine step_append_lies _ (by rfl) _ _ _ (by rfl) (w.heap.size + 3) 9 i0 (.string ByteArray.empty) 1 16 Try.underlying33 hi hz0 hz1 hz2 rfl (by decide) vN NL.length (strv NL) (by rfl) (hX.alloc _).names ⟨wr.heap.size, 0, none⟩ 1 1 (strv [d.names k]) (by rfl) (by rfl) (strv_at (wr.drewN 1) _) (strv_one _) (by decide) (by unfold maxLen; omega) (by omega) (by simp; omega) (wr.heap.size + 1) (by simp) ?_
            intro g cap w1 hown hgrow hat hlt
            have hq2 := (hX.alloc (.cells #[.string (d.names k)] 9)).o.of_block (hgrow.block _ (by simp; omega) (fun e => by have := hob _ e.symm; omega))
            have q2 : w1.cell? ⟨w.heap.size + 1 + 1, 2, none⟩ = some vN := hq2.cell 2
            have q2f := hq2.frozen 2)
          all_goals exact KEY.out g cap _ ((hX.alloc _).nameApp hown hgrow (by simpa using hat))
        · intro g cap W hF
          clear hX hob P2 O2 OF2 n1 hm0 hm2 hszX
          have hszX := hF.size
          have hm0 : w.heap.size < W.heap.size := by omega
          have hm2 : w.heap.size + 1 + 1 < W.heap.size := by omega
          obtain ⟨b3, off3, ha3, hlt3, hc3⟩ := (hI.below (Nat.le_refl _) hF.bel).2.at (show k < d.kn by have := HK.out; omega)
          rw [ha2] at ha3
          cases ha3
          have k1 := hc3 k (by have := HK.out; omega)
          have P3 : W.cell? ⟨w.heap.size, 3, none⟩ = some (.slice (some ⟨b2, off2, none⟩) d.kn l.kc) := by rw [← ha2]; exact hF.p.cell 3
          have O3 : W.cell? ⟨w.heap.size + 1 + 1, 3, none⟩ = some vK := hF.o.cell 3
          have OF3 := hF.o.frozen 3
          have hX := hF.drew 1
          have hob := own_ge hX.kids
          clear hF hc3
          go_wp2_with fail
          apply wp_cutq2 (X := Nat) (Y := Nat) (fun g' cap' W' => WI w d l (NL ++ [d.names k]) (KL ++ [d.kids k]) (.slice (some ⟨g, 0, none⟩) (NL.length + 1) cap) (.slice (some ⟨g', 0, none⟩) (KL.length + 1) cap') W')
          · intro key
            have KEY : Hid _ := key
            clear key
            go_region_law (
              refine step_append_lies _ (by rfl) _ _ _ (by rfl) (w.heap.size + 3) 3 j0 (.int .i64 0) 1 8 Try.underlying34 hj hy0 hy1 hy2 rfl (by decide) vK KL.length (intv KL) (by rfl) (hX.alloc _).kids ⟨W.heap.size, 0, none⟩ 1 1 (intv [d.kids k]) (by rfl) (by rfl) (intv_at (W.drewN 1) _) (intv_one _) (by decide) (by unfold maxLen; omega) (by omega) (by simp; omega) (W.heap.size + 1) (by simp) ?_
              intro g' cap' w1 hown hgrow hat hlt
              have hq3 := (hX.alloc (.cells #[.int .i64 (d.kids k)] 3)).o.of_block (hgrow.block _ (by simp; omega) (fun e => by have := hob _ e.symm; omega))
              have q3 : w1.cell? ⟨w.heap.size + 1 + 1, 3, none⟩ = some vK := hq3.cell 3
              have q3f := hq3.frozen 3)
            all_goals exact KEY.out g' cap' _ ((hX.alloc _).kidApp hown hgrow (by simpa using hat))
          · intro g' cap' W2 hF2
            have HF2 : Hid _ := hF2
            clear hF2 hX hob P3 O3 OF3 k1
            simp only [Exit.inBlock, Exit.then]
            go_wp2
            go_roundw
            case rel => exact ⟨k + 1, true, _, _, _, _, by omega, by go_num, rfl, HF2.out, HX.out.2.one (hs k hlt) (hq k hlt)⟩
            case measure => simp [intOf]; omega
      | false =>
        cases hgt : (Op.bytesLess (d.names k).toList name.toList || (d.names k).toList == name.toList) with
        | true =>
          have HX : Hid (WI w d l NL KL vN vK wr ∧ WL Q k false NL KL) := ⟨hin, hwl⟩
          clear hc1 hc2 hIr hin hwl
          go_wp2_with fail
          clear p2 p3 o2 o3 of2 of3 n0 k0 hl0 hl2 hsz hlen hsame hgt
          obtain ⟨hXi, hXl⟩ := HX.out
          have hlenX : NL.length ≤ 1003 := by have := hXl.len; split at this <;> omega
          have hlenK : KL.length ≤ 1003 := by have := hXl.same; omega
          have hszX := hXi.size
          have hm0 : w.heap.size < wr.heap.size := by omega
          have hm2 : w.heap.size + 1 + 1 < wr.heap.size := by omega
          obtain ⟨b3, off3, ha3, hlt3, hc3⟩ := (hI.below (Nat.le_refl _) hXi.bel).1.at hlt
          rw [ha1] at ha3
          cases ha3
          have n1 := hc3 k hlt
          have P2 : wr.cell? ⟨w.heap.size, 2, none⟩ = some (.slice (some ⟨b1, off1, none⟩) d.nn l.nc) := by rw [← ha1]; exact hXi.p.cell 2
          have O2 : wr.cell? ⟨w.heap.size + 1 + 1, 2, none⟩ = some vN := hXi.o.cell 2
          have OF2 := hXi.o.frozen 2
          have hX := hXi.drew 1
          have hob := own_ge hX.names
          clear hXi hXl hc3
          apply wp_cut2 (X := Nat) (Y := Nat) (fun g cap W => WI w d l (NL ++ [d.names k]) KL (.slice (some ⟨g, 0, none⟩) (NL.length + 1) cap) vK W)
          · intro key
            have KEY : Hid _ := key
            clear key
            go_region_law (
              refine step_append_lies _ (by rfl) _ _ _ (by rfl) (w.heap.size + 3) 9 i0 (.string ByteArray.empty) 1 16 Try.underlying33 hi hz0 hz1 hz2 rfl (by decide) vN NL.length (strv NL) (by rfl) (hX.alloc _).names ⟨wr.heap.size, 0, none⟩ 1 1 (strv [d.names k]) (by rfl) (by rfl) (strv_at (wr.drewN 1) _) (strv_one _) (by decide) (by unfold maxLen; omega) (by omega) (by simp; omega) (wr.heap.size + 1) (by simp) ?_
              intro g cap w1 hown hgrow hat hlt
              have hq2 := (hX.alloc (.cells #[.string (d.names k)] 9)).o.of_block (hgrow.block _ (by simp; omega) (fun e => by have := hob _ e.symm; omega))
              have q2 : w1.cell? ⟨w.heap.size + 1 + 1, 2, none⟩ = some vN := hq2.cell 2
              have q2f := hq2.frozen 2)
            all_goals exact KEY.out g cap _ ((hX.alloc _).nameApp hown hgrow (by simpa using hat))
          · intro g cap W hF
            clear hX hob P2 O2 OF2 n1 hm0 hm2 hszX
            have hszX := hF.size
            have hm0 : w.heap.size < W.heap.size := by omega
            have hm2 : w.heap.size + 1 + 1 < W.heap.size := by omega
            obtain ⟨b3, off3, ha3, hlt3, hc3⟩ := (hI.below (Nat.le_refl _) hF.bel).2.at (show k < d.kn by have := HK.out; omega)
            rw [ha2] at ha3
            cases ha3
            have k1 := hc3 k (by have := HK.out; omega)
            have P3 : W.cell? ⟨w.heap.size, 3, none⟩ = some (.slice (some ⟨b2, off2, none⟩) d.kn l.kc) := by rw [← ha2]; exact hF.p.cell 3
            have O3 : W.cell? ⟨w.heap.size + 1 + 1, 3, none⟩ = some vK := hF.o.cell 3
            have OF3 := hF.o.frozen 3
            have hX := hF.drew 1
            have hob := own_ge hX.kids
            clear hF hc3
            go_wp2_with fail
            apply wp_cutq2 (X := Nat) (Y := Nat) (fun g' cap' W' => WI w d l (NL ++ [d.names k]) (KL ++ [d.kids k]) (.slice (some ⟨g, 0, none⟩) (NL.length + 1) cap) (.slice (some ⟨g', 0, none⟩) (KL.length + 1) cap') W')
            · intro key
              have KEY : Hid _ := key
              clear key
              go_region_law (
                refine step_append_lies _ (by rfl) _ _ _ (by rfl) (w.heap.size + 3) 3 j0 (.int .i64 0) 1 8 Try.underlying34 hj hy0 hy1 hy2 rfl (by decide) vK KL.length (intv KL) (by rfl) (hX.alloc _).kids ⟨W.heap.size, 0, none⟩ 1 1 (intv [d.kids k]) (by rfl) (by rfl) (intv_at (W.drewN 1) _) (intv_one _) (by decide) (by unfold maxLen; omega) (by omega) (by simp; omega) (W.heap.size + 1) (by simp) ?_
                intro g' cap' w1 hown hgrow hat hlt
                have hq3 := (hX.alloc (.cells #[.int .i64 (d.kids k)] 3)).o.of_block (hgrow.block _ (by simp; omega) (fun e => by have := hob _ e.symm; omega))
                have q3 : w1.cell? ⟨w.heap.size + 1 + 1, 3, none⟩ = some vK := hq3.cell 3
                have q3f := hq3.frozen 3)
              all_goals exact KEY.out g' cap' _ ((hX.alloc _).kidApp hown hgrow (by simpa using hat))
            · intro g' cap' W2 hF2
              have HF2 : Hid _ := hF2
              clear hF2 hX hob P3 O3 OF3 k1
              simp only [Exit.inBlock, Exit.then]
              go_wp2
              go_roundw
              case rel => exact ⟨k + 1, false, _, _, _, _, by omega, by go_num, rfl, HF2.out, HX.out.2.one (hs k hlt) (hq k hlt)⟩
              case measure => simp [intOf]; omega
        | false =>
          have HL := hwl.ins hs' hq'
          clear hc1 hc2 hIr
          have hob := own_ge hin.names
          have hobk := own_ge hin.kids
          go_wp2_with (at_builtin; refine wpList_append_lies _ rfl _ _ 33 rfl (w.heap.size + 3) 9 i0 (.string ByteArray.empty) 1 16 Try.underlying33 hi hz0 hz1 hz2 rfl (by decide) vN NL.length (strv NL) rfl (hin.alloc _).names ⟨wr.heap.size, 0, none⟩ 1 1 (strv [name]) rfl rfl (strv_at wr name) (strv_one _) (by decide) (by unfold maxLen; omega) (by omega) (by simp; omega) (wr.heap.size + 1) (by simp) ?_)
          intro gn cn w1 hown hgrow hat hltg
          have hq2 := (hin.alloc (.cells #[.string name] 9)).o.of_block (hgrow.block _ (by simp; omega) (fun e => by have := hob _ e.symm; omega))
          have q2 : w1.cell? ⟨w.heap.size + 1 + 1, 2, none⟩ = some vN := hq2.cell 2
          have q3 : w1.cell? ⟨w.heap.size + 1 + 1, 3, none⟩ = some vK := hq2.cell 3
          have q2f := hq2.frozen 2
          have q3f := hq2.frozen 3
          have hin1 : WI w d l (NL ++ [name]) KL (.slice (some ⟨gn, 0, none⟩) (NL.length + 1) cn) vK (w1.setCell ⟨w.heap.size + 1 + 1, 2, none⟩ (.slice (some ⟨gn, 0, none⟩) (NL.length + 1) cn)) := (hin.alloc _).nameApp hown hgrow (by simpa using hat)
          have hs1 : w.heap.size + 3 ≤ w1.heap.size := by have := hin1.size; simpa [World.setCell] using this
          have hm1 : w.heap.size + 1 + 1 < w1.heap.size := by omega
          have hob1 := own_ge hin1.kids
          clear hown hgrow hat hltg hq2 hob hobk
          go_wp2_with (at_builtin; refine wpList_append_lies _ rfl _ _ 34 rfl (w.heap.size + 3) 3 j0 (.int .i64 0) 1 8 Try.underlying34 hj hy0 hy1 hy2 rfl (by decide) vK KL.length (intv KL) rfl (hin1.alloc _).kids ⟨w1.heap.size, 0, none⟩ 1 1 (intv [kid]) rfl rfl ?c1 (intv_one _) (by decide) (by unfold maxLen; omega) (by omega) (by simp [World.setCell]; omega) (w1.heap.size + 1) (by simp [World.setCell]) ?_)
          case c1 =>
            have := intv_at (w1.setCell ⟨w.heap.size + 1 + 1, 2, none⟩ (.slice (some ⟨gn, 0, none⟩) (NL.length + 1) cn)) kid
            rwa [show (w1.setCell ⟨w.heap.size + 1 + 1, 2, none⟩ (.slice (some ⟨gn, 0, none⟩) (NL.length + 1) cn)).heap.size = w1.heap.size by simp [World.setCell]] at this
          intro gk ck w3 hown hgrow hat hltg
          have hq3 := (hin1.alloc (.cells #[.int .i64 kid] 3)).o.of_block (hgrow.block _ (by simp [World.setCell]; omega) (fun e => by have := hob1 _ e.symm; omega))
          have r3 : w3.cell? ⟨w.heap.size + 1 + 1, 3, none⟩ = some vK := hq3.cell 3
          have r3f := hq3.frozen 3
          have hin2 : WI w d l (NL ++ [name]) (KL ++ [kid]) (.slice (some ⟨gn, 0, none⟩) (NL.length + 1) cn) (.slice (some ⟨gk, 0, none⟩) (KL.length + 1) ck) (w3.setCell ⟨w.heap.size + 1 + 1, 3, none⟩ (.slice (some ⟨gk, 0, none⟩) (KL.length + 1) ck)) := (hin1.alloc _).kidApp hown hgrow (by simpa [World.setCell] using hat)
          clear hown hgrow hat hltg hq3 hob1 hin1 q2 q3 q2f q3f hs1 hm1
          clear hin hwl o2 o3 of2 of3
          obtain ⟨NL2, hNL2⟩ : ∃ x, x = NL ++ [name] := ⟨_, rfl⟩
          obtain ⟨KL2, hKL2⟩ : ∃ x, x = KL ++ [kid] := ⟨_, rfl⟩
          rw [← hNL2, ← hKL2] at hin2 HL
          clear hNL2 hKL2
          have HX0 : Hid (WL Q k true NL2 KL2) := HL
          clear HL
          go_wp2_with fail
          generalize (Value.slice (some ⟨gn, 0, none⟩) (NL.length + 1) cn) = vN2 at *
          obtain ⟨W6, hW6⟩ : ∃ X, X = w3.setCell ⟨w.heap.size + 1 + 1, 3, none⟩ (.slice (some ⟨gk, 0, none⟩) (KL.length + 1) ck) := ⟨_, rfl⟩
          rw [← hW6] at hin2 ⊢
          clear hW6 r3 r3f
          generalize (Value.slice (some ⟨gk, 0, none⟩) (KL.length + 1) ck) = vK2 at *
          have HX : Hid (WI w d l NL2 KL2 vN2 vK2 W6 ∧ WL Q k true NL2 KL2) := ⟨hin2, HX0.out⟩
          clear hin2 HX0 p2 p3 n0 k0 hl0 hl2 hsz hlen hsame hgt
          obtain ⟨hXi, hXl⟩ := HX.out
          have hlenX : NL2.length ≤ 1003 := by have := hXl.len; split at this <;> omega
          have hlenK : KL2.length ≤ 1003 := by have := hXl.same; omega
          have hszX := hXi.size
          have hm0 : w.heap.size < W6.heap.size := by omega
          have hm2 : w.heap.size + 1 + 1 < W6.heap.size := by omega
          obtain ⟨b3, off3, ha3, hlt3, hc3⟩ := (hI.below (Nat.le_refl _) hXi.bel).1.at hlt
          rw [ha1] at ha3
          cases ha3
          have n1 := hc3 k hlt
          have P2 : W6.cell? ⟨w.heap.size, 2, none⟩ = some (.slice (some ⟨b1, off1, none⟩) d.nn l.nc) := by rw [← ha1]; exact hXi.p.cell 2
          have O2 : W6.cell? ⟨w.heap.size + 1 + 1, 2, none⟩ = some vN2 := hXi.o.cell 2
          have OF2 := hXi.o.frozen 2
          have hX := hXi.drew 1
          have hob := own_ge hX.names
          clear hXi hXl hc3
          apply wp_cut2 (X := Nat) (Y := Nat) (fun g cap W => WI w d l (NL2 ++ [d.names k]) KL2 (.slice (some ⟨g, 0, none⟩) (NL2.length + 1) cap) vK2 W)
          · intro key
            have KEY : Hid _ := key
            clear key
            go_region_law (
              refine step_append_lies _ (by rfl) _ _ _ (by rfl) (w.heap.size + 3) 9 i0 (.string ByteArray.empty) 1 16 Try.underlying33 hi hz0 hz1 hz2 rfl (by decide) vN2 NL2.length (strv NL2) (by rfl) (hX.alloc _).names ⟨W6.heap.size, 0, none⟩ 1 1 (strv [d.names k]) (by rfl) (by rfl) (strv_at (W6.drewN 1) _) (strv_one _) (by decide) (by unfold maxLen; omega) (by omega) (by simp; omega) (W6.heap.size + 1) (by simp) ?_
              intro g cap w1 hown hgrow hat hlt
              have hq2 := (hX.alloc (.cells #[.string (d.names k)] 9)).o.of_block (hgrow.block _ (by simp; omega) (fun e => by have := hob _ e.symm; omega))
              have q2 : w1.cell? ⟨w.heap.size + 1 + 1, 2, none⟩ = some vN2 := hq2.cell 2
              have q2f := hq2.frozen 2)
            all_goals exact KEY.out g cap _ ((hX.alloc _).nameApp hown hgrow (by simpa using hat))
          · intro g cap W hF
            clear hX hob P2 O2 OF2 n1 hm0 hm2 hszX
            have hszX := hF.size
            have hm0 : w.heap.size < W.heap.size := by omega
            have hm2 : w.heap.size + 1 + 1 < W.heap.size := by omega
            obtain ⟨b3, off3, ha3, hlt3, hc3⟩ := (hI.below (Nat.le_refl _) hF.bel).2.at (show k < d.kn by have := HK.out; omega)
            rw [ha2] at ha3
            cases ha3
            have k1 := hc3 k (by have := HK.out; omega)
            have P3 : W.cell? ⟨w.heap.size, 3, none⟩ = some (.slice (some ⟨b2, off2, none⟩) d.kn l.kc) := by rw [← ha2]; exact hF.p.cell 3
            have O3 : W.cell? ⟨w.heap.size + 1 + 1, 3, none⟩ = some vK2 := hF.o.cell 3
            have OF3 := hF.o.frozen 3
            have hX := hF.drew 1
            have hob := own_ge hX.kids
            clear hF hc3
            go_wp2_with fail
            apply wp_cutq2 (X := Nat) (Y := Nat) (fun g' cap' W' => WI w d l (NL2 ++ [d.names k]) (KL2 ++ [d.kids k]) (.slice (some ⟨g, 0, none⟩) (NL2.length + 1) cap) (.slice (some ⟨g', 0, none⟩) (KL2.length + 1) cap') W')
            · intro key
              have KEY : Hid _ := key
              clear key
              go_region_law (
                refine step_append_lies _ (by rfl) _ _ _ (by rfl) (w.heap.size + 3) 3 j0 (.int .i64 0) 1 8 Try.underlying34 hj hy0 hy1 hy2 rfl (by decide) vK2 KL2.length (intv KL2) (by rfl) (hX.alloc _).kids ⟨W.heap.size, 0, none⟩ 1 1 (intv [d.kids k]) (by rfl) (by rfl) (intv_at (W.drewN 1) _) (intv_one _) (by decide) (by unfold maxLen; omega) (by omega) (by simp; omega) (W.heap.size + 1) (by simp) ?_
                intro g' cap' w1 hown hgrow hat hlt
                have hq3 := (hX.alloc (.cells #[.int .i64 (d.kids k)] 3)).o.of_block (hgrow.block _ (by simp; omega) (fun e => by have := hob _ e.symm; omega))
                have q3 : w1.cell? ⟨w.heap.size + 1 + 1, 3, none⟩ = some vK2 := hq3.cell 3
                have q3f := hq3.frozen 3)
              all_goals exact KEY.out g' cap' _ ((hX.alloc _).kidApp hown hgrow (by simpa using hat))
            · intro g' cap' W2 hF2
              have HF2 : Hid _ := hF2
              clear hF2 hX hob P3 O3 OF3 k1
              simp only [Exit.inBlock, Exit.then]
              go_wp2
              go_roundw
              case rel => exact ⟨k + 1, true, _, _, _, _, by omega, by go_num, rfl, HF2.out, HX.out.2.one (hs k hlt) (hq k hlt)⟩
              case measure => simp [intOf]; omega
    · have hke : k = d.nn := by omega
      have hwl' : WL Q d.nn b NL KL := hke ▸ hwl
      clear hwl hke hIr
      cases b with
      | true =>
        have HX : Hid (WI w d l NL KL vN vK wr ∧ WL Q d.nn true NL KL) := ⟨hin, hwl'⟩
        clear hin hwl' p3 o2 o3 of2 of3 hsame
        obtain ⟨l', rfl, rfl, hend⟩ := HX.out.1.fin
        have HE : Hid _ := hend
        have c0 := HX.out.1.o.cell 0
        have c1 := HX.out.1.o.cell 1
        have c2 := HX.out.1.o.cell 2
        have c3 := HX.out.1.o.cell 3
        have c4 := HX.out.1.o.cell 4
        have g0 := HX.out.1.r.cell 0
        have g1 := HX.out.1.r.cell 1
        have g2 := HX.out.1.r.cell 2
        have g3 := HX.out.1.r.cell 3
        have g4 := HX.out.1.r.cell 4
        have f0 := HX.out.1.r.frozen 0
        have f1 := HX.out.1.r.frozen 1
        have f2 := HX.out.1.r.frozen 2
        have f3 := HX.out.1.r.frozen 3
        have f4 := HX.out.1.r.frozen 4
        simp only [outA] at c0 c1 c2 c3 c4 g0 g1 g2 g3 g4
        have HXL : Hid (WL Q d.nn true NL KL) := HX.out.2
        clear hend HX
        go_wp2
        refine end_world (F := WEnd w d NL KL l') HE.out ?_
        clear HE c0 c1 c2 c3 c4 g0 g1 g2 g3 g4 f0 f1 f2 f3 f4
        rintro WF ⟨hr, hm⟩
        have r0 := hr.cell 0
        have r1 := hr.cell 1
        have r2 := hr.cell 2
        have r3 := hr.cell 3
        have r4 := hr.cell 4
        simp only [outA] at r0 r1 r2 r3 r4
        exact bodyPost_ret (v := .agg (outA d.kind d.turn (.slice l'.nA (NL).length l'.nc) (.slice l'.kA (KL).length l'.kc))) (by simp [results, Try.results45, go_sem, r0, r1, r2, r3, r4, outA]) rfl ⟨NL, KL, l', rfl, hm, HXL.out⟩
      | false =>
        have HL := hwl'.ins hs' hq'
        have hob := own_ge hin.names
        have hobk := own_ge hin.kids
        go_wp2_with (at_builtin; refine wpList_append_lies _ rfl _ _ 33 rfl (w.heap.size + 3) 9 i0 (.string ByteArray.empty) 1 16 Try.underlying33 hi hz0 hz1 hz2 rfl (by decide) vN NL.length (strv NL) rfl (hin.alloc _).names ⟨wr.heap.size, 0, none⟩ 1 1 (strv [name]) rfl rfl (strv_at wr name) (strv_one _) (by decide) (by unfold maxLen; omega) (by omega) (by simp; omega) (wr.heap.size + 1) (by simp) ?_)
        intro gn cn w1 hown hgrow hat hltg
        have hq2 := (hin.alloc (.cells #[.string name] 9)).o.of_block (hgrow.block _ (by simp; omega) (fun e => by have := hob _ e.symm; omega))
        have q2 : w1.cell? ⟨w.heap.size + 1 + 1, 2, none⟩ = some vN := hq2.cell 2
        have q3 : w1.cell? ⟨w.heap.size + 1 + 1, 3, none⟩ = some vK := hq2.cell 3
        have q2f := hq2.frozen 2
        have q3f := hq2.frozen 3
        have hin1 : WI w d l (NL ++ [name]) KL (.slice (some ⟨gn, 0, none⟩) (NL.length + 1) cn) vK (w1.setCell ⟨w.heap.size + 1 + 1, 2, none⟩ (.slice (some ⟨gn, 0, none⟩) (NL.length + 1) cn)) := (hin.alloc _).nameApp hown hgrow (by simpa using hat)
        have hs1 : w.heap.size + 3 ≤ w1.heap.size := by have := hin1.size; simpa [World.setCell] using this
        have hm1 : w.heap.size + 1 + 1 < w1.heap.size := by omega
        have hob1 := own_ge hin1.kids
        clear hown hgrow hat hltg hq2 hob hobk
        go_wp2_with (at_builtin; refine wpList_append_lies _ rfl _ _ 34 rfl (w.heap.size + 3) 3 j0 (.int .i64 0) 1 8 Try.underlying34 hj hy0 hy1 hy2 rfl (by decide) vK KL.length (intv KL) rfl (hin1.alloc _).kids ⟨w1.heap.size, 0, none⟩ 1 1 (intv [kid]) rfl rfl ?c1 (intv_one _) (by decide) (by unfold maxLen; omega) (by omega) (by simp [World.setCell]; omega) (w1.heap.size + 1) (by simp [World.setCell]) ?_)
        case c1 =>
          have := intv_at (w1.setCell ⟨w.heap.size + 1 + 1, 2, none⟩ (.slice (some ⟨gn, 0, none⟩) (NL.length + 1) cn)) kid
          rwa [show (w1.setCell ⟨w.heap.size + 1 + 1, 2, none⟩ (.slice (some ⟨gn, 0, none⟩) (NL.length + 1) cn)).heap.size = w1.heap.size by simp [World.setCell]] at this
        intro gk ck w3 hown hgrow hat hltg
        have hq3 := (hin1.alloc (.cells #[.int .i64 kid] 3)).o.of_block (hgrow.block _ (by simp [World.setCell]; omega) (fun e => by have := hob1 _ e.symm; omega))
        have r3 : w3.cell? ⟨w.heap.size + 1 + 1, 3, none⟩ = some vK := hq3.cell 3
        have r3f := hq3.frozen 3
        have hin2 : WI w d l (NL ++ [name]) (KL ++ [kid]) (.slice (some ⟨gn, 0, none⟩) (NL.length + 1) cn) (.slice (some ⟨gk, 0, none⟩) (KL.length + 1) ck) (w3.setCell ⟨w.heap.size + 1 + 1, 3, none⟩ (.slice (some ⟨gk, 0, none⟩) (KL.length + 1) ck)) := (hin1.alloc _).kidApp hown hgrow (by simpa [World.setCell] using hat)
        have hr3 := (hin1.alloc (.cells #[.int .i64 kid] 3)).r.of_block (hgrow.block _ (by simp [World.setCell]; omega) (fun e => by have := hob1 _ e.symm; omega))
        clear hown hgrow hat hltg hob1 hin1 q2 q3 q2f q3f hs1 hm1
        clear hin hwl' o2 o3 of2 of3
        obtain ⟨NL2, hNL2⟩ : ∃ x, x = NL ++ [name] := ⟨_, rfl⟩
        obtain ⟨KL2, hKL2⟩ : ∃ x, x = KL ++ [kid] := ⟨_, rfl⟩
        rw [← hNL2, ← hKL2] at hin2 HL
        clear hNL2 hKL2
        obtain ⟨l', e1, e2, hend⟩ := hin2.fin
        rw [← e1, ← e2] at hend
        have HE : Hid _ := hend
        have c0 := hq3.cell 0
        have c1 := hq3.cell 1
        have c2 := hq3.cell 2
        have c4 := hq3.cell 4
        have g0 := hr3.cell 0
        have g1 := hr3.cell 1
        have g2 := hr3.cell 2
        have g3 := hr3.cell 3
        have g4 := hr3.cell 4
        have f0 := hr3.frozen 0
        have f1 := hr3.frozen 1
        have f2 := hr3.frozen 2
        have f3 := hr3.frozen 3
        have f4 := hr3.frozen 4
        simp only [outA] at c0 c1 c2 c4 g0 g1 g2 g3 g4
        have HXL : Hid (WL Q d.nn true NL2 KL2) := HL
        clear hend hin2 HL hq3 hr3 e1 e2
        go_wp2
        refine end_world (F := WEnd w d NL2 KL2 l') HE.out ?_
        clear HE c0 c1 c2 c4 g0 g1 g2 g3 g4 f0 f1 f2 f3 f4
        rintro WF ⟨hr, hm⟩
        have r0 := hr.cell 0
        have r1 := hr.cell 1
        have r2 := hr.cell 2
        have r3 := hr.cell 3
        have r4 := hr.cell 4
        simp only [outA] at r0 r1 r2 r3 r4
        exact bodyPost_ret (v := .agg (outA d.kind d.turn (.slice l'.nA NL2.length l'.nc) (.slice l'.kA KL2.length l'.kc))) (by simp [results, Try.results45, go_sem, r0, r1, r2, r3, r4, outA]) rfl ⟨NL2, KL2, l', rfl, hm, HXL.out⟩
end Go.Proofs.Ytbifhfnoogjoeaa
