/-
  For every code, FnTreeSame answers true: of two drawn trees, and of two drawn places, the program says just when they are one; one that is turned is another; and the code reads afterwards as it read before. No condition.
-/
import Derived.Test.YtbifhfnoogjoeaaFnTreeSameB2
import Derived.Deep.RegionWith
import Derived.BigRegion

/-
  What DrawNodeSame gives, walked.
-/
namespace Go.Proofs.Ytbifhfnoogjoeaa
open Go.RowKit Go.Deep
set_option linter.unusedVariables false

theorem NdAt.mono {W : World} {B M M' X : Nat} {d : Nd} {l : Loc} (h : NdAt W B M X d l) (hM : M ≤ M') (hs : M' ≤ W.heap.size) : NdAt W B M' X d l :=
  ⟨h.blk, h.lies, ⟨h.x.1, by have := h.x.2; omega⟩, fun b o y e => by have := h.ns b o y e; omega, fun b o y e => by have := h.ks b o y e; omega, hs⟩

theorem DN.start {w w1 w2 : World} {a : Option Addr} {len cp : Nat} {zs : Nat → Int} {q g c n : Nat} {D : Nat → Nd} {L : Nat → Loc} {now : Int} (h1 : Below (w.heap.size + 2) ((w.alloc (.cells zeroNd 36)).alloc (.cells zeroNd 36)) w1) (hl : w.heap.size + 3 ≤ w1.heap.size)
    (h : BentD w1 (w.heap.size + 2) a len cp zs q g c n D L w2) : DN w a len cp zs q w2.heap.size g c n D L now (w2.alloc (.cells #[.slice (some ⟨g, 0, none⟩) n c, .int .i64 now] 25)) := by
  have hs := h.grown.size
  obtain ⟨n0, n1, n2, n3⟩ := new2 w zeroNd 36 zeroNd 36
  have b0 := (n0.below h1 (by omega)).of_block (h.grown.block _ (by omega) (by simp))
  have b1 := (n1.below h1 (by omega)).of_block (h.grown.block _ (by omega) (by simp))
  have hbel : Below w.heap.size w w2 := ⟨h.grown.os.trans (h1.os.trans n2.os), h.grown.tape.trans (h1.tape.trans n2.tape), h.grown.output.trans (h1.output.trans n2.output), by omega, fun k hk => (h.grown.block k (by omega) (by simp; omega)).trans ((h1.block k (by omega)).trans (n2.block k hk))⟩
  have hb2 : Below w2.heap.size w2 (w2.alloc (.cells #[.slice (some ⟨g, 0, none⟩) n c, .int .i64 now] 25)) := (Below.refl _ _).alloc (Nat.le_refl _) _
  exact ⟨h.rd.alloc _, b0.alloc _, b1.alloc _, (h.own.lower (by omega)).below hb2, h.fair, Blk.new w2 _ _, by omega, hbel.trans (hb2.mono hbel.size)⟩

theorem DN.away {w : World} {a : Option Addr} {len cp : Nat} {zs : Nat → Int} {q T g c n : Nat} {D : Nat → Nd} {L : Nat → Loc} {now : Int} {W : World} (h : DN w a len cp zs q T g c n D L now W) {X : Nat} (hX : W.heap.size ≤ X) : X ≠ T ∧ Away (fun b => b = X) g n L := by
  have h1 := h.t.lt
  have h2 := h.own.lt
  exact ⟨by omega, by show ¬ g = X; omega, fun i hi => ⟨fun b o y e => by have := ((h.own.lists i hi).2.1 b o y e).2.2; show ¬ b = X; omega, fun b o y e => by have := ((h.own.lists i hi).2.2 b o y e).2.2; show ¬ b = X; omega⟩⟩

/-- The answer has been written. -/
structure DNEnd (w : World) (d d' : Nd) (l l' : Loc) (W : World) : Prop where
  r0 : Blk W w.heap.size #[.int .i64 d.kind, .string d.text, .slice l.nA d.nn l.nc, .slice l.kA d.kn l.kc, .int .i64 d.turn] 36
  r1 : Blk W (w.heap.size + 1) #[.int .i64 d'.kind, .string d'.text, .slice l'.nA d'.nn l'.nc, .slice l'.kA d'.kn l'.kc, .int .i64 d'.turn] 36
  dn : DrawnN w d d' l l' W

theorem turn_fits {d : Nd} (h : FairNd d) : ({ d with turn := d.turn + 1 } : Nd).Fits := ⟨h.fits.kind, by have := h.turn; show In64 (d.turn + 1); unfold In64; omega, h.fits.text, h.fits.names, h.fits.nn, h.fits.kn, h.fits.kids⟩

/-- A variable of one's own, behind the tree's memory, is written. -/
theorem DN.setX {w : World} {a : Option Addr} {len cp : Nat} {zs : Nat → Int} {q T g c n : Nat} {D : Nat → Nd} {L : Nat → Loc} {now : Int} {W : World} (h : DN w a len cp zs q T g c n D L now W) {X : Nat} (i : Nat) (v : Value) (hX : w.heap.size + 3 ≤ X) (hfar : X ≠ T ∧ Away (fun b => b = X) g n L) : DN w a len cp zs q T g c n D L now (W.setCell ⟨X, i, none⟩ v) := by
  obtain ⟨h1, h2⟩ := hfar
  refine ⟨h.rd.kept (fun k hk => blk_setCell_other _ _ _ _ (by show k ≠ X; omega)), h.r0.off v (by omega), h.r1.off v (by omega), h.own.setOther h2 rfl i v, h.fair, h.t.off v (Ne.symm h1), h.far, bel_put h.bel v (by omega)⟩

def put5 (W : World) (b : Nat) (d : Nd) (l : Loc) : World :=
  ((((W.setCell ⟨b, 0, none⟩ (.int .i64 d.kind)).setCell ⟨b, 1, none⟩ (.string d.text)).setCell ⟨b, 2, none⟩ (.slice l.nA d.nn l.nc)).setCell ⟨b, 3, none⟩ (.slice l.kA d.kn l.kc)).setCell ⟨b, 4, none⟩ (.int .i64 d.turn)

theorem Blk.set5 {W : World} {b : Nat} {d : Nd} {l : Loc} {t : TypeId} (h : Blk W b zeroNd t) : Blk (put5 W b d l) b #[.int .i64 d.kind, .string d.text, .slice l.nA d.nn l.nc, .slice l.kA d.kn l.kc, .int .i64 d.turn] t := ((((h.set 0 _).set 1 _).set 2 _).set 3 _).set 4 _
theorem Blk.off5 {W : World} {b q : Nat} {d : Nd} {l : Loc} {c : Array Value} {t : TypeId} (h : Blk W b c t) (hq : b ≠ q) : Blk (put5 W q d l) b c t := ((((h.off _ hq).off _ hq).off _ hq).off _ hq).off _ hq
theorem NdAt.off5 {W : World} {B M X q : Nat} {d d' : Nd} {l l' : Loc} (h : NdAt W B M X d l) (hq : q < B) : NdAt (put5 W q d' l') B M X d l := ((((h.off _ (Or.inl hq)).off _ (Or.inl hq)).off _ (Or.inl hq)).off _ (Or.inl hq)).off _ (Or.inl hq)
theorem bel_set5 {B : Nat} {a W : World} (h : Below B a W) {q : Nat} (d : Nd) (l : Loc) (hq : B ≤ q) : Below B a (put5 W q d l) := bel_put (bel_put (bel_put (bel_put (bel_put h _ hq) _ hq) _ hq) _ hq) _ hq

section
variable {w : World} {a : Option Addr} {len cp : Nat} {zs : Nat → Int} {q T g c n : Nat} {D : Nat → Nd} {L : Nat → Loc} {now : Int} {M XA XB : Nat} {d d' : Nd} {l l' : Loc} {W : World}
theorem DNN.fin1 (h : DNN w a len cp zs q T g c n D L now M XA XB d d' l l' W) (hf : FairNd d) (hf' : d'.Fits) : DNEnd w d d' l l' (put5 (put5 W w.heap.size d l) (w.heap.size + 1) d' l') :=
  ⟨(Blk.set5 h.dn.r0).off5 (by omega), (h.dn.r1.off5 (by omega)).set5, ((h.na.off5 (by omega)).off5 (by omega)).lies, ((h.nb.off5 (by omega)).off5 (by omega)).lies, ⟨hf.nn, hf.kn, hf.fits, hf.turn.1, by have := hf.turn.2; omega, hf.kind.1, hf.kind.2, hf.text⟩, hf', bel_set5 (bel_set5 h.dn.bel _ _ (Nat.le_refl _)) _ _ (by omega)⟩
theorem DNN.fin2 (h : DNN w a len cp zs q T g c n D L now M XA XB d d' l l' W) (hf : FairNd d) (hf' : d'.Fits) : DNEnd w d d' l l' (put5 (put5 W (w.heap.size + 1) d' l') w.heap.size d l) :=
  ⟨(h.dn.r0.off5 (by omega)).set5, (Blk.set5 h.dn.r1).off5 (by omega), ((h.na.off5 (by omega)).off5 (by omega)).lies, ((h.nb.off5 (by omega)).off5 (by omega)).lies, ⟨hf.nn, hf.kn, hf.fits, hf.turn.1, by have := hf.turn.2; omega, hf.kind.1, hf.kind.2, hf.text⟩, hf', bel_set5 (bel_set5 h.dn.bel _ _ (by omega)) _ _ (Nat.le_refl _)⟩
end

theorem DNEnd.drew {w : World} {d d' : Nd} {l l' : Loc} {W : World} (h : DNEnd w d d' l l' W) : DNEnd w d d' l l' W.drew :=
  have hb : Below W.heap.size W W.drew := below_drewN (Below.refl _ _) 1
  ⟨h.r0.below hb h.r0.lt, h.r1.below hb h.r1.lt, h.dn.lies.below (Nat.le_refl _) hb, h.dn.lies'.below (Nat.le_refl _) hb, h.dn.fair, h.dn.fits', h.dn.bel.trans (hb.mono h.dn.bel.size)⟩

section
variable {w : World} {a : Option Addr} {len cp : Nat} {zs : Nat → Int} {q T g c n : Nat} {D : Nat → Nd} {L : Nat → Loc} {now : Int} {M XA XB : Nat} {d d' : Nd} {l l' : Loc} {W W' : World}
theorem DNN.below (h : DNN w a len cp zs q T g c n D L now M XA XB d d' l l' W) (hb : Below W.heap.size W W') : DNN w a len cp zs q T g c n D L now M XA XB d d' l l' W' := ⟨h.dn.below hb, h.na.below hb, h.nb.below hb, h.far⟩
theorem DNN.read {q' : Nat} (h : DNN w a len cp zs q T g c n D L now M XA XB d d' l l' W) (hg : W.grownBy W' (some (w.heap.size + 2))) (hr : IsRd W' (w.heap.size + 2) a len cp zs q') : DNN w a len cp zs q' T g c n D L now M XA XB d d' l l' W' := ⟨h.dn.read hg hr, h.na.grown hg (by omega), h.nb.grown hg (by omega), h.far⟩

/-- The second place is written whole, by a new copy. -/
theorem DNN.all {w0 : World} {d2 : Nd} {l3 : Loc} (h : DNN w a len cp zs q T g c n D L now M XA XB d d' l l' W) (hN : NewNd w0 d2 l3 W) (h0 : M ≤ w0.heap.size) : DNN w a len cp zs q T g c n D L now W.heap.size XA XB d d2 l l3 (put5 W XB d2 l3) := by
  have hx := h.nb.x
  have hM : W.heap.size ≥ M := Nat.le_trans h0 hN.bel.size
  have hXB : w.heap.size + 3 ≤ XB := hx.1
  have hn : ∀ b o y, l3.nA = some ⟨b, o, y⟩ → w.heap.size + 3 ≤ b ∧ b < W.heap.size ∧ b ≠ XB := fun b o y e => by
    obtain ⟨b', e', h1, h2⟩ := hN.nA
    rw [e'] at e; cases e
    exact ⟨by omega, h2, by omega⟩
  have hk : ∀ b o y, l3.kA = some ⟨b, o, y⟩ → w.heap.size + 3 ≤ b ∧ b < W.heap.size ∧ b ≠ XB := fun b o y e => by
    obtain ⟨b', e', h1, h2⟩ := hN.kA
    rw [e'] at e; cases e
    exact ⟨by omega, h2, by omega⟩
  exact ⟨((((h.dn.setX _ _ hXB h.far).setX _ _ hXB h.far).setX _ _ hXB h.far).setX _ _ hXB h.far).setX _ _ hXB h.far,
    ((((h.na.off _ (Or.inr (Nat.le_refl _))).off _ (Or.inr (Nat.le_refl _))).off _ (Or.inr (Nat.le_refl _))).off _ (Or.inr (Nat.le_refl _))).off _ (Or.inr (Nat.le_refl _)), h.nb.all hN.lies hM hn hk, h.far⟩
end

set_option maxRecDepth 100000 in
set_option maxHeartbeats 4000000 in
theorem drawNodeSame_any (w : World) (a : Option Addr) (len cap : Nat) (zs : Nat → Int) (hc : IsCode w a len zs) (hlen : len ≤ maxLen) (hcap : len ≤ cap) :
    Calls Try.prog 18 #[.slice a len cap] w (DrawNPost w) := by
  go_enter Try.func18, Try.ntmps18
  go_wp2_with fail
  refine (l11Open_any _ a len cap zs hlen hcap ((hc.alloc _).alloc _)).mono ?_
  rintro e w1 ⟨rfl, hb, len', hR⟩
  have es : ((w.alloc (.cells #[.int .i64 0, .string ⟨#[]⟩, .slice none 0 0, .slice none 0 0, .int .i64 0] 36)).alloc (.cells #[.int .i64 0, .string ⟨#[]⟩, .slice none 0 0, .slice none 0 0, .int .i64 0] 36)).heap.size = w.heap.size + 2 := by simp
  rw [es] at hb hR ⊢
  have hl := hR.lt
  go_wp2_with fail
  refine (l2Bent_any w1 (w.heap.size + 2) a len' cap zs 0 hR (by omega)).mono ?_
  rintro e w2 ⟨g, c, n, D, L, now, q, rfl, hn0, hn1, hq, hd⟩
  unfold trV
  have HF : Hid (DN w a len' cap zs q w2.heap.size g c n D L now (w2.alloc (.cells #[.slice (some ⟨g, 0, none⟩) n c, .int .i64 now] 25))) := DN.start hb hl hd
  clear hd hR hb hl es
  go_wp2_with fail
  obtain ⟨T, hT⟩ : ∃ T, T = w2.heap.size := ⟨_, rfl⟩
  rw [← hT] at HF ⊢
  refine at_world (F := DN w a len' cap zs q T g c n D L now) HF.out ?_
  clear HF hT w2
  intro W hW
  have hn11 := hW.fair.few
  have hnn1 := hW.fair.some
  refine (pick_any W (w.heap.size + 2) a len' cap zs q n hW.rd (by omega) (by omega) (by omega)).mono ?_
  rintro e w3 ⟨x, rfl, hx0, hx1, hg3, hR3⟩
  obtain ⟨k, rfl⟩ := Int.eq_ofNat_of_zero_le hx0
  have hkn : k < n := by omega
  have hki : (k : Int) < (n : Int) := by omega
  have H3 : Hid (DN w a len' cap zs (q + 1) T g c n D L now w3) := hW.read hg3 hR3
  clear hW hg3 hR3 hx0 hx1
  have hfk := H3.out.fair.each k hkn
  have hfn := hfk.nn
  have hfkn := hfk.kn
  have t0 : w3.cell? ⟨T, 0, none⟩ = some (.slice (some ⟨g, 0, none⟩) n c) := H3.out.t.cell 0
  obtain ⟨c0, c1, c2, c3, c4⟩ := H3.out.own.cells k hkn
  go_wp2_with fail
  refine (l2Copy_any (D k) (L k) w3 (H3.out.own.lists k hkn).1 (by omega) (by omega)).mono ?_
  rintro e w4 ⟨l1, rfl, hN1⟩
  unfold ndV
  have hB4 : Below w4.heap.size w4 (w4.alloc (.cells #[.int .i64 (D k).kind, .string (D k).text, .slice l1.nA (D k).nn l1.nc, .slice l1.kA (D k).kn l1.kc, .int .i64 (D k).turn] 36)) := (Below.refl _ _).alloc (Nat.le_refl _) _
  have H4 : Hid (DN w a len' cap zs (q + 1) T g c n D L now _ ∧ NdAt _ (w.heap.size + 3) (w4.heap.size + 1) w4.heap.size (D k) l1) := ⟨(H3.out.below hN1.bel).below hB4, NdAt.new hN1 (by have := H3.out.rd.lt; omega)⟩
  clear hN1 hB4 H3 t0 c0 c1 c2 c3 c4
  have t0 := H4.out.1.t.cell 0
  obtain ⟨c0, c1, c2, c3, c4⟩ := H4.out.1.own.cells k hkn
  simp at t0
  go_wp2_with fail
  obtain ⟨XA, hXA⟩ : ∃ X, X = w4.heap.size := ⟨_, rfl⟩
  rw [← hXA] at H4 ⊢
  refine at_world (F := fun W => DN w a len' cap zs (q + 1) T g c n D L now W ∧ NdAt W (w.heap.size + 3) (XA + 1) XA (D k) l1) H4.out ?_
  clear H4 t0 c0 c1 c2 c3 c4 hXA w4
  rintro W5 ⟨hD5, hA5⟩
  refine (l2Copy_any (D k) (L k) W5 (hD5.own.lists k hkn).1 (by omega) (by omega)).mono ?_
  rintro e w6 ⟨l2, rfl, hN2⟩
  unfold ndV
  have hB6 : Below w6.heap.size w6 (w6.alloc (.cells #[.int .i64 (D k).kind, .string (D k).text, .slice l2.nA (D k).nn l2.nc, .slice l2.kA (D k).kn l2.kc, .int .i64 (D k).turn] 36)) := (Below.refl _ _).alloc (Nat.le_refl _) _
  have H6 : Hid (DNN w a len' cap zs (q + 1) T g c n D L now (w6.heap.size + 1) XA w6.heap.size (D k) (D k) l1 l2 (w6.alloc (.cells #[.int .i64 (D k).kind, .string (D k).text, .slice l2.nA (D k).nn l2.nc, .slice l2.kA (D k).kn l2.kc, .int .i64 (D k).turn] 36))) :=
    ⟨(hD5.below hN2.bel).below hB6, ((hA5.below hN2.bel).below hB6).mono (by have := hA5.m; have := hN2.bel.size; omega) (by simp), NdAt.new hN2 (by have := hD5.rd.lt; omega), hD5.away hN2.bel.size⟩
  clear hN2 hB6 hD5 hA5
  go_wp2_with fail
  obtain ⟨XB, hXB⟩ : ∃ X, X = w6.heap.size := ⟨_, rfl⟩
  rw [← hXB] at H6 ⊢
  refine at_world (F := DNN w a len' cap zs (q + 1) T g c n D L now (XB + 1) XA XB (D k) (D k) l1 l2) H6.out ?_
  clear H6 hXB w6
  intro W7 h7
  refine (pick_any W7 (w.heap.size + 2) a len' cap zs (q + 1) 4 h7.dn.rd (by omega) (by omega) (by omega)).mono ?_
  rintro e w8 ⟨x, rfl, hx0, hx1, hg8, hR8⟩
  have H8 : Hid (DNN w a len' cap zs (q + 1 + 1) T g c n D L now (XB + 1) XA XB (D k) (D k) l1 l2 w8) := ⟨h7.dn.read hg8 hR8, h7.na.grown hg8 (by omega), h7.nb.grown hg8 (by omega), h7.far⟩
  clear h7 hg8 hR8
  have hft := hfk.turn
  by_cases e0 : x = 0
  · subst e0
    have hxb := H8.out.nb.x
    have hxa := H8.out.na.x
    have z4 : w8.cell? ⟨XB, 4, none⟩ = some (.int .i64 (D k).turn) := H8.out.nb.blk.cell 4
    have zf4 := H8.out.nb.blk.frozen 4
    have hwr : IntKind.i64.wrap ((D k).turn + 1) = (D k).turn + 1 := wrap_i64 _ (by omega) (by omega)
    have H9' : Hid (DNN w a len' cap zs (q + 1 + 1) T g c n D L now (XB + 1) XA XB (D k) { D k with turn := (D k).turn + 1 } l1 l2 (w8.setCell ⟨XB, 4, none⟩ (.int .i64 ((D k).turn + 1)))) :=
      ⟨H8.out.dn.setX _ _ (by omega) H8.out.far, H8.out.na.off _ (Or.inr (Nat.le_refl _)), H8.out.nb.turn _, H8.out.far⟩
    clear H8
    go_wp2_with fail
    refine wp_world (F := DNN w a len' cap zs (q + 1 + 1) T g c n D L now (XB + 1) XA XB (D k) { D k with turn := (D k).turn + 1 } l1 l2) H9'.out ?_
    clear H9' z4 zf4
    intro W9 h9
    have H9 : Hid _ := h9
    clear h9 hxa hxb
    have ya0 : W9.cell? ⟨XA, 0, none⟩ = some (.int .i64 (D k).kind) := H9.out.na.blk.cell 0
    have ya1 : W9.cell? ⟨XA, 1, none⟩ = some (.string (D k).text) := H9.out.na.blk.cell 1
    have ya2 : W9.cell? ⟨XA, 2, none⟩ = some (.slice l1.nA (D k).nn l1.nc) := H9.out.na.blk.cell 2
    have ya3 : W9.cell? ⟨XA, 3, none⟩ = some (.slice l1.kA (D k).kn l1.kc) := H9.out.na.blk.cell 3
    have ya4 : W9.cell? ⟨XA, 4, none⟩ = some (.int .i64 (D k).turn) := H9.out.na.blk.cell 4
    have yb0 : W9.cell? ⟨XB, 0, none⟩ = some (.int .i64 (D k).kind) := H9.out.nb.blk.cell 0
    have yb1 : W9.cell? ⟨XB, 1, none⟩ = some (.string (D k).text) := H9.out.nb.blk.cell 1
    have yb2 : W9.cell? ⟨XB, 2, none⟩ = some (.slice l2.nA (D k).nn l2.nc) := H9.out.nb.blk.cell 2
    have yb3 : W9.cell? ⟨XB, 3, none⟩ = some (.slice l2.kA (D k).kn l2.kc) := H9.out.nb.blk.cell 3
    have yb4 : W9.cell? ⟨XB, 4, none⟩ = some (.int .i64 ((D k).turn + 1)) := H9.out.nb.blk.cell 4
    have rs0 : W9.cell? ⟨w.heap.size, 0, none⟩ = some (.int .i64 0) := H9.out.dn.r0.cell 0
    have sf0 := H9.out.dn.r0.frozen 0
    have rs1 : W9.cell? ⟨w.heap.size, 1, none⟩ = some (.string ⟨#[]⟩) := H9.out.dn.r0.cell 1
    have sf1 := H9.out.dn.r0.frozen 1
    have rs2 : W9.cell? ⟨w.heap.size, 2, none⟩ = some (.slice none 0 0) := H9.out.dn.r0.cell 2
    have sf2 := H9.out.dn.r0.frozen 2
    have rs3 : W9.cell? ⟨w.heap.size, 3, none⟩ = some (.slice none 0 0) := H9.out.dn.r0.cell 3
    have sf3 := H9.out.dn.r0.frozen 3
    have rs4 : W9.cell? ⟨w.heap.size, 4, none⟩ = some (.int .i64 0) := H9.out.dn.r0.cell 4
    have sf4 := H9.out.dn.r0.frozen 4
    have rt0 : W9.cell? ⟨w.heap.size + 1, 0, none⟩ = some (.int .i64 0) := H9.out.dn.r1.cell 0
    have tf0 := H9.out.dn.r1.frozen 0
    have rt1 : W9.cell? ⟨w.heap.size + 1, 1, none⟩ = some (.string ⟨#[]⟩) := H9.out.dn.r1.cell 1
    have tf1 := H9.out.dn.r1.frozen 1
    have rt2 : W9.cell? ⟨w.heap.size + 1, 2, none⟩ = some (.slice none 0 0) := H9.out.dn.r1.cell 2
    have tf2 := H9.out.dn.r1.frozen 2
    have rt3 : W9.cell? ⟨w.heap.size + 1, 3, none⟩ = some (.slice none 0 0) := H9.out.dn.r1.cell 3
    have tf3 := H9.out.dn.r1.frozen 3
    have rt4 : W9.cell? ⟨w.heap.size + 1, 4, none⟩ = some (.int .i64 0) := H9.out.dn.r1.cell 4
    have tf4 := H9.out.dn.r1.frozen 4
    have hxa := H9.out.na.x
    have hxb := H9.out.nb.x
    have m1 : XA ≠ w.heap.size := by omega
    have m2 : XA ≠ w.heap.size + 1 := by omega
    have m3 : XB ≠ w.heap.size := by omega
    have m4 : XB ≠ w.heap.size + 1 := by omega
    have m5 : w.heap.size ≠ XA := by omega
    have m6 : w.heap.size + 1 ≠ XA := by omega
    have m7 : w.heap.size ≠ XB := by omega
    have m8 : w.heap.size + 1 ≠ XB := by omega
    have HE1 : Hid _ := (H9.out.fin1 hfk (turn_fits hfk)).drew
    have HE2 : Hid _ := (H9.out.fin2 hfk (turn_fits hfk)).drew
    simp only [put5] at HE1 HE2
    clear H9
    go_region_held3 (fun W' => (W'.cell? ⟨XA, 0, none⟩ = some (.int .i64 (D k).kind) ∧ W'.cell? ⟨XA, 1, none⟩ = some (.string (D k).text) ∧ W'.cell? ⟨XA, 2, none⟩ = some (.slice l1.nA (D k).nn l1.nc) ∧ W'.cell? ⟨XA, 3, none⟩ = some (.slice l1.kA (D k).kn l1.kc) ∧ W'.cell? ⟨XA, 4, none⟩ = some (.int .i64 (D k).turn)) ∧ (W'.cell? ⟨XB, 0, none⟩ = some (.int .i64 (D k).kind) ∧ W'.cell? ⟨XB, 1, none⟩ = some (.string (D k).text) ∧ W'.cell? ⟨XB, 2, none⟩ = some (.slice l2.nA (D k).nn l2.nc) ∧ W'.cell? ⟨XB, 3, none⟩ = some (.slice l2.kA (D k).kn l2.kc) ∧ W'.cell? ⟨XB, 4, none⟩ = some (.int .i64 ((D k).turn + 1)))) (go_keep) (fail)
    all_goals
      go_wp2
      refine end_world (F := DNEnd w (D k) { D k with turn := (D k).turn + 1 } l1 l2) (by first | with_reducible exact HE1.out | with_reducible exact HE2.out) ?_
      rintro WF ⟨e0, e1, hN⟩
      have r0 := e0.cell 0
      have u0 := e1.cell 0
      have r1 := e0.cell 1
      have u1 := e1.cell 1
      have r2 := e0.cell 2
      have u2 := e1.cell 2
      have r3 := e0.cell 3
      have u3 := e1.cell 3
      have r4 := e0.cell 4
      have u4 := e1.cell 4
      simp at r0 r1 r2 r3 r4 u0 u1 u2 u3 u4
      exact bodyPost_ret (v := .tuple #[ndV (D k) l1, ndV { D k with turn := (D k).turn + 1 } l2]) (by simp [results, Try.results18, go_sem, r0, r1, r2, r3, r4, u0, u1, u2, u3, u4, ndV]) rfl ⟨_, _, _, _, rfl, hN⟩
  · have he0 : (x == 0) = false := by simp; exact e0
    by_cases e1 : x = 1
    · subst e1
      have t0 : w8.cell? ⟨T, 0, none⟩ = some (.slice (some ⟨g, 0, none⟩) n c) := H8.out.dn.t.cell 0
      have hTX : T ≠ XB := Ne.symm H8.out.far.1
      have hXT : XB ≠ T := H8.out.far.1
      have t1 : (∀ i, i < n → w8.cell? ⟨g, i * 5, none⟩ = some (.int .i64 (D i).kind)) := fun i hi => (H8.out.dn.own.cells i hi).1
      have t2 : (∀ i, i < n → w8.cell? ⟨g, i * 5 + 1, none⟩ = some (.string (D i).text)) := fun i hi => (H8.out.dn.own.cells i hi).2.1
      have t3 : (∀ i, i < n → w8.cell? ⟨g, i * 5 + 2, none⟩ = some (.slice (L i).nA (D i).nn (L i).nc)) := fun i hi => (H8.out.dn.own.cells i hi).2.2.1
      have t4 : (∀ i, i < n → w8.cell? ⟨g, i * 5 + 3, none⟩ = some (.slice (L i).kA (D i).kn (L i).kc)) := fun i hi => (H8.out.dn.own.cells i hi).2.2.2.1
      have t5 : (∀ i, i < n → w8.cell? ⟨g, i * 5 + 4, none⟩ = some (.int .i64 (D i).turn)) := fun i hi => (H8.out.dn.own.cells i hi).2.2.2.2
      have hgX : g ≠ XB := H8.out.far.2.row
      have hXg : XB ≠ g := Ne.symm hgX
      have hm8 := H8.out.nb.m
      go_wp2_with fail
      go_region_with (first
        | (go_at_call 39
           refine (l2Copy_any (D k2) (L k2) w9 (h9.dn.own.lists k2 hk2).1 (by omega) (by omega)).mono ?_
           rintro e w10 ⟨l3, rfl, hN3⟩
           unfold ndV
           have h10 := h9.below hN3.bel
           have V0 : w10.cell? ⟨T, 0, none⟩ = some (.slice (some ⟨g, 0, none⟩) n c) := h10.dn.t.cell 0
           have V1 : (∀ i, i < n → w10.cell? ⟨g, i * 5, none⟩ = some (.int .i64 (D i).kind)) := fun i hi => (h10.dn.own.cells i hi).1
           have V2 : (∀ i, i < n → w10.cell? ⟨g, i * 5 + 1, none⟩ = some (.string (D i).text)) := fun i hi => (h10.dn.own.cells i hi).2.1
           have V3 : (∀ i, i < n → w10.cell? ⟨g, i * 5 + 2, none⟩ = some (.slice (L i).nA (D i).nn (L i).nc)) := fun i hi => (h10.dn.own.cells i hi).2.2.1
           have V4 : (∀ i, i < n → w10.cell? ⟨g, i * 5 + 3, none⟩ = some (.slice (L i).kA (D i).kn (L i).kc)) := fun i hi => (h10.dn.own.cells i hi).2.2.2.1
           have V5 : (∀ i, i < n → w10.cell? ⟨g, i * 5 + 4, none⟩ = some (.int .i64 (D i).turn)) := fun i hi => (h10.dn.own.cells i hi).2.2.2.2
           obtain ⟨v0, v1, v2, v3, v4⟩ := h10.nb.cells
           have vf0 := h10.nb.blk.frozen 0
           have vf1 := h10.nb.blk.frozen 1
           have vf2 := h10.nb.blk.frozen 2
           have vf3 := h10.nb.blk.frozen 3
           have vf4 := h10.nb.blk.frozen 4)
        | (go_at_call 38
           refine (pick_any (w8.drewN 1) (w.heap.size + 2) a len' cap zs (q + 1 + 1) n (H8.out.dn.drew 1).rd (by omega) (by omega) (by omega)).mono ?_
           rintro e w9 ⟨y, rfl, hy0, hy1, hg9, hR9⟩
           obtain ⟨k2, rfl⟩ := Int.eq_ofNat_of_zero_le hy0
           have hk2 : k2 < n := by omega
           have hk2i : (k2 : Int) < (n : Int) := by omega
           have h9 := (H8.out.below (below_drewN (Below.refl _ _) 1)).read hg9 hR9
           have hf2 := h9.dn.fair.each k2 hk2
           have hf2n := hf2.nn
           have hf2k := hf2.kn
           have U0 : w9.cell? ⟨T, 0, none⟩ = some (.slice (some ⟨g, 0, none⟩) n c) := h9.dn.t.cell 0
           have U1 : (∀ i, i < n → w9.cell? ⟨g, i * 5, none⟩ = some (.int .i64 (D i).kind)) := fun i hi => (h9.dn.own.cells i hi).1
           have U2 : (∀ i, i < n → w9.cell? ⟨g, i * 5 + 1, none⟩ = some (.string (D i).text)) := fun i hi => (h9.dn.own.cells i hi).2.1
           have U3 : (∀ i, i < n → w9.cell? ⟨g, i * 5 + 2, none⟩ = some (.slice (L i).nA (D i).nn (L i).nc)) := fun i hi => (h9.dn.own.cells i hi).2.2.1
           have U4 : (∀ i, i < n → w9.cell? ⟨g, i * 5 + 3, none⟩ = some (.slice (L i).kA (D i).kn (L i).kc)) := fun i hi => (h9.dn.own.cells i hi).2.2.2.1
           have U5 : (∀ i, i < n → w9.cell? ⟨g, i * 5 + 4, none⟩ = some (.int .i64 (D i).turn)) := fun i hi => (h9.dn.own.cells i hi).2.2.2.2))
      all_goals
        have H11 : Hid _ := h10.all hN3 (by have := h9.nb.m; omega)
        have hff := hf2.fits
        simp only [put5] at H11
        clear h10 hN3 h9 v0 v1 v2 v3 v4 vf0 vf1 vf2 vf3 vf4 V0 V1 V2 V3 V4 V5 U0 U1 U2 U3 U4 U5 hR9 hg9 t0 t1 t2 t3 t4 t5 H8
        go_wp2_with fail
        refine wp_world (F := DNN w a len' cap zs (q + 1 + 1 + 1) T g c n D L now w10.heap.size XA XB (D k) (D k2) l1 l3) H11.out ?_
        clear H11
        intro W9 h9
        have H9 : Hid _ := h9
        clear h9
        have ya0 : W9.cell? ⟨XA, 0, none⟩ = some (.int .i64 (D k).kind) := H9.out.na.blk.cell 0
        have ya1 : W9.cell? ⟨XA, 1, none⟩ = some (.string (D k).text) := H9.out.na.blk.cell 1
        have ya2 : W9.cell? ⟨XA, 2, none⟩ = some (.slice l1.nA (D k).nn l1.nc) := H9.out.na.blk.cell 2
        have ya3 : W9.cell? ⟨XA, 3, none⟩ = some (.slice l1.kA (D k).kn l1.kc) := H9.out.na.blk.cell 3
        have ya4 : W9.cell? ⟨XA, 4, none⟩ = some (.int .i64 (D k).turn) := H9.out.na.blk.cell 4
        have yb0 : W9.cell? ⟨XB, 0, none⟩ = some (.int .i64 (D k2).kind) := H9.out.nb.blk.cell 0
        have yb1 : W9.cell? ⟨XB, 1, none⟩ = some (.string (D k2).text) := H9.out.nb.blk.cell 1
        have yb2 : W9.cell? ⟨XB, 2, none⟩ = some (.slice l3.nA (D k2).nn l3.nc) := H9.out.nb.blk.cell 2
        have yb3 : W9.cell? ⟨XB, 3, none⟩ = some (.slice l3.kA (D k2).kn l3.kc) := H9.out.nb.blk.cell 3
        have yb4 : W9.cell? ⟨XB, 4, none⟩ = some (.int .i64 (D k2).turn) := H9.out.nb.blk.cell 4
        have rs0 : W9.cell? ⟨w.heap.size, 0, none⟩ = some (.int .i64 0) := H9.out.dn.r0.cell 0
        have sf0 := H9.out.dn.r0.frozen 0
        have rs1 : W9.cell? ⟨w.heap.size, 1, none⟩ = some (.string ⟨#[]⟩) := H9.out.dn.r0.cell 1
        have sf1 := H9.out.dn.r0.frozen 1
        have rs2 : W9.cell? ⟨w.heap.size, 2, none⟩ = some (.slice none 0 0) := H9.out.dn.r0.cell 2
        have sf2 := H9.out.dn.r0.frozen 2
        have rs3 : W9.cell? ⟨w.heap.size, 3, none⟩ = some (.slice none 0 0) := H9.out.dn.r0.cell 3
        have sf3 := H9.out.dn.r0.frozen 3
        have rs4 : W9.cell? ⟨w.heap.size, 4, none⟩ = some (.int .i64 0) := H9.out.dn.r0.cell 4
        have sf4 := H9.out.dn.r0.frozen 4
        have rt0 : W9.cell? ⟨w.heap.size + 1, 0, none⟩ = some (.int .i64 0) := H9.out.dn.r1.cell 0
        have tf0 := H9.out.dn.r1.frozen 0
        have rt1 : W9.cell? ⟨w.heap.size + 1, 1, none⟩ = some (.string ⟨#[]⟩) := H9.out.dn.r1.cell 1
        have tf1 := H9.out.dn.r1.frozen 1
        have rt2 : W9.cell? ⟨w.heap.size + 1, 2, none⟩ = some (.slice none 0 0) := H9.out.dn.r1.cell 2
        have tf2 := H9.out.dn.r1.frozen 2
        have rt3 : W9.cell? ⟨w.heap.size + 1, 3, none⟩ = some (.slice none 0 0) := H9.out.dn.r1.cell 3
        have tf3 := H9.out.dn.r1.frozen 3
        have rt4 : W9.cell? ⟨w.heap.size + 1, 4, none⟩ = some (.int .i64 0) := H9.out.dn.r1.cell 4
        have tf4 := H9.out.dn.r1.frozen 4
        have hxa := H9.out.na.x
        have hxb := H9.out.nb.x
        have m1 : XA ≠ w.heap.size := by omega
        have m2 : XA ≠ w.heap.size + 1 := by omega
        have m3 : XB ≠ w.heap.size := by omega
        have m4 : XB ≠ w.heap.size + 1 := by omega
        have m5 : w.heap.size ≠ XA := by omega
        have m6 : w.heap.size + 1 ≠ XA := by omega
        have m7 : w.heap.size ≠ XB := by omega
        have m8 : w.heap.size + 1 ≠ XB := by omega
        have HE1 : Hid _ := (H9.out.fin1 hfk hff).drew
        have HE2 : Hid _ := (H9.out.fin2 hfk hff).drew
        simp only [put5] at HE1 HE2
        clear H9
        go_region_held3 (fun W' => (W'.cell? ⟨XA, 0, none⟩ = some (.int .i64 (D k).kind) ∧ W'.cell? ⟨XA, 1, none⟩ = some (.string (D k).text) ∧ W'.cell? ⟨XA, 2, none⟩ = some (.slice l1.nA (D k).nn l1.nc) ∧ W'.cell? ⟨XA, 3, none⟩ = some (.slice l1.kA (D k).kn l1.kc) ∧ W'.cell? ⟨XA, 4, none⟩ = some (.int .i64 (D k).turn)) ∧ (W'.cell? ⟨XB, 0, none⟩ = some (.int .i64 (D k2).kind) ∧ W'.cell? ⟨XB, 1, none⟩ = some (.string (D k2).text) ∧ W'.cell? ⟨XB, 2, none⟩ = some (.slice l3.nA (D k2).nn l3.nc) ∧ W'.cell? ⟨XB, 3, none⟩ = some (.slice l3.kA (D k2).kn l3.kc) ∧ W'.cell? ⟨XB, 4, none⟩ = some (.int .i64 (D k2).turn))) (go_keep) (fail)
        all_goals
          go_wp2
          refine end_world (F := DNEnd w (D k) (D k2) l1 l3) (by first | with_reducible exact HE1.out | with_reducible exact HE2.out) ?_
          rintro WF ⟨e0, e1, hN⟩
          have r0 := e0.cell 0
          have u0 := e1.cell 0
          have r1 := e0.cell 1
          have u1 := e1.cell 1
          have r2 := e0.cell 2
          have u2 := e1.cell 2
          have r3 := e0.cell 3
          have u3 := e1.cell 3
          have r4 := e0.cell 4
          have u4 := e1.cell 4
          simp at r0 r1 r2 r3 r4 u0 u1 u2 u3 u4
          exact bodyPost_ret (v := .tuple #[ndV (D k) l1, ndV (D k2) l3]) (by simp [results, Try.results18, go_sem, r0, r1, r2, r3, r4, u0, u1, u2, u3, u4, ndV]) rfl ⟨_, _, _, _, rfl, hN⟩
    · have he1 : (x == 1) = false := by simp; exact e1
      clear e0 e1
      go_wp2_with fail
      refine wp_world (F := DNN w a len' cap zs (q + 1 + 1) T g c n D L now (XB + 1) XA XB (D k) (D k) l1 l2) H8.out ?_
      clear H8
      intro W9 h9
      have H9 : Hid _ := h9
      clear h9
      have ya0 : W9.cell? ⟨XA, 0, none⟩ = some (.int .i64 (D k).kind) := H9.out.na.blk.cell 0
      have ya1 : W9.cell? ⟨XA, 1, none⟩ = some (.string (D k).text) := H9.out.na.blk.cell 1
      have ya2 : W9.cell? ⟨XA, 2, none⟩ = some (.slice l1.nA (D k).nn l1.nc) := H9.out.na.blk.cell 2
      have ya3 : W9.cell? ⟨XA, 3, none⟩ = some (.slice l1.kA (D k).kn l1.kc) := H9.out.na.blk.cell 3
      have ya4 : W9.cell? ⟨XA, 4, none⟩ = some (.int .i64 (D k).turn) := H9.out.na.blk.cell 4
      have yb0 : W9.cell? ⟨XB, 0, none⟩ = some (.int .i64 (D k).kind) := H9.out.nb.blk.cell 0
      have yb1 : W9.cell? ⟨XB, 1, none⟩ = some (.string (D k).text) := H9.out.nb.blk.cell 1
      have yb2 : W9.cell? ⟨XB, 2, none⟩ = some (.slice l2.nA (D k).nn l2.nc) := H9.out.nb.blk.cell 2
      have yb3 : W9.cell? ⟨XB, 3, none⟩ = some (.slice l2.kA (D k).kn l2.kc) := H9.out.nb.blk.cell 3
      have yb4 : W9.cell? ⟨XB, 4, none⟩ = some (.int .i64 (D k).turn) := H9.out.nb.blk.cell 4
      have rs0 : W9.cell? ⟨w.heap.size, 0, none⟩ = some (.int .i64 0) := H9.out.dn.r0.cell 0
      have sf0 := H9.out.dn.r0.frozen 0
      have rs1 : W9.cell? ⟨w.heap.size, 1, none⟩ = some (.string ⟨#[]⟩) := H9.out.dn.r0.cell 1
      have sf1 := H9.out.dn.r0.frozen 1
      have rs2 : W9.cell? ⟨w.heap.size, 2, none⟩ = some (.slice none 0 0) := H9.out.dn.r0.cell 2
      have sf2 := H9.out.dn.r0.frozen 2
      have rs3 : W9.cell? ⟨w.heap.size, 3, none⟩ = some (.slice none 0 0) := H9.out.dn.r0.cell 3
      have sf3 := H9.out.dn.r0.frozen 3
      have rs4 : W9.cell? ⟨w.heap.size, 4, none⟩ = some (.int .i64 0) := H9.out.dn.r0.cell 4
      have sf4 := H9.out.dn.r0.frozen 4
      have rt0 : W9.cell? ⟨w.heap.size + 1, 0, none⟩ = some (.int .i64 0) := H9.out.dn.r1.cell 0
      have tf0 := H9.out.dn.r1.frozen 0
      have rt1 : W9.cell? ⟨w.heap.size + 1, 1, none⟩ = some (.string ⟨#[]⟩) := H9.out.dn.r1.cell 1
      have tf1 := H9.out.dn.r1.frozen 1
      have rt2 : W9.cell? ⟨w.heap.size + 1, 2, none⟩ = some (.slice none 0 0) := H9.out.dn.r1.cell 2
      have tf2 := H9.out.dn.r1.frozen 2
      have rt3 : W9.cell? ⟨w.heap.size + 1, 3, none⟩ = some (.slice none 0 0) := H9.out.dn.r1.cell 3
      have tf3 := H9.out.dn.r1.frozen 3
      have rt4 : W9.cell? ⟨w.heap.size + 1, 4, none⟩ = some (.int .i64 0) := H9.out.dn.r1.cell 4
      have tf4 := H9.out.dn.r1.frozen 4
      have hxa := H9.out.na.x
      have hxb := H9.out.nb.x
      have m1 : XA ≠ w.heap.size := by omega
      have m2 : XA ≠ w.heap.size + 1 := by omega
      have m3 : XB ≠ w.heap.size := by omega
      have m4 : XB ≠ w.heap.size + 1 := by omega
      have m5 : w.heap.size ≠ XA := by omega
      have m6 : w.heap.size + 1 ≠ XA := by omega
      have m7 : w.heap.size ≠ XB := by omega
      have m8 : w.heap.size + 1 ≠ XB := by omega
      have HE1 : Hid _ := (H9.out.fin1 hfk hfk.fits).drew
      have HE2 : Hid _ := (H9.out.fin2 hfk hfk.fits).drew
      simp only [put5] at HE1 HE2
      clear H9
      go_region_held3 (fun W' => (W'.cell? ⟨XA, 0, none⟩ = some (.int .i64 (D k).kind) ∧ W'.cell? ⟨XA, 1, none⟩ = some (.string (D k).text) ∧ W'.cell? ⟨XA, 2, none⟩ = some (.slice l1.nA (D k).nn l1.nc) ∧ W'.cell? ⟨XA, 3, none⟩ = some (.slice l1.kA (D k).kn l1.kc) ∧ W'.cell? ⟨XA, 4, none⟩ = some (.int .i64 (D k).turn)) ∧ (W'.cell? ⟨XB, 0, none⟩ = some (.int .i64 (D k).kind) ∧ W'.cell? ⟨XB, 1, none⟩ = some (.string (D k).text) ∧ W'.cell? ⟨XB, 2, none⟩ = some (.slice l2.nA (D k).nn l2.nc) ∧ W'.cell? ⟨XB, 3, none⟩ = some (.slice l2.kA (D k).kn l2.kc) ∧ W'.cell? ⟨XB, 4, none⟩ = some (.int .i64 (D k).turn))) (go_keep) (fail)
      all_goals
        go_wp2
        refine end_world (F := DNEnd w (D k) (D k) l1 l2) (by first | with_reducible exact HE1.out | with_reducible exact HE2.out) ?_
        rintro WF ⟨e0, e1, hN⟩
        have r0 := e0.cell 0
        have u0 := e1.cell 0
        have r1 := e0.cell 1
        have u1 := e1.cell 1
        have r2 := e0.cell 2
        have u2 := e1.cell 2
        have r3 := e0.cell 3
        have u3 := e1.cell 3
        have r4 := e0.cell 4
        have u4 := e1.cell 4
        simp at r0 r1 r2 r3 r4 u0 u1 u2 u3 u4
        exact bodyPost_ret (v := .tuple #[ndV (D k) l1, ndV (D k) l2]) (by simp [results, Try.results18, go_sem, r0, r1, r2, r3, r4, u0, u1, u2, u3, u4, ndV]) rfl ⟨_, _, _, _, rfl, hN⟩
end Go.Proofs.Ytbifhfnoogjoeaa

/-
  What DrawTreeSame gives: two trees in new memory.
-/
namespace Go.Proofs.Ytbifhfnoogjoeaa
open Go.RowKit Go.Deep
set_option linter.unusedVariables false

/-- Two drawn trees in new memory. -/
structure TwoT (w : World) (g c n : Nat) (D : Nat → Nd) (L : Nat → Loc) (now : Int) (g' c' n' : Nat) (D' : Nat → Nd) (L' : Nat → Loc) (now' : Int) (W : World) : Prop where
  own : OwnT W (w.heap.size + 2) g c n D L
  own' : OwnT W (w.heap.size + 2) g' c' n' D' L'
  fair : Fair n D
  fair' : Fair n' D'
  now0 : 0 ≤ now ∧ now ≤ 1001
  now1 : 0 ≤ now' ∧ now' ≤ 1002
  bel : Below w.heap.size w W

def DrawTwoPost (w : World) (e : Ending) (W : World) : Prop := ∃ g c n D L now g' c' n' D' L' now', e = .returned (.tuple #[trV (some ⟨g, 0, none⟩) n c now, trV (some ⟨g', 0, none⟩) n' c' now']) ∧ TwoT w g c n D L now g' c' n' D' L' now' W

section
variable {w : World} {XA XB g c n : Nat} {D : Nat → Nd} {L : Nat → Loc} {now : Int} {g' c' n' : Nat} {D' : Nat → Nd} {L' : Nat → Loc} {now' : Int} {W W' : World}
theorem TwoT.below (h : TwoT w g c n D L now g' c' n' D' L' now' W) (hb : Below W.heap.size W W') : TwoT w g c n D L now g' c' n' D' L' now' W' := ⟨h.own.below hb, h.own'.below hb, h.fair, h.fair', h.now0, h.now1, h.bel.trans (hb.mono h.bel.size)⟩

/-- A cell of a block that is none of the trees' is written. -/
theorem TwoT.set (h : TwoT w g c n D L now g' c' n' D' L' now' W) {q k : Nat} (v : Value) (hq : w.heap.size ≤ q) (h1 : Away (fun b => b = q) g n L) (h2 : Away (fun b => b = q) g' n' L') : TwoT w g c n D L now g' c' n' D' L' now' (W.setCell ⟨q, k, none⟩ v) :=
  ⟨h.own.setOther h1 rfl k v, h.own'.setOther h2 rfl k v, h.fair, h.fair', h.now0, h.now1, bel_put h.bel v hq⟩
end

theorem OwnT.away {W : World} {B g c n : Nat} {D : Nat → Nd} {L : Nat → Loc} (h : OwnT W B g c n D L) {q : Nat} (hq : q < B ∨ W.heap.size ≤ q) : Away (fun b => b = q) g n L := by
  have h1 := h.base
  have h2 := h.lt
  exact ⟨by show ¬ g = q; omega, fun i hi => ⟨fun b o y e => by have := (h.lists i hi).2.1 b o y e; show ¬ b = q; omega, fun b o y e => by have := (h.lists i hi).2.2 b o y e; show ¬ b = q; omega⟩⟩

/-- .. and in variables, ahead of the answer. -/
structure TS (w : World) (XA XB g c n : Nat) (D : Nat → Nd) (L : Nat → Loc) (now : Int) (g' c' n' : Nat) (D' : Nat → Nd) (L' : Nat → Loc) (now' : Int) (W : World) : Prop where
  tw : TwoT w g c n D L now g' c' n' D' L' now' W
  r0 : Blk W w.heap.size #[.slice none 0 0, .int .i64 0] 25
  r1 : Blk W (w.heap.size + 1) #[.slice none 0 0, .int .i64 0] 25
  a : Blk W XA #[.slice (some ⟨g, 0, none⟩) n c, .int .i64 now] 25
  b : Blk W XB #[.slice (some ⟨g', 0, none⟩) n' c', .int .i64 now'] 25
  lt : w.heap.size + 2 ≤ XA ∧ XA < XB
  aw : Away (fun b => b = XB) g n L ∧ Away (fun b => b = XB) g' n' L'

/-- The answer has been written. -/
structure TSEnd (w : World) (g c n : Nat) (D : Nat → Nd) (L : Nat → Loc) (now : Int) (g' c' n' : Nat) (D' : Nat → Nd) (L' : Nat → Loc) (now' : Int) (W : World) : Prop where
  r0 : Blk W w.heap.size #[.slice (some ⟨g, 0, none⟩) n c, .int .i64 now] 25
  r1 : Blk W (w.heap.size + 1) #[.slice (some ⟨g', 0, none⟩) n' c', .int .i64 now'] 25
  tw : TwoT w g c n D L now g' c' n' D' L' now' W

section
variable {w : World} {XA XB g c n : Nat} {D : Nat → Nd} {L : Nat → Loc} {now : Int} {g' c' n' : Nat} {D' : Nat → Nd} {L' : Nat → Loc} {now' : Int} {W W' : World}
theorem TS.fin1 (h : TS w XA XB g c n D L now g' c' n' D' L' now' W) : TSEnd w g c n D L now g' c' n' D' L' now' ((((W.setCell ⟨w.heap.size, 0, none⟩ (.slice (some ⟨g, 0, none⟩) n c)).setCell ⟨w.heap.size, 1, none⟩ (.int .i64 now)).setCell ⟨w.heap.size + 1, 0, none⟩ (.slice (some ⟨g', 0, none⟩) n' c')).setCell ⟨w.heap.size + 1, 1, none⟩ (.int .i64 now')) := by
  have p1 : Away (fun b => b = w.heap.size) g n L := h.tw.own.away (Or.inl (by omega))
  have p2 : Away (fun b => b = w.heap.size) g' n' L' := h.tw.own'.away (Or.inl (by omega))
  have q1 : Away (fun b => b = w.heap.size + 1) g n L := h.tw.own.away (Or.inl (by omega))
  have q2 : Away (fun b => b = w.heap.size + 1) g' n' L' := h.tw.own'.away (Or.inl (by omega))
  exact ⟨(((h.r0.set 0 _).set 1 _).off _ (by omega)).off _ (by omega), (((h.r1.off _ (by omega)).off _ (by omega)).set 0 _).set 1 _, (((h.tw.set _ (Nat.le_refl _) p1 p2).set _ (Nat.le_refl _) p1 p2).set _ (by omega) q1 q2).set _ (by omega) q1 q2⟩
theorem TS.fin2 (h : TS w XA XB g c n D L now g' c' n' D' L' now' W) : TSEnd w g c n D L now g' c' n' D' L' now' ((((W.setCell ⟨w.heap.size + 1, 0, none⟩ (.slice (some ⟨g', 0, none⟩) n' c')).setCell ⟨w.heap.size + 1, 1, none⟩ (.int .i64 now')).setCell ⟨w.heap.size, 0, none⟩ (.slice (some ⟨g, 0, none⟩) n c)).setCell ⟨w.heap.size, 1, none⟩ (.int .i64 now)) := by
  have p1 : Away (fun b => b = w.heap.size) g n L := h.tw.own.away (Or.inl (by omega))
  have p2 : Away (fun b => b = w.heap.size) g' n' L' := h.tw.own'.away (Or.inl (by omega))
  have q1 : Away (fun b => b = w.heap.size + 1) g n L := h.tw.own.away (Or.inl (by omega))
  have q2 : Away (fun b => b = w.heap.size + 1) g' n' L' := h.tw.own'.away (Or.inl (by omega))
  exact ⟨(((h.r0.off _ (by omega)).off _ (by omega)).set 0 _).set 1 _, (((h.r1.set 0 _).set 1 _).off _ (by omega)).off _ (by omega), (((h.tw.set _ (by omega) q1 q2).set _ (by omega) q1 q2).set _ (Nat.le_refl _) p1 p2).set _ (Nat.le_refl _) p1 p2⟩
theorem TSEnd.drew (h : TSEnd w g c n D L now g' c' n' D' L' now' W) : TSEnd w g c n D L now g' c' n' D' L' now' W.drew :=
  have hb : Below W.heap.size W W.drew := below_drewN (Below.refl _ _) 1
  ⟨h.r0.below hb h.r0.lt, h.r1.below hb h.r1.lt, h.tw.below hb⟩
/-- The second one's turn is written. -/
theorem TS.turn (h : TS w XA XB g c n D L now g' c' n' D' L' now' W) (z : Int) (hz : 0 ≤ z ∧ z ≤ 1002) : TS w XA XB g c n D L now g' c' n' D' L' z (W.setCell ⟨XB, 1, none⟩ (.int .i64 z)) := by
  have hl := h.lt
  have ht := h.tw.set (k := 1) (.int .i64 z) (q := XB) (by omega) h.aw.1 h.aw.2
  exact ⟨⟨ht.own, ht.own', ht.fair, ht.fair', ht.now0, hz, ht.bel⟩, h.r0.off _ (by omega), h.r1.off _ (by omega), h.a.off _ (by omega), h.b.set 1 _, h.lt, h.aw⟩
end

/-- The first tree has been drawn, and lies in a variable. -/
structure TS1 (w : World) (XA g c n : Nat) (D : Nat → Nd) (L : Nat → Loc) (now : Int) (W : World) : Prop where
  r0 : Blk W w.heap.size #[.slice none 0 0, .int .i64 0] 25
  r1 : Blk W (w.heap.size + 1) #[.slice none 0 0, .int .i64 0] 25
  a : Blk W XA #[.slice (some ⟨g, 0, none⟩) n c, .int .i64 now] 25
  own : OwnT W (w.heap.size + 2) g c n D L
  fair : Fair n D
  lt : w.heap.size + 2 ≤ XA
  bel : Below w.heap.size w W

theorem TS1.below {w : World} {XA g c n : Nat} {D : Nat → Nd} {L : Nat → Loc} {now : Int} {W W' : World} (h : TS1 w XA g c n D L now W) (hb : Below W.heap.size W W') : TS1 w XA g c n D L now W' :=
  ⟨h.r0.below hb h.r0.lt, h.r1.below hb h.r1.lt, h.a.below hb h.a.lt, h.own.below hb, h.fair, h.lt, h.bel.trans (hb.mono h.bel.size)⟩

theorem TS1.start {w w1 w2 : World} {a : Option Addr} {len cp : Nat} {zs : Nat → Int} {q g c n : Nat} {D : Nat → Nd} {L : Nat → Loc} {now : Int} (h1 : Below (w.heap.size + 2) ((w.alloc (.cells #[.slice none 0 0, .int .i64 0] 25)).alloc (.cells #[.slice none 0 0, .int .i64 0] 25)) w1) (hl : w.heap.size + 3 ≤ w1.heap.size)
    (h : BentD w1 (w.heap.size + 2) a len cp zs q g c n D L w2) : TS1 w w2.heap.size g c n D L now (w2.alloc (.cells #[.slice (some ⟨g, 0, none⟩) n c, .int .i64 now] 25)) := by
  have hs := h.grown.size
  obtain ⟨n0, n1, n2, n3⟩ := new2 w #[.slice none 0 0, .int .i64 0] 25 #[.slice none 0 0, .int .i64 0] 25
  have b0 := (n0.below h1 (by omega)).of_block (h.grown.block _ (by omega) (by simp))
  have b1 := (n1.below h1 (by omega)).of_block (h.grown.block _ (by omega) (by simp))
  have hbel : Below w.heap.size w w2 := ⟨h.grown.os.trans (h1.os.trans n2.os), h.grown.tape.trans (h1.tape.trans n2.tape), h.grown.output.trans (h1.output.trans n2.output), by omega, fun k hk => (h.grown.block k (by omega) (by simp; omega)).trans ((h1.block k (by omega)).trans (n2.block k hk))⟩
  have hb2 : Below w2.heap.size w2 (w2.alloc (.cells #[.slice (some ⟨g, 0, none⟩) n c, .int .i64 now] 25)) := (Below.refl _ _).alloc (Nat.le_refl _) _
  exact ⟨b0.alloc _, b1.alloc _, Blk.new w2 _ _, (h.own.lower (by omega)).below hb2, h.fair, by omega, hbel.trans (hb2.mono hbel.size)⟩

set_option maxRecDepth 100000 in
set_option maxHeartbeats 4000000 in
theorem drawTreeSame_any (w : World) (a : Option Addr) (len cap : Nat) (zs : Nat → Int) (hc : IsCode w a len zs) (hlen : len ≤ maxLen) (hcap : len ≤ cap) :
    Calls Try.prog 17 #[.slice a len cap] w (DrawTwoPost w) := by
  have hlen' := hlen
  unfold maxLen at hlen'
  go_enter Try.func17, Try.ntmps17
  go_wp2_with fail
  refine (l11Open_any _ a len cap zs hlen hcap ((hc.alloc _).alloc _)).mono ?_
  rintro e w1 ⟨rfl, hb, len', hR⟩
  have es : ((w.alloc (.cells #[.slice none 0 0, .int .i64 0] 25)).alloc (.cells #[.slice none 0 0, .int .i64 0] 25)).heap.size = w.heap.size + 2 := by simp
  rw [es] at hb hR ⊢
  have hl := hR.lt
  go_wp2_with fail
  refine (l2Bent_any w1 (w.heap.size + 2) a len' cap zs 0 hR (by omega)).mono ?_
  rintro e w2 ⟨g, c, n, D, L, now, q, rfl, hn0, hn1, hq, hd⟩
  unfold trV
  have HF : Hid (TS1 w w2.heap.size g c n D L now (w2.alloc (.cells #[.slice (some ⟨g, 0, none⟩) n c, .int .i64 now] 25))) := TS1.start hb hl hd
  clear hd hR hb hl es
  go_wp2_with fail
  obtain ⟨XA, hXA⟩ : ∃ X, X = w2.heap.size := ⟨_, rfl⟩
  rw [← hXA] at HF ⊢
  refine at_world (F := TS1 w XA g c n D L now) HF.out ?_
  clear HF hXA w2 w1
  intro W3 h3
  refine (l11Open_any W3 a len cap zs hlen hcap (hc.below h3.bel)).mono ?_
  rintro e w4 ⟨rfl, hb4, len2, hR4⟩
  have hl4 := hR4.lt
  have H3 : Hid (TS1 w XA g c n D L now W3 ∧ Below W3.heap.size W3 w4) := ⟨h3, hb4⟩
  clear h3 hb4
  go_wp2_with fail
  refine (l2Bent_any w4 W3.heap.size a len2 cap zs 0 hR4 (by omega)).mono ?_
  rintro e w5 ⟨g', c', n', D', L', now', q2, rfl, hn0', hn1', hq2, hd5⟩
  unfold trV
  have H5 : Hid (∀ z : Int, 0 ≤ z → z ≤ 1002 → TS w XA w5.heap.size g c n D L now g' c' n' D' L' z (w5.alloc (.cells #[.slice (some ⟨g', 0, none⟩) n' c', .int .i64 z] 25))) := by
    intro z hz0 hz1
    obtain ⟨h3, hb4⟩ := H3.out
    have hb5 : Below W3.heap.size W3 w5 := hb4.grown hd5.grown hb4.size (fun b e => by cases e; exact Nat.le_refl _)
    have hb6 : Below w5.heap.size w5 (w5.alloc (.cells #[.slice (some ⟨g', 0, none⟩) n' c', .int .i64 z] 25)) := (Below.refl _ _).alloc (Nat.le_refl _) _
    have h5 := h3.below hb5
    have h6 := h5.below hb6
    have hl3 := h3.a.lt
    have hs5 := hb5.size
    have hs4 := hb4.size
    have hlt := h3.lt
    have ho' : OwnT w5 (w.heap.size + 2) g' c' n' D' L' := hd5.own.lower (by omega)
    exact ⟨⟨h6.own, ho'.below hb6, h6.fair, hd5.fair, ⟨hn0, hn1⟩, ⟨hz0, hz1⟩, h6.bel⟩, h6.r0, h6.r1, h6.a, Blk.new w5 _ _, ⟨h3.lt, by omega⟩, h5.own.away (Or.inr (Nat.le_refl _)), ho'.away (Or.inr (Nat.le_refl _))⟩
  have hcode : IsCode w5 a len zs := by
    obtain ⟨h3, hb4⟩ := H3.out
    exact ((hc.below h3.bel).below (hb4.grown hd5.grown hb4.size (fun b e => by cases e; exact Nat.le_refl _)))
  have hwr : IntKind.i64.wrap (now' + 1) = now' + 1 := wrap_i64 _ (by omega) (by omega)
  clear hd5 hR4 H3 hl4 hc
  by_cases h0 : 0 < len
  · have h0i : (0 : Int) < (len : Int) := by omega
    have h0b : decide ((0 : Int) < (len : Int)) = true := by simp; omega
    obtain ⟨b, off, rfl, hbl, hcc⟩ := hcode.resolve_left (by omega)
    obtain ⟨hz, hz0, hz1⟩ := hcc 0 h0
    rw [Nat.add_zero] at hz
    have hbn : b ≠ w5.heap.size := by omega
    have hbm : w5.heap.size ≠ b := by omega
    clear hcc
    go_wp2_with fail
    · obtain ⟨XB, hXB⟩ : ∃ X, X = w5.heap.size := ⟨_, rfl⟩
      rw [← hXB] at H5 ⊢
      refine wp_world (F := TS w XA XB g c n D L now g' c' n' D' L' (now' + 1)) (H5.out (now' + 1) (by omega) (by omega)) ?_
      clear H5 hXB hz hbn hbm
      intro W9 h9
      have H9 : Hid _ := h9
      clear h9
      have ya0 : W9.cell? ⟨XA, 0, none⟩ = some (.slice (some ⟨g, 0, none⟩) n c) := H9.out.a.cell 0
      have yb0 : W9.cell? ⟨XB, 0, none⟩ = some (.slice (some ⟨g', 0, none⟩) n' c') := H9.out.b.cell 0
      have rs0 : W9.cell? ⟨w.heap.size, 0, none⟩ = some (.slice none 0 0) := H9.out.r0.cell 0
      have sf0 := H9.out.r0.frozen 0
      have rt0 : W9.cell? ⟨w.heap.size + 1, 0, none⟩ = some (.slice none 0 0) := H9.out.r1.cell 0
      have tf0 := H9.out.r1.frozen 0
      have ya1 : W9.cell? ⟨XA, 1, none⟩ = some (.int .i64 now) := H9.out.a.cell 1
      have yb1 : W9.cell? ⟨XB, 1, none⟩ = some (.int .i64 (now' + 1)) := H9.out.b.cell 1
      have rs1 : W9.cell? ⟨w.heap.size, 1, none⟩ = some (.int .i64 0) := H9.out.r0.cell 1
      have sf1 := H9.out.r0.frozen 1
      have rt1 : W9.cell? ⟨w.heap.size + 1, 1, none⟩ = some (.int .i64 0) := H9.out.r1.cell 1
      have tf1 := H9.out.r1.frozen 1
      have hxl := H9.out.lt
      have m1 : XA ≠ w.heap.size := by omega
      have m2 : XA ≠ w.heap.size + 1 := by omega
      have m3 : XB ≠ w.heap.size := by omega
      have m4 : XB ≠ w.heap.size + 1 := by omega
      have m5 : w.heap.size ≠ XA := by omega
      have m6 : w.heap.size + 1 ≠ XA := by omega
      have m7 : w.heap.size ≠ XB := by omega
      have m8 : w.heap.size + 1 ≠ XB := by omega
      have HE1 : Hid _ := H9.out.fin1.drew
      have HE2 : Hid _ := H9.out.fin2.drew
      clear H9
      go_region_held3 (fun W' => (W'.cell? ⟨XA, 0, none⟩ = some (.slice (some ⟨g, 0, none⟩) n c) ∧ W'.cell? ⟨XA, 1, none⟩ = some (.int .i64 now)) ∧ (W'.cell? ⟨XB, 0, none⟩ = some (.slice (some ⟨g', 0, none⟩) n' c') ∧ W'.cell? ⟨XB, 1, none⟩ = some (.int .i64 (now' + 1)))) (go_keep) (fail)
      all_goals
        go_wp2
        refine end_world (F := TSEnd w g c n D L now g' c' n' D' L' (now' + 1)) (by first | with_reducible exact HE1.out | with_reducible exact HE2.out) ?_
        rintro WF ⟨e0, e1, hN⟩
        have r0 := e0.cell 0
        have r1 := e0.cell 1
        have u0 := e1.cell 0
        have u1 := e1.cell 1
        simp at r0 r1 u0 u1
        exact bodyPost_ret (v := .tuple #[trV (some ⟨g, 0, none⟩) n c now, trV (some ⟨g', 0, none⟩) n' c' (now' + 1)]) (by simp [results, Try.results17, go_sem, r0, r1, u0, u1, trV]) rfl ⟨_, _, _, _, _, _, _, _, _, _, _, _, rfl, hN⟩
    · obtain ⟨XB, hXB⟩ : ∃ X, X = w5.heap.size := ⟨_, rfl⟩
      rw [← hXB] at H5 ⊢
      refine wp_world (F := TS w XA XB g c n D L now g' c' n' D' L' (now')) (H5.out (now') hn0' (by omega)) ?_
      clear H5 hXB hz hbn hbm
      intro W9 h9
      have H9 : Hid _ := h9
      clear h9
      have ya0 : W9.cell? ⟨XA, 0, none⟩ = some (.slice (some ⟨g, 0, none⟩) n c) := H9.out.a.cell 0
      have yb0 : W9.cell? ⟨XB, 0, none⟩ = some (.slice (some ⟨g', 0, none⟩) n' c') := H9.out.b.cell 0
      have rs0 : W9.cell? ⟨w.heap.size, 0, none⟩ = some (.slice none 0 0) := H9.out.r0.cell 0
      have sf0 := H9.out.r0.frozen 0
      have rt0 : W9.cell? ⟨w.heap.size + 1, 0, none⟩ = some (.slice none 0 0) := H9.out.r1.cell 0
      have tf0 := H9.out.r1.frozen 0
      have ya1 : W9.cell? ⟨XA, 1, none⟩ = some (.int .i64 now) := H9.out.a.cell 1
      have yb1 : W9.cell? ⟨XB, 1, none⟩ = some (.int .i64 now') := H9.out.b.cell 1
      have rs1 : W9.cell? ⟨w.heap.size, 1, none⟩ = some (.int .i64 0) := H9.out.r0.cell 1
      have sf1 := H9.out.r0.frozen 1
      have rt1 : W9.cell? ⟨w.heap.size + 1, 1, none⟩ = some (.int .i64 0) := H9.out.r1.cell 1
      have tf1 := H9.out.r1.frozen 1
      have hxl := H9.out.lt
      have m1 : XA ≠ w.heap.size := by omega
      have m2 : XA ≠ w.heap.size + 1 := by omega
      have m3 : XB ≠ w.heap.size := by omega
      have m4 : XB ≠ w.heap.size + 1 := by omega
      have m5 : w.heap.size ≠ XA := by omega
      have m6 : w.heap.size + 1 ≠ XA := by omega
      have m7 : w.heap.size ≠ XB := by omega
      have m8 : w.heap.size + 1 ≠ XB := by omega
      have HE1 : Hid _ := H9.out.fin1.drew
      have HE2 : Hid _ := H9.out.fin2.drew
      clear H9
      go_region_held3 (fun W' => (W'.cell? ⟨XA, 0, none⟩ = some (.slice (some ⟨g, 0, none⟩) n c) ∧ W'.cell? ⟨XA, 1, none⟩ = some (.int .i64 now)) ∧ (W'.cell? ⟨XB, 0, none⟩ = some (.slice (some ⟨g', 0, none⟩) n' c') ∧ W'.cell? ⟨XB, 1, none⟩ = some (.int .i64 now'))) (go_keep) (fail)
      all_goals
        go_wp2
        refine end_world (F := TSEnd w g c n D L now g' c' n' D' L' now') (by first | with_reducible exact HE1.out | with_reducible exact HE2.out) ?_
        rintro WF ⟨e0, e1, hN⟩
        have r0 := e0.cell 0
        have r1 := e0.cell 1
        have u0 := e1.cell 0
        have u1 := e1.cell 1
        simp at r0 r1 u0 u1
        exact bodyPost_ret (v := .tuple #[trV (some ⟨g, 0, none⟩) n c now, trV (some ⟨g', 0, none⟩) n' c' now']) (by simp [results, Try.results17, go_sem, r0, r1, u0, u1, trV]) rfl ⟨_, _, _, _, _, _, _, _, _, _, _, _, rfl, hN⟩
  · have h0b : decide ((0 : Int) < (len : Int)) = false := by simp; omega
    go_wp2_with fail
    obtain ⟨XB, hXB⟩ : ∃ X, X = w5.heap.size := ⟨_, rfl⟩
    rw [← hXB] at H5 ⊢
    refine wp_world (F := TS w XA XB g c n D L now g' c' n' D' L' now') (H5.out now' hn0' (by omega)) ?_
    clear H5 hXB
    intro W9 h9
    have H9 : Hid _ := h9
    clear h9
    have ya0 : W9.cell? ⟨XA, 0, none⟩ = some (.slice (some ⟨g, 0, none⟩) n c) := H9.out.a.cell 0
    have yb0 : W9.cell? ⟨XB, 0, none⟩ = some (.slice (some ⟨g', 0, none⟩) n' c') := H9.out.b.cell 0
    have rs0 : W9.cell? ⟨w.heap.size, 0, none⟩ = some (.slice none 0 0) := H9.out.r0.cell 0
    have sf0 := H9.out.r0.frozen 0
    have rt0 : W9.cell? ⟨w.heap.size + 1, 0, none⟩ = some (.slice none 0 0) := H9.out.r1.cell 0
    have tf0 := H9.out.r1.frozen 0
    have ya1 : W9.cell? ⟨XA, 1, none⟩ = some (.int .i64 now) := H9.out.a.cell 1
    have yb1 : W9.cell? ⟨XB, 1, none⟩ = some (.int .i64 now') := H9.out.b.cell 1
    have rs1 : W9.cell? ⟨w.heap.size, 1, none⟩ = some (.int .i64 0) := H9.out.r0.cell 1
    have sf1 := H9.out.r0.frozen 1
    have rt1 : W9.cell? ⟨w.heap.size + 1, 1, none⟩ = some (.int .i64 0) := H9.out.r1.cell 1
    have tf1 := H9.out.r1.frozen 1
    have hxl := H9.out.lt
    have m1 : XA ≠ w.heap.size := by omega
    have m2 : XA ≠ w.heap.size + 1 := by omega
    have m3 : XB ≠ w.heap.size := by omega
    have m4 : XB ≠ w.heap.size + 1 := by omega
    have m5 : w.heap.size ≠ XA := by omega
    have m6 : w.heap.size + 1 ≠ XA := by omega
    have m7 : w.heap.size ≠ XB := by omega
    have m8 : w.heap.size + 1 ≠ XB := by omega
    have HE1 : Hid _ := H9.out.fin1.drew
    have HE2 : Hid _ := H9.out.fin2.drew
    clear H9
    go_region_held3 (fun W' => (W'.cell? ⟨XA, 0, none⟩ = some (.slice (some ⟨g, 0, none⟩) n c) ∧ W'.cell? ⟨XA, 1, none⟩ = some (.int .i64 now)) ∧ (W'.cell? ⟨XB, 0, none⟩ = some (.slice (some ⟨g', 0, none⟩) n' c') ∧ W'.cell? ⟨XB, 1, none⟩ = some (.int .i64 now'))) (go_keep) (fail)
    all_goals
      go_wp2
      refine end_world (F := TSEnd w g c n D L now g' c' n' D' L' now') (by first | with_reducible exact HE1.out | with_reducible exact HE2.out) ?_
      rintro WF ⟨e0, e1, hN⟩
      have r0 := e0.cell 0
      have r1 := e0.cell 1
      have u0 := e1.cell 0
      have u1 := e1.cell 1
      simp at r0 r1 u0 u1
      exact bodyPost_ret (v := .tuple #[trV (some ⟨g, 0, none⟩) n c now, trV (some ⟨g', 0, none⟩) n' c' now']) (by simp [results, Try.results17, go_sem, r0, r1, u0, u1, trV]) rfl ⟨_, _, _, _, _, _, _, _, _, _, _, _, rfl, hN⟩
end Go.Proofs.Ytbifhfnoogjoeaa

/-
  'append([]impl.Node{}, t.Nodes...)': a copy of the places of a drawn tree, over the same lists. Plain laws.
-/
namespace Go.Proofs.Ytbifhfnoogjoeaa
open Go.RowKit Go.Deep
set_option linter.unusedVariables false

/-- An empty list of places of one's own, made since wr. -/
structure RgE (wr W : World) (e0 : Nat) : Prop where
  bel : Below wr.heap.size wr W
  own : W.ownsRow wr.heap.size 36 5 (.slice (some ⟨e0, 0, none⟩) 0 0) 0 []
  up : wr.heap.size ≤ e0
  lt : e0 < W.heap.size

theorem RgE.alloc {wr W : World} {e0 : Nat} (h : RgE wr W e0) (o : Obj) : RgE wr (W.alloc o) e0 := ⟨h.bel.alloc h.bel.size _, h.own.alloc o, h.up, by have := h.lt; simp; omega⟩

theorem rgE_new {wr W : World} (h : Below wr.heap.size wr W) : RgE wr (W.alloc (.cells #[] 36)) W.heap.size :=
  ⟨h.alloc h.size _, ⟨rfl, Or.inr ⟨W.heap.size, 0, #[], rfl, h.size, blk_alloc_new _ _, Nat.le_refl _, by unfold maxLen; omega, rfl, rfl⟩⟩, h.size, by simp⟩

theorem rgE1 (wr : World) : RgE wr (wr.drew.alloc (.cells #[] 36)) wr.heap.size := rgE_new (below_drewN (Below.refl _ _) 1)
theorem rgE2 (wr : World) (o : Obj) : RgE wr ((wr.drew.alloc o).alloc (.cells #[] 36)) (wr.heap.size + 1) := by
  have := rgE_new ((below_drewN (Below.refl wr.heap.size wr) 1).alloc (Nat.le_refl _) o)
  have e : ((wr.drewN 1).alloc o).heap.size = wr.heap.size + 1 := by simp
  rw [e] at this
  exact this
theorem rgE0 (wr : World) : RgE wr (wr.alloc (.cells #[] 36)) wr.heap.size := rgE_new (Below.refl _ _)

section
variable {W W' : World} {B g cap n : Nat} {D : Nat → Nd} {L : Nat → Loc}

/-- The cells of the row, as they are appended. -/
theorem OwnT.news (h : OwnT W B g cap n D L) : ∃ news : List Value, news.length = n * 5 ∧ (∀ u ∈ news, u.oneCell' = true) ∧ ∀ j, j < n * 5 → news[j]? = W.cell? ⟨g, j, none⟩ := by
  obtain ⟨cur, hb, hcs⟩ := h.blk
  have hr := h.room
  have hl : (cur.toList.take (n * 5)).length = n * 5 := by simp [hcs]; omega
  have hc : ∀ j, j < n * 5 → (cur.toList.take (n * 5))[j]? = W.cell? ⟨g, j, none⟩ := fun j hj => by
    rw [List.getElem?_take_of_lt hj]
    simp [World.cell?, hb]
  refine ⟨_, hl, fun u hu => ?_, hc⟩
  obtain ⟨j, hj, he⟩ := List.getElem_of_mem hu
  rw [hl] at hj
  have h1 := hc j hj
  rw [List.getElem?_eq_getElem (by rw [hl]; exact hj), he] at h1
  obtain ⟨c0, c1, c2, c3, c4⟩ := h.cells (j / 5) (by omega)
  have hj5 : j % 5 = 0 ∨ j % 5 = 1 ∨ j % 5 = 2 ∨ j % 5 = 3 ∨ j % 5 = 4 := by omega
  rcases hj5 with e | e | e | e | e
  · rw [show j = j / 5 * 5 by omega, c0] at h1; cases h1; rfl
  · rw [show j = j / 5 * 5 + 1 by omega, c1] at h1; cases h1; rfl
  · rw [show j = j / 5 * 5 + 2 by omega, c2] at h1; cases h1; rfl
  · rw [show j = j / 5 * 5 + 3 by omega, c3] at h1; cases h1; rfl
  · rw [show j = j / 5 * 5 + 4 by omega, c4] at h1; cases h1; rfl

theorem OwnT.copied (h : OwnT W B g cap n D L) (hB : B ≤ W.heap.size) {news : List Value} (hnews : ∀ j, j < n * 5 → news[j]? = W.cell? ⟨g, j, none⟩) (hbel : Below W.heap.size W W') {g' c' : Nat} (hg' : W.heap.size ≤ g')
    (hown : W'.ownsRow W.heap.size 36 5 (.slice (some ⟨g', 0, none⟩) n c') n news) : OwnT W' B g' c' n D L := by
  rcases hown.2 with ⟨h0, _⟩ | ⟨g2, cap2, cur2, hv, hb2, hblk2, hn2, hm2, hs2, ht2⟩
  · cases h0
  cases hv
  have cell2 : ∀ j, j < n * 5 → W'.cell? ⟨g', j, none⟩ = W.cell? ⟨g, j, none⟩ := fun j hj => by
    rw [← hnews j hj, ← ht2, List.getElem?_take_of_lt hj]
    simp [World.cell?, hblk2]
  have hb := hbel.size
  refine ⟨⟨cur2, hblk2, hs2⟩, by omega, hn2, hm2, fun i hi => ?_, fun i hi => ?_⟩
  · rw [cell2 _ (by omega), cell2 _ (by omega), cell2 _ (by omega), cell2 _ (by omega), cell2 _ (by omega)]
    exact h.cells i hi
  · obtain ⟨h1, h3, h4⟩ := h.lists i hi
    exact ⟨h1.below (Nat.le_refl _) hbel, fun b o x e => by have := h3 b o x e; omega, fun b o x e => by have := h4 b o x e; omega⟩
end

theorem infoNode' : (Try.prog.info? 36).map (fun i => (i.zero, i.size, i.bytes)) = some (some (.agg #[.int .i64 0, .string ByteArray.empty, .slice none 0 0, .slice none 0 0, .int .i64 0]), 5, 80) := by kernel_rfl

/-- The append, at a step of a drawn region. -/
theorem copy_step {ops : Array Oper} {o : Oper} {a : Act} {K : Act → World → Prop} {Q : Exit → Act → World → Prop} {E : Prop} {wr WA : World} {e0 : Nat} (hgd : o.guard = none) (s x : Operand) (ho : o.op = .call { callee := .builtin .append, args := #[s, x], argTypes := #[23, 23] }) (hA : RgE wr WA e0)
    {B g cap n : Nat} {D : Nat → Nd} {L : Nat → Loc} (h : OwnT wr B g cap n D L) (hB : B ≤ wr.heap.size) (hn : n ≤ 1000) (hn1 : 1 ≤ n) (hs : a.eval s = .slice (some ⟨e0, 0, none⟩) 0 0) (hx : a.eval x = .slice (some ⟨g, 0, none⟩) n cap)
    (k : ∀ g' c' w', OwnT w' B g' c' n D L → wr.heap.size ≤ g' → Below wr.heap.size wr w' → WA.grownBy w' (some e0) → (g' = e0 ∨ WA.heap.size ≤ g') → K (a.put o.dst (.slice (some ⟨g', 0, none⟩) n c')) w') : if Region.wanted o (yielded ops a.tmps) = true then Oper.wp Try.prog o a WA K Q else E := by
  obtain ⟨i0, hi0, hz0, hz1, hz2⟩ := info_parts infoNode'
  obtain ⟨news, hl, h1, hc⟩ := h.news
  have hsz := hA.bel.size
  have hlt := h.lt
  have hw : Region.wanted o (yielded ops a.tmps) = true := by simp [Region.wanted, hgd]
  rw [if_pos hw]
  refine wp_append_lies WA s x 23 ho wr.heap.size 36 i0 _ 5 80 Try.underlying23 hi0 hz0 hz1 hz2 rfl (by decide) (.slice (some ⟨e0, 0, none⟩) 0 0) 0 [] hs hA.own ⟨g, 0, none⟩ n cap news hx hl (fun j u hu => ?_) h1 (by omega) (by unfold maxLen; omega) (by omega) hsz WA.heap.size rfl ?_
  · have hj : j < n * 5 := by
      rcases Nat.lt_or_ge j (n * 5) with e | e
      · exact e
      · rw [List.getElem?_eq_none (by omega)] at hu; cases hu
    rw [hc j hj] at hu
    rw [show (⟨g, 0, none⟩ : Addr).add j = ⟨g, j, none⟩ by unfold Addr.add; split <;> simp_all]
    exact (hA.bel.cell (p := ⟨g, j, none⟩) hlt).trans hu
  · intro g' c' w' hown hgrow hat hlt'
    have hgr : WA.grownBy w' (some e0) := by simpa [Value.ownBlock] using hgrow
    have hup := hA.up
    have hbel : Below wr.heap.size wr w' := hA.bel.grown hgr hsz (fun b e => by simp at e; omega)
    have hg' : wr.heap.size ≤ g' := by
      rcases hat with e | e
      · simp [Value.ownBlock] at e; omega
      · omega
    simp only [Nat.zero_add, List.nil_append] at hown
    have := k g' c' w' (h.copied hB hc hbel hg' hown) hg' hbel hgr (hat.elim (fun e => Or.inl (by simpa [Value.ownBlock] using e.symm)) (fun e => Or.inr (by omega)))
    simpa using this
end Go.Proofs.Ytbifhfnoogjoeaa

/-
  What TreeRefs of the specification answers.
-/
namespace Go.Proofs.Ytbifhfnoogjoeaa
open Go.RowKit
set_option linter.unusedVariables false

/-- How many names a place of a tree has; 0, if it is none. -/
structure RefsAre (n : Nat) (D : Nat → Nd) (now ino r : Int) : Prop where
  yes : TreeGood n D now → 0 ≤ ino → ino < n → r = refsTo D ino n
  no : ¬ (TreeGood n D now ∧ 0 ≤ ino ∧ ino < n) → r = 0

theorem RefsAre.one {n : Nat} {D : Nat → Nd} {now ino r r' : Int} (h : RefsAre n D now ino r) (h' : RefsAre n D now ino r') : r = r' := by
  by_cases g : TreeGood n D now ∧ 0 ≤ ino ∧ ino < n
  · rw [h.yes g.1 g.2.1 g.2.2, h'.yes g.1 g.2.1 g.2.2]
  · rw [h.no g, h'.no g]

set_option maxHeartbeats 2000000 in
theorem specTreeRefs_any (a : Option Addr) (n c : Nat) (now ino : Int) (D : Nat → Nd) (L : Nat → Loc) (w : World) (hS : IsNds w a n D L) (hf : FitAll n D) (hn : n ≤ maxLen) (hsz : sizeTo D n ≤ 1048576) :
    Calls Try.prog 23 #[trV a n c now, .int .i64 ino] w fun e w' => Below w.heap.size w w' ∧ ∃ r : Int, e = .returned (.int .i64 r) ∧ RefsAre n D now ino r := by
  unfold trV
  go_enter Try.func23, Try.ntmps23
  go_wp2_with fail
  refine at_world (F := New1 w _ _) (new1 w _ _) ?_
  rintro W ⟨hp, hb, hs⟩
  have hS0 := hS.below (Nat.le_refl _) hb
  refine (specTreeOk_any a n c now D L W hS0 hf hn hsz).mono ?_
  rintro e w1 ⟨hb1, r, rfl, hr⟩
  have hp1 := hp.below hb1 (by omega)
  have p0 : w1.cell? ⟨w.heap.size, 0, none⟩ = some (.slice a n c) := hp1.cell 0
  have p1 : w1.cell? ⟨w.heap.size, 1, none⟩ = some (.int .i64 now) := hp1.cell 1
  have HB : Hid (Below w.heap.size w w1 ∧ (r = true ↔ TreeGood n D now)) := ⟨hb.trans (hb1.mono (by omega)), hr⟩
  have hn' := hn
  unfold maxLen at hn'
  clear hp hb hs hS0 hb1 hp1 hr
  cases r with
  | false =>
    have HN : Hid (¬ TreeGood n D now) := fun h => by have := HB.out.2.2 h; cases this
    go_wp2_with fail
    go_ret
    exact ⟨HB.out.1, 0, rfl, fun h => absurd h HN.out, fun _ => rfl⟩
  | true =>
    have HN : Hid (TreeGood n D now) := HB.out.2.1 rfl
    by_cases h1 : ino < 0
    · have hb1 : decide (ino < 0) = true := by simp; omega
      go_wp2_with fail
      go_ret
      exact ⟨HB.out.1, 0, rfl, fun _ h => by omega, fun _ => rfl⟩
    · have hb1 : decide (ino < 0) = false := by simp; omega
      by_cases h2 : (n : Int) ≤ ino
      · have hb2 : decide ((n : Int) ≤ ino) = true := by simp; omega
        go_wp2_with fail
        go_ret
        exact ⟨HB.out.1, 0, rfl, fun _ _ h => by omega, fun _ => rfl⟩
      · have hb2 : decide ((n : Int) ≤ ino) = false := by simp; omega
        go_wp2_with fail
        refine (l2Refs_any a n c now ino D L w1 (hS.below (Nat.le_refl _) HB.out.1) hsz hn).mono ?_
        rintro e w2 ⟨hb2', rfl⟩
        have HB2 : Hid (Below w.heap.size w w2) := HB.out.1.trans (hb2'.mono HB.out.1.size)
        clear hb2'
        go_wp2_with fail
        go_ret
        exact ⟨HB2.out, _, rfl, fun _ _ _ => rfl, fun h => absurd ⟨HN.out, by omega, by omega⟩ h⟩
end Go.Proofs.Ytbifhfnoogjoeaa

/-
  What is known of the names of a tree that is ok: how many there are, and to what. Plain facts.
-/
namespace Go.Proofs.Ytbifhfnoogjoeaa
open Go.RowKit
set_option linter.unusedVariables false

section
variable {n : Nat} {D : Nat → Nd} {now : Int}

theorem TreeGood.kids (h : TreeGood n D now) {i : Nat} (hi : i < n) {j : Nat} (hj : j < (D i).kn) : 1 ≤ (D i).kids j ∧ (D i).kids j < n ∧ (D ((D i).kids j).toNat).kind ≠ 0 := by
  have hk := h.nodes i hi
  unfold ndOk at hk
  split at hk
  · unfold freeOk at hk; simp at hk; omega
  split at hk
  · unfold fileOk at hk; simp at hk; omega
  split at hk
  · unfold dirOk at hk
    simp only [Bool.and_eq_true] at hk
    obtain ⟨⟨⟨⟨_, _⟩, hk, _⟩, _⟩, _⟩ := hk
    unfold kidsOk at hk
    have := List.all_eq_true.1 hk j (by simpa using hj)
    unfold kidOk at this
    simp at this
    exact ⟨this.1.1, this.1.2, this.2⟩
  · cases hk

theorem TreeGood.kinds (h : TreeGood n D now) {i : Nat} (hi : i < n) : (D i).kind = 0 ∨ (D i).kind = 1 ∨ (D i).kind = 2 := by
  have hk := h.nodes i hi
  unfold ndOk at hk
  split at hk
  · exact Or.inl ‹_›
  split at hk
  · exact Or.inr (Or.inl ‹_›)
  split at hk
  · exact Or.inr (Or.inr ‹_›)
  · cases hk

theorem TreeGood.kn_nn (h : TreeGood n D now) {i : Nat} (hi : i < n) : (D i).kn = (D i).nn := by
  have hk := h.nodes i hi
  unfold ndOk at hk
  split at hk
  · unfold freeOk at hk; simp at hk; omega
  split at hk
  · unfold fileOk at hk; simp at hk; omega
  split at hk
  · unfold dirOk at hk
    simp at hk
    exact hk.1.1.2.2
  · cases hk

theorem cnt_zero {Z : Nat → Int} {z : Int} : ∀ k, (∀ j, j < k → Z j ≠ z) → cnt Z z k = 0
  | 0, _ => rfl
  | k + 1, h => by
    rw [show cnt Z z (k + 1) = cnt Z z k + (if Z k = z then 1 else 0) from rfl, cnt_zero k (fun j hj => h j (by omega)), if_neg (h k (by omega))]

theorem cnt_pos {Z : Nat → Int} {z : Int} {j : Nat} (h : Z j = z) : ∀ k, j < k → 1 ≤ cnt Z z k
  | 0, hk => by omega
  | k + 1, hk => by
    rw [show cnt Z z (k + 1) = cnt Z z k + (if Z k = z then 1 else 0) from rfl]
    by_cases e : j = k
    · subst e; rw [if_pos h]; omega
    · have := cnt_pos h k (by omega); omega

theorem refsTo_zero {z : Int} : ∀ m, (∀ i, i < m → ∀ j, j < (D i).kn → (D i).kids j ≠ z) → refsTo D z m = 0
  | 0, _ => rfl
  | m + 1, h => by
    rw [show refsTo D z (m + 1) = refsTo D z m + cnt (D m).kids z (D m).kn from rfl, refsTo_zero m (fun i hi => h i (by omega)), cnt_zero _ (h m (by omega))]

theorem refsTo_pos {z : Int} {i j : Nat} (hj : j < (D i).kn) (h : (D i).kids j = z) : ∀ m, i < m → 1 ≤ refsTo D z m
  | 0, hm => by omega
  | m + 1, hm => by
    rw [show refsTo D z (m + 1) = refsTo D z m + cnt (D m).kids z (D m).kn from rfl]
    by_cases e : i = m
    · subst e; have := cnt_pos h _ hj; omega
    · have := refsTo_pos hj h m (by omega); omega

theorem TreeGood.refs_root (h : TreeGood n D now) : refsTo D 0 n = 0 := refsTo_zero n fun i hi j hj e => by have := (h.kids hi hj).1; omega

theorem TreeGood.refs_free (h : TreeGood n D now) {z : Nat} (hz : (D z).kind = 0) : refsTo D z n = 0 := refsTo_zero n fun i hi j hj e => by
  have := (h.kids hi hj).2.2
  rw [e] at this
  exact this (by simpa using hz)

theorem TreeGood.refs_file (h : TreeGood n D now) {z : Nat} (hz : z < n) (hk : (D z).kind ≠ 0) (h1 : 1 ≤ z) : 1 ≤ refsTo D z n := by
  have hr := (h.reach z h1 hz).2 hk
  cases hr with
  | root => omega
  | step hi' hin hj =>
    rename_i i j
    have hk := h.kids hin hj
    exact refsTo_pos hj (by omega) n hin

/-- The sum over the first k places of how many names they have. -/
def refSum (D : Nat → Nd) (m : Nat) : Nat → Nat | 0 => 0 | k + 1 => refSum D m k + refsTo D (k : Nat) m
def cntSum (Z : Nat → Int) (m : Nat) : Nat → Nat | 0 => 0 | k + 1 => cntSum Z m k + cnt Z (k : Nat) m
/-- The sum over the first k places of how many names are in them. -/
def nameSum (D : Nat → Nd) : Nat → Nat | 0 => 0 | k + 1 => nameSum D k + (D k).nn

theorem cntSum_succ {Z : Nat → Int} {m : Nat} : ∀ k, cntSum Z (m + 1) k = cntSum Z m k + (if 0 ≤ Z m ∧ Z m < k then 1 else 0)
  | 0 => by
    have : ¬ (0 ≤ Z m ∧ Z m < (0 : Nat)) := by omega
    rw [if_neg this]; rfl
  | k + 1 => by
    rw [show cntSum Z (m + 1) (k + 1) = cntSum Z (m + 1) k + cnt Z (k : Nat) (m + 1) from rfl, cntSum_succ k, show cntSum Z m (k + 1) = cntSum Z m k + cnt Z (k : Nat) m from rfl, show cnt Z (k : Nat) (m + 1) = cnt Z (k : Nat) m + (if Z m = (k : Nat) then 1 else 0) from rfl]
    split <;> split <;> split <;> omega

theorem cntSum_all {Z : Nat → Int} {k : Nat} : ∀ m, (∀ j, j < m → 0 ≤ Z j ∧ Z j < k) → cntSum Z m k = m
  | 0, _ => by
    induction k with
    | zero => rfl
    | succ k ih => rw [show cntSum Z 0 (k + 1) = cntSum Z 0 k + cnt Z (k : Nat) 0 from rfl, ih (fun j hj => absurd hj (Nat.not_lt_zero _))]; rfl
  | m + 1, h => by rw [cntSum_succ, cntSum_all m (fun j hj => h j (by omega)), if_pos (h m (by omega))]

theorem refSum_succ {m : Nat} : ∀ k, refSum D (m + 1) k = refSum D m k + cntSum (D m).kids (D m).kn k
  | 0 => rfl
  | k + 1 => by
    rw [show refSum D (m + 1) (k + 1) = refSum D (m + 1) k + refsTo D (k : Nat) (m + 1) from rfl, refSum_succ k, show refSum D m (k + 1) = refSum D m k + refsTo D (k : Nat) m from rfl, show refsTo D (k : Nat) (m + 1) = refsTo D (k : Nat) m + cnt (D m).kids (k : Nat) (D m).kn from rfl, show cntSum (D m).kids (D m).kn (k + 1) = cntSum (D m).kids (D m).kn k + cnt (D m).kids (k : Nat) (D m).kn from rfl]
    omega

theorem refSum_zero : ∀ k, refSum D 0 k = 0
  | 0 => rfl
  | k + 1 => by rw [show refSum D 0 (k + 1) = refSum D 0 k + refsTo D (k : Nat) 0 from rfl, refSum_zero k]; rfl

theorem TreeGood.sums (h : TreeGood n D now) : ∀ m, m ≤ n → refSum D m n = nameSum D m
  | 0, _ => refSum_zero n
  | m + 1, hm => by
    rw [refSum_succ, h.sums m (by omega), cntSum_all _ (fun j hj => by have := h.kids (show m < n by omega) hj; omega), h.kn_nn (show m < n by omega)]
    rfl

theorem nameSum_le (D : Nat → Nd) : ∀ k, nameSum D k ≤ sizeTo D k
  | 0 => Nat.le_refl _
  | k + 1 => by
    have := nameSum_le D k
    rw [show nameSum D (k + 1) = nameSum D k + (D k).nn from rfl, sizeTo_succ]
    unfold Nd.size
    omega

theorem refSum_le (D : Nat → Nd) (m : Nat) : ∀ k, refSum D m k ≤ k * sizeTo D m
  | 0 => by simp [refSum]
  | k + 1 => by
    have h1 := refSum_le D m k
    have h2 := refsTo_le D (k : Nat) m
    rw [show refSum D m (k + 1) = refSum D m k + refsTo D (k : Nat) m from rfl, Nat.add_mul]
    omega
end
end Go.Proofs.Ytbifhfnoogjoeaa

/-
  More of where ways lead in a tree that is ok. Plain facts.
-/
namespace Go.Proofs.Ytbifhfnoogjoeaa
open Go.RowKit
set_option linter.unusedVariables false

section
variable {n : Nat} {D : Nat → Nd} {now : Int} {S S' : Nat → ByteArray}

theorem Leads.ext {m x : Nat} (h : Leads D S m x) : (∀ i, i < m → S' i = S i) → Leads D S' m x := by
  induction h with
  | root => intro _; exact Leads.root
  | step hl hi he ih =>
    intro hs
    exact Leads.step (ih (fun i hi => hs i (by omega))) hi (by rw [hs _ (Nat.lt_succ_self _)]; exact he)

theorem Leads.reach (hg : TreeGood n D now) {m x : Nat} (h : Leads D S m x) : Reach n D x := by
  induction h with
  | root => exact Reach.root
  | step hl hi he ih =>
    have hx := hl.lt hg
    exact Reach.step ih hx (by rw [hg.kn_nn hx]; exact hi)

theorem Leads.live (hg : TreeGood n D now) {m x : Nat} (h : Leads D S m x) : (D x).kind ≠ 0 := by
  rcases Nat.eq_zero_or_pos x with e | e
  · subst e; rw [hg.root]; decide
  · exact (hg.reach x e (h.lt hg)).1 (h.reach hg)

theorem TreeGood.name (hg : TreeGood n D now) {x : Nat} (hx : x < n) {i : Nat} (hi : i < (D x).nn) : nameOk ((D x).names i).data.toList = true := by
  have hd := (dir_of_names (hg.nodes x hx) (by omega)).2.1
  unfold dirNames at hd
  have := List.all_eq_true.1 hd i (by simpa using hi)
  simp only [Bool.and_eq_true] at this
  exact this.1

theorem cnt_two {Z : Nat → Int} {z : Int} {i j : Nat} (hij : j < i) (hj : Z j = z) (hi : Z i = z) : ∀ k, i < k → 2 ≤ cnt Z z k
  | 0, hk => by omega
  | k + 1, hk => by
    rw [show cnt Z z (k + 1) = cnt Z z k + (if Z k = z then 1 else 0) from rfl]
    by_cases e : i = k
    · subst e; rw [if_pos hi]; have := cnt_pos hj i hij; omega
    · have := cnt_two hij hj hi k (by omega); omega

theorem refsTo_two {z : Int} {x i j : Nat} (hij : j < i) (hi : i < (D x).kn) (h1 : (D x).kids j = z) (h2 : (D x).kids i = z) : ∀ m, x < m → 2 ≤ refsTo D z m
  | 0, hm => by omega
  | m + 1, hm => by
    rw [show refsTo D z (m + 1) = refsTo D z m + cnt (D m).kids z (D m).kn from rfl]
    by_cases e : x = m
    · subst e; have := cnt_two hij h1 h2 _ hi; omega
    · have := refsTo_two hij hi h1 h2 m (by omega); omega

theorem pathOk_more {m : Nat} {s : ByteArray} (h : pathOk m S = true) (hm : m < 5) (hs : nameOk s.data.toList = true) : pathOk (m + 1) (catS m S (fun _ => s)) = true := by
  unfold pathOk at *
  simp only [Bool.and_eq_true, decide_eq_true_eq] at *
  refine ⟨?_, by omega⟩
  have h1 := h.1
  unfold namesOk at *
  rw [List.all_eq_true] at *
  intro i hi
  have hi' : i < m + 1 := by simpa using hi
  unfold catS
  by_cases e : i < m
  · rw [if_pos e]; exact h1 i (by simpa using e)
  · rw [if_neg e]; exact hs

theorem leads_more {m x i : Nat} (h : Leads D S m x) (hi : i < (D x).nn) : Leads D (catS m S (fun _ => (D x).names i)) (m + 1) ((D x).kids i).toNat :=
  Leads.step (h.ext (fun j hj => by unfold catS; rw [if_pos hj])) hi (by unfold catS; rw [if_neg (Nat.lt_irrefl _)])
end
end Go.Proofs.Ytbifhfnoogjoeaa

/-
  A tree with free places more, behind all. Plain facts.
-/
namespace Go.Proofs.Ytbifhfnoogjoeaa
open Go.RowKit
set_option linter.unusedVariables false

/-- Places that are free behind the first n. -/
def padT (D : Nat → Nd) (n : Nat) : Nat → Nd := fun i => if i < n then D i else leafNd 0 0

theorem pad_lt (D : Nat → Nd) {n i : Nat} (h : i < n) : padT D n i = D i := by simp [padT, h]
theorem pad_ge (D : Nat → Nd) {n i : Nat} (h : n ≤ i) : padT D n i = leafNd 0 0 := by simp [padT, Nat.not_lt.2 h]

section
variable {n m : Nat} {D : Nat → Nd} {now : Int} {S : Nat → ByteArray}

theorem pad_refs {z : Int} : ∀ k, k ≤ n → refsTo (padT D n) z k = refsTo D z k
  | 0, _ => rfl
  | k + 1, h => by
    rw [show refsTo (padT D n) z (k + 1) = refsTo (padT D n) z k + cnt (padT D n k).kids z (padT D n k).kn from rfl, pad_refs k (by omega), pad_lt D (show k < n by omega)]
    rfl

theorem pad_refs_more {z : Int} : ∀ k, refsTo (padT D n) z (n + k) = refsTo D z n
  | 0 => pad_refs n (Nat.le_refl _)
  | k + 1 => by
    rw [show refsTo (padT D n) z (n + (k + 1)) = refsTo (padT D n) z (n + k) + cnt (padT D n (n + k)).kids z (padT D n (n + k)).kn from rfl, pad_refs_more k, pad_ge D (Nat.le_add_right n k)]
    rfl

theorem pad_reach (hg : TreeGood n D now) {i : Nat} (h : Reach m (padT D n) i) : i < n ∧ Reach n D i := by
  induction h with
  | root => exact ⟨hg.some, Reach.root⟩
  | step hr hi hj ih =>
    obtain ⟨h1, h2⟩ := ih
    rw [pad_lt D h1] at hj ⊢
    have hk := hg.kids h1 hj
    exact ⟨by omega, Reach.step h2 h1 hj⟩

theorem reach_pad (hg : TreeGood n D now) (hm : n ≤ m) {i : Nat} (h : Reach n D i) : Reach m (padT D n) i := by
  induction h with
  | root => exact Reach.root
  | step hr hi hj ih =>
    rename_i i j
    have := Reach.step (n := m) (D := padT D n) (i := i) (j := j) ih (by omega) (by rw [pad_lt D hi]; exact hj)
    rwa [pad_lt D hi] at this

theorem pad_nd (hg : TreeGood n D now) (hm : n ≤ m) {i : Nat} (hi : i < n) : ndOk m (padT D n) now (D i) = true := by
  have hk := hg.nodes i hi
  unfold ndOk at hk ⊢
  split
  · rename_i h; rw [if_pos h] at hk; exact hk
  · rename_i h; rw [if_neg h] at hk
    split
    · rename_i h1; rw [if_pos h1] at hk; exact hk
    · rename_i h1; rw [if_neg h1] at hk
      split
      · rename_i h2; rw [if_pos h2] at hk
        unfold dirOk at hk ⊢
        simp only [Bool.and_eq_true] at hk ⊢
        obtain ⟨⟨⟨⟨a1, a2⟩, a3, a4⟩, a5⟩, a6⟩ := hk
        refine ⟨⟨⟨⟨a1, a2⟩, ?_, a4⟩, a5⟩, a6⟩
        unfold kidsOk at a3 ⊢
        rw [List.all_eq_true] at a3 ⊢
        intro j hj
        have := a3 j hj
        unfold kidOk at this ⊢
        simp only [Bool.and_eq_true, decide_eq_true_eq] at this ⊢
        obtain ⟨⟨b1, b2⟩, b3⟩ := this
        refine ⟨⟨b1, by omega⟩, ?_⟩
        rw [pad_lt D (by omega)]
        exact b3
      · rename_i h2; rw [if_neg h2] at hk; exact hk

theorem pad_good (hg : TreeGood n D now) (hm : n ≤ m) (h10 : m ≤ 10) : TreeGood m (padT D n) now := by
  have h1 := hg.some
  refine ⟨by omega, h10, hg.begun, hg.soon, by rw [pad_lt D h1]; exact hg.root, fun i hi => ?_, fun i h1i hi => ?_, fun i h1i hi hk => ?_⟩
  · by_cases e : i < n
    · rw [pad_lt D e]; exact pad_nd hg hm e
    · rw [pad_ge D (by omega)]
      unfold ndOk leafNd
      rw [if_pos rfl]
      unfold freeOk
      simp
  · by_cases e : i < n
    · rw [pad_lt D e]
      exact ⟨fun h => (hg.reach i h1i e).1 (pad_reach hg h).2, fun h => reach_pad hg hm ((hg.reach i h1i e).2 h)⟩
    · rw [pad_ge D (by omega)]
      exact ⟨fun h => absurd (pad_reach hg h).1 e, fun h => absurd rfl h⟩
  · by_cases e : i < n
    · rw [pad_lt D e] at hk
      obtain ⟨k, rfl⟩ : ∃ k, m = n + k := ⟨m - n, by omega⟩
      rw [pad_refs_more k]
      exact hg.one i h1i e hk
    · rw [pad_ge D (by omega)] at hk
      exact absurd hk (by simp [leafNd])

theorem leads_pad (hg : TreeGood n D now) {k x : Nat} (h : Leads D S k x) : Leads (padT D n) S k x := by
  induction h with
  | root => exact Leads.root
  | step hl hi he ih =>
    rename_i k x i
    have hx := hl.lt hg
    have := Leads.step (D := padT D n) (S := S) (k := k) (x := x) (i := i) ih (by rw [pad_lt D hx]; exact hi) (by rw [pad_lt D hx]; exact he)
    rwa [pad_lt D hx] at this

theorem pad_leads (hg : TreeGood n D now) {k x : Nat} (h : Leads (padT D n) S k x) : Leads D S k x := by
  induction h with
  | root => exact Leads.root
  | step hl hi he ih =>
    have hx := ih.lt hg
    rw [pad_lt D hx] at hi he ⊢
    exact Leads.step ih hi he

theorem find_pad (hg : TreeGood n D now) (hm : n ≤ m) (h10 : m ≤ 10) {k : Nat} {r : Int} (h : FindAre n D now k S r) {r' : Int} (h' : FindAre m (padT D n) now k S r') : r' = r := by
  by_cases g : pathOk k S = true ∧ ∃ x, Leads D S k x
  · obtain ⟨g1, x, g2⟩ := g
    rw [h.yes hg g1 x g2, h'.yes (pad_good hg hm h10) g1 x (leads_pad hg g2)]
  · rw [h.no (fun e => g e.2), h'.no (fun e => g ⟨e.2.1, e.2.2.choose, pad_leads hg e.2.2.choose_spec⟩)]
end
end Go.Proofs.Ytbifhfnoogjoeaa

/-
  A copy of a drawn tree in a variable, with free places more. Plain facts.
-/
namespace Go.Proofs.Ytbifhfnoogjoeaa
open Go.RowKit Go.Deep
set_option linter.unusedVariables false

def padL (L : Nat → Loc) (n : Nat) : Nat → Loc := fun i => if i < n then L i else loc00

theorem OwnT.congr {W : World} {B g cap n : Nat} {D D' : Nat → Nd} {L L' : Nat → Loc} (h : OwnT W B g cap n D L) (hd : ∀ i, i < n → D' i = D i) (hl : ∀ i, i < n → L' i = L i) : OwnT W B g cap n D' L' :=
  ⟨h.blk, h.base, h.room, h.most, fun i hi => by rw [hd i hi, hl i hi]; exact h.cells i hi, fun i hi => by rw [hd i hi, hl i hi]; exact h.lists i hi⟩

/-- What is known of the copy x, which lies in block X: k places. -/
structure InX (w W4 : World) (X g' c' n k : Nat) (D : Nat → Nd) (L : Nat → Loc) (now : Int) (W : World) : Prop where
  bel : Below W4.heap.size W4 W
  x : Blk W X #[.slice (some ⟨g', 0, none⟩) k c', .int .i64 now] 25
  own : OwnT W w.heap.size g' c' k (padT D n) (padL L n)
  far : W4.heap.size ≤ X ∧ W4.heap.size ≤ g' ∧ g' ≠ X
  low : ∀ i, i < n → (∀ b o y, (L i).nA = some ⟨b, o, y⟩ → b < W4.heap.size) ∧ (∀ b o y, (L i).kA = some ⟨b, o, y⟩ → b < W4.heap.size)

theorem InX.away {w W4 : World} {X g' c' n k : Nat} {D : Nat → Nd} {L : Nat → Loc} {now : Int} {W : World} (h : InX w W4 X g' c' n k D L now W) : Away (fun b => b = X) g' k (padL L n) :=
  ⟨h.far.2.2, fun i hi => by
    unfold padL
    by_cases e : i < n
    · rw [if_pos e]
      exact ⟨fun b o y e1 e2 => by have := (h.low i e).1 b o y e1; have := h.far.1; omega, fun b o y e1 e2 => by have := (h.low i e).2 b o y e1; have := h.far.1; omega⟩
    · rw [if_neg e]
      exact ⟨fun b o y e1 => by simp [loc00] at e1, fun b o y e1 => by simp [loc00] at e1⟩⟩

/-- The copy has been made. -/
theorem InX.start {w W4 w7 W : World} {X g g' c c' n : Nat} {D : Nat → Nd} {L : Nat → Loc} {now : Int} (h4 : OwnT W4 w.heap.size g c n D L) (h7 : OwnT w7 w.heap.size g' c' n D L) (hg7 : W4.heap.size ≤ g') (hb : Below W4.heap.size W4 w7) (hX : W4.heap.size ≤ X) (hgX : g' ≠ X)
    (hs : w7.heap.size ≤ W.heap.size) (hW : ∀ b, b < w7.heap.size → b ≠ X → W.heap[b]? = w7.heap[b]?) (hos : W.os = w7.os ∧ W.tape = w7.tape ∧ W.output = w7.output) (hx : Blk W X #[.slice (some ⟨g', 0, none⟩) n c', .int .i64 now] 25) : InX w W4 X g' c' n n D L now W := by
  have hlow : ∀ i, i < n → (∀ b o y, (L i).nA = some ⟨b, o, y⟩ → b < W4.heap.size) ∧ (∀ b o y, (L i).kA = some ⟨b, o, y⟩ → b < W4.heap.size) := fun i hi => ⟨fun b o y e => ((h4.lists i hi).2.1 b o y e).2.2, fun b o y e => ((h4.lists i hi).2.2 b o y e).2.2⟩
  have hsz := hb.size
  have ha : Away (fun b => b = X) g' n L := ⟨hgX, fun i hi => ⟨fun b o y e e2 => by have := (hlow i hi).1 b o y e; omega, fun b o y e e2 => by have := (hlow i hi).2 b o y e; omega⟩⟩
  refine ⟨⟨hos.1.trans hb.os, hos.2.1.trans hb.tape, hos.2.2.trans hb.output, by omega, fun k hk => (hW k (by omega) (by omega)).trans (hb.block k hk)⟩, hx, ?_, ⟨hX, hg7, hgX⟩, hlow⟩
  exact (h7.other ha hs (fun b h1 h2 h3 => hW b h2 h3)).congr (fun i hi => pad_lt D hi) (fun i hi => by simp [padL, hi])


/-- A free place more: t.Nodes is appended to and written. -/
theorem InX.more {w W4 : World} {X g' c' n k : Nat} {D : Nat → Nd} {L : Nat → Loc} {now : Int} {W W' : World} (h : InX w W4 X g' c' n k D L now W) (hk : n ≤ k) {cur : Array Value} (hc : W.heap[g']? = some (.cells cur 36 (0, 0))) (hs : cur.size = c' * 5) {g2 c2 : Nat}
    (hown : W'.ownsRow w.heap.size 36 5 (.slice (some ⟨g2, 0, none⟩) (k + 1) c2) (k + 1) (cur.toList.take (k * 5) ++ leafCells 0 0)) (hgrow : W.grownBy W' (some g')) (hat : g' = g2 ∨ W.heap.size ≤ g2) :
    InX w W4 X g2 c2 n (k + 1) D L now (W'.setCell ⟨X, 0, none⟩ (.slice (some ⟨g2, 0, none⟩) (k + 1) c2)) := by
  have hf := h.far
  have hsz := h.bel.size
  have hxl := h.x.lt
  have hgl := h.own.lt
  have ho := h.own.appL hc hs hown hgrow hat
  have eD : putNd (padT D n) k (leafNd 0 0) = padT D n := by
    funext j
    by_cases e : j = k
    · subst e; rw [putNd_same, pad_ge D hk]
    · rw [putNd_ne _ _ e]
  have eL : putLoc (padL L n) k loc00 = padL L n := by
    funext j
    by_cases e : j = k
    · subst e; simp [putLoc, padL, Nat.not_lt.2 hk]
    · simp [putLoc, e]
  rw [eD, eL] at ho
  have hb : ∀ b, b < W.heap.size → b ≠ g' → W'.heap[b]? = W.heap[b]? := fun b h1 h2 => hgrow.block b h1 (by simpa using h2)
  have hf2 : W4.heap.size ≤ g2 ∧ g2 ≠ X := by rcases hat with e | e <;> omega
  have ha : Away (fun b => b = X) g2 (k + 1) (padL L n) := ⟨hf2.2, fun i hi => by
    unfold padL
    by_cases e : i < n
    · rw [if_pos e]
      exact ⟨fun b o y e1 e2 => by have := (h.low i e).1 b o y e1; omega, fun b o y e1 e2 => by have := (h.low i e).2 b o y e1; omega⟩
    · rw [if_neg e]
      exact ⟨fun b o y e1 => by simp [loc00] at e1, fun b o y e1 => by simp [loc00] at e1⟩⟩
  refine ⟨?_, (h.x.of_block (hb X hxl (Ne.symm hf.2.2))).set 0 _, ho.setOther ha rfl _ _, ⟨hf.1, hf2.1, hf2.2⟩, h.low⟩
  have hg2 := hgrow.size
  exact bel_put (h.bel.grown hgrow hsz (fun b e => by simp at e; omega)) _ hf.1

theorem InX.below {w W4 : World} {X g' c' n k : Nat} {D : Nat → Nd} {L : Nat → Loc} {now : Int} {W W' : World} (h : InX w W4 X g' c' n k D L now W) (hb : Below W.heap.size W W') : InX w W4 X g' c' n k D L now W' :=
  ⟨h.bel.trans (hb.mono h.bel.size), h.x.below hb h.x.lt, h.own.below hb, h.far, h.low⟩

theorem leaf0_fair : FairNd (leafNd 0 0) := ⟨Nat.zero_le _, Nat.zero_le _, fun j hj => absurd hj (Nat.not_lt_zero _), fun j hj => absurd hj (Nat.not_lt_zero _), by simp [leafNd], by simp [leafNd], by simp [leafNd]⟩

theorem pad_fair {n m : Nat} {D : Nat → Nd} (h : Fair n D) (hm : 1 ≤ m) (h11 : m ≤ 11) : Fair m (padT D n) := ⟨hm, h11, fun i hi => by
  by_cases e : i < n
  · rw [pad_lt D e]; exact h.each i e
  · rw [pad_ge D (by omega)]; exact leaf0_fair⟩

theorem pad_none {n : Nat} {D : Nat → Nd} {now : Int} (hg : TreeGood n D now) (h : n ≤ 10) : refsTo (padT D n) (n : Nat) 10 = 0 := by
  obtain ⟨k, hk⟩ : ∃ k, 10 = n + k := ⟨10 - n, by omega⟩
  rw [hk, pad_refs_more k]
  exact refsTo_zero n fun i hi j hj e => by have := (hg.kids hi hj).2.1; omega
end Go.Proofs.Ytbifhfnoogjoeaa

/-
  A copy of a drawn tree in a variable, that is then written into. Plain facts.
-/
namespace Go.Proofs.Ytbifhfnoogjoeaa
open Go.RowKit Go.Deep
set_option linter.unusedVariables false

/-- What is known of a copy, which lies in block X; W4 is the world that it was made in. -/
structure InC (w W4 : World) (X g c n : Nat) (D : Nat → Nd) (L : Nat → Loc) (now : Int) (W : World) : Prop where
  bel : Below W4.heap.size W4 W
  x : Blk W X #[.slice (some ⟨g, 0, none⟩) n c, .int .i64 now] 25
  own : OwnT W w.heap.size g c n D L
  far : W4.heap.size ≤ X ∧ W4.heap.size ≤ g ∧ g ≠ X

section
variable {w W4 : World} {X g c n : Nat} {D D' : Nat → Nd} {L L' : Nat → Loc} {now : Int} {W W' : World}

theorem InX.inC (h : InX w W4 X g c n n D L now W) : InC w W4 X g c n D L now W :=
  ⟨h.bel, h.x, h.own.congr (fun i hi => (pad_lt D hi).symm) (fun i hi => by simp [padL, hi]), h.far⟩

theorem InC.below (h : InC w W4 X g c n D L now W) (hb : Below W.heap.size W W') : InC w W4 X g c n D L now W' :=
  ⟨h.bel.trans (hb.mono h.bel.size), h.x.below hb h.x.lt, h.own.below hb, h.far⟩

theorem InC.put (h : InC w W4 X g c n D L now W) {k : Nat} {v : Value} (ho : OwnT (W.setCell ⟨g, k, none⟩ v) w.heap.size g c n D' L') : InC w W4 X g c n D' L' now (W.setCell ⟨g, k, none⟩ v) :=
  ⟨bel_put h.bel v h.far.2.1, h.x.off v (Ne.symm h.far.2.2), ho, h.far⟩

theorem InC.putNode (h : InC w W4 X g c n D L now W) {i : Nat} (hi : i < n) (d : Nd) (l : Loc) (hd : NdIn W d l) (hn : Off W w.heap.size g l.nA) (hk : Off W w.heap.size g l.kA) :
    InC w W4 X g c n (putNd D i d) (putLoc L i l) now (((((W.setCell ⟨g, i * 5, none⟩ (.int .i64 d.kind)).setCell ⟨g, i * 5 + 1, none⟩ (.string d.text)).setCell ⟨g, i * 5 + 2, none⟩ (.slice l.nA d.nn l.nc)).setCell ⟨g, i * 5 + 3, none⟩ (.slice l.kA d.kn l.kc)).setCell ⟨g, i * 5 + 4, none⟩ (.int .i64 d.turn)) :=
  have hX := Ne.symm h.far.2.2
  have hg := h.far.2.1
  ⟨bel_put (bel_put (bel_put (bel_put (bel_put h.bel _ hg) _ hg) _ hg) _ hg) _ hg, ((((h.x.off _ hX).off _ hX).off _ hX).off _ hX).off _ hX, h.own.setNode hi d l hd hn hk, h.far⟩

/-- A file of nothing in the place of a node. -/
theorem InC.putFile (h : InC w W4 X g c n D L now W) (hn1 : 1 ≤ n) : InC w W4 X g c n (putNd D 0 (leafNd 1 1)) (putLoc L 0 loc00) now (((((W.setCell ⟨g, 0, none⟩ (.int .i64 1)).setCell ⟨g, 1, none⟩ (.string ⟨#[]⟩)).setCell ⟨g, 2, none⟩ (.slice none 0 0)).setCell ⟨g, 3, none⟩ (.slice none 0 0)).setCell ⟨g, 4, none⟩ (.int .i64 1)) :=
  h.putNode (i := 0) hn1 (leafNd 1 1) loc00 ⟨Or.inl rfl, Or.inl rfl⟩ (fun b o x e => by simp [loc00] at e) (fun b o x e => by simp [loc00] at e)

theorem InC.alloc (h : InC w W4 X g c n D L now W) (o : Obj) : InC w W4 X g c n D L now (W.alloc o) := h.below ((Below.refl _ _).alloc (Nat.le_refl _) _)

theorem InC.drew (h : InC w W4 X g c n D L now W) (k : Nat) : InC w W4 X g c n D L now (W.drewN k) := h.below (below_drewN (Below.refl _ _) k)

/-- What comes later, seen from the world that the copy was made in. -/
theorem InC.since (h : InC w W4 X g c n D L now W) (hb : Below W.heap.size W W') : Below W4.heap.size W4 W' := h.bel.trans (hb.mono h.bel.size)
end

theorem blk_second (W4 : World) : Blk ((W4.drew.alloc (.cells #[] 36)).alloc (.cells #[.slice none 0 0, .int .i64 0] 25)) (W4.heap.size + 1) #[.slice none 0 0, .int .i64 0] 25 := by
  have := Blk.new (W4.drew.alloc (.cells #[] 36)) #[.slice none 0 0, .int .i64 0] 25
  have e : (W4.drew.alloc (.cells #[] 36)).heap.size = W4.heap.size + 1 := by simp
  rwa [e] at this

/-- A list of operations is walked at a world of which no more is said than this. -/
theorem wpList_world {P : Program} {ops : Array Oper} {l : List Oper} {a : Act} {Q : Exit → Act → World → Prop} {F : World → Prop} {w : World} (h : F w) (g : ∀ W, F W → wpList P ops Q l a W) : wpList P ops Q l a w := g w h

/-- The append of a copy, in a plain list of operations. -/
theorem copy_list {ops : Array Oper} {rest : List Oper} {o : Oper} {a : Act} {Q : Exit → Act → World → Prop} {wr WA : World} {e0 : Nat} (hgd : o.guard = none) (s x : Operand) (ho : o.op = .call { callee := .builtin .append, args := #[s, x], argTypes := #[23, 23] }) (hA : RgE wr WA e0)
    {B g cap n : Nat} {D : Nat → Nd} {L : Nat → Loc} (h : OwnT wr B g cap n D L) (hB : B ≤ wr.heap.size) (hn : n ≤ 1000) (hn1 : 1 ≤ n) (hs : a.eval s = .slice (some ⟨e0, 0, none⟩) 0 0) (hx : a.eval x = .slice (some ⟨g, 0, none⟩) n cap)
    (k : ∀ g' c' w', OwnT w' B g' c' n D L → wr.heap.size ≤ g' → Below wr.heap.size wr w' → WA.grownBy w' (some e0) → (g' = e0 ∨ WA.heap.size ≤ g') → wpList Try.prog ops Q rest (a.put o.dst (.slice (some ⟨g', 0, none⟩) n c')) w') : wpList Try.prog ops Q (o :: rest) a WA :=
  wpList_plain hgd fun K hK => by
    have hw : Region.wanted o (yielded ops a.tmps) = true := by simp [Region.wanted, hgd]
    have := copy_step (ops := ops) (K := K) (Q := Q) (E := True) hgd s x ho hA h hB hn hn1 hs hx (fun g' c' w' h1 h2 h3 h4 h5 => hK _ _ (k g' c' w' h1 h2 h3 h4 h5))
    rwa [if_pos hw] at this
end Go.Proofs.Ytbifhfnoogjoeaa

/-
  What NodeSame of the specification answers at two places.
-/
namespace Go.Proofs.Ytbifhfnoogjoeaa
open Go.RowKit
set_option linter.unusedVariables false

set_option maxHeartbeats 400000 in
theorem l2Ints_any (a a' : Option Addr) (n c m c' : Nat) (Z Y : Nat → Int) (w : World) (hS : IsInts w a n Z) (hT : IsInts w a' m Y) (hn : n ≤ maxLen) (hm : m ≤ maxLen) :
    Calls Try.prog 43 #[.slice a n c, .slice a' m c'] w fun e w' => (∃ q, w' = w.drewN q) ∧ e = .returned (.bool (decide (n = m) && eqZ n Z Y)) := by
  unfold maxLen at hn hm
  by_cases hne : n = m
  · subst hne
    have hb : ((n : Int) != (n : Int)) = false := by simp
    go_enter Try.func43, Try.ntmps43
    go_wp2
    go_loopw [5] (fun i wr => ∃ k q : Nat, k ≤ n ∧ i = .int .i64 k ∧ wr = w.drewN q ∧ eqZ k Z Y = true) (fun i _ => n - (intOf i).toNat)
    case atStart => exact ⟨0, 0, Nat.zero_le _, rfl, rfl, rfl⟩
    case round =>
      obtain ⟨k, q, hk, rfl, rfl, heq⟩ := hrel
      have HE : Hid (eqZ k Z Y = true) := heq
      clear heq
      by_cases hlt : k < n
      · obtain ⟨b, off, rfl, hlt2, hc⟩ := hS.at hlt
        obtain ⟨b', off', rfl, hlt2', hc'⟩ := hT.at hlt
        have h1 := hc k hlt
        have h2 := hc' k hlt
        have hlti : (k : Int) < (n : Int) := by omega
        clear hc hc'
        by_cases hzy : Z k = Y k
        · have hzb : (Z k != Y k) = false := by simp [hzy]
          have HZ : Hid (Z k = Y k) := hzy
          clear hzy
          go_wp2
          go_quiet (fail)
          go_wp2
          go_roundw
          case rel => exact ⟨k + 1, q + nq, by omega, by go_num, rfl, eqZ_succ k Z Y HE.out HZ.out⟩
          case measure => simp [intOf]; omega
        · have hzb : (Z k != Y k) = true := by simp [hzy]
          have HZ : Hid (¬ Z k = Y k) := hzy
          clear hzy
          go_wp2
          go_quiet (fail)
          go_wp2
          go_ret
          exact ⟨⟨q + nq, by simp⟩, ret_bool (by rw [← eqZ_not n k Z Y hlt HZ.out]; simp)⟩
      · have hkn : k = n := by omega
        have HK : Hid (k = n) := hkn
        clear hkn
        go_wp2
        go_ret
        exact ⟨⟨q, rfl⟩, ret_bool (by rw [← HK.out, HE.out]; simp)⟩
  · have hb : ((n : Int) != (m : Int)) = true := by simp; omega
    go_enter Try.func43, Try.ntmps43
    go_wp2
    go_ret
    exact ⟨⟨0, rfl⟩, ret_bool (by simp [hne])⟩

set_option maxHeartbeats 400000 in
theorem l2Texts_any (a a' : Option Addr) (n c m c' : Nat) (S T : Nat → ByteArray) (w : World) (hS : IsStrs w a n S) (hT : IsStrs w a' m T) (hn : n ≤ maxLen) (hm : m ≤ maxLen) :
    Calls Try.prog 42 #[.slice a n c, .slice a' m c'] w fun e w' => (∃ q, w' = w.drewN q) ∧ e = .returned (.bool (decide (n = m) && eqS n S T)) := by
  unfold maxLen at hn hm
  by_cases hne : n = m
  · subst hne
    have hb : ((n : Int) != (n : Int)) = false := by simp
    go_enter Try.func42, Try.ntmps42
    go_wp2
    go_loopw [5] (fun i wr => ∃ k q : Nat, k ≤ n ∧ i = .int .i64 k ∧ wr = w.drewN q ∧ eqS k S T = true) (fun i _ => n - (intOf i).toNat)
    case atStart => exact ⟨0, 0, Nat.zero_le _, rfl, rfl, rfl⟩
    case round =>
      obtain ⟨k, q, hk, rfl, rfl, heq⟩ := hrel
      have HE : Hid (eqS k S T = true) := heq
      clear heq
      by_cases hlt : k < n
      · obtain ⟨b, off, rfl, hlt2, hc⟩ := hS.at hlt
        obtain ⟨b', off', rfl, hlt2', hc'⟩ := hT.at hlt
        have h1 := hc k hlt
        have h2 := hc' k hlt
        have hlti : (k : Int) < (n : Int) := by omega
        clear hc hc'
        go_wp2
        go_quiet (fail)
        go_wp2
        · go_ret
          exact ⟨⟨q + nq, by simp⟩, ret_bool (by rw [← eqS_not n k S T hlt ‹_›]; simp)⟩
        · go_roundw
          case rel => exact ⟨k + 1, q + nq, by omega, by go_num, rfl, eqS_succ k S T HE.out ‹_›⟩
          case measure => simp [intOf]; omega
      · have hkn : k = n := by omega
        have HK : Hid (k = n) := hkn
        clear hkn
        go_wp2
        go_ret
        exact ⟨⟨q, rfl⟩, ret_bool (by rw [← HK.out, HE.out]; simp)⟩
  · have hb : ((n : Int) != (m : Int)) = true := by simp; omega
    go_enter Try.func42, Try.ntmps42
    go_wp2
    go_ret
    exact ⟨⟨0, rfl⟩, ret_bool (by simp [hne])⟩

set_option maxHeartbeats 1000000 in
theorem specNodeSame_any (d d' : Nd) (l l' : Loc) (w : World) (hI : NdIn w d l) (hI' : NdIn w d' l') (hf : d.Fits) (hf' : d'.Fits) :
    Calls Try.prog 21 #[ndV d l, ndV d' l'] w fun e w' => Below w.heap.size w w' ∧ e = .returned (.bool (d.same d')) := by
  have hn := hf.nn
  have hn' := hf'.nn
  have hk := hf.kn
  have hk' := hf'.kn
  unfold ndV
  cases h1 : (d.kind == d'.kind) with
  | false =>
    have H1 : Hid (d.same d' = false) := show d.same d' = false by unfold Nd.same; rw [h1]; rfl
    go_enter Try.func21, Try.ntmps21
    go_wp2_with fail
    go_ret
    exact ⟨((Below.refl _ _).alloc (Nat.le_refl _) _).alloc (by simp) _, ret_bool H1.out.symm⟩
  | true =>
    have H1 : Hid ((d.kind == d'.kind) = true) := h1
    cases h2 : (d.text.toList == d'.text.toList) with
    | false =>
      have H2 : Hid (d.same d' = false) := show d.same d' = false by unfold Nd.same; rw [h2]; simp
      go_enter Try.func21, Try.ntmps21
      go_wp2_with fail
      go_ret
      exact ⟨((Below.refl _ _).alloc (Nat.le_refl _) _).alloc (by simp) _, ret_bool H2.out.symm⟩
    | true =>
      have H2 : Hid ((d.text.toList == d'.text.toList) = true) := h2
      cases h3 : (d.turn == d'.turn) with
      | false =>
        have H3 : Hid (d.same d' = false) := show d.same d' = false by unfold Nd.same; rw [h3]; simp
        go_enter Try.func21, Try.ntmps21
        go_wp2_with fail
        go_ret
        exact ⟨((Below.refl _ _).alloc (Nat.le_refl _) _).alloc (by simp) _, ret_bool H3.out.symm⟩
      | true =>
        have H3 : Hid ((d.turn == d'.turn) = true) := h3
        go_enter Try.func21, Try.ntmps21
        go_wp2_with fail
        refine at_world (F := New2 w _ _ _ _) (new2 w _ _ _ _) ?_
        rintro W ⟨hp, hp', hb, hs⟩
        have hI1 := hI.below (Nat.le_refl _) hb
        have hI1' := hI'.below (Nat.le_refl _) hb
        refine (l2Texts_any l.nA l'.nA d.nn l.nc d'.nn l'.nc d.names d'.names W hI1.1 hI1'.1 hn hn').mono ?_
        rintro e w1 ⟨⟨q, rfl⟩, rfl⟩
        have p3 : W.cell? ⟨w.heap.size, 3, none⟩ = some (.slice l.kA d.kn l.kc) := hp.cell 3
        have q3 : W.cell? ⟨w.heap.size + 1, 3, none⟩ = some (.slice l'.kA d'.kn l'.kc) := hp'.cell 3
        have HI : Hid (IsInts W l.kA d.kn d.kids ∧ IsInts W l'.kA d'.kn d'.kids) := ⟨hI1.2, hI1'.2⟩
        have HB : Hid (Below w.heap.size w W) := hb
        clear hI1 hI1' hI hI' hp hp' hb hs hf hf'
        cases h4 : (decide (d.nn = d'.nn) && eqS d.nn d.names d'.names) with
        | false =>
          have H4 : Hid (d.same d' = false) := show d.same d' = false by unfold Nd.same; rw [h4]; simp
          clear h4
          go_wp2
          go_ret
          exact ⟨below_drewN HB.out _, ret_bool H4.out.symm⟩
        | true =>
          have H4 : Hid ((decide (d.nn = d'.nn) && eqS d.nn d.names d'.names) = true) := h4
          clear h4
          go_wp2_with fail
          refine (l2Ints_any l.kA l'.kA d.kn l.kc d'.kn l'.kc d.kids d'.kids (W.drewN q) (HI.out.1.below (Nat.le_refl _) (below_drewN (Below.refl _ _) _)) (HI.out.2.below (Nat.le_refl _) (below_drewN (Below.refl _ _) _)) hk hk').mono ?_
          rintro e w1 ⟨⟨q', rfl⟩, rfl⟩
          have H5 : Hid (d.same d' = (decide (d.kn = d'.kn) && eqZ d.kn d.kids d'.kids)) := show d.same d' = _ by unfold Nd.same; rw [H1.out, H2.out, H3.out, H4.out]; simp
          go_wp2
          go_ret
          exact ⟨below_drewN HB.out _, ret_bool H5.out.symm⟩
end Go.Proofs.Ytbifhfnoogjoeaa

/-
  What TreeSame of the specification answers at two trees.
-/
namespace Go.Proofs.Ytbifhfnoogjoeaa
open Go.RowKit
set_option linter.unusedVariables false

/-- Two trees are one. -/
def treeSame (n m : Nat) (D E : Nat → Nd) (now now' : Int) : Bool := (decide (n = m) && sameAll n D E) && (now == now')

/-- What is known within TreeSame. -/
structure TSIn (w : World) (a a' : Option Addr) (n c m c' : Nat) (now now' : Int) (t : TypeId) (W : World) : Prop where
  p : Blk W w.heap.size #[.slice a n c, .int .i64 now] t
  p' : Blk W (w.heap.size + 1) #[.slice a' m c', .int .i64 now'] t
  bel : Below w.heap.size w W

theorem TSIn.below {w : World} {a a' : Option Addr} {n c m c' : Nat} {now now' : Int} {t : TypeId} {W W' : World} (h : TSIn w a a' n c m c' now now' t W) (hb : Below W.heap.size W W') : TSIn w a a' n c m c' now now' t W' :=
  ⟨h.p.below hb h.p.lt, h.p'.below hb h.p'.lt, h.bel.trans (hb.mono (by have := h.p.lt; omega))⟩

set_option maxHeartbeats 2000000 in
theorem specTreeSame_any (a a' : Option Addr) (n c m c' : Nat) (now now' : Int) (D E : Nat → Nd) (L M : Nat → Loc) (w : World) (hS : IsNds w a n D L) (hT : IsNds w a' m E M) (hf : FitAll n D) (hf' : FitAll m E) (hn : n ≤ maxLen) (hm : m ≤ maxLen) :
    Calls Try.prog 19 #[trV a n c now, trV a' m c' now'] w fun e w' => Below w.heap.size w w' ∧ e = .returned (.bool (treeSame n m D E now now')) := by
  have hn' := hn
  have hm' := hm
  unfold maxLen at hn' hm'
  unfold trV
  cases hnc : (now == now') with
  | false =>
    have hnb : (now != now') = true := by simp only [bne, hnc]; rfl
    have HN : Hid (false = treeSame n m D E now now') := by show _ = _; unfold treeSame; rw [hnc, Bool.and_false]
    clear hnc
    go_enter Try.func19, Try.ntmps19
    go_wp2_with fail
    go_ret
    exact ⟨((Below.refl _ _).alloc (Nat.le_refl _) _).alloc (by simp) _, ret_bool HN.out⟩
  | true =>
    have hnb : (now != now') = false := by simpa [bne] using hnc
    have HN : Hid ((now == now') = true) := hnc
    clear hnc
    by_cases hne : n = m
    · subst hne
      have hb : ((n : Int) != (n : Int)) = false := by simp
      go_enter Try.func19, Try.ntmps19
      go_wp2_with fail
      go_loopw [5] (fun i wr => ∃ k : Nat, k ≤ n ∧ i = .int .i64 k ∧ TSIn w a a' n c n c' now now' 25 wr ∧ sameAll k D E = true) (fun i _ => n - (intOf i).toNat)
      case atStart =>
        have h := new2 w #[.slice a n c, .int .i64 now] 25 #[.slice a' n c', .int .i64 now'] 25
        exact ⟨0, Nat.zero_le _, rfl, ⟨h.b0, h.b1, h.bel⟩, rfl⟩
      case round =>
        obtain ⟨k, hk, rfl, hin, heq⟩ := hrel
        have t0 : wr.cell? ⟨w.heap.size, 0, none⟩ = some (.slice a n c) := hin.p.cell 0
        have s0 : wr.cell? ⟨w.heap.size + 1, 0, none⟩ = some (.slice a' n c') := hin.p'.cell 0
        have hwl := hin.p.lt
        have hwl' := hin.p'.lt
        by_cases hlt : k < n
        · have hSr := hS.below (Nat.le_refl _) hin.bel
          have hTr := hT.below (Nat.le_refl _) hin.bel
          obtain ⟨b, off, rfl, hlt2, hc⟩ := hSr.at hlt
          obtain ⟨b', off', rfl, hlt2', hc'⟩ := hTr.at hlt
          obtain ⟨c0, c1, c2, c3, c4, hI⟩ := hc k hlt
          obtain ⟨d0, d1, d2, d3, d4, hI'⟩ := hc' k hlt
          have hlti : (k : Int) < (n : Int) := by omega
          have C0 := Lat.cell (B := wr.heap.size) c0 hlt2
          have C1 := Lat.cell (B := wr.heap.size) c1 hlt2
          have C2 := Lat.cell (B := wr.heap.size) c2 hlt2
          have C3 := Lat.cell (B := wr.heap.size) c3 hlt2
          have C4 := Lat.cell (B := wr.heap.size) c4 hlt2
          have D0 := Lat.cell (B := wr.heap.size) d0 hlt2'
          have D1 := Lat.cell (B := wr.heap.size) d1 hlt2'
          have D2 := Lat.cell (B := wr.heap.size) d2 hlt2'
          have D3 := Lat.cell (B := wr.heap.size) d3 hlt2'
          have D4 := Lat.cell (B := wr.heap.size) d4 hlt2'
          have T0 := Lat.cell (B := wr.heap.size) t0 hwl
          have S0 := Lat.cell (B := wr.heap.size) s0 hwl'
          have hcall : Hid (∀ q : Lat wr.heap.size wr, Calls Try.prog 21 #[ndV (D k) (L k), ndV (E k) (M k)] q.val fun e w'' => e = .returned (.bool ((D k).same (E k))) ∧ ∃ m : Lat wr.heap.size wr, w'' = m.val) := fun q =>
            Calls.lat_of (specNodeSame_any (D k) (E k) (L k) (M k) q.val (hI.below (Nat.le_refl _) q.bel) (hI'.below (Nat.le_refl _) q.bel) (hf k hlt) (hf' k hlt)) (fun e w' h => ⟨h.2, h.1.mono q.bel.size⟩)
          have HIN : Hid (TSIn w (some ⟨b, off, none⟩) (some ⟨b', off', none⟩) n c n c' now now' 25 wr ∧ sameAll k D E = true) := ⟨hin, heq⟩
          clear hc hc' hSr hTr c0 c1 c2 c3 c4 d0 d1 d2 d3 d4 hI hI' hin heq
          go_wp2_with fail
          refine wp_region_lat (B := wr.heap.size) (w0 := wr) (by kernel_rfl) (by kernel_rfl) (Below.refl _ _) ?_
          repeat (go_big_quiet_step (exact hcall.out _))
          refine wpQuiet_nil ?_
          rintro _ ⟨nq, rfl⟩
          have HB : Hid (TSIn w (some ⟨b, off, none⟩) (some ⟨b', off', none⟩) n c n c' now now' 25 nq.val) := HIN.out.1.below nq.bel
          clear hcall C0 C1 C2 C3 C4 D0 D1 D2 D3 D4 T0 S0 t0 s0 hwl hwl' hlt2 hlt2'
          cases hq : (D k).same (E k) with
          | false =>
            have HQ : Hid (false = treeSame n n D E now now') := by show _ = _; unfold treeSame; rw [← sameAll_not n k D E hlt hq]; simp
            clear hq
            go_wp2
            go_ret
            exact ⟨HB.out.bel, ret_bool HQ.out⟩
          | true =>
            have HQ : Hid ((D k).same (E k) = true) := hq
            clear hq
            go_wp2
            go_roundw
            case rel => exact ⟨k + 1, by omega, by go_num, HB.out, sameAll_succ k D E HIN.out.2 HQ.out⟩
            case measure => simp [intOf]; omega
        · have hkn : k = n := by omega
          have HK : Hid (true = treeSame n n D E now now' ∧ Below w.heap.size w wr) := ⟨by unfold treeSame; rw [← hkn, heq, HN.out]; simp, hin.bel⟩
          clear hkn hin heq
          go_wp2
          go_ret
          exact ⟨HK.out.2, ret_bool HK.out.1⟩
    · have hb : ((n : Int) != (m : Int)) = true := by simp; omega
      have HX : Hid (false = treeSame n m D E now now') := by show _ = _; unfold treeSame; rw [decide_eq_false hne]; rfl
      clear hne
      go_enter Try.func19, Try.ntmps19
      go_wp2_with fail
      go_ret
      exact ⟨((Below.refl _ _).alloc (Nat.le_refl _) _).alloc (by simp) _, ret_bool HX.out⟩
end Go.Proofs.Ytbifhfnoogjoeaa

/-
  What slices.Equal answers at two lists of texts; it turns no memory.
-/
namespace Go.Proofs.Ytbifhfnoogjoeaa
open Go.RowKit
set_option linter.unusedVariables false

set_option maxHeartbeats 400000 in
theorem slicesEqual_any (a a' : Option Addr) (n c m c' : Nat) (S T : Nat → ByteArray) (w : World) (hS : IsStrs w a n S) (hT : IsStrs w a' m T) (hn : n ≤ maxLen) (hm : m ≤ maxLen) :
    Calls Try.prog 40 #[.slice a n c, .slice a' m c'] w fun e w' => (∃ q, w' = w.drewN q) ∧ e = .returned (.bool (decide (n = m) && eqS n S T)) := by
  unfold maxLen at hn hm
  by_cases hne : n = m
  · subst hne
    have hb : ((n : Int) != (n : Int)) = false := by simp
    go_enter Try.func40, Try.ntmps40
    go_wp2
    go_loopw [13] (fun i wr => ∃ k q : Nat, k ≤ n ∧ i = .int .i64 k ∧ wr = w.drewN q ∧ eqS k S T = true) (fun i _ => n - (intOf i).toNat)
    case atStart => exact ⟨0, 0, Nat.zero_le _, rfl, rfl, rfl⟩
    case round =>
      obtain ⟨k, q, hk, rfl, rfl, heq⟩ := hrel
      have HE : Hid (eqS k S T = true) := heq
      clear heq
      by_cases hlt : k < n
      · obtain ⟨b, off, rfl, hlt2, hc⟩ := hS.at hlt
        obtain ⟨b', off', rfl, hlt2', hc'⟩ := hT.at hlt
        have h1 := hc k hlt
        have h2 := hc' k hlt
        have hlti : (k : Int) < (n : Int) := by omega
        clear hc hc'
        go_wp2
        go_quiet (fail)
        go_wp2
        · go_ret
          exact ⟨⟨q + nq, by simp⟩, ret_bool (by rw [← eqS_not n k S T hlt ‹_›]; simp)⟩
        · go_roundw
          case rel => exact ⟨k + 1, q + nq, by omega, by go_num, rfl, eqS_succ k S T HE.out ‹_›⟩
          case measure => simp [intOf]; omega
      · have hkn : k = n := by omega
        have HK : Hid (k = n) := hkn
        clear hkn
        go_wp2
        go_ret
        exact ⟨⟨q, rfl⟩, ret_bool (by rw [← HK.out, HE.out]; simp)⟩
  · have hb : ((n : Int) != (m : Int)) = true := by simp; omega
    go_enter Try.func40, Try.ntmps40
    go_wp2
    go_ret
    exact ⟨⟨0, rfl⟩, ret_bool (by simp [hne])⟩
end Go.Proofs.Ytbifhfnoogjoeaa

/-
  What NodeSame of the program answers at two places, and slices.Equal at two lists of numbers.
-/
namespace Go.Proofs.Ytbifhfnoogjoeaa
open Go.RowKit
set_option linter.unusedVariables false

set_option maxHeartbeats 400000 in
theorem intsEqual_any (a a' : Option Addr) (n c m c' : Nat) (Z Y : Nat → Int) (w : World) (hS : IsInts w a n Z) (hT : IsInts w a' m Y) (hn : n ≤ maxLen) (hm : m ≤ maxLen) :
    Calls Try.prog 41 #[.slice a n c, .slice a' m c'] w fun e w' => (∃ q, w' = w.drewN q) ∧ e = .returned (.bool (decide (n = m) && eqZ n Z Y)) := by
  unfold maxLen at hn hm
  by_cases hne : n = m
  · subst hne
    have hb : ((n : Int) != (n : Int)) = false := by simp
    go_enter Try.func41, Try.ntmps41
    go_wp2
    go_loopw [13] (fun i wr => ∃ k q : Nat, k ≤ n ∧ i = .int .i64 k ∧ wr = w.drewN q ∧ eqZ k Z Y = true) (fun i _ => n - (intOf i).toNat)
    case atStart => exact ⟨0, 0, Nat.zero_le _, rfl, rfl, rfl⟩
    case round =>
      obtain ⟨k, q, hk, rfl, rfl, heq⟩ := hrel
      have HE : Hid (eqZ k Z Y = true) := heq
      clear heq
      by_cases hlt : k < n
      · obtain ⟨b, off, rfl, hlt2, hc⟩ := hS.at hlt
        obtain ⟨b', off', rfl, hlt2', hc'⟩ := hT.at hlt
        have h1 := hc k hlt
        have h2 := hc' k hlt
        have hlti : (k : Int) < (n : Int) := by omega
        clear hc hc'
        by_cases hzy : Z k = Y k
        · have hzb : (Z k != Y k) = false := by simp [hzy]
          have HZ : Hid (Z k = Y k) := hzy
          clear hzy
          go_wp2
          go_quiet (fail)
          go_wp2
          go_roundw
          case rel => exact ⟨k + 1, q + nq, by omega, by go_num, rfl, eqZ_succ k Z Y HE.out HZ.out⟩
          case measure => simp [intOf]; omega
        · have hzb : (Z k != Y k) = true := by simp [hzy]
          have HZ : Hid (¬ Z k = Y k) := hzy
          clear hzy
          go_wp2
          go_quiet (fail)
          go_wp2
          go_ret
          exact ⟨⟨q + nq, by simp⟩, ret_bool (by rw [← eqZ_not n k Z Y hlt HZ.out]; simp)⟩
      · have hkn : k = n := by omega
        have HK : Hid (k = n) := hkn
        clear hkn
        go_wp2
        go_ret
        exact ⟨⟨q, rfl⟩, ret_bool (by rw [← HK.out, HE.out]; simp)⟩
  · have hb : ((n : Int) != (m : Int)) = true := by simp; omega
    go_enter Try.func41, Try.ntmps41
    go_wp2
    go_ret
    exact ⟨⟨0, rfl⟩, ret_bool (by simp [hne])⟩

set_option maxHeartbeats 1000000 in
theorem implNodeSame_any (d d' : Nd) (l l' : Loc) (w : World) (hI : NdIn w d l) (hI' : NdIn w d' l') (hf : d.Fits) (hf' : d'.Fits) :
    Calls Try.prog 20 #[ndV d l, ndV d' l'] w fun e w' => Below w.heap.size w w' ∧ e = .returned (.bool (d.same d')) := by
  have hn := hf.nn
  have hn' := hf'.nn
  have hk := hf.kn
  have hk' := hf'.kn
  unfold ndV
  cases b1 : (d.kind == d'.kind) with
  | false =>
    have H : Hid (false = d.same d') := same_kind (by simpa using b1)
    go_enter Try.func20, Try.ntmps20
    go_wp2_with fail
    go_ret
    exact ⟨((Below.refl _ _).alloc (Nat.le_refl _) _).alloc (by simp) _, ret_bool H.out⟩
  | true =>
    cases b2 : (d.text.toList == d'.text.toList) with
    | false =>
      have H : Hid (false = d.same d') := same_text (by rw [b2]; rfl)
      go_enter Try.func20, Try.ntmps20
      go_wp2_with fail
      go_ret
      exact ⟨((Below.refl _ _).alloc (Nat.le_refl _) _).alloc (by simp) _, ret_bool H.out⟩
    | true =>
      cases b3 : (d.turn == d'.turn) with
      | false =>
        have H : Hid (false = d.same d') := same_turn (by simpa using b3)
        go_enter Try.func20, Try.ntmps20
        go_wp2_with fail
        go_ret
        exact ⟨((Below.refl _ _).alloc (Nat.le_refl _) _).alloc (by simp) _, ret_bool H.out⟩
      | true =>
        have HK : Hid ((d.kind != d'.kind) = false ∧ (!d.text.toList == d'.text.toList) = false ∧ (d.turn != d'.turn) = false) := ⟨by simpa using b1, by rw [b2]; rfl, by simpa using b3⟩
        go_enter Try.func20, Try.ntmps20
        go_wp2_with fail
        refine at_world (F := New2 w _ _ _ _) (new2 w _ _ _ _) ?_
        rintro W ⟨hp, hp', hb, hs⟩
        have hI1 := hI.below (Nat.le_refl _) hb
        have hI1' := hI'.below (Nat.le_refl _) hb
        refine (slicesEqual_any l.nA l'.nA d.nn l.nc d'.nn l'.nc d.names d'.names W hI1.1 hI1'.1 hn hn').mono ?_
        rintro e w1 ⟨⟨q, rfl⟩, rfl⟩
        have p3 : W.cell? ⟨w.heap.size, 3, none⟩ = some (.slice l.kA d.kn l.kc) := hp.cell 3
        have q3 : W.cell? ⟨w.heap.size + 1, 3, none⟩ = some (.slice l'.kA d'.kn l'.kc) := hp'.cell 3
        have HI : Hid (IsInts W l.kA d.kn d.kids ∧ IsInts W l'.kA d'.kn d'.kids) := ⟨hI1.2, hI1'.2⟩
        have HB : Hid (Below w.heap.size w W) := hb
        clear hI1 hI1' hI hI' hp hp' hb hs hf hf'
        cases hq1 : (decide (d.nn = d'.nn) && eqS d.nn d.names d'.names) with
        | false =>
          have HQ : Hid ((decide (d.nn = d'.nn) && eqS d.nn d.names d'.names) = false) := hq1
          clear hq1
          go_wp2
          go_ret
          exact ⟨below_drewN HB.out _, ret_bool (same_names HQ.out)⟩
        | true =>
          have HQ : Hid ((decide (d.nn = d'.nn) && eqS d.nn d.names d'.names) = true) := hq1
          clear hq1
          go_wp2_with fail
          refine (intsEqual_any l.kA l'.kA d.kn l.kc d'.kn l'.kc d.kids d'.kids (W.drewN q) (HI.out.1.below (Nat.le_refl _) (below_drewN (Below.refl _ _) _)) (HI.out.2.below (Nat.le_refl _) (below_drewN (Below.refl _ _) _)) hk hk').mono ?_
          rintro e w1 ⟨⟨q', rfl⟩, rfl⟩
          have HZ : Hid ((decide (d.kn = d'.kn) && eqZ d.kn d.kids d'.kids) = d.same d') := by
            show _ = _
            unfold Nd.same
            rw [b1, b2, b3, HQ.out]; simp
          rw [HZ.out]
          go_wp2
          go_ret
          exact ⟨below_drewN HB.out _, rfl⟩
end Go.Proofs.Ytbifhfnoogjoeaa

/-
  What TreeSame of the program answers at two trees.
-/
namespace Go.Proofs.Ytbifhfnoogjoeaa
open Go.RowKit
set_option linter.unusedVariables false

set_option maxHeartbeats 2000000 in
theorem equalFunc_any (a a' : Option Addr) (n c m c' : Nat) (D E : Nat → Nd) (L M : Nat → Loc) (w : World) (hS : IsNds w a n D L) (hT : IsNds w a' m E M) (hf : FitAll n D) (hf' : FitAll m E) (hn : n ≤ maxLen) (hm : m ≤ maxLen) :
    Calls Try.prog 34 #[.slice a n c, .slice a' m c', .func (Fn.func 20) #[] #[]] w fun e w' => Below w.heap.size w w' ∧ e = .returned (.bool (decide (n = m) && sameAll n D E)) := by
  unfold maxLen at hn hm
  by_cases hne : n = m
  · subst hne
    have hb : ((n : Int) != (n : Int)) = false := by simp
    go_enter Try.func34, Try.ntmps34
    go_wp2
    go_loopw [17] (fun i wr => ∃ k : Nat, k ≤ n ∧ i = .int .i64 k ∧ Below w.heap.size w wr ∧ sameAll k D E = true) (fun i _ => n - (intOf i).toNat)
    case atStart => exact ⟨0, Nat.zero_le _, rfl, Below.refl _ _, rfl⟩
    case round =>
      obtain ⟨k, hk, rfl, hbel, heq⟩ := hrel
      by_cases hlt : k < n
      · have hSr := hS.below (Nat.le_refl _) hbel
        have hTr := hT.below (Nat.le_refl _) hbel
        obtain ⟨b, off, rfl, hlt2, hc⟩ := hSr.at hlt
        obtain ⟨b', off', rfl, hlt2', hc'⟩ := hTr.at hlt
        obtain ⟨c0, c1, c2, c3, c4, hI⟩ := hc k hlt
        obtain ⟨d0, d1, d2, d3, d4, hI'⟩ := hc' k hlt
        have hlti : (k : Int) < (n : Int) := by omega
        have HE : Hid (sameAll k D E = true ∧ Below w.heap.size w wr ∧ NdIn wr (D k) (L k) ∧ NdIn wr (E k) (M k)) := ⟨heq, hbel, hI, hI'⟩
        clear hc hc' hSr hTr hbel heq hI hI'
        go_wp2_with fail
        refine at_world (F := New2 wr _ _ _ _) (new2 wr _ _ _ _) ?_
        rintro W ⟨hp, hp', hb', hs⟩
        refine (implNodeSame_any (D k) (E k) (L k) (M k) W (HE.out.2.2.1.below (Nat.le_refl _) hb') (HE.out.2.2.2.below (Nat.le_refl _) hb') (hf k hlt) (hf' k hlt)).mono ?_
        rintro e w1 ⟨hb1, rfl⟩
        have HB : Hid (Below w.heap.size w w1) := HE.out.2.1.trans ((hb'.trans (hb1.mono (by omega))).mono HE.out.2.1.size)
        clear hp hp' hb' hs hb1 c0 c1 c2 c3 c4 d0 d1 d2 d3 d4
        cases hq : (D k).same (E k) with
        | false =>
          have HQ : Hid ((D k).same (E k) = false) := hq
          clear hq
          go_wp2
          go_ret
          exact ⟨HB.out, ret_bool (by rw [← sameAll_not n k D E hlt HQ.out]; simp)⟩
        | true =>
          have HQ : Hid ((D k).same (E k) = true) := hq
          clear hq
          go_wp2
          go_roundw
          case rel => exact ⟨k + 1, by omega, by go_num, HB.out, sameAll_succ k D E HE.out.1 HQ.out⟩
          case measure => simp [intOf]; omega
      · have hkn : k = n := by omega
        have HK : Hid (k = n ∧ Below w.heap.size w wr ∧ sameAll k D E = true) := ⟨hkn, hbel, heq⟩
        clear hkn hbel heq
        go_wp2
        go_ret
        exact ⟨HK.out.2.1, ret_bool (by have := HK.out.2.2; rw [HK.out.1] at this; rw [this]; simp)⟩
  · have hb : ((n : Int) != (m : Int)) = true := by simp; omega
    go_enter Try.func34, Try.ntmps34
    go_wp2
    go_ret
    exact ⟨Below.refl _ _, ret_bool (by simp [hne])⟩

set_option maxHeartbeats 2000000 in
theorem implTreeSame_any (a a' : Option Addr) (n c m c' : Nat) (now now' : Int) (D E : Nat → Nd) (L M : Nat → Loc) (w : World) (hS : IsNds w a n D L) (hT : IsNds w a' m E M) (hf : FitAll n D) (hf' : FitAll m E) (hn : n ≤ maxLen) (hm : m ≤ maxLen) :
    Calls Try.prog 12 #[trV a n c now, trV a' m c' now'] w fun e w' => Below w.heap.size w w' ∧ e = .returned (.bool (treeSame n m D E now now')) := by
  have hn' := hn
  have hm' := hm
  unfold maxLen at hn' hm'
  unfold trV
  cases hnc : (now == now') with
  | false =>
    have HN : Hid (false = treeSame n m D E now now') := by show _ = _; unfold treeSame; rw [hnc, Bool.and_false]
    go_enter Try.func12, Try.ntmps12
    go_wp2_with fail
    go_ret
    exact ⟨((Below.refl _ _).alloc (Nat.le_refl _) _).alloc (by simp) _, ret_bool HN.out⟩
  | true =>
    go_enter Try.func12, Try.ntmps12
    go_wp2_with fail
    refine at_world (F := New2 w _ _ _ _) (new2 w _ _ _ _) ?_
    rintro W ⟨hp, hp', hb, hs⟩
    refine (equalFunc_any a a' n c m c' D E L M W (hS.below (Nat.le_refl _) hb) (hT.below (Nat.le_refl _) hb) hf hf' hn hm).mono ?_
    rintro e w1 ⟨hb1, rfl⟩
    have HB : Hid (Below w.heap.size w w1 ∧ (decide (n = m) && sameAll n D E) = treeSame n m D E now now') := ⟨hb.trans (hb1.mono (by omega)), by unfold treeSame; rw [hnc, Bool.and_true]⟩
    clear hp hp' hb hs hb1
    rw [HB.out.2]
    go_wp2
    go_ret
    exact ⟨HB.out.1, rfl⟩
end Go.Proofs.Ytbifhfnoogjoeaa

/-
  For every code, FnTreeSame answers true: of two drawn trees, and of two drawn places, the program says just when they are one; one that is turned is another; and the code reads afterwards as it read before. No condition.
-/
namespace Go.Proofs.Ytbifhfnoogjoeaa.fnTreeSame
open Go.ChangeShapes Go.WideShapes Go.ChangeAt Go.RowKit Go.Deep
set_option linter.unusedVariables false

/-- Two trees and two places in variables of the law's. -/
structure LS (w : World) (XA XB XX XY g c n : Nat) (D : Nat → Nd) (L : Nat → Loc) (now : Int) (g' c' n' : Nat) (D' : Nat → Nd) (L' : Nat → Loc) (now' : Int) (d d' : Nd) (l l' : Loc) (W : World) : Prop where
  a : Blk W XA #[.slice (some ⟨g, 0, none⟩) n c, .int .i64 now] 25
  b : Blk W XB #[.slice (some ⟨g', 0, none⟩) n' c', .int .i64 now'] 25
  x : Blk W XX #[.int .i64 d.kind, .string d.text, .slice l.nA d.nn l.nc, .slice l.kA d.kn l.kc, .int .i64 d.turn] 36
  y : Blk W XY #[.int .i64 d'.kind, .string d'.text, .slice l'.nA d'.nn l'.nc, .slice l'.kA d'.kn l'.kc, .int .i64 d'.turn] 36
  own : OwnT W (w.heap.size + 2) g c n D L
  own' : OwnT W (w.heap.size + 2) g' c' n' D' L'
  lies : NdIn W d l
  lies' : NdIn W d' l'
  bel : Below w.heap.size w W

section
variable {w : World} {XA XB XX XY g c n : Nat} {D : Nat → Nd} {L : Nat → Loc} {now : Int} {g' c' n' : Nat} {D' : Nat → Nd} {L' : Nat → Loc} {now' : Int} {d d' : Nd} {l l' : Loc} {W W' : World}
theorem LS.below (h : LS w XA XB XX XY g c n D L now g' c' n' D' L' now' d d' l l' W) (hb : Below W.heap.size W W') : LS w XA XB XX XY g c n D L now g' c' n' D' L' now' d d' l l' W' :=
  ⟨h.a.below hb h.a.lt, h.b.below hb h.b.lt, h.x.below hb h.x.lt, h.y.below hb h.y.lt, h.own.below hb, h.own'.below hb, h.lies.below (Nat.le_refl _) hb, h.lies'.below (Nat.le_refl _) hb, h.bel.trans (hb.mono h.bel.size)⟩
end

/-- .. and two trees that are turned. -/
structure LC (w : World) (XA XB XX XY g c n : Nat) (D : Nat → Nd) (L : Nat → Loc) (now : Int) (g' c' n' : Nat) (D' : Nat → Nd) (L' : Nat → Loc) (now' : Int) (d d' : Nd) (l l' : Loc) (XC XD gd cd nd : Nat) (Dd : Nat → Nd) (Ld : Nat → Loc) (W : World) : Prop where
  ls : LS w XA XB XX XY g c n D L now g' c' n' D' L' now' d d' l l' W
  c : Blk W XC #[.slice (some ⟨g, 0, none⟩) n c, .int .i64 (now + 1)] 25
  t : Blk W XD #[.slice (some ⟨gd, 0, none⟩) nd cd, .int .i64 now] 25
  own : OwnT W (w.heap.size + 2) gd cd nd Dd Ld

section
variable {w : World} {XA XB XX XY g c n : Nat} {D : Nat → Nd} {L : Nat → Loc} {now : Int} {g' c' n' : Nat} {D' : Nat → Nd} {L' : Nat → Loc} {now' : Int} {d d' : Nd} {l l' : Loc} {XC XD gd cd nd : Nat} {Dd : Nat → Nd} {Ld : Nat → Loc} {W W' : World}
theorem LC.below (h : LC w XA XB XX XY g c n D L now g' c' n' D' L' now' d d' l l' XC XD gd cd nd Dd Ld W) (hb : Below W.heap.size W W') : LC w XA XB XX XY g c n D L now g' c' n' D' L' now' d d' l l' XC XD gd cd nd Dd Ld W' :=
  ⟨h.ls.below hb, h.c.below hb h.c.lt, h.t.below hb h.t.lt, h.own.below hb⟩
end

/-- .. and two places that are turned. -/
structure LZ (w : World) (XA XB XX XY g c n : Nat) (D : Nat → Nd) (L : Nat → Loc) (now : Int) (g' c' n' : Nat) (D' : Nat → Nd) (L' : Nat → Loc) (now' : Int) (d d' : Nd) (l l' : Loc) (XC XD XZ XW gd cd nd : Nat) (Dd : Nat → Nd) (Ld : Nat → Loc) (dz dw : Nd) (lw : Loc) (W : World) : Prop where
  lc : LC w XA XB XX XY g c n D L now g' c' n' D' L' now' d d' l l' XC XD gd cd nd Dd Ld W
  z : Blk W XZ #[.int .i64 dz.kind, .string dz.text, .slice l.nA dz.nn l.nc, .slice l.kA dz.kn l.kc, .int .i64 dz.turn] 36
  v : Blk W XW #[.int .i64 dw.kind, .string dw.text, .slice lw.nA dw.nn lw.nc, .slice lw.kA dw.kn lw.kc, .int .i64 dw.turn] 36
  lw : NdIn W dw lw

section
variable {w : World} {XA XB XX XY g c n : Nat} {D : Nat → Nd} {L : Nat → Loc} {now : Int} {g' c' n' : Nat} {D' : Nat → Nd} {L' : Nat → Loc} {now' : Int} {d d' : Nd} {l l' : Loc} {XC XD XZ XW gd cd nd : Nat} {Dd : Nat → Nd} {Ld : Nat → Loc} {dz dw : Nd} {lw : Loc} {W W' : World}
theorem LZ.below (h : LZ w XA XB XX XY g c n D L now g' c' n' D' L' now' d d' l l' XC XD XZ XW gd cd nd Dd Ld dz dw lw W) (hb : Below W.heap.size W W') : LZ w XA XB XX XY g c n D L now g' c' n' D' L' now' d d' l l' XC XD XZ XW gd cd nd Dd Ld dz dw lw W' :=
  ⟨h.lc.below hb, h.z.below hb h.z.lt, h.v.below hb h.v.lt, h.lw.below (Nat.le_refl _) hb⟩

/-- The kids of the last are another list. -/
theorem LZ.kids {V9 W10 : World} (h9 : LC w XA XB XX XY g c n D L now g' c' n' D' L' now' d d' l l' XC XD gd cd nd Dd Ld V9) (hb9 : Below V9.heap.size V9 W10) (hZ : V9.heap.size ≤ XZ) (hZW : XZ < XW) (h : LZ w XA XB XX XY g c n D L now g' c' n' D' L' now' d d' l l' XC XD XZ XW gd cd nd Dd Ld dz d l W10) (hb : Below W10.heap.size W10 W) {b c2 : Nat} {Z : Nat → Int} (hI : IsInts W (some ⟨b, 0, none⟩) (d.kn + 1) Z) (hbX : W10.heap.size ≤ b) :
    LZ w XA XB XX XY g c n D L now g' c' n' D' L' now' d d' l l' XC XD XZ XW gd cd nd Dd Ld dz { d with kn := d.kn + 1, kids := Z } { l with kA := some ⟨b, 0, none⟩, kc := c2 } (W.setCell ⟨XW, 3, none⟩ (.slice (some ⟨b, 0, none⟩) (d.kn + 1) c2)) := by
  have h' := h.below hb
  have hW := h.v.lt
  have hbel : Below V9.heap.size V9 (W.setCell ⟨XW, 3, none⟩ (.slice (some ⟨b, 0, none⟩) (d.kn + 1) c2)) := bel_put (hb9.trans (hb.mono hb9.size)) _ (by omega)
  have hlc := h9.below hbel
  exact ⟨hlc, h'.z.off _ (by omega), h'.v.set 3 _, ⟨hlc.ls.lies.1, hI.off _ (by omega)⟩⟩
end

theorem ownsRow_ints {w : World} {B g c n : Nat} {T : List Int} (h : w.ownsRow B 3 1 (.slice (some ⟨g, 0, none⟩) n c) n (T.map (Value.int .i64))) (hn : T.length = n) (hg : g < w.heap.size) : IsInts w (some ⟨g, 0, none⟩) n (fun i => T.getD i 0) :=
  Or.inr ⟨g, 0, rfl, hg, fun i hi => by
    have := h.cells (g := g) rfl i (.int .i64 (T.getD i 0)) (by simp [hn, hi])
    rwa [addr_add] at this⟩

theorem same_iff {d e : Nd} : d.same e = true ↔ d.kind = e.kind ∧ d.text.toList = e.text.toList ∧ (d.nn = e.nn ∧ ∀ i, i < d.nn → (d.names i).toList = (e.names i).toList) ∧ (d.kn = e.kn ∧ ∀ i, i < d.kn → d.kids i = e.kids i) ∧ d.turn = e.turn := by
  unfold Nd.same eqS eqZ
  simp only [Bool.and_eq_true, beq_iff_eq, decide_eq_true_eq, List.all_eq_true, List.mem_range]
  constructor
  · rintro ⟨⟨⟨⟨a, b⟩, c⟩, d⟩, e⟩; exact ⟨a, b, c, d, e⟩
  · rintro ⟨a, b, c, d, e⟩; exact ⟨⟨⟨⟨a, b⟩, c⟩, d⟩, e⟩

theorem same_sym {d e : Nd} (h : d.same e = true) : e.same d = true := by
  rw [same_iff] at h ⊢
  obtain ⟨a, b, ⟨c1, c2⟩, ⟨d1, d2⟩, f⟩ := h
  exact ⟨a.symm, b.symm, ⟨c1.symm, fun i hi => (c2 i (by omega)).symm⟩, ⟨d1.symm, fun i hi => (d2 i (by omega)).symm⟩, f.symm⟩

theorem tree_sym {n m : Nat} {D E : Nat → Nd} {now now' : Int} (h : treeSame n m D E now now' = true) : treeSame m n E D now' now = true := by
  unfold treeSame sameAll at h ⊢
  simp only [Bool.and_eq_true, beq_iff_eq, decide_eq_true_eq, List.all_eq_true, List.mem_range] at h ⊢
  exact ⟨⟨h.1.1.symm, fun i hi => same_sym (h.1.2 i (by omega))⟩, h.2.symm⟩

theorem tree_comm (n m : Nat) (D E : Nat → Nd) (now now' : Int) : treeSame n m D E now now' = treeSame m n E D now' now := by
  cases h : treeSame m n E D now' now with
  | true => exact tree_sym h
  | false =>
    cases h2 : treeSame n m D E now now' with
    | false => rfl
    | true => rw [tree_sym h2] at h; cases h

theorem tree_self (n : Nat) (D : Nat → Nd) (now : Int) : treeSame n n D D now now = true := by
  unfold treeSame; rw [sameAll_self]; simp

theorem not_text (d : Nd) : d.same { d with text := d.text ++ ⟨#[97]⟩ } = false := by
  rw [Bool.eq_false_iff]; intro h
  have h1 := (same_iff.1 h).2.1
  have h2 := congrArg List.length h1
  rw [ByteArray.toList_eq, ByteArray.toList_eq] at h2
  simp at h2

theorem not_kids (d : Nd) (Z : Nat → Int) : d.same { d with kn := d.kn + 1, kids := Z } = false := by
  rw [Bool.eq_false_iff]; intro h; have := (same_iff.1 h).2.2.2.1.1; simp at this

theorem not_now (n : Nat) (D : Nat → Nd) (now : Int) : treeSame n n D D now (now + 1) = false := by
  unfold treeSame; simp; omega

theorem not_more (n : Nat) (D E : Nat → Nd) (now : Int) : treeSame n (n + 1) D E now now = false := by
  unfold treeSame; simp

theorem text_fits {d : Nd} (h : d.Fits) (ht : d.text.size ≤ 10) : ({ d with text := d.text ++ ⟨#[97]⟩ } : Nd).Fits := ⟨h.kind, h.turn, by show (d.text ++ ⟨#[97]⟩).size ≤ maxLen; rw [ByteArray.size_append]; have : (⟨#[97]⟩ : ByteArray).size = 1 := rfl; unfold maxLen; omega, h.names, h.nn, h.kn, h.kids⟩

theorem kids_fits {d : Nd} (h : d.Fits) (hk : d.kn ≤ 11) : ({ d with kn := d.kn + 1, kids := fun i => ((List.range d.kn).map d.kids ++ [1]).getD i 0 } : Nd).Fits := by
  refine ⟨h.kind, h.turn, h.text, h.names, h.nn, by show d.kn + 1 ≤ maxLen; unfold maxLen; omega, fun i hi => ?_⟩
  have hi' : i < d.kn + 1 := hi
  show In64 (((List.range d.kn).map d.kids ++ [1]).getD i 0)
  by_cases e : i < d.kn
  · have e1 : ((List.range d.kn).map d.kids ++ [1]).getD i 0 = d.kids i := by
      rw [List.getD_eq_getElem?_getD, List.getElem?_append_left (by simpa using e)]
      simp [e]
    rw [e1]; exact h.kids i e
  · obtain rfl : i = d.kn := by omega
    have e1 : ((List.range d.kn).map d.kids ++ [1]).getD d.kn 0 = 1 := by
      rw [List.getD_eq_getElem?_getD, List.getElem?_append_right (by simp)]
      simp
    rw [e1]; unfold In64; omega

theorem more_fits {n : Nat} {D : Nat → Nd} (h : Fair n D) : FitAll (n + 1) (putNd D n (leafNd 0 0)) := fun i hi => by
  by_cases e : i = n
  · subst e; rw [putNd_same]; exact leaf0_fair.fits
  · rw [putNd_ne D _ e]; exact h.fits i (by omega)

/-- The trees alone. -/
structure LT (w : World) (XA XB g c n : Nat) (D : Nat → Nd) (L : Nat → Loc) (now : Int) (g' c' n' : Nat) (D' : Nat → Nd) (L' : Nat → Loc) (now' : Int) (W : World) : Prop where
  a : Blk W XA #[.slice (some ⟨g, 0, none⟩) n c, .int .i64 now] 25
  b : Blk W XB #[.slice (some ⟨g', 0, none⟩) n' c', .int .i64 now'] 25
  tw : TwoT w g c n D L now g' c' n' D' L' now' W

set_option maxRecDepth 100000 in
set_option maxHeartbeats 8000000 in
theorem walk (a0 : Option Addr) (len0 cap0 : Nat) (zs0 : Nat → Int) (w : World) (hC : IsCode w a0 len0 zs0) (hl : len0 ≤ maxLen) (hp : len0 ≤ cap0) :
    Calls Try.prog 4 #[.slice a0 len0 cap0] w fun e w' => e = .returned (.bool true) ∧ Below w.heap.size w w' := by
  have hl' := hl
  unfold maxLen at hl'
  obtain ⟨i0, hi, hz0, hz1, hz2⟩ := info_parts infoInt
  obtain ⟨j0, hj0, hy0, hy1, hy2⟩ := info_parts infoNode
  by_cases hbig : (1048576 : Int) < len0
  · go_enter Try.func4, Try.ntmps4
    go_wp2
    go_ret
    exact ⟨rfl, Below.refl _ _⟩
  · go_enter Try.func4, Try.ntmps4
    go_wp2_with fail
    refine (drawTreeSame_any w a0 len0 cap0 zs0 hC hl hp).mono ?_
    rintro e w1 ⟨g, c, n, D, L, now, g', c', n', D', L', now', rfl, hd⟩
    unfold trV
    have HD : Hid _ := hd
    clear hd
    go_wp2_with fail
    obtain ⟨XB, hXB⟩ : ∃ X, X = w1.heap.size + 1 := ⟨_, rfl⟩
    rw [← hXB]
    obtain ⟨XA, hXA⟩ : ∃ X, X = w1.heap.size := ⟨_, rfl⟩
    rw [← hXA]
    have h2 : LT w XA XB g c n D L now g' c' n' D' L' now' ((w1.alloc (.cells #[.slice (some ⟨g, 0, none⟩) n c, .int .i64 now] 25)).alloc (.cells #[.slice (some ⟨g', 0, none⟩) n' c', .int .i64 now'] 25)) := by
      obtain ⟨n0, n1, n2, n3⟩ := new2 w1 #[.slice (some ⟨g, 0, none⟩) n c, .int .i64 now] 25 #[.slice (some ⟨g', 0, none⟩) n' c', .int .i64 now'] 25
      rw [← hXB] at n1
      rw [← hXA] at n0
      exact ⟨n0, n1, HD.out.below n2⟩
    refine at_world (F := LT w XA XB g c n D L now g' c' n' D' L' now') h2 ?_
    clear h2 hXA hXB HD w1
    intro W2 h2
    refine (drawNodeSame_any W2 a0 len0 cap0 zs0 (hC.below h2.tw.bel) hl hp).mono ?_
    rintro e w3 ⟨d, d', l, l', rfl, hd⟩
    unfold ndV
    have HT : Hid (Fair n D ∧ Fair n' D' ∧ (0 ≤ now ∧ now ≤ 1001) ∧ (0 ≤ now' ∧ now' ≤ 1002)) := ⟨h2.tw.fair, h2.tw.fair', h2.tw.now0, h2.tw.now1⟩
    have HF : Hid (d.Fits ∧ d'.Fits) := ⟨hd.fair.2.2.1, hd.fits'⟩
    obtain ⟨hnn, hkn, _, ht0, ht1, hk0, hk1, htx⟩ := hd.fair
    have hnw := h2.tw.now0
    have H3 : Hid (LT w XA XB g c n D L now g' c' n' D' L' now' W2 ∧ DrawnN W2 d d' l l' w3) := ⟨h2, hd⟩
    have hal := (h2.a.below hd.bel h2.a.lt).lt
    have hbl := (h2.b.below hd.bel h2.b.lt).lt
    have ta0 : w3.cell? ⟨XA, 0, none⟩ = some (.slice (some ⟨g, 0, none⟩) n c) := (h2.a.below hd.bel h2.a.lt).cell 0
    have ta1 : w3.cell? ⟨XA, 1, none⟩ = some (.int .i64 now) := (h2.a.below hd.bel h2.a.lt).cell 1
    have tb0 : w3.cell? ⟨XB, 0, none⟩ = some (.slice (some ⟨g', 0, none⟩) n' c') := (h2.b.below hd.bel h2.b.lt).cell 0
    have tb1 : w3.cell? ⟨XB, 1, none⟩ = some (.int .i64 now') := (h2.b.below hd.bel h2.b.lt).cell 1
    have an0 : XA ≠ w3.heap.size := by omega
    have an1 : XA ≠ w3.heap.size + 1 := by omega
    have am0 : w3.heap.size ≠ XA := by omega
    have am1 : w3.heap.size + 1 ≠ XA := by omega
    have ar1 : XA < w3.heap.size + 1 := by omega
    have bn0 : XB ≠ w3.heap.size := by omega
    have bn1 : XB ≠ w3.heap.size + 1 := by omega
    have bm0 : w3.heap.size ≠ XB := by omega
    have bm1 : w3.heap.size + 1 ≠ XB := by omega
    have br1 : XB < w3.heap.size + 1 := by omega
    clear h2 hd hC
    go_wp2_with fail
    obtain ⟨XY, hXY⟩ : ∃ X, X = w3.heap.size + 1 := ⟨_, rfl⟩
    rw [← hXY]
    obtain ⟨XX, hXX⟩ : ∃ X, X = w3.heap.size := ⟨_, rfl⟩
    rw [← hXX]
    have h4 : LS w XA XB XX XY g c n D L now g' c' n' D' L' now' d d' l l' ((w3.alloc (.cells #[.int .i64 d.kind, .string d.text, .slice l.nA d.nn l.nc, .slice l.kA d.kn l.kc, .int .i64 d.turn] 36)).alloc (.cells #[.int .i64 d'.kind, .string d'.text, .slice l'.nA d'.nn l'.nc, .slice l'.kA d'.kn l'.kc, .int .i64 d'.turn] 36)) := by
      obtain ⟨n0, n1, n2, n3⟩ := new2 w3 #[.int .i64 d.kind, .string d.text, .slice l.nA d.nn l.nc, .slice l.kA d.kn l.kc, .int .i64 d.turn] 36 #[.int .i64 d'.kind, .string d'.text, .slice l'.nA d'.nn l'.nc, .slice l'.kA d'.kn l'.kc, .int .i64 d'.turn] 36
      rw [← hXY] at n1
      rw [← hXX] at n0
      obtain ⟨h2, hd⟩ := H3.out
      have hb : Below W2.heap.size W2 _ := hd.bel.trans (n2.mono hd.bel.size)
      exact ⟨h2.a.below hb h2.a.lt, h2.b.below hb h2.b.lt, n0, n1, h2.tw.own.below hb, h2.tw.own'.below hb, hd.lies.below (Nat.le_refl _) n2, hd.lies'.below (Nat.le_refl _) n2, h2.tw.bel.trans (hb.mono h2.tw.bel.size)⟩
    refine at_world (F := LS w XA XB XX XY g c n D L now g' c' n' D' L' now' d d' l l') h4 ?_
    clear h4 hXX hXY H3 ta0 ta1 tb0 tb1 an0 an1 am0 am1 ar1 bn0 bn1 bm0 bm1 br1 hal hbl w3
    intro W4 h4
    refine (implTreeSame_any (some ⟨g, 0, none⟩) (some ⟨g', 0, none⟩) n c n' c' now now' D D' L L' W4 h4.own.nds h4.own'.nds HT.out.1.fits HT.out.2.1.fits HT.out.1.len HT.out.2.1.len).mono ?_
    rintro e W5 ⟨hB, rfl⟩
    obtain ⟨s, hs⟩ : ∃ s, s = treeSame n n' D D' now now' := ⟨_, rfl⟩
    rw [← hs]
    obtain ⟨r, hr⟩ : ∃ r, r = d.same d' := ⟨_, rfl⟩
    have HN : Hid (LS w XA XB XX XY g c n D L now g' c' n' D' L' now' d d' l l' W5) := h4.below hB
    clear h4 hB
    have I1 : Hid (∀ q : Lat W5.heap.size W5, Calls Try.prog 19 #[.agg #[.slice (some ⟨g, 0, none⟩) n c, .int .i64 now], .agg #[.slice (some ⟨g', 0, none⟩) n' c', .int .i64 now']] q.val fun e w'' => e = .returned (.bool s) ∧ ∃ m : Lat W5.heap.size W5, w'' = m.val) := fun q =>
      Calls.lat_of (specTreeSame_any (some ⟨g, 0, none⟩) (some ⟨g', 0, none⟩) n c n' c' now now' D D' L L' q.val (HN.out.below q.bel).own.nds (HN.out.below q.bel).own'.nds HT.out.1.fits HT.out.2.1.fits HT.out.1.len HT.out.2.1.len) (fun e w' h => ⟨by rw [hs]; exact h.2, h.1.mono q.bel.size⟩)
    have I2 : Hid (∀ q : Lat W5.heap.size W5, Calls Try.prog 12 #[.agg #[.slice (some ⟨g', 0, none⟩) n' c', .int .i64 now'], .agg #[.slice (some ⟨g, 0, none⟩) n c, .int .i64 now]] q.val fun e w'' => e = .returned (.bool s) ∧ ∃ m : Lat W5.heap.size W5, w'' = m.val) := fun q =>
      Calls.lat_of (implTreeSame_any (some ⟨g', 0, none⟩) (some ⟨g, 0, none⟩) n' c' n c now' now D' D L' L q.val (HN.out.below q.bel).own'.nds (HN.out.below q.bel).own.nds HT.out.2.1.fits HT.out.1.fits HT.out.2.1.len HT.out.1.len) (fun e w' h => ⟨by rw [hs, tree_comm]; exact h.2, h.1.mono q.bel.size⟩)
    have I3 : Hid (∀ q : Lat W5.heap.size W5, Calls Try.prog 12 #[.agg #[.slice (some ⟨g, 0, none⟩) n c, .int .i64 now], .agg #[.slice (some ⟨g, 0, none⟩) n c, .int .i64 now]] q.val fun e w'' => e = .returned (.bool true) ∧ ∃ m : Lat W5.heap.size W5, w'' = m.val) := fun q =>
      Calls.lat_of (implTreeSame_any (some ⟨g, 0, none⟩) (some ⟨g, 0, none⟩) n c n c now now D D L L q.val (HN.out.below q.bel).own.nds (HN.out.below q.bel).own.nds HT.out.1.fits HT.out.1.fits HT.out.1.len HT.out.1.len) (fun e w' h => ⟨by rw [h.2, tree_self], h.1.mono q.bel.size⟩)
    have I4 : Hid (∀ q : Lat W5.heap.size W5, Calls Try.prog 20 #[.agg #[.int .i64 d.kind, .string d.text, .slice l.nA d.nn l.nc, .slice l.kA d.kn l.kc, .int .i64 d.turn], .agg #[.int .i64 d'.kind, .string d'.text, .slice l'.nA d'.nn l'.nc, .slice l'.kA d'.kn l'.kc, .int .i64 d'.turn]] q.val fun e w'' => e = .returned (.bool r) ∧ ∃ m : Lat W5.heap.size W5, w'' = m.val) := fun q =>
      Calls.lat_of (implNodeSame_any d d' l l' q.val (HN.out.below q.bel).lies (HN.out.below q.bel).lies' HF.out.1 HF.out.2) (fun e w' h => ⟨by rw [hr]; exact h.2, h.1.mono q.bel.size⟩)
    have I5 : Hid (∀ q : Lat W5.heap.size W5, Calls Try.prog 21 #[.agg #[.int .i64 d.kind, .string d.text, .slice l.nA d.nn l.nc, .slice l.kA d.kn l.kc, .int .i64 d.turn], .agg #[.int .i64 d'.kind, .string d'.text, .slice l'.nA d'.nn l'.nc, .slice l'.kA d'.kn l'.kc, .int .i64 d'.turn]] q.val fun e w'' => e = .returned (.bool r) ∧ ∃ m : Lat W5.heap.size W5, w'' = m.val) := fun q =>
      Calls.lat_of (specNodeSame_any d d' l l' q.val (HN.out.below q.bel).lies (HN.out.below q.bel).lies' HF.out.1 HF.out.2) (fun e w' h => ⟨by rw [hr]; exact h.2, h.1.mono q.bel.size⟩)
    have I6 : Hid (∀ q : Lat W5.heap.size W5, Calls Try.prog 20 #[.agg #[.int .i64 d.kind, .string d.text, .slice l.nA d.nn l.nc, .slice l.kA d.kn l.kc, .int .i64 d.turn], .agg #[.int .i64 d.kind, .string d.text, .slice l.nA d.nn l.nc, .slice l.kA d.kn l.kc, .int .i64 d.turn]] q.val fun e w'' => e = .returned (.bool true) ∧ ∃ m : Lat W5.heap.size W5, w'' = m.val) := fun q =>
      Calls.lat_of (implNodeSame_any d d l l q.val (HN.out.below q.bel).lies (HN.out.below q.bel).lies HF.out.1 HF.out.1) (fun e w' h => ⟨by rw [h.2, Nd.same_self], h.1.mono q.bel.size⟩)
    have hss : (s != s) = false := by simp
    have hrr : (r != r) = false := by simp
    clear hs hr
    have ta0 : W5.cell? ⟨XA, 0, none⟩ = some (.slice (some ⟨g, 0, none⟩) n c) := HN.out.a.cell 0
    have TA0 := Lat.cell (B := W5.heap.size) ta0 HN.out.a.lt
    have ta1 : W5.cell? ⟨XA, 1, none⟩ = some (.int .i64 now) := HN.out.a.cell 1
    have TA1 := Lat.cell (B := W5.heap.size) ta1 HN.out.a.lt
    have tb0 : W5.cell? ⟨XB, 0, none⟩ = some (.slice (some ⟨g', 0, none⟩) n' c') := HN.out.b.cell 0
    have TB0 := Lat.cell (B := W5.heap.size) tb0 HN.out.b.lt
    have tb1 : W5.cell? ⟨XB, 1, none⟩ = some (.int .i64 now') := HN.out.b.cell 1
    have TB1 := Lat.cell (B := W5.heap.size) tb1 HN.out.b.lt
    have tx0 : W5.cell? ⟨XX, 0, none⟩ = some (.int .i64 d.kind) := HN.out.x.cell 0
    have TX0 := Lat.cell (B := W5.heap.size) tx0 HN.out.x.lt
    have tx1 : W5.cell? ⟨XX, 1, none⟩ = some (.string d.text) := HN.out.x.cell 1
    have TX1 := Lat.cell (B := W5.heap.size) tx1 HN.out.x.lt
    have tx2 : W5.cell? ⟨XX, 2, none⟩ = some (.slice l.nA d.nn l.nc) := HN.out.x.cell 2
    have TX2 := Lat.cell (B := W5.heap.size) tx2 HN.out.x.lt
    have tx3 : W5.cell? ⟨XX, 3, none⟩ = some (.slice l.kA d.kn l.kc) := HN.out.x.cell 3
    have TX3 := Lat.cell (B := W5.heap.size) tx3 HN.out.x.lt
    have tx4 : W5.cell? ⟨XX, 4, none⟩ = some (.int .i64 d.turn) := HN.out.x.cell 4
    have TX4 := Lat.cell (B := W5.heap.size) tx4 HN.out.x.lt
    have ty0 : W5.cell? ⟨XY, 0, none⟩ = some (.int .i64 d'.kind) := HN.out.y.cell 0
    have TY0 := Lat.cell (B := W5.heap.size) ty0 HN.out.y.lt
    have ty1 : W5.cell? ⟨XY, 1, none⟩ = some (.string d'.text) := HN.out.y.cell 1
    have TY1 := Lat.cell (B := W5.heap.size) ty1 HN.out.y.lt
    have ty2 : W5.cell? ⟨XY, 2, none⟩ = some (.slice l'.nA d'.nn l'.nc) := HN.out.y.cell 2
    have TY2 := Lat.cell (B := W5.heap.size) ty2 HN.out.y.lt
    have ty3 : W5.cell? ⟨XY, 3, none⟩ = some (.slice l'.kA d'.kn l'.kc) := HN.out.y.cell 3
    have TY3 := Lat.cell (B := W5.heap.size) ty3 HN.out.y.lt
    have ty4 : W5.cell? ⟨XY, 4, none⟩ = some (.int .i64 d'.turn) := HN.out.y.cell 4
    have TY4 := Lat.cell (B := W5.heap.size) ty4 HN.out.y.lt
    go_wp2_with fail
    refine wp_region_lat (B := W5.heap.size) (w0 := W5) (by kernel_rfl) (by kernel_rfl) (Below.refl _ _) ?_
    repeat (go_big_quiet_step (first | with_reducible exact I1.out _ | with_reducible exact I2.out _ | with_reducible exact I3.out _ | with_reducible exact I4.out _ | with_reducible exact I5.out _ | with_reducible exact I6.out _))
    refine wpQuiet_nil ?_
    rintro _ ⟨nq, rfl⟩
    have h6 := HN.out.below nq.bel
    obtain ⟨W6, hW6⟩ : ∃ W, W = nq.val := ⟨_, rfl⟩
    rw [← hW6] at h6 ⊢
    clear I1 I2 I3 I4 I5 I6 hss hrr ta0 TA0 ta1 TA1 tb0 TB0 tb1 TB1 tx0 TX0 tx1 TX1 tx2 TX2 tx3 TX3 tx4 TX4 ty0 TY0 ty1 TY1 ty2 TY2 ty3 TY3 ty4 TY4 HN hW6 nq
    have HN : Hid _ := h6
    have hal := h6.a.lt
    have hxl := h6.x.lt
    clear h6
    have hwn : IntKind.i64.wrap (now + 1) = now + 1 := wrap_i64 _ (by omega) (by omega)
    have ta0 : W6.cell? ⟨XA, 0, none⟩ = some (.slice (some ⟨g, 0, none⟩) n c) := HN.out.a.cell 0
    have ta1 : W6.cell? ⟨XA, 1, none⟩ = some (.int .i64 now) := HN.out.a.cell 1
    have nXA0 : XA ≠ W6.heap.size := by omega
    have mXA0 : W6.heap.size ≠ XA := by omega
    have rXA0 : XA < W6.heap.size := by omega
    have nXA1 : XA ≠ W6.heap.size + 1 := by omega
    have mXA1 : W6.heap.size + 1 ≠ XA := by omega
    have rXA1 : XA < W6.heap.size + 1 := by omega
    have nXA2 : XA ≠ W6.heap.size + 1 + 1 := by omega
    have mXA2 : W6.heap.size + 1 + 1 ≠ XA := by omega
    have rXA2 : XA < W6.heap.size + 1 + 1 := by omega
    have nXA3 : XA ≠ W6.heap.size + 1 + 1 + 1 := by omega
    have mXA3 : W6.heap.size + 1 + 1 + 1 ≠ XA := by omega
    have rXA3 : XA < W6.heap.size + 1 + 1 + 1 := by omega
    have H3 : Hid (LC w XA XB XX XY g c n D L now g' c' n' D' L' now' d d' l l' W6.heap.size (W6.heap.size + 1) g c n D L ((W6.alloc (.cells #[.slice (some ⟨g, 0, none⟩) n c, .int .i64 (now + 1)] 25)).alloc (.cells #[.slice (some ⟨g, 0, none⟩) n c, .int .i64 now] 25))) := by
      obtain ⟨n0, n1, n2, n3⟩ := new2 W6 #[.slice (some ⟨g, 0, none⟩) n c, .int .i64 (now + 1)] 25 #[.slice (some ⟨g, 0, none⟩) n c, .int .i64 now] 25
      exact ⟨HN.out.below n2, n0, n1, HN.out.own.below n2⟩
    go_wp2_with (at_builtin; go_must (refine wpList_world (F := fun W => ∃ W', W = W'.alloc (.cells #[] 36) ∧ W'.heap.size = W6.heap.size + 1 + 1 ∧ LC w XA XB XX XY g c n D L now g' c' n' D' L' now' d d' l l' W6.heap.size (W6.heap.size + 1) g c n D L W' ∧ Below W6.heap.size W6 W') ⟨_, rfl, by simp, H3.out, ((Below.refl _ _).alloc (Nat.le_refl _) _).alloc (by simp) _⟩ ?_))
    rintro Wx ⟨W7, hWx, hs, h7, hB7⟩
    rw [hWx]
    clear hWx Wx H3
    have hs2 : W6.heap.size + 1 + 1 = W7.heap.size := hs.symm
    simp only [hs2]
    obtain ⟨XD, hXD⟩ : ∃ X, X = W6.heap.size + 1 := ⟨_, rfl⟩
    rw [← hXD] at h7 ⊢
    obtain ⟨XC, hXC⟩ : ∃ X, X = W6.heap.size := ⟨_, rfl⟩
    rw [← hXC] at h7 ⊢
    have hCD : XC < XD := by omega
    have hAC : XA < XC := by omega
    have hXC' : XX < XC := by omega
    have hDW : XD < W7.heap.size := by omega
    have H7 : Hid (LC w XA XB XX XY g c n D L now g' c' n' D' L' now' d d' l l' XC XD g c n D L W7 ∧ Below W6.heap.size W6 W7 ∧ W6.heap.size ≤ XD) := ⟨h7, hB7, by omega⟩
    clear h7 hB7 hs hs2 hXD hXC hal hxl ta0 ta1 nXA0 mXA0 rXA0 nXA1 mXA1 rXA1 nXA2 mXA2 rXA2 nXA3 mXA3 rXA3
    have hn1 := HT.out.1.some
    have hn11 := HT.out.1.few
    refine copy_list (wr := W7) (by rfl) _ _ (by rfl) (rgE0 W7) H7.out.1.own (by have := H7.out.1.ls.bel.size; have := H7.out.1.ls.own.base; have := H7.out.1.ls.own.lt; omega) (by omega) hn1 (by rfl) (by rfl) ?_
    intro gd cd w8 hO8 hg8 hB8 hgr8 hat8
    have hOA := hO8.below ((Below.refl _ _).alloc (Nat.le_refl _) (.cells #[.int .i64 0, .string ⟨#[]⟩, .slice none 0 0, .slice none 0 0, .int .i64 0] 36))
    obtain ⟨cur, hc8, hcs8⟩ := hOA.blk
    have hW78 := hB8.size
    have hwb : w.heap.size + 2 ≤ w8.heap.size := by have := hO8.base; have := hO8.lt; omega
    go_wp2_with (at_builtin; go_must (refine wpList_append_lies _ rfl _ _ 23 rfl (w.heap.size + 2) 36 j0 _ 5 80 Try.underlying23 hj0 hy0 hy1 hy2 rfl (by decide) (.slice (some ⟨gd, 0, none⟩) n cd) n (cur.toList.take (n * 5)) rfl (hOA.owns hc8 hcs8) ⟨w8.heap.size, 0, none⟩ 1 1 (leafCells 0 0) rfl rfl (World.news_of_block (cs := #[.int .i64 0, .string ⟨#[]⟩, .slice none 0 0, .slice none 0 0, .int .i64 0]) (t := 36) (fr := (0, 0)) (heap_alloc_new w8 _)) (by simp [leafCells, Value.oneCell']) (by decide) (by unfold maxLen; omega) (by omega) (by simp; omega) (w8.heap.size + 1) (by simp) ?_))
    intro g3 c3 w9 hown hgrow hat hlt9
    have hB9 : Below W7.heap.size W7 w9 := (hB8.alloc (by omega) _).grown hgrow (by simp; omega) (fun b e => by simp [Value.ownBlock] at e; omega)
    have hO9 := hOA.appL hc8 hcs8 hown (by simpa [Value.ownBlock] using hgrow) (hat.elim (fun e => Or.inl (by simpa [Value.ownBlock] using e)) (fun e => Or.inr (by rw [e]; simp)))
    have hg3 : W7.heap.size ≤ g3 := by
      rcases hat with e | e
      · simp [Value.ownBlock] at e; omega
      · omega
    have h9 := H7.out.1.below hB9
    have H9 : Hid (LC w XA XB XX XY g c n D L now g' c' n' D' L' now' d d' l l' XC XD g3 c3 (n + 1) (putNd D n (leafNd 0 0)) (putLoc L n loc00) (w9.setCell ⟨XD, 0, none⟩ (.slice (some ⟨g3, 0, none⟩) (n + 1) c3))) := by
      have hB6 : Below W6.heap.size W6 (w9.setCell ⟨XD, 0, none⟩ (.slice (some ⟨g3, 0, none⟩) (n + 1) c3)) := bel_put (H7.out.2.1.trans (hB9.mono H7.out.2.1.size)) _ H7.out.2.2
      have haw := HN.out.own.away (q := XD) (Or.inr H7.out.2.2)
      refine ⟨HN.out.below hB6, h9.c.off _ (by omega), h9.t.set 0 _, hO9.setOther (X := fun b => b = XD) ⟨by show ¬ g3 = XD; omega, fun i hi => ?_⟩ rfl _ _⟩
      by_cases e : i = n
      · subst e; simp [putLoc, loc00]
      · rw [show putLoc L n loc00 i = L i by simp [putLoc, e]]; exact haw.lists i (by omega)
    have z0 : w9.cell? ⟨XD, 0, none⟩ = some (.slice (some ⟨g, 0, none⟩) n c) := h9.t.cell 0
    have zf0 := h9.t.frozen 0
    have hW9 : W7.heap.size ≤ w9.heap.size := hB9.size
    have tx0 : w9.cell? ⟨XX, 0, none⟩ = some (.int .i64 d.kind) := h9.ls.x.cell 0
    have tx1 : w9.cell? ⟨XX, 1, none⟩ = some (.string d.text) := h9.ls.x.cell 1
    have tx2 : w9.cell? ⟨XX, 2, none⟩ = some (.slice l.nA d.nn l.nc) := h9.ls.x.cell 2
    have tx3 : w9.cell? ⟨XX, 3, none⟩ = some (.slice l.kA d.kn l.kc) := h9.ls.x.cell 3
    have tx4 : w9.cell? ⟨XX, 4, none⟩ = some (.int .i64 d.turn) := h9.ls.x.cell 4
    have nXX0 : XX ≠ w9.heap.size := by omega
    have mXX0 : w9.heap.size ≠ XX := by omega
    have rXX0 : XX < w9.heap.size := by omega
    have nXX1 : XX ≠ w9.heap.size + 1 := by omega
    have mXX1 : w9.heap.size + 1 ≠ XX := by omega
    have rXX1 : XX < w9.heap.size + 1 := by omega
    have nXX2 : XX ≠ w9.heap.size + 1 + 1 := by omega
    have mXX2 : w9.heap.size + 1 + 1 ≠ XX := by omega
    have rXX2 : XX < w9.heap.size + 1 + 1 := by omega
    have nXX3 : XX ≠ w9.heap.size + 1 + 1 + 1 := by omega
    have mXX3 : w9.heap.size + 1 + 1 + 1 ≠ XX := by omega
    have rXX3 : XX < w9.heap.size + 1 + 1 + 1 := by omega
    have nXD0 : XD ≠ w9.heap.size := by omega
    have mXD0 : w9.heap.size ≠ XD := by omega
    have rXD0 : XD < w9.heap.size := by omega
    have nXD1 : XD ≠ w9.heap.size + 1 := by omega
    have mXD1 : w9.heap.size + 1 ≠ XD := by omega
    have rXD1 : XD < w9.heap.size + 1 := by omega
    have nXD2 : XD ≠ w9.heap.size + 1 + 1 := by omega
    have mXD2 : w9.heap.size + 1 + 1 ≠ XD := by omega
    have rXD2 : XD < w9.heap.size + 1 + 1 := by omega
    have nXD3 : XD ≠ w9.heap.size + 1 + 1 + 1 := by omega
    have mXD3 : w9.heap.size + 1 + 1 + 1 ≠ XD := by omega
    have rXD3 : XD < w9.heap.size + 1 + 1 + 1 := by omega
    have mXD : XX ≠ XD := by omega
    have mDX : XD ≠ XX := by omega
    clear h9 hO9 hown hgrow hat hOA hc8 hcs8 hO8 hB8 hgr8 hat8
    have H10 : Hid (LZ w XA XB XX XY g c n D L now g' c' n' D' L' now' d d' l l' XC XD w9.heap.size (w9.heap.size + 1) g3 c3 (n + 1) (putNd D n (leafNd 0 0)) (putLoc L n loc00) { d with text := d.text ++ ⟨#[97]⟩ } d l (((w9.setCell ⟨XD, 0, none⟩ (.slice (some ⟨g3, 0, none⟩) (n + 1) c3)).alloc (.cells #[.int .i64 d.kind, .string (d.text ++ ⟨#[97]⟩), .slice l.nA d.nn l.nc, .slice l.kA d.kn l.kc, .int .i64 d.turn] 36)).alloc (.cells #[.int .i64 d.kind, .string d.text, .slice l.nA d.nn l.nc, .slice l.kA d.kn l.kc, .int .i64 d.turn] 36))) := by
      obtain ⟨n0, n1, n2, n3⟩ := new2 (w9.setCell ⟨XD, 0, none⟩ (.slice (some ⟨g3, 0, none⟩) (n + 1) c3)) #[.int .i64 d.kind, .string (d.text ++ ⟨#[97]⟩), .slice l.nA d.nn l.nc, .slice l.kA d.kn l.kc, .int .i64 d.turn] 36 #[.int .i64 d.kind, .string d.text, .slice l.nA d.nn l.nc, .slice l.kA d.kn l.kc, .int .i64 d.turn] 36
      have e : (w9.setCell ⟨XD, 0, none⟩ (.slice (some ⟨g3, 0, none⟩) (n + 1) c3)).heap.size = w9.heap.size := by simp [World.setCell]
      have h10 := H9.out.below n2
      rw [e] at n0 n1
      exact ⟨h10, n0, n1, h10.ls.lies⟩
    go_wp2_with (at_builtin; go_must (refine wpList_world (F := fun W => ∃ W', W = W'.alloc (.cells #[] 3) ∧ W'.heap.size = w9.heap.size + 1 + 1 ∧ LZ w XA XB XX XY g c n D L now g' c' n' D' L' now' d d' l l' XC XD w9.heap.size (w9.heap.size + 1) g3 c3 (n + 1) (putNd D n (leafNd 0 0)) (putLoc L n loc00) { d with text := d.text ++ ⟨#[97]⟩ } d l W' ∧ ∃ V9, V9.heap.size = w9.heap.size ∧ LC w XA XB XX XY g c n D L now g' c' n' D' L' now' d d' l l' XC XD g3 c3 (n + 1) (putNd D n (leafNd 0 0)) (putLoc L n loc00) V9 ∧ Below V9.heap.size V9 W') ⟨_, rfl, by simp, H10.out, _, by simp [World.setCell], H9.out, ((Below.refl _ _).alloc (Nat.le_refl _) _).alloc (by simp) _⟩ ?_))
    rintro Wx ⟨W10, hWx, hs, h10, V9, hV9, hL9, hB10⟩
    rw [hWx]
    clear hWx Wx H10 H9
    have hs2 : w9.heap.size + 1 + 1 = W10.heap.size := hs.symm
    simp only [hs2]
    obtain ⟨XW, hXW⟩ : ∃ X, X = w9.heap.size + 1 := ⟨_, rfl⟩
    rw [← hXW] at h10 ⊢
    obtain ⟨XZ, hXZ⟩ : ∃ X, X = w9.heap.size := ⟨_, rfl⟩
    rw [← hXZ] at h10 ⊢
    have H10 : Hid (LZ w XA XB XX XY g c n D L now g' c' n' D' L' now' d d' l l' XC XD XZ XW g3 c3 (n + 1) (putNd D n (leafNd 0 0)) (putLoc L n loc00) { d with text := d.text ++ ⟨#[97]⟩ } d l W10 ∧ LC w XA XB XX XY g c n D L now g' c' n' D' L' now' d d' l l' XC XD g3 c3 (n + 1) (putNd D n (leafNd 0 0)) (putLoc L n loc00) V9 ∧ Below V9.heap.size V9 W10 ∧ V9.heap.size ≤ XZ ∧ XZ < XW) := ⟨h10, hL9, hB10, by omega, by omega⟩
    have hAZ : XA < XZ ∧ XC < XZ ∧ XD < XZ ∧ XX < XZ ∧ XZ < XW := by omega
    clear h10 hL9 hB10 hs hs2 hXW hXZ hV9 z0 zf0 tx0 tx1 tx2 tx3 tx4 mXD mDX nXX0 mXX0 rXX0 nXX1 mXX1 rXX1 nXX2 mXX2 rXX2 nXX3 mXX3 rXX3 nXD0 mXD0 rXD0 nXD1 mXD1 rXD1 nXD2 mXD2 rXD2 nXD3 mXD3 rXD3
    refine wpList_append_src (by rfl) (.tmp 81) (.tmp 83) 34 rfl W10.heap.size 3 i0 (.int .i64 0) 1 8 Try.underlying34 hi hz0 hz1 hz2 rfl (by decide) (.slice (some ⟨W10.heap.size, 0, none⟩) 0 0) 0 [] rfl (owns_lit (w := W10) (Nat.le_refl _) [] 3 1 0 rfl (by unfold maxLen; omega)) _ d.kn _ rfl ((H10.out.1.lc.ls.lies.2.below (Nat.le_refl _) ((Below.refl _ _).alloc (Nat.le_refl _) _)).src _) (by unfold maxLen; omega) (by omega) (by simp) ?_
    intro v84 w11 hown hgrow hnil hat
    have hbel11 : Below W10.heap.size W10 w11 := ((Below.refl W10.heap.size W10).alloc (Nat.le_refl _) _).grown hgrow (by simp) (fun b e => by simp [Value.ownBlock] at e; omega)
    obtain ⟨b84, hb84⟩ : ∃ b, v84.ownBlock = some b := by
      rcases hat with e | e
      · exact ⟨_, e⟩
      · exact ⟨_, e⟩
    rw [Nat.zero_add, List.nil_append] at hown
    obtain ⟨c84, hv84, hB84, hl84⟩ := owned_form hown hb84
    subst hv84
    have HO11 : Hid (w11.ownsRow W10.heap.size 3 1 (.slice (some ⟨b84, 0, none⟩) d.kn c84) d.kn ((List.range d.kn).map fun i => .int .i64 (d.kids i))) := hown
    have HB11 : Hid _ := hbel11
    have hW11 := hbel11.size
    clear hown hgrow hnil hat hb84 hbel11
    go_wp2_with (at_builtin; go_must (refine wpList_append_src (by rfl) (.tmp 84) (.tmp 85) 34 rfl W10.heap.size 3 i0 (.int .i64 0) 1 8 Try.underlying34 hi hz0 hz1 hz2 rfl (by decide) (.slice (some ⟨b84, 0, none⟩) d.kn c84) d.kn _ rfl (World.ownsRow.alloc HO11.out _) (.slice (some ⟨w11.heap.size, 0, none⟩) 1 1) 1 [.int .i64 1] rfl ⟨rfl, by simp [Value.oneCell'], Or.inr ⟨_, _, rfl, World.news_of_block (cs := #[.int .i64 1]) (blk_alloc_new _ _)⟩⟩ (by unfold maxLen; omega) (by omega) (by simp; omega) ?_))
    intro v86 w12 hown hgrow hnil hat
    have hbel12 : Below W10.heap.size W10 w12 := (HB11.out.alloc (by omega) _).grown hgrow (by simp; omega) (fun b e => by simp [Value.ownBlock] at e; omega)
    obtain ⟨b86, hb86⟩ : ∃ b, v86.ownBlock = some b := by
      rcases hat with e | e
      · exact ⟨_, e⟩
      · exact ⟨_, e⟩
    obtain ⟨c86, hv86, hB86, hl86⟩ := owned_form hown hb86
    subst hv86
    have hown' : w12.ownsRow W10.heap.size 3 1 (.slice (some ⟨b86, 0, none⟩) (d.kn + 1) c86) (d.kn + 1) (((List.range d.kn).map d.kids ++ [1]).map (Value.int .i64)) := by
      have e : ((List.range d.kn).map d.kids ++ [1]).map (Value.int .i64) = ((List.range d.kn).map fun i => Value.int .i64 (d.kids i)) ++ [.int .i64 1] := by simp [Function.comp_def]
      rw [e]; exact hown
    have HS12 : Hid _ := ownsRow_ints hown' (by simp) hl86
    have H12 : Hid _ := LZ.kids H10.out.2.1 H10.out.2.2.1 H10.out.2.2.2.1 H10.out.2.2.2.2 H10.out.1 hbel12 (c2 := c86) HS12.out hB86
    have h12 := H10.out.1.below hbel12
    have z3 : w12.cell? ⟨XW, 3, none⟩ = some (.slice l.kA d.kn l.kc) := h12.v.cell 3
    have zf3 := h12.v.frozen 3
    have ta0 : w12.cell? ⟨XA, 0, none⟩ = some (.slice (some ⟨g, 0, none⟩) n c) := h12.lc.ls.a.cell 0
    have ta1 : w12.cell? ⟨XA, 1, none⟩ = some (.int .i64 now) := h12.lc.ls.a.cell 1
    have tc0 : w12.cell? ⟨XC, 0, none⟩ = some (.slice (some ⟨g, 0, none⟩) n c) := h12.lc.c.cell 0
    have tc1 : w12.cell? ⟨XC, 1, none⟩ = some (.int .i64 (now + 1)) := h12.lc.c.cell 1
    have m1 : XA ≠ XW := by omega
    have m2 : XW ≠ XA := by omega
    have m3 : XC ≠ XW := by omega
    have m4 : XW ≠ XC := by omega
    clear h12 hown hown' hgrow hnil hat hb86 hbel12 HO11 HB11 H10
    go_wp2_with fail
    refine at_world (F := LZ w XA XB XX XY g c n D L now g' c' n' D' L' now' d d' l l' XC XD XZ XW g3 c3 (n + 1) _ _ _ _ _) H12.out ?_
    intro W13 h13
    have HF3 : Hid (({ d with kn := d.kn + 1, kids := fun i => ((List.range d.kn).map d.kids ++ [1]).getD i 0 } : Nd).Fits) := kids_fits HF.out.1 hkn
    have HZ : Hid _ := h13
    clear h13 H12 HS12 z3 zf3 ta0 ta1 tc0 tc1 m1 m2 m3 m4
    refine (implTreeSame_any (some ⟨g, 0, none⟩) (some ⟨g, 0, none⟩) n c n c now (now + 1) D D L L W13 HZ.out.lc.ls.own.nds HZ.out.lc.ls.own.nds HT.out.1.fits HT.out.1.fits HT.out.1.len HT.out.1.len).mono ?_
    rintro e V1 ⟨hB, rfl⟩
    rw [not_now]
    have HZ' : Hid _ := HZ.out.below hB
    clear HZ hB
    have ta0 : V1.cell? ⟨XA, 0, none⟩ = some (.slice (some ⟨g, 0, none⟩) n c) := HZ'.out.lc.ls.a.cell 0
    have ta1 : V1.cell? ⟨XA, 1, none⟩ = some (.int .i64 now) := HZ'.out.lc.ls.a.cell 1
    have td0 : V1.cell? ⟨XD, 0, none⟩ = some (.slice (some ⟨g3, 0, none⟩) (n + 1) c3) := HZ'.out.lc.t.cell 0
    have td1 : V1.cell? ⟨XD, 1, none⟩ = some (.int .i64 now) := HZ'.out.lc.t.cell 1
    go_wp2_with fail
    refine (implTreeSame_any (some ⟨g, 0, none⟩) (some ⟨g3, 0, none⟩) n c (n + 1) c3 now now D (putNd D n (leafNd 0 0)) L (putLoc L n loc00) V1 HZ'.out.lc.ls.own.nds HZ'.out.lc.own.nds HT.out.1.fits (more_fits HT.out.1) HT.out.1.len (by unfold maxLen; omega)).mono ?_
    rintro e V2 ⟨hB, rfl⟩
    rw [not_more]
    have HZ : Hid _ := HZ'.out.below hB
    clear HZ' hB ta0 ta1 td0 td1
    have tx0 : V2.cell? ⟨XX, 0, none⟩ = some (.int .i64 d.kind) := HZ.out.lc.ls.x.cell 0
    have tz0 : V2.cell? ⟨XZ, 0, none⟩ = some (.int .i64 d.kind) := HZ.out.z.cell 0
    have tx1 : V2.cell? ⟨XX, 1, none⟩ = some (.string d.text) := HZ.out.lc.ls.x.cell 1
    have tz1 : V2.cell? ⟨XZ, 1, none⟩ = some (.string (d.text ++ ⟨#[97]⟩)) := HZ.out.z.cell 1
    have tx2 : V2.cell? ⟨XX, 2, none⟩ = some (.slice l.nA d.nn l.nc) := HZ.out.lc.ls.x.cell 2
    have tz2 : V2.cell? ⟨XZ, 2, none⟩ = some (.slice l.nA d.nn l.nc) := HZ.out.z.cell 2
    have tx3 : V2.cell? ⟨XX, 3, none⟩ = some (.slice l.kA d.kn l.kc) := HZ.out.lc.ls.x.cell 3
    have tz3 : V2.cell? ⟨XZ, 3, none⟩ = some (.slice l.kA d.kn l.kc) := HZ.out.z.cell 3
    have tx4 : V2.cell? ⟨XX, 4, none⟩ = some (.int .i64 d.turn) := HZ.out.lc.ls.x.cell 4
    have tz4 : V2.cell? ⟨XZ, 4, none⟩ = some (.int .i64 d.turn) := HZ.out.z.cell 4
    go_wp2_with fail
    refine (implNodeSame_any d { d with text := d.text ++ ⟨#[97]⟩ } l l V2 HZ.out.lc.ls.lies HZ.out.lc.ls.lies HF.out.1 (text_fits HF.out.1 htx)).mono ?_
    rintro e V3 ⟨hB, rfl⟩
    rw [not_text]
    have HZ' : Hid _ := HZ.out.below hB
    clear HZ hB tx0 tx1 tx2 tx3 tx4 tz0 tz1 tz2 tz3 tz4
    have tx0 : V3.cell? ⟨XX, 0, none⟩ = some (.int .i64 d.kind) := HZ'.out.lc.ls.x.cell 0
    have tw0 : V3.cell? ⟨XW, 0, none⟩ = some (.int .i64 d.kind) := HZ'.out.v.cell 0
    have tx1 : V3.cell? ⟨XX, 1, none⟩ = some (.string d.text) := HZ'.out.lc.ls.x.cell 1
    have tw1 : V3.cell? ⟨XW, 1, none⟩ = some (.string d.text) := HZ'.out.v.cell 1
    have tx2 : V3.cell? ⟨XX, 2, none⟩ = some (.slice l.nA d.nn l.nc) := HZ'.out.lc.ls.x.cell 2
    have tw2 : V3.cell? ⟨XW, 2, none⟩ = some (.slice l.nA d.nn l.nc) := HZ'.out.v.cell 2
    have tx3 : V3.cell? ⟨XX, 3, none⟩ = some (.slice l.kA d.kn l.kc) := HZ'.out.lc.ls.x.cell 3
    have tw3 : V3.cell? ⟨XW, 3, none⟩ = some (.slice (some ⟨b86, 0, none⟩) (d.kn + 1) c86) := HZ'.out.v.cell 3
    have tx4 : V3.cell? ⟨XX, 4, none⟩ = some (.int .i64 d.turn) := HZ'.out.lc.ls.x.cell 4
    have tw4 : V3.cell? ⟨XW, 4, none⟩ = some (.int .i64 d.turn) := HZ'.out.v.cell 4
    go_wp2_with fail
    refine (implNodeSame_any d _ l _ V3 HZ'.out.lc.ls.lies HZ'.out.lw HF.out.1 HF3.out).mono ?_
    rintro e V4 ⟨hB, rfl⟩
    rw [not_kids]
    have HE : Hid (Below w.heap.size w V4) := (HZ'.out.lc.ls.bel).trans (hB.mono HZ'.out.lc.ls.bel.size)
    clear HZ' hB tx0 tx1 tx2 tx3 tx4 tw0 tw1 tw2 tw3 tw4
    go_wp2
    go_ret
    exact ⟨by simp, HE.out⟩

set_option maxRecDepth 100000 in
theorem lifted (os : Os) (started : os.Started) (H : Type) (enc : TypeId × Value → H) :
    ReturnsInHanded {} Try.checked os 4 .any (Rows.fnTreeSameSpec.pre6 enc Try.prog Try.f4 Rows.fnTreeSameRow.domain false) (Rows.fnTreeSameSpec.post enc Try.prog Try.f4 false true false false) := by
  refine returnsInHanded_of_change (C := Try.checked) own started (by kernel_rfl) Try.func4
    (ChangeSpec.witness6 (enc := enc) (C := Try.checked) false ⟨#[], #[.slice none 0 0], []⟩ 8 (by kernel_rfl) (by kernel_rfl) (by kernel_rfl) (by kernel_rfl)) ?_
  intro W base args ds gs before hval0 hW hcnd _
  have hval : ∀ (j : Nat) t v, Try.f4.params[j]? = some t → args[j]? = some v → Value.okWide Try.prog W .any base t v := hval0
  have hW' := hW
  obtain ⟨p, q, hA0, hV, rfl, hfz, hnd⟩ := hW
  have hA : DataW.TrodAll enc Try.prog W 0 (fun _ => true) true Try.f4.params.toList args.toList ds p := hA0
  rw [Try.params4] at hA hval
  obtain ⟨v0, vs0, d0, ds0, p0, q0, hargs, rfl, rfl, h0, r0⟩ := trodAll_cons hA
  obtain ⟨rfl, rfl, rfl⟩ := trodAll_nil r0
  obtain rfl : args = #[v0] := by cases args; simp_all
  obtain ⟨rfl, rfl⟩ := trodVars_none hV
  obtain ⟨a0, len0, cap0, rfl⟩ := okWide_slice Try.underlying22 (hval 0 22 v0 rfl rfl)
  have k0 := h0
  have lt0 : ∀ x ∈ p0, x.block < W.heap.size := by obtain ⟨m, hm⟩ := k0; exact DataW.trod_lt m _ _ _ hm
  obtain ⟨zs0, hC0, hl0, hp0⟩ := openCode h0
  clear hA0 hval0
  refine (walk a0 len0 cap0 zs0 W hC0 hl0 hp0).mono fun e W' ⟨he, bel⟩ => ?_
  subst he
  exact ⟨_, rfl, _, _, _, [], _, [], hW', trodAll_mk1 (shut_bool Try.underlying4 _), (trodAll_cons_mk (Below.trod laidOut (by kernel_rfl) (of_decide_eq_true (by kernel_rfl)) k0 bel lt0) trodAll_mk0), rfl, bel.frame _, fun h => by cases h⟩

theorem over : Rows.fnTreeSameRow.holds Try.pinned (OpenSpec.ofChange Rows.fnTreeSameSpec) :=
  OpenClaim.holds_of_wide 4 Try.f4 rfl rfl rfl rfl rfl rfl rfl ⟨rfl, rfl, rfl, rfl, rfl⟩ rfl rfl rfl rfl rfl (by kernel_rfl) Try.func4 (by kernel_rfl)
    (of_decide_eq_true (by kernel_rfl)) (by unfold Func.isWrapper; first | (rw [if_pos (by decide +kernel)]; kernel_rfl) | (rw [if_neg (by decide +kernel)]; exact ⟨rfl, rfl⟩))
    (fun os started H enc _ => lifted os started H enc)
end Go.Proofs.Ytbifhfnoogjoeaa.fnTreeSame

namespace Go.Proofs.Ytbifhfnoogjoeaa
theorem fnTreeSame_holds : Rows.FnTreeSameSaid := fnTreeSame.over
end Go.Proofs.Ytbifhfnoogjoeaa
