/-
  What DrawNodeSame gives, walked.
-/
import Derived.Test.YtbifhfnoogjoeaaDrawNode
import Derived.Deep.RegionWith
import Derived.BigRegion
namespace Go.Proofs.Ytbifhfnoogjoeaa
open Go.RowKit Go.Deep
set_option linter.unusedVariables false

theorem NdAt.mono {W : World} {B M M' X : Nat} {d : Nd} {l : Loc} (h : NdAt W B M X d l) (hM : M ≤ M') (hs : M' ≤ W.heap.size) : NdAt W B M' X d l :=
  ⟨h.blk, h.lies, ⟨h.x.1, by have := h.x.2; omega⟩, fun b o y e => by have := h.ns b o y e; omega, fun b o y e => by have := h.ks b o y e; omega, hs⟩

theorem DN.start {w w1 w2 : World} {a : Option Addr} {len cp : Nat} {zs : Nat → Int} {q g c n : Nat} {D : Nat → Nd} {L : Nat → Loc} {now : Int} (h1 : Below (w.heap.size + 2) ((w.alloc (.cells zeroNd 36)).alloc (.cells zeroNd 36)) w1) (hl : w.heap.size + 3 ≤ w1.heap.size)
    (h : BentD w1 (w.heap.size + 2) a len cp zs q g c n D L w2) : DN w a len cp zs q w2.heap.size g c n D L now (w2.alloc (.cells #[.slice (some ⟨g, 0, none⟩) n c, .int .i64 now] 25)) := by
  have hs := h.grown.size
  obtain ⟨n0, n1, n2, n3⟩ := new2 w zeroNd 36 zeroNd 36
  have b0 := (n0.below h1 (by omega)).of_block (h.grown.block _ (by omega) (by simp))
  have b1 := (n1.below h1 (by omega)).of_block (h.grown.block _ (by omega) (by simp))
  have hbel : Below w.heap.size w w2 := ⟨h.grown.os.trans (h1.os.trans n2.os), h.grown.tape.trans (h1.tape.trans n2.tape), h.grown.output.trans (h1.output.trans n2.output), by omega, fun k hk => (h.grown.block k (by omega) (by simp; omega)).trans ((h1.block k (by omega)).trans (n2.block k hk))⟩
  have hb2 : Below w2.heap.size w2 (w2.alloc (.cells #[.slice (some ⟨g, 0, none⟩) n c, .int .i64 now] 25)) := (Below.refl _ _).alloc (Nat.le_refl _) _
  exact ⟨h.rd.alloc _, b0.alloc _, b1.alloc _, (h.own.lower (by omega)).below hb2, h.fair, Blk.new w2 _ _, by omega, hbel.trans (hb2.mono hbel.size)⟩

theorem DN.away {w : World} {a : Option Addr} {len cp : Nat} {zs : Nat → Int} {q T g c n : Nat} {D : Nat → Nd} {L : Nat → Loc} {now : Int} {W : World} (h : DN w a len cp zs q T g c n D L now W) {X : Nat} (hX : W.heap.size ≤ X) : X ≠ T ∧ Away (fun b => b = X) g n L := by
  have h1 := h.t.lt
  have h2 := h.own.lt
  exact ⟨by omega, by show ¬ g = X; omega, fun i hi => ⟨fun b o y e => by have := ((h.own.lists i hi).2.1 b o y e).2.2; show ¬ b = X; omega, fun b o y e => by have := ((h.own.lists i hi).2.2 b o y e).2.2; show ¬ b = X; omega⟩⟩

/-- The answer has been written. -/
structure DNEnd (w : World) (d d' : Nd) (l l' : Loc) (W : World) : Prop where
  r0 : Blk W w.heap.size #[.int .i64 d.kind, .string d.text, .slice l.nA d.nn l.nc, .slice l.kA d.kn l.kc, .int .i64 d.turn] 36
  r1 : Blk W (w.heap.size + 1) #[.int .i64 d'.kind, .string d'.text, .slice l'.nA d'.nn l'.nc, .slice l'.kA d'.kn l'.kc, .int .i64 d'.turn] 36
  dn : DrawnN w d d' l l' W

theorem turn_fits {d : Nd} (h : FairNd d) : ({ d with turn := d.turn + 1 } : Nd).Fits := ⟨h.fits.kind, by have := h.turn; show In64 (d.turn + 1); unfold In64; omega, h.fits.text, h.fits.names, h.fits.nn, h.fits.kn, h.fits.kids⟩

/-- A variable of one's own, behind the tree's memory, is written. -/
theorem DN.setX {w : World} {a : Option Addr} {len cp : Nat} {zs : Nat → Int} {q T g c n : Nat} {D : Nat → Nd} {L : Nat → Loc} {now : Int} {W : World} (h : DN w a len cp zs q T g c n D L now W) {X : Nat} (i : Nat) (v : Value) (hX : w.heap.size + 3 ≤ X) (hfar : X ≠ T ∧ Away (fun b => b = X) g n L) : DN w a len cp zs q T g c n D L now (W.setCell ⟨X, i, none⟩ v) := by
  obtain ⟨h1, h2⟩ := hfar
  refine ⟨h.rd.kept (fun k hk => blk_setCell_other _ _ _ _ (by show k ≠ X; omega)), h.r0.off v (by omega), h.r1.off v (by omega), h.own.setOther h2 rfl i v, h.fair, h.t.off v (Ne.symm h1), h.far, bel_put h.bel v (by omega)⟩

def put5 (W : World) (b : Nat) (d : Nd) (l : Loc) : World :=
  ((((W.setCell ⟨b, 0, none⟩ (.int .i64 d.kind)).setCell ⟨b, 1, none⟩ (.string d.text)).setCell ⟨b, 2, none⟩ (.slice l.nA d.nn l.nc)).setCell ⟨b, 3, none⟩ (.slice l.kA d.kn l.kc)).setCell ⟨b, 4, none⟩ (.int .i64 d.turn)

theorem Blk.set5 {W : World} {b : Nat} {d : Nd} {l : Loc} {t : TypeId} (h : Blk W b zeroNd t) : Blk (put5 W b d l) b #[.int .i64 d.kind, .string d.text, .slice l.nA d.nn l.nc, .slice l.kA d.kn l.kc, .int .i64 d.turn] t := ((((h.set 0 _).set 1 _).set 2 _).set 3 _).set 4 _
theorem Blk.off5 {W : World} {b q : Nat} {d : Nd} {l : Loc} {c : Array Value} {t : TypeId} (h : Blk W b c t) (hq : b ≠ q) : Blk (put5 W q d l) b c t := ((((h.off _ hq).off _ hq).off _ hq).off _ hq).off _ hq
theorem NdAt.off5 {W : World} {B M X q : Nat} {d d' : Nd} {l l' : Loc} (h : NdAt W B M X d l) (hq : q < B) : NdAt (put5 W q d' l') B M X d l := ((((h.off _ (Or.inl hq)).off _ (Or.inl hq)).off _ (Or.inl hq)).off _ (Or.inl hq)).off _ (Or.inl hq)
theorem bel_set5 {B : Nat} {a W : World} (h : Below B a W) {q : Nat} (d : Nd) (l : Loc) (hq : B ≤ q) : Below B a (put5 W q d l) := bel_put (bel_put (bel_put (bel_put (bel_put h _ hq) _ hq) _ hq) _ hq) _ hq

section
variable {w : World} {a : Option Addr} {len cp : Nat} {zs : Nat → Int} {q T g c n : Nat} {D : Nat → Nd} {L : Nat → Loc} {now : Int} {M XA XB : Nat} {d d' : Nd} {l l' : Loc} {W : World}
theorem DNN.fin1 (h : DNN w a len cp zs q T g c n D L now M XA XB d d' l l' W) (hf : FairNd d) (hf' : d'.Fits) : DNEnd w d d' l l' (put5 (put5 W w.heap.size d l) (w.heap.size + 1) d' l') :=
  ⟨(Blk.set5 h.dn.r0).off5 (by omega), (h.dn.r1.off5 (by omega)).set5, ((h.na.off5 (by omega)).off5 (by omega)).lies, ((h.nb.off5 (by omega)).off5 (by omega)).lies, ⟨hf.nn, hf.kn, hf.fits, hf.turn.1, by have := hf.turn.2; omega, hf.kind.1, hf.kind.2⟩, hf', bel_set5 (bel_set5 h.dn.bel _ _ (Nat.le_refl _)) _ _ (by omega)⟩
theorem DNN.fin2 (h : DNN w a len cp zs q T g c n D L now M XA XB d d' l l' W) (hf : FairNd d) (hf' : d'.Fits) : DNEnd w d d' l l' (put5 (put5 W (w.heap.size + 1) d' l') w.heap.size d l) :=
  ⟨(h.dn.r0.off5 (by omega)).set5, (Blk.set5 h.dn.r1).off5 (by omega), ((h.na.off5 (by omega)).off5 (by omega)).lies, ((h.nb.off5 (by omega)).off5 (by omega)).lies, ⟨hf.nn, hf.kn, hf.fits, hf.turn.1, by have := hf.turn.2; omega, hf.kind.1, hf.kind.2⟩, hf', bel_set5 (bel_set5 h.dn.bel _ _ (by omega)) _ _ (Nat.le_refl _)⟩
end

theorem DNEnd.drew {w : World} {d d' : Nd} {l l' : Loc} {W : World} (h : DNEnd w d d' l l' W) : DNEnd w d d' l l' W.drew :=
  have hb : Below W.heap.size W W.drew := below_drewN (Below.refl _ _) 1
  ⟨h.r0.below hb h.r0.lt, h.r1.below hb h.r1.lt, h.dn.lies.below (Nat.le_refl _) hb, h.dn.lies'.below (Nat.le_refl _) hb, h.dn.fair, h.dn.fits', h.dn.bel.trans (hb.mono h.dn.bel.size)⟩

section
variable {w : World} {a : Option Addr} {len cp : Nat} {zs : Nat → Int} {q T g c n : Nat} {D : Nat → Nd} {L : Nat → Loc} {now : Int} {M XA XB : Nat} {d d' : Nd} {l l' : Loc} {W W' : World}
theorem DNN.below (h : DNN w a len cp zs q T g c n D L now M XA XB d d' l l' W) (hb : Below W.heap.size W W') : DNN w a len cp zs q T g c n D L now M XA XB d d' l l' W' := ⟨h.dn.below hb, h.na.below hb, h.nb.below hb, h.far⟩
theorem DNN.read {q' : Nat} (h : DNN w a len cp zs q T g c n D L now M XA XB d d' l l' W) (hg : W.grownBy W' (some (w.heap.size + 2))) (hr : IsRd W' (w.heap.size + 2) a len cp zs q') : DNN w a len cp zs q' T g c n D L now M XA XB d d' l l' W' := ⟨h.dn.read hg hr, h.na.grown hg (by omega), h.nb.grown hg (by omega), h.far⟩

/-- The second place is written whole, by a new copy. -/
theorem DNN.all {w0 : World} {d2 : Nd} {l3 : Loc} (h : DNN w a len cp zs q T g c n D L now M XA XB d d' l l' W) (hN : NewNd w0 d2 l3 W) (h0 : M ≤ w0.heap.size) : DNN w a len cp zs q T g c n D L now W.heap.size XA XB d d2 l l3 (put5 W XB d2 l3) := by
  have hx := h.nb.x
  have hM : W.heap.size ≥ M := Nat.le_trans h0 hN.bel.size
  have hXB : w.heap.size + 3 ≤ XB := hx.1
  have hn : ∀ b o y, l3.nA = some ⟨b, o, y⟩ → w.heap.size + 3 ≤ b ∧ b < W.heap.size ∧ b ≠ XB := fun b o y e => by
    obtain ⟨b', e', h1, h2⟩ := hN.nA
    rw [e'] at e; cases e
    exact ⟨by omega, h2, by omega⟩
  have hk : ∀ b o y, l3.kA = some ⟨b, o, y⟩ → w.heap.size + 3 ≤ b ∧ b < W.heap.size ∧ b ≠ XB := fun b o y e => by
    obtain ⟨b', e', h1, h2⟩ := hN.kA
    rw [e'] at e; cases e
    exact ⟨by omega, h2, by omega⟩
  exact ⟨((((h.dn.setX _ _ hXB h.far).setX _ _ hXB h.far).setX _ _ hXB h.far).setX _ _ hXB h.far).setX _ _ hXB h.far,
    ((((h.na.off _ (Or.inr (Nat.le_refl _))).off _ (Or.inr (Nat.le_refl _))).off _ (Or.inr (Nat.le_refl _))).off _ (Or.inr (Nat.le_refl _))).off _ (Or.inr (Nat.le_refl _)), h.nb.all hN.lies hM hn hk, h.far⟩
end

set_option maxRecDepth 100000 in
set_option maxHeartbeats 4000000 in
theorem drawNodeSame_any (w : World) (a : Option Addr) (len cap : Nat) (zs : Nat → Int) (hc : IsCode w a len zs) (hlen : len ≤ maxLen) (hcap : len ≤ cap) :
    Calls Try.prog 18 #[.slice a len cap] w (DrawNPost w) := by
  go_enter Try.func18, Try.ntmps18
  go_wp2_with fail
  refine (l11Open_any _ a len cap zs hlen hcap ((hc.alloc _).alloc _)).mono ?_
  rintro e w1 ⟨rfl, hb, len', hR⟩
  have es : ((w.alloc (.cells #[.int .i64 0, .string ⟨#[]⟩, .slice none 0 0, .slice none 0 0, .int .i64 0] 36)).alloc (.cells #[.int .i64 0, .string ⟨#[]⟩, .slice none 0 0, .slice none 0 0, .int .i64 0] 36)).heap.size = w.heap.size + 2 := by simp
  rw [es] at hb hR ⊢
  have hl := hR.lt
  go_wp2_with fail
  refine (l2Bent_any w1 (w.heap.size + 2) a len' cap zs 0 hR (by omega)).mono ?_
  rintro e w2 ⟨g, c, n, D, L, now, q, rfl, hn0, hn1, hq, hd⟩
  unfold trV
  have HF : Hid (DN w a len' cap zs q w2.heap.size g c n D L now (w2.alloc (.cells #[.slice (some ⟨g, 0, none⟩) n c, .int .i64 now] 25))) := DN.start hb hl hd
  clear hd hR hb hl es
  go_wp2_with fail
  obtain ⟨T, hT⟩ : ∃ T, T = w2.heap.size := ⟨_, rfl⟩
  rw [← hT] at HF ⊢
  refine at_world (F := DN w a len' cap zs q T g c n D L now) HF.out ?_
  clear HF hT w2
  intro W hW
  have hn11 := hW.fair.few
  have hnn1 := hW.fair.some
  refine (pick_any W (w.heap.size + 2) a len' cap zs q n hW.rd (by omega) (by omega) (by omega)).mono ?_
  rintro e w3 ⟨x, rfl, hx0, hx1, hg3, hR3⟩
  obtain ⟨k, rfl⟩ := Int.eq_ofNat_of_zero_le hx0
  have hkn : k < n := by omega
  have hki : (k : Int) < (n : Int) := by omega
  have H3 : Hid (DN w a len' cap zs (q + 1) T g c n D L now w3) := hW.read hg3 hR3
  clear hW hg3 hR3 hx0 hx1
  have hfk := H3.out.fair.each k hkn
  have hfn := hfk.nn
  have hfkn := hfk.kn
  have t0 : w3.cell? ⟨T, 0, none⟩ = some (.slice (some ⟨g, 0, none⟩) n c) := H3.out.t.cell 0
  obtain ⟨c0, c1, c2, c3, c4⟩ := H3.out.own.cells k hkn
  go_wp2_with fail
  refine (l2Copy_any (D k) (L k) w3 (H3.out.own.lists k hkn).1 (by omega) (by omega)).mono ?_
  rintro e w4 ⟨l1, rfl, hN1⟩
  unfold ndV
  have hB4 : Below w4.heap.size w4 (w4.alloc (.cells #[.int .i64 (D k).kind, .string (D k).text, .slice l1.nA (D k).nn l1.nc, .slice l1.kA (D k).kn l1.kc, .int .i64 (D k).turn] 36)) := (Below.refl _ _).alloc (Nat.le_refl _) _
  have H4 : Hid (DN w a len' cap zs (q + 1) T g c n D L now _ ∧ NdAt _ (w.heap.size + 3) (w4.heap.size + 1) w4.heap.size (D k) l1) := ⟨(H3.out.below hN1.bel).below hB4, NdAt.new hN1 (by have := H3.out.rd.lt; omega)⟩
  clear hN1 hB4 H3 t0 c0 c1 c2 c3 c4
  have t0 := H4.out.1.t.cell 0
  obtain ⟨c0, c1, c2, c3, c4⟩ := H4.out.1.own.cells k hkn
  simp at t0
  go_wp2_with fail
  obtain ⟨XA, hXA⟩ : ∃ X, X = w4.heap.size := ⟨_, rfl⟩
  rw [← hXA] at H4 ⊢
  refine at_world (F := fun W => DN w a len' cap zs (q + 1) T g c n D L now W ∧ NdAt W (w.heap.size + 3) (XA + 1) XA (D k) l1) H4.out ?_
  clear H4 t0 c0 c1 c2 c3 c4 hXA w4
  rintro W5 ⟨hD5, hA5⟩
  refine (l2Copy_any (D k) (L k) W5 (hD5.own.lists k hkn).1 (by omega) (by omega)).mono ?_
  rintro e w6 ⟨l2, rfl, hN2⟩
  unfold ndV
  have hB6 : Below w6.heap.size w6 (w6.alloc (.cells #[.int .i64 (D k).kind, .string (D k).text, .slice l2.nA (D k).nn l2.nc, .slice l2.kA (D k).kn l2.kc, .int .i64 (D k).turn] 36)) := (Below.refl _ _).alloc (Nat.le_refl _) _
  have H6 : Hid (DNN w a len' cap zs (q + 1) T g c n D L now (w6.heap.size + 1) XA w6.heap.size (D k) (D k) l1 l2 (w6.alloc (.cells #[.int .i64 (D k).kind, .string (D k).text, .slice l2.nA (D k).nn l2.nc, .slice l2.kA (D k).kn l2.kc, .int .i64 (D k).turn] 36))) :=
    ⟨(hD5.below hN2.bel).below hB6, ((hA5.below hN2.bel).below hB6).mono (by have := hA5.m; have := hN2.bel.size; omega) (by simp), NdAt.new hN2 (by have := hD5.rd.lt; omega), hD5.away hN2.bel.size⟩
  clear hN2 hB6 hD5 hA5
  go_wp2_with fail
  obtain ⟨XB, hXB⟩ : ∃ X, X = w6.heap.size := ⟨_, rfl⟩
  rw [← hXB] at H6 ⊢
  refine at_world (F := DNN w a len' cap zs (q + 1) T g c n D L now (XB + 1) XA XB (D k) (D k) l1 l2) H6.out ?_
  clear H6 hXB w6
  intro W7 h7
  refine (pick_any W7 (w.heap.size + 2) a len' cap zs (q + 1) 4 h7.dn.rd (by omega) (by omega) (by omega)).mono ?_
  rintro e w8 ⟨x, rfl, hx0, hx1, hg8, hR8⟩
  have H8 : Hid (DNN w a len' cap zs (q + 1 + 1) T g c n D L now (XB + 1) XA XB (D k) (D k) l1 l2 w8) := ⟨h7.dn.read hg8 hR8, h7.na.grown hg8 (by omega), h7.nb.grown hg8 (by omega), h7.far⟩
  clear h7 hg8 hR8
  have hft := hfk.turn
  by_cases e0 : x = 0
  · subst e0
    have hxb := H8.out.nb.x
    have hxa := H8.out.na.x
    have z4 : w8.cell? ⟨XB, 4, none⟩ = some (.int .i64 (D k).turn) := H8.out.nb.blk.cell 4
    have zf4 := H8.out.nb.blk.frozen 4
    have hwr : IntKind.i64.wrap ((D k).turn + 1) = (D k).turn + 1 := wrap_i64 _ (by omega) (by omega)
    have H9' : Hid (DNN w a len' cap zs (q + 1 + 1) T g c n D L now (XB + 1) XA XB (D k) { D k with turn := (D k).turn + 1 } l1 l2 (w8.setCell ⟨XB, 4, none⟩ (.int .i64 ((D k).turn + 1)))) :=
      ⟨H8.out.dn.setX _ _ (by omega) H8.out.far, H8.out.na.off _ (Or.inr (Nat.le_refl _)), H8.out.nb.turn _, H8.out.far⟩
    clear H8
    go_wp2_with fail
    refine wp_world (F := DNN w a len' cap zs (q + 1 + 1) T g c n D L now (XB + 1) XA XB (D k) { D k with turn := (D k).turn + 1 } l1 l2) H9'.out ?_
    clear H9' z4 zf4
    intro W9 h9
    have H9 : Hid _ := h9
    clear h9 hxa hxb
    have ya0 : W9.cell? ⟨XA, 0, none⟩ = some (.int .i64 (D k).kind) := H9.out.na.blk.cell 0
    have ya1 : W9.cell? ⟨XA, 1, none⟩ = some (.string (D k).text) := H9.out.na.blk.cell 1
    have ya2 : W9.cell? ⟨XA, 2, none⟩ = some (.slice l1.nA (D k).nn l1.nc) := H9.out.na.blk.cell 2
    have ya3 : W9.cell? ⟨XA, 3, none⟩ = some (.slice l1.kA (D k).kn l1.kc) := H9.out.na.blk.cell 3
    have ya4 : W9.cell? ⟨XA, 4, none⟩ = some (.int .i64 (D k).turn) := H9.out.na.blk.cell 4
    have yb0 : W9.cell? ⟨XB, 0, none⟩ = some (.int .i64 (D k).kind) := H9.out.nb.blk.cell 0
    have yb1 : W9.cell? ⟨XB, 1, none⟩ = some (.string (D k).text) := H9.out.nb.blk.cell 1
    have yb2 : W9.cell? ⟨XB, 2, none⟩ = some (.slice l2.nA (D k).nn l2.nc) := H9.out.nb.blk.cell 2
    have yb3 : W9.cell? ⟨XB, 3, none⟩ = some (.slice l2.kA (D k).kn l2.kc) := H9.out.nb.blk.cell 3
    have yb4 : W9.cell? ⟨XB, 4, none⟩ = some (.int .i64 ((D k).turn + 1)) := H9.out.nb.blk.cell 4
    have rs0 : W9.cell? ⟨w.heap.size, 0, none⟩ = some (.int .i64 0) := H9.out.dn.r0.cell 0
    have sf0 := H9.out.dn.r0.frozen 0
    have rs1 : W9.cell? ⟨w.heap.size, 1, none⟩ = some (.string ⟨#[]⟩) := H9.out.dn.r0.cell 1
    have sf1 := H9.out.dn.r0.frozen 1
    have rs2 : W9.cell? ⟨w.heap.size, 2, none⟩ = some (.slice none 0 0) := H9.out.dn.r0.cell 2
    have sf2 := H9.out.dn.r0.frozen 2
    have rs3 : W9.cell? ⟨w.heap.size, 3, none⟩ = some (.slice none 0 0) := H9.out.dn.r0.cell 3
    have sf3 := H9.out.dn.r0.frozen 3
    have rs4 : W9.cell? ⟨w.heap.size, 4, none⟩ = some (.int .i64 0) := H9.out.dn.r0.cell 4
    have sf4 := H9.out.dn.r0.frozen 4
    have rt0 : W9.cell? ⟨w.heap.size + 1, 0, none⟩ = some (.int .i64 0) := H9.out.dn.r1.cell 0
    have tf0 := H9.out.dn.r1.frozen 0
    have rt1 : W9.cell? ⟨w.heap.size + 1, 1, none⟩ = some (.string ⟨#[]⟩) := H9.out.dn.r1.cell 1
    have tf1 := H9.out.dn.r1.frozen 1
    have rt2 : W9.cell? ⟨w.heap.size + 1, 2, none⟩ = some (.slice none 0 0) := H9.out.dn.r1.cell 2
    have tf2 := H9.out.dn.r1.frozen 2
    have rt3 : W9.cell? ⟨w.heap.size + 1, 3, none⟩ = some (.slice none 0 0) := H9.out.dn.r1.cell 3
    have tf3 := H9.out.dn.r1.frozen 3
    have rt4 : W9.cell? ⟨w.heap.size + 1, 4, none⟩ = some (.int .i64 0) := H9.out.dn.r1.cell 4
    have tf4 := H9.out.dn.r1.frozen 4
    have hxa := H9.out.na.x
    have hxb := H9.out.nb.x
    have m1 : XA ≠ w.heap.size := by omega
    have m2 : XA ≠ w.heap.size + 1 := by omega
    have m3 : XB ≠ w.heap.size := by omega
    have m4 : XB ≠ w.heap.size + 1 := by omega
    have m5 : w.heap.size ≠ XA := by omega
    have m6 : w.heap.size + 1 ≠ XA := by omega
    have m7 : w.heap.size ≠ XB := by omega
    have m8 : w.heap.size + 1 ≠ XB := by omega
    have HE1 : Hid _ := (H9.out.fin1 hfk (turn_fits hfk)).drew
    have HE2 : Hid _ := (H9.out.fin2 hfk (turn_fits hfk)).drew
    simp only [put5] at HE1 HE2
    clear H9
    go_region_held3 (fun W' => (W'.cell? ⟨XA, 0, none⟩ = some (.int .i64 (D k).kind) ∧ W'.cell? ⟨XA, 1, none⟩ = some (.string (D k).text) ∧ W'.cell? ⟨XA, 2, none⟩ = some (.slice l1.nA (D k).nn l1.nc) ∧ W'.cell? ⟨XA, 3, none⟩ = some (.slice l1.kA (D k).kn l1.kc) ∧ W'.cell? ⟨XA, 4, none⟩ = some (.int .i64 (D k).turn)) ∧ (W'.cell? ⟨XB, 0, none⟩ = some (.int .i64 (D k).kind) ∧ W'.cell? ⟨XB, 1, none⟩ = some (.string (D k).text) ∧ W'.cell? ⟨XB, 2, none⟩ = some (.slice l2.nA (D k).nn l2.nc) ∧ W'.cell? ⟨XB, 3, none⟩ = some (.slice l2.kA (D k).kn l2.kc) ∧ W'.cell? ⟨XB, 4, none⟩ = some (.int .i64 ((D k).turn + 1)))) (go_keep) (fail)
    all_goals
      go_wp2
      refine end_world (F := DNEnd w (D k) { D k with turn := (D k).turn + 1 } l1 l2) (by first | with_reducible exact HE1.out | with_reducible exact HE2.out) ?_
      rintro WF ⟨e0, e1, hN⟩
      have r0 := e0.cell 0
      have u0 := e1.cell 0
      have r1 := e0.cell 1
      have u1 := e1.cell 1
      have r2 := e0.cell 2
      have u2 := e1.cell 2
      have r3 := e0.cell 3
      have u3 := e1.cell 3
      have r4 := e0.cell 4
      have u4 := e1.cell 4
      simp at r0 r1 r2 r3 r4 u0 u1 u2 u3 u4
      exact bodyPost_ret (v := .tuple #[ndV (D k) l1, ndV { D k with turn := (D k).turn + 1 } l2]) (by simp [results, Try.results18, go_sem, r0, r1, r2, r3, r4, u0, u1, u2, u3, u4, ndV]) rfl ⟨_, _, _, _, rfl, hN⟩
  · have he0 : (x == 0) = false := by simp; exact e0
    by_cases e1 : x = 1
    · subst e1
      have t0 : w8.cell? ⟨T, 0, none⟩ = some (.slice (some ⟨g, 0, none⟩) n c) := H8.out.dn.t.cell 0
      have hTX : T ≠ XB := Ne.symm H8.out.far.1
      have hXT : XB ≠ T := H8.out.far.1
      have t1 : (∀ i, i < n → w8.cell? ⟨g, i * 5, none⟩ = some (.int .i64 (D i).kind)) := fun i hi => (H8.out.dn.own.cells i hi).1
      have t2 : (∀ i, i < n → w8.cell? ⟨g, i * 5 + 1, none⟩ = some (.string (D i).text)) := fun i hi => (H8.out.dn.own.cells i hi).2.1
      have t3 : (∀ i, i < n → w8.cell? ⟨g, i * 5 + 2, none⟩ = some (.slice (L i).nA (D i).nn (L i).nc)) := fun i hi => (H8.out.dn.own.cells i hi).2.2.1
      have t4 : (∀ i, i < n → w8.cell? ⟨g, i * 5 + 3, none⟩ = some (.slice (L i).kA (D i).kn (L i).kc)) := fun i hi => (H8.out.dn.own.cells i hi).2.2.2.1
      have t5 : (∀ i, i < n → w8.cell? ⟨g, i * 5 + 4, none⟩ = some (.int .i64 (D i).turn)) := fun i hi => (H8.out.dn.own.cells i hi).2.2.2.2
      have hgX : g ≠ XB := H8.out.far.2.row
      have hXg : XB ≠ g := Ne.symm hgX
      have hm8 := H8.out.nb.m
      go_wp2_with fail
      go_region_with (first
        | (go_at_call 39
           refine (l2Copy_any (D k2) (L k2) w9 (h9.dn.own.lists k2 hk2).1 (by omega) (by omega)).mono ?_
           rintro e w10 ⟨l3, rfl, hN3⟩
           unfold ndV
           have h10 := h9.below hN3.bel
           have V0 : w10.cell? ⟨T, 0, none⟩ = some (.slice (some ⟨g, 0, none⟩) n c) := h10.dn.t.cell 0
           have V1 : (∀ i, i < n → w10.cell? ⟨g, i * 5, none⟩ = some (.int .i64 (D i).kind)) := fun i hi => (h10.dn.own.cells i hi).1
           have V2 : (∀ i, i < n → w10.cell? ⟨g, i * 5 + 1, none⟩ = some (.string (D i).text)) := fun i hi => (h10.dn.own.cells i hi).2.1
           have V3 : (∀ i, i < n → w10.cell? ⟨g, i * 5 + 2, none⟩ = some (.slice (L i).nA (D i).nn (L i).nc)) := fun i hi => (h10.dn.own.cells i hi).2.2.1
           have V4 : (∀ i, i < n → w10.cell? ⟨g, i * 5 + 3, none⟩ = some (.slice (L i).kA (D i).kn (L i).kc)) := fun i hi => (h10.dn.own.cells i hi).2.2.2.1
           have V5 : (∀ i, i < n → w10.cell? ⟨g, i * 5 + 4, none⟩ = some (.int .i64 (D i).turn)) := fun i hi => (h10.dn.own.cells i hi).2.2.2.2
           obtain ⟨v0, v1, v2, v3, v4⟩ := h10.nb.cells
           have vf0 := h10.nb.blk.frozen 0
           have vf1 := h10.nb.blk.frozen 1
           have vf2 := h10.nb.blk.frozen 2
           have vf3 := h10.nb.blk.frozen 3
           have vf4 := h10.nb.blk.frozen 4)
        | (go_at_call 38
           refine (pick_any (w8.drewN 1) (w.heap.size + 2) a len' cap zs (q + 1 + 1) n (H8.out.dn.drew 1).rd (by omega) (by omega) (by omega)).mono ?_
           rintro e w9 ⟨y, rfl, hy0, hy1, hg9, hR9⟩
           obtain ⟨k2, rfl⟩ := Int.eq_ofNat_of_zero_le hy0
           have hk2 : k2 < n := by omega
           have hk2i : (k2 : Int) < (n : Int) := by omega
           have h9 := (H8.out.below (below_drewN (Below.refl _ _) 1)).read hg9 hR9
           have hf2 := h9.dn.fair.each k2 hk2
           have hf2n := hf2.nn
           have hf2k := hf2.kn
           have U0 : w9.cell? ⟨T, 0, none⟩ = some (.slice (some ⟨g, 0, none⟩) n c) := h9.dn.t.cell 0
           have U1 : (∀ i, i < n → w9.cell? ⟨g, i * 5, none⟩ = some (.int .i64 (D i).kind)) := fun i hi => (h9.dn.own.cells i hi).1
           have U2 : (∀ i, i < n → w9.cell? ⟨g, i * 5 + 1, none⟩ = some (.string (D i).text)) := fun i hi => (h9.dn.own.cells i hi).2.1
           have U3 : (∀ i, i < n → w9.cell? ⟨g, i * 5 + 2, none⟩ = some (.slice (L i).nA (D i).nn (L i).nc)) := fun i hi => (h9.dn.own.cells i hi).2.2.1
           have U4 : (∀ i, i < n → w9.cell? ⟨g, i * 5 + 3, none⟩ = some (.slice (L i).kA (D i).kn (L i).kc)) := fun i hi => (h9.dn.own.cells i hi).2.2.2.1
           have U5 : (∀ i, i < n → w9.cell? ⟨g, i * 5 + 4, none⟩ = some (.int .i64 (D i).turn)) := fun i hi => (h9.dn.own.cells i hi).2.2.2.2))
      all_goals
        have H11 : Hid _ := h10.all hN3 (by have := h9.nb.m; omega)
        have hff := hf2.fits
        simp only [put5] at H11
        clear h10 hN3 h9 v0 v1 v2 v3 v4 vf0 vf1 vf2 vf3 vf4 V0 V1 V2 V3 V4 V5 U0 U1 U2 U3 U4 U5 hR9 hg9 t0 t1 t2 t3 t4 t5 H8
        go_wp2_with fail
        refine wp_world (F := DNN w a len' cap zs (q + 1 + 1 + 1) T g c n D L now w10.heap.size XA XB (D k) (D k2) l1 l3) H11.out ?_
        clear H11
        intro W9 h9
        have H9 : Hid _ := h9
        clear h9
        have ya0 : W9.cell? ⟨XA, 0, none⟩ = some (.int .i64 (D k).kind) := H9.out.na.blk.cell 0
        have ya1 : W9.cell? ⟨XA, 1, none⟩ = some (.string (D k).text) := H9.out.na.blk.cell 1
        have ya2 : W9.cell? ⟨XA, 2, none⟩ = some (.slice l1.nA (D k).nn l1.nc) := H9.out.na.blk.cell 2
        have ya3 : W9.cell? ⟨XA, 3, none⟩ = some (.slice l1.kA (D k).kn l1.kc) := H9.out.na.blk.cell 3
        have ya4 : W9.cell? ⟨XA, 4, none⟩ = some (.int .i64 (D k).turn) := H9.out.na.blk.cell 4
        have yb0 : W9.cell? ⟨XB, 0, none⟩ = some (.int .i64 (D k2).kind) := H9.out.nb.blk.cell 0
        have yb1 : W9.cell? ⟨XB, 1, none⟩ = some (.string (D k2).text) := H9.out.nb.blk.cell 1
        have yb2 : W9.cell? ⟨XB, 2, none⟩ = some (.slice l3.nA (D k2).nn l3.nc) := H9.out.nb.blk.cell 2
        have yb3 : W9.cell? ⟨XB, 3, none⟩ = some (.slice l3.kA (D k2).kn l3.kc) := H9.out.nb.blk.cell 3
        have yb4 : W9.cell? ⟨XB, 4, none⟩ = some (.int .i64 (D k2).turn) := H9.out.nb.blk.cell 4
        have rs0 : W9.cell? ⟨w.heap.size, 0, none⟩ = some (.int .i64 0) := H9.out.dn.r0.cell 0
        have sf0 := H9.out.dn.r0.frozen 0
        have rs1 : W9.cell? ⟨w.heap.size, 1, none⟩ = some (.string ⟨#[]⟩) := H9.out.dn.r0.cell 1
        have sf1 := H9.out.dn.r0.frozen 1
        have rs2 : W9.cell? ⟨w.heap.size, 2, none⟩ = some (.slice none 0 0) := H9.out.dn.r0.cell 2
        have sf2 := H9.out.dn.r0.frozen 2
        have rs3 : W9.cell? ⟨w.heap.size, 3, none⟩ = some (.slice none 0 0) := H9.out.dn.r0.cell 3
        have sf3 := H9.out.dn.r0.frozen 3
        have rs4 : W9.cell? ⟨w.heap.size, 4, none⟩ = some (.int .i64 0) := H9.out.dn.r0.cell 4
        have sf4 := H9.out.dn.r0.frozen 4
        have rt0 : W9.cell? ⟨w.heap.size + 1, 0, none⟩ = some (.int .i64 0) := H9.out.dn.r1.cell 0
        have tf0 := H9.out.dn.r1.frozen 0
        have rt1 : W9.cell? ⟨w.heap.size + 1, 1, none⟩ = some (.string ⟨#[]⟩) := H9.out.dn.r1.cell 1
        have tf1 := H9.out.dn.r1.frozen 1
        have rt2 : W9.cell? ⟨w.heap.size + 1, 2, none⟩ = some (.slice none 0 0) := H9.out.dn.r1.cell 2
        have tf2 := H9.out.dn.r1.frozen 2
        have rt3 : W9.cell? ⟨w.heap.size + 1, 3, none⟩ = some (.slice none 0 0) := H9.out.dn.r1.cell 3
        have tf3 := H9.out.dn.r1.frozen 3
        have rt4 : W9.cell? ⟨w.heap.size + 1, 4, none⟩ = some (.int .i64 0) := H9.out.dn.r1.cell 4
        have tf4 := H9.out.dn.r1.frozen 4
        have hxa := H9.out.na.x
        have hxb := H9.out.nb.x
        have m1 : XA ≠ w.heap.size := by omega
        have m2 : XA ≠ w.heap.size + 1 := by omega
        have m3 : XB ≠ w.heap.size := by omega
        have m4 : XB ≠ w.heap.size + 1 := by omega
        have m5 : w.heap.size ≠ XA := by omega
        have m6 : w.heap.size + 1 ≠ XA := by omega
        have m7 : w.heap.size ≠ XB := by omega
        have m8 : w.heap.size + 1 ≠ XB := by omega
        have HE1 : Hid _ := (H9.out.fin1 hfk hff).drew
        have HE2 : Hid _ := (H9.out.fin2 hfk hff).drew
        simp only [put5] at HE1 HE2
        clear H9
        go_region_held3 (fun W' => (W'.cell? ⟨XA, 0, none⟩ = some (.int .i64 (D k).kind) ∧ W'.cell? ⟨XA, 1, none⟩ = some (.string (D k).text) ∧ W'.cell? ⟨XA, 2, none⟩ = some (.slice l1.nA (D k).nn l1.nc) ∧ W'.cell? ⟨XA, 3, none⟩ = some (.slice l1.kA (D k).kn l1.kc) ∧ W'.cell? ⟨XA, 4, none⟩ = some (.int .i64 (D k).turn)) ∧ (W'.cell? ⟨XB, 0, none⟩ = some (.int .i64 (D k2).kind) ∧ W'.cell? ⟨XB, 1, none⟩ = some (.string (D k2).text) ∧ W'.cell? ⟨XB, 2, none⟩ = some (.slice l3.nA (D k2).nn l3.nc) ∧ W'.cell? ⟨XB, 3, none⟩ = some (.slice l3.kA (D k2).kn l3.kc) ∧ W'.cell? ⟨XB, 4, none⟩ = some (.int .i64 (D k2).turn))) (go_keep) (fail)
        all_goals
          go_wp2
          refine end_world (F := DNEnd w (D k) (D k2) l1 l3) (by first | with_reducible exact HE1.out | with_reducible exact HE2.out) ?_
          rintro WF ⟨e0, e1, hN⟩
          have r0 := e0.cell 0
          have u0 := e1.cell 0
          have r1 := e0.cell 1
          have u1 := e1.cell 1
          have r2 := e0.cell 2
          have u2 := e1.cell 2
          have r3 := e0.cell 3
          have u3 := e1.cell 3
          have r4 := e0.cell 4
          have u4 := e1.cell 4
          simp at r0 r1 r2 r3 r4 u0 u1 u2 u3 u4
          exact bodyPost_ret (v := .tuple #[ndV (D k) l1, ndV (D k2) l3]) (by simp [results, Try.results18, go_sem, r0, r1, r2, r3, r4, u0, u1, u2, u3, u4, ndV]) rfl ⟨_, _, _, _, rfl, hN⟩
    · have he1 : (x == 1) = false := by simp; exact e1
      clear e0 e1
      go_wp2_with fail
      refine wp_world (F := DNN w a len' cap zs (q + 1 + 1) T g c n D L now (XB + 1) XA XB (D k) (D k) l1 l2) H8.out ?_
      clear H8
      intro W9 h9
      have H9 : Hid _ := h9
      clear h9
      have ya0 : W9.cell? ⟨XA, 0, none⟩ = some (.int .i64 (D k).kind) := H9.out.na.blk.cell 0
      have ya1 : W9.cell? ⟨XA, 1, none⟩ = some (.string (D k).text) := H9.out.na.blk.cell 1
      have ya2 : W9.cell? ⟨XA, 2, none⟩ = some (.slice l1.nA (D k).nn l1.nc) := H9.out.na.blk.cell 2
      have ya3 : W9.cell? ⟨XA, 3, none⟩ = some (.slice l1.kA (D k).kn l1.kc) := H9.out.na.blk.cell 3
      have ya4 : W9.cell? ⟨XA, 4, none⟩ = some (.int .i64 (D k).turn) := H9.out.na.blk.cell 4
      have yb0 : W9.cell? ⟨XB, 0, none⟩ = some (.int .i64 (D k).kind) := H9.out.nb.blk.cell 0
      have yb1 : W9.cell? ⟨XB, 1, none⟩ = some (.string (D k).text) := H9.out.nb.blk.cell 1
      have yb2 : W9.cell? ⟨XB, 2, none⟩ = some (.slice l2.nA (D k).nn l2.nc) := H9.out.nb.blk.cell 2
      have yb3 : W9.cell? ⟨XB, 3, none⟩ = some (.slice l2.kA (D k).kn l2.kc) := H9.out.nb.blk.cell 3
      have yb4 : W9.cell? ⟨XB, 4, none⟩ = some (.int .i64 (D k).turn) := H9.out.nb.blk.cell 4
      have rs0 : W9.cell? ⟨w.heap.size, 0, none⟩ = some (.int .i64 0) := H9.out.dn.r0.cell 0
      have sf0 := H9.out.dn.r0.frozen 0
      have rs1 : W9.cell? ⟨w.heap.size, 1, none⟩ = some (.string ⟨#[]⟩) := H9.out.dn.r0.cell 1
      have sf1 := H9.out.dn.r0.frozen 1
      have rs2 : W9.cell? ⟨w.heap.size, 2, none⟩ = some (.slice none 0 0) := H9.out.dn.r0.cell 2
      have sf2 := H9.out.dn.r0.frozen 2
      have rs3 : W9.cell? ⟨w.heap.size, 3, none⟩ = some (.slice none 0 0) := H9.out.dn.r0.cell 3
      have sf3 := H9.out.dn.r0.frozen 3
      have rs4 : W9.cell? ⟨w.heap.size, 4, none⟩ = some (.int .i64 0) := H9.out.dn.r0.cell 4
      have sf4 := H9.out.dn.r0.frozen 4
      have rt0 : W9.cell? ⟨w.heap.size + 1, 0, none⟩ = some (.int .i64 0) := H9.out.dn.r1.cell 0
      have tf0 := H9.out.dn.r1.frozen 0
      have rt1 : W9.cell? ⟨w.heap.size + 1, 1, none⟩ = some (.string ⟨#[]⟩) := H9.out.dn.r1.cell 1
      have tf1 := H9.out.dn.r1.frozen 1
      have rt2 : W9.cell? ⟨w.heap.size + 1, 2, none⟩ = some (.slice none 0 0) := H9.out.dn.r1.cell 2
      have tf2 := H9.out.dn.r1.frozen 2
      have rt3 : W9.cell? ⟨w.heap.size + 1, 3, none⟩ = some (.slice none 0 0) := H9.out.dn.r1.cell 3
      have tf3 := H9.out.dn.r1.frozen 3
      have rt4 : W9.cell? ⟨w.heap.size + 1, 4, none⟩ = some (.int .i64 0) := H9.out.dn.r1.cell 4
      have tf4 := H9.out.dn.r1.frozen 4
      have hxa := H9.out.na.x
      have hxb := H9.out.nb.x
      have m1 : XA ≠ w.heap.size := by omega
      have m2 : XA ≠ w.heap.size + 1 := by omega
      have m3 : XB ≠ w.heap.size := by omega
      have m4 : XB ≠ w.heap.size + 1 := by omega
      have m5 : w.heap.size ≠ XA := by omega
      have m6 : w.heap.size + 1 ≠ XA := by omega
      have m7 : w.heap.size ≠ XB := by omega
      have m8 : w.heap.size + 1 ≠ XB := by omega
      have HE1 : Hid _ := (H9.out.fin1 hfk hfk.fits).drew
      have HE2 : Hid _ := (H9.out.fin2 hfk hfk.fits).drew
      simp only [put5] at HE1 HE2
      clear H9
      go_region_held3 (fun W' => (W'.cell? ⟨XA, 0, none⟩ = some (.int .i64 (D k).kind) ∧ W'.cell? ⟨XA, 1, none⟩ = some (.string (D k).text) ∧ W'.cell? ⟨XA, 2, none⟩ = some (.slice l1.nA (D k).nn l1.nc) ∧ W'.cell? ⟨XA, 3, none⟩ = some (.slice l1.kA (D k).kn l1.kc) ∧ W'.cell? ⟨XA, 4, none⟩ = some (.int .i64 (D k).turn)) ∧ (W'.cell? ⟨XB, 0, none⟩ = some (.int .i64 (D k).kind) ∧ W'.cell? ⟨XB, 1, none⟩ = some (.string (D k).text) ∧ W'.cell? ⟨XB, 2, none⟩ = some (.slice l2.nA (D k).nn l2.nc) ∧ W'.cell? ⟨XB, 3, none⟩ = some (.slice l2.kA (D k).kn l2.kc) ∧ W'.cell? ⟨XB, 4, none⟩ = some (.int .i64 (D k).turn))) (go_keep) (fail)
      all_goals
        go_wp2
        refine end_world (F := DNEnd w (D k) (D k) l1 l2) (by first | with_reducible exact HE1.out | with_reducible exact HE2.out) ?_
        rintro WF ⟨e0, e1, hN⟩
        have r0 := e0.cell 0
        have u0 := e1.cell 0
        have r1 := e0.cell 1
        have u1 := e1.cell 1
        have r2 := e0.cell 2
        have u2 := e1.cell 2
        have r3 := e0.cell 3
        have u3 := e1.cell 3
        have r4 := e0.cell 4
        have u4 := e1.cell 4
        simp at r0 r1 r2 r3 r4 u0 u1 u2 u3 u4
        exact bodyPost_ret (v := .tuple #[ndV (D k) l1, ndV (D k) l2]) (by simp [results, Try.results18, go_sem, r0, r1, r2, r3, r4, u0, u1, u2, u3, u4, ndV]) rfl ⟨_, _, _, _, rfl, hN⟩
end Go.Proofs.Ytbifhfnoogjoeaa
