/-
  For every code, FnNodeSame answers true: of two drawn places the program says just when they are one, both ways round; one that is turned is another; and trees of such places are one just if they are; and the code reads afterwards as it read before. No condition.
-/
import Derived.Test.YtbifhfnoogjoeaaDrawNodeW
import Derived.Test.YtbifhfnoogjoeaaSpecSame
import Derived.Test.YtbifhfnoogjoeaaImplTreeSame
namespace Go.Proofs.Ytbifhfnoogjoeaa.fnNodeSame
open Go.ChangeShapes Go.WideShapes Go.ChangeAt Go.RowKit Go.Deep
set_option linter.unusedVariables false

theorem wpList_world {P : Program} {ops : Array Oper} {l : List Oper} {a : Act} {Q : Exit → Act → World → Prop} {F : World → Prop} {w : World} (h : F w) (g : ∀ W, F W → wpList P ops Q l a W) : wpList P ops Q l a w := g w h

/-- Two places in variables of the law's. -/
structure NS (w : World) (XA XB : Nat) (d d' : Nd) (l l' : Loc) (W : World) : Prop where
  a : Blk W XA #[.int .i64 d.kind, .string d.text, .slice l.nA d.nn l.nc, .slice l.kA d.kn l.kc, .int .i64 d.turn] 36
  b : Blk W XB #[.int .i64 d'.kind, .string d'.text, .slice l'.nA d'.nn l'.nc, .slice l'.kA d'.kn l'.kc, .int .i64 d'.turn] 36
  lies : NdIn W d l
  lies' : NdIn W d' l'
  bel : Below w.heap.size w W
  lt : XA < XB

theorem NS.below {w : World} {XA XB : Nat} {d d' : Nd} {l l' : Loc} {W W' : World} (h : NS w XA XB d d' l l' W) (hb : Below W.heap.size W W') : NS w XA XB d d' l l' W' :=
  ⟨h.a.below hb h.a.lt, h.b.below hb h.b.lt, h.lies.below (Nat.le_refl _) hb, h.lies'.below (Nat.le_refl _) hb, h.bel.trans (hb.mono h.bel.size), h.lt⟩

theorem eqS_iff {n : Nat} {S T : Nat → ByteArray} : eqS n S T = true ↔ ∀ i, i < n → (S i).toList = (T i).toList := by
  unfold eqS
  rw [List.all_eq_true]
  exact ⟨fun h i hi => by simpa using h i (by simpa using hi), fun h i hi => by simpa using h i (by simpa using hi)⟩

theorem eqZ_iff {n : Nat} {S T : Nat → Int} : eqZ n S T = true ↔ ∀ i, i < n → S i = T i := by
  unfold eqZ
  rw [List.all_eq_true]
  exact ⟨fun h i hi => by simpa using h i (by simpa using hi), fun h i hi => by simpa using h i (by simpa using hi)⟩

theorem same_iff {d e : Nd} : d.same e = true ↔ d.kind = e.kind ∧ d.text.toList = e.text.toList ∧ (d.nn = e.nn ∧ ∀ i, i < d.nn → (d.names i).toList = (e.names i).toList) ∧ (d.kn = e.kn ∧ ∀ i, i < d.kn → d.kids i = e.kids i) ∧ d.turn = e.turn := by
  unfold Nd.same
  simp only [Bool.and_eq_true, beq_iff_eq, decide_eq_true_eq, eqS_iff, eqZ_iff]
  constructor
  · rintro ⟨⟨⟨⟨a, b⟩, c⟩, d⟩, e⟩; exact ⟨a, b, c, d, e⟩
  · rintro ⟨a, b, c, d, e⟩; exact ⟨⟨⟨⟨a, b⟩, c⟩, d⟩, e⟩

theorem same_sym {d e : Nd} (h : d.same e = true) : e.same d = true := by
  rw [same_iff] at h ⊢
  obtain ⟨a, b, ⟨c1, c2⟩, ⟨d1, d2⟩, f⟩ := h
  exact ⟨a.symm, b.symm, ⟨c1.symm, fun i hi => (c2 i (by omega)).symm⟩, ⟨d1.symm, fun i hi => (d2 i (by omega)).symm⟩, f.symm⟩

theorem _root_.Go.Proofs.Ytbifhfnoogjoeaa.Nd.same_comm (d e : Nd) : d.same e = e.same d := by
  cases h : e.same d with
  | true => exact same_sym h
  | false =>
    cases h2 : d.same e with
    | false => rfl
    | true => rw [same_sym h2] at h; cases h

/-- .. and three that are turned. -/
structure NS3 (w : World) (XA XB XC XD XE : Nat) (d d' de : Nd) (l l' le : Loc) (W : World) : Prop where
  ns : NS w XA XB d d' l l' W
  c : Blk W XC #[.int .i64 (d.kind + 1), .string d.text, .slice l.nA d.nn l.nc, .slice l.kA d.kn l.kc, .int .i64 d.turn] 36
  t : Blk W XD #[.int .i64 d.kind, .string d.text, .slice l.nA d.nn l.nc, .slice l.kA d.kn l.kc, .int .i64 (d.turn + 1)] 36
  e : Blk W XE #[.int .i64 de.kind, .string de.text, .slice le.nA de.nn le.nc, .slice le.kA de.kn le.kc, .int .i64 de.turn] 36
  le : NdIn W de le
  lt : XA < XC ∧ XB < XC ∧ XC < XD ∧ XD < XE

theorem NS3.below {w : World} {XA XB XC XD XE : Nat} {d d' de : Nd} {l l' le : Loc} {W W' : World} (h : NS3 w XA XB XC XD XE d d' de l l' le W) (hb : Below W.heap.size W W') : NS3 w XA XB XC XD XE d d' de l l' le W' :=
  ⟨h.ns.below hb, h.c.below hb h.c.lt, h.t.below hb h.t.lt, h.e.below hb h.e.lt, h.le.below (Nat.le_refl _) hb, h.lt⟩

theorem NS3.start {w : World} {XA XB : Nat} {d d' : Nd} {l l' : Loc} {W : World} (h : NS w XA XB d d' l l' W) :
    NS3 w XA XB W.heap.size (W.heap.size + 1) (W.heap.size + 1 + 1) d d' d l l' l (((W.alloc (.cells #[.int .i64 (d.kind + 1), .string d.text, .slice l.nA d.nn l.nc, .slice l.kA d.kn l.kc, .int .i64 d.turn] 36)).alloc (.cells #[.int .i64 d.kind, .string d.text, .slice l.nA d.nn l.nc, .slice l.kA d.kn l.kc, .int .i64 (d.turn + 1)] 36)).alloc (.cells #[.int .i64 d.kind, .string d.text, .slice l.nA d.nn l.nc, .slice l.kA d.kn l.kc, .int .i64 d.turn] 36)) := by
  obtain ⟨n0, n1, n2, n3, n4⟩ := new3 W #[.int .i64 (d.kind + 1), .string d.text, .slice l.nA d.nn l.nc, .slice l.kA d.kn l.kc, .int .i64 d.turn] 36 #[.int .i64 d.kind, .string d.text, .slice l.nA d.nn l.nc, .slice l.kA d.kn l.kc, .int .i64 (d.turn + 1)] 36 #[.int .i64 d.kind, .string d.text, .slice l.nA d.nn l.nc, .slice l.kA d.kn l.kc, .int .i64 d.turn] 36
  have h1 := h.a.lt
  have h2 := h.b.lt
  exact ⟨h.below n3, n0, n1, n2, h.lies.below (Nat.le_refl _) n3, by omega⟩

/-- The list of the third is another one. -/
theorem NS3.names {w : World} {XA XB XC XD XE : Nat} {d d' : Nd} {l l' : Loc} {W5 W6 W : World} (h5 : NS w XA XB d d' l l' W5) (h56 : Below W5.heap.size W5 W6) (hX : W5.heap.size ≤ XC) (h : NS3 w XA XB XC XD XE d d' d l l' l W6) (hb : Below W6.heap.size W6 W) {b c : Nat} {S : Nat → ByteArray} (hS : IsStrs W (some ⟨b, 0, none⟩) (d.nn + 1) S) (hbX : W6.heap.size ≤ b) :
    NS3 w XA XB XC XD XE d d' { d with nn := d.nn + 1, names := S } l l' { l with nA := some ⟨b, 0, none⟩, nc := c } (W.setCell ⟨XE, 2, none⟩ (.slice (some ⟨b, 0, none⟩) (d.nn + 1) c)) := by
  have h' := h.below hb
  have hE := h.e.lt
  have hlt := h.lt
  have hbel : Below W5.heap.size W5 (W.setCell ⟨XE, 2, none⟩ (.slice (some ⟨b, 0, none⟩) (d.nn + 1) c)) := bel_put (h56.trans (hb.mono h56.size)) _ (by omega)
  have hns := h5.below hbel
  exact ⟨hns, h'.c.off _ (by omega), h'.t.off _ (by omega), h'.e.set 2 _, ⟨hS.off _ (by omega), hns.lies.2⟩, hlt⟩

/-- .. and two trees of one place each. -/
structure NS4 (w : World) (XA XB XC XD XE G1 X1 G2 X2 : Nat) (d d' de : Nd) (l l' le : Loc) (W : World) : Prop where
  n3 : NS3 w XA XB XC XD XE d d' de l l' le W
  g1 : Blk W G1 #[.int .i64 d.kind, .string d.text, .slice l.nA d.nn l.nc, .slice l.kA d.kn l.kc, .int .i64 d.turn] 36
  x1 : Blk W X1 #[.slice (some ⟨G1, 0, none⟩) 1 1, .int .i64 3] 25
  g2 : Blk W G2 #[.int .i64 d'.kind, .string d'.text, .slice l'.nA d'.nn l'.nc, .slice l'.kA d'.kn l'.kc, .int .i64 d'.turn] 36
  x2 : Blk W X2 #[.slice (some ⟨G2, 0, none⟩) 1 1, .int .i64 3] 25

theorem NS4.below {w : World} {XA XB XC XD XE G1 X1 G2 X2 : Nat} {d d' de : Nd} {l l' le : Loc} {W W' : World} (h : NS4 w XA XB XC XD XE G1 X1 G2 X2 d d' de l l' le W) (hb : Below W.heap.size W W') : NS4 w XA XB XC XD XE G1 X1 G2 X2 d d' de l l' le W' :=
  ⟨h.n3.below hb, h.g1.below hb h.g1.lt, h.x1.below hb h.x1.lt, h.g2.below hb h.g2.lt, h.x2.below hb h.x2.lt⟩

theorem NS4.start {w : World} {XA XB XC XD XE n : Nat} {d d' de : Nd} {l l' le : Loc} {W : World} (h : NS3 w XA XB XC XD XE d d' de l l' le W) (hs : W.heap.size = n) :
    NS4 w XA XB XC XD XE n (n + 1) (n + 1 + 1) (n + 1 + 1 + 1) d d' de l l' le ((((W.alloc (.cells #[.int .i64 d.kind, .string d.text, .slice l.nA d.nn l.nc, .slice l.kA d.kn l.kc, .int .i64 d.turn] 36)).alloc (.cells #[.slice (some ⟨n, 0, none⟩) 1 1, .int .i64 3] 25)).alloc (.cells #[.int .i64 d'.kind, .string d'.text, .slice l'.nA d'.nn l'.nc, .slice l'.kA d'.kn l'.kc, .int .i64 d'.turn] 36)).alloc (.cells #[.slice (some ⟨n + 1 + 1, 0, none⟩) 1 1, .int .i64 3] 25)) := by
  subst hs
  obtain ⟨n0, n1, n2, n3⟩ := new2 W #[.int .i64 d.kind, .string d.text, .slice l.nA d.nn l.nc, .slice l.kA d.kn l.kc, .int .i64 d.turn] 36 #[.slice (some ⟨W.heap.size, 0, none⟩) 1 1, .int .i64 3] 25
  generalize ((W.alloc (.cells #[.int .i64 d.kind, .string d.text, .slice l.nA d.nn l.nc, .slice l.kA d.kn l.kc, .int .i64 d.turn] 36)).alloc (.cells #[.slice (some ⟨W.heap.size, 0, none⟩) 1 1, .int .i64 3] 25)) = V at n0 n1 n2 n3 ⊢
  obtain ⟨m0, m1, m2, m3⟩ := new2 V #[.int .i64 d'.kind, .string d'.text, .slice l'.nA d'.nn l'.nc, .slice l'.kA d'.kn l'.kc, .int .i64 d'.turn] 36 #[.slice (some ⟨W.heap.size + 1 + 1, 0, none⟩) 1 1, .int .i64 3] 25
  have e : V.heap.size = W.heap.size + 1 + 1 := by omega
  have h2 := (h.below n2).below m2
  have h3 := n0.below m2 n0.lt
  have h4 := n1.below m2 n1.lt
  rw [e] at m0 m1
  exact ⟨h2, h3, h4, m0, m1⟩

theorem kind_fits {d : Nd} (h : d.Fits) (h0 : 0 ≤ d.kind) (h1 : d.kind ≤ 3) : ({ d with kind := d.kind + 1 } : Nd).Fits := ⟨by show In64 (d.kind + 1); unfold In64; omega, h.turn, h.text, h.names, h.nn, h.kn, h.kids⟩
theorem turn_fits2 {d : Nd} (h : d.Fits) (h0 : -1 ≤ d.turn) (h1 : d.turn ≤ 1002) : ({ d with turn := d.turn + 1 } : Nd).Fits := ⟨h.kind, by show In64 (d.turn + 1); unfold In64; omega, h.text, h.names, h.nn, h.kn, h.kids⟩
theorem more_fits {d : Nd} (h : d.Fits) (hn : d.nn ≤ 11) : ({ d with nn := d.nn + 1, names := fun i => (lst d.nn d.names ++ [(⟨#[120]⟩ : ByteArray)]).getD i ByteArray.empty } : Nd).Fits := by
  refine ⟨h.kind, h.turn, h.text, fun i hi => ?_, by show d.nn + 1 ≤ maxLen; unfold maxLen; omega, h.kn, h.kids⟩
  have hi' : i < d.nn + 1 := hi
  show ((lst d.nn d.names ++ [(⟨#[120]⟩ : ByteArray)]).getD i ByteArray.empty).size ≤ maxLen
  by_cases e : i < d.nn
  · have e1 : (lst d.nn d.names ++ [(⟨#[120]⟩ : ByteArray)]).getD i ByteArray.empty = d.names i := by
      rw [List.getD_eq_getElem?_getD, List.getElem?_append_left (by rw [lst_length]; exact e)]
      simp [lst, e]
    rw [e1]
    exact h.names i e
  · obtain rfl : i = d.nn := by omega
    have e1 : (lst d.nn d.names ++ [(⟨#[120]⟩ : ByteArray)]).getD d.nn ByteArray.empty = ⟨#[120]⟩ := by
      rw [List.getD_eq_getElem?_getD, List.getElem?_append_right (by rw [lst_length]; omega), lst_length]
      simp
    rw [e1]
    decide

theorem nds_one {W : World} {G : Nat} {d : Nd} {l : Loc} (h : Blk W G #[.int .i64 d.kind, .string d.text, .slice l.nA d.nn l.nc, .slice l.kA d.kn l.kc, .int .i64 d.turn] 36) (hI : NdIn W d l) : IsNds W (some ⟨G, 0, none⟩) 1 (fun _ => d) (fun _ => l) :=
  Or.inr ⟨G, 0, rfl, h.lt, fun i hi => by
    obtain rfl : i = 0 := by omega
    exact ⟨h.cell 0, h.cell 1, h.cell 2, h.cell 3, h.cell 4, hI⟩⟩

theorem one_same (d d' : Nd) : treeSame 1 1 (fun _ => d) (fun _ => d') 3 3 = d.same d' := by
  simp [treeSame, sameAll, List.range_succ]

theorem not_kind (d : Nd) : d.same { d with kind := d.kind + 1 } = false := by
  rw [Bool.eq_false_iff]; intro h; have := (same_iff.1 h).1; simp at this; omega
theorem not_turn (d : Nd) : d.same { d with turn := d.turn + 1 } = false := by
  rw [Bool.eq_false_iff]; intro h; have := (same_iff.1 h).2.2.2.2; simp at this; omega
theorem not_names (d : Nd) (S : Nat → ByteArray) : d.same { d with nn := d.nn + 1, names := S } = false := by
  rw [Bool.eq_false_iff]; intro h; have := (same_iff.1 h).2.2.1.1; simp at this

set_option maxRecDepth 100000 in
set_option maxHeartbeats 8000000 in
theorem walk (a0 : Option Addr) (len0 cap0 : Nat) (zs0 : Nat → Int) (w : World) (hC : IsCode w a0 len0 zs0) (hl : len0 ≤ maxLen) (hp : len0 ≤ cap0) :
    Calls Try.prog 6 #[.slice a0 len0 cap0] w fun e w' => e = .returned (.bool true) ∧ Below w.heap.size w w' := by
  have hl' := hl
  unfold maxLen at hl'
  obtain ⟨i0, hi, hz0, hz1, hz2⟩ := info_parts infoStr
  by_cases hbig : (1048576 : Int) < len0
  · go_enter Try.func6, Try.ntmps6
    go_wp2
    go_ret
    exact ⟨rfl, Below.refl _ _⟩
  · go_enter Try.func6, Try.ntmps6
    go_wp2_with fail
    refine (drawNodeSame_any w a0 len0 cap0 zs0 hC hl hp).mono ?_
    rintro e w1 ⟨d, d', l, l', rfl, hd⟩
    unfold ndV
    have HD : Hid (DrawnN w d d' l l' w1) := hd
    clear hd hC
    go_wp2_with fail
    obtain ⟨XB, hXB⟩ : ∃ X, X = w1.heap.size + 1 := ⟨_, rfl⟩
    rw [← hXB]
    obtain ⟨XA, hXA⟩ : ∃ X, X = w1.heap.size := ⟨_, rfl⟩
    rw [← hXA]
    have hN0 : NS w XA XB d d' l l' ((w1.alloc (.cells #[.int .i64 d.kind, .string d.text, .slice l.nA d.nn l.nc, .slice l.kA d.kn l.kc, .int .i64 d.turn] 36)).alloc (.cells #[.int .i64 d'.kind, .string d'.text, .slice l'.nA d'.nn l'.nc, .slice l'.kA d'.kn l'.kc, .int .i64 d'.turn] 36)) := by
      obtain ⟨n0, n1, n2, n3⟩ := new2 w1 #[.int .i64 d.kind, .string d.text, .slice l.nA d.nn l.nc, .slice l.kA d.kn l.kc, .int .i64 d.turn] 36 #[.int .i64 d'.kind, .string d'.text, .slice l'.nA d'.nn l'.nc, .slice l'.kA d'.kn l'.kc, .int .i64 d'.turn] 36
      rw [← hXB] at n1
      rw [← hXA] at n0
      exact ⟨n0, n1, HD.out.lies.below (Nat.le_refl _) n2, HD.out.lies'.below (Nat.le_refl _) n2, HD.out.bel.trans (n2.mono HD.out.bel.size), by omega⟩
    refine at_world (F := NS w XA XB d d' l l') hN0 ?_
    clear hN0
    have HF : Hid (d.Fits ∧ d'.Fits) := ⟨HD.out.fair.2.2.1, HD.out.fits'⟩
    have hnn := HD.out.fair.1
    have hkn := HD.out.fair.2.1
    obtain ⟨_, _, _, ht0, ht1, hk0, hk1⟩ := HD.out.fair
    clear HD hXA hXB w1
    intro W2 hN2
    have HN : Hid (NS w XA XB d d' l l' W2) := hN2
    clear hN2
    have ya0 : W2.cell? ⟨XA, 0, none⟩ = some (.int .i64 d.kind) := HN.out.a.cell 0
    have ya1 : W2.cell? ⟨XA, 1, none⟩ = some (.string d.text) := HN.out.a.cell 1
    have ya2 : W2.cell? ⟨XA, 2, none⟩ = some (.slice l.nA d.nn l.nc) := HN.out.a.cell 2
    have ya3 : W2.cell? ⟨XA, 3, none⟩ = some (.slice l.kA d.kn l.kc) := HN.out.a.cell 3
    have ya4 : W2.cell? ⟨XA, 4, none⟩ = some (.int .i64 d.turn) := HN.out.a.cell 4
    have yb0 : W2.cell? ⟨XB, 0, none⟩ = some (.int .i64 d'.kind) := HN.out.b.cell 0
    have yb1 : W2.cell? ⟨XB, 1, none⟩ = some (.string d'.text) := HN.out.b.cell 1
    have yb2 : W2.cell? ⟨XB, 2, none⟩ = some (.slice l'.nA d'.nn l'.nc) := HN.out.b.cell 2
    have yb3 : W2.cell? ⟨XB, 3, none⟩ = some (.slice l'.kA d'.kn l'.kc) := HN.out.b.cell 3
    have yb4 : W2.cell? ⟨XB, 4, none⟩ = some (.int .i64 d'.turn) := HN.out.b.cell 4
    refine (implNodeSame_any d d' l l' W2 HN.out.lies HN.out.lies' HF.out.1 HF.out.2).mono ?_
    rintro e W3 ⟨hB, rfl⟩
    obtain ⟨s, hs⟩ : ∃ s, s = d.same d' := ⟨_, rfl⟩
    rw [← hs]
    have HS : Hid (s = d.same d') := hs
    clear hs
    have hss : (s != s) = false := by simp
    have HN' : Hid (NS w XA XB d d' l l' W3) := HN.out.below hB
    clear HN hB ya0 ya1 ya2 ya3 ya4 yb0 yb1 yb2 yb3 yb4
    have HN : Hid (NS w XA XB d d' l l' W3) := HN'.out
    clear HN'
    have ya0 : W3.cell? ⟨XA, 0, none⟩ = some (.int .i64 d.kind) := HN.out.a.cell 0
    have ya1 : W3.cell? ⟨XA, 1, none⟩ = some (.string d.text) := HN.out.a.cell 1
    have ya2 : W3.cell? ⟨XA, 2, none⟩ = some (.slice l.nA d.nn l.nc) := HN.out.a.cell 2
    have ya3 : W3.cell? ⟨XA, 3, none⟩ = some (.slice l.kA d.kn l.kc) := HN.out.a.cell 3
    have ya4 : W3.cell? ⟨XA, 4, none⟩ = some (.int .i64 d.turn) := HN.out.a.cell 4
    have yb0 : W3.cell? ⟨XB, 0, none⟩ = some (.int .i64 d'.kind) := HN.out.b.cell 0
    have yb1 : W3.cell? ⟨XB, 1, none⟩ = some (.string d'.text) := HN.out.b.cell 1
    have yb2 : W3.cell? ⟨XB, 2, none⟩ = some (.slice l'.nA d'.nn l'.nc) := HN.out.b.cell 2
    have yb3 : W3.cell? ⟨XB, 3, none⟩ = some (.slice l'.kA d'.kn l'.kc) := HN.out.b.cell 3
    have yb4 : W3.cell? ⟨XB, 4, none⟩ = some (.int .i64 d'.turn) := HN.out.b.cell 4
    go_wp2_with fail
    refine (specNodeSame_any d d' l l' W3 HN.out.lies HN.out.lies' HF.out.1 HF.out.2).mono ?_
    rintro e W4 ⟨hB, rfl⟩
    rw [← HS.out]
    have HN' : Hid (NS w XA XB d d' l l' W4) := HN.out.below hB
    clear HN hB ya0 ya1 ya2 ya3 ya4 yb0 yb1 yb2 yb3 yb4
    have HN : Hid (NS w XA XB d d' l l' W4) := HN'.out
    clear HN'
    have ya0 : W4.cell? ⟨XA, 0, none⟩ = some (.int .i64 d.kind) := HN.out.a.cell 0
    have ya1 : W4.cell? ⟨XA, 1, none⟩ = some (.string d.text) := HN.out.a.cell 1
    have ya2 : W4.cell? ⟨XA, 2, none⟩ = some (.slice l.nA d.nn l.nc) := HN.out.a.cell 2
    have ya3 : W4.cell? ⟨XA, 3, none⟩ = some (.slice l.kA d.kn l.kc) := HN.out.a.cell 3
    have ya4 : W4.cell? ⟨XA, 4, none⟩ = some (.int .i64 d.turn) := HN.out.a.cell 4
    have yb0 : W4.cell? ⟨XB, 0, none⟩ = some (.int .i64 d'.kind) := HN.out.b.cell 0
    have yb1 : W4.cell? ⟨XB, 1, none⟩ = some (.string d'.text) := HN.out.b.cell 1
    have yb2 : W4.cell? ⟨XB, 2, none⟩ = some (.slice l'.nA d'.nn l'.nc) := HN.out.b.cell 2
    have yb3 : W4.cell? ⟨XB, 3, none⟩ = some (.slice l'.kA d'.kn l'.kc) := HN.out.b.cell 3
    have yb4 : W4.cell? ⟨XB, 4, none⟩ = some (.int .i64 d'.turn) := HN.out.b.cell 4
    go_wp2_with fail
    refine (implNodeSame_any d' d l' l W4 HN.out.lies' HN.out.lies HF.out.2 HF.out.1).mono ?_
    rintro e W5 ⟨hB, rfl⟩
    rw [Nd.same_comm, ← HS.out]
    have HN' : Hid (NS w XA XB d d' l l' W5) := HN.out.below hB
    clear HN hB ya0 ya1 ya2 ya3 ya4 yb0 yb1 yb2 yb3 yb4
    have HN : Hid (NS w XA XB d d' l l' W5) := HN'.out
    clear HN'
    have ya0 : W5.cell? ⟨XA, 0, none⟩ = some (.int .i64 d.kind) := HN.out.a.cell 0
    have ya1 : W5.cell? ⟨XA, 1, none⟩ = some (.string d.text) := HN.out.a.cell 1
    have ya2 : W5.cell? ⟨XA, 2, none⟩ = some (.slice l.nA d.nn l.nc) := HN.out.a.cell 2
    have ya3 : W5.cell? ⟨XA, 3, none⟩ = some (.slice l.kA d.kn l.kc) := HN.out.a.cell 3
    have ya4 : W5.cell? ⟨XA, 4, none⟩ = some (.int .i64 d.turn) := HN.out.a.cell 4
    have yb0 : W5.cell? ⟨XB, 0, none⟩ = some (.int .i64 d'.kind) := HN.out.b.cell 0
    have yb1 : W5.cell? ⟨XB, 1, none⟩ = some (.string d'.text) := HN.out.b.cell 1
    have yb2 : W5.cell? ⟨XB, 2, none⟩ = some (.slice l'.nA d'.nn l'.nc) := HN.out.b.cell 2
    have yb3 : W5.cell? ⟨XB, 3, none⟩ = some (.slice l'.kA d'.kn l'.kc) := HN.out.b.cell 3
    have yb4 : W5.cell? ⟨XB, 4, none⟩ = some (.int .i64 d'.turn) := HN.out.b.cell 4
    have hlt := HN.out.lt
    have hal := HN.out.a.lt
    have hbl := HN.out.b.lt
    have hwk : IntKind.i64.wrap (d.kind + 1) = d.kind + 1 := wrap_i64 _ (by omega) (by omega)
    have hwt : IntKind.i64.wrap (d.turn + 1) = d.turn + 1 := wrap_i64 _ (by omega) (by omega)
    have an0 : XA ≠ W5.heap.size := by omega
    have am0 : W5.heap.size ≠ XA := by omega
    have an1 : XA ≠ W5.heap.size + 1 := by omega
    have am1 : W5.heap.size + 1 ≠ XA := by omega
    have an2 : XA ≠ W5.heap.size + 1 + 1 := by omega
    have am2 : W5.heap.size + 1 + 1 ≠ XA := by omega
    have an3 : XA ≠ W5.heap.size + 1 + 1 + 1 := by omega
    have am3 : W5.heap.size + 1 + 1 + 1 ≠ XA := by omega
    have an4 : XA ≠ W5.heap.size + 1 + 1 + 1 + 1 := by omega
    have am4 : W5.heap.size + 1 + 1 + 1 + 1 ≠ XA := by omega
    have an5 : XA ≠ W5.heap.size + 1 + 1 + 1 + 1 + 1 := by omega
    have am5 : W5.heap.size + 1 + 1 + 1 + 1 + 1 ≠ XA := by omega
    have bn0 : XB ≠ W5.heap.size := by omega
    have bm0 : W5.heap.size ≠ XB := by omega
    have bn1 : XB ≠ W5.heap.size + 1 := by omega
    have bm1 : W5.heap.size + 1 ≠ XB := by omega
    have bn2 : XB ≠ W5.heap.size + 1 + 1 := by omega
    have bm2 : W5.heap.size + 1 + 1 ≠ XB := by omega
    have bn3 : XB ≠ W5.heap.size + 1 + 1 + 1 := by omega
    have bm3 : W5.heap.size + 1 + 1 + 1 ≠ XB := by omega
    have bn4 : XB ≠ W5.heap.size + 1 + 1 + 1 + 1 := by omega
    have bm4 : W5.heap.size + 1 + 1 + 1 + 1 ≠ XB := by omega
    have bn5 : XB ≠ W5.heap.size + 1 + 1 + 1 + 1 + 1 := by omega
    have bm5 : W5.heap.size + 1 + 1 + 1 + 1 + 1 ≠ XB := by omega
    have ao2 : XA ≠ W5.heap.size + 2 := by omega
    have aq2 : W5.heap.size + 2 ≠ XA := by omega
    have ar2 : XA < W5.heap.size + 1 + 1 := by omega
    have ao3 : XA ≠ W5.heap.size + 3 := by omega
    have aq3 : W5.heap.size + 3 ≠ XA := by omega
    have ar3 : XA < W5.heap.size + 1 + 1 + 1 := by omega
    have ao4 : XA ≠ W5.heap.size + 4 := by omega
    have aq4 : W5.heap.size + 4 ≠ XA := by omega
    have ar4 : XA < W5.heap.size + 1 + 1 + 1 + 1 := by omega
    have ao5 : XA ≠ W5.heap.size + 5 := by omega
    have aq5 : W5.heap.size + 5 ≠ XA := by omega
    have ar5 : XA < W5.heap.size + 1 + 1 + 1 + 1 + 1 := by omega
    have bo2 : XB ≠ W5.heap.size + 2 := by omega
    have bq2 : W5.heap.size + 2 ≠ XB := by omega
    have br2 : XB < W5.heap.size + 1 + 1 := by omega
    have bo3 : XB ≠ W5.heap.size + 3 := by omega
    have bq3 : W5.heap.size + 3 ≠ XB := by omega
    have br3 : XB < W5.heap.size + 1 + 1 + 1 := by omega
    have bo4 : XB ≠ W5.heap.size + 4 := by omega
    have bq4 : W5.heap.size + 4 ≠ XB := by omega
    have br4 : XB < W5.heap.size + 1 + 1 + 1 + 1 := by omega
    have bo5 : XB ≠ W5.heap.size + 5 := by omega
    have bq5 : W5.heap.size + 5 ≠ XB := by omega
    have br5 : XB < W5.heap.size + 1 + 1 + 1 + 1 + 1 := by omega
    have H3 : Hid _ := NS3.start HN.out
    go_wp2_with (at_builtin; go_must (refine wpList_world (F := fun W => ∃ W', W = W'.alloc (.cells #[] 9) ∧ W'.heap.size = W5.heap.size + 1 + 1 + 1 ∧ NS3 w XA XB W5.heap.size (W5.heap.size + 1) (W5.heap.size + 1 + 1) d d' d l l' l W' ∧ Below W5.heap.size W5 W') ⟨_, rfl, by simp, H3.out, (((Below.refl _ _).alloc (Nat.le_refl _) _).alloc (by simp) _).alloc (by simp; omega) _⟩ ?_))
    rintro Wx ⟨W6, hWx, hs, hN6, hB6⟩
    rw [hWx]
    clear hWx Wx H3
    have hs3 : W5.heap.size + 1 + 1 + 1 = W6.heap.size := hs.symm
    simp only [hs3]
    obtain ⟨XE, hXE⟩ : ∃ X, X = W5.heap.size + 1 + 1 := ⟨_, rfl⟩
    rw [← hXE] at hN6 ⊢
    obtain ⟨XD, hXD⟩ : ∃ X, X = W5.heap.size + 1 := ⟨_, rfl⟩
    rw [← hXD] at hN6 ⊢
    obtain ⟨XC, hXC⟩ : ∃ X, X = W5.heap.size := ⟨_, rfl⟩
    rw [← hXC] at hN6 ⊢
    have H6 : Hid (NS3 w XA XB XC XD XE d d' d l l' l W6 ∧ Below W5.heap.size W5 W6 ∧ W5.heap.size ≤ XC) := ⟨hN6, hB6, by omega⟩
    have H5 : Hid (NS w XA XB d d' l l' W5) := HN.out
    clear hN6 hB6 hs hs3 hXE hXD hXC an0 an1 an2 an3 an4 an5 am0 am1 am2 am3 am4 am5 bn0 bn1 bn2 bn3 bn4 bn5 bm0 bm1 bm2 bm3 bm4 bm5 ao2 ao3 ao4 ao5 aq2 aq3 aq4 aq5 ar2 ar3 ar4 ar5 bo2 bo3 bo4 bo5 bq2 bq3 bq4 bq5 br2 br3 br4 br5 hlt hal hbl HN ya0 ya1 ya2 ya3 ya4 yb0 yb1 yb2 yb3 yb4
    refine wpList_append_src (by rfl) (.tmp 45) (.tmp 47) 33 rfl W6.heap.size 9 i0 (.string ByteArray.empty) 1 16 Try.underlying33 hi hz0 hz1 hz2 rfl (by decide) (.slice (some ⟨W6.heap.size, 0, none⟩) 0 0) 0 [] rfl (owns_lit (w := W6) (Nat.le_refl _) [] 9 1 0 rfl (by unfold maxLen; omega)) _ d.nn _ rfl ((H6.out.1.ns.lies.1.below (Nat.le_refl _) ((Below.refl _ _).alloc (Nat.le_refl _) _)).src _) (by unfold maxLen; omega) (by omega) (by simp) ?_
    intro v48 w7 hown hgrow hnil hat
    have hbel7 : Below W6.heap.size W6 w7 := ((Below.refl W6.heap.size W6).alloc (Nat.le_refl _) _).grown hgrow (by simp) (fun b e => by simp [Value.ownBlock] at e; omega)
    obtain ⟨b48, hb48⟩ : ∃ b, v48.ownBlock = some b := by
      rcases hat with e | e
      · exact ⟨_, e⟩
      · exact ⟨_, e⟩
    rw [Nat.zero_add, List.nil_append] at hown
    obtain ⟨c48, hv48, hB48, hl48⟩ := owned_form hown hb48
    subst hv48
    have HO7 : Hid (w7.ownsRow W6.heap.size 9 1 (.slice (some ⟨b48, 0, none⟩) d.nn c48) d.nn (strv (lst d.nn d.names))) := hown
    have HB7 : Hid _ := hbel7
    have hW67 := hbel7.size
    clear hown hgrow hnil hat hb48 hbel7
    go_wp2_with (at_builtin; go_must (refine wpList_append_src (by rfl) (.tmp 48) (.tmp 49) 33 rfl W6.heap.size 9 i0 (.string ByteArray.empty) 1 16 Try.underlying33 hi hz0 hz1 hz2 rfl (by decide) (.slice (some ⟨b48, 0, none⟩) d.nn c48) d.nn _ rfl (World.ownsRow.alloc HO7.out _) (.slice (some ⟨w7.heap.size, 0, none⟩) 1 1) 1 [.string ⟨#[120]⟩] rfl ⟨rfl, by simp [Value.oneCell'], Or.inr ⟨_, _, rfl, World.news_of_block (cs := #[.string ⟨#[120]⟩]) (blk_alloc_new _ _)⟩⟩ (by unfold maxLen; omega) (by omega) (by simp; omega) ?_))
    intro v50 w8 hown hgrow hnil hat
    have hbel8 : Below W6.heap.size W6 w8 := (HB7.out.alloc (by omega) _).grown hgrow (by simp; omega) (fun b e => by simp [Value.ownBlock] at e; omega)
    obtain ⟨b50, hb50⟩ : ∃ b, v50.ownBlock = some b := by
      rcases hat with e | e
      · exact ⟨_, e⟩
      · exact ⟨_, e⟩
    obtain ⟨c50, hv50, hB50, hl50⟩ := owned_form hown hb50
    subst hv50
    have hown' : w8.ownsRow W6.heap.size 9 1 (.slice (some ⟨b50, 0, none⟩) (d.nn + 1) c50) (d.nn + 1) (strv (lst d.nn d.names ++ [⟨#[120]⟩])) := by rw [← strv_append]; exact hown
    have HS8 : Hid _ := ownsRow_strs hown' (by simp [lst_length]) hl50
    have H8 : Hid _ := NS3.names H5.out H6.out.2.1 H6.out.2.2 H6.out.1 hbel8 (c := c50) HS8.out hB50
    have h8 := H6.out.1.below hbel8
    have hlt8 := h8.lt
    have hE8 := h8.e.lt
    have z2 := h8.e.cell 2
    simp at z2
    have zf2 := h8.e.frozen 2
    have ya0 : w8.cell? ⟨XA, 0, none⟩ = some (.int .i64 d.kind) := h8.ns.a.cell 0
    have ya1 : w8.cell? ⟨XA, 1, none⟩ = some (.string d.text) := h8.ns.a.cell 1
    have ya2 : w8.cell? ⟨XA, 2, none⟩ = some (.slice l.nA d.nn l.nc) := h8.ns.a.cell 2
    have ya3 : w8.cell? ⟨XA, 3, none⟩ = some (.slice l.kA d.kn l.kc) := h8.ns.a.cell 3
    have ya4 : w8.cell? ⟨XA, 4, none⟩ = some (.int .i64 d.turn) := h8.ns.a.cell 4
    have yb0 : w8.cell? ⟨XB, 0, none⟩ = some (.int .i64 d'.kind) := h8.ns.b.cell 0
    have yb1 : w8.cell? ⟨XB, 1, none⟩ = some (.string d'.text) := h8.ns.b.cell 1
    have yb2 : w8.cell? ⟨XB, 2, none⟩ = some (.slice l'.nA d'.nn l'.nc) := h8.ns.b.cell 2
    have yb3 : w8.cell? ⟨XB, 3, none⟩ = some (.slice l'.kA d'.kn l'.kc) := h8.ns.b.cell 3
    have yb4 : w8.cell? ⟨XB, 4, none⟩ = some (.int .i64 d'.turn) := h8.ns.b.cell 4
    have yc0 : w8.cell? ⟨XC, 0, none⟩ = some (.int .i64 (d.kind + 1)) := h8.c.cell 0
    have yc1 : w8.cell? ⟨XC, 1, none⟩ = some (.string d.text) := h8.c.cell 1
    have yc2 : w8.cell? ⟨XC, 2, none⟩ = some (.slice l.nA d.nn l.nc) := h8.c.cell 2
    have yc3 : w8.cell? ⟨XC, 3, none⟩ = some (.slice l.kA d.kn l.kc) := h8.c.cell 3
    have yc4 : w8.cell? ⟨XC, 4, none⟩ = some (.int .i64 d.turn) := h8.c.cell 4
    have m5 : XC ≠ XE := by omega
    have m6 : XE ≠ XC := by omega
    have m1 : XA ≠ XE := by omega
    have m2 : XE ≠ XA := by omega
    have m3 : XB ≠ XE := by omega
    have m4 : XE ≠ XB := by omega
    have an0 : XA ≠ w8.heap.size := by omega
    have am0 : w8.heap.size ≠ XA := by omega
    have an1 : XA ≠ w8.heap.size + 1 := by omega
    have am1 : w8.heap.size + 1 ≠ XA := by omega
    have an2 : XA ≠ w8.heap.size + 1 + 1 := by omega
    have am2 : w8.heap.size + 1 + 1 ≠ XA := by omega
    have an3 : XA ≠ w8.heap.size + 1 + 1 + 1 := by omega
    have am3 : w8.heap.size + 1 + 1 + 1 ≠ XA := by omega
    have an4 : XA ≠ w8.heap.size + 1 + 1 + 1 + 1 := by omega
    have am4 : w8.heap.size + 1 + 1 + 1 + 1 ≠ XA := by omega
    have bn0 : XB ≠ w8.heap.size := by omega
    have bm0 : w8.heap.size ≠ XB := by omega
    have bn1 : XB ≠ w8.heap.size + 1 := by omega
    have bm1 : w8.heap.size + 1 ≠ XB := by omega
    have bn2 : XB ≠ w8.heap.size + 1 + 1 := by omega
    have bm2 : w8.heap.size + 1 + 1 ≠ XB := by omega
    have bn3 : XB ≠ w8.heap.size + 1 + 1 + 1 := by omega
    have bm3 : w8.heap.size + 1 + 1 + 1 ≠ XB := by omega
    have bn4 : XB ≠ w8.heap.size + 1 + 1 + 1 + 1 := by omega
    have bm4 : w8.heap.size + 1 + 1 + 1 + 1 ≠ XB := by omega
    have en0 : XE ≠ w8.heap.size := by omega
    have em0 : w8.heap.size ≠ XE := by omega
    have en1 : XE ≠ w8.heap.size + 1 := by omega
    have em1 : w8.heap.size + 1 ≠ XE := by omega
    have en2 : XE ≠ w8.heap.size + 1 + 1 := by omega
    have em2 : w8.heap.size + 1 + 1 ≠ XE := by omega
    have en3 : XE ≠ w8.heap.size + 1 + 1 + 1 := by omega
    have em3 : w8.heap.size + 1 + 1 + 1 ≠ XE := by omega
    have en4 : XE ≠ w8.heap.size + 1 + 1 + 1 + 1 := by omega
    have em4 : w8.heap.size + 1 + 1 + 1 + 1 ≠ XE := by omega
    have cn0 : XC ≠ w8.heap.size := by omega
    have cm0 : w8.heap.size ≠ XC := by omega
    have cn1 : XC ≠ w8.heap.size + 1 := by omega
    have cm1 : w8.heap.size + 1 ≠ XC := by omega
    have cn2 : XC ≠ w8.heap.size + 1 + 1 := by omega
    have cm2 : w8.heap.size + 1 + 1 ≠ XC := by omega
    have cn3 : XC ≠ w8.heap.size + 1 + 1 + 1 := by omega
    have cm3 : w8.heap.size + 1 + 1 + 1 ≠ XC := by omega
    have cn4 : XC ≠ w8.heap.size + 1 + 1 + 1 + 1 := by omega
    have cm4 : w8.heap.size + 1 + 1 + 1 + 1 ≠ XC := by omega
    have ao0 : XA ≠ w8.heap.size + 0 := by omega
    have aq0 : w8.heap.size + 0 ≠ XA := by omega
    have ar0 : XA < w8.heap.size := by omega
    have ao1 : XA ≠ w8.heap.size + 1 := by omega
    have aq1 : w8.heap.size + 1 ≠ XA := by omega
    have ar1 : XA < w8.heap.size + 1 := by omega
    have ao2 : XA ≠ w8.heap.size + 2 := by omega
    have aq2 : w8.heap.size + 2 ≠ XA := by omega
    have ar2 : XA < w8.heap.size + 1 + 1 := by omega
    have ao3 : XA ≠ w8.heap.size + 3 := by omega
    have aq3 : w8.heap.size + 3 ≠ XA := by omega
    have ar3 : XA < w8.heap.size + 1 + 1 + 1 := by omega
    have ao4 : XA ≠ w8.heap.size + 4 := by omega
    have aq4 : w8.heap.size + 4 ≠ XA := by omega
    have ar4 : XA < w8.heap.size + 1 + 1 + 1 + 1 := by omega
    have bo0 : XB ≠ w8.heap.size + 0 := by omega
    have bq0 : w8.heap.size + 0 ≠ XB := by omega
    have br0 : XB < w8.heap.size := by omega
    have bo1 : XB ≠ w8.heap.size + 1 := by omega
    have bq1 : w8.heap.size + 1 ≠ XB := by omega
    have br1 : XB < w8.heap.size + 1 := by omega
    have bo2 : XB ≠ w8.heap.size + 2 := by omega
    have bq2 : w8.heap.size + 2 ≠ XB := by omega
    have br2 : XB < w8.heap.size + 1 + 1 := by omega
    have bo3 : XB ≠ w8.heap.size + 3 := by omega
    have bq3 : w8.heap.size + 3 ≠ XB := by omega
    have br3 : XB < w8.heap.size + 1 + 1 + 1 := by omega
    have bo4 : XB ≠ w8.heap.size + 4 := by omega
    have bq4 : w8.heap.size + 4 ≠ XB := by omega
    have br4 : XB < w8.heap.size + 1 + 1 + 1 + 1 := by omega
    have co0 : XC ≠ w8.heap.size + 0 := by omega
    have cq0 : w8.heap.size + 0 ≠ XC := by omega
    have cr0 : XC < w8.heap.size := by omega
    have co1 : XC ≠ w8.heap.size + 1 := by omega
    have cq1 : w8.heap.size + 1 ≠ XC := by omega
    have cr1 : XC < w8.heap.size + 1 := by omega
    have co2 : XC ≠ w8.heap.size + 2 := by omega
    have cq2 : w8.heap.size + 2 ≠ XC := by omega
    have cr2 : XC < w8.heap.size + 1 + 1 := by omega
    have co3 : XC ≠ w8.heap.size + 3 := by omega
    have cq3 : w8.heap.size + 3 ≠ XC := by omega
    have cr3 : XC < w8.heap.size + 1 + 1 + 1 := by omega
    have co4 : XC ≠ w8.heap.size + 4 := by omega
    have cq4 : w8.heap.size + 4 ≠ XC := by omega
    have cr4 : XC < w8.heap.size + 1 + 1 + 1 + 1 := by omega
    clear h8 hown hown' hgrow hnil hat hb50 hbel8 HO7 HB7
    go_wp2_with fail
    refine at_world (F := NS4 w XA XB XC XD XE w8.heap.size (w8.heap.size + 1) (w8.heap.size + 1 + 1) (w8.heap.size + 1 + 1 + 1) d d' _ l l' _) (NS4.start H8.out (by simp [World.setCell])) ?_
    intro W9 h9
    have HF9 : Hid (({ d with nn := d.nn + 1, names := fun i => (lst d.nn d.names ++ [(⟨#[120]⟩ : ByteArray)]).getD i ByteArray.empty } : Nd).Fits) := more_fits HF.out.1 hnn
    have HN : Hid _ := h9
    clear h9 H8 HS8 H5 H6 z2 zf2 ya0 ya1 ya2 ya3 ya4 yb0 yb1 yb2 yb3 yb4 yc0 yc1 yc2 yc3 yc4 m1 m2 m3 m4 m5 m6 an0 an1 an2 an3 an4 am0 am1 am2 am3 am4 bn0 bn1 bn2 bn3 bn4 bm0 bm1 bm2 bm3 bm4 en0 en1 en2 en3 en4 em0 em1 em2 em3 em4 cn0 cn1 cn2 cn3 cn4 cm0 cm1 cm2 cm3 cm4 ao0 ao1 ao2 ao3 ao4 aq0 aq1 aq2 aq3 aq4 ar0 ar1 ar2 ar3 ar4 bo0 bo1 bo2 bo3 bo4 bq0 bq1 bq2 bq3 bq4 br0 br1 br2 br3 br4 co0 co1 co2 co3 co4 cq0 cq1 cq2 cq3 cq4 cr0 cr1 cr2 cr3 cr4 hlt8 hE8
    refine (implNodeSame_any d { d with kind := d.kind + 1 } l l W9 HN.out.n3.ns.lies HN.out.n3.ns.lies HF.out.1 (kind_fits HF.out.1 hk0 hk1)).mono ?_
    rintro e V1 ⟨hB, rfl⟩
    rw [not_kind]
    have HN' : Hid _ := HN.out.below hB
    clear HN hB
    have HN : Hid _ := HN'.out
    clear HN'
    have ya0 : V1.cell? ⟨XA, 0, none⟩ = some (.int .i64 d.kind) := HN.out.n3.ns.a.cell 0
    have ya1 : V1.cell? ⟨XA, 1, none⟩ = some (.string d.text) := HN.out.n3.ns.a.cell 1
    have ya2 : V1.cell? ⟨XA, 2, none⟩ = some (.slice l.nA d.nn l.nc) := HN.out.n3.ns.a.cell 2
    have ya3 : V1.cell? ⟨XA, 3, none⟩ = some (.slice l.kA d.kn l.kc) := HN.out.n3.ns.a.cell 3
    have ya4 : V1.cell? ⟨XA, 4, none⟩ = some (.int .i64 d.turn) := HN.out.n3.ns.a.cell 4
    have yd0 : V1.cell? ⟨XD, 0, none⟩ = some (.int .i64 d.kind) := HN.out.n3.t.cell 0
    have yd1 : V1.cell? ⟨XD, 1, none⟩ = some (.string d.text) := HN.out.n3.t.cell 1
    have yd2 : V1.cell? ⟨XD, 2, none⟩ = some (.slice l.nA d.nn l.nc) := HN.out.n3.t.cell 2
    have yd3 : V1.cell? ⟨XD, 3, none⟩ = some (.slice l.kA d.kn l.kc) := HN.out.n3.t.cell 3
    have yd4 : V1.cell? ⟨XD, 4, none⟩ = some (.int .i64 (d.turn + 1)) := HN.out.n3.t.cell 4
    go_wp2_with fail
    refine (implNodeSame_any d { d with turn := d.turn + 1 } l l V1 HN.out.n3.ns.lies HN.out.n3.ns.lies HF.out.1 (turn_fits2 HF.out.1 ht0 ht1)).mono ?_
    rintro e V2 ⟨hB, rfl⟩
    rw [not_turn]
    have HN' : Hid _ := HN.out.below hB
    clear HN hB ya0 ya1 ya2 ya3 ya4 yd0 yd1 yd2 yd3 yd4
    have HN : Hid _ := HN'.out
    clear HN'
    have ya0 : V2.cell? ⟨XA, 0, none⟩ = some (.int .i64 d.kind) := HN.out.n3.ns.a.cell 0
    have ya1 : V2.cell? ⟨XA, 1, none⟩ = some (.string d.text) := HN.out.n3.ns.a.cell 1
    have ya2 : V2.cell? ⟨XA, 2, none⟩ = some (.slice l.nA d.nn l.nc) := HN.out.n3.ns.a.cell 2
    have ya3 : V2.cell? ⟨XA, 3, none⟩ = some (.slice l.kA d.kn l.kc) := HN.out.n3.ns.a.cell 3
    have ya4 : V2.cell? ⟨XA, 4, none⟩ = some (.int .i64 d.turn) := HN.out.n3.ns.a.cell 4
    have ye0 : V2.cell? ⟨XE, 0, none⟩ = some (.int .i64 d.kind) := HN.out.n3.e.cell 0
    have ye1 : V2.cell? ⟨XE, 1, none⟩ = some (.string d.text) := HN.out.n3.e.cell 1
    have ye2 : V2.cell? ⟨XE, 2, none⟩ = some (.slice (some ⟨b50, 0, none⟩) (d.nn + 1) c50) := HN.out.n3.e.cell 2
    have ye3 : V2.cell? ⟨XE, 3, none⟩ = some (.slice l.kA d.kn l.kc) := HN.out.n3.e.cell 3
    have ye4 : V2.cell? ⟨XE, 4, none⟩ = some (.int .i64 d.turn) := HN.out.n3.e.cell 4
    go_wp2_with fail
    refine (implNodeSame_any d _ l _ V2 HN.out.n3.ns.lies HN.out.n3.le HF.out.1 HF9.out).mono ?_
    rintro e V3 ⟨hB, rfl⟩
    rw [not_names]
    have HN' : Hid _ := HN.out.below hB
    clear HN hB ya0 ya1 ya2 ya3 ya4 ye0 ye1 ye2 ye3 ye4
    have HN : Hid _ := HN'.out
    clear HN'
    have x10 : V3.cell? ⟨w8.heap.size + 1, 0, none⟩ = some (.slice (some ⟨w8.heap.size, 0, none⟩) 1 1) := HN.out.x1.cell 0
    have x11 : V3.cell? ⟨w8.heap.size + 1, 1, none⟩ = some (.int .i64 3) := HN.out.x1.cell 1
    have x20 : V3.cell? ⟨w8.heap.size + 1 + 1 + 1, 0, none⟩ = some (.slice (some ⟨w8.heap.size + 1 + 1, 0, none⟩) 1 1) := HN.out.x2.cell 0
    have x21 : V3.cell? ⟨w8.heap.size + 1 + 1 + 1, 1, none⟩ = some (.int .i64 3) := HN.out.x2.cell 1
    go_wp2_with fail
    refine (implTreeSame_any (some ⟨w8.heap.size, 0, none⟩) (some ⟨w8.heap.size + 1 + 1, 0, none⟩) 1 1 1 1 3 3 (fun _ => d) (fun _ => d') (fun _ => l) (fun _ => l') V3 (nds_one HN.out.g1 HN.out.n3.ns.lies) (nds_one HN.out.g2 HN.out.n3.ns.lies') (fun _ _ => HF.out.1) (fun _ _ => HF.out.2) (by unfold maxLen; omega) (by unfold maxLen; omega)).mono ?_
    rintro e V4 ⟨hB, rfl⟩
    rw [one_same, ← HS.out]
    have HE : Hid (Below w.heap.size w V4) := (HN.out.n3.ns.bel).trans (hB.mono HN.out.n3.ns.bel.size)
    clear HN hB x10 x11 x20 x21
    have hsE : (s == s) = true := by simp
    go_wp2
    go_ret
    exact ⟨by simp, HE.out⟩

set_option maxRecDepth 100000 in
theorem lifted (os : Os) (started : os.Started) (H : Type) (enc : TypeId × Value → H) :
    ReturnsInHanded {} Try.checked os 6 .any (Rows.fnNodeSameSpec.pre6 enc Try.prog Try.f6 Rows.fnNodeSameRow.domain false) (Rows.fnNodeSameSpec.post enc Try.prog Try.f6 false true false false) := by
  refine returnsInHanded_of_change (C := Try.checked) own started (by kernel_rfl) Try.func6
    (ChangeSpec.witness6 (enc := enc) (C := Try.checked) false ⟨#[], #[.slice none 0 0], []⟩ 8 (by kernel_rfl) (by kernel_rfl) (by kernel_rfl) (by kernel_rfl)) ?_
  intro W base args ds gs before hval0 hW hcnd _
  have hval : ∀ (j : Nat) t v, Try.f6.params[j]? = some t → args[j]? = some v → Value.okWide Try.prog W .any base t v := hval0
  have hW' := hW
  obtain ⟨p, q, hA0, hV, rfl, hfz, hnd⟩ := hW
  have hA : DataW.TrodAll enc Try.prog W 0 (fun _ => true) true Try.f6.params.toList args.toList ds p := hA0
  rw [Try.params6] at hA hval
  obtain ⟨v0, vs0, d0, ds0, p0, q0, hargs, rfl, rfl, h0, r0⟩ := trodAll_cons hA
  obtain ⟨rfl, rfl, rfl⟩ := trodAll_nil r0
  obtain rfl : args = #[v0] := by cases args; simp_all
  obtain ⟨rfl, rfl⟩ := trodVars_none hV
  obtain ⟨a0, len0, cap0, rfl⟩ := okWide_slice Try.underlying22 (hval 0 22 v0 rfl rfl)
  have k0 := h0
  have lt0 : ∀ x ∈ p0, x.block < W.heap.size := by obtain ⟨m, hm⟩ := k0; exact DataW.trod_lt m _ _ _ hm
  obtain ⟨zs0, hC0, hl0, hp0⟩ := openCode h0
  clear hA0 hval0
  refine (walk a0 len0 cap0 zs0 W hC0 hl0 hp0).mono fun e W' ⟨he, bel⟩ => ?_
  subst he
  exact ⟨_, rfl, _, _, _, [], _, [], hW', trodAll_mk1 (shut_bool Try.underlying4 _), (trodAll_cons_mk (Below.trod laidOut (by kernel_rfl) (of_decide_eq_true (by kernel_rfl)) k0 bel lt0) trodAll_mk0), rfl, bel.frame _, fun h => by cases h⟩

theorem over : Rows.fnNodeSameRow.holds Try.pinned (OpenSpec.ofChange Rows.fnNodeSameSpec) :=
  OpenClaim.holds_of_wide 6 Try.f6 rfl rfl rfl rfl rfl rfl rfl ⟨rfl, rfl, rfl, rfl, rfl⟩ rfl rfl rfl rfl rfl (by kernel_rfl) Try.func6 (by kernel_rfl)
    (of_decide_eq_true (by kernel_rfl)) (by unfold Func.isWrapper; first | (rw [if_pos (by decide +kernel)]; kernel_rfl) | (rw [if_neg (by decide +kernel)]; exact ⟨rfl, rfl⟩))
    (fun os started H enc _ => lifted os started H enc)
end Go.Proofs.Ytbifhfnoogjoeaa.fnNodeSame

namespace Go.Proofs.Ytbifhfnoogjoeaa
theorem fnNodeSame_holds : Rows.FnNodeSameSaid := fnNodeSame.over
end Go.Proofs.Ytbifhfnoogjoeaa
