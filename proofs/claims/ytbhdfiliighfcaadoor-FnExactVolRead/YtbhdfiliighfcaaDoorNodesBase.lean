/-
  Places of a tree and lists of them as they lie in memory: plain facts.
-/
import Derived.Test.YtbhdfiliighfcaaDoorIntsBase
import Derived.Test.YtbhdfiliighfcaaDoorBlk
namespace Go.Proofs.YtbhdfiliighfcaaDoor
open Go.RowKit
set_option linter.unusedVariables false

/-- What a place of a tree holds: its kind, its text, so many names, so many places, its turn. -/
structure Nd where
  kind : Int
  text : ByteArray
  nn : Nat
  names : Nat → ByteArray
  kn : Nat
  kids : Nat → Int
  turn : Int

instance : Inhabited Nd := ⟨⟨0, ByteArray.empty, 0, fun _ => ByteArray.empty, 0, fun _ => 0, 0⟩⟩

/-- The bounds that hold of every place that was handed in. -/
structure Nd.Fits (d : Nd) : Prop where
  kind : In64 d.kind
  turn : In64 d.turn
  text : d.text.size ≤ maxLen
  names : Small d.nn d.names
  nn : d.nn ≤ maxLen
  kn : d.kn ≤ maxLen
  kids : ∀ i, i < d.kn → In64 (d.kids i)

/-- Where the two lists of a place lie. -/
structure Loc where
  nA : Option Addr
  nc : Nat
  kA : Option Addr
  kc : Nat

instance : Inhabited Loc := ⟨⟨none, 0, none, 0⟩⟩

/-- The value of a place. -/
def ndV (d : Nd) (l : Loc) : Value := .agg #[.int .i64 d.kind, .string d.text, .slice l.nA d.nn l.nc, .slice l.kA d.kn l.kc, .int .i64 d.turn]

/-- The two lists of a place lie in memory. -/
def NdIn (w : World) (d : Nd) (l : Loc) : Prop := IsStrs w l.nA d.nn d.names ∧ IsInts w l.kA d.kn d.kids

/-- n places lie in memory from the address on, five cells each. -/
def IsNds (w : World) (a : Option Addr) (n : Nat) (D : Nat → Nd) (L : Nat → Loc) : Prop :=
  n = 0 ∨ ∃ b off, a = some ⟨b, off, none⟩ ∧ b < w.heap.size ∧ ∀ i, i < n →
    w.cell? ⟨b, off + i * 5, none⟩ = some (.int .i64 (D i).kind) ∧ w.cell? ⟨b, off + i * 5 + 1, none⟩ = some (.string (D i).text) ∧
    w.cell? ⟨b, off + i * 5 + 2, none⟩ = some (.slice (L i).nA (D i).nn (L i).nc) ∧ w.cell? ⟨b, off + i * 5 + 3, none⟩ = some (.slice (L i).kA (D i).kn (L i).kc) ∧
    w.cell? ⟨b, off + i * 5 + 4, none⟩ = some (.int .i64 (D i).turn) ∧ NdIn w (D i) (L i)

theorem NdIn.below {w w' : World} {d : Nd} {l : Loc} (h : NdIn w d l) {B : Nat} (hB : w.heap.size ≤ B) (hb : Below B w w') : NdIn w' d l := ⟨h.1.below hB hb, h.2.below hB hb⟩

theorem IsNds.at {w : World} {a : Option Addr} {n : Nat} {D : Nat → Nd} {L : Nat → Loc} (h : IsNds w a n D L) {k : Nat} (hk : k < n) :
    ∃ b off, a = some ⟨b, off, none⟩ ∧ b < w.heap.size ∧ ∀ i, i < n →
    w.cell? ⟨b, off + i * 5, none⟩ = some (.int .i64 (D i).kind) ∧ w.cell? ⟨b, off + i * 5 + 1, none⟩ = some (.string (D i).text) ∧
    w.cell? ⟨b, off + i * 5 + 2, none⟩ = some (.slice (L i).nA (D i).nn (L i).nc) ∧ w.cell? ⟨b, off + i * 5 + 3, none⟩ = some (.slice (L i).kA (D i).kn (L i).kc) ∧
    w.cell? ⟨b, off + i * 5 + 4, none⟩ = some (.int .i64 (D i).turn) ∧ NdIn w (D i) (L i) := by
  rcases h with h | h
  · omega
  · exact h

theorem IsNds.below {w w' : World} {a : Option Addr} {n : Nat} {D : Nat → Nd} {L : Nat → Loc} (h : IsNds w a n D L) {B : Nat} (hB : w.heap.size ≤ B) (hb : Below B w w') : IsNds w' a n D L := by
  rcases h with h | ⟨b, off, ha, hlt, hc⟩
  · exact Or.inl h
  · have hs := hb.size
    refine Or.inr ⟨b, off, ha, by omega, fun i hi => ?_⟩
    obtain ⟨h0, h1, h2, h3, h4, h5⟩ := hc i hi
    have e : ∀ o, w'.cell? ⟨b, o, none⟩ = w.cell? ⟨b, o, none⟩ := fun o => hb.cell (p := ⟨b, o, none⟩) (by show b < B; omega)
    exact ⟨(e _).trans h0, (e _).trans h1, (e _).trans h2, (e _).trans h3, (e _).trans h4, h5.below hB hb⟩

/-- All of them fit. -/
def FitAll (n : Nat) (D : Nat → Nd) : Prop := ∀ i, i < n → (D i).Fits

/-- What a place counts. -/
def Nd.size (d : Nd) : Nat := d.text.size + d.nn + sumTo d.names d.nn + d.kn
/-- What the first k count. -/
def sizeTo (D : Nat → Nd) : Nat → Nat | 0 => 0 | k + 1 => sizeTo D k + (D k).size

theorem sizeTo_succ (D : Nat → Nd) (k : Nat) : sizeTo D (k + 1) = sizeTo D k + (D k).size := rfl

theorem size_le_sizeTo (D : Nat → Nd) (n : Nat) : ∀ i, i < n → (D i).size ≤ sizeTo D n := by
  induction n with
  | zero => intro i hi; omega
  | succ n ih => intro i hi; rw [sizeTo_succ]; by_cases h : i < n
                 · have := ih i h; omega
                 · have : i = n := by omega
                   subst this; omega

/-- The two lists lie in blocks from B on. -/
def Loc.Past (l : Loc) (B : Nat) : Prop := (∃ b off, l.nA = some ⟨b, off, none⟩ ∧ B ≤ b) ∧ ∃ b off, l.kA = some ⟨b, off, none⟩ ∧ B ≤ b

theorem Loc.Past.mono {l : Loc} {B B' : Nat} (h : l.Past B) (hb : B' ≤ B) : l.Past B' := by
  obtain ⟨⟨b, o, h1, h2⟩, b', o', h3, h4⟩ := h
  exact ⟨⟨b, o, h1, by omega⟩, b', o', h3, by omega⟩

theorem NdIn.off {w : World} {d : Nd} {l : Loc} (h : NdIn w d l) {b i : Nat} (v : Value) (hp : l.Past (b + 1)) : NdIn (w.setCell ⟨b, i, none⟩ v) d l := by
  obtain ⟨h1, h2⟩ := h
  obtain ⟨⟨b1, o1, e1, g1⟩, b2, o2, e2, g2⟩ := hp
  unfold NdIn
  rw [e1] at h1 ⊢
  rw [e2] at h2 ⊢
  exact ⟨h1.off v (by omega), h2.off v (by omega)⟩

theorem run_make_wide {P : Program} (t e : TypeId) (z : Value) (bytes s : Nat) (ht : P.underlying t = some (.slice e)) (hinfo : (P.info? e).map (fun i => (i.zero, i.size, i.bytes)) = some (some z, s, bytes))
    (kl kc : IntKind) (n : Nat) (hbytes : bytes * n ≤ 281474976710656) (h63 : n ≤ 9223372036854775807) (w : World) :
    (Instr.makeSlice t (.int kl (n : Int)) (.int kc (n : Int))).run P w = .ok (.slice (some ⟨w.heap.size, 0, none⟩) n n) (w.alloc (.cells (madeCells z.cells (n * s)) e)) := by
  obtain ⟨i, hi, hzz⟩ := Option.map_eq_some_iff.1 hinfo
  simp only [Prod.mk.injEq] at hzz
  obtain ⟨hz, hs, hb⟩ := hzz
  have hb' : (i.bytes : Int) * (n : Int) ≤ 281474976710656 := by
    have h : ((i.bytes * n : Nat) : Int) ≤ 281474976710656 := by rw [hb]; omega
    rwa [Int.natCast_mul] at h
  have hr := run_make (P := P) w t e i z ht hi hz kl kc n n (by omega) (Int.le_refl _) hb' (by omega)
  simp only [Int.toNat_natCast, hs] at hr
  exact hr

/-- Two places are one. -/
def Nd.same (d e : Nd) : Bool := (d.kind == e.kind) && (d.text.toList == e.text.toList) && (decide (d.nn = e.nn) && eqS d.nn d.names e.names) && (decide (d.kn = e.kn) && eqZ d.kn d.kids e.kids) && (d.turn == e.turn)

theorem Nd.same_self (d : Nd) : d.same d = true := by
  unfold Nd.same
  rw [eqS_self _ _ _ (fun _ _ => rfl), eqZ_self _ _ _ (fun _ _ => rfl)]
  simp
end Go.Proofs.YtbhdfiliighfcaaDoor
