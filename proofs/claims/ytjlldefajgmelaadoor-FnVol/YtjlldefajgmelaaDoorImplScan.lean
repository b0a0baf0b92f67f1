/-
  What volOfText of the program answers: of the text of a piece, just that piece.
-/
import Derived.Test.YtjlldefajgmelaaDoorImplCutPre
import Derived.Test.YtjlldefajgmelaaDoorBlk
import Derived.Lib.OthersKept
import Derived.Laws.RangeAny
import Derived.WalkSmall
import Derived.WalkMore
namespace Go.Proofs.YtjlldefajgmelaaDoor
open Go.RowKit Go.Deep
set_option linter.unusedVariables false
set_option linter.unusedSimpArgs false

/-- What is said of an answer. -/
def ScanPost (s : ByteArray) (v : Vo) (ok : Bool) : Prop := (v.text.size ≤ maxLen) ∧ ∀ u : Vo, voOk u = true → bytes (volT u) = bytes s → ok = true ∧ v = u

theorem scan_not {s : ByteArray} (h : ∀ u : Vo, voOk u = true → bytes (volT u) ≠ bytes s) : ScanPost s ⟨0, 0, 0, ⟨#[]⟩⟩ false :=
  ⟨by unfold maxLen; simp [ByteArray.size], fun u h1 h2 => absurd h2 (h u h1)⟩

/-- Of the text of a piece the scan comes to its end. -/
theorem scan_of_text {s t : ByteArray} (ht : bytes (s.extract 4 s.size) = bytes t) {u : Vo} (hu : voOk u = true) (h : bytes (volT u) = bytes s) :
    ∃ f e, scanB (bytes t) (fun _ => 0) 0 0 = some (f, e) ∧ u.num = (f 0 : Nat) ∧ u.cnt = (f 1 : Nat) ∧ u.sum = (f 2 : Nat) ∧ bytes u.text = (bytes t).drop (e + 1) := by
  obtain ⟨x, y, z, e1, e2, e3, b1, b2, b3, hb⟩ := volT_bytes hu
  rw [hb] at h
  obtain ⟨_, h4⟩ := hasVol_of h.symm
  rw [ht] at h4
  obtain ⟨f, hf, f0, f1, f2⟩ := scan_hdr x y z (bytes u.text) (by omega) (by omega) (by omega)
  refine ⟨f, (hdr x y z).length, by rw [h4]; exact hf, by omega, by omega, by omega, ?_⟩
  rw [h4, drop_hdr]

theorem bytes_get (t : ByteArray) (p : Nat) (h : p < t.size) : (bytes t).drop p = t[p] :: (bytes t).drop (p + 1) := by
  have hl : p < (bytes t).length := by unfold bytes; simpa using h
  rw [List.drop_eq_getElem_cons hl]
  rfl

/-- The array of the three numbers. -/
def n3 (f : Nat → Nat) : Array Value := #[.int .i64 (f 0 : Nat), .int .i64 (f 1 : Nat), .int .i64 (f 2 : Nat)]

theorem n3_at (f : Nat → Nat) {k : Nat} (hk : k ≤ 2) : (n3 f)[k]? = some (.int .i64 (f k : Nat)) := by
  rcases (show k = 0 ∨ k = 1 ∨ k = 2 by omega) with rfl | rfl | rfl <;> rfl
theorem n3_set (f : Nat → Nat) {k : Nat} (hk : k ≤ 2) (x : Nat) : (n3 f).setIfInBounds k (.int .i64 (x : Nat)) = n3 (upd f k x) := by
  rcases (show k = 0 ∨ k = 1 ∨ k = 2 by omega) with rfl | rfl | rfl <;> rfl

theorem blk_iterAt {w : World} {b : Nat} {c : Array Value} {ty : TypeId} (h : Blk w b c ty) {k : Nat} (hb : b ≠ k) (s : ByteArray) (p : Nat) : Blk (w.iterAt k s p) b c ty := h.of_block (Lib.iterAt_other w k b s p hb)

/-- What is known between two rounds. -/
structure ScanI (w : World) (t : ByteArray) (f : Nat → Nat) (k pos : Nat) (W : World) : Prop where
  few : k ≤ 2
  res : Blk W w.heap.size #[.int .i64 0, .int .i64 0, .int .i64 0, .string ⟨#[]⟩] 24
  arr : Blk W (w.heap.size + 1) (n3 f) 55
  it : W.heap[w.heap.size + 2]? = some (.stringIter t pos)
  bel : Below w.heap.size w W
  sml : ∀ i, f i < 99740
  scn : scanB ((bytes t).drop pos) f k pos = scanB (bytes t) (fun _ => 0) 0 0
  le : pos ≤ t.size

theorem ScanI.next {w W : World} {t : ByteArray} {f f' : Nat → Nat} {k k' pos : Nat} (h : ScanI w t f k pos W) (hp : pos < t.size) (hk : k' ≤ 2) (hs : ∀ i, f' i < 99740)
    (hsc : scanB ((bytes t).drop pos) f k pos = scanB ((bytes t).drop (pos + 1)) f' k' (pos + 1)) {W' : World} (hres : Blk W' w.heap.size #[.int .i64 0, .int .i64 0, .int .i64 0, .string ⟨#[]⟩] 24) (harr : Blk W' (w.heap.size + 1) (n3 f') 55)
    (hit : W'.heap[w.heap.size + 2]? = some (.stringIter t (pos + 1))) (hb : Below w.heap.size w W') : ScanI w t f' k' (pos + 1) W' :=
  ⟨hk, hres, harr, hit, hb, hs, by rw [← hsc]; exact h.scn, hp⟩

set_option maxRecDepth 100000 in
set_option maxHeartbeats 4000000 in
theorem volOfText_any (s : ByteArray) (w : World) (hs : s.size ≤ maxLen) :
    Calls Tryd.prog 19 #[.string s] w fun e w' => ∃ (v : Vo) (ok : Bool), e = .returned (.tuple #[voV v, .bool ok]) ∧ Below w.heap.size w w' ∧ ScanPost s v ok := by
  have hsm := hs
  unfold maxLen at hs
  cases hv : hasVol s with
  | false =>
    have HN : Hid (ScanPost s ⟨0, 0, 0, ⟨#[]⟩⟩ false) := scan_not fun u hu h => by
      obtain ⟨x, y, z, e1, e2, e3, b1, b2, b3, hb⟩ := volT_bytes hu
      rw [hb] at h
      rw [(hasVol_of h.symm).1] at hv
      cases hv
    have HC : Hid (∀ W, Calls Tryd.prog 31 #[.string s, .string ⟨#[118, 111, 108, 32]⟩] W fun e w' => e = .returned (.tuple #[.string s, .bool false]) ∧ w' = W) := fun W => by
      have := cutPrefix_vol s W hsm
      rwa [hv, if_neg (by simp)] at this
    clear hv
    go_enter Tryd.func19, Tryd.ntmps19
    go_wp2
    refine wp_scope_straight ?_
    go_wp2_with fail
    refine (HC.out _).mono ?_
    rintro e w1 ⟨rfl, rfl⟩
    go_wp2
    rw [Exit.noGoto_ret]
    exact bodyPost_ret (v := .tuple #[.agg #[.int .i64 0, .int .i64 0, .int .i64 0, .string ⟨#[]⟩], .bool false]) (by simp [results, Tryd.results19, go_sem]) rfl ⟨⟨0, 0, 0, ⟨#[]⟩⟩, false, rfl, (Below.refl _ _).alloc (Nat.le_refl _) _, HN.out⟩
  | true =>
    obtain ⟨t, ht⟩ : ∃ t, t = s.extract 4 s.size := ⟨_, rfl⟩
    have htl : t.size ≤ 9223372036854775807 := by rw [ht, ByteArray.size_extract]; omega
    have HC : Hid (∀ W, Calls Tryd.prog 31 #[.string s, .string ⟨#[118, 111, 108, 32]⟩] W fun e w' => e = .returned (.tuple #[.string t, .bool true]) ∧ w' = W) := fun W => by
      have := cutPrefix_vol s W hsm
      rwa [hv, if_pos rfl, ← ht] at this
    have HU : Hid (∀ u : Vo, voOk u = true → bytes (volT u) = bytes s → ∃ f e, scanB (bytes t) (fun _ => 0) 0 0 = some (f, e) ∧ u.num = (f 0 : Nat) ∧ u.cnt = (f 1 : Nat) ∧ u.sum = (f 2 : Nat) ∧ bytes u.text = (bytes t).drop (e + 1)) := fun u hu h => scan_of_text (by rw [ht]) hu h
    have HN : Hid (scanB (bytes t) (fun _ => 0) 0 0 = none → ScanPost s ⟨0, 0, 0, ⟨#[]⟩⟩ false) := fun hn => scan_not fun u hu h => by
      obtain ⟨f, e, hf, _⟩ := HU.out u hu h
      rw [hn] at hf
      cases hf
    clear hv ht
    go_enter Tryd.func19, Tryd.ntmps19
    go_wp2
    refine wp_scope_straight ?_
    go_wp2_with fail
    refine (HC.out _).mono ?_
    rintro e w1 ⟨rfl, rfl⟩
    go_wp2
    refine wp_label ?_
    go_wp2
    go_loopw [3, 7, 8] (fun rs st en wr => ∃ (f : Nat → Nat) (k pos : Nat), rs = .bool false ∧ st = .int .i64 k ∧ en = .int .i64 (-1) ∧ ScanI w t f k pos wr) (fun _ _ _ wr => t.size - wr.iterPos (w.heap.size + 2))
    case atStart =>
      have b0 := Blk.new w #[.int .i64 0, .int .i64 0, .int .i64 0, .string ⟨#[]⟩] 24
      have b1 := Blk.new (w.alloc (.cells #[.int .i64 0, .int .i64 0, .int .i64 0, .string ⟨#[]⟩] 24)) (n3 fun _ => 0) 55
      simp only [World.size_alloc] at b1
      refine ⟨fun _ => 0, 0, 0, rfl, rfl, rfl, by omega, (b0.alloc _).alloc _, b1.alloc _, ?_, (((Below.refl _ _).alloc (Nat.le_refl _) _).alloc (by simp) _).alloc (by simp; omega) _, fun i => by omega, by simp, Nat.zero_le _⟩
      have := World.iter_heap ((w.alloc (.cells #[.int .i64 0, .int .i64 0, .int .i64 0, .string ⟨#[]⟩] 24)).alloc (.cells (n3 fun _ => 0) 55)) t 0
      rw [World.size_alloc, World.size_alloc] at this
      exact this
    case round =>
      obtain ⟨f, k, pos, rfl, rfl, rfl, hI⟩ := hrel
      have HI : Hid (ScanI w t f k pos wr) := hI
      have hk2 := hI.few
      have hit := hI.it
      have hipos : wr.iterPos (w.heap.size + 2) = pos := by simp only [World.iterPos, hit]
      have hsz : w.heap.size + 2 < wr.heap.size := (Array.getElem?_eq_some_iff.1 hit).1
      by_cases hp : pos < t.size
      · by_cases ha : (t[pos]'hp).toNat < 128
        · have hnx : ∀ ty, (Instr.next (.pointer (some ⟨w.heap.size + 2, 0, none⟩)) true ty).run Tryd.prog wr = _ := fun ty => Lib.run_next_ascii_at wr (w.heap.size + 2) t pos ty hit hp ha
          have hsc0 := bytes_get t pos hp
          obtain ⟨c, hc⟩ : ∃ c, c = t[pos]'hp := ⟨_, rfl⟩
          rw [← hc] at hsc0 ha
          simp only [← hc] at hnx
          have hit2 := Lib.iterAt_heap wr (w.heap.size + 2) t pos (pos + 1) hit
          have hb2 := Lib.below_iterAt hI.bel (k := w.heap.size + 2) (by omega) t (pos + 1)
          have hres2 := blk_iterAt hI.res (k := w.heap.size + 2) (by omega) t (pos + 1)
          have harr2 := blk_iterAt hI.arr (k := w.heap.size + 2) (by omega) t (pos + 1)
          have hs2 : (wr.iterAt (w.heap.size + 2) t (pos + 1)).heap.size = wr.heap.size := Lib.iterAt_size _ _ _ _
          obtain ⟨W2, hW2⟩ : ∃ W2, W2 = wr.iterAt (w.heap.size + 2) t (pos + 1) := ⟨_, rfl⟩
          simp only [← hW2] at hnx hit2 hb2 hres2 harr2 hs2
          have hsml := hI.sml
          obtain ⟨b, hb⟩ : ∃ b, b = c.toNat := ⟨_, rfl⟩
          simp only [← hb] at hnx ha
          have hcn : ∀ x : UInt8, b ≠ x.toNat → c ≠ x := fun x h e => h (by rw [hb, e])
          have hce : ∀ x : UInt8, b = x.toNat → c = x := fun x h => UInt8.toNat_inj.1 (by rw [← hb, h])
          clear hW2
          by_cases hc10 : b = 10
          · have hsome : scanB (bytes t) (fun _ => 0) 0 0 = some (f, pos) := by
              rw [← hI.scn, hsc0, scanB, if_pos (hce 10 hc10)]
            have d10 : ((b : Int) == 10) = true := beq_iff_eq.2 (by omega)
            have hpt : (pos : Int) + 1 ≤ (t.size : Int) := by omega
            have HP : Hid (ScanPost s ⟨(f 0 : Nat), (f 1 : Nat), (f 2 : Nat), t.extract (pos + 1) t.size⟩ true) := by
              refine ⟨by rw [ByteArray.size_extract]; unfold maxLen; omega, fun u hu h => ?_⟩
              obtain ⟨f', e', hf', u0, u1, u2, ut⟩ := HU.out u hu h
              rw [hsome] at hf'
              have hfe := Option.some.inj hf'
              have hff : f = f' := congrArg Prod.fst hfe
              have hee : pos = e' := congrArg Prod.snd hfe
              subst hff
              refine ⟨rfl, vo_ext u0.symm u1.symm u2.symm ?_⟩
              show bytes (t.extract (pos + 1) t.size) = _
              rw [ut, bytes_cut, List.take_of_length_le (by simp), hee]
              rfl
            have a0 : W2.cell? ⟨w.heap.size + 1, 0, none⟩ = some (.int .i64 (f 0 : Nat)) := harr2.cell 0
            have a1 : W2.cell? ⟨w.heap.size + 1, 1, none⟩ = some (.int .i64 (f 1 : Nat)) := harr2.cell 1
            have a2 : W2.cell? ⟨w.heap.size + 1, 2, none⟩ = some (.int .i64 (f 2 : Nat)) := harr2.cell 2
            have r0 : W2.cell? ⟨w.heap.size, 0, none⟩ = some (.int .i64 0) := hres2.cell 0
            have r1 : W2.cell? ⟨w.heap.size, 1, none⟩ = some (.int .i64 0) := hres2.cell 1
            have r2 : W2.cell? ⟨w.heap.size, 2, none⟩ = some (.int .i64 0) := hres2.cell 2
            have r3 : W2.cell? ⟨w.heap.size, 3, none⟩ = some (.string ⟨#[]⟩) := hres2.cell 3
            have z0 := hres2.frozen 0
            have z1 := hres2.frozen 1
            have z2 := hres2.frozen 2
            have z3 := hres2.frozen 3
            have HB : Hid (Below w.heap.size w W2) := hb2
            have HR2 : Hid (Blk W2 w.heap.size _ _ ∧ Blk W2 (w.heap.size + 1) _ _) := ⟨hres2, harr2⟩
            clear hsome hI hit hit2 hb2 hres2 harr2 hsc0 hipos hcn hce hc hb hc10
            go_wp2_with fail
            go_region
            go_wp2
            rw [Exit.noGoto_ret]
            have E := ((((HR2.out.1.set 0 (.int .i64 (f 0 : Nat))).set 1 (.int .i64 (f 1 : Nat))).set 2 (.int .i64 (f 2 : Nat))).set 3 (.string (t.extract (pos + 1) t.size)))
            have E' := E.below (below_drewN (Below.refl _ _) 1) E.lt
            have q0 := E'.cell 0
            have q1 := E'.cell 1
            have q2 := E'.cell 2
            have q3 := E'.cell 3
            refine bodyPost_ret (v := .tuple #[.agg #[.int .i64 (f 0 : Nat), .int .i64 (f 1 : Nat), .int .i64 (f 2 : Nat), .string (t.extract (pos + 1) t.size)], .bool true]) (by simp [results, Tryd.results19, go_sem, r0, r1, r2, r3]) rfl ⟨⟨(f 0 : Nat), (f 1 : Nat), (f 2 : Nat), t.extract (pos + 1) t.size⟩, true, rfl, ?_, HP.out⟩
            exact below_drewN ((((HB.out.setCell (p := ⟨w.heap.size, 0, none⟩) (Nat.le_refl _) _).setCell (p := ⟨w.heap.size, 1, none⟩) (Nat.le_refl _) _).setCell (p := ⟨w.heap.size, 2, none⟩) (Nat.le_refl _) _).setCell (p := ⟨w.heap.size, 3, none⟩) (Nat.le_refl _) _) 1
          · have d10 : ((b : Int) == 10) = false := beq_eq_false_iff_ne.2 (by omega)
            by_cases hc32 : b = 32 ∧ k + 1 < 3
            · obtain ⟨h32, hk3⟩ := hc32
              have d32 : ((b : Int) == 32) = true := beq_iff_eq.2 (by omega)
              have dk : decide ((k : Int) + 1 < 3) = true := decide_eq_true (by omega)
              have hsn : scanB ((bytes t).drop pos) f k pos = scanB ((bytes t).drop (pos + 1)) f (k + 1) (pos + 1) := by
                rw [hsc0, scanB, if_neg (hcn 10 (by rw [h32]; decide)), if_pos ⟨hce 32 h32, hk3⟩]
              have hN := hI.next hp (k' := k + 1) (by omega) hsml hsn hres2 harr2 hit2 hb2
              have HNx : Hid _ := hN
              have hip2 : W2.iterPos (w.heap.size + 2) = pos + 1 := by simp only [World.iterPos, hit2]
              clear hI hN hsn hit hit2 hb2 hres2 harr2 hsc0 hcn hce hc hb h32 hsml hc10 hs2 ha
              go_wp2
              go_roundw
              case rel => exact ⟨f, k + 1, pos + 1, rfl, by go_num, rfl, HNx.out⟩
              case measure => rw [hip2, hipos]; omega
            · by_cases hcd : (48 ≤ b ∧ b ≤ 57) ∧ f k < 9973
              · obtain ⟨⟨hb48, hb57⟩, hfk⟩ := hcd
                have hsn : scanB ((bytes t).drop pos) f k pos = scanB ((bytes t).drop (pos + 1)) (upd f k (f k * 10 + (b - 48))) k (pos + 1) := by
                  rw [hsc0, scanB, if_neg (hcn 10 (by simp; omega)), if_neg (fun h => by have := hb; rw [h.1] at this; simp at this; omega), if_pos ⟨by omega, hfk⟩, ← hb]
                have d32 : ((b : Int) == 32) = false := beq_eq_false_iff_ne.2 (by omega)
                have d48 : decide ((48 : Int) ≤ (b : Int)) = true := decide_eq_true (by omega)
                have d57 : decide ((b : Int) ≤ 57) = true := decide_eq_true (by omega)
                have dfk : decide (((f k : Nat) : Int) < 9973) = true := decide_eq_true (by omega)
                have hk3 : (k : Int) < 3 := by omega
                have ak : W2.cell? ⟨w.heap.size + 1, k, none⟩ = some (.int .i64 (f k : Nat)) := (harr2.cell k).trans (n3_at f hk2)
                have zk := harr2.frozen k
                have hx : ((f k : Nat) : Int) * 10 + ((b : Int) - 48) = ((f k * 10 + (b - 48) : Nat) : Int) := by omega
                have HW : Hid (∀ x : Nat, x = f k * 10 + (b - 48) → ScanI w t (upd f k x) k (pos + 1) (W2.setCell ⟨w.heap.size + 1, k, none⟩ (.int .i64 (x : Nat)))) := fun x hx => by
                  have a3 := harr2.set k (.int .i64 (x : Nat))
                  rw [n3_set f hk2 x] at a3
                  refine hI.next hp hk2 (fun i => ?_) (by rw [hx]; exact hsn) (hres2.off _ (by omega)) a3 ?_ (hb2.setCell (p := ⟨w.heap.size + 1, k, none⟩) (by show w.heap.size ≤ w.heap.size + 1; omega) _)
                  · unfold upd
                    split
                    · omega
                    · exact hsml i
                  · exact (blk_setCell_other _ _ _ _ (by show w.heap.size + 2 ≠ w.heap.size + 1; omega)).trans hit2
                have hip2 : ∀ v, (W2.setCell ⟨w.heap.size + 1, k, none⟩ v).iterPos (w.heap.size + 2) = pos + 1 := fun v => by
                  have : (W2.setCell ⟨w.heap.size + 1, k, none⟩ v).heap[w.heap.size + 2]? = some (.stringIter t (pos + 1)) := (blk_setCell_other _ _ _ _ (by show w.heap.size + 2 ≠ w.heap.size + 1; omega)).trans hit2
                  simp only [World.iterPos, this]
                clear hI hsn hit hit2 hb2 hres2 harr2 hsc0 hcn hce hc hb hsml hc10 hs2
                generalize hfk' : f k = g at *
                go_wp2
                go_roundw
                case rel => exact ⟨_, k, pos + 1, rfl, rfl, rfl, by
                  have := HW.out _ rfl
                  rwa [show (((g * 10 + (b - 48) : Nat)) : Int) = (g : Int) * 10 + ((b - 48 : Nat) : Int) by omega] at this⟩
                case measure => rw [hip2, hipos]; omega
              · have hnone : scanB (bytes t) (fun _ => 0) 0 0 = none := by
                  rw [← hI.scn, hsc0, scanB, if_neg (hcn 10 (by simp; omega)), if_neg (fun h => hc32 ⟨by rw [hb, h.1]; rfl, h.2⟩), if_neg (fun h => hcd ⟨by rw [hb]; exact h.1, h.2⟩)]
                have HP : Hid (ScanPost s ⟨0, 0, 0, ⟨#[]⟩⟩ false) := HN.out hnone
                have r0 : W2.cell? ⟨w.heap.size, 0, none⟩ = some (.int .i64 0) := hres2.cell 0
                have r1 : W2.cell? ⟨w.heap.size, 1, none⟩ = some (.int .i64 0) := hres2.cell 1
                have r2 : W2.cell? ⟨w.heap.size, 2, none⟩ = some (.int .i64 0) := hres2.cell 2
                have r3 : W2.cell? ⟨w.heap.size, 3, none⟩ = some (.string ⟨#[]⟩) := hres2.cell 3
                have z0 := hres2.frozen 0
                have z1 := hres2.frozen 1
                have z2 := hres2.frozen 2
                have z3 := hres2.frozen 3
                have HB : Hid (Below w.heap.size w W2) := hb2
                have hk3 : (k : Int) < 3 := by omega
                have ak : W2.cell? ⟨w.heap.size + 1, k, none⟩ = some (.int .i64 (f k : Nat)) := (harr2.cell k).trans (n3_at f hk2)
                clear hI hnone hit hit2 hb2 hres2 harr2 hsc0 hcn hce hc hb hsml hc10 hs2 hipos
                by_cases h32 : b = 32
                · have d32 : ((b : Int) == 32) = true := beq_iff_eq.2 (by omega)
                  have dk : decide ((k : Int) + 1 < 3) = false := decide_eq_false (fun h => hc32 ⟨h32, by omega⟩)
                  have d48 : decide ((48 : Int) ≤ (b : Int)) = false := decide_eq_false (by omega)
                  clear hc32 hcd
                  go_wp2
                  rw [Exit.noGoto_ret]
                  exact bodyPost_ret (v := .tuple #[.agg #[.int .i64 0, .int .i64 0, .int .i64 0, .string ⟨#[]⟩], .bool false]) (by simp [results, Tryd.results19, go_sem, z0, z1, z2, z3, r0, r1, r2, r3]) rfl ⟨⟨0, 0, 0, ⟨#[]⟩⟩, false, rfl, by
                    repeat (first | exact HB.out | (refine Below.setCell ?_ (by simp <;> omega) _)), HP.out⟩
                · have d32 : ((b : Int) == 32) = false := beq_eq_false_iff_ne.2 (by omega)
                  by_cases h48 : 48 ≤ b
                  · have d48 : decide ((48 : Int) ≤ (b : Int)) = true := decide_eq_true (by omega)
                    by_cases h57 : b ≤ 57
                    · have d57 : decide ((b : Int) ≤ 57) = true := decide_eq_true (by omega)
                      have dfk : decide (((f k : Nat) : Int) < 9973) = false := decide_eq_false (fun h => hcd ⟨⟨h48, h57⟩, by omega⟩)
                      clear hc32 hcd
                      go_wp2
                      rw [Exit.noGoto_ret]
                      exact bodyPost_ret (v := .tuple #[.agg #[.int .i64 0, .int .i64 0, .int .i64 0, .string ⟨#[]⟩], .bool false]) (by simp [results, Tryd.results19, go_sem, z0, z1, z2, z3, r0, r1, r2, r3]) rfl ⟨⟨0, 0, 0, ⟨#[]⟩⟩, false, rfl, by
                        repeat (first | exact HB.out | (refine Below.setCell ?_ (by simp <;> omega) _)), HP.out⟩
                    · have d57 : decide ((b : Int) ≤ 57) = false := decide_eq_false (by omega)
                      clear hc32 hcd
                      go_wp2
                      rw [Exit.noGoto_ret]
                      exact bodyPost_ret (v := .tuple #[.agg #[.int .i64 0, .int .i64 0, .int .i64 0, .string ⟨#[]⟩], .bool false]) (by simp [results, Tryd.results19, go_sem, z0, z1, z2, z3, r0, r1, r2, r3]) rfl ⟨⟨0, 0, 0, ⟨#[]⟩⟩, false, rfl, by
                        repeat (first | exact HB.out | (refine Below.setCell ?_ (by simp <;> omega) _)), HP.out⟩
                  · have d48 : decide ((48 : Int) ≤ (b : Int)) = false := decide_eq_false (by omega)
                    clear hc32 hcd
                    go_wp2
                    rw [Exit.noGoto_ret]
                    exact bodyPost_ret (v := .tuple #[.agg #[.int .i64 0, .int .i64 0, .int .i64 0, .string ⟨#[]⟩], .bool false]) (by simp [results, Tryd.results19, go_sem, z0, z1, z2, z3, r0, r1, r2, r3]) rfl ⟨⟨0, 0, 0, ⟨#[]⟩⟩, false, rfl, by
                      repeat (first | exact HB.out | (refine Below.setCell ?_ (by simp <;> omega) _)), HP.out⟩
        · have hnx : ∀ ty, (Instr.next (.pointer (some ⟨w.heap.size + 2, 0, none⟩)) true ty).run Tryd.prog wr = _ := fun ty => Lib.run_next_any_at wr (w.heap.size + 2) t pos ty hit hp
          have hsc0 := bytes_get t pos hp
          have hhi := (decode_high t pos hp (by omega)).1
          have hb2 := Lib.below_iterAt hI.bel (k := w.heap.size + 2) (by omega) t (pos + (Utf8.decode t pos).2)
          have hres2 := blk_iterAt hI.res (k := w.heap.size + 2) (by omega) t (pos + (Utf8.decode t pos).2)
          obtain ⟨W2, hW2⟩ : ∃ W2, W2 = wr.iterAt (w.heap.size + 2) t (pos + (Utf8.decode t pos).2) := ⟨_, rfl⟩
          simp only [← hW2] at hnx hb2 hres2
          obtain ⟨b, hb⟩ : ∃ b, b = (Utf8.decode t pos).1 := ⟨_, rfl⟩
          simp only [← hb] at hnx
          rw [← hb] at hhi
          have hnone : scanB (bytes t) (fun _ => 0) 0 0 = none := by
            have hne : ∀ x : UInt8, x.toNat < 128 → t[pos] ≠ x := fun x hx e => ha (by rw [e]; exact hx)
            rw [← hI.scn, hsc0, scanB, if_neg (hne 10 (by decide)), if_neg (fun h => hne 32 (by decide) h.1), if_neg (fun h => by have := h.1.2; omega)]
          have HP : Hid (ScanPost s ⟨0, 0, 0, ⟨#[]⟩⟩ false) := HN.out hnone
          have r0 : W2.cell? ⟨w.heap.size, 0, none⟩ = some (.int .i64 0) := hres2.cell 0
          have r1 : W2.cell? ⟨w.heap.size, 1, none⟩ = some (.int .i64 0) := hres2.cell 1
          have r2 : W2.cell? ⟨w.heap.size, 2, none⟩ = some (.int .i64 0) := hres2.cell 2
          have r3 : W2.cell? ⟨w.heap.size, 3, none⟩ = some (.string ⟨#[]⟩) := hres2.cell 3
          have z0 := hres2.frozen 0
          have z1 := hres2.frozen 1
          have z2 := hres2.frozen 2
          have z3 := hres2.frozen 3
          have HB : Hid (Below w.heap.size w W2) := hb2
          have d10 : ((b : Int) == 10) = false := beq_eq_false_iff_ne.2 (by omega)
          have d32 : ((b : Int) == 32) = false := beq_eq_false_iff_ne.2 (by omega)
          have d48 : decide ((48 : Int) ≤ (b : Int)) = true := decide_eq_true (by omega)
          have d57 : decide ((b : Int) ≤ 57) = false := decide_eq_false (by omega)
          clear hI hnone hit hb2 hres2 hsc0 hW2 hb hipos
          go_wp2
          rw [Exit.noGoto_ret]
          exact bodyPost_ret (v := .tuple #[.agg #[.int .i64 0, .int .i64 0, .int .i64 0, .string ⟨#[]⟩], .bool false]) (by simp [results, Tryd.results19, go_sem, z0, z1, z2, z3, r0, r1, r2, r3]) rfl ⟨⟨0, 0, 0, ⟨#[]⟩⟩, false, rfl, by
            repeat (first | exact HB.out | (refine Below.setCell ?_ (by simp <;> omega) _)), HP.out⟩
      · have hnx : ∀ ty, (Instr.next (.pointer (some ⟨w.heap.size + 2, 0, none⟩)) true ty).run Tryd.prog wr = _ := fun ty => Lib.run_next_end_at wr (w.heap.size + 2) t pos ty hit hp
        have hnone : scanB (bytes t) (fun _ => 0) 0 0 = none := by
          rw [← hI.scn, List.drop_eq_nil_of_le (by unfold bytes; simp; omega)]
          rfl
        have HP : Hid (ScanPost s ⟨0, 0, 0, ⟨#[]⟩⟩ false) := HN.out hnone
        have r0 : wr.cell? ⟨w.heap.size, 0, none⟩ = some (.int .i64 0) := hI.res.cell 0
        have r1 : wr.cell? ⟨w.heap.size, 1, none⟩ = some (.int .i64 0) := hI.res.cell 1
        have r2 : wr.cell? ⟨w.heap.size, 2, none⟩ = some (.int .i64 0) := hI.res.cell 2
        have r3 : wr.cell? ⟨w.heap.size, 3, none⟩ = some (.string ⟨#[]⟩) := hI.res.cell 3
        have z0 := hI.res.frozen 0
        have z1 := hI.res.frozen 1
        have z2 := hI.res.frozen 2
        have z3 := hI.res.frozen 3
        have HB : Hid (Below w.heap.size w wr) := hI.bel
        clear hI hnone hit hipos
        go_wp2
        rw [Exit.noGoto_ret]
        have R := (HI.out.res)
        exact bodyPost_ret (v := .tuple #[.agg #[.int .i64 0, .int .i64 0, .int .i64 0, .string ⟨#[]⟩], .bool false]) (by simp [results, Tryd.results19, go_sem, z0, z1, z2, z3, r0, r1, r2, r3]) rfl ⟨⟨0, 0, 0, ⟨#[]⟩⟩, false, rfl, by
          repeat (first | exact HB.out | (refine Below.setCell ?_ (by simp <;> omega) _)), HP.out⟩
end Go.Proofs.YtjlldefajgmelaaDoor
