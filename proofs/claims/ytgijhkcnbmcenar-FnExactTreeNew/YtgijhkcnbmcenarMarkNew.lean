/-
  What the exact laws' helpers do that mark a new tree and look whether the marks are held.
-/
import Derived.Test.YtgijhkcnbmcenarNewTree
import Derived.Test.YtgijhkcnbmcenarMark
import Derived.LoopN
namespace Go.Proofs.Ytgijhkcnbmcenar
open Go.RowKit
set_option linter.unusedVariables false

theorem markStringS_nil (k : Int) (w : World) : Calls Try.prog 20 #[.slice none 0 0, .int .i64 k] w fun e w' => e = .returned (.int .i64 k) ∧ w' = w := by
  go_enter Try.func20, Try.ntmps20
  go_wp2
  refine wp_loop_rounds 1 ?_
  rw [rounds_succ]
  go_wp2
  go_ret
  exact ⟨rfl, rfl⟩

theorem markIntS_nil (k : Int) (w : World) : Calls Try.prog 48 #[.slice none 0 0, .int .i64 k] w fun e w' => e = .returned (.int .i64 k) ∧ w' = w := by
  go_enter Try.func48, Try.ntmps48
  go_wp2
  refine wp_loop_rounds 1 ?_
  rw [rounds_succ]
  go_wp2
  go_ret
  exact ⟨rfl, rfl⟩

theorem heldStringS_nil (k : Int) (w : World) : Calls Try.prog 21 #[.slice none 0 0, .int .i64 k] w fun e w' => e = .returned (.int .i64 k) ∧ w' = w := by
  go_enter Try.func21, Try.ntmps21
  go_wp2
  refine wp_loop_rounds 1 ?_
  rw [rounds_succ]
  go_wp2
  go_ret
  exact ⟨rfl, rfl⟩

theorem heldIntS_nil (k : Int) (w : World) : Calls Try.prog 49 #[.slice none 0 0, .int .i64 k] w fun e w' => e = .returned (.int .i64 k) ∧ w' = w := by
  go_enter Try.func49, Try.ntmps49
  go_wp2
  refine wp_loop_rounds 1 ?_
  rw [rounds_succ]
  go_wp2
  go_ret
  exact ⟨rfl, rfl⟩

/-- No block that was there has turned but b. -/
structure Keeps (b : Nat) (w w' : World) : Prop where
  bel : Below b w w'
  blk : ∀ k, k < w.heap.size → k ≠ b → w'.heap[k]? = w.heap[k]?
  size : w.heap.size ≤ w'.heap.size

theorem Keeps.refl (b : Nat) (w : World) : Keeps b w w := ⟨Below.refl _ _, fun _ _ _ => rfl, Nat.le_refl _⟩
theorem Keeps.put {b : Nat} {a w : World} (h : Keeps b a w) (i : Nat) (v : Value) : Keeps b a (w.setCell ⟨b, i, none⟩ v) :=
  ⟨bel_put h.bel _ (Nat.le_refl _), fun k hk hne => (Go.Deep.blk_setCell_other _ _ _ _ (show k ≠ (⟨b, i, none⟩ : Addr).block from hne)).trans (h.blk k hk hne), by have := h.size; simp [World.setCell]; omega⟩
theorem keeps_after {b : Nat} {a w w' : World} (hb : Below a.heap.size a w) (h : Keeps b w w') (hlt : b < a.heap.size) : Keeps b a w' :=
  ⟨(hb.mono (by omega)).trans h.bel, fun k hk hne => (h.blk k (by have := hb.size; omega) hne).trans (hb.block k hk), by have := h.size; have := hb.size; omega⟩
theorem Keeps.then {b : Nat} {a w w' : World} (h : Keeps b a w) (hb : Below w.heap.size w w') (hlt : b < w.heap.size) : Keeps b a w' :=
  ⟨h.bel.trans (hb.mono (by omega)), fun k hk hne => (hb.block k (by have := h.size; omega)).trans (h.blk k hk hne), by have := h.size; have := hb.size; omega⟩

/-- The marks of a new tree's one place. -/
def markCells : Array Value := #[.int .i64 1, .string ⟨(markOf 2).toArray⟩, .slice none 0 0, .slice none 0 0, .int .i64 3]

set_option maxHeartbeats 1000000 in
theorem markNodeS_one (b : Nat) (now : Int) (w : World) (hb : Blk w b (rootCells now) 48) :
    Calls Try.prog 39 #[.slice (some ⟨b, 0, none⟩) 1 1, .int .i64 1] w fun e w' => e = .returned (.int .i64 4) ∧ Blk w' b markCells 48 ∧ Keeps b w w' := by
  go_enter Try.func39, Try.ntmps39
  go_wp2
  refine wp_loop_rounds 2 ?_
  rw [rounds_succ]
  have b0 : w.cell? ⟨b, 0, none⟩ = some (.int .i64 2) := hb.cell 0
  have f0 := hb.frozen 0
  go_wp2_with fail
  refine at_world (F := fun W => Blk W b #[.int .i64 1, .string ByteArray.empty, .slice none 0 0, .slice none 0 0, .int .i64 now] 48 ∧ Keeps b w W) ⟨hb.set 0 _, (Keeps.refl _ _).put _ _⟩ ?_
  rintro W ⟨h1, hb1⟩
  refine (markText_any 2 W (by omega) (by omega)).mono ?_
  rintro e w2 ⟨rfl, hb2⟩
  have h2 := h1.below hb2 h1.lt
  have B2 : Hid (Blk w2 b #[.int .i64 1, .string ByteArray.empty, .slice none 0 0, .slice none 0 0, .int .i64 now] 48 ∧ Keeps b w w2) := ⟨h2, hb1.then hb2 h1.lt⟩
  have c1 : w2.cell? ⟨b, 1, none⟩ = some (.string ByteArray.empty) := h2.cell 1
  have c2 : w2.cell? ⟨b, 2, none⟩ = some (.slice none 0 0) := h2.cell 2
  have f1 := h2.frozen 1
  clear h1 h2 hb1 hb2 b0 f0 hb
  go_wp2_with fail
  refine at_world (F := fun W => Blk W b #[.int .i64 1, .string ⟨(markOf 2).toArray⟩, .slice none 0 0, .slice none 0 0, .int .i64 now] 48 ∧ Keeps b w W) ⟨B2.out.1.set 1 _, B2.out.2.put _ _⟩ ?_
  rintro W3 ⟨h3, hb3⟩
  refine (markStringS_nil _ W3).mono ?_
  rintro e w4 ⟨rfl, rfl⟩
  have B4 : Hid (Blk w4 b #[.int .i64 1, .string ⟨(markOf 2).toArray⟩, .slice none 0 0, .slice none 0 0, .int .i64 now] 48 ∧ Keeps b w w4) := ⟨h3, hb3⟩
  have c3 : w4.cell? ⟨b, 3, none⟩ = some (.slice none 0 0) := h3.cell 3
  have c4 : w4.cell? ⟨b, 4, none⟩ = some (.int .i64 now) := h3.cell 4
  have f4 := h3.frozen 4
  clear h3 hb3 c1 c2 f1 B2
  go_wp2_with (go_at_call 48; refine (markIntS_nil _ _).mono ?_; rintro e w' ⟨rfl, rfl⟩)
  rw [rounds_succ]
  go_wp2
  go_ret
  exact ⟨rfl, B4.out.1.set 4 _, B4.out.2.put _ _⟩

theorem markNodeS_nil (k : Int) (w : World) : Calls Try.prog 39 #[.slice none 0 0, .int .i64 k] w fun e w' => e = .returned (.int .i64 k) ∧ w' = w := by
  go_enter Try.func39, Try.ntmps39
  go_wp2
  refine wp_loop_rounds 1 ?_
  rw [rounds_succ]
  go_wp2
  go_ret
  exact ⟨rfl, rfl⟩

theorem heldNodeS_nil (k : Int) (w : World) : Calls Try.prog 40 #[.slice none 0 0, .int .i64 k] w fun e w' => e = .returned (.int .i64 k) ∧ w' = w := by
  go_enter Try.func40, Try.ntmps40
  go_wp2
  refine wp_loop_rounds 1 ?_
  rw [rounds_succ]
  go_wp2
  go_ret
  exact ⟨rfl, rfl⟩

theorem mark2_same : ((⟨(markOf 2).toArray⟩ : ByteArray).toList == (⟨(markOf 2).toArray⟩ : ByteArray).toList) = true := by simp

set_option maxHeartbeats 1000000 in
theorem heldNodeS_one (b : Nat) (w : World) (hb : Blk w b markCells 48) :
    Calls Try.prog 40 #[.slice (some ⟨b, 0, none⟩) 1 1, .int .i64 1] w fun e w' => e = .returned (.int .i64 4) ∧ Below w.heap.size w w' := by
  go_enter Try.func40, Try.ntmps40
  go_wp2
  refine wp_loop_rounds 2 ?_
  rw [rounds_succ]
  have b0 : w.cell? ⟨b, 0, none⟩ = some (.int .i64 1) := hb.cell 0
  have b1 : w.cell? ⟨b, 1, none⟩ = some (.string ⟨(markOf 2).toArray⟩) := hb.cell 1
  have B1 := Lat.cell (B := w.heap.size) b1 hb.lt
  have hcall : Hid (∀ q : Lat w.heap.size w, Calls Try.prog 35 #[.int .i64 2] q.val fun e w'' => e = .returned (.string ⟨(markOf 2).toArray⟩) ∧ ∃ m : Lat w.heap.size w, w'' = m.val) := fun q =>
    Calls.lat_of (markText_any 2 q.val (by omega) (by omega)) (fun e w' h => ⟨h.1, h.2.mono q.bel.size⟩)
  have hms := mark2_same
  have hmn : (!(⟨(markOf 2).toArray⟩ : ByteArray).toList == (⟨(markOf 2).toArray⟩ : ByteArray).toList) = false := by rw [hms]; rfl
  go_wp2_with fail
  refine wp_region_lat (B := w.heap.size) (w0 := w) (by kernel_rfl) (by kernel_rfl) (Below.refl _ _) ?_
  repeat (go_big_quiet_step (exact hcall.out _))
  refine wpQuiet_nil ?_
  rintro _ ⟨nq, rfl⟩
  have h1 := hb.below nq.bel hb.lt
  have c2 : nq.val.cell? ⟨b, 2, none⟩ = some (.slice none 0 0) := h1.cell 2
  have c3 : nq.val.cell? ⟨b, 3, none⟩ = some (.slice none 0 0) := h1.cell 3
  have c4 : nq.val.cell? ⟨b, 4, none⟩ = some (.int .i64 3) := h1.cell 4
  have HB : Hid (Below w.heap.size w nq.val) := nq.bel
  clear b0 b1 B1 hcall h1 hb
  go_wp2_with (first
    | (go_at_call 21; refine (heldStringS_nil _ _).mono ?_; rintro e w' ⟨rfl, rfl⟩)
    | (go_at_call 49; refine (heldIntS_nil _ _).mono ?_; rintro e w' ⟨rfl, rfl⟩))
  rw [rounds_succ]
  go_wp2
  go_ret
  exact ⟨rfl, HB.out⟩

set_option maxHeartbeats 400000 in
theorem markTree_one (b : Nat) (now : Int) (w : World) (hb : Blk w b (rootCells now) 48) :
    Calls Try.prog 27 #[trV (some ⟨b, 0, none⟩) 1 1 now, .int .i64 1] w fun e w' => e = .returned (.int .i64 4) ∧ Blk w' b markCells 48 ∧ Keeps b w w' := by
  unfold trV
  go_enter Try.func27, Try.ntmps27
  go_wp2_with fail
  refine at_world (F := New1 w _ _) (new1 w _ _) ?_
  rintro W ⟨hp, hb1, hs⟩
  refine (markNodeS_one b now W (hb.below hb1 hb.lt)).mono ?_
  rintro e w1 ⟨rfl, h2, hb2⟩
  have HB : Hid (Blk w1 b markCells 48 ∧ Keeps b w w1) := ⟨h2, keeps_after hb1 hb2 hb.lt⟩
  clear h2 hb2 hb1 hp hs
  go_wp2
  go_ret
  exact ⟨rfl, HB.out.1, HB.out.2⟩

set_option maxHeartbeats 400000 in
theorem heldTree_one (b : Nat) (now : Int) (w : World) (hb : Blk w b markCells 48) :
    Calls Try.prog 28 #[trV (some ⟨b, 0, none⟩) 1 1 now, .int .i64 1] w fun e w' => e = .returned (.int .i64 4) ∧ Below w.heap.size w w' := by
  unfold trV
  go_enter Try.func28, Try.ntmps28
  go_wp2_with fail
  refine at_world (F := New1 w _ _) (new1 w _ _) ?_
  rintro W ⟨hp, hb1, hs⟩
  refine (heldNodeS_one b W (hb.below hb1 hb.lt)).mono ?_
  rintro e w1 ⟨rfl, hb2⟩
  have HB : Hid (Below w.heap.size w w1) := hb1.trans (hb2.mono (by omega))
  clear hb2 hb1 hp hs
  go_wp2
  go_ret
  exact ⟨rfl, HB.out⟩

set_option maxHeartbeats 400000 in
theorem markTree_nil (w : World) : Calls Try.prog 27 #[trV none 0 0 0, .int .i64 1] w fun e w' => e = .returned (.int .i64 1) ∧ Below w.heap.size w w' := by
  unfold trV
  go_enter Try.func27, Try.ntmps27
  go_wp2_with fail
  refine at_world (F := New1 w _ _) (new1 w _ _) ?_
  rintro W ⟨hp, hb1, hs⟩
  refine (markNodeS_nil 1 W).mono ?_
  rintro e w1 ⟨rfl, rfl⟩
  go_wp2
  go_ret
  exact ⟨rfl, hb1⟩

set_option maxHeartbeats 400000 in
theorem heldTree_nil (w : World) : Calls Try.prog 28 #[trV none 0 0 0, .int .i64 1] w fun e w' => e = .returned (.int .i64 1) ∧ Below w.heap.size w w' := by
  unfold trV
  go_enter Try.func28, Try.ntmps28
  go_wp2_with fail
  refine at_world (F := New1 w _ _) (new1 w _ _) ?_
  rintro W ⟨hp, hb1, hs⟩
  refine (heldNodeS_nil 1 W).mono ?_
  rintro e w1 ⟨rfl, rfl⟩
  go_wp2
  go_ret
  exact ⟨rfl, hb1⟩
end Go.Proofs.Ytgijhkcnbmcenar
