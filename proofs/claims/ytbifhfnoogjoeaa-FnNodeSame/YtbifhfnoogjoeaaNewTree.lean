/-
  What TreeNew of the specification and TreeNew of the program answer: a tree with a root alone; nothing, if that is no turn.
-/
import Derived.Test.YtbifhfnoogjoeaaNodesDef
namespace Go.Proofs.Ytbifhfnoogjoeaa
open Go.RowKit
set_option linter.unusedVariables false

/-- The root of a new tree. -/
def rootNd (now : Int) : Nd := ⟨2, ByteArray.empty, 0, fun _ => ByteArray.empty, 0, fun _ => 0, now⟩
def noLoc : Loc := ⟨none, 0, none, 0⟩
/-- .. as it lies in memory. -/
def rootCells (now : Int) : Array Value := #[.int .i64 2, .string ByteArray.empty, .slice none 0 0, .slice none 0 0, .int .i64 now]

theorem root_nds {W : World} {b : Nat} {now : Int} (h : Blk W b (rootCells now) 36) : IsNds W (some ⟨b, 0, none⟩) 1 (fun _ => rootNd now) (fun _ => noLoc) := by
  refine Or.inr ⟨b, 0, rfl, h.lt, fun i hi => ?_⟩
  have : i = 0 := by omega
  subst this
  exact ⟨h.cell 0, h.cell 1, h.cell 2, h.cell 3, h.cell 4, Or.inl rfl, Or.inl rfl⟩

theorem root_fits {now : Int} (h : In64 now) : FitAll 1 (fun _ => rootNd now) := fun i _ =>
  ⟨⟨by show (-9223372036854775808 : Int) ≤ 2; omega, by show (2 : Int) ≤ 9223372036854775807; omega⟩, h, by unfold rootNd maxLen; simp, fun i hi => by unfold rootNd at hi; simp at hi, by unfold rootNd maxLen; simp, by unfold rootNd maxLen; simp, fun i hi => by unfold rootNd at hi; simp at hi⟩

set_option maxHeartbeats 400000 in
theorem specTreeNew_yes (now : Int) (w : World) (h1 : 1 ≤ now) (h2 : now ≤ 1000) :
    Calls Try.prog 14 #[.int .i64 now] w fun e w' => ∃ b, e = .returned (trV (some ⟨b, 0, none⟩) 1 1 now) ∧ w.heap.size ≤ b ∧ Below w.heap.size w w' ∧ Blk w' b (rootCells now) 36 := by
  have hb1 : decide (now < 1) = false := by simp; omega
  have hb2 : decide (1000 < now) = false := by simp; omega
  go_enter Try.func14, Try.ntmps14
  go_wp2
  have h := new2 w #[.slice (some ⟨w.heap.size + 1, 0, none⟩) 1 1, .int .i64 now] 25 (rootCells now) 36
  refine end_world (F := New2 w #[.slice (some ⟨w.heap.size + 1, 0, none⟩) 1 1, .int .i64 now] 25 (rootCells now) 36) h ?_
  rintro W ⟨h0, h1, hb, hs⟩
  have r0 : W.cell? ⟨w.heap.size, 0, none⟩ = some (.slice (some ⟨w.heap.size + 1, 0, none⟩) 1 1) := h0.cell 0
  have r1 : W.cell? ⟨w.heap.size, 1, none⟩ = some (.int .i64 now) := h0.cell 1
  exact bodyPost_ret (v := .agg #[.slice (some ⟨w.heap.size + 1, 0, none⟩) 1 1, .int .i64 now]) (by simp [results, Try.results14, go_sem, r0, r1]) rfl ⟨w.heap.size + 1, rfl, by omega, hb, h1⟩

set_option maxHeartbeats 400000 in
theorem specTreeNew_no (now : Int) (w : World) (h : ¬ (1 ≤ now ∧ now ≤ 1000)) :
    Calls Try.prog 14 #[.int .i64 now] w fun e w' => e = .returned (trV none 0 0 0) ∧ Below w.heap.size w w' := by
  by_cases h1 : now < 1
  · have hb1 : decide (now < 1) = true := by simp; omega
    go_enter Try.func14, Try.ntmps14
    go_wp2
    refine end_world (F := New1 w #[.slice none 0 0, .int .i64 0] 25) (new1 w _ _) ?_
    rintro W ⟨h0, hb, hs⟩
    have r0 : W.cell? ⟨w.heap.size, 0, none⟩ = some (.slice none 0 0) := h0.cell 0
    have r1 : W.cell? ⟨w.heap.size, 1, none⟩ = some (.int .i64 0) := h0.cell 1
    exact bodyPost_ret (v := .agg #[.slice none 0 0, .int .i64 0]) (by simp [results, Try.results14, go_sem, r0, r1]) rfl ⟨rfl, hb⟩
  · have hb1 : decide (now < 1) = false := by simp; omega
    have hb2 : decide (1000 < now) = true := by simp; omega
    go_enter Try.func14, Try.ntmps14
    go_wp2
    refine end_world (F := New1 w #[.slice none 0 0, .int .i64 0] 25) (new1 w _ _) ?_
    rintro W ⟨h0, hb, hs⟩
    have r0 : W.cell? ⟨w.heap.size, 0, none⟩ = some (.slice none 0 0) := h0.cell 0
    have r1 : W.cell? ⟨w.heap.size, 1, none⟩ = some (.int .i64 0) := h0.cell 1
    exact bodyPost_ret (v := .agg #[.slice none 0 0, .int .i64 0]) (by simp [results, Try.results14, go_sem, r0, r1]) rfl ⟨rfl, hb⟩
/-- A turn up to a last one. -/
def turnTo (z y : Int) : Bool := decide (1 ≤ z) && decide (z ≤ y)

theorem turnOk_new (z y : Int) (w : World) : Calls Try.prog 27 #[.int .i64 z, .int .i64 y] w fun e w' => e = .returned (.bool (turnTo z y)) ∧ w' = w := by
  by_cases h : 1 ≤ z
  · have hb : decide (1 ≤ z) = true := by simp; omega
    have HE : Hid (decide (z ≤ y) = turnTo z y) := by show _ = _; unfold turnTo; rw [hb]; rfl
    go_enter Try.func27, Try.ntmps27
    go_wp2
    go_ret
    exact ⟨ret_bool HE.out, rfl⟩
  · have hb : decide (1 ≤ z) = false := by simp; omega
    have HE : Hid (false = turnTo z y) := by show _ = _; unfold turnTo; rw [hb]; rfl
    go_enter Try.func27, Try.ntmps27
    go_wp2
    go_ret
    exact ⟨ret_bool HE.out, rfl⟩

set_option maxHeartbeats 400000 in
theorem implTreeNew_yes (now : Int) (w : World) (h1 : 1 ≤ now) (h2 : now ≤ 1000) :
    Calls Try.prog 13 #[.int .i64 now] w fun e w' => ∃ b, e = .returned (trV (some ⟨b, 0, none⟩) 1 1 now) ∧ w.heap.size ≤ b ∧ Below w.heap.size w w' ∧ Blk w' b (rootCells now) 36 := by
  have hto : turnTo now 1000 = true := by unfold turnTo; simp; omega
  go_enter Try.func13, Try.ntmps13
  go_wp2_with (go_at_call 27; refine (turnOk_new _ _ _).mono ?_; rintro e w' ⟨rfl, rfl⟩; rw [hto])
  have h := new2 w #[.slice (some ⟨w.heap.size + 1, 0, none⟩) 1 1, .int .i64 now] 25 (rootCells now) 36
  refine end_world (F := New2 w #[.slice (some ⟨w.heap.size + 1, 0, none⟩) 1 1, .int .i64 now] 25 (rootCells now) 36) h ?_
  rintro W ⟨h0, h1, hb, hs⟩
  have r0 : W.cell? ⟨w.heap.size, 0, none⟩ = some (.slice (some ⟨w.heap.size + 1, 0, none⟩) 1 1) := h0.cell 0
  have r1 : W.cell? ⟨w.heap.size, 1, none⟩ = some (.int .i64 now) := h0.cell 1
  exact bodyPost_ret (v := .agg #[.slice (some ⟨w.heap.size + 1, 0, none⟩) 1 1, .int .i64 now]) (by simp [results, Try.results13, go_sem, r0, r1]) rfl ⟨w.heap.size + 1, rfl, by omega, hb, h1⟩

set_option maxHeartbeats 400000 in
theorem implTreeNew_no (now : Int) (w : World) (h : ¬ (1 ≤ now ∧ now ≤ 1000)) :
    Calls Try.prog 13 #[.int .i64 now] w fun e w' => e = .returned (trV none 0 0 0) ∧ Below w.heap.size w w' := by
  have hto : turnTo now 1000 = false := by unfold turnTo; simp; omega
  go_enter Try.func13, Try.ntmps13
  go_wp2_with (go_at_call 27; refine (turnOk_new _ _ _).mono ?_; rintro e w' ⟨rfl, rfl⟩; rw [hto])
  refine end_world (F := New1 w #[.slice none 0 0, .int .i64 0] 25) (new1 w _ _) ?_
  rintro W ⟨h0, hb, hs⟩
  have r0 : W.cell? ⟨w.heap.size, 0, none⟩ = some (.slice none 0 0) := h0.cell 0
  have r1 : W.cell? ⟨w.heap.size, 1, none⟩ = some (.int .i64 0) := h0.cell 1
  exact bodyPost_ret (v := .agg #[.slice none 0 0, .int .i64 0]) (by simp [results, Try.results13, go_sem, r0, r1]) rfl ⟨rfl, hb⟩
end Go.Proofs.Ytbifhfnoogjoeaa
