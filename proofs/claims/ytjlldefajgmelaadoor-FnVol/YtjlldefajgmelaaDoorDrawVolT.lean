/-
  The draws of a piece.
-/
import Derived.Test.YtjlldefajgmelaaDoorDrawVol
namespace Go.Proofs.YtjlldefajgmelaaDoor
open Go.RowKit
set_option linter.unusedVariables false
set_option linter.unusedSimpArgs false

set_option maxHeartbeats 400000 in
theorem drawVolOk_any (w : World) (a : Option Addr) (len cap : Nat) (zs : Nat → Int) (hc : IsCode w a len zs) (hlen : len ≤ maxLen) (hcap : len ≤ cap) :
    Calls Tryd.prog 14 #[.slice a len cap] w fun e w' => ∃ u : Vo, e = .returned (voV u) ∧ u.Tiny ∧ Below w.heap.size w w' := by
  have HC : Hid (∀ W, Below w.heap.size w W → IsCode W a len zs) := fun W hb => hc.below hb
  clear hc
  go_enter Tryd.func14, Tryd.ntmps14
  go_wp2_with fail
  refine at_world (F := New1 w _ _) (new1 w _ _) ?_
  rintro W ⟨ha, hb0, hs0⟩
  refine (l11Open_any W a len cap zs hlen hcap (HC.out W hb0)).mono ?_
  rintro e w1 ⟨rfl, hb1, len', hR1⟩
  have hR2 : IsRd w1 (w.heap.size + 1) a len' cap zs 0 := by rw [← hs0]; exact hR1
  have ha1 := ha.below hb1 (by omega)
  have hB1 := hb0.trans (hb1.mono (by omega))
  clear ha hb0 hb1
  go_wp2_with fail
  have HV : Calls Tryd.prog 16 #[.pointer (some ⟨w.heap.size + 1, 0, none⟩)] w1 fun e w' => ∃ u : Vo, e = .returned (.agg #[.int .i64 u.num, .int .i64 u.cnt, .int .i64 u.sum, .string u.text]) ∧ u.Tiny ∧ w1.grownBy w' (some (w.heap.size + 1)) :=
    (l8Vol_any w1 (w.heap.size + 1) a len' cap zs 0 hR2 (by omega)).mono fun e w' ⟨u, q, h1, h2, h3, _, _⟩ => ⟨u, h1, h2, h3⟩
  refine HV.mono ?_
  rintro e w2 ⟨u, rfl, hu, hg2⟩
  have ha2 := ha1.of_block (hg2.block _ ha1.lt (fun e => by have := Option.some.inj e; omega))
  have HB : Hid (Below w.heap.size w w2) := hB1.grown hg2 hB1.size (fun k e => by cases e; omega)
  have r0 : w2.cell? ⟨w.heap.size, 0, none⟩ = some (.int .i64 0) := ha2.cell 0
  have r1 : w2.cell? ⟨w.heap.size, 1, none⟩ = some (.int .i64 0) := ha2.cell 1
  have r2 : w2.cell? ⟨w.heap.size, 2, none⟩ = some (.int .i64 0) := ha2.cell 2
  have r3 : w2.cell? ⟨w.heap.size, 3, none⟩ = some (.string ⟨#[]⟩) := ha2.cell 3
  have z0 := ha2.frozen 0
  have z1 := ha2.frozen 1
  have z2 := ha2.frozen 2
  have z3 := ha2.frozen 3
  have HU : Hid u.Tiny := hu
  clear HV ha1 hB1 hR1 hR2 hg2 ha2 hu
  go_wp2
  refine bodyPost_ret (v := voV u) (by simp [voV, results, Tryd.results14, go_sem, r0, r1, r2, r3, z0, z1, z2, z3]) rfl ⟨u, rfl, HU.out, ?_⟩
  repeat (first | exact HB.out | (refine Below.setCell ?_ (by simp <;> omega) _))

set_option maxHeartbeats 400000 in
theorem drawVolText_any (w : World) (a : Option Addr) (len cap : Nat) (zs : Nat → Int) (hc : IsCode w a len zs) (hlen : len ≤ maxLen) (hcap : len ≤ cap) :
    Calls Tryd.prog 6 #[.slice a len cap] w fun e w' => ∃ u : Vo, e = .returned (voV u) ∧ u.Tiny ∧ Below w.heap.size w w' := by
  have HC : Hid (∀ W, Below w.heap.size w W → IsCode W a len zs) := fun W hb => hc.below hb
  clear hc
  go_enter Tryd.func6, Tryd.ntmps6
  go_wp2_with fail
  refine at_world (F := New1 w _ _) (new1 w _ _) ?_
  rintro W ⟨ha, hb0, hs0⟩
  refine (l11Open_any W a len cap zs hlen hcap (HC.out W hb0)).mono ?_
  rintro e w1 ⟨rfl, hb1, len', hR1⟩
  have hR2 : IsRd w1 (w.heap.size + 1) a len' cap zs 0 := by rw [← hs0]; exact hR1
  have ha1 := ha.below hb1 (by omega)
  have hB1 := hb0.trans (hb1.mono (by omega))
  clear ha hb0 hb1
  go_wp2_with fail
  have HV : Calls Tryd.prog 16 #[.pointer (some ⟨w.heap.size + 1, 0, none⟩)] w1 fun e w' => ∃ u : Vo, e = .returned (.agg #[.int .i64 u.num, .int .i64 u.cnt, .int .i64 u.sum, .string u.text]) ∧ u.Tiny ∧ w1.grownBy w' (some (w.heap.size + 1)) :=
    (l8Vol_any w1 (w.heap.size + 1) a len' cap zs 0 hR2 (by omega)).mono fun e w' ⟨u, q, h1, h2, h3, _, _⟩ => ⟨u, h1, h2, h3⟩
  refine HV.mono ?_
  rintro e w2 ⟨u, rfl, hu, hg2⟩
  have ha2 := ha1.of_block (hg2.block _ ha1.lt (fun e => by have := Option.some.inj e; omega))
  have HB : Hid (Below w.heap.size w w2) := hB1.grown hg2 hB1.size (fun k e => by cases e; omega)
  have r0 : w2.cell? ⟨w.heap.size, 0, none⟩ = some (.int .i64 0) := ha2.cell 0
  have r1 : w2.cell? ⟨w.heap.size, 1, none⟩ = some (.int .i64 0) := ha2.cell 1
  have r2 : w2.cell? ⟨w.heap.size, 2, none⟩ = some (.int .i64 0) := ha2.cell 2
  have r3 : w2.cell? ⟨w.heap.size, 3, none⟩ = some (.string ⟨#[]⟩) := ha2.cell 3
  have z0 := ha2.frozen 0
  have z1 := ha2.frozen 1
  have z2 := ha2.frozen 2
  have z3 := ha2.frozen 3
  have HU : Hid u.Tiny := hu
  clear HV ha1 hB1 hR1 hR2 hg2 ha2 hu
  go_wp2
  refine bodyPost_ret (v := voV u) (by simp [voV, results, Tryd.results6, go_sem, r0, r1, r2, r3, z0, z1, z2, z3]) rfl ⟨u, rfl, HU.out, ?_⟩
  repeat (first | exact HB.out | (refine Below.setCell ?_ (by simp <;> omega) _))

end Go.Proofs.YtjlldefajgmelaaDoor
