/-
  For every piece, FnExactVolText answers true: VolText of the program answers as VolText of the specification, and the piece reads afterwards as it read before. The package-level tables of the library that the row lists are tied to the program's text.
-/
import Derived.Test.YtbhdfiliighfcaaDoorRowVolText
import Derived.Test.YtbhdfiliighfcaaDoorCards
import Derived.Test.YtbhdfiliighfcaaDoorTie
import Derived.SevenTiedAt
namespace Go.Proofs.YtbhdfiliighfcaaDoor
open Go

theorem fnExactVolText_holds : Rows.FnExactVolTextCardSaid :=
  Claim7.holds_tied_plain_at .later [] [.data, .data, .data] true (true, "61a935b378fb009ea2dc70367a5c07e166ee48cd8e284387bb933fd69cf95a5f") false
    fnExactVolText.over (fun _ h => by cases h) (by kernel_rfl) (fun _ h => by cases h) fnExactVolText_row_tie rfl ⟨rfl, rfl⟩ (by kernel_rfl) rfl
    (fun f fn hf hfn => by
      obtain rfl : f = 3 := Option.some.inj ((show Tryd.prog.funcNamed "loop.example/cellarage/laws.FnExactVolText" = some 3 by kernel_rfl).symm.trans hf) |>.symm
      obtain rfl : fn = Tryd.f3 := (Option.some.inj (Tryd.func3.symm.trans hfn)).symm
      exact ⟨by kernel_rfl, fun j t ht => by
        rw [Tryd.params3] at ht
        have hm : t ∈ [23] := by simpa using Array.mem_of_getElem? ht
        have hall : ([23].all fun u => !Tryd.prog.wantsStandIn u) = true := by kernel_rfl
        exact (show Tryd.prog.wantsStandIn t = false by simpa using List.all_eq_true.1 hall t hm)⟩)
    (by kernel_rfl)
end Go.Proofs.YtbhdfiliighfcaaDoor
