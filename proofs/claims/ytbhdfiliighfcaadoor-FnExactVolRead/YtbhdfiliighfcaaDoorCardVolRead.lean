/-
  For every text of at most 1048576 bytes, FnExactVolRead answers true: VolRead of the program answers the same piece and the same truth value as VolRead of the specification. The package-level tables of the library that the row lists are tied to the program's text.
-/
import Derived.Test.YtbhdfiliighfcaaDoorRowVolRead
import Derived.Test.YtbhdfiliighfcaaDoorCards
import Derived.Test.YtbhdfiliighfcaaDoorTie
import Derived.SevenTiedAt
namespace Go.Proofs.YtbhdfiliighfcaaDoor
open Go

theorem fnExactVolRead_holds : Rows.FnExactVolReadCardSaid :=
  Claim7.holds_tied_plain_at .later [] [.data, .data, .data] true (true, "61a935b378fb009ea2dc70367a5c07e166ee48cd8e284387bb933fd69cf95a5f") false
    fnExactVolRead.over (fun _ h => by cases h) (by kernel_rfl) (fun _ h => by cases h) fnExactVolRead_row_tie rfl ⟨rfl, rfl⟩ (by kernel_rfl) rfl
    (fun f fn hf hfn => by
      obtain rfl : f = 4 := Option.some.inj ((show Tryd.prog.funcNamed "loop.example/cellarage/laws.FnExactVolRead" = some 4 by kernel_rfl).symm.trans hf) |>.symm
      obtain rfl : fn = Tryd.f4 := (Option.some.inj (Tryd.func4.symm.trans hfn)).symm
      exact ⟨by kernel_rfl, fun j t ht => by
        rw [Tryd.params4] at ht
        have hm : t ∈ [9] := by simpa using Array.mem_of_getElem? ht
        have hall : ([9].all fun u => !Tryd.prog.wantsStandIn u) = true := by kernel_rfl
        exact (show Tryd.prog.wantsStandIn t = false by simpa using List.all_eq_true.1 hall t hm)⟩)
    (by kernel_rfl)
end Go.Proofs.YtbhdfiliighfcaaDoor
