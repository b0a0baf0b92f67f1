/-
  For every code, FnVolRead answers true: what is read of a drawn text is right and made of what stands behind the first newline; with a byte more behind it is none, but for a sum that is the same. And the code reads afterwards as it read before. The package-level tables of the library that the row lists are tied to the text of the program.
-/
import Derived.Test.YtjlldefajgmelaaDoorRowFnVolRead
import Derived.Test.YtjlldefajgmelaaDoorCards
import Derived.Test.YtjlldefajgmelaaDoorTie
import Derived.SevenTiedAt
namespace Go.Proofs.YtjlldefajgmelaaDoor
open Go

theorem fnVolRead_holds : Rows.FnVolReadCardSaid :=
  Claim7.holds_tied_plain_at .later [] [.data, .data, .data] true (true, "017a98545db921319350d3325a6207e6ae340a454e75d0fa52a36d88ae565b03") false
    fnVolRead.over (fun _ h => by cases h) (by kernel_rfl) (fun _ h => by cases h) fnVolRead_row_tie rfl ⟨rfl, rfl⟩ (by kernel_rfl) rfl
    (fun f fn hf hfn => by
      obtain rfl : f = 5 := Option.some.inj ((show Tryd.prog.funcNamed "loop.example/cellarage/laws.FnVolRead" = some 5 by kernel_rfl).symm.trans hf) |>.symm
      obtain rfl : fn = Tryd.f5 := (Option.some.inj (Tryd.func5.symm.trans hfn)).symm
      exact ⟨by kernel_rfl, fun j t ht => by
        rw [Tryd.params5] at ht
        have hm : t ∈ [22] := by simpa using Array.mem_of_getElem? ht
        have hall : ([22].all fun u => !Tryd.prog.wantsStandIn u) = true := by kernel_rfl
        exact (show Tryd.prog.wantsStandIn t = false by simpa using List.all_eq_true.1 hall t hm)⟩)
    (by kernel_rfl)
end Go.Proofs.YtjlldefajgmelaaDoor
