/-
  For every two codes, FnVol answers true: a drawn piece is read from its text; a drawn text that is read is that of what was read; a piece with a byte turned is none. And the codes read afterwards as they read before. The package-level tables of the library that the row lists are tied to the text of the program.
-/
import Derived.Test.YtjlldefajgmelaaDoorRowFnVol
import Derived.Test.YtjlldefajgmelaaDoorCards
import Derived.Test.YtjlldefajgmelaaDoorTie
import Derived.SevenTiedAt
namespace Go.Proofs.YtjlldefajgmelaaDoor
open Go

theorem fnVol_holds : Rows.FnVolCardSaid :=
  Claim7.holds_tied_plain_at .later [] [.data, .data, .data] true (true, "017a98545db921319350d3325a6207e6ae340a454e75d0fa52a36d88ae565b03") false
    fnVol.over (fun _ h => by cases h) (by kernel_rfl) (fun _ h => by cases h) fnVol_row_tie rfl ⟨rfl, rfl⟩ (by kernel_rfl) rfl
    (fun f fn hf hfn => by
      obtain rfl : f = 3 := Option.some.inj ((show Tryd.prog.funcNamed "loop.example/cellarage/laws.FnVol" = some 3 by kernel_rfl).symm.trans hf) |>.symm
      obtain rfl : fn = Tryd.f3 := (Option.some.inj (Tryd.func3.symm.trans hfn)).symm
      exact ⟨by kernel_rfl, fun j t ht => by
        rw [Tryd.params3] at ht
        have hm : t ∈ [22] := by simpa using Array.mem_of_getElem? ht
        have hall : ([22].all fun u => !Tryd.prog.wantsStandIn u) = true := by kernel_rfl
        exact (show Tryd.prog.wantsStandIn t = false by simpa using List.all_eq_true.1 hall t hm)⟩)
    (by kernel_rfl)
end Go.Proofs.YtjlldefajgmelaaDoor
