/-
  DERIVED. GIVEN WITH THE SEED: THE CARDS: each row of YtjlldefajgmelaaDoorRows.lean that lists a variable, with what it lists TIED to the program's text (the seventh form; the later family's looks); each row that meets fmt, with fmt's text TOLD by the authors' own Lean function (tested against real Go, not proved from fmt's source: count such statements apart). THE CARD IS WHAT COUNTS. Prove the row's statement (the work); the ties are given (YtjlldefajgmelaaDoorTie.lean); close each card by the builder's one call (the guide's Derived/Test/ToyasCard.lean, 'card_holds'). Laid BY PROGRAM, IN A SANDBOX (cutbox-door.mjs). By AI agents, Wed Nov 11 2026. No macro, syntax, notation, axiom, sorry.
-/
import Derived.Test.YtjlldefajgmelaaDoorRows
import GoSem.ClaimSeven
namespace Go.Proofs.YtjlldefajgmelaaDoor
namespace Rows

/-- THE TIED CARD OF 'laws.FnVol'. -/
def fnVolCard : Claim7 := { stood := { row := fnVolRow, standIns := [], harness := (true, "017a98545db921319350d3325a6207e6ae340a454e75d0fa52a36d88ae565b03"), looks := false }, kinds := [], alts := [], laidByText := true, laidKinds := [.data, .data, .data], laidTests := true, laidLooks := .later }
def FnVolCardSaid : Prop := Claim7.holds Tryd.pinned (.plain (OpenSpec.ofChange fnVolSpec)) fnVolCard

/-- THE TIED CARD OF 'laws.FnVolBent'. -/
def fnVolBentCard : Claim7 := { stood := { row := fnVolBentRow, standIns := [], harness := (true, "017a98545db921319350d3325a6207e6ae340a454e75d0fa52a36d88ae565b03"), looks := false }, kinds := [], alts := [], laidByText := true, laidKinds := [.data, .data, .data], laidTests := true, laidLooks := .later }
def FnVolBentCardSaid : Prop := Claim7.holds Tryd.pinned (.plain (OpenSpec.ofChange fnVolBentSpec)) fnVolBentCard

/-- THE TIED CARD OF 'laws.FnVolRead'. -/
def fnVolReadCard : Claim7 := { stood := { row := fnVolReadRow, standIns := [], harness := (true, "017a98545db921319350d3325a6207e6ae340a454e75d0fa52a36d88ae565b03"), looks := false }, kinds := [], alts := [], laidByText := true, laidKinds := [.data, .data, .data], laidTests := true, laidLooks := .later }
def FnVolReadCardSaid : Prop := Claim7.holds Tryd.pinned (.plain (OpenSpec.ofChange fnVolReadSpec)) fnVolReadCard

/-- THE SECOND FORM's CARD OF 'laws.FnVol'. -/
def fnVolUptoCard : Claim7 := { stood := { row := fnVolUptoRow, standIns := [], harness := (true, "017a98545db921319350d3325a6207e6ae340a454e75d0fa52a36d88ae565b03"), looks := false }, kinds := [], alts := [], laidByText := true, laidKinds := [.data, .data, .data], laidTests := true, laidLooks := .later }
def FnVolUptoCardSaid : Prop := Claim7.holds Tryd.pinned (.plain (OpenSpec.upto fnVolSpec)) fnVolUptoCard

/-- THE SECOND FORM's CARD OF 'laws.FnVolBent'. -/
def fnVolBentUptoCard : Claim7 := { stood := { row := fnVolBentUptoRow, standIns := [], harness := (true, "017a98545db921319350d3325a6207e6ae340a454e75d0fa52a36d88ae565b03"), looks := false }, kinds := [], alts := [], laidByText := true, laidKinds := [.data, .data, .data], laidTests := true, laidLooks := .later }
def FnVolBentUptoCardSaid : Prop := Claim7.holds Tryd.pinned (.plain (OpenSpec.upto fnVolBentSpec)) fnVolBentUptoCard

/-- THE SECOND FORM's CARD OF 'laws.FnVolRead'. -/
def fnVolReadUptoCard : Claim7 := { stood := { row := fnVolReadUptoRow, standIns := [], harness := (true, "017a98545db921319350d3325a6207e6ae340a454e75d0fa52a36d88ae565b03"), looks := false }, kinds := [], alts := [], laidByText := true, laidKinds := [.data, .data, .data], laidTests := true, laidLooks := .later }
def FnVolReadUptoCardSaid : Prop := Claim7.holds Tryd.pinned (.plain (OpenSpec.upto fnVolReadSpec)) fnVolReadUptoCard
end Rows
end Go.Proofs.YtjlldefajgmelaaDoor
