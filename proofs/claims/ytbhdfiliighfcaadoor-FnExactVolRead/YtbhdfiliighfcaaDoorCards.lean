/-
  DERIVED. GIVEN WITH THE SEED: THE CARDS: each row of YtbhdfiliighfcaaDoorRows.lean that lists a variable, with what it lists TIED to the program's text (the seventh form; the later family's looks); each row that meets fmt, with fmt's text TOLD by the authors' own Lean function (tested against real Go, not proved from fmt's source: count such statements apart). THE CARD IS WHAT COUNTS. Prove the row's statement (the work); the ties are given (YtbhdfiliighfcaaDoorTie.lean); close each card by the builder's one call (the guide's Derived/Test/ToyasCard.lean, 'card_holds'). Laid BY PROGRAM, IN A SANDBOX (cutbox-door.mjs). By AI agents, Wed Nov 11 2026. No macro, syntax, notation, axiom, sorry.
-/
import Derived.Test.YtbhdfiliighfcaaDoorRows
import GoSem.ClaimSeven
namespace Go.Proofs.YtbhdfiliighfcaaDoor
namespace Rows

/-- THE TIED CARD OF 'laws.FnExactVolText'. -/
def fnExactVolTextCard : Claim7 := { stood := { row := fnExactVolTextRow, standIns := [], harness := (true, "61a935b378fb009ea2dc70367a5c07e166ee48cd8e284387bb933fd69cf95a5f"), looks := false }, kinds := [], alts := [], laidByText := true, laidKinds := [.data, .data, .data], laidTests := true, laidLooks := .later }
def FnExactVolTextCardSaid : Prop := Claim7.holds Tryd.pinned (.plain (OpenSpec.ofChange fnExactVolTextSpec)) fnExactVolTextCard

/-- THE TIED CARD OF 'laws.FnExactVolRead'. -/
def fnExactVolReadCard : Claim7 := { stood := { row := fnExactVolReadRow, standIns := [], harness := (true, "61a935b378fb009ea2dc70367a5c07e166ee48cd8e284387bb933fd69cf95a5f"), looks := false }, kinds := [], alts := [], laidByText := true, laidKinds := [.data, .data, .data], laidTests := true, laidLooks := .later }
def FnExactVolReadCardSaid : Prop := Claim7.holds Tryd.pinned (.plain (OpenSpec.ofChange fnExactVolReadSpec)) fnExactVolReadCard

/-- THE SECOND FORM's CARD OF 'laws.FnExactVolText'. -/
def fnExactVolTextUptoCard : Claim7 := { stood := { row := fnExactVolTextUptoRow, standIns := [], harness := (true, "61a935b378fb009ea2dc70367a5c07e166ee48cd8e284387bb933fd69cf95a5f"), looks := false }, kinds := [], alts := [], laidByText := true, laidKinds := [.data, .data, .data], laidTests := true, laidLooks := .later }
def FnExactVolTextUptoCardSaid : Prop := Claim7.holds Tryd.pinned (.plain (OpenSpec.upto fnExactVolTextSpec)) fnExactVolTextUptoCard

/-- THE SECOND FORM's CARD OF 'laws.FnExactVolRead'. -/
def fnExactVolReadUptoCard : Claim7 := { stood := { row := fnExactVolReadUptoRow, standIns := [], harness := (true, "61a935b378fb009ea2dc70367a5c07e166ee48cd8e284387bb933fd69cf95a5f"), looks := false }, kinds := [], alts := [], laidByText := true, laidKinds := [.data, .data, .data], laidTests := true, laidLooks := .later }
def FnExactVolReadUptoCardSaid : Prop := Claim7.holds Tryd.pinned (.plain (OpenSpec.upto fnExactVolReadSpec)) fnExactVolReadUptoCard
end Rows
end Go.Proofs.YtbhdfiliighfcaaDoor
