/-
  DERIVED. GIVEN WITH THE SEED: THE CARDS: each row of YtakifcobofkheabGreatDoorRows.lean that lists a variable, with what it lists TIED to the program's text (the seventh form; the later family's looks); each row that meets fmt, with fmt's text TOLD by the authors' own Lean function (tested against real Go, not proved from fmt's source: count such statements apart). THE CARD IS WHAT COUNTS. Prove the row's statement (the work); the ties are given (YtakifcobofkheabGreatDoorTie.lean); close each card by the builder's one call (the guide's Derived/Test/ToyasCard.lean, 'card_holds'). Laid BY PROGRAM, IN A SANDBOX (cutbox-door.mjs). By AI agents, Wed Nov 11 2026. No macro, syntax, notation, axiom, sorry.
-/
import Derived.Test.YtakifcobofkheabGreatDoorRows
import GoSem.ClaimSeven
namespace Go.Proofs.YtakifcobofkheabGreatDoor
namespace Rows

/-- THE TIED CARD OF 'laws.FnExactBackPick'. -/
def fnExactBackPickCard : Claim7 := { stood := { row := fnExactBackPickRow, standIns := [], harness := (true, "4c636494980e828f4dad90b476c57cd818f6247b6f918578e8d945476bc251ab"), looks := true }, kinds := [], alts := [], laidByText := true, laidKinds := [.handle], laidTests := true, laidLooks := .later }
def FnExactBackPickCardSaid : Prop := Claim7.holds Tryz.pinned (.plain (OpenSpec.ofChange fnExactBackPickSpec)) fnExactBackPickCard

/-- THE TIED CARD OF 'laws.FnExactBookBack'. -/
def fnExactBookBackCard : Claim7 := { stood := { row := fnExactBookBackRow, standIns := [], harness := (true, "4c636494980e828f4dad90b476c57cd818f6247b6f918578e8d945476bc251ab"), looks := true }, kinds := [], alts := [], laidByText := true, laidKinds := [.handle], laidTests := true, laidLooks := .later }
def FnExactBookBackCardSaid : Prop := Claim7.holds Tryz.pinned (.plain (OpenSpec.ofChange fnExactBookBackSpec)) fnExactBookBackCard

/-- THE SECOND FORM's CARD OF 'laws.FnExactBackPick'. -/
def fnExactBackPickUptoCard : Claim7 := { stood := { row := fnExactBackPickUptoRow, standIns := [], harness := (true, "4c636494980e828f4dad90b476c57cd818f6247b6f918578e8d945476bc251ab"), looks := true }, kinds := [], alts := [], laidByText := true, laidKinds := [.handle], laidTests := true, laidLooks := .later }
def FnExactBackPickUptoCardSaid : Prop := Claim7.holds Tryz.pinned (.plain (OpenSpec.upto fnExactBackPickSpec)) fnExactBackPickUptoCard

/-- THE SECOND FORM's CARD OF 'laws.FnExactBookBack'. -/
def fnExactBookBackUptoCard : Claim7 := { stood := { row := fnExactBookBackUptoRow, standIns := [], harness := (true, "4c636494980e828f4dad90b476c57cd818f6247b6f918578e8d945476bc251ab"), looks := true }, kinds := [], alts := [], laidByText := true, laidKinds := [.handle], laidTests := true, laidLooks := .later }
def FnExactBookBackUptoCardSaid : Prop := Claim7.holds Tryz.pinned (.plain (OpenSpec.upto fnExactBookBackSpec)) fnExactBookBackUptoCard
end Rows
end Go.Proofs.YtakifcobofkheabGreatDoor
