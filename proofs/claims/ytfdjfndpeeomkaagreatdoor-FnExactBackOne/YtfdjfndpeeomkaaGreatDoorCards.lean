/-
  DERIVED. GIVEN WITH THE SEED: THE CARDS: each row of YtfdjfndpeeomkaaGreatDoorRows.lean that lists a variable, with what it lists TIED to the program's text (the seventh form; the later family's looks); each row that meets fmt, with fmt's text TOLD by the authors' own Lean function (tested against real Go, not proved from fmt's source: count such statements apart). THE CARD IS WHAT COUNTS. Prove the row's statement (the work); the ties are given (YtfdjfndpeeomkaaGreatDoorTie.lean); close each card by the builder's one call (the guide's Derived/Test/ToyasCard.lean, 'card_holds'). Laid BY PROGRAM, IN A SANDBOX (cutbox-door.mjs). By AI agents, Wed Nov 11 2026. No macro, syntax, notation, axiom, sorry.
-/
import Derived.Test.YtfdjfndpeeomkaaGreatDoorRows
import GoSem.ClaimSeven
namespace Go.Proofs.YtfdjfndpeeomkaaGreatDoor
namespace Rows

/-- THE TIED CARD OF 'laws.FnExactBackOne'. -/
def fnExactBackOneCard : Claim7 := { stood := { row := fnExactBackOneRow, standIns := [], harness := (true, "8ac373edc38442b8027f18e71baba0eef78b3a266be6ac3296d9d5ef183cd0ce"), looks := true }, kinds := [], alts := [], laidByText := true, laidKinds := [.handle], laidTests := true, laidLooks := .later }
def FnExactBackOneCardSaid : Prop := Claim7.holds Tryz.pinned (.plain (OpenSpec.ofChange fnExactBackOneSpec)) fnExactBackOneCard

/-- THE TIED CARD OF 'laws.FnExactBackAll'. -/
def fnExactBackAllCard : Claim7 := { stood := { row := fnExactBackAllRow, standIns := [], harness := (true, "8ac373edc38442b8027f18e71baba0eef78b3a266be6ac3296d9d5ef183cd0ce"), looks := true }, kinds := [], alts := [], laidByText := true, laidKinds := [.handle], laidTests := true, laidLooks := .later }
def FnExactBackAllCardSaid : Prop := Claim7.holds Tryz.pinned (.plain (OpenSpec.ofChange fnExactBackAllSpec)) fnExactBackAllCard

/-- THE TIED CARD OF 'laws.FnExactBackPick'. -/
def fnExactBackPickCard : Claim7 := { stood := { row := fnExactBackPickRow, standIns := [], harness := (true, "8ac373edc38442b8027f18e71baba0eef78b3a266be6ac3296d9d5ef183cd0ce"), looks := true }, kinds := [], alts := [], laidByText := true, laidKinds := [.handle], laidTests := true, laidLooks := .later }
def FnExactBackPickCardSaid : Prop := Claim7.holds Tryz.pinned (.plain (OpenSpec.ofChange fnExactBackPickSpec)) fnExactBackPickCard

/-- THE TIED CARD OF 'laws.FnExactBookBack'. -/
def fnExactBookBackCard : Claim7 := { stood := { row := fnExactBookBackRow, standIns := [], harness := (true, "8ac373edc38442b8027f18e71baba0eef78b3a266be6ac3296d9d5ef183cd0ce"), looks := true }, kinds := [], alts := [], laidByText := true, laidKinds := [.handle], laidTests := true, laidLooks := .later }
def FnExactBookBackCardSaid : Prop := Claim7.holds Tryz.pinned (.plain (OpenSpec.ofChange fnExactBookBackSpec)) fnExactBookBackCard

/-- THE TIED CARD OF 'laws.FnExactJobNew'. -/
def fnExactJobNewCard : Claim7 := { stood := { row := fnExactJobNewRow, standIns := [], harness := (true, "8ac373edc38442b8027f18e71baba0eef78b3a266be6ac3296d9d5ef183cd0ce"), looks := true }, kinds := [], alts := [], laidByText := true, laidKinds := [.handle], laidTests := true, laidLooks := .later }
def FnExactJobNewCardSaid : Prop := Claim7.holds Tryz.pinned (.plain (OpenSpec.ofChange fnExactJobNewSpec)) fnExactJobNewCard

/-- THE TIED CARD OF 'laws.FnExactJobOk'. -/
def fnExactJobOkCard : Claim7 := { stood := { row := fnExactJobOkRow, standIns := [], harness := (true, "8ac373edc38442b8027f18e71baba0eef78b3a266be6ac3296d9d5ef183cd0ce"), looks := true }, kinds := [], alts := [], laidByText := true, laidKinds := [.handle], laidTests := true, laidLooks := .later }
def FnExactJobOkCardSaid : Prop := Claim7.holds Tryz.pinned (.plain (OpenSpec.ofChange fnExactJobOkSpec)) fnExactJobOkCard

/-- THE SECOND FORM's CARD OF 'laws.FnExactBackOne'. -/
def fnExactBackOneUptoCard : Claim7 := { stood := { row := fnExactBackOneUptoRow, standIns := [], harness := (true, "8ac373edc38442b8027f18e71baba0eef78b3a266be6ac3296d9d5ef183cd0ce"), looks := true }, kinds := [], alts := [], laidByText := true, laidKinds := [.handle], laidTests := true, laidLooks := .later }
def FnExactBackOneUptoCardSaid : Prop := Claim7.holds Tryz.pinned (.plain (OpenSpec.upto fnExactBackOneSpec)) fnExactBackOneUptoCard

/-- THE SECOND FORM's CARD OF 'laws.FnExactBackAll'. -/
def fnExactBackAllUptoCard : Claim7 := { stood := { row := fnExactBackAllUptoRow, standIns := [], harness := (true, "8ac373edc38442b8027f18e71baba0eef78b3a266be6ac3296d9d5ef183cd0ce"), looks := true }, kinds := [], alts := [], laidByText := true, laidKinds := [.handle], laidTests := true, laidLooks := .later }
def FnExactBackAllUptoCardSaid : Prop := Claim7.holds Tryz.pinned (.plain (OpenSpec.upto fnExactBackAllSpec)) fnExactBackAllUptoCard

/-- THE SECOND FORM's CARD OF 'laws.FnExactBackPick'. -/
def fnExactBackPickUptoCard : Claim7 := { stood := { row := fnExactBackPickUptoRow, standIns := [], harness := (true, "8ac373edc38442b8027f18e71baba0eef78b3a266be6ac3296d9d5ef183cd0ce"), looks := true }, kinds := [], alts := [], laidByText := true, laidKinds := [.handle], laidTests := true, laidLooks := .later }
def FnExactBackPickUptoCardSaid : Prop := Claim7.holds Tryz.pinned (.plain (OpenSpec.upto fnExactBackPickSpec)) fnExactBackPickUptoCard

/-- THE SECOND FORM's CARD OF 'laws.FnExactBookBack'. -/
def fnExactBookBackUptoCard : Claim7 := { stood := { row := fnExactBookBackUptoRow, standIns := [], harness := (true, "8ac373edc38442b8027f18e71baba0eef78b3a266be6ac3296d9d5ef183cd0ce"), looks := true }, kinds := [], alts := [], laidByText := true, laidKinds := [.handle], laidTests := true, laidLooks := .later }
def FnExactBookBackUptoCardSaid : Prop := Claim7.holds Tryz.pinned (.plain (OpenSpec.upto fnExactBookBackSpec)) fnExactBookBackUptoCard

/-- THE SECOND FORM's CARD OF 'laws.FnExactJobNew'. -/
def fnExactJobNewUptoCard : Claim7 := { stood := { row := fnExactJobNewUptoRow, standIns := [], harness := (true, "8ac373edc38442b8027f18e71baba0eef78b3a266be6ac3296d9d5ef183cd0ce"), looks := true }, kinds := [], alts := [], laidByText := true, laidKinds := [.handle], laidTests := true, laidLooks := .later }
def FnExactJobNewUptoCardSaid : Prop := Claim7.holds Tryz.pinned (.plain (OpenSpec.upto fnExactJobNewSpec)) fnExactJobNewUptoCard

/-- THE SECOND FORM's CARD OF 'laws.FnExactJobOk'. -/
def fnExactJobOkUptoCard : Claim7 := { stood := { row := fnExactJobOkUptoRow, standIns := [], harness := (true, "8ac373edc38442b8027f18e71baba0eef78b3a266be6ac3296d9d5ef183cd0ce"), looks := true }, kinds := [], alts := [], laidByText := true, laidKinds := [.handle], laidTests := true, laidLooks := .later }
def FnExactJobOkUptoCardSaid : Prop := Claim7.holds Tryz.pinned (.plain (OpenSpec.upto fnExactJobOkSpec)) fnExactJobOkUptoCard
end Rows
end Go.Proofs.YtfdjfndpeeomkaaGreatDoor
