/-
  DERIVED. GIVEN WITH THE SEED: THE CARDS: each row of YtakifcobofkheaaGreatDoorRows.lean that lists a variable, with what it lists TIED to the program's text (the seventh form; the later family's looks); each row that meets fmt, with fmt's text TOLD by the authors' own Lean function (tested against real Go, not proved from fmt's source: count such statements apart). THE CARD IS WHAT COUNTS. Prove the row's statement (the work); the ties are given (YtakifcobofkheaaGreatDoorTie.lean); close each card by the builder's one call (the guide's Derived/Test/ToyasCard.lean, 'card_holds'). Laid BY PROGRAM, IN A SANDBOX (cutbox-door.mjs). By AI agents, Wed Nov 11 2026. No macro, syntax, notation, axiom, sorry.
-/
import Derived.Test.YtakifcobofkheaaGreatDoorRows
import GoSem.ClaimSeven
namespace Go.Proofs.YtakifcobofkheaaGreatDoor
namespace Rows

/-- THE TIED CARD OF 'laws.FnExactJobNew'. -/
def fnExactJobNewCard : Claim7 := { stood := { row := fnExactJobNewRow, standIns := [], harness := (true, "adbe438fc0a2d7aab89f8cc3728b247fa8877029e5457ace6e42cbf23df0c7b3"), looks := true }, kinds := [], alts := [], laidByText := true, laidKinds := [.handle], laidTests := true, laidLooks := .later }
def FnExactJobNewCardSaid : Prop := Claim7.holds Tryz.pinned (.plain (OpenSpec.ofChange fnExactJobNewSpec)) fnExactJobNewCard

/-- THE TIED CARD OF 'laws.FnExactJobOk'. -/
def fnExactJobOkCard : Claim7 := { stood := { row := fnExactJobOkRow, standIns := [], harness := (true, "adbe438fc0a2d7aab89f8cc3728b247fa8877029e5457ace6e42cbf23df0c7b3"), looks := true }, kinds := [], alts := [], laidByText := true, laidKinds := [.handle], laidTests := true, laidLooks := .later }
def FnExactJobOkCardSaid : Prop := Claim7.holds Tryz.pinned (.plain (OpenSpec.ofChange fnExactJobOkSpec)) fnExactJobOkCard

/-- THE TIED CARD OF 'laws.FnExactJobStep'. -/
def fnExactJobStepCard : Claim7 := { stood := { row := fnExactJobStepRow, standIns := [], harness := (true, "adbe438fc0a2d7aab89f8cc3728b247fa8877029e5457ace6e42cbf23df0c7b3"), looks := true }, kinds := [], alts := [], laidByText := true, laidKinds := [.handle], laidTests := true, laidLooks := .later }
def FnExactJobStepCardSaid : Prop := Claim7.holds Tryz.pinned (.plain (OpenSpec.ofChange fnExactJobStepSpec)) fnExactJobStepCard

/-- THE TIED CARD OF 'laws.FnExactJobLeft'. -/
def fnExactJobLeftCard : Claim7 := { stood := { row := fnExactJobLeftRow, standIns := [], harness := (true, "adbe438fc0a2d7aab89f8cc3728b247fa8877029e5457ace6e42cbf23df0c7b3"), looks := true }, kinds := [], alts := [], laidByText := true, laidKinds := [.handle], laidTests := true, laidLooks := .later }
def FnExactJobLeftCardSaid : Prop := Claim7.holds Tryz.pinned (.plain (OpenSpec.ofChange fnExactJobLeftSpec)) fnExactJobLeftCard

/-- THE TIED CARD OF 'laws.FnExactJobTree'. -/
def fnExactJobTreeCard : Claim7 := { stood := { row := fnExactJobTreeRow, standIns := [], harness := (true, "adbe438fc0a2d7aab89f8cc3728b247fa8877029e5457ace6e42cbf23df0c7b3"), looks := true }, kinds := [], alts := [], laidByText := true, laidKinds := [.handle], laidTests := true, laidLooks := .later }
def FnExactJobTreeCardSaid : Prop := Claim7.holds Tryz.pinned (.plain (OpenSpec.ofChange fnExactJobTreeSpec)) fnExactJobTreeCard

/-- THE TIED CARD OF 'laws.FnExactBackAll'. -/
def fnExactBackAllCard : Claim7 := { stood := { row := fnExactBackAllRow, standIns := [], harness := (true, "adbe438fc0a2d7aab89f8cc3728b247fa8877029e5457ace6e42cbf23df0c7b3"), looks := true }, kinds := [], alts := [], laidByText := true, laidKinds := [.handle], laidTests := true, laidLooks := .later }
def FnExactBackAllCardSaid : Prop := Claim7.holds Tryz.pinned (.plain (OpenSpec.ofChange fnExactBackAllSpec)) fnExactBackAllCard

/-- THE SECOND FORM's CARD OF 'laws.FnExactJobNew'. -/
def fnExactJobNewUptoCard : Claim7 := { stood := { row := fnExactJobNewUptoRow, standIns := [], harness := (true, "adbe438fc0a2d7aab89f8cc3728b247fa8877029e5457ace6e42cbf23df0c7b3"), looks := true }, kinds := [], alts := [], laidByText := true, laidKinds := [.handle], laidTests := true, laidLooks := .later }
def FnExactJobNewUptoCardSaid : Prop := Claim7.holds Tryz.pinned (.plain (OpenSpec.upto fnExactJobNewSpec)) fnExactJobNewUptoCard

/-- THE SECOND FORM's CARD OF 'laws.FnExactJobOk'. -/
def fnExactJobOkUptoCard : Claim7 := { stood := { row := fnExactJobOkUptoRow, standIns := [], harness := (true, "adbe438fc0a2d7aab89f8cc3728b247fa8877029e5457ace6e42cbf23df0c7b3"), looks := true }, kinds := [], alts := [], laidByText := true, laidKinds := [.handle], laidTests := true, laidLooks := .later }
def FnExactJobOkUptoCardSaid : Prop := Claim7.holds Tryz.pinned (.plain (OpenSpec.upto fnExactJobOkSpec)) fnExactJobOkUptoCard

/-- THE SECOND FORM's CARD OF 'laws.FnExactJobStep'. -/
def fnExactJobStepUptoCard : Claim7 := { stood := { row := fnExactJobStepUptoRow, standIns := [], harness := (true, "adbe438fc0a2d7aab89f8cc3728b247fa8877029e5457ace6e42cbf23df0c7b3"), looks := true }, kinds := [], alts := [], laidByText := true, laidKinds := [.handle], laidTests := true, laidLooks := .later }
def FnExactJobStepUptoCardSaid : Prop := Claim7.holds Tryz.pinned (.plain (OpenSpec.upto fnExactJobStepSpec)) fnExactJobStepUptoCard

/-- THE SECOND FORM's CARD OF 'laws.FnExactJobLeft'. -/
def fnExactJobLeftUptoCard : Claim7 := { stood := { row := fnExactJobLeftUptoRow, standIns := [], harness := (true, "adbe438fc0a2d7aab89f8cc3728b247fa8877029e5457ace6e42cbf23df0c7b3"), looks := true }, kinds := [], alts := [], laidByText := true, laidKinds := [.handle], laidTests := true, laidLooks := .later }
def FnExactJobLeftUptoCardSaid : Prop := Claim7.holds Tryz.pinned (.plain (OpenSpec.upto fnExactJobLeftSpec)) fnExactJobLeftUptoCard

/-- THE SECOND FORM's CARD OF 'laws.FnExactJobTree'. -/
def fnExactJobTreeUptoCard : Claim7 := { stood := { row := fnExactJobTreeUptoRow, standIns := [], harness := (true, "adbe438fc0a2d7aab89f8cc3728b247fa8877029e5457ace6e42cbf23df0c7b3"), looks := true }, kinds := [], alts := [], laidByText := true, laidKinds := [.handle], laidTests := true, laidLooks := .later }
def FnExactJobTreeUptoCardSaid : Prop := Claim7.holds Tryz.pinned (.plain (OpenSpec.upto fnExactJobTreeSpec)) fnExactJobTreeUptoCard

/-- THE SECOND FORM's CARD OF 'laws.FnExactBackAll'. -/
def fnExactBackAllUptoCard : Claim7 := { stood := { row := fnExactBackAllUptoRow, standIns := [], harness := (true, "adbe438fc0a2d7aab89f8cc3728b247fa8877029e5457ace6e42cbf23df0c7b3"), looks := true }, kinds := [], alts := [], laidByText := true, laidKinds := [.handle], laidTests := true, laidLooks := .later }
def FnExactBackAllUptoCardSaid : Prop := Claim7.holds Tryz.pinned (.plain (OpenSpec.upto fnExactBackAllSpec)) fnExactBackAllUptoCard
end Rows
end Go.Proofs.YtakifcobofkheaaGreatDoor
