/-
  DERIVED. GIVEN WITH THE SEED: THE CARDS: each row of YteniflajiklffaaGreatDoorRows.lean that lists a variable, with what it lists TIED to the program's text (the seventh form; the later family's looks); each row that meets fmt, with fmt's text TOLD by the authors' own Lean function (tested against real Go, not proved from fmt's source: count such statements apart). THE CARD IS WHAT COUNTS. Prove the row's statement (the work); the ties are given (YteniflajiklffaaGreatDoorTie.lean); close each card by the builder's one call (the guide's Derived/Test/ToyasCard.lean, 'card_holds'). Laid BY PROGRAM, IN A SANDBOX (cutbox-door.mjs). By AI agents, Wed Nov 11 2026. No macro, syntax, notation, axiom, sorry.
-/
import Derived.Test.YteniflajiklffaaGreatDoorRows
import GoSem.ClaimSeven
namespace Go.Proofs.YteniflajiklffaaGreatDoor
namespace Rows

/-- THE TIED CARD OF 'laws.FnHeld'. -/
def fnHeldCard : Claim7 := { stood := { row := fnHeldRow, standIns := [], harness := (true, "a9f3674d40d76233e7d890a81897f4caed00ec5ecb9068bc00f18ba4f1df9bde"), looks := true }, kinds := [], alts := [], laidByText := true, laidKinds := [.sentinel, .sentinel, .sentinel, .sentinel, .sentinel, .sentinel, .sentinel], laidTests := true, laidLooks := .later }
def FnHeldCardSaid : Prop := Claim7.holds Tryz.pinned (.plain (OpenSpec.ofChange fnHeldSpec)) fnHeldCard

/-- THE TIED CARD OF 'laws.FnDecided'. -/
def fnDecidedCard : Claim7 := { stood := { row := fnDecidedRow, standIns := [], harness := (true, "a9f3674d40d76233e7d890a81897f4caed00ec5ecb9068bc00f18ba4f1df9bde"), looks := true }, kinds := [], alts := [], laidByText := true, laidKinds := [.sentinel, .sentinel, .sentinel, .sentinel, .sentinel, .sentinel], laidTests := true, laidLooks := .later }
def FnDecidedCardSaid : Prop := Claim7.holds Tryz.pinned (.plain (OpenSpec.ofChange fnDecidedSpec)) fnDecidedCard

/-- THE TIED CARD OF 'laws.FnExactHold'. -/
def fnExactHoldCard : Claim7 := { stood := { row := fnExactHoldRow, standIns := [], harness := (true, "a9f3674d40d76233e7d890a81897f4caed00ec5ecb9068bc00f18ba4f1df9bde"), looks := true }, kinds := [], alts := [], laidByText := true, laidKinds := [.sentinel, .sentinel, .sentinel, .sentinel, .sentinel, .sentinel, .sentinel], laidTests := true, laidLooks := .later }
def FnExactHoldCardSaid : Prop := Claim7.holds Tryz.pinned (.plain (OpenSpec.ofChange fnExactHoldSpec)) fnExactHoldCard

/-- THE TIED CARD OF 'laws.FnExactDecide'. -/
def fnExactDecideCard : Claim7 := { stood := { row := fnExactDecideRow, standIns := [], harness := (true, "a9f3674d40d76233e7d890a81897f4caed00ec5ecb9068bc00f18ba4f1df9bde"), looks := true }, kinds := [], alts := [], laidByText := true, laidKinds := [.sentinel, .sentinel, .sentinel, .sentinel, .sentinel, .sentinel], laidTests := true, laidLooks := .later }
def FnExactDecideCardSaid : Prop := Claim7.holds Tryz.pinned (.plain (OpenSpec.ofChange fnExactDecideSpec)) fnExactDecideCard

/-- THE SECOND FORM's CARD OF 'laws.FnHeld'. -/
def fnHeldUptoCard : Claim7 := { stood := { row := fnHeldUptoRow, standIns := [], harness := (true, "a9f3674d40d76233e7d890a81897f4caed00ec5ecb9068bc00f18ba4f1df9bde"), looks := true }, kinds := [], alts := [], laidByText := true, laidKinds := [.sentinel, .sentinel, .sentinel, .sentinel, .sentinel, .sentinel, .sentinel], laidTests := true, laidLooks := .later }
def FnHeldUptoCardSaid : Prop := Claim7.holds Tryz.pinned (.plain (OpenSpec.upto fnHeldSpec)) fnHeldUptoCard

/-- THE SECOND FORM's CARD OF 'laws.FnDecided'. -/
def fnDecidedUptoCard : Claim7 := { stood := { row := fnDecidedUptoRow, standIns := [], harness := (true, "a9f3674d40d76233e7d890a81897f4caed00ec5ecb9068bc00f18ba4f1df9bde"), looks := true }, kinds := [], alts := [], laidByText := true, laidKinds := [.sentinel, .sentinel, .sentinel, .sentinel, .sentinel, .sentinel], laidTests := true, laidLooks := .later }
def FnDecidedUptoCardSaid : Prop := Claim7.holds Tryz.pinned (.plain (OpenSpec.upto fnDecidedSpec)) fnDecidedUptoCard

/-- THE SECOND FORM's CARD OF 'laws.FnExactHold'. -/
def fnExactHoldUptoCard : Claim7 := { stood := { row := fnExactHoldUptoRow, standIns := [], harness := (true, "a9f3674d40d76233e7d890a81897f4caed00ec5ecb9068bc00f18ba4f1df9bde"), looks := true }, kinds := [], alts := [], laidByText := true, laidKinds := [.sentinel, .sentinel, .sentinel, .sentinel, .sentinel, .sentinel, .sentinel], laidTests := true, laidLooks := .later }
def FnExactHoldUptoCardSaid : Prop := Claim7.holds Tryz.pinned (.plain (OpenSpec.upto fnExactHoldSpec)) fnExactHoldUptoCard

/-- THE SECOND FORM's CARD OF 'laws.FnExactDecide'. -/
def fnExactDecideUptoCard : Claim7 := { stood := { row := fnExactDecideUptoRow, standIns := [], harness := (true, "a9f3674d40d76233e7d890a81897f4caed00ec5ecb9068bc00f18ba4f1df9bde"), looks := true }, kinds := [], alts := [], laidByText := true, laidKinds := [.sentinel, .sentinel, .sentinel, .sentinel, .sentinel, .sentinel], laidTests := true, laidLooks := .later }
def FnExactDecideUptoCardSaid : Prop := Claim7.holds Tryz.pinned (.plain (OpenSpec.upto fnExactDecideSpec)) fnExactDecideUptoCard
end Rows
end Go.Proofs.YteniflajiklffaaGreatDoor
