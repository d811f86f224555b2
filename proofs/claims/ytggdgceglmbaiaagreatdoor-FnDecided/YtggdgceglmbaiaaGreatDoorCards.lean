/-
  DERIVED. GIVEN WITH THE SEED: THE CARDS: each row of YtggdgceglmbaiaaGreatDoorRows.lean that lists a variable, with what it lists TIED to the program's text (the seventh form; the later family's looks); each row that meets fmt, with fmt's text TOLD by the authors' own Lean function (tested against real Go, not proved from fmt's source: count such statements apart). THE CARD IS WHAT COUNTS. Prove the row's statement (the work); the ties are given (YtggdgceglmbaiaaGreatDoorTie.lean); close each card by the builder's one call (the guide's Derived/Test/ToyasCard.lean, 'card_holds'). Laid BY PROGRAM, IN A SANDBOX (cutbox-door.mjs). By AI agents, Wed Nov 11 2026. No macro, syntax, notation, axiom, sorry.
-/
import Derived.Test.YtggdgceglmbaiaaGreatDoorRows
import GoSem.ClaimSeven
namespace Go.Proofs.YtggdgceglmbaiaaGreatDoor
namespace Rows

/-- THE TIED CARD OF 'laws.FnDecided'. -/
def fnDecidedCard : Claim7 := { stood := { row := fnDecidedRow, standIns := [], harness := (true, "696276decd75dcc640df2fc19f99c871d36f70f15d078a84373cfe6c77b82fc5"), looks := true }, kinds := [], alts := [], laidByText := true, laidKinds := [.sentinel, .sentinel, .sentinel, .sentinel, .sentinel, .sentinel], laidTests := true, laidLooks := .later }
def FnDecidedCardSaid : Prop := Claim7.holds Tryz.pinned (.plain (OpenSpec.ofChange fnDecidedSpec)) fnDecidedCard

/-- THE SECOND FORM's CARD OF 'laws.FnDecided'. -/
def fnDecidedUptoCard : Claim7 := { stood := { row := fnDecidedUptoRow, standIns := [], harness := (true, "696276decd75dcc640df2fc19f99c871d36f70f15d078a84373cfe6c77b82fc5"), looks := true }, kinds := [], alts := [], laidByText := true, laidKinds := [.sentinel, .sentinel, .sentinel, .sentinel, .sentinel, .sentinel], laidTests := true, laidLooks := .later }
def FnDecidedUptoCardSaid : Prop := Claim7.holds Tryz.pinned (.plain (OpenSpec.upto fnDecidedSpec)) fnDecidedUptoCard
end Rows
end Go.Proofs.YtggdgceglmbaiaaGreatDoor
