/-
  DERIVED. GIVEN WITH THE SEED: THE CARDS: each row of YtbnnfgfjcicjiaaDoorRows.lean that lists a variable, with what it lists TIED to the program's text (the seventh form; the later family's looks); each row that meets fmt, with fmt's text TOLD by the authors' own Lean function (tested against real Go, not proved from fmt's source: count such statements apart). THE CARD IS WHAT COUNTS. Prove the row's statement (the work); the ties are given (YtbnnfgfjcicjiaaDoorTie.lean); close each card by the builder's one call (the guide's Derived/Test/ToyasCard.lean, 'card_holds'). Laid BY PROGRAM, IN A SANDBOX (cutbox-door.mjs). By AI agents, Wed Nov 11 2026. No macro, syntax, notation, axiom, sorry.
-/
import Derived.Test.YtbnnfgfjcicjiaaDoorRows
import GoSem.ClaimSeven
namespace Go.Proofs.YtbnnfgfjcicjiaaDoor
namespace Rows

/-- THE TIED CARD OF 'laws.FnProofs'. -/
def fnProofsCard : Claim7 := { stood := { row := fnProofsRow, standIns := [], harness := (true, "5ee2f7e397cb7f7d92f096e124c74496210dbfab494880374f6aebad26a915e6"), looks := false }, kinds := [], alts := [], laidByText := true, laidKinds := [.data], laidTests := true, laidLooks := .later }
def FnProofsCardSaid : Prop := Claim7.holds Tryd.pinned (.plain (OpenSpec.ofChange fnProofsSpec)) fnProofsCard

/-- THE TIED CARD OF 'laws.FnExactProveBetween'. -/
def fnExactProveBetweenCard : Claim7 := { stood := { row := fnExactProveBetweenRow, standIns := [], harness := (true, "5ee2f7e397cb7f7d92f096e124c74496210dbfab494880374f6aebad26a915e6"), looks := false }, kinds := [], alts := [], laidByText := true, laidKinds := [.data], laidTests := true, laidLooks := .later }
def FnExactProveBetweenCardSaid : Prop := Claim7.holds Tryd.pinned (.plain (OpenSpec.ofChange fnExactProveBetweenSpec)) fnExactProveBetweenCard

/-- THE TIED CARD OF 'laws.FnExactCheckBetween'. -/
def fnExactCheckBetweenCard : Claim7 := { stood := { row := fnExactCheckBetweenRow, standIns := [], harness := (true, "5ee2f7e397cb7f7d92f096e124c74496210dbfab494880374f6aebad26a915e6"), looks := false }, kinds := [], alts := [], laidByText := true, laidKinds := [.data], laidTests := true, laidLooks := .later }
def FnExactCheckBetweenCardSaid : Prop := Claim7.holds Tryd.pinned (.plain (OpenSpec.ofChange fnExactCheckBetweenSpec)) fnExactCheckBetweenCard

/-- THE SECOND FORM's CARD OF 'laws.FnProofs'. -/
def fnProofsUptoCard : Claim7 := { stood := { row := fnProofsUptoRow, standIns := [], harness := (true, "5ee2f7e397cb7f7d92f096e124c74496210dbfab494880374f6aebad26a915e6"), looks := false }, kinds := [], alts := [], laidByText := true, laidKinds := [.data], laidTests := true, laidLooks := .later }
def FnProofsUptoCardSaid : Prop := Claim7.holds Tryd.pinned (.plain (OpenSpec.upto fnProofsSpec)) fnProofsUptoCard

/-- THE SECOND FORM's CARD OF 'laws.FnExactProveBetween'. -/
def fnExactProveBetweenUptoCard : Claim7 := { stood := { row := fnExactProveBetweenUptoRow, standIns := [], harness := (true, "5ee2f7e397cb7f7d92f096e124c74496210dbfab494880374f6aebad26a915e6"), looks := false }, kinds := [], alts := [], laidByText := true, laidKinds := [.data], laidTests := true, laidLooks := .later }
def FnExactProveBetweenUptoCardSaid : Prop := Claim7.holds Tryd.pinned (.plain (OpenSpec.upto fnExactProveBetweenSpec)) fnExactProveBetweenUptoCard

/-- THE SECOND FORM's CARD OF 'laws.FnExactCheckBetween'. -/
def fnExactCheckBetweenUptoCard : Claim7 := { stood := { row := fnExactCheckBetweenUptoRow, standIns := [], harness := (true, "5ee2f7e397cb7f7d92f096e124c74496210dbfab494880374f6aebad26a915e6"), looks := false }, kinds := [], alts := [], laidByText := true, laidKinds := [.data], laidTests := true, laidLooks := .later }
def FnExactCheckBetweenUptoCardSaid : Prop := Claim7.holds Tryd.pinned (.plain (OpenSpec.upto fnExactCheckBetweenSpec)) fnExactCheckBetweenUptoCard
end Rows
end Go.Proofs.YtbnnfgfjcicjiaaDoor
