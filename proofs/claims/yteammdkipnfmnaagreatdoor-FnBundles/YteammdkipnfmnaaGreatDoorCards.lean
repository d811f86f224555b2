/-
  DERIVED. GIVEN WITH THE SEED: THE CARDS: each row of YteammdkipnfmnaaGreatDoorRows.lean that lists a variable, with what it lists TIED to the program's text (the seventh form; the later family's looks); each row that meets fmt, with fmt's text TOLD by the authors' own Lean function (tested against real Go, not proved from fmt's source: count such statements apart). THE CARD IS WHAT COUNTS. Prove the row's statement (the work); the ties are given (YteammdkipnfmnaaGreatDoorTie.lean); close each card by the builder's one call (the guide's Derived/Test/ToyasCard.lean, 'card_holds'). Laid BY PROGRAM, IN A SANDBOX (cutbox-door.mjs). By AI agents, Wed Nov 11 2026. No macro, syntax, notation, axiom, sorry.
-/
import Derived.Test.YteammdkipnfmnaaGreatDoorRows
import GoSem.ClaimSeven
namespace Go.Proofs.YteammdkipnfmnaaGreatDoor
namespace Rows

/-- THE TIED CARD OF 'laws.FnBundles'. -/
def fnBundlesCard : Claim7 := { stood := { row := fnBundlesRow, standIns := [], harness := (true, "ead01a9c71a01a9338fa11ad19b7945b16cccd8302db82d22ada510d4b8e937f"), looks := false }, kinds := [], alts := [], laidByText := true, laidKinds := [.data], laidTests := true, laidLooks := .later }
def FnBundlesCardSaid : Prop := Claim7.holds Tryz.pinned (.plain (OpenSpec.ofChange fnBundlesSpec)) fnBundlesCard

/-- THE TIED CARD OF 'laws.FnExactCheckBundle'. -/
def fnExactCheckBundleCard : Claim7 := { stood := { row := fnExactCheckBundleRow, standIns := [], harness := (true, "ead01a9c71a01a9338fa11ad19b7945b16cccd8302db82d22ada510d4b8e937f"), looks := false }, kinds := [], alts := [], laidByText := true, laidKinds := [.data], laidTests := true, laidLooks := .later }
def FnExactCheckBundleCardSaid : Prop := Claim7.holds Tryz.pinned (.plain (OpenSpec.ofChange fnExactCheckBundleSpec)) fnExactCheckBundleCard

/-- THE SECOND FORM's CARD OF 'laws.FnBundles'. -/
def fnBundlesUptoCard : Claim7 := { stood := { row := fnBundlesUptoRow, standIns := [], harness := (true, "ead01a9c71a01a9338fa11ad19b7945b16cccd8302db82d22ada510d4b8e937f"), looks := false }, kinds := [], alts := [], laidByText := true, laidKinds := [.data], laidTests := true, laidLooks := .later }
def FnBundlesUptoCardSaid : Prop := Claim7.holds Tryz.pinned (.plain (OpenSpec.upto fnBundlesSpec)) fnBundlesUptoCard

/-- THE SECOND FORM's CARD OF 'laws.FnExactCheckBundle'. -/
def fnExactCheckBundleUptoCard : Claim7 := { stood := { row := fnExactCheckBundleUptoRow, standIns := [], harness := (true, "ead01a9c71a01a9338fa11ad19b7945b16cccd8302db82d22ada510d4b8e937f"), looks := false }, kinds := [], alts := [], laidByText := true, laidKinds := [.data], laidTests := true, laidLooks := .later }
def FnExactCheckBundleUptoCardSaid : Prop := Claim7.holds Tryz.pinned (.plain (OpenSpec.upto fnExactCheckBundleSpec)) fnExactCheckBundleUptoCard
end Rows
end Go.Proofs.YteammdkipnfmnaaGreatDoor
