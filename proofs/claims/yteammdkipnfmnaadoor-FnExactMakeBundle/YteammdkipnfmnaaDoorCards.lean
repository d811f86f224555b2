/-
  DERIVED. GIVEN WITH THE SEED: THE CARDS: each row of YteammdkipnfmnaaDoorRows.lean that lists a variable, with what it lists TIED to the program's text (the seventh form; the later family's looks); each row that meets fmt, with fmt's text TOLD by the authors' own Lean function (tested against real Go, not proved from fmt's source: count such statements apart). THE CARD IS WHAT COUNTS. Prove the row's statement (the work); the ties are given (YteammdkipnfmnaaDoorTie.lean); close each card by the builder's one call (the guide's Derived/Test/ToyasCard.lean, 'card_holds'). Laid BY PROGRAM, IN A SANDBOX (cutbox-door.mjs). By AI agents, Wed Nov 11 2026. No macro, syntax, notation, axiom, sorry.
-/
import Derived.Test.YteammdkipnfmnaaDoorRows
import GoSem.ClaimSeven
namespace Go.Proofs.YteammdkipnfmnaaDoor
namespace Rows

/-- THE TIED CARD OF 'laws.FnExactMakeBundle'. -/
def fnExactMakeBundleCard : Claim7 := { stood := { row := fnExactMakeBundleRow, standIns := [], harness := (true, "6c2849cc188782100fbd527150505ea573123aac354f3f542b9785598062b836"), looks := false }, kinds := [], alts := [], laidByText := true, laidKinds := [.data], laidTests := true, laidLooks := .later }
def FnExactMakeBundleCardSaid : Prop := Claim7.holds Tryd.pinned (.plain (OpenSpec.ofChange fnExactMakeBundleSpec)) fnExactMakeBundleCard

/-- THE SECOND FORM's CARD OF 'laws.FnExactMakeBundle'. -/
def fnExactMakeBundleUptoCard : Claim7 := { stood := { row := fnExactMakeBundleUptoRow, standIns := [], harness := (true, "6c2849cc188782100fbd527150505ea573123aac354f3f542b9785598062b836"), looks := false }, kinds := [], alts := [], laidByText := true, laidKinds := [.data], laidTests := true, laidLooks := .later }
def FnExactMakeBundleUptoCardSaid : Prop := Claim7.holds Tryd.pinned (.plain (OpenSpec.upto fnExactMakeBundleSpec)) fnExactMakeBundleUptoCard
end Rows
end Go.Proofs.YteammdkipnfmnaaDoor
