/-
  DERIVED. GIVEN WITH THE SEED: THE CARDS: each row of YtdebbgodhpcijaaDoorRows.lean that lists a variable, with what it lists TIED to the program's text (the seventh form; the later family's looks); each row that meets fmt, with fmt's text TOLD by the authors' own Lean function (tested against real Go, not proved from fmt's source: count such statements apart). THE CARD IS WHAT COUNTS. Prove the row's statement (the work); the ties are given (YtdebbgodhpcijaaDoorTie.lean); close each card by the builder's one call (the guide's Derived/Test/ToyasCard.lean, 'card_holds'). Laid BY PROGRAM, IN A SANDBOX (cutbox-door.mjs). By AI agents, Wed Nov 11 2026. No macro, syntax, notation, axiom, sorry.
-/
import Derived.Test.YtdebbgodhpcijaaDoorRows
import GoSem.ClaimSeven
namespace Go.Proofs.YtdebbgodhpcijaaDoor
namespace Rows

/-- THE TIED CARD OF 'laws.FnRoots'. -/
def fnRootsCard : Claim7 := { stood := { row := fnRootsRow, standIns := [], harness := (true, "5cdd0034906363510551842fd72a75f8565cb97764f571c82cbad23a3f3328e0"), looks := false }, kinds := [], alts := [], laidByText := true, laidKinds := [.data], laidTests := true, laidLooks := .later }
def FnRootsCardSaid : Prop := Claim7.holds Tryd.pinned (.plain (OpenSpec.ofChange fnRootsSpec)) fnRootsCard

/-- THE TIED CARD OF 'laws.FnParted'. -/
def fnPartedCard : Claim7 := { stood := { row := fnPartedRow, standIns := [], harness := (true, "5cdd0034906363510551842fd72a75f8565cb97764f571c82cbad23a3f3328e0"), looks := false }, kinds := [], alts := [], laidByText := true, laidKinds := [.data], laidTests := true, laidLooks := .later }
def FnPartedCardSaid : Prop := Claim7.holds Tryd.pinned (.plain (OpenSpec.ofChange fnPartedSpec)) fnPartedCard

/-- THE TIED CARD OF 'laws.FnClashes'. -/
def fnClashesCard : Claim7 := { stood := { row := fnClashesRow, standIns := [], harness := (true, "5cdd0034906363510551842fd72a75f8565cb97764f571c82cbad23a3f3328e0"), looks := false }, kinds := [], alts := [], laidByText := true, laidKinds := [.data], laidTests := true, laidLooks := .later }
def FnClashesCardSaid : Prop := Claim7.holds Tryd.pinned (.plain (OpenSpec.ofChange fnClashesSpec)) fnClashesCard

/-- THE TIED CARD OF 'laws.FnExactIsClash'. -/
def fnExactIsClashCard : Claim7 := { stood := { row := fnExactIsClashRow, standIns := [], harness := (true, "5cdd0034906363510551842fd72a75f8565cb97764f571c82cbad23a3f3328e0"), looks := false }, kinds := [], alts := [], laidByText := true, laidKinds := [.data], laidTests := true, laidLooks := .later }
def FnExactIsClashCardSaid : Prop := Claim7.holds Tryd.pinned (.plain (OpenSpec.ofChange fnExactIsClashSpec)) fnExactIsClashCard

/-- THE TIED CARD OF 'laws.FnExactPartAt'. -/
def fnExactPartAtCard : Claim7 := { stood := { row := fnExactPartAtRow, standIns := [], harness := (true, "5cdd0034906363510551842fd72a75f8565cb97764f571c82cbad23a3f3328e0"), looks := false }, kinds := [], alts := [], laidByText := true, laidKinds := [.data], laidTests := true, laidLooks := .later }
def FnExactPartAtCardSaid : Prop := Claim7.holds Tryd.pinned (.plain (OpenSpec.ofChange fnExactPartAtSpec)) fnExactPartAtCard

/-- THE SECOND FORM's CARD OF 'laws.FnRoots'. -/
def fnRootsUptoCard : Claim7 := { stood := { row := fnRootsUptoRow, standIns := [], harness := (true, "5cdd0034906363510551842fd72a75f8565cb97764f571c82cbad23a3f3328e0"), looks := false }, kinds := [], alts := [], laidByText := true, laidKinds := [.data], laidTests := true, laidLooks := .later }
def FnRootsUptoCardSaid : Prop := Claim7.holds Tryd.pinned (.plain (OpenSpec.upto fnRootsSpec)) fnRootsUptoCard

/-- THE SECOND FORM's CARD OF 'laws.FnParted'. -/
def fnPartedUptoCard : Claim7 := { stood := { row := fnPartedUptoRow, standIns := [], harness := (true, "5cdd0034906363510551842fd72a75f8565cb97764f571c82cbad23a3f3328e0"), looks := false }, kinds := [], alts := [], laidByText := true, laidKinds := [.data], laidTests := true, laidLooks := .later }
def FnPartedUptoCardSaid : Prop := Claim7.holds Tryd.pinned (.plain (OpenSpec.upto fnPartedSpec)) fnPartedUptoCard

/-- THE SECOND FORM's CARD OF 'laws.FnClashes'. -/
def fnClashesUptoCard : Claim7 := { stood := { row := fnClashesUptoRow, standIns := [], harness := (true, "5cdd0034906363510551842fd72a75f8565cb97764f571c82cbad23a3f3328e0"), looks := false }, kinds := [], alts := [], laidByText := true, laidKinds := [.data], laidTests := true, laidLooks := .later }
def FnClashesUptoCardSaid : Prop := Claim7.holds Tryd.pinned (.plain (OpenSpec.upto fnClashesSpec)) fnClashesUptoCard

/-- THE SECOND FORM's CARD OF 'laws.FnExactIsClash'. -/
def fnExactIsClashUptoCard : Claim7 := { stood := { row := fnExactIsClashUptoRow, standIns := [], harness := (true, "5cdd0034906363510551842fd72a75f8565cb97764f571c82cbad23a3f3328e0"), looks := false }, kinds := [], alts := [], laidByText := true, laidKinds := [.data], laidTests := true, laidLooks := .later }
def FnExactIsClashUptoCardSaid : Prop := Claim7.holds Tryd.pinned (.plain (OpenSpec.upto fnExactIsClashSpec)) fnExactIsClashUptoCard

/-- THE SECOND FORM's CARD OF 'laws.FnExactPartAt'. -/
def fnExactPartAtUptoCard : Claim7 := { stood := { row := fnExactPartAtUptoRow, standIns := [], harness := (true, "5cdd0034906363510551842fd72a75f8565cb97764f571c82cbad23a3f3328e0"), looks := false }, kinds := [], alts := [], laidByText := true, laidKinds := [.data], laidTests := true, laidLooks := .later }
def FnExactPartAtUptoCardSaid : Prop := Claim7.holds Tryd.pinned (.plain (OpenSpec.upto fnExactPartAtSpec)) fnExactPartAtUptoCard
end Rows
end Go.Proofs.YtdebbgodhpcijaaDoor
