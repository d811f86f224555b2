/-
  DERIVED. GIVEN WITH THE SEED: THE CARDS: each row of YtddolmklnifnmaaDoorRows.lean that lists a variable, with what it lists TIED to the program's text (the seventh form; the later family's looks); each row that meets fmt, with fmt's text TOLD by the authors' own Lean function (tested against real Go, not proved from fmt's source: count such statements apart). THE CARD IS WHAT COUNTS. Prove the row's statement (the work); the ties are given (YtddolmklnifnmaaDoorTie.lean); close each card by the builder's one call (the guide's Derived/Test/ToyasCard.lean, 'card_holds'). Laid BY PROGRAM, IN A SANDBOX (cutbox-door.mjs). By AI agents, Wed Nov 11 2026. No macro, syntax, notation, axiom, sorry.
-/
import Derived.Test.YtddolmklnifnmaaDoorRows
import GoSem.ClaimSeven
namespace Go.Proofs.YtddolmklnifnmaaDoor
namespace Rows

/-- THE TIED CARD OF 'laws.FnOutcomes'. -/
def fnOutcomesCard : Claim7 := { stood := { row := fnOutcomesRow, standIns := [], harness := (true, "77d0216db22305f7b9e221ebaa707284b838b1560c25aac78e004913c1ba4e6b"), looks := true }, kinds := [], alts := [], laidByText := true, laidKinds := [.sentinel, .sentinel, .sentinel, .sentinel, .sentinel], laidTests := true, laidLooks := .later }
def FnOutcomesCardSaid : Prop := Claim7.holds Tryd.pinned (.plain (OpenSpec.ofChange fnOutcomesSpec)) fnOutcomesCard

/-- THE TIED CARD OF 'laws.FnExactOutcome'. -/
def fnExactOutcomeCard : Claim7 := { stood := { row := fnExactOutcomeRow, standIns := [], harness := (true, "77d0216db22305f7b9e221ebaa707284b838b1560c25aac78e004913c1ba4e6b"), looks := true }, kinds := [], alts := [], laidByText := true, laidKinds := [.sentinel, .sentinel, .sentinel, .sentinel, .sentinel], laidTests := true, laidLooks := .later }
def FnExactOutcomeCardSaid : Prop := Claim7.holds Tryd.pinned (.plain (OpenSpec.ofChange fnExactOutcomeSpec)) fnExactOutcomeCard

/-- THE SECOND FORM's CARD OF 'laws.FnOutcomes'. -/
def fnOutcomesUptoCard : Claim7 := { stood := { row := fnOutcomesUptoRow, standIns := [], harness := (true, "77d0216db22305f7b9e221ebaa707284b838b1560c25aac78e004913c1ba4e6b"), looks := true }, kinds := [], alts := [], laidByText := true, laidKinds := [.sentinel, .sentinel, .sentinel, .sentinel, .sentinel], laidTests := true, laidLooks := .later }
def FnOutcomesUptoCardSaid : Prop := Claim7.holds Tryd.pinned (.plain (OpenSpec.upto fnOutcomesSpec)) fnOutcomesUptoCard

/-- THE SECOND FORM's CARD OF 'laws.FnExactOutcome'. -/
def fnExactOutcomeUptoCard : Claim7 := { stood := { row := fnExactOutcomeUptoRow, standIns := [], harness := (true, "77d0216db22305f7b9e221ebaa707284b838b1560c25aac78e004913c1ba4e6b"), looks := true }, kinds := [], alts := [], laidByText := true, laidKinds := [.sentinel, .sentinel, .sentinel, .sentinel, .sentinel], laidTests := true, laidLooks := .later }
def FnExactOutcomeUptoCardSaid : Prop := Claim7.holds Tryd.pinned (.plain (OpenSpec.upto fnExactOutcomeSpec)) fnExactOutcomeUptoCard
end Rows
end Go.Proofs.YtddolmklnifnmaaDoor
