/-
  DERIVED. GIVEN WITH THE SEED: THE CARDS: each row of YtooiinicnkhlbaaDoorRows.lean that lists a variable, with what it lists TIED to the program's text (the seventh form; the later family's looks); each row that meets fmt, with fmt's text TOLD by the authors' own Lean function (tested against real Go, not proved from fmt's source: count such statements apart). THE CARD IS WHAT COUNTS. Prove the row's statement (the work); the ties are given (YtooiinicnkhlbaaDoorTie.lean); close each card by the builder's one call (the guide's Derived/Test/ToyasCard.lean, 'card_holds'). Laid BY PROGRAM, IN A SANDBOX (cutbox-door.mjs). By AI agents, Wed Nov 11 2026. No macro, syntax, notation, axiom, sorry.
-/
import Derived.Test.YtooiinicnkhlbaaDoorRows
import GoSem.ClaimSeven
namespace Go.Proofs.YtooiinicnkhlbaaDoor
namespace Rows

/-- THE TIED CARD OF 'laws.FnRecs'. -/
def fnRecsCard : Claim7 := { stood := { row := fnRecsRow, standIns := [], harness := (true, "676bdcf6d508b3309f940b283a0f0a096954b855a10cf9cb5f22109115c04267"), looks := true }, kinds := [], alts := [], laidByText := true, laidKinds := [.handle, .data], laidTests := true, laidLooks := .later }
def FnRecsCardSaid : Prop := Claim7.holds Tryd.pinned (.plain (OpenSpec.ofChange fnRecsSpec)) fnRecsCard

/-- THE TIED CARD OF 'laws.FnRecsRead'. -/
def fnRecsReadCard : Claim7 := { stood := { row := fnRecsReadRow, standIns := [], harness := (true, "676bdcf6d508b3309f940b283a0f0a096954b855a10cf9cb5f22109115c04267"), looks := true }, kinds := [], alts := [], laidByText := true, laidKinds := [.handle, .data], laidTests := true, laidLooks := .later }
def FnRecsReadCardSaid : Prop := Claim7.holds Tryd.pinned (.plain (OpenSpec.ofChange fnRecsReadSpec)) fnRecsReadCard

/-- THE TIED CARD OF 'laws.FnScanned'. -/
def fnScannedCard : Claim7 := { stood := { row := fnScannedRow, standIns := [], harness := (true, "676bdcf6d508b3309f940b283a0f0a096954b855a10cf9cb5f22109115c04267"), looks := true }, kinds := [], alts := [], laidByText := true, laidKinds := [.handle, .data], laidTests := true, laidLooks := .later }
def FnScannedCardSaid : Prop := Claim7.holds Tryd.pinned (.plain (OpenSpec.ofChange fnScannedSpec)) fnScannedCard

/-- THE TIED CARD OF 'laws.FnFlipped'. -/
def fnFlippedCard : Claim7 := { stood := { row := fnFlippedRow, standIns := [], harness := (true, "676bdcf6d508b3309f940b283a0f0a096954b855a10cf9cb5f22109115c04267"), looks := true }, kinds := [], alts := [], laidByText := true, laidKinds := [.handle, .data], laidTests := true, laidLooks := .later }
def FnFlippedCardSaid : Prop := Claim7.holds Tryd.pinned (.plain (OpenSpec.ofChange fnFlippedSpec)) fnFlippedCard

/-- THE TIED CARD OF 'laws.FnExactPutRec'. -/
def fnExactPutRecCard : Claim7 := { stood := { row := fnExactPutRecRow, standIns := [], harness := (true, "676bdcf6d508b3309f940b283a0f0a096954b855a10cf9cb5f22109115c04267"), looks := true }, kinds := [], alts := [], laidByText := true, laidKinds := [.data], laidTests := true, laidLooks := .later }
def FnExactPutRecCardSaid : Prop := Claim7.holds Tryd.pinned (.plain (OpenSpec.ofChange fnExactPutRecSpec)) fnExactPutRecCard

/-- THE TIED CARD OF 'laws.FnExactGetRec'. -/
def fnExactGetRecCard : Claim7 := { stood := { row := fnExactGetRecRow, standIns := [], harness := (true, "676bdcf6d508b3309f940b283a0f0a096954b855a10cf9cb5f22109115c04267"), looks := true }, kinds := [], alts := [], laidByText := true, laidKinds := [.handle, .data], laidTests := true, laidLooks := .later }
def FnExactGetRecCardSaid : Prop := Claim7.holds Tryd.pinned (.plain (OpenSpec.ofChange fnExactGetRecSpec)) fnExactGetRecCard

/-- THE TIED CARD OF 'laws.FnExactReadRecs'. -/
def fnExactReadRecsCard : Claim7 := { stood := { row := fnExactReadRecsRow, standIns := [], harness := (true, "676bdcf6d508b3309f940b283a0f0a096954b855a10cf9cb5f22109115c04267"), looks := true }, kinds := [], alts := [], laidByText := true, laidKinds := [.handle, .data], laidTests := true, laidLooks := .later }
def FnExactReadRecsCardSaid : Prop := Claim7.holds Tryd.pinned (.plain (OpenSpec.ofChange fnExactReadRecsSpec)) fnExactReadRecsCard

/-- THE SECOND FORM's CARD OF 'laws.FnRecs'. -/
def fnRecsUptoCard : Claim7 := { stood := { row := fnRecsUptoRow, standIns := [], harness := (true, "676bdcf6d508b3309f940b283a0f0a096954b855a10cf9cb5f22109115c04267"), looks := true }, kinds := [], alts := [], laidByText := true, laidKinds := [.handle, .data], laidTests := true, laidLooks := .later }
def FnRecsUptoCardSaid : Prop := Claim7.holds Tryd.pinned (.plain (OpenSpec.upto fnRecsSpec)) fnRecsUptoCard

/-- THE SECOND FORM's CARD OF 'laws.FnRecsRead'. -/
def fnRecsReadUptoCard : Claim7 := { stood := { row := fnRecsReadUptoRow, standIns := [], harness := (true, "676bdcf6d508b3309f940b283a0f0a096954b855a10cf9cb5f22109115c04267"), looks := true }, kinds := [], alts := [], laidByText := true, laidKinds := [.handle, .data], laidTests := true, laidLooks := .later }
def FnRecsReadUptoCardSaid : Prop := Claim7.holds Tryd.pinned (.plain (OpenSpec.upto fnRecsReadSpec)) fnRecsReadUptoCard

/-- THE SECOND FORM's CARD OF 'laws.FnScanned'. -/
def fnScannedUptoCard : Claim7 := { stood := { row := fnScannedUptoRow, standIns := [], harness := (true, "676bdcf6d508b3309f940b283a0f0a096954b855a10cf9cb5f22109115c04267"), looks := true }, kinds := [], alts := [], laidByText := true, laidKinds := [.handle, .data], laidTests := true, laidLooks := .later }
def FnScannedUptoCardSaid : Prop := Claim7.holds Tryd.pinned (.plain (OpenSpec.upto fnScannedSpec)) fnScannedUptoCard

/-- THE SECOND FORM's CARD OF 'laws.FnFlipped'. -/
def fnFlippedUptoCard : Claim7 := { stood := { row := fnFlippedUptoRow, standIns := [], harness := (true, "676bdcf6d508b3309f940b283a0f0a096954b855a10cf9cb5f22109115c04267"), looks := true }, kinds := [], alts := [], laidByText := true, laidKinds := [.handle, .data], laidTests := true, laidLooks := .later }
def FnFlippedUptoCardSaid : Prop := Claim7.holds Tryd.pinned (.plain (OpenSpec.upto fnFlippedSpec)) fnFlippedUptoCard

/-- THE SECOND FORM's CARD OF 'laws.FnExactPutRec'. -/
def fnExactPutRecUptoCard : Claim7 := { stood := { row := fnExactPutRecUptoRow, standIns := [], harness := (true, "676bdcf6d508b3309f940b283a0f0a096954b855a10cf9cb5f22109115c04267"), looks := true }, kinds := [], alts := [], laidByText := true, laidKinds := [.data], laidTests := true, laidLooks := .later }
def FnExactPutRecUptoCardSaid : Prop := Claim7.holds Tryd.pinned (.plain (OpenSpec.upto fnExactPutRecSpec)) fnExactPutRecUptoCard

/-- THE SECOND FORM's CARD OF 'laws.FnExactGetRec'. -/
def fnExactGetRecUptoCard : Claim7 := { stood := { row := fnExactGetRecUptoRow, standIns := [], harness := (true, "676bdcf6d508b3309f940b283a0f0a096954b855a10cf9cb5f22109115c04267"), looks := true }, kinds := [], alts := [], laidByText := true, laidKinds := [.handle, .data], laidTests := true, laidLooks := .later }
def FnExactGetRecUptoCardSaid : Prop := Claim7.holds Tryd.pinned (.plain (OpenSpec.upto fnExactGetRecSpec)) fnExactGetRecUptoCard

/-- THE SECOND FORM's CARD OF 'laws.FnExactReadRecs'. -/
def fnExactReadRecsUptoCard : Claim7 := { stood := { row := fnExactReadRecsUptoRow, standIns := [], harness := (true, "676bdcf6d508b3309f940b283a0f0a096954b855a10cf9cb5f22109115c04267"), looks := true }, kinds := [], alts := [], laidByText := true, laidKinds := [.handle, .data], laidTests := true, laidLooks := .later }
def FnExactReadRecsUptoCardSaid : Prop := Claim7.holds Tryd.pinned (.plain (OpenSpec.upto fnExactReadRecsSpec)) fnExactReadRecsUptoCard
end Rows
end Go.Proofs.YtooiinicnkhlbaaDoor
