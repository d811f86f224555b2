/-
  NARROWER THAN 'FOR EVERY INPUT', by the rows' own cells (each row's printed sentence says how): FnHeld: ifaces, laid · FnDecided: ifaces, laid · FnExactHold: ifaces, laid · FnExactDecide: ifaces, laid.
  DERIVED. THE GIVEN ROWS OF THIS SEAT. 4 by the template 'for every input the law returns true; each argument reads behind the call as it read before'; 0 by the template 'total and deterministic' (their statements: YteniflajiklffaaGreatDoorTotals.lean).
  GIVEN WITH THE SEED: the statements are not yours to turn. If you find one false, say at which input.
  Laid BY PROGRAM, IN A SANDBOX (cutbox-rows.mjs): the forced cells as the released guide's own fill.sh prints them over the translation 87cc0a5ee5cf19df… (all of the seat's roots in one cut). By AI agents, Wed Nov 11 2026. No macro, syntax, notation, axiom, sorry.
-/
import Derived.Test.YteniflajiklffaaGreatDoorChecked
import GoSem.Claim
import GoSem.ClaimJoined
import GoSem.ClaimMapViews
import Derived.JoinedTies
import Derived.KernelRfl
namespace Go.Proofs.YteniflajiklffaaGreatDoor
/- THE CELL 'sum', in the pinned program and in every row, IS THE sha256 OF THE DUMP (.gsa) THAT YteniflajiklffaaGreatDoorProg.lean LOADS. Nothing in Lean hashes anything: it is a label: what it is worth is what the hold of that sum in a sandbox is worth. -/
noncomputable def Tryz.pinned : Pinned := { name := "yteniflajiklffaagreatdoor", sum := "87cc0a5ee5cf19df19ff9c1f321917c02a9920ef535ba5be82facbe5fd7dd623", checked := Tryz.checked }
namespace Rows
def none {H : Type} : Left H := { results := [], args := [] }

/- WHAT THE LISTED PACKAGE-LEVEL VARIABLES READ AS WHEN THE CALL BEGINS. Each datum BY PROGRAM (the guide's laid-datum.mjs) off the statement by which the dump's own 'gosem.cut.vars' lays the variable. In a bare row this is a premise. The card (YteniflajiklffaaGreatDoorCards.lean) ties it to the program's text. -/
def laid_loop_example_g00244_impl_errForm {H : Type} : DataW H := .iface "*errors.errorString" (.ptr (.agg [.lit (.string [110, 111, 116, 32, 97, 115, 32, 105, 116, 32, 109, 117, 115, 116, 32, 98, 101])]))
def laid_loop_example_g00244_impl_errHeld {H : Type} : DataW H := .iface "*errors.errorString" (.ptr (.agg [.lit (.string [104, 101, 108, 100, 32, 97, 108, 114, 101, 97, 100, 121])]))
def laid_loop_example_g00244_impl_errDone {H : Type} : DataW H := .iface "*errors.errorString" (.ptr (.agg [.lit (.string [100, 111, 110, 101, 32, 97, 108, 114, 101, 97, 100, 121])]))
def laid_loop_example_g00244_impl_errGone {H : Type} : DataW H := .iface "*errors.errorString" (.ptr (.agg [.lit (.string [103, 111, 110, 101, 32, 97, 108, 114, 101, 97, 100, 121])]))
def laid_loop_example_g00244_impl_errNone {H : Type} : DataW H := .iface "*errors.errorString" (.ptr (.agg [.lit (.string [110, 111, 32, 114, 101, 99, 111, 114, 100, 32, 104, 97, 115, 32, 105, 116])]))
def laid_loop_example_g00244_impl_errRoom {H : Type} : DataW H := .iface "*errors.errorString" (.ptr (.agg [.lit (.string [110, 111, 32, 114, 111, 111, 109, 32, 102, 111, 114, 32, 105, 116])]))
def laid_loop_example_g00244_impl_errFit {H : Type} : DataW H := .iface "*errors.errorString" (.ptr (.agg [.lit (.string [105, 116, 115, 32, 114, 101, 99, 111, 114, 100, 32, 100, 111, 101, 115, 32, 110, 111, 116, 32, 102, 105, 116, 32, 98, 101, 104, 105, 110, 100, 32, 116, 104, 101, 32, 111, 116, 104, 101, 114, 115])]))

/-- 'laws.FnHeld': WHATEVER THE INPUT: true; the input reads as it did. -/
def fnHeldSpec : ChangeSpec := { name := "fnHeld", vars := ["loop.example/g00244/impl.errNone", "loop.example/g00244/impl.errRoom", "loop.example/g00244/impl.errFit", "loop.example/g00244/impl.errHeld", "loop.example/g00244/impl.errDone", "loop.example/g00244/impl.errGone", "loop.example/g00244/impl.errForm"], fn := fun _ => fun
  | [d, g1, g2, g3, g4, g5, g6, g7] => { results := [.lit (.bool true)], args := [d], vars := [g1, g2, g3, g4, g5, g6, g7] }
  | _ => none }
def fnHeldRow : OpenClaim := { program := "yteniflajiklffaagreatdoor", sum := "87cc0a5ee5cf19df19ff9c1f321917c02a9920ef535ba5be82facbe5fd7dd623", func := "loop.example/g00244/laws.FnHeld", spec := "fnHeld", inPlace := ["internal/reflectlite.TypeOf"], unfollowed := true, recurses := true, named := ["loop.example/g00244/impl.errNone", "loop.example/g00244/impl.errRoom", "loop.example/g00244/impl.errFit", "loop.example/g00244/impl.errHeld", "loop.example/g00244/impl.errDone", "loop.example/g00244/impl.errGone", "loop.example/g00244/impl.errForm"], ifaces := true, apart := false, laid := [("loop.example/g00244/impl.errForm", laid_loop_example_g00244_impl_errForm), ("loop.example/g00244/impl.errHeld", laid_loop_example_g00244_impl_errHeld), ("loop.example/g00244/impl.errDone", laid_loop_example_g00244_impl_errDone), ("loop.example/g00244/impl.errGone", laid_loop_example_g00244_impl_errGone), ("loop.example/g00244/impl.errNone", laid_loop_example_g00244_impl_errNone), ("loop.example/g00244/impl.errRoom", laid_loop_example_g00244_impl_errRoom), ("loop.example/g00244/impl.errFit", laid_loop_example_g00244_impl_errFit)] }
def FnHeldSaid : Prop := fnHeldRow.holds Tryz.pinned (OpenSpec.ofChange fnHeldSpec)

/-- ITS FALSE NEIGHBOUR: 'it returns false'. Refute it at one input. -/
def fnHeldWrong : ChangeSpec := { name := "fnHeld", vars := ["loop.example/g00244/impl.errNone", "loop.example/g00244/impl.errRoom", "loop.example/g00244/impl.errFit", "loop.example/g00244/impl.errHeld", "loop.example/g00244/impl.errDone", "loop.example/g00244/impl.errGone", "loop.example/g00244/impl.errForm"], fn := fun _ => fun
  | [d, g1, g2, g3, g4, g5, g6, g7] => { results := [.lit (.bool false)], args := [d], vars := [g1, g2, g3, g4, g5, g6, g7] }
  | _ => none }
def FnHeldWrongFalsely : Prop := fnHeldRow.holds Tryz.pinned (OpenSpec.ofChange fnHeldWrong)

/-- 'laws.FnDecided': WHATEVER THE INPUT: true; the input reads as it did. -/
def fnDecidedSpec : ChangeSpec := { name := "fnDecided", vars := ["loop.example/g00244/impl.errDone", "loop.example/g00244/impl.errGone", "loop.example/g00244/impl.errHeld", "loop.example/g00244/impl.errNone", "loop.example/g00244/impl.errForm", "loop.example/g00244/impl.errRoom"], fn := fun _ => fun
  | [d, g1, g2, g3, g4, g5, g6] => { results := [.lit (.bool true)], args := [d], vars := [g1, g2, g3, g4, g5, g6] }
  | _ => none }
def fnDecidedRow : OpenClaim := { program := "yteniflajiklffaagreatdoor", sum := "87cc0a5ee5cf19df19ff9c1f321917c02a9920ef535ba5be82facbe5fd7dd623", func := "loop.example/g00244/laws.FnDecided", spec := "fnDecided", inPlace := ["internal/reflectlite.TypeOf"], unfollowed := true, recurses := true, named := ["loop.example/g00244/impl.errDone", "loop.example/g00244/impl.errGone", "loop.example/g00244/impl.errHeld", "loop.example/g00244/impl.errNone", "loop.example/g00244/impl.errForm", "loop.example/g00244/impl.errRoom"], ifaces := true, apart := false, laid := [("loop.example/g00244/impl.errForm", laid_loop_example_g00244_impl_errForm), ("loop.example/g00244/impl.errHeld", laid_loop_example_g00244_impl_errHeld), ("loop.example/g00244/impl.errDone", laid_loop_example_g00244_impl_errDone), ("loop.example/g00244/impl.errGone", laid_loop_example_g00244_impl_errGone), ("loop.example/g00244/impl.errNone", laid_loop_example_g00244_impl_errNone), ("loop.example/g00244/impl.errRoom", laid_loop_example_g00244_impl_errRoom)] }
def FnDecidedSaid : Prop := fnDecidedRow.holds Tryz.pinned (OpenSpec.ofChange fnDecidedSpec)

/-- ITS FALSE NEIGHBOUR: 'it returns false'. Refute it at one input. -/
def fnDecidedWrong : ChangeSpec := { name := "fnDecided", vars := ["loop.example/g00244/impl.errDone", "loop.example/g00244/impl.errGone", "loop.example/g00244/impl.errHeld", "loop.example/g00244/impl.errNone", "loop.example/g00244/impl.errForm", "loop.example/g00244/impl.errRoom"], fn := fun _ => fun
  | [d, g1, g2, g3, g4, g5, g6] => { results := [.lit (.bool false)], args := [d], vars := [g1, g2, g3, g4, g5, g6] }
  | _ => none }
def FnDecidedWrongFalsely : Prop := fnDecidedRow.holds Tryz.pinned (OpenSpec.ofChange fnDecidedWrong)

/-- 'laws.FnExactHold': WHATEVER THE INPUT: true; the input reads as it did. -/
def fnExactHoldSpec : ChangeSpec := { name := "fnExactHold", vars := ["loop.example/g00244/impl.errNone", "loop.example/g00244/impl.errRoom", "loop.example/g00244/impl.errFit", "loop.example/g00244/impl.errHeld", "loop.example/g00244/impl.errDone", "loop.example/g00244/impl.errGone", "loop.example/g00244/impl.errForm"], fn := fun _ => fun
  | [d1, d2, d3, g1, g2, g3, g4, g5, g6, g7] => { results := [.lit (.bool true)], args := [d1, d2, d3], vars := [g1, g2, g3, g4, g5, g6, g7] }
  | _ => none }
def fnExactHoldRow : OpenClaim := { program := "yteniflajiklffaagreatdoor", sum := "87cc0a5ee5cf19df19ff9c1f321917c02a9920ef535ba5be82facbe5fd7dd623", func := "loop.example/g00244/laws.FnExactHold", spec := "fnExactHold", inPlace := ["internal/reflectlite.TypeOf"], unfollowed := true, recurses := true, named := ["loop.example/g00244/impl.errNone", "loop.example/g00244/impl.errRoom", "loop.example/g00244/impl.errFit", "loop.example/g00244/impl.errHeld", "loop.example/g00244/impl.errDone", "loop.example/g00244/impl.errGone", "loop.example/g00244/impl.errForm"], ifaces := true, apart := false, laid := [("loop.example/g00244/impl.errForm", laid_loop_example_g00244_impl_errForm), ("loop.example/g00244/impl.errHeld", laid_loop_example_g00244_impl_errHeld), ("loop.example/g00244/impl.errDone", laid_loop_example_g00244_impl_errDone), ("loop.example/g00244/impl.errGone", laid_loop_example_g00244_impl_errGone), ("loop.example/g00244/impl.errNone", laid_loop_example_g00244_impl_errNone), ("loop.example/g00244/impl.errRoom", laid_loop_example_g00244_impl_errRoom), ("loop.example/g00244/impl.errFit", laid_loop_example_g00244_impl_errFit)] }
def FnExactHoldSaid : Prop := fnExactHoldRow.holds Tryz.pinned (OpenSpec.ofChange fnExactHoldSpec)

/-- ITS FALSE NEIGHBOUR: 'it returns false'. Refute it at one input. -/
def fnExactHoldWrong : ChangeSpec := { name := "fnExactHold", vars := ["loop.example/g00244/impl.errNone", "loop.example/g00244/impl.errRoom", "loop.example/g00244/impl.errFit", "loop.example/g00244/impl.errHeld", "loop.example/g00244/impl.errDone", "loop.example/g00244/impl.errGone", "loop.example/g00244/impl.errForm"], fn := fun _ => fun
  | [d1, d2, d3, g1, g2, g3, g4, g5, g6, g7] => { results := [.lit (.bool false)], args := [d1, d2, d3], vars := [g1, g2, g3, g4, g5, g6, g7] }
  | _ => none }
def FnExactHoldWrongFalsely : Prop := fnExactHoldRow.holds Tryz.pinned (OpenSpec.ofChange fnExactHoldWrong)

/-- 'laws.FnExactDecide': WHATEVER THE INPUT: true; the input reads as it did. -/
def fnExactDecideSpec : ChangeSpec := { name := "fnExactDecide", vars := ["loop.example/g00244/impl.errDone", "loop.example/g00244/impl.errGone", "loop.example/g00244/impl.errHeld", "loop.example/g00244/impl.errNone", "loop.example/g00244/impl.errForm", "loop.example/g00244/impl.errRoom"], fn := fun _ => fun
  | [d1, d2, d3, g1, g2, g3, g4, g5, g6] => { results := [.lit (.bool true)], args := [d1, d2, d3], vars := [g1, g2, g3, g4, g5, g6] }
  | _ => none }
def fnExactDecideRow : OpenClaim := { program := "yteniflajiklffaagreatdoor", sum := "87cc0a5ee5cf19df19ff9c1f321917c02a9920ef535ba5be82facbe5fd7dd623", func := "loop.example/g00244/laws.FnExactDecide", spec := "fnExactDecide", inPlace := ["internal/reflectlite.TypeOf"], unfollowed := true, recurses := true, named := ["loop.example/g00244/impl.errDone", "loop.example/g00244/impl.errGone", "loop.example/g00244/impl.errHeld", "loop.example/g00244/impl.errNone", "loop.example/g00244/impl.errForm", "loop.example/g00244/impl.errRoom"], ifaces := true, apart := false, laid := [("loop.example/g00244/impl.errForm", laid_loop_example_g00244_impl_errForm), ("loop.example/g00244/impl.errHeld", laid_loop_example_g00244_impl_errHeld), ("loop.example/g00244/impl.errDone", laid_loop_example_g00244_impl_errDone), ("loop.example/g00244/impl.errGone", laid_loop_example_g00244_impl_errGone), ("loop.example/g00244/impl.errNone", laid_loop_example_g00244_impl_errNone), ("loop.example/g00244/impl.errRoom", laid_loop_example_g00244_impl_errRoom)] }
def FnExactDecideSaid : Prop := fnExactDecideRow.holds Tryz.pinned (OpenSpec.ofChange fnExactDecideSpec)

/-- ITS FALSE NEIGHBOUR: 'it returns false'. Refute it at one input. -/
def fnExactDecideWrong : ChangeSpec := { name := "fnExactDecide", vars := ["loop.example/g00244/impl.errDone", "loop.example/g00244/impl.errGone", "loop.example/g00244/impl.errHeld", "loop.example/g00244/impl.errNone", "loop.example/g00244/impl.errForm", "loop.example/g00244/impl.errRoom"], fn := fun _ => fun
  | [d1, d2, d3, g1, g2, g3, g4, g5, g6] => { results := [.lit (.bool false)], args := [d1, d2, d3], vars := [g1, g2, g3, g4, g5, g6] }
  | _ => none }
def FnExactDecideWrongFalsely : Prop := fnExactDecideRow.holds Tryz.pinned (OpenSpec.ofChange fnExactDecideWrong)

/- THE SECOND FORM. 'bulk': how many values and letters a reading holds, each counted each time it is reached (what is shared counts as often as it is met; a slice's spare places count too). A statement '..UptoSaid' is the law's where the arguments, and the package variables that the reading takes, are together of bulk at most 1048576: NARROWER than '..Said'. Prove '..Said' where nothing that the law and all that it calls make is longer than what came in: it says more and counts as full. Else prove '..UptoSaid'. A law counts once. -/
mutual
def uptoBulk {H : Type} : DataW H → Nat
  | .lit (.string bytes) => bytes.length + 1
  | .lit _ => 1
  | .nil => 1
  | .ptr d => uptoBulk d + 1
  | .slice elems spare => uptoBulkAll elems + uptoBulkAll spare + 1
  | .agg parts => uptoBulkAll parts + 1
  | .iface _ d => uptoBulk d + 1
  | .map entries => uptoBulkEntries entries + 1
  | .held _ => 1
def uptoBulkAll {H : Type} : List (DataW H) → Nat
  | [] => 0
  | d :: r => uptoBulk d + uptoBulkAll r
def uptoBulkEntries {H : Type} : List (Lit × DataW H) → Nat
  | [] => 0
  | x :: r => uptoBulkEntry x + uptoBulkEntries r
def uptoBulkEntry {H : Type} : Lit × DataW H → Nat
  | (.string bytes, d) => bytes.length + uptoBulk d + 1
  | (_, d) => uptoBulk d + 1
 end
def uptoSmall : (H : Type) → List (DataW H) → Bool := fun _ ds => decide (uptoBulkAll ds ≤ 1048576)
def OpenSpec.upto (s : _root_.Go.ChangeSpec) : _root_.Go.OpenSpec := { _root_.Go.OpenSpec.ofChange s with cond := some uptoSmall }

/-- 'laws.FnHeld', WHERE WHAT IT READS IS OF BULK AT MOST 1048576: true; the input reads as it did. -/
def fnHeldUptoRow : OpenClaim := { program := "yteniflajiklffaagreatdoor", sum := "87cc0a5ee5cf19df19ff9c1f321917c02a9920ef535ba5be82facbe5fd7dd623", func := "loop.example/g00244/laws.FnHeld", spec := "fnHeld", inPlace := ["internal/reflectlite.TypeOf"], unfollowed := true, recurses := true, named := ["loop.example/g00244/impl.errNone", "loop.example/g00244/impl.errRoom", "loop.example/g00244/impl.errFit", "loop.example/g00244/impl.errHeld", "loop.example/g00244/impl.errDone", "loop.example/g00244/impl.errGone", "loop.example/g00244/impl.errForm"], ifaces := true, apart := false, laid := [("loop.example/g00244/impl.errForm", laid_loop_example_g00244_impl_errForm), ("loop.example/g00244/impl.errHeld", laid_loop_example_g00244_impl_errHeld), ("loop.example/g00244/impl.errDone", laid_loop_example_g00244_impl_errDone), ("loop.example/g00244/impl.errGone", laid_loop_example_g00244_impl_errGone), ("loop.example/g00244/impl.errNone", laid_loop_example_g00244_impl_errNone), ("loop.example/g00244/impl.errRoom", laid_loop_example_g00244_impl_errRoom), ("loop.example/g00244/impl.errFit", laid_loop_example_g00244_impl_errFit)], narrowed := true }
def FnHeldUptoSaid : Prop := fnHeldUptoRow.holds Tryz.pinned (OpenSpec.upto fnHeldSpec)

/-- 'laws.FnDecided', WHERE WHAT IT READS IS OF BULK AT MOST 1048576: true; the input reads as it did. -/
def fnDecidedUptoRow : OpenClaim := { program := "yteniflajiklffaagreatdoor", sum := "87cc0a5ee5cf19df19ff9c1f321917c02a9920ef535ba5be82facbe5fd7dd623", func := "loop.example/g00244/laws.FnDecided", spec := "fnDecided", inPlace := ["internal/reflectlite.TypeOf"], unfollowed := true, recurses := true, named := ["loop.example/g00244/impl.errDone", "loop.example/g00244/impl.errGone", "loop.example/g00244/impl.errHeld", "loop.example/g00244/impl.errNone", "loop.example/g00244/impl.errForm", "loop.example/g00244/impl.errRoom"], ifaces := true, apart := false, laid := [("loop.example/g00244/impl.errForm", laid_loop_example_g00244_impl_errForm), ("loop.example/g00244/impl.errHeld", laid_loop_example_g00244_impl_errHeld), ("loop.example/g00244/impl.errDone", laid_loop_example_g00244_impl_errDone), ("loop.example/g00244/impl.errGone", laid_loop_example_g00244_impl_errGone), ("loop.example/g00244/impl.errNone", laid_loop_example_g00244_impl_errNone), ("loop.example/g00244/impl.errRoom", laid_loop_example_g00244_impl_errRoom)], narrowed := true }
def FnDecidedUptoSaid : Prop := fnDecidedUptoRow.holds Tryz.pinned (OpenSpec.upto fnDecidedSpec)

/-- 'laws.FnExactHold', WHERE WHAT IT READS IS OF BULK AT MOST 1048576: true; the input reads as it did. -/
def fnExactHoldUptoRow : OpenClaim := { program := "yteniflajiklffaagreatdoor", sum := "87cc0a5ee5cf19df19ff9c1f321917c02a9920ef535ba5be82facbe5fd7dd623", func := "loop.example/g00244/laws.FnExactHold", spec := "fnExactHold", inPlace := ["internal/reflectlite.TypeOf"], unfollowed := true, recurses := true, named := ["loop.example/g00244/impl.errNone", "loop.example/g00244/impl.errRoom", "loop.example/g00244/impl.errFit", "loop.example/g00244/impl.errHeld", "loop.example/g00244/impl.errDone", "loop.example/g00244/impl.errGone", "loop.example/g00244/impl.errForm"], ifaces := true, apart := false, laid := [("loop.example/g00244/impl.errForm", laid_loop_example_g00244_impl_errForm), ("loop.example/g00244/impl.errHeld", laid_loop_example_g00244_impl_errHeld), ("loop.example/g00244/impl.errDone", laid_loop_example_g00244_impl_errDone), ("loop.example/g00244/impl.errGone", laid_loop_example_g00244_impl_errGone), ("loop.example/g00244/impl.errNone", laid_loop_example_g00244_impl_errNone), ("loop.example/g00244/impl.errRoom", laid_loop_example_g00244_impl_errRoom), ("loop.example/g00244/impl.errFit", laid_loop_example_g00244_impl_errFit)], narrowed := true }
def FnExactHoldUptoSaid : Prop := fnExactHoldUptoRow.holds Tryz.pinned (OpenSpec.upto fnExactHoldSpec)

/-- 'laws.FnExactDecide', WHERE WHAT IT READS IS OF BULK AT MOST 1048576: true; the input reads as it did. -/
def fnExactDecideUptoRow : OpenClaim := { program := "yteniflajiklffaagreatdoor", sum := "87cc0a5ee5cf19df19ff9c1f321917c02a9920ef535ba5be82facbe5fd7dd623", func := "loop.example/g00244/laws.FnExactDecide", spec := "fnExactDecide", inPlace := ["internal/reflectlite.TypeOf"], unfollowed := true, recurses := true, named := ["loop.example/g00244/impl.errDone", "loop.example/g00244/impl.errGone", "loop.example/g00244/impl.errHeld", "loop.example/g00244/impl.errNone", "loop.example/g00244/impl.errForm", "loop.example/g00244/impl.errRoom"], ifaces := true, apart := false, laid := [("loop.example/g00244/impl.errForm", laid_loop_example_g00244_impl_errForm), ("loop.example/g00244/impl.errHeld", laid_loop_example_g00244_impl_errHeld), ("loop.example/g00244/impl.errDone", laid_loop_example_g00244_impl_errDone), ("loop.example/g00244/impl.errGone", laid_loop_example_g00244_impl_errGone), ("loop.example/g00244/impl.errNone", laid_loop_example_g00244_impl_errNone), ("loop.example/g00244/impl.errRoom", laid_loop_example_g00244_impl_errRoom)], narrowed := true }
def FnExactDecideUptoSaid : Prop := fnExactDecideUptoRow.holds Tryz.pinned (OpenSpec.upto fnExactDecideSpec)

end Rows
end Go.Proofs.YteniflajiklffaaGreatDoor
