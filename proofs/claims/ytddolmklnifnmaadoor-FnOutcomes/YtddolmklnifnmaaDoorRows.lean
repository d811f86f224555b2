/-
  NARROWER THAN 'FOR EVERY INPUT', by the rows' own cells (each row's printed sentence says how): FnOutcomes: ifaces, laid · FnExactOutcome: ifaces, laid.
  DERIVED. THE GIVEN ROWS OF THIS SEAT. 2 by the template 'for every input the law returns true; each argument reads behind the call as it read before'; 0 by the template 'total and deterministic' (their statements: YtddolmklnifnmaaDoorTotals.lean).
  GIVEN WITH THE SEED: the statements are not yours to turn. If you find one false, say at which input.
  Laid BY PROGRAM, IN A SANDBOX (cutbox-rows.mjs): the forced cells as the released guide's own fill.sh prints them over the translation db86021d389679ef… (all of the seat's roots in one cut). By AI agents, Wed Nov 11 2026. No macro, syntax, notation, axiom, sorry.
-/
import Derived.Test.YtddolmklnifnmaaDoorChecked
import GoSem.Claim
import GoSem.ClaimJoined
import GoSem.ClaimMapViews
import Derived.JoinedTies
import Derived.KernelRfl
namespace Go.Proofs.YtddolmklnifnmaaDoor
/- THE CELL 'sum', in the pinned program and in every row, IS THE sha256 OF THE DUMP (.gsa) THAT YtddolmklnifnmaaDoorProg.lean LOADS. Nothing in Lean hashes anything: it is a label: what it is worth is what the hold of that sum in a sandbox is worth. -/
noncomputable def Tryd.pinned : Pinned := { name := "ytddolmklnifnmaadoor", sum := "db86021d389679ef0ee92b1ab887a4658cc75abcf611926857e9cb4fdf8d86f4", checked := Tryd.checked }
namespace Rows
def none {H : Type} : Left H := { results := [], args := [] }

/- WHAT THE LISTED PACKAGE-LEVEL VARIABLES READ AS WHEN THE CALL BEGINS. Each datum BY PROGRAM (the guide's laid-datum.mjs) off the statement by which the dump's own 'gosem.cut.vars' lays the variable. In a bare row this is a premise. The card (YtddolmklnifnmaaDoorCards.lean) ties it to the program's text. -/
def laid_loop_example_g00244_impl_errForm {H : Type} : DataW H := .iface "*errors.errorString" (.ptr (.agg [.lit (.string [110, 111, 116, 32, 97, 115, 32, 105, 116, 32, 109, 117, 115, 116, 32, 98, 101])]))
def laid_loop_example_g00244_impl_errHeld {H : Type} : DataW H := .iface "*errors.errorString" (.ptr (.agg [.lit (.string [104, 101, 108, 100, 32, 97, 108, 114, 101, 97, 100, 121])]))
def laid_loop_example_g00244_impl_errDone {H : Type} : DataW H := .iface "*errors.errorString" (.ptr (.agg [.lit (.string [100, 111, 110, 101, 32, 97, 108, 114, 101, 97, 100, 121])]))
def laid_loop_example_g00244_impl_errGone {H : Type} : DataW H := .iface "*errors.errorString" (.ptr (.agg [.lit (.string [103, 111, 110, 101, 32, 97, 108, 114, 101, 97, 100, 121])]))
def laid_loop_example_g00244_impl_errNone {H : Type} : DataW H := .iface "*errors.errorString" (.ptr (.agg [.lit (.string [110, 111, 32, 114, 101, 99, 111, 114, 100, 32, 104, 97, 115, 32, 105, 116])]))

/-- 'laws.FnOutcomes': WHATEVER THE INPUT: true; the input reads as it did. -/
def fnOutcomesSpec : ChangeSpec := { name := "fnOutcomes", vars := ["loop.example/g00244/impl.errHeld", "loop.example/g00244/impl.errDone", "loop.example/g00244/impl.errGone", "loop.example/g00244/impl.errNone", "loop.example/g00244/impl.errForm"], fn := fun _ => fun
  | [d, g1, g2, g3, g4, g5] => { results := [.lit (.bool true)], args := [d], vars := [g1, g2, g3, g4, g5] }
  | _ => none }
def fnOutcomesRow : OpenClaim := { program := "ytddolmklnifnmaadoor", sum := "db86021d389679ef0ee92b1ab887a4658cc75abcf611926857e9cb4fdf8d86f4", func := "loop.example/g00244/laws.FnOutcomes", spec := "fnOutcomes", inPlace := ["internal/reflectlite.TypeOf"], unfollowed := true, recurses := true, named := ["loop.example/g00244/impl.errHeld", "loop.example/g00244/impl.errDone", "loop.example/g00244/impl.errGone", "loop.example/g00244/impl.errNone", "loop.example/g00244/impl.errForm"], ifaces := true, apart := false, laid := [("loop.example/g00244/impl.errForm", laid_loop_example_g00244_impl_errForm), ("loop.example/g00244/impl.errHeld", laid_loop_example_g00244_impl_errHeld), ("loop.example/g00244/impl.errDone", laid_loop_example_g00244_impl_errDone), ("loop.example/g00244/impl.errGone", laid_loop_example_g00244_impl_errGone), ("loop.example/g00244/impl.errNone", laid_loop_example_g00244_impl_errNone)] }
def FnOutcomesSaid : Prop := fnOutcomesRow.holds Tryd.pinned (OpenSpec.ofChange fnOutcomesSpec)

/-- ITS FALSE NEIGHBOUR: 'it returns false'. Refute it at one input. -/
def fnOutcomesWrong : ChangeSpec := { name := "fnOutcomes", vars := ["loop.example/g00244/impl.errHeld", "loop.example/g00244/impl.errDone", "loop.example/g00244/impl.errGone", "loop.example/g00244/impl.errNone", "loop.example/g00244/impl.errForm"], fn := fun _ => fun
  | [d, g1, g2, g3, g4, g5] => { results := [.lit (.bool false)], args := [d], vars := [g1, g2, g3, g4, g5] }
  | _ => none }
def FnOutcomesWrongFalsely : Prop := fnOutcomesRow.holds Tryd.pinned (OpenSpec.ofChange fnOutcomesWrong)

/-- 'laws.FnExactOutcome': WHATEVER THE INPUT: true; the input reads as it did. -/
def fnExactOutcomeSpec : ChangeSpec := { name := "fnExactOutcome", vars := ["loop.example/g00244/impl.errHeld", "loop.example/g00244/impl.errDone", "loop.example/g00244/impl.errGone", "loop.example/g00244/impl.errNone", "loop.example/g00244/impl.errForm"], fn := fun _ => fun
  | [d1, d2, g1, g2, g3, g4, g5] => { results := [.lit (.bool true)], args := [d1, d2], vars := [g1, g2, g3, g4, g5] }
  | _ => none }
def fnExactOutcomeRow : OpenClaim := { program := "ytddolmklnifnmaadoor", sum := "db86021d389679ef0ee92b1ab887a4658cc75abcf611926857e9cb4fdf8d86f4", func := "loop.example/g00244/laws.FnExactOutcome", spec := "fnExactOutcome", inPlace := ["internal/reflectlite.TypeOf"], unfollowed := true, recurses := true, named := ["loop.example/g00244/impl.errHeld", "loop.example/g00244/impl.errDone", "loop.example/g00244/impl.errGone", "loop.example/g00244/impl.errNone", "loop.example/g00244/impl.errForm"], ifaces := true, apart := false, laid := [("loop.example/g00244/impl.errForm", laid_loop_example_g00244_impl_errForm), ("loop.example/g00244/impl.errHeld", laid_loop_example_g00244_impl_errHeld), ("loop.example/g00244/impl.errDone", laid_loop_example_g00244_impl_errDone), ("loop.example/g00244/impl.errGone", laid_loop_example_g00244_impl_errGone), ("loop.example/g00244/impl.errNone", laid_loop_example_g00244_impl_errNone)] }
def FnExactOutcomeSaid : Prop := fnExactOutcomeRow.holds Tryd.pinned (OpenSpec.ofChange fnExactOutcomeSpec)

/-- ITS FALSE NEIGHBOUR: 'it returns false'. Refute it at one input. -/
def fnExactOutcomeWrong : ChangeSpec := { name := "fnExactOutcome", vars := ["loop.example/g00244/impl.errHeld", "loop.example/g00244/impl.errDone", "loop.example/g00244/impl.errGone", "loop.example/g00244/impl.errNone", "loop.example/g00244/impl.errForm"], fn := fun _ => fun
  | [d1, d2, g1, g2, g3, g4, g5] => { results := [.lit (.bool false)], args := [d1, d2], vars := [g1, g2, g3, g4, g5] }
  | _ => none }
def FnExactOutcomeWrongFalsely : Prop := fnExactOutcomeRow.holds Tryd.pinned (OpenSpec.ofChange fnExactOutcomeWrong)

/- THE SECOND FORM. 'bulk': how many values and letters a reading holds, each counted each time it is reached (what is shared counts as often as it is met; a slice's spare places count too). A statement '..UptoSaid' is the law's where the arguments, and the package variables that the reading takes, are together of bulk at most 1048576: NARROWER than '..Said'. Prove '..Said' where nothing that the law and all that it calls make is longer than what came in: it says more and counts as full. Else prove '..UptoSaid'. A law counts once. -/
mutual
def uptoBulk {H : Type} : DataW H → Nat
  | .lit (.string bytes) => bytes.length + 1
  | .lit _ => 1
  | .nil => 1
  | .ptr d => uptoBulk d + 1
  | .slice elems spare => uptoBulkAll elems + uptoBulkAll spare + 1
  | .agg parts => uptoBulkAll parts + 1
  | .iface _ d => uptoBulk d + 1
  | .map entries => uptoBulkEntries entries + 1
  | .held _ => 1
def uptoBulkAll {H : Type} : List (DataW H) → Nat
  | [] => 0
  | d :: r => uptoBulk d + uptoBulkAll r
def uptoBulkEntries {H : Type} : List (Lit × DataW H) → Nat
  | [] => 0
  | x :: r => uptoBulkEntry x + uptoBulkEntries r
def uptoBulkEntry {H : Type} : Lit × DataW H → Nat
  | (.string bytes, d) => bytes.length + uptoBulk d + 1
  | (_, d) => uptoBulk d + 1
 end
def uptoSmall : (H : Type) → List (DataW H) → Bool := fun _ ds => decide (uptoBulkAll ds ≤ 1048576)
def OpenSpec.upto (s : _root_.Go.ChangeSpec) : _root_.Go.OpenSpec := { _root_.Go.OpenSpec.ofChange s with cond := some uptoSmall }

/-- 'laws.FnOutcomes', WHERE WHAT IT READS IS OF BULK AT MOST 1048576: true; the input reads as it did. -/
def fnOutcomesUptoRow : OpenClaim := { program := "ytddolmklnifnmaadoor", sum := "db86021d389679ef0ee92b1ab887a4658cc75abcf611926857e9cb4fdf8d86f4", func := "loop.example/g00244/laws.FnOutcomes", spec := "fnOutcomes", inPlace := ["internal/reflectlite.TypeOf"], unfollowed := true, recurses := true, named := ["loop.example/g00244/impl.errHeld", "loop.example/g00244/impl.errDone", "loop.example/g00244/impl.errGone", "loop.example/g00244/impl.errNone", "loop.example/g00244/impl.errForm"], ifaces := true, apart := false, laid := [("loop.example/g00244/impl.errForm", laid_loop_example_g00244_impl_errForm), ("loop.example/g00244/impl.errHeld", laid_loop_example_g00244_impl_errHeld), ("loop.example/g00244/impl.errDone", laid_loop_example_g00244_impl_errDone), ("loop.example/g00244/impl.errGone", laid_loop_example_g00244_impl_errGone), ("loop.example/g00244/impl.errNone", laid_loop_example_g00244_impl_errNone)], narrowed := true }
def FnOutcomesUptoSaid : Prop := fnOutcomesUptoRow.holds Tryd.pinned (OpenSpec.upto fnOutcomesSpec)

/-- 'laws.FnExactOutcome', WHERE WHAT IT READS IS OF BULK AT MOST 1048576: true; the input reads as it did. -/
def fnExactOutcomeUptoRow : OpenClaim := { program := "ytddolmklnifnmaadoor", sum := "db86021d389679ef0ee92b1ab887a4658cc75abcf611926857e9cb4fdf8d86f4", func := "loop.example/g00244/laws.FnExactOutcome", spec := "fnExactOutcome", inPlace := ["internal/reflectlite.TypeOf"], unfollowed := true, recurses := true, named := ["loop.example/g00244/impl.errHeld", "loop.example/g00244/impl.errDone", "loop.example/g00244/impl.errGone", "loop.example/g00244/impl.errNone", "loop.example/g00244/impl.errForm"], ifaces := true, apart := false, laid := [("loop.example/g00244/impl.errForm", laid_loop_example_g00244_impl_errForm), ("loop.example/g00244/impl.errHeld", laid_loop_example_g00244_impl_errHeld), ("loop.example/g00244/impl.errDone", laid_loop_example_g00244_impl_errDone), ("loop.example/g00244/impl.errGone", laid_loop_example_g00244_impl_errGone), ("loop.example/g00244/impl.errNone", laid_loop_example_g00244_impl_errNone)], narrowed := true }
def FnExactOutcomeUptoSaid : Prop := fnExactOutcomeUptoRow.holds Tryd.pinned (OpenSpec.upto fnExactOutcomeSpec)

end Rows
end Go.Proofs.YtddolmklnifnmaaDoor
