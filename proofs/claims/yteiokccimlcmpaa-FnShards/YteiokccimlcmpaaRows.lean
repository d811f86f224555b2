/-
  No cell of these rows narrows 'for every input' (looked for: loops, veiled, ifaces, maps, wideKeys, modest, calm, conditions, laid).
  DERIVED. THE GIVEN ROWS OF THIS SEAT. 12 by the template 'for every input the law returns true; each argument reads behind the call as it read before'; 0 by the template 'total and deterministic' (their statements: YteiokccimlcmpaaTotals.lean).
  GIVEN WITH THE SEED: the statements are not yours to turn. If you find one false, say at which input.
  Laid BY PROGRAM, IN A SANDBOX (cutbox-rows.mjs): the forced cells as the released guide's own fill.sh prints them over the translation c7aaedde6c6bd1d8… (all of the seat's roots in one cut). By AI agents, Wed Nov 11 2026. No macro, syntax, notation, axiom, sorry.
-/
import Derived.Test.YteiokccimlcmpaaChecked
import GoSem.Claim
import GoSem.ClaimJoined
import GoSem.ClaimMapViews
import Derived.JoinedTies
import Derived.KernelRfl
namespace Go.Proofs.Yteiokccimlcmpaa
/- THE CELL 'sum', in the pinned program and in every row, IS THE sha256 OF THE DUMP (.gsa) THAT YteiokccimlcmpaaProg.lean LOADS. Nothing in Lean hashes anything: it is a label: what it is worth is what the hold of that sum in a sandbox is worth. -/
noncomputable def Try.pinned : Pinned := { name := "yteiokccimlcmpaa", sum := "c7aaedde6c6bd1d8827150f26233cc219c5760a659cbeeb238894ce5ab8e4d0d", checked := Try.checked }
namespace Rows
def none {H : Type} : Left H := { results := [], args := [] }

/-- 'laws.FnOps': WHATEVER THE INPUT: true; the input reads as it did. -/
def fnOpsSpec : ChangeSpec := { name := "fnOps", fn := fun _ => fun
  | [d] => { results := [.lit (.bool true)], args := [d] }
  | _ => none }
def fnOpsRow : OpenClaim := { program := "yteiokccimlcmpaa", sum := "c7aaedde6c6bd1d8827150f26233cc219c5760a659cbeeb238894ce5ab8e4d0d", func := "loop.example/g00244/laws.FnOps", spec := "fnOps", unfollowed := true, recurses := true, apart := false }
def FnOpsSaid : Prop := fnOpsRow.holds Try.pinned (OpenSpec.ofChange fnOpsSpec)

/-- ITS FALSE NEIGHBOUR: 'it returns false'. Refute it at one input. -/
def fnOpsWrong : ChangeSpec := { name := "fnOps", fn := fun _ => fun
  | [d] => { results := [.lit (.bool false)], args := [d] }
  | _ => none }
def FnOpsWrongFalsely : Prop := fnOpsRow.holds Try.pinned (OpenSpec.ofChange fnOpsWrong)

/-- 'laws.FnApplied': WHATEVER THE INPUT: true; the input reads as it did. -/
def fnAppliedSpec : ChangeSpec := { name := "fnApplied", fn := fun _ => fun
  | [d] => { results := [.lit (.bool true)], args := [d] }
  | _ => none }
def fnAppliedRow : OpenClaim := { program := "yteiokccimlcmpaa", sum := "c7aaedde6c6bd1d8827150f26233cc219c5760a659cbeeb238894ce5ab8e4d0d", func := "loop.example/g00244/laws.FnApplied", spec := "fnApplied", unfollowed := true, recurses := true, apart := false }
def FnAppliedSaid : Prop := fnAppliedRow.holds Try.pinned (OpenSpec.ofChange fnAppliedSpec)

/-- ITS FALSE NEIGHBOUR: 'it returns false'. Refute it at one input. -/
def fnAppliedWrong : ChangeSpec := { name := "fnApplied", fn := fun _ => fun
  | [d] => { results := [.lit (.bool false)], args := [d] }
  | _ => none }
def FnAppliedWrongFalsely : Prop := fnAppliedRow.holds Try.pinned (OpenSpec.ofChange fnAppliedWrong)

/-- 'laws.FnMeets': WHATEVER THE INPUT: true; the input reads as it did. -/
def fnMeetsSpec : ChangeSpec := { name := "fnMeets", fn := fun _ => fun
  | [d] => { results := [.lit (.bool true)], args := [d] }
  | _ => none }
def fnMeetsRow : OpenClaim := { program := "yteiokccimlcmpaa", sum := "c7aaedde6c6bd1d8827150f26233cc219c5760a659cbeeb238894ce5ab8e4d0d", func := "loop.example/g00244/laws.FnMeets", spec := "fnMeets", unfollowed := true, recurses := true, apart := false }
def FnMeetsSaid : Prop := fnMeetsRow.holds Try.pinned (OpenSpec.ofChange fnMeetsSpec)

/-- ITS FALSE NEIGHBOUR: 'it returns false'. Refute it at one input. -/
def fnMeetsWrong : ChangeSpec := { name := "fnMeets", fn := fun _ => fun
  | [d] => { results := [.lit (.bool false)], args := [d] }
  | _ => none }
def FnMeetsWrongFalsely : Prop := fnMeetsRow.holds Try.pinned (OpenSpec.ofChange fnMeetsWrong)

/-- 'laws.FnShards': WHATEVER THE INPUT: true; the input reads as it did. -/
def fnShardsSpec : ChangeSpec := { name := "fnShards", fn := fun _ => fun
  | [d] => { results := [.lit (.bool true)], args := [d] }
  | _ => none }
def fnShardsRow : OpenClaim := { program := "yteiokccimlcmpaa", sum := "c7aaedde6c6bd1d8827150f26233cc219c5760a659cbeeb238894ce5ab8e4d0d", func := "loop.example/g00244/laws.FnShards", spec := "fnShards", recurses := true, apart := false }
def FnShardsSaid : Prop := fnShardsRow.holds Try.pinned (OpenSpec.ofChange fnShardsSpec)

/-- ITS FALSE NEIGHBOUR: 'it returns false'. Refute it at one input. -/
def fnShardsWrong : ChangeSpec := { name := "fnShards", fn := fun _ => fun
  | [d] => { results := [.lit (.bool false)], args := [d] }
  | _ => none }
def FnShardsWrongFalsely : Prop := fnShardsRow.holds Try.pinned (OpenSpec.ofChange fnShardsWrong)

/-- 'laws.FnExactOpsOk': WHATEVER THE INPUT: true; the input reads as it did. -/
def fnExactOpsOkSpec : ChangeSpec := { name := "fnExactOpsOk", fn := fun _ => fun
  | [d] => { results := [.lit (.bool true)], args := [d] }
  | _ => none }
def fnExactOpsOkRow : OpenClaim := { program := "yteiokccimlcmpaa", sum := "c7aaedde6c6bd1d8827150f26233cc219c5760a659cbeeb238894ce5ab8e4d0d", func := "loop.example/g00244/laws.FnExactOpsOk", spec := "fnExactOpsOk", unfollowed := true, recurses := true, apart := false }
def FnExactOpsOkSaid : Prop := fnExactOpsOkRow.holds Try.pinned (OpenSpec.ofChange fnExactOpsOkSpec)

/-- ITS FALSE NEIGHBOUR: 'it returns false'. Refute it at one input. -/
def fnExactOpsOkWrong : ChangeSpec := { name := "fnExactOpsOk", fn := fun _ => fun
  | [d] => { results := [.lit (.bool false)], args := [d] }
  | _ => none }
def FnExactOpsOkWrongFalsely : Prop := fnExactOpsOkRow.holds Try.pinned (OpenSpec.ofChange fnExactOpsOkWrong)

/-- 'laws.FnExactMeets': WHATEVER THE INPUT: true; the input reads as it did. -/
def fnExactMeetsSpec : ChangeSpec := { name := "fnExactMeets", fn := fun _ => fun
  | [d1, d2] => { results := [.lit (.bool true)], args := [d1, d2] }
  | _ => none }
def fnExactMeetsRow : OpenClaim := { program := "yteiokccimlcmpaa", sum := "c7aaedde6c6bd1d8827150f26233cc219c5760a659cbeeb238894ce5ab8e4d0d", func := "loop.example/g00244/laws.FnExactMeets", spec := "fnExactMeets", unfollowed := true, recurses := true, apart := false }
def FnExactMeetsSaid : Prop := fnExactMeetsRow.holds Try.pinned (OpenSpec.ofChange fnExactMeetsSpec)

/-- ITS FALSE NEIGHBOUR: 'it returns false'. Refute it at one input. -/
def fnExactMeetsWrong : ChangeSpec := { name := "fnExactMeets", fn := fun _ => fun
  | [d1, d2] => { results := [.lit (.bool false)], args := [d1, d2] }
  | _ => none }
def FnExactMeetsWrongFalsely : Prop := fnExactMeetsRow.holds Try.pinned (OpenSpec.ofChange fnExactMeetsWrong)

/-- 'laws.FnExactApply': WHATEVER THE INPUT: true; the input reads as it did. -/
def fnExactApplySpec : ChangeSpec := { name := "fnExactApply", fn := fun _ => fun
  | [d1, d2] => { results := [.lit (.bool true)], args := [d1, d2] }
  | _ => none }
def fnExactApplyRow : OpenClaim := { program := "yteiokccimlcmpaa", sum := "c7aaedde6c6bd1d8827150f26233cc219c5760a659cbeeb238894ce5ab8e4d0d", func := "loop.example/g00244/laws.FnExactApply", spec := "fnExactApply", unfollowed := true, recurses := true, apart := false }
def FnExactApplySaid : Prop := fnExactApplyRow.holds Try.pinned (OpenSpec.ofChange fnExactApplySpec)

/-- ITS FALSE NEIGHBOUR: 'it returns false'. Refute it at one input. -/
def fnExactApplyWrong : ChangeSpec := { name := "fnExactApply", fn := fun _ => fun
  | [d1, d2] => { results := [.lit (.bool false)], args := [d1, d2] }
  | _ => none }
def FnExactApplyWrongFalsely : Prop := fnExactApplyRow.holds Try.pinned (OpenSpec.ofChange fnExactApplyWrong)

/-- 'laws.FnExactShardOf': WHATEVER THE INPUT: true; the input reads as it did. -/
def fnExactShardOfSpec : ChangeSpec := { name := "fnExactShardOf", fn := fun _ => fun
  | [d1, d2] => { results := [.lit (.bool true)], args := [d1, d2] }
  | _ => none }
def fnExactShardOfRow : OpenClaim := { program := "yteiokccimlcmpaa", sum := "c7aaedde6c6bd1d8827150f26233cc219c5760a659cbeeb238894ce5ab8e4d0d", func := "loop.example/g00244/laws.FnExactShardOf", spec := "fnExactShardOf", apart := false }
def FnExactShardOfSaid : Prop := fnExactShardOfRow.holds Try.pinned (OpenSpec.ofChange fnExactShardOfSpec)

/-- ITS FALSE NEIGHBOUR: 'it returns false'. Refute it at one input. -/
def fnExactShardOfWrong : ChangeSpec := { name := "fnExactShardOf", fn := fun _ => fun
  | [d1, d2] => { results := [.lit (.bool false)], args := [d1, d2] }
  | _ => none }
def FnExactShardOfWrongFalsely : Prop := fnExactShardOfRow.holds Try.pinned (OpenSpec.ofChange fnExactShardOfWrong)

/-- 'laws.FnExactOpsFor': WHATEVER THE INPUT: true; the input reads as it did. -/
def fnExactOpsForSpec : ChangeSpec := { name := "fnExactOpsFor", fn := fun _ => fun
  | [d1, d2, d3] => { results := [.lit (.bool true)], args := [d1, d2, d3] }
  | _ => none }
def fnExactOpsForRow : OpenClaim := { program := "yteiokccimlcmpaa", sum := "c7aaedde6c6bd1d8827150f26233cc219c5760a659cbeeb238894ce5ab8e4d0d", func := "loop.example/g00244/laws.FnExactOpsFor", spec := "fnExactOpsFor", apart := false }
def FnExactOpsForSaid : Prop := fnExactOpsForRow.holds Try.pinned (OpenSpec.ofChange fnExactOpsForSpec)

/-- ITS FALSE NEIGHBOUR: 'it returns false'. Refute it at one input. -/
def fnExactOpsForWrong : ChangeSpec := { name := "fnExactOpsFor", fn := fun _ => fun
  | [d1, d2, d3] => { results := [.lit (.bool false)], args := [d1, d2, d3] }
  | _ => none }
def FnExactOpsForWrongFalsely : Prop := fnExactOpsForRow.holds Try.pinned (OpenSpec.ofChange fnExactOpsForWrong)

/-- 'laws.FnExactShardsOf': WHATEVER THE INPUT: true; the input reads as it did. -/
def fnExactShardsOfSpec : ChangeSpec := { name := "fnExactShardsOf", fn := fun _ => fun
  | [d1, d2] => { results := [.lit (.bool true)], args := [d1, d2] }
  | _ => none }
def fnExactShardsOfRow : OpenClaim := { program := "yteiokccimlcmpaa", sum := "c7aaedde6c6bd1d8827150f26233cc219c5760a659cbeeb238894ce5ab8e4d0d", func := "loop.example/g00244/laws.FnExactShardsOf", spec := "fnExactShardsOf", recurses := true, apart := false }
def FnExactShardsOfSaid : Prop := fnExactShardsOfRow.holds Try.pinned (OpenSpec.ofChange fnExactShardsOfSpec)

/-- ITS FALSE NEIGHBOUR: 'it returns false'. Refute it at one input. -/
def fnExactShardsOfWrong : ChangeSpec := { name := "fnExactShardsOf", fn := fun _ => fun
  | [d1, d2] => { results := [.lit (.bool false)], args := [d1, d2] }
  | _ => none }
def FnExactShardsOfWrongFalsely : Prop := fnExactShardsOfRow.holds Try.pinned (OpenSpec.ofChange fnExactShardsOfWrong)

/-- 'laws.FnExactPutOps': WHATEVER THE INPUT: true; the input reads as it did. -/
def fnExactPutOpsSpec : ChangeSpec := { name := "fnExactPutOps", fn := fun _ => fun
  | [d] => { results := [.lit (.bool true)], args := [d] }
  | _ => none }
def fnExactPutOpsRow : OpenClaim := { program := "yteiokccimlcmpaa", sum := "c7aaedde6c6bd1d8827150f26233cc219c5760a659cbeeb238894ce5ab8e4d0d", func := "loop.example/g00244/laws.FnExactPutOps", spec := "fnExactPutOps", unfollowed := true, recurses := true, apart := false }
def FnExactPutOpsSaid : Prop := fnExactPutOpsRow.holds Try.pinned (OpenSpec.ofChange fnExactPutOpsSpec)

/-- ITS FALSE NEIGHBOUR: 'it returns false'. Refute it at one input. -/
def fnExactPutOpsWrong : ChangeSpec := { name := "fnExactPutOps", fn := fun _ => fun
  | [d] => { results := [.lit (.bool false)], args := [d] }
  | _ => none }
def FnExactPutOpsWrongFalsely : Prop := fnExactPutOpsRow.holds Try.pinned (OpenSpec.ofChange fnExactPutOpsWrong)

/-- 'laws.FnExactGetOps': WHATEVER THE INPUT: true; the input reads as it did. -/
def fnExactGetOpsSpec : ChangeSpec := { name := "fnExactGetOps", fn := fun _ => fun
  | [d] => { results := [.lit (.bool true)], args := [d] }
  | _ => none }
def fnExactGetOpsRow : OpenClaim := { program := "yteiokccimlcmpaa", sum := "c7aaedde6c6bd1d8827150f26233cc219c5760a659cbeeb238894ce5ab8e4d0d", func := "loop.example/g00244/laws.FnExactGetOps", spec := "fnExactGetOps", unfollowed := true, recurses := true, apart := false }
def FnExactGetOpsSaid : Prop := fnExactGetOpsRow.holds Try.pinned (OpenSpec.ofChange fnExactGetOpsSpec)

/-- ITS FALSE NEIGHBOUR: 'it returns false'. Refute it at one input. -/
def fnExactGetOpsWrong : ChangeSpec := { name := "fnExactGetOps", fn := fun _ => fun
  | [d] => { results := [.lit (.bool false)], args := [d] }
  | _ => none }
def FnExactGetOpsWrongFalsely : Prop := fnExactGetOpsRow.holds Try.pinned (OpenSpec.ofChange fnExactGetOpsWrong)

/- THE SECOND FORM. 'bulk': how many values and letters a reading holds, each counted each time it is reached (what is shared counts as often as it is met; a slice's spare places count too). A statement '..UptoSaid' is the law's where the arguments, and the package variables that the reading takes, are together of bulk at most 1048576: NARROWER than '..Said'. Prove '..Said' where nothing that the law and all that it calls make is longer than what came in: it says more and counts as full. Else prove '..UptoSaid'. A law counts once. -/
mutual
def uptoBulk {H : Type} : DataW H → Nat
  | .lit (.string bytes) => bytes.length + 1
  | .lit _ => 1
  | .nil => 1
  | .ptr d => uptoBulk d + 1
  | .slice elems spare => uptoBulkAll elems + uptoBulkAll spare + 1
  | .agg parts => uptoBulkAll parts + 1
  | .iface _ d => uptoBulk d + 1
  | .map entries => uptoBulkEntries entries + 1
  | .held _ => 1
def uptoBulkAll {H : Type} : List (DataW H) → Nat
  | [] => 0
  | d :: r => uptoBulk d + uptoBulkAll r
def uptoBulkEntries {H : Type} : List (Lit × DataW H) → Nat
  | [] => 0
  | x :: r => uptoBulkEntry x + uptoBulkEntries r
def uptoBulkEntry {H : Type} : Lit × DataW H → Nat
  | (.string bytes, d) => bytes.length + uptoBulk d + 1
  | (_, d) => uptoBulk d + 1
 end
def uptoSmall : (H : Type) → List (DataW H) → Bool := fun _ ds => decide (uptoBulkAll ds ≤ 1048576)
def OpenSpec.upto (s : _root_.Go.ChangeSpec) : _root_.Go.OpenSpec := { _root_.Go.OpenSpec.ofChange s with cond := some uptoSmall }

/-- 'laws.FnOps', WHERE WHAT IT READS IS OF BULK AT MOST 1048576: true; the input reads as it did. -/
def fnOpsUptoRow : OpenClaim := { program := "yteiokccimlcmpaa", sum := "c7aaedde6c6bd1d8827150f26233cc219c5760a659cbeeb238894ce5ab8e4d0d", func := "loop.example/g00244/laws.FnOps", spec := "fnOps", unfollowed := true, recurses := true, apart := false, narrowed := true }
def FnOpsUptoSaid : Prop := fnOpsUptoRow.holds Try.pinned (OpenSpec.upto fnOpsSpec)

/-- 'laws.FnApplied', WHERE WHAT IT READS IS OF BULK AT MOST 1048576: true; the input reads as it did. -/
def fnAppliedUptoRow : OpenClaim := { program := "yteiokccimlcmpaa", sum := "c7aaedde6c6bd1d8827150f26233cc219c5760a659cbeeb238894ce5ab8e4d0d", func := "loop.example/g00244/laws.FnApplied", spec := "fnApplied", unfollowed := true, recurses := true, apart := false, narrowed := true }
def FnAppliedUptoSaid : Prop := fnAppliedUptoRow.holds Try.pinned (OpenSpec.upto fnAppliedSpec)

/-- 'laws.FnMeets', WHERE WHAT IT READS IS OF BULK AT MOST 1048576: true; the input reads as it did. -/
def fnMeetsUptoRow : OpenClaim := { program := "yteiokccimlcmpaa", sum := "c7aaedde6c6bd1d8827150f26233cc219c5760a659cbeeb238894ce5ab8e4d0d", func := "loop.example/g00244/laws.FnMeets", spec := "fnMeets", unfollowed := true, recurses := true, apart := false, narrowed := true }
def FnMeetsUptoSaid : Prop := fnMeetsUptoRow.holds Try.pinned (OpenSpec.upto fnMeetsSpec)

/-- 'laws.FnShards', WHERE WHAT IT READS IS OF BULK AT MOST 1048576: true; the input reads as it did. -/
def fnShardsUptoRow : OpenClaim := { program := "yteiokccimlcmpaa", sum := "c7aaedde6c6bd1d8827150f26233cc219c5760a659cbeeb238894ce5ab8e4d0d", func := "loop.example/g00244/laws.FnShards", spec := "fnShards", recurses := true, apart := false, narrowed := true }
def FnShardsUptoSaid : Prop := fnShardsUptoRow.holds Try.pinned (OpenSpec.upto fnShardsSpec)

/-- 'laws.FnExactOpsOk', WHERE WHAT IT READS IS OF BULK AT MOST 1048576: true; the input reads as it did. -/
def fnExactOpsOkUptoRow : OpenClaim := { program := "yteiokccimlcmpaa", sum := "c7aaedde6c6bd1d8827150f26233cc219c5760a659cbeeb238894ce5ab8e4d0d", func := "loop.example/g00244/laws.FnExactOpsOk", spec := "fnExactOpsOk", unfollowed := true, recurses := true, apart := false, narrowed := true }
def FnExactOpsOkUptoSaid : Prop := fnExactOpsOkUptoRow.holds Try.pinned (OpenSpec.upto fnExactOpsOkSpec)

/-- 'laws.FnExactMeets', WHERE WHAT IT READS IS OF BULK AT MOST 1048576: true; the input reads as it did. -/
def fnExactMeetsUptoRow : OpenClaim := { program := "yteiokccimlcmpaa", sum := "c7aaedde6c6bd1d8827150f26233cc219c5760a659cbeeb238894ce5ab8e4d0d", func := "loop.example/g00244/laws.FnExactMeets", spec := "fnExactMeets", unfollowed := true, recurses := true, apart := false, narrowed := true }
def FnExactMeetsUptoSaid : Prop := fnExactMeetsUptoRow.holds Try.pinned (OpenSpec.upto fnExactMeetsSpec)

/-- 'laws.FnExactApply', WHERE WHAT IT READS IS OF BULK AT MOST 1048576: true; the input reads as it did. -/
def fnExactApplyUptoRow : OpenClaim := { program := "yteiokccimlcmpaa", sum := "c7aaedde6c6bd1d8827150f26233cc219c5760a659cbeeb238894ce5ab8e4d0d", func := "loop.example/g00244/laws.FnExactApply", spec := "fnExactApply", unfollowed := true, recurses := true, apart := false, narrowed := true }
def FnExactApplyUptoSaid : Prop := fnExactApplyUptoRow.holds Try.pinned (OpenSpec.upto fnExactApplySpec)

/-- 'laws.FnExactShardOf', WHERE WHAT IT READS IS OF BULK AT MOST 1048576: true; the input reads as it did. -/
def fnExactShardOfUptoRow : OpenClaim := { program := "yteiokccimlcmpaa", sum := "c7aaedde6c6bd1d8827150f26233cc219c5760a659cbeeb238894ce5ab8e4d0d", func := "loop.example/g00244/laws.FnExactShardOf", spec := "fnExactShardOf", apart := false, narrowed := true }
def FnExactShardOfUptoSaid : Prop := fnExactShardOfUptoRow.holds Try.pinned (OpenSpec.upto fnExactShardOfSpec)

/-- 'laws.FnExactOpsFor', WHERE WHAT IT READS IS OF BULK AT MOST 1048576: true; the input reads as it did. -/
def fnExactOpsForUptoRow : OpenClaim := { program := "yteiokccimlcmpaa", sum := "c7aaedde6c6bd1d8827150f26233cc219c5760a659cbeeb238894ce5ab8e4d0d", func := "loop.example/g00244/laws.FnExactOpsFor", spec := "fnExactOpsFor", apart := false, narrowed := true }
def FnExactOpsForUptoSaid : Prop := fnExactOpsForUptoRow.holds Try.pinned (OpenSpec.upto fnExactOpsForSpec)

/-- 'laws.FnExactShardsOf', WHERE WHAT IT READS IS OF BULK AT MOST 1048576: true; the input reads as it did. -/
def fnExactShardsOfUptoRow : OpenClaim := { program := "yteiokccimlcmpaa", sum := "c7aaedde6c6bd1d8827150f26233cc219c5760a659cbeeb238894ce5ab8e4d0d", func := "loop.example/g00244/laws.FnExactShardsOf", spec := "fnExactShardsOf", recurses := true, apart := false, narrowed := true }
def FnExactShardsOfUptoSaid : Prop := fnExactShardsOfUptoRow.holds Try.pinned (OpenSpec.upto fnExactShardsOfSpec)

/-- 'laws.FnExactPutOps', WHERE WHAT IT READS IS OF BULK AT MOST 1048576: true; the input reads as it did. -/
def fnExactPutOpsUptoRow : OpenClaim := { program := "yteiokccimlcmpaa", sum := "c7aaedde6c6bd1d8827150f26233cc219c5760a659cbeeb238894ce5ab8e4d0d", func := "loop.example/g00244/laws.FnExactPutOps", spec := "fnExactPutOps", unfollowed := true, recurses := true, apart := false, narrowed := true }
def FnExactPutOpsUptoSaid : Prop := fnExactPutOpsUptoRow.holds Try.pinned (OpenSpec.upto fnExactPutOpsSpec)

/-- 'laws.FnExactGetOps', WHERE WHAT IT READS IS OF BULK AT MOST 1048576: true; the input reads as it did. -/
def fnExactGetOpsUptoRow : OpenClaim := { program := "yteiokccimlcmpaa", sum := "c7aaedde6c6bd1d8827150f26233cc219c5760a659cbeeb238894ce5ab8e4d0d", func := "loop.example/g00244/laws.FnExactGetOps", spec := "fnExactGetOps", unfollowed := true, recurses := true, apart := false, narrowed := true }
def FnExactGetOpsUptoSaid : Prop := fnExactGetOpsUptoRow.holds Try.pinned (OpenSpec.upto fnExactGetOpsSpec)

end Rows
end Go.Proofs.Yteiokccimlcmpaa
