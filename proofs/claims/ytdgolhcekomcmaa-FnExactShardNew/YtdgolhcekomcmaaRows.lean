/-
  No cell of these rows narrows 'for every input' (looked for: loops, veiled, ifaces, maps, wideKeys, modest, calm, conditions, laid).
  DERIVED. THE GIVEN ROWS OF THIS SEAT. 7 by the template 'for every input the law returns true; each argument reads behind the call as it read before'; 0 by the template 'total and deterministic' (their statements: YtdgolhcekomcmaaTotals.lean).
  GIVEN WITH THE SEED: the statements are not yours to turn. If you find one false, say at which input.
  Laid BY PROGRAM, IN A SANDBOX (cutbox-rows.mjs): the forced cells as the released guide's own fill.sh prints them over the translation bb7835315decd3c8… (all of the seat's roots in one cut). By AI agents, Wed Nov 11 2026. No macro, syntax, notation, axiom, sorry.
-/
import Derived.Test.YtdgolhcekomcmaaChecked
import GoSem.Claim
import GoSem.ClaimJoined
import GoSem.ClaimMapViews
import Derived.JoinedTies
import Derived.KernelRfl
namespace Go.Proofs.Ytdgolhcekomcmaa
/- THE CELL 'sum', in the pinned program and in every row, IS THE sha256 OF THE DUMP (.gsa) THAT YtdgolhcekomcmaaProg.lean LOADS. Nothing in Lean hashes anything: it is a label: what it is worth is what the hold of that sum in a sandbox is worth. -/
noncomputable def Try.pinned : Pinned := { name := "ytdgolhcekomcmaa", sum := "bb7835315decd3c86984a9c35d01303882fb32eb6d4b651b4871e8cee86c1a2c", checked := Try.checked }
namespace Rows
def none {H : Type} : Left H := { results := [], args := [] }

/-- 'laws.FnReplayed': WHATEVER THE INPUT: true; the input reads as it did. -/
def fnReplayedSpec : ChangeSpec := { name := "fnReplayed", fn := fun _ => fun
  | [d] => { results := [.lit (.bool true)], args := [d] }
  | _ => none }
def fnReplayedRow : OpenClaim := { program := "ytdgolhcekomcmaa", sum := "bb7835315decd3c86984a9c35d01303882fb32eb6d4b651b4871e8cee86c1a2c", func := "loop.example/g00244/laws.FnReplayed", spec := "fnReplayed", unfollowed := true, recurses := true, apart := false }
def FnReplayedSaid : Prop := fnReplayedRow.holds Try.pinned (OpenSpec.ofChange fnReplayedSpec)

/-- ITS FALSE NEIGHBOUR: 'it returns false'. Refute it at one input. -/
def fnReplayedWrong : ChangeSpec := { name := "fnReplayed", fn := fun _ => fun
  | [d] => { results := [.lit (.bool false)], args := [d] }
  | _ => none }
def FnReplayedWrongFalsely : Prop := fnReplayedRow.holds Try.pinned (OpenSpec.ofChange fnReplayedWrong)

/-- 'laws.FnCrashed': WHATEVER THE INPUT: true; the input reads as it did. -/
def fnCrashedSpec : ChangeSpec := { name := "fnCrashed", fn := fun _ => fun
  | [d] => { results := [.lit (.bool true)], args := [d] }
  | _ => none }
def fnCrashedRow : OpenClaim := { program := "ytdgolhcekomcmaa", sum := "bb7835315decd3c86984a9c35d01303882fb32eb6d4b651b4871e8cee86c1a2c", func := "loop.example/g00244/laws.FnCrashed", spec := "fnCrashed", unfollowed := true, recurses := true, apart := false }
def FnCrashedSaid : Prop := fnCrashedRow.holds Try.pinned (OpenSpec.ofChange fnCrashedSpec)

/-- ITS FALSE NEIGHBOUR: 'it returns false'. Refute it at one input. -/
def fnCrashedWrong : ChangeSpec := { name := "fnCrashed", fn := fun _ => fun
  | [d] => { results := [.lit (.bool false)], args := [d] }
  | _ => none }
def FnCrashedWrongFalsely : Prop := fnCrashedRow.holds Try.pinned (OpenSpec.ofChange fnCrashedWrong)

/-- 'laws.FnShardsOk': WHATEVER THE INPUT: true; the input reads as it did. -/
def fnShardsOkSpec : ChangeSpec := { name := "fnShardsOk", fn := fun _ => fun
  | [d] => { results := [.lit (.bool true)], args := [d] }
  | _ => none }
def fnShardsOkRow : OpenClaim := { program := "ytdgolhcekomcmaa", sum := "bb7835315decd3c86984a9c35d01303882fb32eb6d4b651b4871e8cee86c1a2c", func := "loop.example/g00244/laws.FnShardsOk", spec := "fnShardsOk", unfollowed := true, recurses := true, apart := false }
def FnShardsOkSaid : Prop := fnShardsOkRow.holds Try.pinned (OpenSpec.ofChange fnShardsOkSpec)

/-- ITS FALSE NEIGHBOUR: 'it returns false'. Refute it at one input. -/
def fnShardsOkWrong : ChangeSpec := { name := "fnShardsOk", fn := fun _ => fun
  | [d] => { results := [.lit (.bool false)], args := [d] }
  | _ => none }
def FnShardsOkWrongFalsely : Prop := fnShardsOkRow.holds Try.pinned (OpenSpec.ofChange fnShardsOkWrong)

/-- 'laws.FnPrefixes': WHATEVER THE INPUT: true; the input reads as it did. -/
def fnPrefixesSpec : ChangeSpec := { name := "fnPrefixes", fn := fun _ => fun
  | [d] => { results := [.lit (.bool true)], args := [d] }
  | _ => none }
def fnPrefixesRow : OpenClaim := { program := "ytdgolhcekomcmaa", sum := "bb7835315decd3c86984a9c35d01303882fb32eb6d4b651b4871e8cee86c1a2c", func := "loop.example/g00244/laws.FnPrefixes", spec := "fnPrefixes", unfollowed := true, recurses := true, apart := false }
def FnPrefixesSaid : Prop := fnPrefixesRow.holds Try.pinned (OpenSpec.ofChange fnPrefixesSpec)

/-- ITS FALSE NEIGHBOUR: 'it returns false'. Refute it at one input. -/
def fnPrefixesWrong : ChangeSpec := { name := "fnPrefixes", fn := fun _ => fun
  | [d] => { results := [.lit (.bool false)], args := [d] }
  | _ => none }
def FnPrefixesWrongFalsely : Prop := fnPrefixesRow.holds Try.pinned (OpenSpec.ofChange fnPrefixesWrong)

/-- 'laws.FnExactShardNew': WHATEVER THE INPUT: true; the input reads as it did. -/
def fnExactShardNewSpec : ChangeSpec := { name := "fnExactShardNew", fn := fun _ => fun
  | [d] => { results := [.lit (.bool true)], args := [d] }
  | _ => none }
def fnExactShardNewRow : OpenClaim := { program := "ytdgolhcekomcmaa", sum := "bb7835315decd3c86984a9c35d01303882fb32eb6d4b651b4871e8cee86c1a2c", func := "loop.example/g00244/laws.FnExactShardNew", spec := "fnExactShardNew", apart := false }
def FnExactShardNewSaid : Prop := fnExactShardNewRow.holds Try.pinned (OpenSpec.ofChange fnExactShardNewSpec)

/-- ITS FALSE NEIGHBOUR: 'it returns false'. Refute it at one input. -/
def fnExactShardNewWrong : ChangeSpec := { name := "fnExactShardNew", fn := fun _ => fun
  | [d] => { results := [.lit (.bool false)], args := [d] }
  | _ => none }
def FnExactShardNewWrongFalsely : Prop := fnExactShardNewRow.holds Try.pinned (OpenSpec.ofChange fnExactShardNewWrong)

/-- 'laws.FnExactShardOk': WHATEVER THE INPUT: true; the input reads as it did. -/
def fnExactShardOkSpec : ChangeSpec := { name := "fnExactShardOk", fn := fun _ => fun
  | [d] => { results := [.lit (.bool true)], args := [d] }
  | _ => none }
def fnExactShardOkRow : OpenClaim := { program := "ytdgolhcekomcmaa", sum := "bb7835315decd3c86984a9c35d01303882fb32eb6d4b651b4871e8cee86c1a2c", func := "loop.example/g00244/laws.FnExactShardOk", spec := "fnExactShardOk", unfollowed := true, recurses := true, apart := false }
def FnExactShardOkSaid : Prop := fnExactShardOkRow.holds Try.pinned (OpenSpec.ofChange fnExactShardOkSpec)

/-- ITS FALSE NEIGHBOUR: 'it returns false'. Refute it at one input. -/
def fnExactShardOkWrong : ChangeSpec := { name := "fnExactShardOk", fn := fun _ => fun
  | [d] => { results := [.lit (.bool false)], args := [d] }
  | _ => none }
def FnExactShardOkWrongFalsely : Prop := fnExactShardOkRow.holds Try.pinned (OpenSpec.ofChange fnExactShardOkWrong)

/-- 'laws.FnExactMakeSure': WHATEVER THE INPUT: true; the input reads as it did. -/
def fnExactMakeSureSpec : ChangeSpec := { name := "fnExactMakeSure", fn := fun _ => fun
  | [d] => { results := [.lit (.bool true)], args := [d] }
  | _ => none }
def fnExactMakeSureRow : OpenClaim := { program := "ytdgolhcekomcmaa", sum := "bb7835315decd3c86984a9c35d01303882fb32eb6d4b651b4871e8cee86c1a2c", func := "loop.example/g00244/laws.FnExactMakeSure", spec := "fnExactMakeSure", unfollowed := true, recurses := true, apart := false }
def FnExactMakeSureSaid : Prop := fnExactMakeSureRow.holds Try.pinned (OpenSpec.ofChange fnExactMakeSureSpec)

/-- ITS FALSE NEIGHBOUR: 'it returns false'. Refute it at one input. -/
def fnExactMakeSureWrong : ChangeSpec := { name := "fnExactMakeSure", fn := fun _ => fun
  | [d] => { results := [.lit (.bool false)], args := [d] }
  | _ => none }
def FnExactMakeSureWrongFalsely : Prop := fnExactMakeSureRow.holds Try.pinned (OpenSpec.ofChange fnExactMakeSureWrong)

/- THE SECOND FORM. 'bulk': how many values and letters a reading holds, each counted each time it is reached (what is shared counts as often as it is met; a slice's spare places count too). A statement '..UptoSaid' is the law's where the arguments, and the package variables that the reading takes, are together of bulk at most 1048576: NARROWER than '..Said'. Prove '..Said' where nothing that the law and all that it calls make is longer than what came in: it says more and counts as full. Else prove '..UptoSaid'. A law counts once. -/
mutual
def uptoBulk {H : Type} : DataW H → Nat
  | .lit (.string bytes) => bytes.length + 1
  | .lit _ => 1
  | .nil => 1
  | .ptr d => uptoBulk d + 1
  | .slice elems spare => uptoBulkAll elems + uptoBulkAll spare + 1
  | .agg parts => uptoBulkAll parts + 1
  | .iface _ d => uptoBulk d + 1
  | .map entries => uptoBulkEntries entries + 1
  | .held _ => 1
def uptoBulkAll {H : Type} : List (DataW H) → Nat
  | [] => 0
  | d :: r => uptoBulk d + uptoBulkAll r
def uptoBulkEntries {H : Type} : List (Lit × DataW H) → Nat
  | [] => 0
  | x :: r => uptoBulkEntry x + uptoBulkEntries r
def uptoBulkEntry {H : Type} : Lit × DataW H → Nat
  | (.string bytes, d) => bytes.length + uptoBulk d + 1
  | (_, d) => uptoBulk d + 1
 end
def uptoSmall : (H : Type) → List (DataW H) → Bool := fun _ ds => decide (uptoBulkAll ds ≤ 1048576)
def OpenSpec.upto (s : _root_.Go.ChangeSpec) : _root_.Go.OpenSpec := { _root_.Go.OpenSpec.ofChange s with cond := some uptoSmall }

/-- 'laws.FnReplayed', WHERE WHAT IT READS IS OF BULK AT MOST 1048576: true; the input reads as it did. -/
def fnReplayedUptoRow : OpenClaim := { program := "ytdgolhcekomcmaa", sum := "bb7835315decd3c86984a9c35d01303882fb32eb6d4b651b4871e8cee86c1a2c", func := "loop.example/g00244/laws.FnReplayed", spec := "fnReplayed", unfollowed := true, recurses := true, apart := false, narrowed := true }
def FnReplayedUptoSaid : Prop := fnReplayedUptoRow.holds Try.pinned (OpenSpec.upto fnReplayedSpec)

/-- 'laws.FnCrashed', WHERE WHAT IT READS IS OF BULK AT MOST 1048576: true; the input reads as it did. -/
def fnCrashedUptoRow : OpenClaim := { program := "ytdgolhcekomcmaa", sum := "bb7835315decd3c86984a9c35d01303882fb32eb6d4b651b4871e8cee86c1a2c", func := "loop.example/g00244/laws.FnCrashed", spec := "fnCrashed", unfollowed := true, recurses := true, apart := false, narrowed := true }
def FnCrashedUptoSaid : Prop := fnCrashedUptoRow.holds Try.pinned (OpenSpec.upto fnCrashedSpec)

/-- 'laws.FnShardsOk', WHERE WHAT IT READS IS OF BULK AT MOST 1048576: true; the input reads as it did. -/
def fnShardsOkUptoRow : OpenClaim := { program := "ytdgolhcekomcmaa", sum := "bb7835315decd3c86984a9c35d01303882fb32eb6d4b651b4871e8cee86c1a2c", func := "loop.example/g00244/laws.FnShardsOk", spec := "fnShardsOk", unfollowed := true, recurses := true, apart := false, narrowed := true }
def FnShardsOkUptoSaid : Prop := fnShardsOkUptoRow.holds Try.pinned (OpenSpec.upto fnShardsOkSpec)

/-- 'laws.FnPrefixes', WHERE WHAT IT READS IS OF BULK AT MOST 1048576: true; the input reads as it did. -/
def fnPrefixesUptoRow : OpenClaim := { program := "ytdgolhcekomcmaa", sum := "bb7835315decd3c86984a9c35d01303882fb32eb6d4b651b4871e8cee86c1a2c", func := "loop.example/g00244/laws.FnPrefixes", spec := "fnPrefixes", unfollowed := true, recurses := true, apart := false, narrowed := true }
def FnPrefixesUptoSaid : Prop := fnPrefixesUptoRow.holds Try.pinned (OpenSpec.upto fnPrefixesSpec)

/-- 'laws.FnExactShardNew', WHERE WHAT IT READS IS OF BULK AT MOST 1048576: true; the input reads as it did. -/
def fnExactShardNewUptoRow : OpenClaim := { program := "ytdgolhcekomcmaa", sum := "bb7835315decd3c86984a9c35d01303882fb32eb6d4b651b4871e8cee86c1a2c", func := "loop.example/g00244/laws.FnExactShardNew", spec := "fnExactShardNew", apart := false, narrowed := true }
def FnExactShardNewUptoSaid : Prop := fnExactShardNewUptoRow.holds Try.pinned (OpenSpec.upto fnExactShardNewSpec)

/-- 'laws.FnExactShardOk', WHERE WHAT IT READS IS OF BULK AT MOST 1048576: true; the input reads as it did. -/
def fnExactShardOkUptoRow : OpenClaim := { program := "ytdgolhcekomcmaa", sum := "bb7835315decd3c86984a9c35d01303882fb32eb6d4b651b4871e8cee86c1a2c", func := "loop.example/g00244/laws.FnExactShardOk", spec := "fnExactShardOk", unfollowed := true, recurses := true, apart := false, narrowed := true }
def FnExactShardOkUptoSaid : Prop := fnExactShardOkUptoRow.holds Try.pinned (OpenSpec.upto fnExactShardOkSpec)

/-- 'laws.FnExactMakeSure', WHERE WHAT IT READS IS OF BULK AT MOST 1048576: true; the input reads as it did. -/
def fnExactMakeSureUptoRow : OpenClaim := { program := "ytdgolhcekomcmaa", sum := "bb7835315decd3c86984a9c35d01303882fb32eb6d4b651b4871e8cee86c1a2c", func := "loop.example/g00244/laws.FnExactMakeSure", spec := "fnExactMakeSure", unfollowed := true, recurses := true, apart := false, narrowed := true }
def FnExactMakeSureUptoSaid : Prop := fnExactMakeSureUptoRow.holds Try.pinned (OpenSpec.upto fnExactMakeSureSpec)

end Rows
end Go.Proofs.Ytdgolhcekomcmaa
