/- The specification's jobs: whether one is right. -/
import Derived.Test.YtmpggohilmngpaaCoS
import Derived.Test.YtmpggohilmngpaaOrdT
import Derived.BigQuiet
namespace Go.Proofs.Ytmpggohilmngpaa.cos
open Go Go.RowKit Go.Proofs.Ytmpggohilmngpaa.base Go.Proofs.Ytmpggohilmngpaa.pairs Go.Proofs.Ytmpggohilmngpaa.ords Go.Proofs.Ytmpggohilmngpaa.lay Go.Proofs.Ytmpggohilmngpaa.wds
set_option linter.unusedVariables false
set_option linter.unusedSimpArgs false

/-- a box of a job -/
def BoxJ (X : Nat) (tx st : Int) (v y : Value) (w : World) : Prop := w.heap[X]? = some (.cells #[.int .i64 tx, v, .int .i64 st, y] 39 (0, 0))
section
variable {X : Nat} {tx st : Int} {v y : Value} {w w' : World}
theorem BoxJ.cells (h : BoxJ X tx st v y w) : w.cell? ⟨X, 0, none⟩ = some (.int .i64 tx) ∧ w.cell? ⟨X, 1, none⟩ = some v ∧ w.cell? ⟨X, 2, none⟩ = some (.int .i64 st) ∧ w.cell? ⟨X, 3, none⟩ = some y := by
  unfold BoxJ at h
  simp [World.cell?, h]
theorem BoxJ.lt (h : BoxJ X tx st v y w) : X < w.heap.size := (Array.getElem?_eq_some_iff.1 h).1
theorem BoxJ.below (h : BoxJ X tx st v y w) (hb : Below w.heap.size w w') : BoxJ X tx st v y w' := (hb.block X h.lt).trans h
end
/-- the transaction ahead of a job -/
def prevTx (jobs : List Jb) (i : Nat) : Option Int := match i with | 0 => none | i + 1 => (jobs[i]?).map fun j => j.1
/-- what is told ahead of the shards that said yes -/
def jobA (life next : Int) (p : Option Int) (j : Jb) : Bool := decide (life * 1000 ≤ j.1 ∧ j.1 ≤ life * 1000 + next - 1) && (match p with | none => true | some q => decide (q < j.1)) && opsOk j.2.1 && decide (1 ≤ j.2.2.1 ∧ j.2.2.1 ≤ 3)
theorem jobOk_eq (n life next : Int) (log : List Ch) (p : Option Int) (j : Jb) : jobOk n life next log p j = (jobA life next p j && yesOk (shardsOf n j.2.1) none j.2.2.2 && stateOk j.2.2.1 (choice log j.1)) := rfl
/-- the world while a job is looked at: the boxes and what is read -/
structure AtJ (w0 w : World) (n life next sure : Int) (ja : Option Addr) (jn jc : Nat) (la : Option Addr) (ln lc : Nat) (tx st : Int) (oa : Option Addr) (ol oc : Nat) (ya : Option Addr) (yl yc : Nat) (ops : List Od) (yes : List Int) (log : List Ch) : Prop where
  bel : Below w0.heap.size w0 w
  bc : BoxC w0.heap.size n life next sure ja jn jc la ln lc w
  bj : BoxJ (w0.heap.size + 1) tx st (.slice oa ol oc) (.slice ya yl yc) w
  ops : SlO w oa ol ops
  yes : SlZ w ya yl yes
  log : SlG chR w la ln log
theorem AtJ.below {w0 w w' : World} {n life next sure : Int} {ja : Option Addr} {jn jc : Nat} {la : Option Addr} {ln lc : Nat} {tx st : Int} {oa : Option Addr} {ol oc : Nat} {ya : Option Addr} {yl yc : Nat} {ops : List Od} {yes : List Int} {log : List Ch} (h : AtJ w0 w n life next sure ja jn jc la ln lc tx st oa ol oc ya yl yc ops yes log) (hb : Below w.heap.size w w') : AtJ w0 w' n life next sure ja jn jc la ln lc tx st oa ol oc ya yl yc ops yes log :=
  ⟨h.bel.trans (hb.mono h.bel.size), h.bc.below hb, h.bj.below hb, h.ops.below hb, h.yes.below hb, h.log.below hb⟩
theorem yes_step {list : List Int} {yes : List Int} {k : Nat} {p : Option Int} (hk : k < yes.length) : yesOk list p (yes.drop k) = ((decide (yes[k] ∈ list) && match p with | none => true | some q => decide (q < yes[k])) && yesOk list (some yes[k]) (yes.drop (k + 1))) := by
  rw [List.drop_eq_getElem_cons hk]; rfl
def prevZ (l : List Int) (k : Nat) : Option Int := match k with | 0 => none | k + 1 => l[k]?
theorem prevZ_succ {l : List Int} {k : Nat} (hk : k < l.length) : prevZ l (k + 1) = some l[k] := List.getElem?_eq_getElem hk
end Go.Proofs.Ytmpggohilmngpaa.cos
