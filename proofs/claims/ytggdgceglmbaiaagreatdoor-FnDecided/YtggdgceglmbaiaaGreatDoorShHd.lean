/- The specification's shard: it holds, does and lets go, whatever it is. -/
import Derived.Test.YtggdgceglmbaiaaGreatDoorBund9ay
import Derived.Test.YtggdgceglmbaiaaGreatDoorBund9ba
import Derived.Test.YtggdgceglmbaiaaGreatDoorBund9av
namespace Go.Proofs.YtggdgceglmbaiaaGreatDoor.recs
open Go Go.RowKit Go.Proofs.YtggdgceglmbaiaaGreatDoor.base Go.Proofs.YtggdgceglmbaiaaGreatDoor.pairs Go.Proofs.YtggdgceglmbaiaaGreatDoor.ords Go.Proofs.YtggdgceglmbaiaaGreatDoor.helps Go.Proofs.YtggdgceglmbaiaaGreatDoor.help Go.Proofs.YtggdgceglmbaiaaGreatDoor.lay
set_option linter.unusedVariables false
set_option linter.unusedSimpArgs false

/-- a shard and a value that are answered: the shard new, and its own -/
def Ret2 (w : World) (r : Shd) (v : Value) (e : Ending) (w' : World) : Prop :=
  ∃ (la : Option Addr) (ln lc : Nat) (ma : Option Addr) (mn mc : Nat) (ha : Option Addr) (hn hc : Nat) (F : List Nat), e = .returned (.tuple #[aggSh r.1 r.2.2.1 la ln lc ma mn mc ha hn hc, v]) ∧ OwnSh w' la ln lc ma mn mc ha hn hc r F ∧ (∀ k ∈ F, w.heap.size ≤ k) ∧ Below w.heap.size w w'
theorem ret2_mk {w w' : World} {la ma ha : Option Addr} {ln lc mn mc hn hc : Nat} {s : Shd} {F : List Nat} {v : Value} (h : OwnSh w' la ln lc ma mn mc ha hn hc s F) (hF : ∀ k ∈ F, w.heap.size ≤ k) (hb : Below w.heap.size w w') : Ret2 w s v (.returned (.tuple #[aggSh s.1 s.2.2.1 la ln lc ma mn mc ha hn hc, v])) w' :=
  ⟨la, ln, lc, ma, mn, mc, ha, hn, hc, F, rfl, h, hF, hb⟩
end Go.Proofs.YtggdgceglmbaiaaGreatDoor.recs
