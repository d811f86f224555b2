/- The program's shard: how many keys are held, how much room there is. -/
import Derived.Test.YtggdgceglmbaiaaGreatDoorBund9bi
namespace Go.Proofs.YtggdgceglmbaiaaGreatDoor.recs
open Go Go.RowKit Go.Proofs.YtggdgceglmbaiaaGreatDoor.base Go.Proofs.YtggdgceglmbaiaaGreatDoor.pairs Go.Proofs.YtggdgceglmbaiaaGreatDoor.ords Go.Proofs.YtggdgceglmbaiaaGreatDoor.helps Go.Proofs.YtggdgceglmbaiaaGreatDoor.help Go.Proofs.YtggdgceglmbaiaaGreatDoor.lay Go.Proofs.YtggdgceglmbaiaaGreatDoor.sent
set_option linter.unusedVariables false
set_option linter.unusedSimpArgs false

set_option maxRecDepth 100000 in
theorem i_room (la : Option Addr) (ln lc : Nat) (ma : Option Addr) (mn mc : Nat) (ha : Option Addr) (hn hc : Nat) (s : Shd) (w : World) (hln : ln + hn ≤ 300) :
    Calls Tryz.prog 43 #[aggSh s.1 s.2.2.1 la ln lc ma mn mc ha hn hc] w fun e w' => e = .returned (.int .i64 (300 - (ln : Int) - (hn : Int))) ∧ Below w.heap.size w w' := by
  obtain ⟨W, hW⟩ : ∃ W, w.alloc (boxSh s.1 s.2.2.1 la ln lc ma mn mc ha hn hc) = W := ⟨_, rfl⟩
  have hB : Below w.heap.size w W := by rw [← hW]; exact (Below.refl _ _).alloc (Nat.le_refl _) _
  have hbx : BoxIn w.heap.size 27 [] (shVals s.1 s.2.2.1 la ln lc ma mn mc ha hn hc) [] W := by rw [← hW]; exact boxIn_new w _ _
  have c1 := hbx.cell 1 _ rfl
  have c4 := hbx.cell 4 _ rfl
  simp only [List.length_nil, Nat.zero_add] at c1 c4
  have HW := Hid.mk' hW
  rw [← hW] at c1 c4
  have hw1 : IntKind.i64.wrap (300 - (ln : Int)) = 300 - (ln : Int) := wraps_i64 _ (by omega) (by omega)
  have hw2 : IntKind.i64.wrap (300 - (ln : Int) - (hn : Int)) = 300 - (ln : Int) - (hn : Int) := wraps_i64 _ (by omega) (by omega)
  clear hW
  go_enter Tryz.func43, Tryz.ntmps43
  go_wp2_with fail
  rw [HW.out]
  go_ret
  exact ⟨rfl, hB⟩
end Go.Proofs.YtggdgceglmbaiaaGreatDoor.recs
