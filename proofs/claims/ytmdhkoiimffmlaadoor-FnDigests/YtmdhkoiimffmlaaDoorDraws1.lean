/- What the draws of the first chapter's laws hand back. -/
import Derived.Test.YtmdhkoiimffmlaaDoorDraw
import Derived.Deep.RegionWith
namespace Go.Proofs.YtmdhkoiimffmlaaDoor.draw
open Go.RowKit Go.Proofs.YtmdhkoiimffmlaaDoor.base
set_option linter.unusedVariables false
set_option linter.unusedSimpArgs false

theorem below_of_grown {w w' : World} {gc : Nat} (h : w.grownBy w' (some gc)) (B : Nat) (hB : B ≤ gc) (hs : B ≤ w.heap.size) : Below B w w' := below_grown h hB hs
theorem Cur.drew {w0 w : World} {gc : Nat} {a : Option Addr} {len cap : Nat} {code : List UInt8} (h : Cur w0 w gc a len cap code) : Cur w0 w.drew gc a len cap code :=
  ⟨h.1, h.2.1.drew, h.2.2⟩

set_option maxRecDepth 100000 in
set_option maxHeartbeats 1000000 in
theorem some_ (w0 w : World) (gc : Nat) (a : Option Addr) (len cap : Nat) (code : List UInt8) (h : Cur w0 w gc a len cap code) :
    Calls Tryd.prog 40 #[.pointer (some ⟨gc, 0, none⟩)] w fun e w' => GotBytes w0 w gc a len cap code e w' := by
  have hlt := h.lt
  have hba : ∀ o, Below w.heap.size w (w.alloc o) := fun o => (Below.refl _ _).alloc (Nat.le_refl _) _
  go_enter Tryd.func40, Tryd.ntmps40
  go_wp2_with fail
  refine (int_ w0 _ gc a len cap code w.heap.size 5 5 _ _ (h.below (hba _)) (heap_alloc_new w _) rfl (by omega) (by omega) (by omega) (fun z => z ≤ 1000) ?_).mono ?_
  · intro i hi
    match i, hi with
    | 0, _ => exact ⟨_, rfl, by omega⟩
    | 1, _ => exact ⟨_, rfl, by omega⟩
    | 2, _ => exact ⟨_, rfl, by omega⟩
    | 3, _ => exact ⟨_, rfl, by omega⟩
    | 4, _ => exact ⟨_, rfl, by omega⟩
  rintro e w1 ⟨z, hz, rfl, hC1, hG1⟩
  have hG1' := grownBy_trans (grown_alloc0 w _ (some gc)) hG1
  clear hG1
  go_wp2_with fail
  refine (bytes_ w0 _ gc a len cap code z hC1 hz).mono ?_
  rintro e w2 ⟨g, m, cp, bs, hm, rfl, hO2, hC2, hG2⟩
  go_wp2_with fail
  go_ret
  exact ⟨g, m, cp, bs, hm, rfl, hO2.mono hG1'.size, hC2, grownBy_trans hG1' hG2⟩

def GotNum (w : World) (e : Ending) (w' : World) : Prop :=
  ∃ (g m cp : Nat) (bs : List UInt8) (z : Int), m ≤ 1000 ∧ (Lit.int .i64 z).wf = true ∧ e = .returned (.tuple #[.slice (some ⟨g, 0, none⟩) m cp, .int .i64 z]) ∧ Own w' w.heap.size g m cp bs ∧ Below w.heap.size w w'


def GotText (w : World) (e : Ending) (w' : World) : Prop :=
  ∃ (g m cp : Nat) (bs ss : List UInt8), m ≤ 1000 ∧ ss.length ≤ 1000 ∧ e = .returned (.tuple #[.slice (some ⟨g, 0, none⟩) m cp, .string ⟨ss.toArray⟩]) ∧ Own w' w.heap.size g m cp bs ∧ Below w.heap.size w w'


def GotStr (w : World) (e : Ending) (w' : World) : Prop :=
  ∃ (ss : List UInt8), ss.length ≤ 1000 ∧ e = .returned (.string ⟨ss.toArray⟩) ∧ Below w.heap.size w w'


end Go.Proofs.YtmdhkoiimffmlaaDoor.draw
