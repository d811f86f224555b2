/- What the draws of the first chapter's laws hand back. -/
import Derived.Test.YtdiiabfkckbajaaDraw
import Derived.Test.YtdiiabfkckbajaaGetTexts
import Derived.Deep.RegionWith
namespace Go.Proofs.Ytdiiabfkckbajaa.draw
open Go.RowKit Go.Proofs.Ytdiiabfkckbajaa.base Go.Proofs.Ytdiiabfkckbajaa.help Go.Proofs.Ytdiiabfkckbajaa.helps Go.Proofs.Ytdiiabfkckbajaa.putnum Go.Proofs.Ytdiiabfkckbajaa.gettext Go.Proofs.Ytdiiabfkckbajaa.gettexts
set_option linter.unusedVariables false
set_option linter.unusedSimpArgs false

theorem below_of_grown {w w' : World} {gc : Nat} (h : w.grownBy w' (some gc)) (B : Nat) (hB : B ≤ gc) (hs : B ≤ w.heap.size) : Below B w w' := below_grown h hB hs
theorem grown_alloc0 (w : World) (o : Obj) (row : Option Nat) : w.grownBy (w.alloc o) row := World.grownBy_alloc w o row
theorem Cur.drew {w0 w : World} {gc : Nat} {a : Option Addr} {len cap : Nat} {code : List UInt8} (h : Cur w0 w gc a len cap code) : Cur w0 w.drew gc a len cap code :=
  ⟨h.1, h.2.1.drew, h.2.2⟩

set_option maxRecDepth 100000 in
set_option maxHeartbeats 1000000 in
theorem some_ (w0 w : World) (gc : Nat) (a : Option Addr) (len cap : Nat) (code : List UInt8) (h : Cur w0 w gc a len cap code) :
    Calls Try.prog 43 #[.pointer (some ⟨gc, 0, none⟩)] w fun e w' => GotBytes w0 w gc a len cap code e w' := by
  have hlt := h.lt
  have hba : ∀ o, Below w.heap.size w (w.alloc o) := fun o => (Below.refl _ _).alloc (Nat.le_refl _) _
  go_enter Try.func43, Try.ntmps43
  go_wp2_with fail
  refine (int_ w0 _ gc a len cap code w.heap.size 5 5 _ _ (h.below (hba _)) (heap_alloc_new w _) rfl (by omega) (by omega) (by omega) (fun z => z ≤ 1000) ?_).mono ?_
  · intro i hi
    match i, hi with
    | 0, _ => exact ⟨_, rfl, by omega⟩
    | 1, _ => exact ⟨_, rfl, by omega⟩
    | 2, _ => exact ⟨_, rfl, by omega⟩
    | 3, _ => exact ⟨_, rfl, by omega⟩
    | 4, _ => exact ⟨_, rfl, by omega⟩
  rintro e w1 ⟨z, hz, rfl, hC1, hG1⟩
  have hG1' := grownBy_trans (grown_alloc0 w _ (some gc)) hG1
  clear hG1
  go_wp2_with fail
  refine (bytes_ w0 _ gc a len cap code z hC1 hz).mono ?_
  rintro e w2 ⟨g, m, cp, bs, hm, rfl, hO2, hC2, hG2⟩
  go_wp2_with fail
  go_ret
  exact ⟨g, m, cp, bs, hm, rfl, hO2.mono hG1'.size, hC2, grownBy_trans hG1' hG2⟩

def GotNum (w : World) (e : Ending) (w' : World) : Prop :=
  ∃ (g m cp : Nat) (bs : List UInt8) (z : Int), m ≤ 1000 ∧ (Lit.int .i64 z).wf = true ∧ e = .returned (.tuple #[.slice (some ⟨g, 0, none⟩) m cp, .int .i64 z]) ∧ Own w' w.heap.size g m cp bs ∧ Below w.heap.size w w'

set_option maxRecDepth 100000 in
set_option maxHeartbeats 1000000 in
theorem drawPutNum (a : Option Addr) (len cap : Nat) (code : List UInt8) (w : World) (h : Sl w a len code) (hln : len ≤ 1099511627776) :
    Calls Try.prog 13 #[.slice a len cap] w fun e w' => GotNum w e w' := by
  go_enter Try.func13, Try.ntmps13
  go_wp2_with fail
  refine (new_ w w a len cap code h (Below.refl _ _) hln).mono ?_
  rintro e w1 ⟨rfl, hC1, hB1⟩
  go_wp2_with fail
  refine (some_ w _ _ a len cap code hC1).mono ?_
  rintro e w2 ⟨g, m, cp, bs, hm, rfl, hO2, hC2, hG2⟩
  have hlt1 := hC1.lt
  clear hC1
  go_wp2_with fail
  refine (below_ w _ _ a len cap code _ hC2 (by omega) (by omega)).mono ?_
  rintro e w3 ⟨x, hx, rfl, hC3, hG3⟩
  have hO3 : Own w3 w1.heap.size g m cp bs := hO2.grown hG3 (by have := hO2.lt; simp; omega)
  have hG23 := grownBy_trans hG2 hG3
  have hlt3 := hC3.lt
  have hba : ∀ o, Below w3.heap.size w3 (w3.alloc o) := fun o => (Below.refl _ _).alloc (Nat.le_refl _) _
  clear hO2 hC2 hG2 hG3
  go_wp2_with fail
  refine (int_ w _ _ a len cap code w3.heap.size 11 11 _ _ (hC3.below (hba _)) (heap_alloc_new w3 _) rfl (by omega) (by omega) (by omega) (fun z => (Lit.int .i64 z).wf = true) ?_).mono ?_
  · intro i hi
    match i, hi with
    | 0, _ => exact ⟨_, rfl, by decide⟩
    | 1, _ => exact ⟨_, rfl, by decide⟩
    | 2, _ => exact ⟨_, rfl, by decide⟩
    | 3, _ => exact ⟨_, rfl, by decide⟩
    | 4, _ => exact ⟨_, rfl, by decide⟩
    | 5, _ => exact ⟨_, rfl, by decide⟩
    | 6, _ => exact ⟨_, rfl, by decide⟩
    | 7, _ => exact ⟨_, rfl, by decide⟩
    | 8, _ => exact ⟨_, rfl, by decide⟩
    | 9, _ => exact ⟨_, rfl, by decide⟩
    | 10, _ => exact ⟨_, rfl, WalkArith.wf_i64 (by omega)⟩
  rintro e w4 ⟨z, hz, rfl, hC4, hG4⟩
  have hO4 : Own w4 w1.heap.size g m cp bs := (hO3.below (hba _)).grown hG4 (by have := hO3.lt; simp; omega)
  have hG4' := grownBy_trans hG23 (grownBy_trans (grown_alloc0 w3 _ _) hG4)
  go_wp2_with fail
  go_ret2
  exact ⟨g, m, cp, bs, z, hm, hz, rfl, hO4.mono hB1.size, hC4.bel⟩

theorem conv_own {w : World} {base g m cp : Nat} {bs : List UInt8} (h : Own w base g m cp bs) :
    (convert 22 9 (.slice (some ⟨g, 0, none⟩) m cp)).run Try.prog w = .ok (.string ⟨bs.toArray⟩) w := by
  have h1 := conv_cut (w := w) (b := g) (off := 0) (p := 0) (n := m) h.sl (by have := h.1; omega) cp
  have e : cut bs 0 m = ⟨bs.toArray⟩ := by unfold cut; rw [List.drop_zero, List.take_of_length_le (by have := h.1; omega)]
  rw [e] at h1
  exact h1

def GotText (w : World) (e : Ending) (w' : World) : Prop :=
  ∃ (g m cp : Nat) (bs ss : List UInt8), m ≤ 1000 ∧ ss.length ≤ 1000 ∧ e = .returned (.tuple #[.slice (some ⟨g, 0, none⟩) m cp, .string ⟨ss.toArray⟩]) ∧ Own w' w.heap.size g m cp bs ∧ Below w.heap.size w w'

set_option maxRecDepth 100000 in
set_option maxHeartbeats 1000000 in
theorem drawPutText (a : Option Addr) (len cap : Nat) (code : List UInt8) (w : World) (h : Sl w a len code) (hln : len ≤ 1099511627776) :
    Calls Try.prog 16 #[.slice a len cap] w fun e w' => GotText w e w' := by
  go_enter Try.func16, Try.ntmps16
  go_wp2_with fail
  refine (new_ w w a len cap code h (Below.refl _ _) hln).mono ?_
  rintro e w1 ⟨rfl, hC1, hB1⟩
  have hCd := hC1.drew
  go_wp2_with fail
  go_region_with (go_at_call 43; refine (some_ w _ _ a len cap code (by assumption)).mono ?_; rintro e w2 ⟨g, m, cp, bs, hm, rfl, hO2, hC2, hG2⟩; have hcv := conv_own hO2)
  rename_i w2a ga ma cpa bsa hma hOa hCa hGa hcva
  have hOb : Own w2 w1.heap.size ga ma cpa bsa := hOa.grown hG2 (by have := hOa.lt; have := hC1.lt; simp at *; omega)
  have hbl := hO2.1
  clear hcv hcva
  go_wp2
  go_ret2
  exact ⟨ga, ma, cpa, bsa, bs, hma, by omega, rfl, hOb.mono hB1.size, hC2.bel⟩

def GotStr (w : World) (e : Ending) (w' : World) : Prop :=
  ∃ (ss : List UInt8), ss.length ≤ 1000 ∧ e = .returned (.string ⟨ss.toArray⟩) ∧ Below w.heap.size w w'

set_option maxRecDepth 100000 in
set_option maxHeartbeats 1000000 in
theorem drawHash (a : Option Addr) (len cap : Nat) (code : List UInt8) (w : World) (h : Sl w a len code) (hln : len ≤ 1099511627776) :
    Calls Try.prog 22 #[.slice a len cap] w fun e w' => GotStr w e w' := by
  go_enter Try.func22, Try.ntmps22
  go_wp2_with fail
  refine (new_ w w a len cap code h (Below.refl _ _) hln).mono ?_
  rintro e w1 ⟨rfl, hC1, hB1⟩
  go_wp2_with fail
  refine (some_ w _ _ a len cap code hC1).mono ?_
  rintro e w2 ⟨g, m, cp, bs, hm, rfl, hO2, hC2, hG2⟩
  have hcv := conv_own hO2
  have hbl := hO2.1
  go_wp2_with fail
  go_ret
  exact ⟨bs, by omega, rfl, hC2.bel⟩

end Go.Proofs.Ytdiiabfkckbajaa.draw
