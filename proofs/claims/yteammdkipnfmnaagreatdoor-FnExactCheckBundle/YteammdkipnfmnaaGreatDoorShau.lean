/- The program's items of a proof, which come out of an iterator. The program's right pairs, and pairs put into others. The program's right pairs, and pairs put into others, whole. The specification's proving of all between. A call inside a region that draws its order, as a law of one step. No function of the program is named here. The specification's proving of all between, where the pairs are right. The program's proving of all between. The program's placed items of a proof, which come out of an iterator. The program's ends of a proof. -/
import Derived.Test.YteammdkipnfmnaaGreatDoorShas
import Derived.Test.YteammdkipnfmnaaGreatDoorShah
import Derived.Test.YteammdkipnfmnaaGreatDoorShat
import Derived.Shelf.RegionOpen
import Derived.RangeFuncBound
import Derived.WalkKit
import Derived.OwnWalkIn
import Derived.TacticsInMore
import Derived.LoopNIn
import Derived.LoopIn
import Derived.Test.YteammdkipnfmnaaGreatDoorShar
import Derived.Test.YteammdkipnfmnaaGreatDoorShak
import Derived.Test.YteammdkipnfmnaaGreatDoorShag
import Derived.Test.YteammdkipnfmnaaGreatDoorShaj
import Derived.Deep.RegionLaw
import Derived.WalkSpells
import Derived.WalkLawsBesides
import Derived.Deep.CutBlock
import Derived.Deep.Light
namespace Go.Proofs.YteammdkipnfmnaaGreatDoor.range
open Go Go.RowKit Go.Shelf Go.Proofs.YteammdkipnfmnaaGreatDoor.base Go.Proofs.YteammdkipnfmnaaGreatDoor.pairs Go.Proofs.YteammdkipnfmnaaGreatDoor.tree
set_option linter.unusedVariables false
set_option linter.unusedSimpArgs false
attribute [local go_sem] Oper.semAt_some

end Go.Proofs.YteammdkipnfmnaaGreatDoor.range

namespace Go.Proofs.YteammdkipnfmnaaGreatDoor.pairs
open Go Go.RowKit Go.Proofs.YteammdkipnfmnaaGreatDoor.base
set_option linter.unusedVariables false
set_option linter.unusedSimpArgs false

/-! ### pairs that rise -/
def rise : List Pr → Bool
  | [] => true
  | p :: l => (match l.head? with | none => true | some q => ltB p.1 q.1) && rise l
theorem rise_step (l : List Pr) (j : Nat) (h1 : 1 ≤ j) (h : j < l.length) : rise (l.drop (j - 1)) = (ltB l[j - 1].1 l[j].1 && rise (l.drop j)) := by
  rw [List.drop_eq_getElem_cons (by omega : j - 1 < l.length), rise, show j - 1 + 1 = j by omega, List.head?_drop, List.getElem?_eq_getElem h]
theorem rise_end (l : List Pr) (j : Nat) (h : l.length ≤ j) : rise (l.drop (j - 1)) = true := by
  by_cases h2 : j - 1 < l.length
  · rw [List.drop_eq_getElem_cons h2, rise, List.drop_eq_nil_of_le (by omega)]; rfl
  · rw [List.drop_eq_nil_of_le (by omega)]; rfl
set_option maxRecDepth 100000 in
set_option maxHeartbeats 2000000 in
theorem i_rises (b off cap : Nat) (l : List Pr) (w : World) (h : SlP w (some ⟨b, off, none⟩) l.length l) (hsz : l.length ≤ 1099511627776) :
    Calls Tryz.prog 60 #[.slice (some ⟨b, off, none⟩) l.length cap] w fun e w' => e = .returned (.bool (rise l)) ∧ Below w.heap.size w w' := by
  have hmt := i_meth
  generalize hR : rise l = R
  have HR := Hid.mk' hR
  clear hR
  go_enter Tryz.func60, Tryz.ntmps60
  go_wp2_with fail
  go_loopw [3] (fun i wr => ∃ j : Nat, 1 ≤ j ∧ j ≤ l.length + 1 ∧ i = .int .i64 (j : Int) ∧ rise (l.drop (j - 1)) = R ∧ Below w.heap.size w wr) (fun i _ => l.length + 1 - (intOf i).toNat)
  case atStart => exact ⟨1, Nat.le_refl _, by omega, rfl, HR.out, Below.refl _ _⟩
  case round =>
    obtain ⟨j, hj1, hj2, rfl, hr, hB⟩ := hrel
    by_cases hlt : j < l.length
    · have hS := h.below hB
      have hbl := hS.lt (by omega)
      have hst := rise_step l j hj1 hlt
      rw [hr] at hst
      obtain ⟨c1, c2⟩ := hS.cells j hlt
      obtain ⟨c3, c4⟩ := hS.cells (j - 1) (by omega)
      have hji : (j : Int) < (l.length : Int) := by omega
      obtain ⟨k, hk⟩ : ∃ k, j - 1 = k := ⟨_, rfl⟩
      have hkw : (j : Int) - 1 = (k : Int) := by omega
      have hki : (k : Int) < (l.length : Int) := by omega
      have hne : Op.bytesLess l[j - 1].1.toList l[j].1.toList = ltB l[j - 1].1 l[j].1 := rfl
      generalize l[j] = p at *
      generalize l[j - 1] = q at *
      rw [hk] at c3 c4
      have o1 := last.On.cell c1 hbl
      have o2 := last.On.cell c2 hbl
      have o3 := last.On.cell c3 hbl
      have o4 := last.On.cell c4 hbl
      cases hL : ltB q.1 p.1
      all_goals
        rw [hL] at hst hne
        have HST := Hid.mk' hst
        clear hst hr hL hS hk
        go_wp2_with fail
        have hinh := last.On.inh wr.heap.size wr
        have hc1 : ∀ x : last.On wr.heap.size wr, Calls Tryz.prog 167 #[.agg #[.string p.1, .string p.2]] x.w fun e w' => e = .returned (.string p.1) ∧ ∃ y : last.On wr.heap.size wr, w' = y.w := fun x => last.Calls.on x (Nat.le_refl _) ((i_key p x.w).mono fun e w' ⟨he, hw⟩ => ⟨he, by rw [hw]; exact (Below.refl _ _).alloc (Nat.le_refl _) _⟩)
        have hc2 : ∀ x : last.On wr.heap.size wr, Calls Tryz.prog 167 #[.agg #[.string q.1, .string q.2]] x.w fun e w' => e = .returned (.string q.1) ∧ ∃ y : last.On wr.heap.size wr, w' = y.w := fun x => last.Calls.on x (Nat.le_refl _) ((i_key q x.w).mono fun e w' ⟨he, hw⟩ => ⟨he, by rw [hw]; exact (Below.refl _ _).alloc (Nat.le_refl _) _⟩)
        refine last.wp_region_on wr.heap.size (by kernel_rfl) (by kernel_rfl) ?_
        repeat (go_big_quiet_step ((go_at_call 167; first | exact hc1 _ | exact hc2 _)))
        refine wpQuiet_nil ?_
        intro w5 hw5
        obtain ⟨x5, hw5⟩ := hw5
        subst hw5
        have hB5 : Below w.heap.size w x5.w := hB.trans (x5.2.mono hB.size)
        go_wp2_with fail
      · go_ret
        exact ⟨ret_bool (by rw [HST.out]; rfl), hB5⟩
      · go_roundw
        case rel => exact ⟨j + 1, by omega, by omega, by go_num, by rw [HST.out]; simp, hB5⟩
        case measure => simp [intOf]; omega
    · have HF : Hid (R = true) := by show _ = _; rw [← hr]; exact rise_end l j (by omega)
      clear hr
      go_wp2_with fail
      go_ret
      exact ⟨ret_bool (by rw [HF.out]), hB⟩

end Go.Proofs.YteammdkipnfmnaaGreatDoor.pairs

namespace Go.Proofs.YteammdkipnfmnaaGreatDoor.pairs
open Go Go.RowKit Go.Proofs.YteammdkipnfmnaaGreatDoor.base
set_option linter.unusedVariables false
set_option linter.unusedSimpArgs false

set_option maxRecDepth 100000 in
set_option maxHeartbeats 2000000 in
theorem impl_unionOf (b off len cap : Nat) (l : List Pr) (b2 off2 len2 cap2 : Nat) (l2 : List Pr) (w : World) (h : SlP w (some ⟨b, off, none⟩) len l) (h2 : SlP w (some ⟨b2, off2, none⟩) len2 l2) (hcap : len ≤ cap) (hcap2 : len2 ≤ cap2) (hsz : len + len2 ≤ 1099511627776) :
    Calls Tryz.prog 28 #[.slice (some ⟨b, off, none⟩) len cap, .slice (some ⟨b2, off2, none⟩) len2 cap2] w fun e w' =>
      ∃ g' n' cap', e = .returned (.slice (some ⟨g', 0, none⟩) n' cap') ∧ OwnP w' w.heap.size g' n' cap' (unionOf l l2) ∧ Below w.heap.size w w' := by
  obtain ⟨i0, hif, hz0, hz1, hz2⟩ := info_parts infoP
  have hl := h.1
  have hsm := h.2.2.1
  have hl2 := h2.1
  have hsm2 := h2.2.2.1
  subst hl hl2
  have hba : Below w.heap.size w (w.alloc (.cells #[] 34)) := (Below.refl _ _).alloc (Nat.le_refl _) _
  have HC := Hid.mk' (cells_pairs (h.below hba).cells)
  have hn0 := pairVals_length l
  have hm1 : 0 + l.length ≤ maxLen := by unfold maxLen; omega
  have hm2 : (0 + l.length) * 32 ≤ 140737488355328 := by omega
  have hown0 := (ownP_made w w.heap.size (Nat.le_refl _)).2.2
  go_enter Tryz.func28, Tryz.ntmps28
  go_wp2_with (at_builtin; refine wpList_append_own _ rfl (.tmp 8) (.tmp 9) 30 rfl w.heap.size 34 i0 (.agg #[.string ⟨#[]⟩, .string ⟨#[]⟩]) 2 32 Tryz.underlying30 hif hz0 hz1 hz2 rfl (by decide) _ _ _ rfl hown0 ⟨b, off, none⟩ l.length cap (pairVals l) rfl hn0 HC.out (pairVals_oneCell _) hm1 hm2 (le_alloc _ _ (Nat.le_refl _)) ?_)
  intro v1 w1 hown hgrow hnn
  have hnn' : ¬ v1 = .slice none 0 0 := by simpa using hnn
  obtain ⟨g1, cap1, hv, hO1⟩ := ownP_val rfl hsm hnn' (by simpa [pairVals] using hown)
  subst hv
  have hB1 : Below w.heap.size w w1 := hba.grown hgrow (le_alloc _ _ (Nat.le_refl _)) (fun k e => by simp [Value.ownBlock] at e; omega)
  clear hown hgrow hnn hnn' hown0 HC hn0 hm1 hm2 hba
  go_wp2_with (at_builtin; fail)
  go_loopw [5, 13] (fun v i wr => ∃ (k g n cp : Nat), k ≤ l2.length ∧ n ≤ l.length + k ∧ i = .int .i64 (k : Int) ∧ v = .slice (some ⟨g, 0, none⟩) n cp ∧ OwnP wr w.heap.size g n cp (unionOf l (l2.take k)) ∧ Below w.heap.size w wr) (fun _ i _ => l2.length - (intOf i).toNat)
  case atStart => exact ⟨0, g1, _, cap1, Nat.zero_le _, by omega, rfl, rfl, hO1, hB1⟩
  case round =>
    clear hO1 hB1
    obtain ⟨k, g, n, cp, hk, hn, rfl, rfl, hO, hB⟩ := hrel
    by_cases hlt : k < l2.length
    · obtain ⟨c1, c2⟩ := (h2.below hB).cells k hlt
      have hpk := hsm2 _ (List.getElem_mem hlt)
      have hki : (k : Int) < (l2.length : Int) := by omega
      have HU := Hid.mk' (unionOf_snoc l l2 k hlt)
      have hpl := putKey_length l2[k].1 l2[k].2 (unionOf l (l2.take k))
      have hcs := hO.cases
      have hul := hO.1
      have hBA : Below w.heap.size w (wr.alloc (.cells #[.string l2[k].1, .string l2[k].2] 34)) := hB.alloc hB.size _
      have hOA : OwnP (wr.alloc (.cells #[.string l2[k].1, .string l2[k].2] 34)) w.heap.size g n cp (unionOf l (l2.take k)) := hO.below ((Below.refl _ _).alloc (Nat.le_refl _) _)
      generalize l2[k] = p at *
      generalize unionOf l (l2.take k) = u at *
      have HP := Hid.mk' (impl_putKey g 0 n cp u p.1 p.2 _ hOA.sl hcs.1 (by omega) hpk.1 hpk.2)
      clear hOA hO hB
      go_wp2_with (at_builtin; fail)
      refine HP.out.mono ?_
      rintro e w5 ⟨g5, n5, cp5, rfl, hO5, hb5⟩
      have hB5 : Below w.heap.size w w5 := hBA.trans (hb5.mono hBA.size)
      have hO5' := hO5.mono (base' := w.heap.size) hBA.size
      rw [← HU.out] at hO5'
      have hn5 : n5 ≤ l.length + (k + 1) := by have := hO5.1; omega
      have HO5 := Hid.mk' hO5'
      clear hb5 hO5 hO5' hBA c1 c2 HP
      go_wp2_with (at_builtin; fail)
      go_roundw
      case rel => exact ⟨k + 1, g5, n5, cp5, by omega, hn5, by go_num, rfl, HO5.out, hB5⟩
      case measure => simp [intOf]; omega
    · have HE : Hid (l2.take k = l2) := List.take_of_length_le (by omega)
      go_wp2_with (at_builtin; fail)
      go_ret
      rw [HE.out] at hO
      exact ⟨g, n, cp, rfl, hO, hB⟩
end Go.Proofs.YteammdkipnfmnaaGreatDoor.pairs

namespace Go.Proofs.YteammdkipnfmnaaGreatDoor.range
open Go Go.RowKit Go.Proofs.YteammdkipnfmnaaGreatDoor.base Go.Proofs.YteammdkipnfmnaaGreatDoor.pairs Go.Proofs.YteammdkipnfmnaaGreatDoor.tree
set_option linter.unusedVariables false
set_option linter.unusedSimpArgs false

end Go.Proofs.YteammdkipnfmnaaGreatDoor.range

namespace Go.Proofs.YteammdkipnfmnaaGreatDoor.stepc
open Go Go.RowKit
end Go.Proofs.YteammdkipnfmnaaGreatDoor.stepc

namespace Go.Proofs.YteammdkipnfmnaaGreatDoor.range
open Go Go.RowKit Go.Proofs.YteammdkipnfmnaaGreatDoor.base Go.Proofs.YteammdkipnfmnaaGreatDoor.pairs Go.Proofs.YteammdkipnfmnaaGreatDoor.tree
set_option linter.unusedVariables false
set_option linter.unusedSimpArgs false

end Go.Proofs.YteammdkipnfmnaaGreatDoor.range

namespace Go.Proofs.YteammdkipnfmnaaGreatDoor.range
open Go Go.RowKit Go.Shelf Go.Proofs.YteammdkipnfmnaaGreatDoor.base Go.Proofs.YteammdkipnfmnaaGreatDoor.pairs Go.Proofs.YteammdkipnfmnaaGreatDoor.tree
set_option linter.unusedVariables false
set_option linter.unusedSimpArgs false
attribute [local go_sem] Oper.semAt_some

theorem V3.of_block {w w' : World} {g : Nat} {t : TypeId} {x y z : Value} (h : V3 w g t x y z) (hk : w'.heap[g]? = w.heap[g]?) : V3 w' g t x y z := hk.trans h

/-! ### blocks of cells lie as they lay, whatever else is turned -/
theorem keep_cells {w w' : World} {row : Option Nat} {B k : Nat} {cs : Array Value} {t : TypeId} {f : Nat × Nat} (hk : w.heap[k]? = some (.cells cs t f)) (hg : w.grownBy w' row) (hr : ∀ r, row = some r → B ≤ r ∧ ∃ o : Obj, w.heap[r]? = some o ∧ o.isCells = false) : w'.heap[k]? = w.heap[k]? := by
  refine hg.block k (Array.getElem?_eq_some_iff.1 hk).1 (fun e => ?_)
  obtain ⟨_, o, ho, hc⟩ := hr k e.symm
  rw [hk] at ho; cases ho; cases hc
theorem row_cells {w : World} {base : Nat} {e : TypeId} {size : Nat} {v : Value} {n k : Nat} {xs : List Value} (h : w.ownsRow base e size v n xs) (hk : v.ownBlock = some k) : ∃ cs t f, w.heap[k]? = some (.cells cs t f) := by
  rcases h.2 with ⟨rfl, _⟩ | ⟨g, cap, cur, rfl, _, hg, _⟩
  · cases hk
  · cases hk; exact ⟨_, _, _, hg⟩
theorem OwnI.cellsAt {w : World} {base k : Nat} {v : Value} {l : List It} {hs : List Hd} (h : OwnI w base v l hs) (hk : Blk v hs k) : ∃ cs t f, w.heap[k]? = some (.cells cs t f) := by
  rcases hk with e | ⟨y, hy, rfl⟩
  · exact row_cells h.row e
  · obtain ⟨i, hi, rfl⟩ := List.getElem_of_mem hy
    exact row_cells (h.paths i (by have := h.len; omega)).2.2 rfl
theorem OwnI.turned {w w' : World} {base B : Nat} {v : Value} {l : List It} {hs : List Hd} {row : Option Nat} (h : OwnI w base v l hs) (hg : w.grownBy w' row) (hr : ∀ r, row = some r → B ≤ r ∧ ∃ o : Obj, w.heap[r]? = some o ∧ o.isCells = false) : OwnI w' base v l hs :=
  h.of_blocks (fun k hk => by obtain ⟨cs, t, f, hc⟩ := h.cellsAt hk; exact keep_cells hc hg hr)
theorem OwnI.push {w w7 : World} {base g5 n5 c5 : Nat} {v v7 : Value} {l : List It} {hs : List Hd} {p : Pr} {P : List ByteArray} (h : OwnI w base v l hs) (hP : OwnS w base g5 n5 c5 P) (hfr : ∀ y ∈ hs, y.1 ≠ g5) (hp : small p)
    (o : Obj) (hown : w7.ownsRow base 107 3 v7 (l.length + 1) (itVals l hs ++ [.string p.1, .string p.2, .slice (some ⟨g5, 0, none⟩) n5 c5])) (hgrow : (w.alloc o).grownBy w7 v.ownBlock) :
    OwnI w7 base v7 (l ++ [(p, P)]) (hs ++ [(g5, n5, c5)]) := by
  have hlen := h.len
  have keep : ∀ {g n c : Nat} {ss : List ByteArray}, OwnS w base g n c ss → some g ≠ v.ownBlock → OwnS w7 base g n c ss := fun hS hne => (ownS_of_block (w' := w.alloc o) hS (Below.heap_alloc w o _ hS.lt.2)).grown hgrow hne
  have hps : ∀ i (hi : i < (l ++ [(p, P)]).length), OwnS w7 base ((hs ++ [(g5, n5, c5)])[i]'(by simp at hi ⊢; omega)).1 ((hs ++ [(g5, n5, c5)])[i]'(by simp at hi ⊢; omega)).2.1 ((hs ++ [(g5, n5, c5)])[i]'(by simp at hi ⊢; omega)).2.2 (l ++ [(p, P)])[i].2 := by
    intro i hi
    by_cases e : i < l.length
    · rw [List.getElem_append_left e]
      simp only [List.getElem_append_left (show i < hs.length by omega)]
      refine keep (h.paths i e) (fun e2 => ?_)
      exact h.out _ e2.symm _ (List.getElem_mem _) rfl
    · have : i = l.length := by simp at hi; omega
      subst this
      rw [List.getElem_append_right (Nat.le_refl _)]
      simp only [List.getElem_append_right (show hs.length ≤ l.length by omega)]
      simp only [hlen, Nat.sub_self, List.getElem_cons_zero]
      exact keep hP (fun e2 => row_ne h.row hP.2.2 e2.symm rfl (by decide))
  refine ⟨by simp [hlen], fun x hx => ?_, ?_, hps, ?_, fun k hk y hy e => ?_⟩
  · rcases List.mem_append.1 hx with h1 | h1
    · exact h.sm x h1
    · rw [List.mem_singleton.1 h1]; exact ⟨hp, hP.2.1⟩
  · rw [itVals_snoc l hs hlen, List.length_append]; exact hown
  · rw [List.pairwise_append]
    refine ⟨h.apart, List.pairwise_singleton _ _, fun a ha y hy => ?_⟩
    rw [List.mem_singleton.1 hy]
    exact hfr a ha
  · obtain ⟨i, hi, rfl⟩ := List.getElem_of_mem hy
    have hS := hps i (by simp at hi ⊢; omega)
    exact row_ne hown hS.2.2 hk (by rw [← e]; rfl) (by decide)

/-! ### what a loop that gathers items keeps -/
end Go.Proofs.YteammdkipnfmnaaGreatDoor.range

namespace Go.Proofs.YteammdkipnfmnaaGreatDoor.range
open Go Go.RowKit Go.Shelf Go.Proofs.YteammdkipnfmnaaGreatDoor.base Go.Proofs.YteammdkipnfmnaaGreatDoor.pairs Go.Proofs.YteammdkipnfmnaaGreatDoor.tree
set_option linter.unusedVariables false
set_option linter.unusedSimpArgs false
attribute [local go_sem] Oper.semAt_some

def Lies (w : World) (b off : Nat) (l : List It) (hp : Nat → Nat × Nat × Nat) : Prop :=
  ∀ i (hi : i < l.length), w.cell? ⟨b, off + i * 3, none⟩ = some (.string l[i].1.1) ∧ w.cell? ⟨b, off + i * 3 + 1, none⟩ = some (.string l[i].1.2) ∧ w.cell? ⟨b, off + i * 3 + 2, none⟩ = some (.slice (some ⟨(hp i).1, (hp i).2.1, none⟩) l[i].2.length (hp i).2.2) ∧
    SlS w (some ⟨(hp i).1, (hp i).2.1, none⟩) l[i].2.length l[i].2 ∧ l[i].2.length ≤ (hp i).2.2
theorem SlJ.lies {w : World} {b off len : Nat} {l : List It} (h : SlJ w (some ⟨b, off, none⟩) len l) : ∃ hp, Lies w b off l hp := by
  have key : ∀ i, ∃ y : Nat × Nat × Nat, ∀ hi : i < l.length, w.cell? ⟨b, off + i * 3, none⟩ = some (.string l[i].1.1) ∧ w.cell? ⟨b, off + i * 3 + 1, none⟩ = some (.string l[i].1.2) ∧ w.cell? ⟨b, off + i * 3 + 2, none⟩ = some (.slice (some ⟨y.1, y.2.1, none⟩) l[i].2.length y.2.2) ∧ SlS w (some ⟨y.1, y.2.1, none⟩) l[i].2.length l[i].2 ∧ l[i].2.length ≤ y.2.2 := by
    intro i
    by_cases hi : i < l.length
    · obtain ⟨c1, c2, pb, po, pc, c3, hS, hle⟩ := h.at i hi
      exact ⟨(pb, po, pc), fun _ => ⟨c1, c2, c3, hS, hle⟩⟩
    · exact ⟨(0, 0, 0), fun h => absurd h hi⟩
  obtain ⟨hp, hh⟩ := Classical.axiomOfChoice key
  exact ⟨hp, hh⟩
theorem Lies.below {w w' : World} {b off : Nat} {l : List It} {hp : Nat → Nat × Nat × Nat} (h : Lies w b off l hp) (hb : Below w.heap.size w w') : Lies w' b off l hp := by
  intro i hi
  obtain ⟨c1, c2, c3, c4, c5⟩ := h i hi
  have keep : ∀ o v, w.cell? ⟨b, o, none⟩ = some v → w'.cell? ⟨b, o, none⟩ = some v := fun o v hv => (hb.cell (p := ⟨b, o, none⟩) (World.block_lt_of_cell? w _ hv)).trans hv
  exact ⟨keep _ _ c1, keep _ _ c2, keep _ _ c3, c4.below hb, c5⟩

def encP (fr : Int) (l : List It) (hp : Nat → Nat × Nat × Nat) (k : Fin l.length) : Array Value :=
  #[.int .i64 (wrap64 (fr + (k.1 : Int))), .agg #[.string l[k.1].1.1, .string l[k.1].1.2, .slice (some ⟨(hp k.1).1, (hp k.1).2.1, none⟩) l[k.1].2.length (hp k.1).2.2]]
def KeepP (n₀ pb : Nat) (w w' : World) : Prop := Below n₀ w w' ∧ w'.heap[pb]? = w.heap[pb]?
theorem KeepP.refl (n₀ pb : Nat) (w : World) : KeepP n₀ pb w w := ⟨Below.refl _ _, rfl⟩
theorem KeepP.trans {n₀ pb : Nat} {a b c : World} (h : KeepP n₀ pb a b) (k : KeepP n₀ pb b c) : KeepP n₀ pb a c := ⟨h.1.trans k.1, k.2.trans h.2⟩

set_option maxHeartbeats 1000000 in
theorem impl_placed (n fr : Int) (a : Option Addr) (len cap : Nat) (w : World) :
    Calls Tryz.prog 97 #[.agg #[.int .i64 n, .int .i64 fr, .slice a len cap]] w fun e w' =>
      e = .returned (.func (.func 122) #[] #[.pointer (some ⟨w.heap.size, 0, none⟩)]) ∧ w' = w.alloc (.cells #[.int .i64 n, .int .i64 fr, .slice a len cap] 64) := by
  have hmf := makeFunc_run
  go_enter Tryz.func97, Tryz.ntmps97
  go_wp2_with fail
  go_ret
  exact ⟨rfl, rfl⟩

set_option maxRecDepth 100000 in
set_option maxHeartbeats 2000000 in
theorem placed_stops (m pb : Nat) (n fr : Int) (a : Option Addr) (b off cap : Nat) (l : List It) (hp : Nat → Nat × Nat × Nat) (w0 w : World) (hm : 1 ≤ m) (ha : 0 < l.length → a = some ⟨b, off, none⟩) (hl : Lies w0 b off l hp) (hll : l.length ≤ 1099511627776) (hw0 : Below w0.heap.size w0 w)
    (hV : V3 w pb 64 (.int .i64 n) (.int .i64 fr) (.slice a l.length cap)) :
    SeqStopsK Fence.wide m Tryz.prog 122 #[.pointer (some ⟨pb, 0, none⟩)] (encP fr l hp) (KeepP w0.heap.size pb) (fun xs => xs.map (·.1) = List.range l.length) (fun _ => True) l.length w := by
  intro lp J Jx W hbW hJ hJx hY hJ0
  refine callsIn_of_wp Tryz.func122 rfl trivial ?_ rfl
  simp only [Tryz.ntmps122, List.size_toArray, List.length_cons, List.length_nil, Nat.reduceAdd, Nat.reduceSub, Array.replicate_succ, Array.replicate_zero, List.push_toArray, List.append_toArray, List.nil_append, List.cons_append]
  have hVW := hV.below hbW
  have d1 := hVW.c2
  have hsW := hbW.size
  have hs0 := hw0.size
  gi_wp2
  gi_loopw [8] (fun i wr => ∃ (k : Nat) (ys : List (Fin l.length)), k ≤ l.length ∧ i = .int .i64 (k : Int) ∧ ys.map (·.1) = List.range k ∧ J ys wr ∧ KeepP w0.heap.size pb W wr) (fun i _ => l.length - (intOf i).toNat)
  case atStart => exact ⟨0, [], Nat.zero_le _, rfl, rfl, hJ0, KeepP.refl _ _ _⟩
  case round =>
    obtain ⟨k, ys, hk, rfl, hys, hJk, hKk⟩ := hrel
    by_cases hkl : k < l.length
    · have ha' := ha (by omega)
      subst ha'
      have hb0 : Below w0.heap.size w0 wr := (hw0.trans (hbW.mono hs0)).trans hKk.1
      have hsr := hKk.1.size
      obtain ⟨q1, q2, q3, _, _⟩ := (hl.below hb0) k hkl
      have hVr : V3 wr pb 64 (.int .i64 n) (.int .i64 fr) (.slice (some ⟨b, off, none⟩) l.length cap) := hVW.of_block hKk.2
      have v1 := hVr.c1
      have hki : (k : Int) < (l.length : Int) := by omega
      have hlen : ys.length = k := by
        have := congrArg List.length hys
        rw [List.length_map, List.length_range] at this; exact this
      obtain ⟨Wb, hWb⟩ : ∃ Wb, Wb = wr.alloc (.cells #[.string l[k].1.1, .string l[k].1.2, .slice (some ⟨(hp k).1, (hp k).2.1, none⟩) l[k].2.length (hp k).2.2] 107) := ⟨_, rfl⟩
      have hJb : J ys Wb := by rw [hWb]; exact hJ ys wr _ none hJk (World.grownBy_alloc wr _ none) (fun r e => by cases e)
      have hKb : KeepP w0.heap.size pb W Wb := by
        rw [hWb]
        exact ⟨hKk.1.alloc (by omega) _, (Below.heap_alloc wr _ pb hVr.lt).trans hKk.2⟩
      obtain ⟨fn, tmps, assign, body, hy, hR⟩ := hY ys ⟨k, hkl⟩ Wb hJb (by omega)
      dsimp only [encP] at hy
      have hpb := hVr.lt
      subst hWb
      have HKb := Hid.mk' hKb
      clear hY hJk hKk hb0 hJ hJx hJ0 d1 hw0 hbW hl hJb hVr hKb
      gi_wp2
      refine hR.mono ?_
      rintro e W3 (⟨rfl, hJ3, hk3⟩ | ⟨rfl, hJx3⟩)
      · gi_wp2
        go_roundw
        case rel => exact ⟨k + 1, _, by omega, by go_num, by rw [List.map_append, hys, List.range_succ]; rfl, hJ3, HKb.out.trans hk3⟩
        case measure => simp [intOf]; omega
      · gi_wp2
        refine bodyPost_ret (results_none rfl _ _ _) rfl ?_
        exact ⟨⟨_, rfl⟩, .inr ⟨_, trivial, hJx3⟩⟩
    · obtain rfl : k = l.length := by omega
      gi_wp2
      go_end0
      exact ⟨⟨_, rfl⟩, .inl ⟨ys, hys, hJk⟩⟩
end Go.Proofs.YteammdkipnfmnaaGreatDoor.range

namespace Go.Proofs.YteammdkipnfmnaaGreatDoor.range
open Go Go.RowKit Go.Proofs.YteammdkipnfmnaaGreatDoor.base Go.Proofs.YteammdkipnfmnaaGreatDoor.pairs Go.Proofs.YteammdkipnfmnaaGreatDoor.tree
set_option linter.unusedVariables false
set_option linter.unusedSimpArgs false

/-! ### the root of no pairs -/
set_option maxRecDepth 100000 in
set_option maxHeartbeats 1000000 in
theorem impl_treeNil (t : Nat) (w : World) (hK : sha.KW w) : Calls Tryz.prog 135 #[.slice none 0 0, .pointer (some ⟨t, 0, none⟩)] w fun e w' => e = .returned (.string (inner [])) ∧ Below w.heap.size w w' := by
  have HD := Hid.mk' (sha.impl_digestA none 0 0 [] w (sl_nil _ _) (by omega) hK)
  go_enter Tryz.func135, Tryz.ntmps135
  go_wp2_with fail
  refine HD.out.mono ?_
  rintro e w1 ⟨rfl, hb1⟩
  go_wp2_with fail
  go_ret
  exact ⟨by rw [inner_nil]; rfl, hb1⟩
set_option maxHeartbeats 1000000 in
theorem impl_innerNil (w : World) (hK : sha.KW w) : Calls Tryz.prog 121 #[.slice none 0 0] w fun e w' => e = .returned (.string (inner [])) ∧ Below w.heap.size w w' := by
  have hmf := makeFunc_run
  have HI : Hid (∀ wx, Below w.heap.size w wx → Calls Tryz.prog 135 #[.slice none 0 0, .pointer (some ⟨w.heap.size, 0, none⟩)] wx fun e w' => e = .returned (.string (inner [])) ∧ Below wx.heap.size wx w') :=
    fun wx hx => impl_treeNil w.heap.size wx (hK.below hx)
  clear hK
  go_enter Tryz.func121, Tryz.ntmps121
  go_wp2_with fail
  refine (HI.out _ ?hb).mono ?_
  case hb => exact (Below.refl _ _).alloc (Nat.le_refl _) _
  rintro e w2 ⟨rfl, hb⟩
  have hB : Below w.heap.size w w2 := ((Below.refl _ _).alloc (Nat.le_refl _) _).trans (hb.mono (by simp))
  go_wp2_with fail
  go_ret
  exact ⟨rfl, hB⟩
set_option maxHeartbeats 1000000 in
theorem impl_rootNil (w : World) (hK : sha.KW w) : Calls Tryz.prog 96 #[.slice none 0 0] w fun e w' => e = .returned (.string (rootOf [])) ∧ Below w.heap.size w w' := by
  have hs := inner_size []
  have htl := topB_length 0 (inner [])
  have HT := Hid.mk' (fun wx => impl_rootBytes 0 (inner []) wx (WalkArith.wf_i64 (by omega)) (by omega))
  have HI := Hid.mk' (impl_innerNil w hK)
  have HK := Hid.mk' hK
  have HR : Hid (rootOf [] = dg (topB 0 (inner []))) := rfl
  generalize inner [] = y at *
  clear hK
  go_enter Tryz.func96, Tryz.ntmps96
  go_wp2_with fail
  refine HI.out.mono ?_
  rintro e w1 ⟨rfl, hB1⟩
  go_wp2_with fail
  refine (HT.out _).mono ?_
  rintro e w2 ⟨g, n, cp, rfl, hO, hb2⟩
  have hB2 : Below w.heap.size w w2 := hB1.trans (hb2.mono hB1.size)
  have hn : n ≤ 1099511627776 := by have := hO.1; omega
  have HD := Hid.mk' (sha.impl_digest g 0 n cp (topB 0 y) w2 hO.sl hn (HK.out.below hB2))
  clear hO hB1 hb2
  go_wp2_with fail
  refine HD.out.mono ?_
  rintro e w3 ⟨rfl, hb3⟩
  have hB3 : Below w.heap.size w w3 := hB2.trans (hb3.mono hB2.size)
  go_wp2_with fail
  go_ret
  exact ⟨by rw [HR.out]; rfl, hB3⟩

/-! ### a proof of none -/
set_option maxRecDepth 100000 in
set_option maxHeartbeats 1000000 in
theorem impl_provesNone (root : ByteArray) (n fr : Int) (a : Option Addr) (len cap : Nat) (w : World) (hK : sha.KW w) :
    Calls Tryz.prog 58 #[.agg #[.int .i64 n, .int .i64 fr, .slice a len cap], .string root] w fun e w' => e = .returned (.bool (decide (len = 0 ∧ fr = 0 ∧ root = rootOf []))) ∧ Below w.heap.size w w' := by
  obtain ⟨W, hW⟩ : ∃ W, W = w.alloc (.cells #[.int .i64 n, .int .i64 fr, .slice a len cap] 64) := ⟨_, rfl⟩
  have hB : Below w.heap.size w W := by rw [hW]; exact (Below.refl _ _).alloc (Nat.le_refl _) _
  have HR := Hid.mk' (impl_rootNil W (hK.below hB))
  have HW := Hid.mk' hW
  clear hW hK
  by_cases h0 : len = 0
  · subst h0
    by_cases hf : fr = 0
    · subst hf
      by_cases hr : root = rootOf []
      · have HD : Hid (decide ((0 : Nat) = 0 ∧ (0 : Int) = 0 ∧ root = rootOf []) = true) := decide_eq_true ⟨rfl, rfl, hr⟩
        rw [HD.out]
        clear HD
        rw [← hr] at HR
        clear hr
        go_enter Tryz.func58, Tryz.ntmps58
        go_wp2_with fail
        rw [← HW.out]
        refine HR.out.mono ?_
        rintro e w1 ⟨rfl, hb1⟩
        have hB1 := hB.trans (hb1.mono hB.size)
        go_wp2_with fail
        go_ret
        exact ⟨rfl, hB1⟩
      · have HD : Hid (decide ((0 : Nat) = 0 ∧ (0 : Int) = 0 ∧ root = rootOf []) = false) := decide_eq_false (fun h => hr h.2.2)
        rw [HD.out]
        have hq := str_ne' hr
        generalize rootOf [] = R at *
        clear HD hr
        go_enter Tryz.func58, Tryz.ntmps58
        go_wp2_with fail
        rw [← HW.out]
        refine HR.out.mono ?_
        rintro e w1 ⟨rfl, hb1⟩
        have hB1 := hB.trans (hb1.mono hB.size)
        go_wp2_with fail
        go_ret
        exact ⟨rfl, hB1⟩
    · have HD : Hid (decide ((0 : Nat) = 0 ∧ fr = 0 ∧ root = rootOf []) = false) := decide_eq_false (fun h => hf h.2.1)
      rw [HD.out]
      have hq : (fr == 0) = false := by simpa using hf
      clear HD HR
      go_enter Tryz.func58, Tryz.ntmps58
      go_wp2_with fail
      go_ret
      rw [← HW.out]
      exact ⟨rfl, hB⟩
  · have HD : Hid (decide (len = 0 ∧ fr = 0 ∧ root = rootOf []) = false) := decide_eq_false (fun h => h0 h.1)
    rw [HD.out]
    have hq : ((len : Int) == 0) = false := by simp; omega
    have hq2 : ¬ (len : Int) = 0 := by omega
    clear HD HR
    go_enter Tryz.func58, Tryz.ntmps58
    go_wp2_with fail
    go_ret
    rw [← HW.out]
    exact ⟨rfl, hB⟩

/-! ### where a proof begins and ends -/
set_option maxRecDepth 100000 in
set_option maxHeartbeats 1000000 in
theorem impl_beginsBelow (lo : ByteArray) (n fr : Int) (b off cap : Nat) (l : List It) (w : World) (h : SlJ w (some ⟨b, off, none⟩) l.length l) (h0 : 0 < l.length) :
    Calls Tryz.prog 61 #[.agg #[.int .i64 n, .int .i64 fr, .slice (some ⟨b, off, none⟩) l.length cap], .string lo] w fun e w' => e = .returned (.bool (decide (fr = 0) || ltB l[0].1.1 lo)) ∧ Below w.heap.size w w' := by
  obtain ⟨W, hW⟩ : ∃ W, W = w.alloc (.cells #[.int .i64 n, .int .i64 fr, .slice (some ⟨b, off, none⟩) l.length cap] 64) := ⟨_, rfl⟩
  have hB : Below w.heap.size w W := by rw [hW]; exact (Below.refl _ _).alloc (Nat.le_refl _) _
  have hll := h.2.1
  have c1 := (h.at 0 h0).1
  have hbb : b < w.heap.size := World.block_lt_of_cell? w _ c1
  simp only [Nat.zero_mul, Nat.add_zero] at c1
  have HW := Hid.mk' hW
  have hl0 : (0 : Int) < (l.length : Int) := by omega
  clear hW h
  by_cases hf : fr = 0
  · subst hf
    go_enter Tryz.func61, Tryz.ntmps61
    go_wp2_with fail
    go_ret
    rw [← HW.out]
    exact ⟨by simp, hB⟩
  · have hq : (fr == 0) = false := by simpa using hf
    have hd : decide (fr = 0) = false := decide_eq_false hf
    rw [hd]
    generalize l[0].1.1 = q at *
    cases hb : ltB q lo with
    | true =>
      have hq2 : Op.bytesLess q.toList lo.toList = true := hb
      clear hb
      go_enter Tryz.func61, Tryz.ntmps61
      go_wp2_with fail
      go_ret
      rw [← HW.out]
      exact ⟨rfl, hB⟩
    | false =>
      have hq2 : Op.bytesLess q.toList lo.toList = false := hb
      clear hb
      go_enter Tryz.func61, Tryz.ntmps61
      go_wp2_with fail
      go_ret
      rw [← HW.out]
      exact ⟨rfl, hB⟩

set_option maxRecDepth 100000 in
set_option maxHeartbeats 1000000 in
theorem impl_endsBehind (hi : ByteArray) (n fr : Int) (b off cap : Nat) (l : List It) (w : World) (h : SlJ w (some ⟨b, off, none⟩) l.length l) (m : Nat) (hm : l.length = m + 1) (hfr : 0 ≤ fr ∧ fr ≤ 60) (hn : 1 ≤ n ∧ n ≤ 60) :
    Calls Tryz.prog 62 #[.agg #[.int .i64 n, .int .i64 fr, .slice (some ⟨b, off, none⟩) l.length cap], .string hi] w fun e w' => e = .returned (.bool (decide (fr + (m : Int) = n - 1) || (!decide (hi.size = 0) && !ltB (l[m]'(by omega)).1.1 hi))) ∧ Below w.heap.size w w' := by
  obtain ⟨W, hW⟩ : ∃ W, W = w.alloc (.cells #[.int .i64 n, .int .i64 fr, .slice (some ⟨b, off, none⟩) l.length cap] 64) := ⟨_, rfl⟩
  have hB : Below w.heap.size w W := by rw [hW]; exact (Below.refl _ _).alloc (Nat.le_refl _) _
  have hll := h.2.1
  have c1 := (h.at m (by omega)).1
  have hbb : b < w.heap.size := World.block_lt_of_cell? w _ c1
  have HW := Hid.mk' hW
  have hl0 : (m : Int) < (l.length : Int) := by omega
  have hlm : (l.length : Int) - 1 = (m : Int) := by omega
  clear hW h
  generalize (l[m]'(by omega)).1.1 = q at *
  simp only [hm] at HW hl0 hlm hll ⊢
  by_cases hf : fr + (m : Int) = n - 1
  · have hd : decide (fr + (m : Int) = n - 1) = true := decide_eq_true hf
    rw [hd]
    have hq : (fr + (m : Int) == n - 1) = true := by simpa using hf
    go_enter Tryz.func62, Tryz.ntmps62
    go_wp2_with fail
    go_ret
    rw [← HW.out]
    exact ⟨rfl, hB⟩
  · have hq : (fr + (m : Int) == n - 1) = false := by simpa using hf
    have hd : decide (fr + (m : Int) = n - 1) = false := decide_eq_false hf
    rw [hd]
    by_cases he : hi.size = 0
    · have hhi : hi = ⟨#[]⟩ := by
        have : hi.data = #[] := Array.eq_empty_of_size_eq_zero he
        cases hi; cases this; rfl
      subst hhi
      go_enter Tryz.func62, Tryz.ntmps62
      go_wp2_with fail
      go_ret
      rw [← HW.out]
      exact ⟨by simp [he], hB⟩
    · have hd2 : decide (hi.size = 0) = false := decide_eq_false he
      rw [hd2]
      have hq4 : ¬ hi.toList = [] := fun e => he (by have h1 : hi = ⟨#[]⟩ := bytes_ext (by rw [← ByteArray.toList_eq]; exact e); rw [h1]; rfl)
      have hq3 : hi.toList.isEmpty = false := by rw [Bool.eq_false_iff]; intro e; exact hq4 (List.isEmpty_iff.1 e)
      cases hb : ltB q hi with
      | true =>
        have hq2 : Op.bytesLess q.toList hi.toList = true := hb
        clear hb
        go_enter Tryz.func62, Tryz.ntmps62
        go_wp2_with fail
        go_ret
        rw [← HW.out]
        exact ⟨rfl, hB⟩
      | false =>
        have hq2 : Op.bytesLess q.toList hi.toList = false := hb
        clear hb
        go_enter Tryz.func62, Tryz.ntmps62
        go_wp2_with fail
        go_ret
        rw [← HW.out]
        exact ⟨rfl, hB⟩
end Go.Proofs.YteammdkipnfmnaaGreatDoor.range
