/- slices.DeleteFunc over records: those of one transaction. -/
import Derived.Test.YtggdgceglmbaiaaGreatDoorBund9ap
import Derived.Test.YtggdgceglmbaiaaGreatDoorBund9ah
import Derived.Test.YtggdgceglmbaiaaGreatDoorBund9am
import Derived.Laws.IdiomCopy
namespace Go.Proofs.YtggdgceglmbaiaaGreatDoor.recs
open Go Go.RowKit Go.Proofs.YtggdgceglmbaiaaGreatDoor.base Go.Proofs.YtggdgceglmbaiaaGreatDoor.pairs Go.Proofs.YtggdgceglmbaiaaGreatDoor.ords
set_option linter.unusedVariables false
set_option linter.unusedSimpArgs false

set_option maxRecDepth 100000 in
theorem i_settled1 (rb : Nat) (kr tx : Int) (vr : Value) (k t : Int) (v : Value) (hv : v.oneCell' = true) (w : World) (hC : BoxR rb kr tx vr w) :
    Calls Tryz.prog 65 #[.agg #[.int .i64 k, .int .i64 t, v], .pointer (some ⟨rb, 0, none⟩)] w fun e w' => e = .returned (.bool (t == tx)) ∧ Below w.heap.size w w' := by
  have hb : Below w.heap.size w (w.alloc (.cells #[.int .i64 k, .int .i64 t, v] 36)) := (Below.refl _ _).alloc (Nat.le_refl _) _
  obtain ⟨c0, c1, c2⟩ := (hC.below hb).cells
  go_enter Tryz.func65, Tryz.ntmps65
  go_wp2_with fail
  go_ret
  exact ⟨rfl, hb⟩
set_option maxRecDepth 100000 in
set_option maxHeartbeats 4000000 in
theorem i_index (a : Option Addr) (len cap : Nat) (l : List Rc) (rb : Nat) (kr tx : Int) (vr : Value) (w : World) (h : SlR w a len l) (hC : BoxR rb kr tx vr w) :
    Calls Tryz.prog 84 #[.slice a len cap, .func (.func 65) #[] #[.pointer (some ⟨rb, 0, none⟩)]] w fun e w' => e = .returned (.int .i64 (atRet (placeTx tx l))) ∧ Below w.heap.size w w' := by
  obtain ⟨hl, hm, hsm, hc⟩ := id h
  subst hl
  unfold maxLen at hm
  generalize hR : placeTx tx l = R
  have HR := Hid.mk' hR
  clear hR
  go_enter Tryz.func84, Tryz.ntmps84
  go_wp2_with fail
  go_loopw [8] (fun i wr => ∃ k : Nat, k ≤ l.length ∧ i = .int .i64 (k : Int) ∧ (∀ r ∈ l.take k, r.2.1 ≠ tx) ∧ Below w.heap.size w wr) (fun i _ => l.length - (intOf i).toNat)
  case atStart => exact ⟨0, Nat.zero_le _, rfl, by simp, Below.refl _ _⟩
  case round =>
    obtain ⟨k, hk, rfl, hno, hb⟩ := hrel
    by_cases hlt : k < l.length
    · obtain ⟨b, off, ha, _⟩ := hc (by omega)
      subst ha
      obtain ⟨c0, c1, pa, pl, pc, c2, _, _⟩ := (h.below hb).at k hlt
      have hki : (k : Int) < (l.length : Int) := by omega
      have HCL := Hid.mk' (i_settled1 rb kr tx vr l[k].1 l[k].2.1 (.slice pa pl pc) rfl wr (hC.below hb))
      by_cases e : l[k].2.1 = tx
      · have HP : Hid (R = some k) := by show _ = _; rw [← HR.out]; exact placeTx_hit hlt hno e
        have eb : (l[k].2.1 == tx) = true := by simpa using e
        rw [eb] at HCL
        clear hno HR e eb
        generalize l[k] = p at *
        go_wp2_with fail
        refine HCL.out.mono ?_
        rintro e w1 ⟨rfl, hb1⟩
        have hbz := hb.trans (hb1.mono hb.size)
        clear c0 c1 c2 HCL
        go_wp2_with fail
        go_ret
        rw [HP.out]
        exact ⟨rfl, hbz⟩
      · have eb : (l[k].2.1 == tx) = false := beq_eq_false_iff_ne.2 e
        rw [eb] at HCL
        have HN : Hid (∀ r ∈ l.take (k + 1), r.2.1 ≠ tx) := by
          intro r hr
          rw [List.take_succ_eq_append_getElem hlt] at hr
          rcases List.mem_append.1 hr with e2 | e2
          · exact hno r e2
          · rw [List.mem_singleton.1 e2]; exact e
        clear hno e eb
        generalize l[k] = p at *
        go_wp2_with fail
        refine HCL.out.mono ?_
        rintro e w1 ⟨rfl, hb1⟩
        have hbz := hb.trans (hb1.mono hb.size)
        clear c0 c1 c2 HCL
        go_wp2_with fail
        go_roundw
        case rel => exact ⟨k + 1, by omega, by go_num, HN.out, hbz⟩
        case measure => simp [intOf]; omega
    · have HP : Hid (R = none) := by
        show _ = _
        rw [← HR.out]
        rw [List.take_of_length_le (by omega)] at hno
        exact placeTx_miss hno
      have hnk : ¬ (k : Int) < (l.length : Int) := by omega
      go_wp2_with fail
      go_ret
      rw [HP.out]
      exact ⟨rfl, hb⟩
/-! ### one taken out, in place -/
/-- behind the moves of all that lie ahead of j -/
def shl {α : Type} (k j : Nat) (l : List α) : List α := l.take k ++ (l.drop (k + 1)).take (j - 1 - k) ++ l.drop (j - 1)
theorem shl_length {α : Type} {k j : Nat} {l : List α} (h1 : k < j) (h2 : j ≤ l.length) : (shl k j l).length = l.length := by
  unfold shl; simp; omega
theorem shl_start {α : Type} {k : Nat} {l : List α} : shl k (k + 1) l = l := by
  unfold shl; simp
theorem shl_at {α : Type} {k j : Nat} {l : List α} (h1 : k < j) (h2 : j < l.length) : (shl k j l)[j]'(by rw [shl_length h1 (by omega)]; exact h2) = l[j] := by
  unfold shl
  rw [List.getElem_append_right (by simp; omega)]
  simp only [List.getElem_drop]
  congr 1
  simp; omega
theorem shl_step {α : Type} {k j : Nat} {l : List α} (h1 : k < j) (h2 : j < l.length) : (shl k j l).set (j - 1) l[j] = shl k (j + 1) l := by
  unfold shl
  have e1 : (l.take k ++ (l.drop (k + 1)).take (j - 1 - k)).length = j - 1 := by simp; omega
  rw [List.set_append_right _ _ (by omega), e1, Nat.sub_self]
  have e2 : l.drop (j - 1) = l[j - 1]'(by omega) :: l.drop j := by
    rw [List.drop_eq_getElem_cons (by omega)]
    congr 2; omega
  rw [e2, List.set_cons_zero]
  have e3 : (l.drop (k + 1)).take (j + 1 - 1 - k) = (l.drop (k + 1)).take (j - 1 - k) ++ [l[j]] := by
    rw [show j + 1 - 1 - k = (j - 1 - k) + 1 by omega, List.take_succ_eq_append_getElem (by simp; omega)]
    congr 2
    rw [List.getElem_drop]
    congr 1; omega
  rw [e3, show j + 1 - 1 = j by omega]
  simp
theorem shl_all {α : Type} {k : Nat} {l : List α} (h : k < l.length) : (shl k l.length l).take (l.length - 1) = l.take k ++ l.drop (k + 1) := by
  unfold shl
  have e1 : (l.take k ++ (l.drop (k + 1)).take (l.length - 1 - k)).length = l.length - 1 := by simp; omega
  rw [List.take_append_of_le_length (by omega), List.take_of_length_le (by omega)]
  congr 1
  exact List.take_of_length_le (by simp; omega)
theorem recVals_set (l : List Rc) (hs : List Value) (h : hs.length = l.length) (i : Nat) (hi : i < l.length) (r : Rc) (v : Value) :
    (((recVals l hs).set (i * 3) (.int .i64 r.1)).set (i * 3 + 1) (.int .i64 r.2.1)).set (i * 3 + 2) v = recVals (l.set i r) (hs.set i v) := by
  induction l generalizing hs i with
  | nil => simp at hi
  | cons x l ih =>
    cases hs with
    | nil => simp at h
    | cons y hs =>
      have h' : hs.length = l.length := by simpa using h
      cases i with
      | zero => simp [recVals]
      | succ i =>
        have := ih hs h' i (by simpa using hi)
        simp only [recVals, List.zip_cons_cons, List.flatMap_cons, List.set_cons_succ] at this ⊢
        rw [List.set_append_right _ _ (by simp; omega), List.set_append_right _ _ (by simp; omega), List.set_append_right _ _ (by simp; omega)]
        congr 1
        rw [← this]
        simp only [List.length_cons, List.length_nil]
        rw [show (i + 1) * 3 - (0 + 1 + 1 + 1) = i * 3 by omega, show (i + 1) * 3 + 1 - (0 + 1 + 1 + 1) = i * 3 + 1 by omega, show (i + 1) * 3 + 2 - (0 + 1 + 1 + 1) = i * 3 + 2 by omega]
theorem row_set3 {w : World} {g n c : Nat} {xs : List Value} (h : w.ownsRow 0 36 3 (.slice (some ⟨g, 0, none⟩) n c) n xs) (i : Nat) (u v z : Value) :
    (((w.setCell ⟨g, i, none⟩ u).setCell ⟨g, i + 1, none⟩ v).setCell ⟨g, i + 2, none⟩ z).ownsRow 0 36 3 (.slice (some ⟨g, 0, none⟩) n c) n (((xs.set i u).set (i + 1) v).set (i + 2) z) ∧ w.grownBy (((w.setCell ⟨g, i, none⟩ u).setCell ⟨g, i + 1, none⟩ v).setCell ⟨g, i + 2, none⟩ z) (some g) := by
  have h1 := h.stored i u
  have h2 := h1.1.stored (i + 1) v
  have h3 := h2.1.stored (i + 2) z
  exact ⟨h3.1, grownBy_trans h1.2 (grownBy_trans h2.2 h3.2)⟩
theorem row_less {w : World} {g n c : Nat} {xs : List Value} (h : w.ownsRow 0 36 3 (.slice (some ⟨g, 0, none⟩) n c) n xs) (m : Nat) (hm : m ≤ n) : w.ownsRow 0 36 3 (.slice (some ⟨g, 0, none⟩) m c) m (xs.take (m * 3)) := by
  obtain ⟨h1, h2⟩ := h
  rcases h2 with ⟨e, _⟩ | ⟨g', c', cur, e, hb, hg, hnc, hcm, hcs, htk⟩
  · cases e
  · cases e
    refine ⟨by rw [List.length_take, h1]; omega, .inr ⟨g, c, cur, rfl, hb, hg, by omega, hcm, hcs, ?_⟩⟩
    rw [← htk, List.take_take]
    congr 1; omega
theorem OwnR.eraseF {w w' : World} {g n c : Nat} {l : List Rc} {hs : List Value} (h : OwnR w 0 (.slice (some ⟨g, 0, none⟩) n c) l hs) (hf : lay.Frame [g] w w') (k : Nat) (hk : k < l.length) {n' : Nat} (hn : n' = l.length - 1)
    (hown : w'.ownsRow 0 36 3 (.slice (some ⟨g, 0, none⟩) n' c) n' (recVals (l.take k ++ l.drop (k + 1)) (hs.take k ++ hs.drop (k + 1)))) :
    OwnR w' 0 (.slice (some ⟨g, 0, none⟩) n' c) (l.take k ++ l.drop (k + 1)) (hs.take k ++ hs.drop (k + 1)) := by
  have hl := h.len
  have hlen : (l.take k ++ l.drop (k + 1)).length = n' := by simp; omega
  have hV : ∀ i (hi : i < l.length), OwnV w' 0 (hs[i]'(by omega)) l[i].2.2 := fun i hi => by
    have h1 := h.ops i hi
    exact ⟨h1.1, rowR_of_block h1.2 (fun j e => hf.block j (h1.2.lt j e).2 (fun e2 => h.out g rfl _ (List.getElem_mem _) (by rw [e, List.mem_singleton.1 e2])))⟩
  have hops : ∀ i (hi : i < (l.take k ++ l.drop (k + 1)).length), OwnV w' 0 ((hs.take k ++ hs.drop (k + 1))[i]'(by simp at hi ⊢; omega)) (l.take k ++ l.drop (k + 1))[i].2.2 := by
    intro i hi
    by_cases e : i < k
    · have h1 : (l.take k ++ l.drop (k + 1))[i] = l[i]'(by omega) := by
        rw [List.getElem_append_left (by simp; omega)]; simp
      have h2 : (hs.take k ++ hs.drop (k + 1))[i]'(by simp at hi ⊢; omega) = hs[i]'(by omega) := by
        rw [List.getElem_append_left (by simp; omega)]; simp
      rw [h1, h2]
      exact hV i (by omega)
    · have hi' : i + 1 < l.length := by simp at hi; omega
      have h1 : (l.take k ++ l.drop (k + 1))[i] = l[i + 1]'hi' := by
        rw [List.getElem_append_right (by simp; omega)]
        simp only [List.getElem_drop]
        congr 1
        simp; omega
      have h2 : (hs.take k ++ hs.drop (k + 1))[i]'(by simp at hi ⊢; omega) = hs[i + 1]'(by omega) := by
        rw [List.getElem_append_right (by simp; omega)]
        simp only [List.getElem_drop]
        congr 1
        simp; omega
      rw [h1, h2]
      exact hV (i + 1) hi'
  have hsub : (hs.take k ++ hs.drop (k + 1)).Sublist hs := by
    rw [← List.eraseIdx_eq_take_drop_succ]; exact List.eraseIdx_sublist _ _
  refine ⟨by simp; omega, fun x hx => h.sm x ?_, by rw [hlen]; exact hown, hops, h.apart.sublist hsub, fun j hj y hy e => ?_⟩
  · rcases List.mem_append.1 hx with h1 | h1
    · exact List.mem_of_mem_take h1
    · exact List.mem_of_mem_drop h1
  · have hy2 : y ∈ hs := hsub.subset hy
    have e3 : g = j := by simpa [Value.ownBlock] using hj
    exact h.out j (by rw [← e3]; rfl) y hy2 e
end Go.Proofs.YtggdgceglmbaiaaGreatDoor.recs
