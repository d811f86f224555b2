/- The program's orders: what is met, at which shard, what is done. -/
import Derived.Test.YtooiinicnkhlbaaOrdJ
import Derived.Test.YtooiinicnkhlbaaOrdV
import Derived.Test.YtooiinicnkhlbaaPairD
import Derived.Test.YtooiinicnkhlbaaPairE
namespace Go.Proofs.Ytooiinicnkhlbaa.ords
open Go Go.RowKit Go.Proofs.Ytooiinicnkhlbaa.base Go.Proofs.Ytooiinicnkhlbaa.pairs
set_option linter.unusedVariables false
set_option linter.unusedSimpArgs false

/-- whether a need holds -/
def need1 (m : List Pr) (k v : ByteArray) : Bool := match getKey k m with | none => decide (v.size = 0) | some x => decide (v.size ≠ 0) && decide (x = v)
theorem meet1_need (m : List Pr) (z : Int) (k v : ByteArray) : meet1 m (z, k, v) = (decide (z ≠ 3) || need1 m k v) := rfl

set_option maxRecDepth 100000 in
set_option maxHeartbeats 1000000 in
theorem i_needHolds (b off len cap : Nat) (m : List Pr) (z : Int) (k v : ByteArray) (w : World) (h : SlP w (some ⟨b, off, none⟩) len m) :
    Calls Try.prog 82 #[.slice (some ⟨b, off, none⟩) len cap, .agg #[.int .i64 z, .string k, .string v]] w fun e w' => e = .returned (.bool (need1 m k v)) ∧ Below w.heap.size w w' := by
  have hba : Below w.heap.size w (w.alloc (.cells #[.int .i64 z, .string k, .string v] 95)) := (Below.refl _ _).alloc (Nat.le_refl _) _
  have hG := impl_getKey b off len cap m k _ (h.below hba)
  unfold need1
  cases hg : getKey k m with
  | none =>
    rw [hg] at hG
    simp only [getRet] at hG ⊢
    have HG := Hid.mk' hG
    clear hG hg
    by_cases hv : v.size = 0
    · rw [decide_eq_true hv]
      obtain rfl := size_empty hv
      clear hv
      go_enter Try.func82, Try.ntmps82
      go_wp2_with fail
      refine HG.out.mono ?_
      rintro e w1 ⟨rfl, hb1⟩
      have hc := bcell hb1
      go_wp2_with fail
      go_ret
      exact ⟨rfl, hba.trans (hb1.mono hba.size)⟩
    · rw [decide_eq_false hv]
      obtain ⟨hq, hq2⟩ := not_empty hv
      clear hv
      go_enter Try.func82, Try.ntmps82
      go_wp2_with fail
      refine HG.out.mono ?_
      rintro e w1 ⟨rfl, hb1⟩
      have hc := bcell hb1
      go_wp2_with fail
      go_ret
      exact ⟨rfl, hba.trans (hb1.mono hba.size)⟩
  | some x =>
    rw [hg] at hG
    simp only [getRet] at hG ⊢
    have HG := Hid.mk' hG
    clear hG hg
    by_cases hv : v.size = 0
    · have HF : Hid ((decide (v.size ≠ 0) && decide (x = v)) = false) := by show _ = _; simp [hv]
      rw [HF.out]
      clear HF
      obtain rfl := size_empty hv
      clear hv
      go_enter Try.func82, Try.ntmps82
      go_wp2_with fail
      refine HG.out.mono ?_
      rintro e w1 ⟨rfl, hb1⟩
      have hc := bcell hb1
      go_wp2_with fail
      go_ret
      exact ⟨rfl, hba.trans (hb1.mono hba.size)⟩
    · obtain ⟨hq, hq2⟩ := not_empty hv
      by_cases hx : x = v
      · have HF : Hid ((decide (v.size ≠ 0) && decide (x = v)) = true) := by show _ = _; simp [hv, hx]
        rw [HF.out]
        clear HF hv
        subst hx
        go_enter Try.func82, Try.ntmps82
        go_wp2_with fail
        refine HG.out.mono ?_
        rintro e w1 ⟨rfl, hb1⟩
        have hc := bcell hb1
        go_wp2_with fail
        go_ret
        exact ⟨rfl, hba.trans (hb1.mono hba.size)⟩
      · have HF : Hid ((decide (v.size ≠ 0) && decide (x = v)) = false) := by show _ = _; simp [hx]
        rw [HF.out]
        have hne := str_ne hx
        clear HF hv hx
        go_enter Try.func82, Try.ntmps82
        go_wp2_with fail
        refine HG.out.mono ?_
        rintro e w1 ⟨rfl, hb1⟩
        have hc := bcell hb1
        go_wp2_with fail
        go_ret
        exact ⟨rfl, hba.trans (hb1.mono hba.size)⟩

set_option maxRecDepth 100000 in
set_option maxHeartbeats 2000000 in
theorem impl_meets (b off len cap : Nat) (m : List Pr) (b2 off2 len2 cap2 : Nat) (l : List Od) (w : World) (h : SlP w (some ⟨b, off, none⟩) len m) (h2 : SlO w (some ⟨b2, off2, none⟩) len2 l) (hsz : len + len2 ≤ 1099511627776) :
    Calls Try.prog 59 #[.slice (some ⟨b, off, none⟩) len cap, .slice (some ⟨b2, off2, none⟩) len2 cap2] w fun e w' => e = .returned (.bool (meets m l)) ∧ Below w.heap.size w w' := by
  have hl := h2.1
  subst hl
  generalize hR : meets m l = R
  have HR := Hid.mk' hR
  clear hR
  go_enter Try.func59, Try.ntmps59
  go_wp2_with fail
  go_loopw [9] (fun i wr => ∃ k : Nat, k ≤ l.length ∧ i = .int .i64 (k : Int) ∧ meets m (l.drop k) = R ∧ Below w.heap.size w wr) (fun i _ => l.length - (intOf i).toNat)
  case atStart => exact ⟨0, Nat.zero_le _, rfl, HR.out, Below.refl _ _⟩
  case round =>
    obtain ⟨k, hk, rfl, hr, hB⟩ := hrel
    by_cases hlt : k < l.length
    · obtain ⟨c0, c1, c2⟩ := (h2.below hB).cells k hlt
      have hst := meets_drop m l k hlt
      rw [hr] at hst
      have hki : (k : Int) < (l.length : Int) := by omega
      generalize l[k] = o at *
      obtain ⟨z, key, val⟩ := o
      simp only [] at c0 c1 c2
      rw [meet1_need] at hst
      have hBA : Below w.heap.size w (wr.alloc (.cells #[.int .i64 z, .string key, .string val] 95)) := hB.alloc hB.size _
      have hC := i_needHolds b off len cap m z key val _ (h.below hBA)
      by_cases hz : z = 3
      · subst hz
        cases hN : need1 m key val
        all_goals
          rw [hN] at hst hC
          have HST := Hid.mk' hst
          have HC := Hid.mk' hC
          clear hst hr hC hN
          go_wp2_with fail
          refine HC.out.mono ?_
          rintro e w3 ⟨rfl, hb3⟩
          have hB3 : Below w.heap.size w w3 := hBA.trans (hb3.mono hBA.size)
          clear hb3 hBA hB c0 c1 c2
          go_wp2_with fail
        · go_ret
          exact ⟨ret_bool (by rw [HST.out]; rfl), hB3⟩
        · go_roundw
          case rel => exact ⟨k + 1, by omega, by go_num, by rw [HST.out]; simp, hB3⟩
          case measure => simp [intOf]; omega
      · have HF : Hid (meets m (l.drop (k + 1)) = R) := by show _ = _; simp [hz] at hst; exact hst.symm
        have hzz : (z == 3) = false := beq_eq_false_iff_ne.2 hz
        clear hst hr hz hC
        go_wp2_with fail
        go_roundw
        case rel => exact ⟨k + 1, by omega, by go_num, HF.out, hBA⟩
        case measure => simp [intOf]; omega
    · have HF : Hid (R = true) := by show _ = _; rw [← hr, List.drop_eq_nil_of_le (by omega)]; rfl
      clear hr
      go_wp2_with fail
      go_ret
      exact ⟨ret_bool HF.out.symm, hB⟩


set_option maxRecDepth 100000 in
set_option maxHeartbeats 2000000 in
theorem impl_apply (b off len cap : Nat) (m : List Pr) (b2 off2 len2 cap2 : Nat) (l : List Od) (w : World) (h : SlP w (some ⟨b, off, none⟩) len m) (h2 : SlO w (some ⟨b2, off2, none⟩) len2 l) (hcap : len ≤ cap) (hsz : len + len2 ≤ 1099511627776) :
    Calls Try.prog 60 #[.slice (some ⟨b, off, none⟩) len cap, .slice (some ⟨b2, off2, none⟩) len2 cap2] w fun e w' =>
      ∃ g' n' cap', e = .returned (.slice (some ⟨g', 0, none⟩) n' cap') ∧ OwnP w' w.heap.size g' n' cap' (applyAll m l) ∧ Below w.heap.size w w' := by
  obtain ⟨i0, hif, hz0, hz1, hz2⟩ := info_parts infoP
  have hl := h.1
  have hsm := h.2.2.1
  have hl2 := h2.1
  have hsm2 := h2.2.2.1
  subst hl hl2
  have hba : Below w.heap.size w (w.alloc (.cells #[] 70)) := (Below.refl _ _).alloc (Nat.le_refl _) _
  have HC := Hid.mk' (cells_pairs (h.below hba).cells)
  have hn0 := pairVals_length m
  have hm1 : 0 + m.length ≤ maxLen := by unfold maxLen; omega
  have hm2 : (0 + m.length) * 32 ≤ 140737488355328 := by omega
  have hown0 := (ownP_made w w.heap.size (Nat.le_refl _)).2.2
  go_enter Try.func60, Try.ntmps60
  go_wp2_with (at_builtin; refine wpList_append_own _ rfl (.tmp 8) (.tmp 9) 26 rfl w.heap.size 70 i0 (.agg #[.string ⟨#[]⟩, .string ⟨#[]⟩]) 2 32 Try.underlying26 hif hz0 hz1 hz2 rfl (by decide) _ _ _ rfl hown0 ⟨b, off, none⟩ m.length cap (pairVals m) rfl hn0 HC.out (pairVals_oneCell _) hm1 hm2 (le_alloc _ _ (Nat.le_refl _)) ?_)
  intro v1 w1 hown hgrow hnn
  have hnn' : ¬ v1 = .slice none 0 0 := by simpa using hnn
  obtain ⟨g1, cap1, hv, hO1⟩ := ownP_val rfl hsm hnn' (by simpa [pairVals] using hown)
  subst hv
  have hB1 : Below w.heap.size w w1 := hba.grown hgrow (le_alloc _ _ (Nat.le_refl _)) (fun k e => by simp [Value.ownBlock] at e; omega)
  clear hown hgrow hnn hnn' hown0 HC hn0 hm1 hm2 hba
  go_wp2_with (at_builtin; fail)
  go_loopw [5, 13] (fun v i wr => ∃ (k g n cp : Nat), k ≤ l.length ∧ n ≤ m.length + k ∧ i = .int .i64 (k : Int) ∧ v = .slice (some ⟨g, 0, none⟩) n cp ∧ OwnP wr w.heap.size g n cp (applyAll m (l.take k)) ∧ Below w.heap.size w wr) (fun _ i _ => l.length - (intOf i).toNat)
  case atStart => exact ⟨0, g1, _, cap1, Nat.zero_le _, by omega, rfl, rfl, hO1, hB1⟩
  case round =>
    clear hO1 hB1
    obtain ⟨k, g, n, cp, hk, hn, rfl, rfl, hO, hB⟩ := hrel
    by_cases hlt : k < l.length
    · obtain ⟨c0, c1, c2⟩ := (h2.below hB).cells k hlt
      have hpk := hsm2 _ (List.getElem_mem hlt)
      have hki : (k : Int) < (l.length : Int) := by omega
      have HU := Hid.mk' (apply_take m l k hlt)
      have hpl := apply1_length (applyAll m (l.take k)) l[k]
      have hcs := hO.cases
      have hul := hO.1
      have hBA : Below w.heap.size w (wr.alloc (.cells #[.int .i64 l[k].1, .string l[k].2.1, .string l[k].2.2] 95)) := hB.alloc hB.size _
      have hOA : OwnP (wr.alloc (.cells #[.int .i64 l[k].1, .string l[k].2.1, .string l[k].2.2] 95)) w.heap.size g n cp (applyAll m (l.take k)) := hO.below ((Below.refl _ _).alloc (Nat.le_refl _) _)
      generalize l[k] = p at *
      generalize applyAll m (l.take k) = u at *
      obtain ⟨z, key, val⟩ := p
      simp only [] at c0 c1 c2 hpk hBA hOA
      by_cases hz : z = 1
      · subst hz
        have HU2 : Hid (applyAll m (l.take (k + 1)) = putKey key val u) := by show _ = _; rw [HU.out]; rfl
        have hpl2 := (putKey_length key val u).1
        have HP := Hid.mk' (impl_putKey g 0 n cp u key val _ hOA.sl hcs.1 (by omega) hpk.2.1 hpk.2.2)
        clear HU hpl hOA hO hB
        go_wp2_with (at_builtin; fail)
        refine HP.out.mono ?_
        rintro e w5 ⟨g5, n5, cp5, rfl, hO5, hb5⟩
        have hB5 : Below w.heap.size w w5 := hBA.trans (hb5.mono hBA.size)
        have hO5' := hO5.mono (base' := w.heap.size) hBA.size
        rw [← HU2.out] at hO5'
        have hn5 : n5 ≤ m.length + (k + 1) := by have := hO5.1; omega
        have HO5 := Hid.mk' hO5'
        clear hb5 hO5 hO5' hBA c0 c1 c2 HP
        go_wp2_with (at_builtin; fail)
        go_roundw
        case rel => exact ⟨k + 1, g5, n5, cp5, by omega, hn5, by go_num, rfl, HO5.out, hB5⟩
        case measure => simp [intOf]; omega
      · have hb1 : (z == 1) = false := beq_eq_false_iff_ne.2 hz
        by_cases hz2 : z = 2
        · subst hz2
          have HU2 : Hid (applyAll m (l.take (k + 1)) = delKey key u) := by show _ = _; rw [HU.out]; rfl
          have hpl2 : (delKey key u).length ≤ u.length := List.length_filter_le _ _
          have HP := Hid.mk' (impl_delKey g 0 n cp u key _ hOA.sl hcs.1 (by omega) hpk.2.1)
          clear HU hpl hz hOA hO hB
          go_wp2_with (at_builtin; fail)
          refine HP.out.mono ?_
          rintro e w5 ⟨g5, n5, cp5, rfl, hO5, hb5⟩
          have hB5 : Below w.heap.size w w5 := hBA.trans (hb5.mono hBA.size)
          have hO5' := hO5.mono (base' := w.heap.size) hBA.size
          rw [← HU2.out] at hO5'
          have hn5 : n5 ≤ m.length + (k + 1) := by have := hO5.1; omega
          have HO5 := Hid.mk' hO5'
          clear hb5 hO5 hO5' hBA c0 c1 c2 HP
          go_wp2_with (at_builtin; fail)
          go_roundw
          case rel => exact ⟨k + 1, g5, n5, cp5, by omega, hn5, by go_num, rfl, HO5.out, hB5⟩
          case measure => simp [intOf]; omega
        · have hb2 : (z == 2) = false := beq_eq_false_iff_ne.2 hz2
          have HU2 : Hid (applyAll m (l.take (k + 1)) = u) := by show _ = _; rw [HU.out]; unfold apply1; rw [if_neg hz, if_neg hz2]
          clear HU hpl hz hz2 hO hB
          go_wp2_with (at_builtin; fail)
          go_roundw
          case rel => exact ⟨k + 1, g, n, cp, by omega, by omega, by go_num, rfl, by rw [HU2.out]; exact hOA, hBA⟩
          case measure => simp [intOf]; omega
    · have HE : Hid (l.take k = l) := List.take_of_length_le (by omega)
      go_wp2_with (at_builtin; fail)
      go_ret
      rw [HE.out] at hO
      exact ⟨g, n, cp, rfl, hO, hB⟩

end Go.Proofs.Ytooiinicnkhlbaa.ords
