/- The specification's orders: what is met, what is done, at which shard. -/
import Derived.Test.YtooiinicnkhlbaaOrdT
import Derived.Test.YtooiinicnkhlbaaHash
namespace Go.Proofs.Ytooiinicnkhlbaa.ords
open Go Go.RowKit Go.Proofs.Ytooiinicnkhlbaa.base Go.Proofs.Ytooiinicnkhlbaa.pairs
set_option linter.unusedVariables false
set_option linter.unusedSimpArgs false

theorem meets_drop (m : List Pr) (l : List Od) (k : Nat) (h : k < l.length) : meets m (l.drop k) = (meet1 m l[k] && meets m (l.drop (k + 1))) := by
  rw [List.drop_eq_getElem_cons h]; rfl


set_option maxRecDepth 100000 in
set_option maxHeartbeats 2000000 in
theorem spec_meets (a : Option Addr) (len cap : Nat) (m : List Pr) (a2 : Option Addr) (len2 cap2 : Nat) (l : List Od) (w : World) (h : SlP w a len m) (h2 : SlO w a2 len2 l) :
    Calls Try.prog 65 #[.slice a len cap, .slice a2 len2 cap2] w fun e w' => e = .returned (.bool (meets m l)) ∧ Below w.heap.size w w' := by
  have hl := h2.1
  have hm := h2.2.1
  subst hl
  unfold maxLen at hm
  generalize hR : meets m l = R
  have HR := Hid.mk' hR
  clear hR
  go_enter Try.func65, Try.ntmps65
  go_wp2_with fail
  go_loopw [5] (fun i wr => ∃ k : Nat, k ≤ l.length ∧ i = .int .i64 (k : Int) ∧ meets m (l.drop k) = R ∧ Below w.heap.size w wr) (fun i _ => l.length - (intOf i).toNat)
  case atStart => exact ⟨0, Nat.zero_le _, rfl, HR.out, Below.refl _ _⟩
  case round =>
    obtain ⟨k, hk, rfl, hr, hB⟩ := hrel
    by_cases hlt : k < l.length
    · obtain ⟨b, off, ha, hcl⟩ := h2.2.2.2 (by omega)
      subst ha
      have hS := h2.below hB
      obtain ⟨c0, c1, c2⟩ := hS.cells k hlt
      have hP := h.below hB
      have hst := meets_drop m l k hlt
      rw [hr] at hst
      have hki : (k : Int) < (l.length : Int) := by omega
      unfold meet1 at hst
      have HG := Hid.mk' (spec_getKey a len cap m l[k].2.1 wr hP)
      generalize getKey l[k].2.1 m = G at *
      have HST := Hid.mk' hst
      clear hst hr hS hcl hP
      generalize l[k] = o at *
      obtain ⟨z, key, val⟩ := o
      simp only [] at c0 c1 c2
      by_cases hz : z = 3
      · subst hz
        cases G with
        | none =>
          simp only [getRet] at HG
          by_cases hv : val.size = 0
          · have HF : Hid (meets m (l.drop (k + 1)) = R) := by show _ = _; have := HST.out; simp [hv] at this; exact this.symm
            obtain rfl := size_empty hv
            clear HST hv
            go_wp2_with fail
            refine HG.out.mono ?_
            rintro e w1 ⟨rfl, hw1⟩
            subst hw1
            go_wp2_with fail
            go_roundw
            case rel => exact ⟨k + 1, by omega, by go_num, HF.out, by first | exact hB | exact hB.drew⟩
            case measure => simp [intOf]; omega
          · have HF : Hid (R = false) := by show _ = _; have := HST.out; simpa [hv] using this
            obtain ⟨hq, hq2⟩ := not_empty hv
            clear HST hv
            go_wp2_with fail
            refine HG.out.mono ?_
            rintro e w1 ⟨rfl, hw1⟩
            subst hw1
            go_wp2_with fail
            go_ret
            exact ⟨ret_bool HF.out.symm, by first | exact hB | exact hB.drew⟩
        | some v =>
          simp only [getRet] at HG
          by_cases hv : val.size = 0
          · have HF : Hid (R = false) := by show _ = _; have := HST.out; simpa [hv] using this
            obtain rfl := size_empty hv
            clear HST hv
            go_wp2_with fail
            refine HG.out.mono ?_
            rintro e w1 ⟨rfl, hw1⟩
            subst hw1
            go_wp2_with fail
            go_ret
            exact ⟨ret_bool HF.out.symm, by first | exact hB | exact hB.drew⟩
          · obtain ⟨hq, hq2⟩ := not_empty hv
            by_cases hvv : v = val
            · have HF : Hid (meets m (l.drop (k + 1)) = R) := by show _ = _; have := HST.out; simp [hv, hvv] at this; exact this.symm
              subst hvv
              clear HST hv
              go_wp2_with fail
              refine HG.out.mono ?_
              rintro e w1 ⟨rfl, hw1⟩
              subst hw1
              go_wp2_with fail
              go_roundw
              case rel => exact ⟨k + 1, by omega, by go_num, HF.out, by first | exact hB | exact hB.drew⟩
              case measure => simp [intOf]; omega
            · have HF : Hid (R = false) := by show _ = _; have := HST.out; simpa [hv, hvv] using this
              have hne := str_ne hvv
              clear HST hv hvv
              go_wp2_with fail
              refine HG.out.mono ?_
              rintro e w1 ⟨rfl, hw1⟩
              subst hw1
              go_wp2_with fail
              go_ret
              exact ⟨ret_bool HF.out.symm, by first | exact hB | exact hB.drew⟩
      · have HF : Hid (meets m (l.drop (k + 1)) = R) := by show _ = _; have := HST.out; simp [hz] at this; exact this.symm
        have hzz : (z == 3) = false := beq_eq_false_iff_ne.2 hz
        clear HST hz
        go_wp2_with fail
        go_roundw
        case rel => exact ⟨k + 1, by omega, by go_num, HF.out, hB⟩
        case measure => simp [intOf]; omega
    · have HF : Hid (R = true) := by show _ = _; rw [← hr, List.drop_eq_nil_of_le (by omega)]; rfl
      clear hr
      go_wp2_with fail
      go_ret
      exact ⟨ret_bool HF.out.symm, hB⟩
end Go.Proofs.Ytooiinicnkhlbaa.ords
