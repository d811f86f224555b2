/- The laws' own helpers on pairs: what each call does. The laws' marks on pairs, and pairs that are the same. The laws' own helpers on orders: what each call does. The laws' marks on orders and on rows of numbers, and orders that are the same. The laws' helpers for those who decide: alike. The laws' helpers for those who decide: their sizes. A struct in a block, whole or in the midst of it. No function of the program is named here. A struct in a block of its own, and what it owns, whatever the struct. No function of the program is named here. Rows of structs that own memory: made, an element written, an element turned. No function of the program is named here. -/
import Derived.Test.YtijplooogplccaaShab
import Derived.Test.YtijplooogplccaaShaa
import Derived.Handy
namespace Go.Proofs.Ytijplooogplccaa.pairs
open Go Go.RowKit Go.Proofs.Ytijplooogplccaa.base Go.Proofs.Ytijplooogplccaa.helps
set_option linter.unusedVariables false
set_option linter.unusedSimpArgs false

set_option maxHeartbeats 400000 in
theorem eqPair (p q : Pr) (w : World) :
    Calls Try.prog 101 #[.agg #[.string p.1, .string p.2], .agg #[.string q.1, .string q.2]] w fun e w' => e = .returned (.bool (decide (p = q))) ∧ Below w.heap.size w w' := by
  have hB : Below w.heap.size w ((w.alloc (.cells #[.string p.1, .string p.2] 126)).alloc (.cells #[.string q.1, .string q.2] 126)) := ((Below.refl _ _).alloc (Nat.le_refl _) _).alloc (by simp) _
  obtain ⟨p1, p2⟩ := p
  obtain ⟨q1, q2⟩ := q
  by_cases e1 : p1 = q1
  · subst e1
    by_cases e2 : p2 = q2
    · subst e2
      go_enter Try.func101, Try.ntmps101
      go_wp2
      go_ret
      exact ⟨ret_bool (by simp), hB⟩
    · have hq := str_ne e2
      have HE := Hid.mk' e2
      clear e2
      go_enter Try.func101, Try.ntmps101
      go_wp2
      go_ret
      exact ⟨ret_bool (by have := HE.out; simp [this]), hB⟩
  · have hq := str_ne e1
    have HE := Hid.mk' e1
    clear e1
    go_enter Try.func101, Try.ntmps101
    go_wp2
    go_ret
    exact ⟨ret_bool (by have := HE.out; simp [this]), hB⟩

theorem take_eqP {l l2 : List Pr} {k : Nat} (h : l.take k = l2.take k) (h1 : k < l.length) (h2 : k < l2.length) (e : l[k] = l2[k]) : l.take (k + 1) = l2.take (k + 1) := by
  rw [take_snocP l k h1, take_snocP l2 k h2, h, e]
set_option maxRecDepth 100000 in
set_option maxHeartbeats 1000000 in
theorem eqPairS (a a2 : Option Addr) (len cap len2 cap2 : Nat) (l l2 : List Pr) (w : World) (h : SlP w a len l) (h2 : SlP w a2 len2 l2) :
    Calls Try.prog 84 #[.slice a len cap, .slice a2 len2 cap2] w fun e w' => e = .returned (.bool (decide (l = l2))) ∧ Below w.heap.size w w' := by
  obtain ⟨hl, hm, _, hc⟩ := h
  obtain ⟨hl2, hm2, _, hc2⟩ := h2
  subst hl hl2
  unfold maxLen at hm hm2
  by_cases hne : l.length = l2.length
  · have hb : ((l.length : Int) == (l2.length : Int)) = true := by simp; omega
    go_enter Try.func84, Try.ntmps84
    go_wp2_with fail
    go_loopw [5] (fun i wr => ∃ k : Nat, k ≤ l.length ∧ i = .int .i64 k ∧ l.take k = l2.take k ∧ Below w.heap.size w wr) (fun i _ => l.length - (intOf i).toNat)
    case atStart => exact ⟨0, Nat.zero_le _, rfl, rfl, Below.refl _ _⟩
    case round =>
      obtain ⟨k, hk, rfl, htk, hB⟩ := hrel
      by_cases hlt : k < l.length
      · obtain ⟨b, off, ha, hcl⟩ := hc (by omega)
        obtain ⟨b2, off2, ha2, hcl2⟩ := hc2 (by omega)
        subst ha ha2
        have hlt2 : k < l2.length := by omega
        have hi1 : (k : Int) < (l.length : Int) := by omega
        have hi2 : (k : Int) < (l2.length : Int) := by omega
        have HT := Hid.mk' htk
        have hb1 : b < w.heap.size := World.block_lt_of_cell? w _ (hcl k hlt).1
        have hb2 : b2 < w.heap.size := World.block_lt_of_cell? w _ (hcl2 k hlt2).1
        have c1 := (hB.cell (p := ⟨b, off + k * 2, none⟩) hb1).trans (hcl k hlt).1
        have c2 := (hB.cell (p := ⟨b, off + k * 2 + 1, none⟩) hb1).trans (hcl k hlt).2
        have c3 := (hB.cell (p := ⟨b2, off2 + k * 2, none⟩) hb2).trans (hcl2 k hlt2).1
        have c4 := (hB.cell (p := ⟨b2, off2 + k * 2 + 1, none⟩) hb2).trans (hcl2 k hlt2).2
        have o1 := last.On.cell (B := wr.heap.size) c1 (by have := hB.size; omega)
        have o2 := last.On.cell (B := wr.heap.size) c2 (by have := hB.size; omega)
        have o3 := last.On.cell (B := wr.heap.size) c3 (by have := hB.size; omega)
        have o4 := last.On.cell (B := wr.heap.size) c4 (by have := hB.size; omega)
        have hinh := last.On.inh wr.heap.size wr
        have hcall : ∀ x : last.On wr.heap.size wr, Calls Try.prog 101 #[.agg #[.string l[k].1, .string l[k].2], .agg #[.string l2[k].1, .string l2[k].2]] x.w fun e w' => e = .returned (.bool (decide (l[k] = l2[k]))) ∧ ∃ y : last.On wr.heap.size wr, w' = y.w := fun x => last.Calls.on x (Nat.le_refl _) (eqPair l[k] l2[k] x.w)
        by_cases e : l[k] = l2[k]
        · rw [decide_eq_true e] at hcall
          have HE := Hid.mk' (take_eqP htk hlt hlt2 e)
          clear hcl hcl2 hc hc2 htk hne e
          generalize l[k] = p at *
          generalize l2[k] = q at *
          go_wp2_with fail
          refine last.wp_region_on wr.heap.size (by kernel_rfl) (by kernel_rfl) ?_
          repeat (go_big_quiet_step ((go_at_call 101; exact hcall _)))
          refine wpQuiet_nil ?_
          intro w5 hw5
          obtain ⟨x5, hw5⟩ := hw5
          subst hw5
          have hB5 : Below w.heap.size w x5.w := hB.trans (x5.2.mono hB.size)
          go_wp2_with fail
          go_roundw
          case rel => exact ⟨k + 1, by omega, by go_num, HE.out, hB5⟩
          case measure => simp [intOf]; omega
        · rw [decide_eq_false e] at hcall
          have HE : Hid (¬ l = l2) := by
            show ¬ _
            rintro rfl; exact e rfl
          clear hcl hcl2 hc hc2 htk hne e
          generalize l[k] = p at *
          generalize l2[k] = q at *
          go_wp2_with fail
          refine last.wp_region_on wr.heap.size (by kernel_rfl) (by kernel_rfl) ?_
          repeat (go_big_quiet_step ((go_at_call 101; exact hcall _)))
          refine wpQuiet_nil ?_
          intro w5 hw5
          obtain ⟨x5, hw5⟩ := hw5
          subst hw5
          have hB5 : Below w.heap.size w x5.w := hB.trans (x5.2.mono hB.size)
          go_wp2_with fail
          go_ret
          exact ⟨ret_bool (by symm; rw [decide_eq_false_iff_not]; exact HE.out), hB5⟩
      · have e : k = l.length := by omega
        have hfin : l = l2 := by
          subst e
          rw [List.take_of_length_le (Nat.le_refl _), List.take_of_length_le (by omega)] at htk
          exact htk
        have HF := Hid.mk' hfin
        clear hfin htk
        go_wp2_with fail
        go_ret
        exact ⟨ret_bool (by symm; rw [decide_eq_true_iff]; exact HF.out), hB⟩
  · have hb : ((l.length : Int) == (l2.length : Int)) = false := by simp; omega
    go_enter Try.func84, Try.ntmps84
    go_wp2
    go_ret
    exact ⟨ret_bool (by symm; rw [decide_eq_false_iff_not]; intro h; exact hne (by rw [h])), Below.refl _ _⟩

end Go.Proofs.Ytijplooogplccaa.pairs

namespace Go.Proofs.Ytijplooogplccaa.pairs
open Go Go.RowKit Go.Proofs.Ytijplooogplccaa.base Go.Proofs.Ytijplooogplccaa.helps
set_option linter.unusedVariables false
set_option linter.unusedSimpArgs false

end Go.Proofs.Ytijplooogplccaa.pairs

namespace Go.Proofs.Ytijplooogplccaa.ords
open Go Go.RowKit Go.Proofs.Ytijplooogplccaa.base Go.Proofs.Ytijplooogplccaa.helps Go.Proofs.Ytijplooogplccaa.pairs
set_option linter.unusedVariables false
set_option linter.unusedSimpArgs false

theorem take_snocO (l : List Od) (k : Nat) (h : k < l.length) : l.take (k + 1) = l.take k ++ [l[k]] := List.take_succ_eq_append_getElem h
set_option maxHeartbeats 400000 in
theorem eqOp (p q : Od) (w : World) :
    Calls Try.prog 102 #[.agg #[.int .i64 p.1, .string p.2.1, .string p.2.2], .agg #[.int .i64 q.1, .string q.2.1, .string q.2.2]] w fun e w' => e = .returned (.bool (decide (p = q))) ∧ Below w.heap.size w w' := by
  have hB : Below w.heap.size w ((w.alloc (.cells #[.int .i64 p.1, .string p.2.1, .string p.2.2] 138)).alloc (.cells #[.int .i64 q.1, .string q.2.1, .string q.2.2] 138)) := ((Below.refl _ _).alloc (Nat.le_refl _) _).alloc (by simp) _
  obtain ⟨p0, p1, p2⟩ := p
  obtain ⟨q0, q1, q2⟩ := q
  by_cases e0 : p0 = q0
  · subst e0
    have h0 : (p0 == p0) = true := beq_self_eq_true _
    by_cases e1 : p1 = q1
    · subst e1
      by_cases e2 : p2 = q2
      · subst e2
        go_enter Try.func102, Try.ntmps102
        go_wp2
        go_ret
        exact ⟨ret_bool (by simp), hB⟩
      · have hq := str_ne e2
        have HE := Hid.mk' e2
        clear e2
        go_enter Try.func102, Try.ntmps102
        go_wp2
        go_ret
        exact ⟨ret_bool (by have := HE.out; simp [this]), hB⟩
    · have hq := str_ne e1
      have HE := Hid.mk' e1
      clear e1
      go_enter Try.func102, Try.ntmps102
      go_wp2
      go_ret
      exact ⟨ret_bool (by have := HE.out; simp [this]), hB⟩
  · have h0 : (p0 == q0) = false := beq_eq_false_iff_ne.2 e0
    have HE := Hid.mk' e0
    clear e0
    go_enter Try.func102, Try.ntmps102
    go_wp2
    go_ret
    exact ⟨ret_bool (by have := HE.out; simp [this]), hB⟩

theorem take_eqO {l l2 : List Od} {k : Nat} (h : l.take k = l2.take k) (h1 : k < l.length) (h2 : k < l2.length) (e : l[k] = l2[k]) : l.take (k + 1) = l2.take (k + 1) := by
  rw [take_snocO l k h1, take_snocO l2 k h2, h, e]
set_option maxRecDepth 100000 in
set_option maxHeartbeats 1000000 in
theorem eqOpS (a a2 : Option Addr) (len cap len2 cap2 : Nat) (l l2 : List Od) (w : World) (h : SlO w a len l) (h2 : SlO w a2 len2 l2) :
    Calls Try.prog 85 #[.slice a len cap, .slice a2 len2 cap2] w fun e w' => e = .returned (.bool (decide (l = l2))) ∧ Below w.heap.size w w' := by
  obtain ⟨hl, hm, _, hc⟩ := h
  obtain ⟨hl2, hm2, _, hc2⟩ := h2
  subst hl hl2
  unfold maxLen at hm hm2
  by_cases hne : l.length = l2.length
  · have hb : ((l.length : Int) == (l2.length : Int)) = true := by simp; omega
    go_enter Try.func85, Try.ntmps85
    go_wp2_with fail
    go_loopw [5] (fun i wr => ∃ k : Nat, k ≤ l.length ∧ i = .int .i64 k ∧ l.take k = l2.take k ∧ Below w.heap.size w wr) (fun i _ => l.length - (intOf i).toNat)
    case atStart => exact ⟨0, Nat.zero_le _, rfl, rfl, Below.refl _ _⟩
    case round =>
      obtain ⟨k, hk, rfl, htk, hB⟩ := hrel
      by_cases hlt : k < l.length
      · obtain ⟨b, off, ha, hcl⟩ := hc (by omega)
        obtain ⟨b2, off2, ha2, hcl2⟩ := hc2 (by omega)
        subst ha ha2
        have hlt2 : k < l2.length := by omega
        have hi1 : (k : Int) < (l.length : Int) := by omega
        have hi2 : (k : Int) < (l2.length : Int) := by omega
        have HT := Hid.mk' htk
        have hb1 : b < w.heap.size := World.block_lt_of_cell? w _ (hcl k hlt).1
        have hb2 : b2 < w.heap.size := World.block_lt_of_cell? w _ (hcl2 k hlt2).1
        have c0 := (hB.cell (p := ⟨b, off + k * 3, none⟩) hb1).trans (hcl k hlt).1
        have c1 := (hB.cell (p := ⟨b, off + k * 3 + 1, none⟩) hb1).trans (hcl k hlt).2.1
        have c2 := (hB.cell (p := ⟨b, off + k * 3 + 2, none⟩) hb1).trans (hcl k hlt).2.2
        have d0 := (hB.cell (p := ⟨b2, off2 + k * 3, none⟩) hb2).trans (hcl2 k hlt2).1
        have d1 := (hB.cell (p := ⟨b2, off2 + k * 3 + 1, none⟩) hb2).trans (hcl2 k hlt2).2.1
        have d2 := (hB.cell (p := ⟨b2, off2 + k * 3 + 2, none⟩) hb2).trans (hcl2 k hlt2).2.2
        have oc0 := last.On.cell (B := wr.heap.size) c0 (by have := hB.size; omega)
        have oc1 := last.On.cell (B := wr.heap.size) c1 (by have := hB.size; omega)
        have oc2 := last.On.cell (B := wr.heap.size) c2 (by have := hB.size; omega)
        have od0 := last.On.cell (B := wr.heap.size) d0 (by have := hB.size; omega)
        have od1 := last.On.cell (B := wr.heap.size) d1 (by have := hB.size; omega)
        have od2 := last.On.cell (B := wr.heap.size) d2 (by have := hB.size; omega)
        have hinh := last.On.inh wr.heap.size wr
        have hcall : ∀ x : last.On wr.heap.size wr, Calls Try.prog 102 #[.agg #[.int .i64 l[k].1, .string l[k].2.1, .string l[k].2.2], .agg #[.int .i64 l2[k].1, .string l2[k].2.1, .string l2[k].2.2]] x.w fun e w' => e = .returned (.bool (decide (l[k] = l2[k]))) ∧ ∃ y : last.On wr.heap.size wr, w' = y.w := fun x => last.Calls.on x (Nat.le_refl _) (eqOp l[k] l2[k] x.w)
        by_cases e : l[k] = l2[k]
        · rw [decide_eq_true e] at hcall
          have HE := Hid.mk' (take_eqO htk hlt hlt2 e)
          clear hcl hcl2 hc hc2 htk hne e
          generalize l[k] = p at *
          generalize l2[k] = q at *
          go_wp2_with fail
          refine last.wp_region_on wr.heap.size (by kernel_rfl) (by kernel_rfl) ?_
          repeat (go_big_quiet_step ((go_at_call 102; exact hcall _)))
          refine wpQuiet_nil ?_
          intro w5 hw5
          obtain ⟨x5, hw5⟩ := hw5
          subst hw5
          have hB5 : Below w.heap.size w x5.w := hB.trans (x5.2.mono hB.size)
          go_wp2_with fail
          go_roundw
          case rel => exact ⟨k + 1, by omega, by go_num, HE.out, hB5⟩
          case measure => simp [intOf]; omega
        · rw [decide_eq_false e] at hcall
          have HE : Hid (¬ l = l2) := by
            show ¬ _
            rintro rfl; exact e rfl
          clear hcl hcl2 hc hc2 htk hne e
          generalize l[k] = p at *
          generalize l2[k] = q at *
          go_wp2_with fail
          refine last.wp_region_on wr.heap.size (by kernel_rfl) (by kernel_rfl) ?_
          repeat (go_big_quiet_step ((go_at_call 102; exact hcall _)))
          refine wpQuiet_nil ?_
          intro w5 hw5
          obtain ⟨x5, hw5⟩ := hw5
          subst hw5
          have hB5 : Below w.heap.size w x5.w := hB.trans (x5.2.mono hB.size)
          go_wp2_with fail
          go_ret
          exact ⟨ret_bool (by symm; rw [decide_eq_false_iff_not]; exact HE.out), hB5⟩
      · have e : k = l.length := by omega
        have hfin : l = l2 := by
          subst e
          rw [List.take_of_length_le (Nat.le_refl _), List.take_of_length_le (by omega)] at htk
          exact htk
        have HF := Hid.mk' hfin
        clear hfin htk
        go_wp2_with fail
        go_ret
        exact ⟨ret_bool (by symm; rw [decide_eq_true_iff]; exact HF.out), hB⟩
  · have hb : ((l.length : Int) == (l2.length : Int)) = false := by simp; omega
    go_enter Try.func85, Try.ntmps85
    go_wp2
    go_ret
    exact ⟨ret_bool (by symm; rw [decide_eq_false_iff_not]; intro h; exact hne (by rw [h])), Below.refl _ _⟩

end Go.Proofs.Ytijplooogplccaa.ords

namespace Go.Proofs.Ytijplooogplccaa.ords
open Go Go.RowKit Go.Proofs.Ytijplooogplccaa.base Go.Proofs.Ytijplooogplccaa.helps Go.Proofs.Ytijplooogplccaa.pairs
set_option linter.unusedVariables false
set_option linter.unusedSimpArgs false

/-! ### rows of numbers -/
theorem take_eqZ {l l2 : List Int} {k : Nat} (h : l.take k = l2.take k) (h1 : k < l.length) (h2 : k < l2.length) (e : l[k] = l2[k]) : l.take (k + 1) = l2.take (k + 1) := by
  rw [List.take_succ_eq_append_getElem h1, List.take_succ_eq_append_getElem h2, h, e]
set_option maxRecDepth 100000 in
set_option maxHeartbeats 1000000 in
theorem eqIntS (a a2 : Option Addr) (len cap len2 cap2 : Nat) (l l2 : List Int) (w : World) (h : SlZ w a len l) (h2 : SlZ w a2 len2 l2) :
    Calls Try.prog 99 #[.slice a len cap, .slice a2 len2 cap2] w fun e w' => e = .returned (.bool (decide (l = l2))) ∧ Below w.heap.size w w' := by
  obtain ⟨hl, hm, hc⟩ := h
  obtain ⟨hl2, hm2, hc2⟩ := h2
  subst hl hl2
  unfold maxLen at hm hm2
  by_cases hne : l.length = l2.length
  · have hb : ((l.length : Int) == (l2.length : Int)) = true := by simp; omega
    go_enter Try.func99, Try.ntmps99
    go_wp2_with fail
    go_loopw [5] (fun i wr => ∃ k : Nat, k ≤ l.length ∧ i = .int .i64 k ∧ l.take k = l2.take k ∧ Below w.heap.size w wr) (fun i _ => l.length - (intOf i).toNat)
    case atStart => exact ⟨0, Nat.zero_le _, rfl, rfl, Below.refl _ _⟩
    case round =>
      obtain ⟨k, hk, rfl, htk, hB⟩ := hrel
      by_cases hlt : k < l.length
      · obtain ⟨b, off, ha, hcl⟩ := hc (by omega)
        obtain ⟨b2, off2, ha2, hcl2⟩ := hc2 (by omega)
        subst ha ha2
        have hlt2 : k < l2.length := by omega
        have hi1 : (k : Int) < (l.length : Int) := by omega
        have hi2 : (k : Int) < (l2.length : Int) := by omega
        have hb1 : b < w.heap.size := World.block_lt_of_cell? w _ (hcl k hlt)
        have hb2 : b2 < w.heap.size := World.block_lt_of_cell? w _ (hcl2 k hlt2)
        have c1 := (hB.cell (p := ⟨b, off + k, none⟩) hb1).trans (hcl k hlt)
        have c2 := (hB.cell (p := ⟨b2, off2 + k, none⟩) hb2).trans (hcl2 k hlt2)
        by_cases e : l[k] = l2[k]
        · have HE := Hid.mk' (take_eqZ htk hlt hlt2 e)
          rw [← e] at c2
          generalize l[k] = z at *
          clear hcl hcl2 hc hc2 htk hne e
          have hq : (z == z) = true := beq_self_eq_true _
          go_wp2_with fail
          go_quiet (fail)
          go_wp2_with fail
          go_roundw
          case rel => exact ⟨k + 1, by omega, by go_num, HE.out, by first | exact hB | exact hB.drew | exact below_drewN hB _⟩
          case measure => simp [intOf]; omega
        · have HE : Hid (¬ l = l2) := by
            show ¬ _
            rintro rfl; exact e rfl
          have hq : (l[k] == l2[k]) = false := beq_eq_false_iff_ne.2 e
          generalize l[k] = z at *
          generalize l2[k] = z2 at *
          clear hcl hcl2 hc hc2 htk hne
          go_wp2_with fail
          go_quiet (fail)
          go_wp2_with fail
          go_ret
          exact ⟨ret_bool (by symm; rw [decide_eq_false_iff_not]; exact HE.out), by first | exact hB | exact hB.drew | exact below_drewN hB _⟩
      · have e : k = l.length := by omega
        have hfin : l = l2 := by
          subst e
          rw [List.take_of_length_le (Nat.le_refl _), List.take_of_length_le (by omega)] at htk
          exact htk
        have HF := Hid.mk' hfin
        clear hfin htk
        go_wp2_with fail
        go_ret
        exact ⟨ret_bool (by symm; rw [decide_eq_true_iff]; exact HF.out), hB⟩
  · have hb : ((l.length : Int) == (l2.length : Int)) = false := by simp; omega
    go_enter Try.func99, Try.ntmps99
    go_wp2
    go_ret
    exact ⟨ret_bool (by symm; rw [decide_eq_false_iff_not]; intro h; exact hne (by rw [h])), Below.refl _ _⟩
theorem eqO (a a2 : Option Addr) (len cap len2 cap2 : Nat) (l l2 : List Od) (w : World) (h : SlO w a len l) (h2 : SlO w a2 len2 l2) (he : l = l2) :
    Calls Try.prog 85 #[.slice a len cap, .slice a2 len2 cap2] w fun e w' => e = .returned (.bool true) ∧ Below w.heap.size w w' := by
  refine (eqOpS a a2 len cap len2 cap2 l l2 w h h2).mono ?_
  rintro e w' ⟨rfl, hb⟩
  exact ⟨ret_bool (decide_eq_true he), hb⟩
theorem eqZ (a a2 : Option Addr) (len cap len2 cap2 : Nat) (l l2 : List Int) (w : World) (h : SlZ w a len l) (h2 : SlZ w a2 len2 l2) (he : l = l2) :
    Calls Try.prog 99 #[.slice a len cap, .slice a2 len2 cap2] w fun e w' => e = .returned (.bool true) ∧ Below w.heap.size w w' := by
  refine (eqIntS a a2 len cap len2 cap2 l l2 w h h2).mono ?_
  rintro e w' ⟨rfl, hb⟩
  exact ⟨ret_bool (decide_eq_true he), hb⟩
end Go.Proofs.Ytijplooogplccaa.ords

namespace Go.Proofs.Ytijplooogplccaa.cos
open Go Go.RowKit Go.Proofs.Ytijplooogplccaa.base Go.Proofs.Ytijplooogplccaa.pairs Go.Proofs.Ytijplooogplccaa.ords Go.Proofs.Ytijplooogplccaa.lay Go.Proofs.Ytijplooogplccaa.wds
set_option linter.unusedVariables false
set_option linter.unusedSimpArgs false

theorem below_two (w : World) (o o2 : Obj) : Below w.heap.size w ((w.alloc o).alloc o2) := ((Below.refl _ _).alloc (Nat.le_refl _) _).alloc (by simp) _
set_option maxRecDepth 100000 in
set_option maxHeartbeats 1000000 in
theorem eqChoiceT (tx : Int) (y : Bool) (w : World) :
    Calls Try.prog 82 #[.agg #[.int .i64 tx, .bool y], .agg #[.int .i64 tx, .bool y]] w fun e w' => e = .returned (.bool true) ∧ Below w.heap.size w w' := by
  have hn : (tx == tx) = true := by simp
  cases y
  all_goals
    go_enter Try.func82, Try.ntmps82
    go_wp2_with fail
    go_ret
    exact ⟨rfl, below_two _ _ _⟩
set_option maxRecDepth 100000 in
set_option maxHeartbeats 2000000 in
theorem eqChoicesT (a a2 : Option Addr) (len cap cap2 : Nat) (l : List Ch) (w : World) (h : SlG chR w a len l) (h2 : SlG chR w a2 len l) :
    Calls Try.prog 53 #[.slice a len cap, .slice a2 len cap2] w fun e w' => e = .returned (.bool true) ∧ Below w.heap.size w w' := by
  have hl := h.1
  have hm := h.2.1
  unfold maxLen at hm
  have hb : ((len : Int) == (len : Int)) = true := by simp
  go_enter Try.func53, Try.ntmps53
  go_wp2_with fail
  go_loopw [5] (fun i wr => ∃ k : Nat, k ≤ len ∧ i = .int .i64 k ∧ Below w.heap.size w wr) (fun i _ => len - (intOf i).toNat)
  case atStart => exact ⟨0, Nat.zero_le _, rfl, Below.refl _ _⟩
  case round =>
    obtain ⟨k, hk, rfl, hB⟩ := hrel
    by_cases hlt : k < len
    · have hltl : k < l.length := by omega
      obtain ⟨b, off, e⟩ := slg_some h (by omega)
      obtain ⟨b2, off2, e2⟩ := slg_some h2 (by omega)
      subst e e2
      have hki : (k : Int) < (len : Int) := by omega
      obtain ⟨c1, c2⟩ := ch_at (h.below hB) k hltl
      obtain ⟨c3, c4⟩ := ch_at (h2.below hB) k hltl
      have o1 := last.On.cell (B := wr.heap.size) c1 (World.block_lt_of_cell? _ _ c1)
      have o2 := last.On.cell (B := wr.heap.size) c2 (World.block_lt_of_cell? _ _ c2)
      have o3 := last.On.cell (B := wr.heap.size) c3 (World.block_lt_of_cell? _ _ c3)
      have o4 := last.On.cell (B := wr.heap.size) c4 (World.block_lt_of_cell? _ _ c4)
      have hinh := last.On.inh wr.heap.size wr
      have hcall : ∀ x : last.On wr.heap.size wr, Calls Try.prog 82 #[.agg #[.int .i64 l[k].1, .bool l[k].2], .agg #[.int .i64 l[k].1, .bool l[k].2]] x.w fun e w' => e = .returned (.bool true) ∧ ∃ y : last.On wr.heap.size wr, w' = y.w := fun x => last.Calls.on x (Nat.le_refl _) (eqChoiceT _ _ x.w)
      clear h h2
      generalize l[k] = p at *
      go_wp2_with fail
      refine last.wp_region_on wr.heap.size (by kernel_rfl) (by kernel_rfl) ?_
      repeat (go_big_quiet_step ((go_at_call 82; exact hcall _)))
      refine wpQuiet_nil ?_
      intro w5 hw5
      obtain ⟨x5, hw5⟩ := hw5
      subst hw5
      have hB5 : Below w.heap.size w x5.w := hB.trans (x5.2.mono hB.size)
      go_wp2_with fail
      go_roundw
      case rel => exact ⟨k + 1, by omega, by go_num, hB5⟩
      case measure => simp [intOf]; omega
    · have hnk : ¬ (k : Int) < (len : Int) := by omega
      go_wp2_with fail
      go_ret
      exact ⟨rfl, hB⟩
set_option maxRecDepth 100000 in
set_option maxHeartbeats 1000000 in
theorem eqJobT (tx st : Int) (oa ob : Option Addr) (ol oc bl bc : Nat) (ya yb : Option Addr) (yl yc zl zc : Nat) (ops : List Od) (yes : List Int) (w : World) (h1 : SlO w oa ol ops) (h2 : SlO w ob bl ops) (h3 : SlZ w ya yl yes) (h4 : SlZ w yb zl yes) :
    Calls Try.prog 81 #[.agg #[.int .i64 tx, .slice oa ol oc, .int .i64 st, .slice ya yl yc], .agg #[.int .i64 tx, .slice ob bl bc, .int .i64 st, .slice yb zl zc]] w fun e w' => e = .returned (.bool true) ∧ Below w.heap.size w w' := by
  obtain ⟨W, hW⟩ : ∃ W, (w.alloc (.cells #[.int .i64 tx, .slice oa ol oc, .int .i64 st, .slice ya yl yc] 130)).alloc (.cells #[.int .i64 tx, .slice ob bl bc, .int .i64 st, .slice yb zl zc] 130) = W := ⟨_, rfl⟩
  have hB : Below w.heap.size w W := by rw [← hW]; exact below_two _ _ _
  have hx : BoxJ w.heap.size tx st (.slice oa ol oc) (.slice ya yl yc) W := by rw [← hW]; exact BoxJ.below (heap_alloc_new w _) (below_new _ _)
  have hy : BoxJ (w.heap.size + 1) tx st (.slice ob bl bc) (.slice yb zl zc) W := by
    rw [← hW]
    have := heap_alloc_new (w.alloc (.cells #[.int .i64 tx, .slice oa ol oc, .int .i64 st, .slice ya yl yc] 130)) (.cells #[.int .i64 tx, .slice ob bl bc, .int .i64 st, .slice yb zl zc] 130)
    have e : (w.alloc (.cells #[.int .i64 tx, .slice oa ol oc, .int .i64 st, .slice ya yl yc] 130)).heap.size = w.heap.size + 1 := by simp
    rw [e] at this; exact this
  have HO := Hid.mk' (eqO oa ob ol oc bl bc ops ops W (h1.below hB) (h2.below hB) rfl)
  have HZ := Hid.mk' (fun wx (hx : Below W.heap.size W wx) => eqZ ya yb yl yc zl zc yes yes wx ((h3.below hB).below hx) ((h4.below hB).below hx) rfl)
  have HW := Hid.mk' hW
  have hn : (tx == tx) = true := by simp
  have hs : (st == st) = true := by simp
  clear hW h1 h2 h3 h4
  go_enter Try.func81, Try.ntmps81
  go_wp2_with fail
  rw [HW.out]
  refine HO.out.mono ?_
  rintro e w1 ⟨rfl, hb1⟩
  have hB1 := hB.trans (hb1.mono hB.size)
  obtain ⟨x0, x1, x2, x3⟩ := (hx.below hb1).cells
  obtain ⟨y0, y1, y2, y3⟩ := (hy.below hb1).cells
  clear HO HW hx hy
  go_wp2_with fail
  refine (HZ.out _ hb1).mono ?_
  rintro e w2 ⟨rfl, hb2⟩
  have hB2 := hB1.trans (hb2.mono hB1.size)
  clear HZ x0 x1 x2 x3 y0 y1 y2 y3
  go_wp2_with fail
  go_ret
  exact ⟨rfl, hB2⟩
set_option maxRecDepth 100000 in
set_option maxHeartbeats 2000000 in
theorem eqJobsT (a a2 : Option Addr) (len cap cap2 : Nat) (l : List Jb) (w : World) (h : SlG jobR w a len l) (h2 : SlG jobR w a2 len l) :
    Calls Try.prog 52 #[.slice a len cap, .slice a2 len cap2] w fun e w' => e = .returned (.bool true) ∧ Below w.heap.size w w' := by
  have hl := h.1
  have hm := h.2.1
  unfold maxLen at hm
  have hb : ((len : Int) == (len : Int)) = true := by simp
  go_enter Try.func52, Try.ntmps52
  go_wp2_with fail
  go_loopw [5] (fun i wr => ∃ k : Nat, k ≤ len ∧ i = .int .i64 k ∧ Below w.heap.size w wr) (fun i _ => len - (intOf i).toNat)
  case atStart => exact ⟨0, Nat.zero_le _, rfl, Below.refl _ _⟩
  case round =>
    obtain ⟨k, hk, rfl, hB⟩ := hrel
    by_cases hlt : k < len
    · have hltl : k < l.length := by omega
      obtain ⟨b, off, e⟩ := slg_some h (by omega)
      obtain ⟨b2, off2, e2⟩ := slg_some h2 (by omega)
      subst e e2
      have hki : (k : Int) < (len : Int) := by omega
      obtain ⟨c0, c2, ⟨oa, ol, oc, c1, hO1, _⟩, ya, yl, yc, c3, hY1, _⟩ := job_at (h.below hB) k hltl
      obtain ⟨d0, d2, ⟨ob, bl, bc, d1, hO2, _⟩, yb, zl, zc, d3, hY2, _⟩ := job_at (h2.below hB) k hltl
      have o0 := last.On.cell (B := wr.heap.size) c0 (World.block_lt_of_cell? _ _ c0)
      have o1 := last.On.cell (B := wr.heap.size) c1 (World.block_lt_of_cell? _ _ c1)
      have o2 := last.On.cell (B := wr.heap.size) c2 (World.block_lt_of_cell? _ _ c2)
      have o3 := last.On.cell (B := wr.heap.size) c3 (World.block_lt_of_cell? _ _ c3)
      have p0 := last.On.cell (B := wr.heap.size) d0 (World.block_lt_of_cell? _ _ d0)
      have p1 := last.On.cell (B := wr.heap.size) d1 (World.block_lt_of_cell? _ _ d1)
      have p2 := last.On.cell (B := wr.heap.size) d2 (World.block_lt_of_cell? _ _ d2)
      have p3 := last.On.cell (B := wr.heap.size) d3 (World.block_lt_of_cell? _ _ d3)
      have hinh := last.On.inh wr.heap.size wr
      have hcall : ∀ x : last.On wr.heap.size wr, Calls Try.prog 81 #[.agg #[.int .i64 l[k].1, .slice oa ol oc, .int .i64 l[k].2.2.1, .slice ya yl yc], .agg #[.int .i64 l[k].1, .slice ob bl bc, .int .i64 l[k].2.2.1, .slice yb zl zc]] x.w fun e w' => e = .returned (.bool true) ∧ ∃ y : last.On wr.heap.size wr, w' = y.w := fun x => last.Calls.on x (Nat.le_refl _) (eqJobT _ _ oa ob ol oc bl bc ya yb yl yc zl zc l[k].2.1 l[k].2.2.2 x.w (hO1.below x.2) (hO2.below x.2) (hY1.below x.2) (hY2.below x.2))
      clear h h2 hO1 hO2 hY1 hY2
      generalize l[k] = p at *
      go_wp2_with fail
      refine last.wp_region_on wr.heap.size (by kernel_rfl) (by kernel_rfl) ?_
      repeat (go_big_quiet_step ((go_at_call 81; exact hcall _)))
      refine wpQuiet_nil ?_
      intro w5 hw5
      obtain ⟨x5, hw5⟩ := hw5
      subst hw5
      have hB5 : Below w.heap.size w x5.w := hB.trans (x5.2.mono hB.size)
      go_wp2_with fail
      go_roundw
      case rel => exact ⟨k + 1, by omega, by go_num, hB5⟩
      case measure => simp [intOf]; omega
    · have hnk : ¬ (k : Int) < (len : Int) := by omega
      go_wp2_with fail
      go_ret
      exact ⟨rfl, hB⟩
set_option maxRecDepth 100000 in
set_option maxHeartbeats 2000000 in
theorem eqCoordT (ja jb : Option Addr) (jn jc jm jd : Nat) (la lb : Option Addr) (ln lc lm ld : Nat) (c : Co) (w : World) (h1 : SeeCo w ja jn jc la ln lc c) (h2 : SeeCo w jb jm jd lb lm ld c) :
    Calls Try.prog 23 #[coV c.1 c.2.1 c.2.2.1 c.2.2.2.2.2 ja jn jc la ln lc, coV c.1 c.2.1 c.2.2.1 c.2.2.2.2.2 jb jm jd lb lm ld] w fun e w' => e = .returned (.bool true) ∧ Below w.heap.size w w' := by
  have e1 : jm = jn := h2.jobs.1.symm.trans h1.jobs.1
  have e2 : lm = ln := h2.log.1.symm.trans h1.log.1
  subst e1 e2
  obtain ⟨W, hW⟩ : ∃ W, (w.alloc (coO c.1 c.2.1 c.2.2.1 c.2.2.2.2.2 ja jm jc la lm lc)).alloc (coO c.1 c.2.1 c.2.2.1 c.2.2.2.2.2 jb jm jd lb lm ld) = W := ⟨_, rfl⟩
  have hB : Below w.heap.size w W := by rw [← hW]; exact below_two _ _ _
  have hx : BoxC w.heap.size c.1 c.2.1 c.2.2.1 c.2.2.2.2.2 ja jm jc la lm lc W := by rw [← hW]; exact BoxC.below (boxC_new w _ _ _ _ _ _ _ _ _ _) (below_new _ _)
  have hy : BoxC (w.heap.size + 1) c.1 c.2.1 c.2.2.1 c.2.2.2.2.2 jb jm jd lb lm ld W := by
    rw [← hW]
    have := boxC_new (w.alloc (coO c.1 c.2.1 c.2.2.1 c.2.2.2.2.2 ja jm jc la lm lc)) c.1 c.2.1 c.2.2.1 c.2.2.2.2.2 jb jm jd lb lm ld
    have e : (w.alloc (coO c.1 c.2.1 c.2.2.1 c.2.2.2.2.2 ja jm jc la lm lc)).heap.size = w.heap.size + 1 := by simp
    rw [e] at this; exact this
  have HJ := Hid.mk' (eqJobsT ja jb jm jc jd c.2.2.2.1 W (h1.jobs.below hB) (h2.jobs.below hB))
  have HL := Hid.mk' (fun wx (hx : Below W.heap.size W wx) => eqChoicesT la lb lm lc ld c.2.2.2.2.1 wx ((h1.log.below hB).below hx) ((h2.log.below hB).below hx))
  have HW := Hid.mk' hW
  clear hW h1 h2
  generalize c.1 = n at *
  generalize c.2.1 = life at *
  generalize c.2.2.1 = next at *
  generalize c.2.2.2.2.2 = sure at *
  have n1 : (n == n) = true := by simp
  have n2 : (life == life) = true := by simp
  have n3 : (next == next) = true := by simp
  have n4 : (sure == sure) = true := by simp
  go_enter Try.func23, Try.ntmps23
  go_wp2_with fail
  rw [HW.out]
  refine HJ.out.mono ?_
  rintro e w1 ⟨rfl, hb1⟩
  have hB1 := hB.trans (hb1.mono hB.size)
  obtain ⟨x0, x1, x2, x3, x4, x5⟩ := (hx.below hb1).cells
  obtain ⟨y0, y1, y2, y3, y4, y5⟩ := (hy.below hb1).cells
  clear HJ HW
  go_wp2_with fail
  refine (HL.out _ hb1).mono ?_
  rintro e w2 ⟨rfl, hb2⟩
  have hb3 := hb1.trans (hb2.mono hb1.size)
  have hB2 := hB1.trans (hb2.mono hB1.size)
  clear HL x0 x1 x2 x3 x4 x5 y0 y1 y2 y3 y4 y5
  obtain ⟨x0, x1, x2, x3, x4, x5⟩ := (hx.below hb3).cells
  obtain ⟨y0, y1, y2, y3, y4, y5⟩ := (hy.below hb3).cells
  go_wp2_with fail
  go_ret
  exact ⟨rfl, hB2⟩
end Go.Proofs.Ytijplooogplccaa.cos

namespace Go.Proofs.Ytijplooogplccaa.cos
open Go Go.RowKit Go.Proofs.Ytijplooogplccaa.base Go.Proofs.Ytijplooogplccaa.pairs Go.Proofs.Ytijplooogplccaa.ords Go.Proofs.Ytijplooogplccaa.lay Go.Proofs.Ytijplooogplccaa.wds
set_option linter.unusedVariables false
set_option linter.unusedSimpArgs false

end Go.Proofs.Ytijplooogplccaa.cos

namespace Go.Proofs.Ytijplooogplccaa.lay
open Go Go.RowKit Go.Proofs.Ytijplooogplccaa.base
set_option linter.unusedVariables false

def BoxIn (X : Nat) (T : TypeId) (pre vs post : List Value) (w : World) : Prop := w.heap[X]? = some (.cells (pre ++ vs ++ post).toArray T (0, 0))
section
variable {X : Nat} {T : TypeId} {pre vs post : List Value} {w w' : World} {G F : List Nat}
theorem BoxIn.lt (h : BoxIn X T pre vs post w) : X < w.heap.size := (Array.getElem?_eq_some_iff.1 h).1
theorem BoxIn.keep (h : BoxIn X T pre vs post w) (hk : w'.heap[X]? = w.heap[X]?) : BoxIn X T pre vs post w' := hk.trans h
theorem BoxIn.below (h : BoxIn X T pre vs post w) (hb : Below w.heap.size w w') : BoxIn X T pre vs post w' := h.keep (hb.block X h.lt)
theorem BoxIn.frame (h : BoxIn X T pre vs post w) (hf : Frame G w w') (hn : X ∉ G) : BoxIn X T pre vs post w' := h.keep (hf.block X h.lt hn)
theorem BoxIn.grown {row : Option Nat} (h : BoxIn X T pre vs post w) (hg : w.grownBy w' row) (hn : some X ≠ row) : BoxIn X T pre vs post w' := h.keep (hg.block X h.lt hn)
theorem BoxIn.cell (h : BoxIn X T pre vs post w) (j : Nat) (u : Value) (hj : vs[j]? = some u) : w.cell? ⟨X, pre.length + j, none⟩ = some u := by
  unfold BoxIn at h
  have hl := (List.getElem?_eq_some_iff.1 hj).1
  simp only [World.cell?, h]
  have hu := (List.getElem?_eq_some_iff.1 hj).2
  simp [List.getElem?_append, hl, hu]
theorem BoxIn.fz (h : BoxIn X T pre vs post w) (j : Nat) : w.frozen? ⟨X, j, none⟩ = false := by unfold BoxIn at h; simp [World.frozen?, h]
theorem BoxIn.set (h : BoxIn X T pre vs post w) (j : Nat) (hj : j < vs.length) (u : Value) : BoxIn X T pre (vs.set j u) post (w.setCell ⟨X, pre.length + j, none⟩ u) ∧ w.grownBy (w.setCell ⟨X, pre.length + j, none⟩ u) (some X) := by
  have h1 := set_cur h (pre.length + j) u
  refine ⟨?_, h1.2⟩
  unfold BoxIn
  rw [h1.1]
  congr 2
  rw [List.setIfInBounds_toArray]
  congr 1
  rw [List.append_assoc, List.set_append_right _ _ (by omega), Nat.add_sub_cancel_left, List.set_append_left _ _ hj, List.append_assoc]
theorem boxIn_new (w : World) (vs : List Value) (T : TypeId) : BoxIn w.heap.size T [] vs [] (w.alloc (.cells vs.toArray T)) := by
  unfold BoxIn
  rw [List.nil_append, List.append_nil]
  exact heap_alloc_new w _
end
end Go.Proofs.Ytijplooogplccaa.lay

namespace Go.Proofs.Ytijplooogplccaa.lay
open Go Go.RowKit Go.Proofs.Ytijplooogplccaa.base
set_option linter.unusedVariables false

theorem below_make {w : World} {o : Obj} : Below w.heap.size w (w.alloc o) := (Below.refl _ _).alloc (Nat.le_refl _) _
section
variable {α : Type} {R : Rd α} {T : TypeId} {w w' : World} {X : Nat} {vs : List Value} {x : α} {F G : List Nat}
end
theorem cells10 {X : Nat} {T : TypeId} {w : World} {v0 v1 v2 v3 v4 v5 v6 v7 v8 v9 : Value} (h : BoxIn X T [] [v0, v1, v2, v3, v4, v5, v6, v7, v8, v9] [] w) : w.cell? ⟨X, 0, none⟩ = some v0 ∧ w.cell? ⟨X, 1, none⟩ = some v1 ∧ w.cell? ⟨X, 2, none⟩ = some v2 ∧ w.cell? ⟨X, 3, none⟩ = some v3 ∧ w.cell? ⟨X, 4, none⟩ = some v4 ∧ w.cell? ⟨X, 5, none⟩ = some v5 ∧ w.cell? ⟨X, 6, none⟩ = some v6 ∧ w.cell? ⟨X, 7, none⟩ = some v7 ∧ w.cell? ⟨X, 8, none⟩ = some v8 ∧ w.cell? ⟨X, 9, none⟩ = some v9 := by
  have a0 := h.cell 0 _ rfl
  have a1 := h.cell 1 _ rfl
  have a2 := h.cell 2 _ rfl
  have a3 := h.cell 3 _ rfl
  have a4 := h.cell 4 _ rfl
  have a5 := h.cell 5 _ rfl
  have a6 := h.cell 6 _ rfl
  have a7 := h.cell 7 _ rfl
  have a8 := h.cell 8 _ rfl
  have a9 := h.cell 9 _ rfl
  simp only [List.length_nil, Nat.zero_add] at a0 a1 a2 a3 a4 a5 a6 a7 a8 a9
  exact ⟨a0, a1, a2, a3, a4, a5, a6, a7, a8, a9⟩
end Go.Proofs.Ytijplooogplccaa.lay

namespace Go.Proofs.Ytijplooogplccaa.lay
open Go Go.RowKit Go.Proofs.Ytijplooogplccaa.base
set_option linter.unusedVariables false
set_option linter.unusedSimpArgs false

def putAll (w : World) (g : Nat) : Nat → List Value → World
  | _, [] => w
  | o, u :: us => putAll (w.setCell ⟨g, o, none⟩ u) g (o + 1) us
def setAll (xs : List Value) : Nat → List Value → List Value
  | _, [] => xs
  | o, u :: us => setAll (xs.set o u) (o + 1) us
theorem setAll_length (us : List Value) : ∀ (xs : List Value) (o : Nat), (setAll xs o us).length = xs.length := by
  induction us with
  | nil => intro xs o; rfl
  | cons u us ih => intro xs o; rw [setAll, ih, List.length_set]
theorem setAll_get (us : List Value) : ∀ (xs : List Value) (o j : Nat) (h : o + us.length ≤ xs.length), (setAll xs o us)[j]? = if o ≤ j ∧ j < o + us.length then us[j - o]? else xs[j]? := by
  induction us with
  | nil => intro xs o j h; rw [setAll, if_neg (by simp)]
  | cons u us ih =>
    intro xs o j h
    simp only [List.length_cons] at h ⊢
    rw [setAll, ih _ _ _ (by rw [List.length_set]; omega)]
    by_cases e : j = o
    · subst e
      rw [if_neg (by omega), if_pos (by omega), List.getElem?_set_self (by omega), Nat.sub_self]; rfl
    · rw [List.getElem?_set_ne (by omega)]
      by_cases h1 : o + 1 ≤ j ∧ j < o + 1 + us.length
      · rw [if_pos h1, if_pos (by omega), show j - o = (j - (o + 1)) + 1 by omega, List.getElem?_cons_succ]
      · rw [if_neg h1, if_neg (by omega)]
theorem cellsOf_set {q : Parts} {n : Nat} (h : ∀ p ∈ q, p.1.length = n) (i : Nat) (hi : i < q.length) (us : List Value) (hu : us.length = n) (F : List Nat) : setAll (cellsOf q) (i * n) us = cellsOf (q.set i (us, F)) := by
  have hq : ∀ p ∈ q.set i (us, F), p.1.length = n := fun p hp => by
    rcases List.mem_or_eq_of_mem_set hp with h1 | h1
    · exact h p h1
    · subst h1; exact hu
  have hl1 := cellsOf_length h
  have hl2 := cellsOf_length hq
  rw [List.length_set] at hl2
  have hin : i * n + n ≤ q.length * n := by
    have := Nat.mul_le_mul_right n (show i + 1 ≤ q.length from hi)
    rw [Nat.add_mul] at this; omega
  refine List.ext_getElem? fun j => ?_
  by_cases hj : j < q.length * n
  · have hn0 : 0 < n := by
      rcases Nat.eq_zero_or_pos n with e | e
      · subst e; omega
      · exact e
    have hd := Nat.div_add_mod j n
    have hm := Nat.mod_lt j hn0
    have hjd : j / n < q.length := by
      rcases Nat.lt_or_ge (j / n) q.length with h1 | h1
      · exact h1
      · have := Nat.mul_le_mul_left n h1
        rw [Nat.mul_comm n q.length] at this; omega
    have e : j = j / n * n + j % n := by rw [Nat.mul_comm]; omega
    rw [setAll_get us _ _ _ (by omega)]
    conv => rhs; rw [e, cellsOf_get hq (j / n) (by simpa using hjd) (j % n) hm]
    by_cases hi2 : j / n = i
    · have e3 : j = i * n + j % n := by rw [← hi2]; exact e
      rw [if_pos (by omega), show j - i * n = j % n by omega]
      subst hi2
      rw [List.getElem_set_self]
    · have hne : ¬ (i * n ≤ j ∧ j < i * n + us.length) := by
        rintro ⟨h1, h2⟩
        rw [hu] at h2
        apply hi2
        rcases Nat.lt_trichotomy (j / n) i with h3 | h3 | h3
        · have := Nat.mul_le_mul_right n (show j / n + 1 ≤ i from h3)
          rw [Nat.add_mul] at this; omega
        · exact h3
        · have := Nat.mul_le_mul_right n (show i + 1 ≤ j / n from h3)
          rw [Nat.add_mul] at this; omega
      rw [if_neg hne, List.getElem_set_ne (fun e => hi2 e.symm)]
      conv => lhs; rw [e, cellsOf_get h (j / n) hjd (j % n) hm]
  · rw [List.getElem?_eq_none (by rw [setAll_length]; omega), List.getElem?_eq_none (by omega)]
section
variable {α : Type} {ty : TypeId} {R : Rd α} {w w' : World} {l : List α} {q : Parts} {g n cap : Nat}
theorem row_putAll {base size : Nat} (us : List Value) : ∀ {w : World} {xs : List Value} (o : Nat), w.ownsRow base ty size (.slice (some ⟨g, 0, none⟩) n cap) n xs → (putAll w g o us).ownsRow base ty size (.slice (some ⟨g, 0, none⟩) n cap) n (setAll xs o us) ∧ w.grownBy (putAll w g o us) (some g) := by
  induction us with
  | nil => intro w xs o h; exact ⟨h, World.grownBy.refl _ _⟩
  | cons u us ih =>
    intro w xs o h
    have s := h.stored o u
    have t := ih (o + 1) s.1
    exact ⟨t.1, grownBy_trans s.2 t.2⟩
theorem OwnG.turn {v : Value} (h : OwnG ty R w v l q) (i : Nat) (hi : i < l.length) (us : List Value) (x : α) (F : List Nat) (hr : w'.ownsRow 0 ty R.size v l.length (cellsOf (q.set i (us, F)))) (hx : R.own w' us x F)
    (hk : ∀ j (hj : j < l.length), j ≠ i → ∀ b ∈ (q[j]'(by have := h.len; omega)).2, w'.heap[b]? = w.heap[b]?) (hF : ∀ b ∈ F, b ∈ (q[i]'(by have := h.len; omega)).2 ∨ b ∉ v.ownBlock.toList ++ blocksOf q) : OwnG ty R w' v (l.set i x) (q.set i (us, F)) := by
  have hl := h.len
  have hnd := h.nodup
  refine ⟨by simp [hl], by simpa using hr, fun j hj => ?_, ?_⟩
  · have hjl : j < l.length := by simpa using hj
    by_cases e : i = j
    · subst e
      simp only [List.getElem_set_self]
      exact hx
    · simp only [List.getElem_set_ne e]
      exact R.ownAt (h.each j hjl) (hk j hjl fun e2 => e e2.symm)
  · have hxn := R.ownNodup hx
    have hqi : i < q.length := by omega
    have e1 : blocksOf q = blocksOf (q.take i) ++ (q[i].2 ++ blocksOf (q.drop (i + 1))) := by
      conv => lhs; rw [← List.take_append_drop i q, List.drop_eq_getElem_cons hqi]
      rw [blocksOf_append]; rfl
    have e2 : blocksOf (q.set i (us, F)) = blocksOf (q.take i) ++ (F ++ blocksOf (q.drop (i + 1))) := by
      rw [List.set_eq_take_append_cons_drop, if_pos hqi, blocksOf_append]; rfl
    have hF2 : ∀ b ∈ F, b ∉ v.ownBlock.toList ∧ b ∉ blocksOf (q.take i) ∧ b ∉ blocksOf (q.drop (i + 1)) := fun b hb => by
      rw [e1] at hnd
      rcases hF b hb with h1 | h1
      · obtain ⟨n1, n2, n3⟩ := nodup_parts hnd
        obtain ⟨m1, m2, m3⟩ := nodup_parts n2
        obtain ⟨k1, k2, k3⟩ := nodup_parts m2
        exact ⟨fun e => n3 b e (List.mem_append.2 (.inr (List.mem_append.2 (.inl h1)))), fun e => m3 b e (List.mem_append.2 (.inl h1)), k3 b h1⟩
      · rw [e1] at h1
        simp only [List.mem_append, not_or] at h1
        exact ⟨h1.1, h1.2.1, h1.2.2.2⟩
    rw [e1] at hnd
    obtain ⟨n1, n2, n3⟩ := nodup_parts hnd
    obtain ⟨m1, m2, m3⟩ := nodup_parts n2
    obtain ⟨k1, k2, k3⟩ := nodup_parts m2
    rw [e2]
    refine nodup_mk n1 (nodup_mk m1 (nodup_mk hxn k2 fun b hb => (hF2 b hb).2.2) fun b hb hb2 => ?_) fun b hb hb2 => ?_
    · rcases List.mem_append.1 hb2 with h1 | h1
      · exact (hF2 b h1).2.1 hb
      · exact m3 b hb (List.mem_append.2 (.inr h1))
    · rcases List.mem_append.1 hb2 with h1 | h1
      · exact n3 b hb (List.mem_append.2 (.inl h1))
      · rcases List.mem_append.1 h1 with h1 | h1
        · exact (hF2 b h1).1 hb
        · exact n3 b hb (List.mem_append.2 (.inr (List.mem_append.2 (.inr h1))))
theorem OwnG.put (h : OwnG ty R w (.slice (some ⟨g, 0, none⟩) n cap) l q) (i : Nat) (hi : i < l.length) (us : List Value) (x : α) (F : List Nat) (hx : R.own w us x F) (hF : ∀ b ∈ F, b ∉ g :: blocksOf q) :
    OwnG ty R (putAll w g (i * R.size) us) (.slice (some ⟨g, 0, none⟩) n cap) (l.set i x) (q.set i (us, F)) ∧ w.grownBy (putAll w g (i * R.size) us) (some g) := by
  have hn : n = l.length := by
    rcases h.shape with ⟨e, _⟩ | ⟨g', c', e, _⟩
    · cases e
    · cases e; rfl
  subst hn
  have hl := h.len
  have hr := row_putAll us (i * R.size) h.row
  rw [cellsOf_set h.parts i (by omega) us (R.ownLen hx) F] at hr
  have hgn : ∀ b ∈ blocksOf q, b ≠ g := fun b hb e => by
    have := (nodup_parts h.nodup).2.2 g (by simp [Value.ownBlock])
    exact this (e ▸ hb)
  refine ⟨h.turn i hi us x F hr.1 (R.ownAt hx fun k hk => hr.2.block k (R.ownLt hx k hk) fun e => hF k hk (by simp [Option.some.inj e])) (fun j hj hne b hb => ?_) (fun b hb => .inr (by simpa [Value.ownBlock] using hF b hb)), hr.2⟩
  have hbq : b ∈ blocksOf q := List.mem_flatMap.2 ⟨_, List.getElem_mem _, hb⟩
  exact hr.2.block b (R.ownLt (h.each j hj) b hb) fun e => hgn b hbq (Option.some.inj e)
end
section
variable {α : Type} {z : α} {l : List α}
end
end Go.Proofs.Ytijplooogplccaa.lay
