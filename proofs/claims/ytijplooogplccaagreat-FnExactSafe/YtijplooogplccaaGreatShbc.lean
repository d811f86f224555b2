/- ImA WoWh WoOk -/
import Derived.Test.YtijplooogplccaaGreatShbb
import Derived.Test.YtijplooogplccaaGreatShan
import Derived.Test.YtijplooogplccaaGreatShba
import Derived.Test.YtijplooogplccaaGreatShae
import Derived.Test.YtijplooogplccaaGreatShau
import Derived.Deep.RegionHeld3
import Derived.Test.YtijplooogplccaaGreatShao
import Derived.Test.YtijplooogplccaaGreatShai
import Derived.Test.YtijplooogplccaaGreatShab
set_option linter.unusedVariables false
set_option linter.unusedSimpArgs false
namespace Go.Proofs.YtijplooogplccaaGreat
namespace recs
open Go Go.RowKit base pairs ords helps help lay
set_option maxRecDepth 100000 in
set_option maxHeartbeats 1000000 in
theorem eq_pairs (a a2 : Option Addr) (len cap len2 cap2 : Nat) (l l2 : List Pr) (w : World) (h : SlP w a len l) (h2 : SlP w a2 len2 l2) :
 Calls Tryz.prog 96 #[.slice a len cap, .slice a2 len2 cap2] w fun e w' => e = .returned (.bool (decide (l = l2))) ∧ ∃ n, w' = w.drewN n := by
 obtain ⟨hl, hm, _, hc⟩ := h
 obtain ⟨hl2, hm2, _, hc2⟩ := h2
 subst hl hl2
 unfold maxLen at hm hm2
 by_cases hne : l.length = l2.length
 · have hb : ((l.length : Int) == (l2.length : Int)) = true := by simp; omega
   go_enter Tryz.func96, Tryz.ntmps96
   go_wp2_with fail
   go_loopw [13] (fun i wr => ∃ k : Nat, k ≤ l.length ∧ i = .int .i64 k ∧ l.take k = l2.take k ∧ ∃ n, wr = w.drewN n) (fun i _ => l.length - (intOf i).toNat)
   case atStart => exact ⟨0, Nat.zero_le _, rfl, rfl, 0, rfl⟩
   case round =>
    obtain ⟨k, hk, rfl, htk, n, rfl⟩ := hrel
    by_cases hlt : k < l.length
    · obtain ⟨b, off, ha, hcl⟩ := hc (by omega)
      obtain ⟨b2, off2, ha2, hcl2⟩ := hc2 (by omega)
      subst ha ha2
      have hlt2 : k < l2.length := by omega
      have hi1 : (k : Int) < (l.length : Int) := by omega
      have hi2 : (k : Int) < (l2.length : Int) := by omega
      obtain ⟨c1, c2⟩ := hcl k hlt
      obtain ⟨c3, c4⟩ := hcl2 k hlt2
      by_cases e : l[k] = l2[k]
      · have HE := Hid.mk' (take_eqP htk hlt hlt2 e)
        rw [← e] at c3 c4
        clear hcl hcl2 hc hc2 htk hne e
        generalize l[k] = p at *
        go_wp2_with fail
        go_quiet (fail)
        go_wp2_with fail
        go_roundw
        case rel => exact ⟨k + 1, by omega, by go_num, HE.out, _, rfl⟩
        case measure => simp [intOf]; omega
      · have HE : Hid (¬ l = l2) := by
         show ¬ _
         rintro rfl; exact e rfl
        generalize l[k] = p at *
        generalize l2[k] = q at *
        clear hcl hcl2 hc hc2 htk hne
        by_cases e1 : p.1 = q.1
        · have hq := str_ne (fun e2 : p.2 = q.2 => e (Prod.ext e1 e2))
          rw [← e1] at c3
          generalize p.1 = p1 at *
          generalize p.2 = p2 at *
          generalize q.2 = q2 at *
          clear e e1
          go_wp2_with fail
          go_quiet (fail)
          go_wp2_with fail
          go_ret
          exact ⟨ret_bool (by symm; rw [decide_eq_false_iff_not]; exact HE.out), _, World.drewN_drewN _ _ _⟩
        · have hq := str_ne e1
          generalize p.1 = p1 at *
          generalize p.2 = p2 at *
          generalize q.1 = q1 at *
          generalize q.2 = q2 at *
          clear e e1
          go_wp2_with fail
          go_quiet (fail)
          go_wp2_with fail
          go_ret
          exact ⟨ret_bool (by symm; rw [decide_eq_false_iff_not]; exact HE.out), _, World.drewN_drewN _ _ _⟩
    · have e : k = l.length := by omega
      have hfin : l = l2 := by
       subst e
       rw [List.take_of_length_le (Nat.le_refl _), List.take_of_length_le (by omega)] at htk
       exact htk
      have HF := Hid.mk' hfin
      clear hfin htk
      go_wp2_with fail
      go_ret
      exact ⟨ret_bool (by symm; rw [decide_eq_true_iff]; exact HF.out), _, rfl⟩
 · have hb : ((l.length : Int) == (l2.length : Int)) = false := by simp; omega
   go_enter Tryz.func96, Tryz.ntmps96
   go_wp2
   go_ret
   exact ⟨ret_bool (by symm; rw [decide_eq_false_iff_not]; intro h; exact hne (by rw [h])), 0, rfl⟩
set_option maxRecDepth 100000 in
set_option maxHeartbeats 1000000 in
theorem eq_ops (a a2 : Option Addr) (len cap len2 cap2 : Nat) (l l2 : List Od) (w : World) (h : SlO w a len l) (h2 : SlO w a2 len2 l2) :
 Calls Tryz.prog 64 #[.slice a len cap, .slice a2 len2 cap2] w fun e w' => e = .returned (.bool (decide (l = l2))) ∧ ∃ n, w' = w.drewN n := by
 obtain ⟨hl, hm, _, hc⟩ := h
 obtain ⟨hl2, hm2, _, hc2⟩ := h2
 subst hl hl2
 unfold maxLen at hm hm2
 by_cases hne : l.length = l2.length
 · have hb : ((l.length : Int) == (l2.length : Int)) = true := by simp; omega
   go_enter Tryz.func64, Tryz.ntmps64
   go_wp2_with fail
   go_loopw [13] (fun i wr => ∃ k : Nat, k ≤ l.length ∧ i = .int .i64 k ∧ l.take k = l2.take k ∧ ∃ n, wr = w.drewN n) (fun i _ => l.length - (intOf i).toNat)
   case atStart => exact ⟨0, Nat.zero_le _, rfl, rfl, 0, rfl⟩
   case round =>
    obtain ⟨k, hk, rfl, htk, n, rfl⟩ := hrel
    by_cases hlt : k < l.length
    · obtain ⟨b, off, ha, hcl⟩ := hc (by omega)
      obtain ⟨b2, off2, ha2, hcl2⟩ := hc2 (by omega)
      subst ha ha2
      have hlt2 : k < l2.length := by omega
      have hi1 : (k : Int) < (l.length : Int) := by omega
      have hi2 : (k : Int) < (l2.length : Int) := by omega
      obtain ⟨c0, c1, c2⟩ := hcl k hlt
      obtain ⟨d0, d1, d2⟩ := hcl2 k hlt2
      by_cases e : l[k] = l2[k]
      · have HE := Hid.mk' (take_eqO htk hlt hlt2 e)
        rw [← e] at d0 d1 d2
        clear hcl hcl2 hc hc2 htk hne e
        generalize l[k] = p at *
        go_wp2_with fail
        go_quiet (fail)
        go_wp2_with fail
        go_roundw
        case rel => exact ⟨k + 1, by omega, by go_num, HE.out, _, rfl⟩
        case measure => simp [intOf]; omega
      · have HE : Hid (¬ l = l2) := by
         show ¬ _
         rintro rfl; exact e rfl
        generalize l[k] = p at *
        generalize l2[k] = q at *
        clear hcl hcl2 hc hc2 htk hne
        obtain ⟨p0, p1, p2⟩ := p
        obtain ⟨q0, q1, q2⟩ := q
        simp only [] at c0 c1 c2 d0 d1 d2
        by_cases e0 : p0 = q0
        · subst e0
          have h0 : (p0 == p0) = true := beq_self_eq_true _
          by_cases e1 : p1 = q1
          · subst e1
            have hq := str_ne (fun e2 : p2 = q2 => e (by rw [e2]))
            clear e
            go_wp2_with fail
            go_quiet (fail)
            go_wp2_with fail
            go_ret
            exact ⟨ret_bool (by symm; rw [decide_eq_false_iff_not]; exact HE.out), _, World.drewN_drewN _ _ _⟩
          · have hq := str_ne e1
            clear e e1
            go_wp2_with fail
            go_quiet (fail)
            go_wp2_with fail
            go_ret
            exact ⟨ret_bool (by symm; rw [decide_eq_false_iff_not]; exact HE.out), _, World.drewN_drewN _ _ _⟩
        · have h0 : (p0 == q0) = false := beq_eq_false_iff_ne.2 e0
          clear e e0
          go_wp2_with fail
          go_quiet (fail)
          go_wp2_with fail
          go_ret
          exact ⟨ret_bool (by symm; rw [decide_eq_false_iff_not]; exact HE.out), _, World.drewN_drewN _ _ _⟩
    · have e : k = l.length := by omega
      have hfin : l = l2 := by
       subst e
       rw [List.take_of_length_le (Nat.le_refl _), List.take_of_length_le (by omega)] at htk
       exact htk
      have HF := Hid.mk' hfin
      clear hfin htk
      go_wp2_with fail
      go_ret
      exact ⟨ret_bool (by symm; rw [decide_eq_true_iff]; exact HF.out), _, rfl⟩
 · have hb : ((l.length : Int) == (l2.length : Int)) = false := by simp; omega
   go_enter Tryz.func64, Tryz.ntmps64
   go_wp2
   go_ret
   exact ⟨ret_bool (by symm; rw [decide_eq_false_iff_not]; intro h; exact hne (by rw [h])), 0, rfl⟩
theorem i_idOk (id : Int) (w : World) :
    Calls Tryz.prog 94 #[.int .i64 id] w fun e w' => e = .returned (.bool (decide (0 ≤ id ∧ id ≤ 7))) ∧ w = w' := by
  by_cases h1 : 0 ≤ id
  · by_cases h2 : id ≤ 7
    · go_enter Tryz.func94, Tryz.ntmps94
      go_wp2
      go_ret
      exact ⟨ret_bool (by simp [h1, h2]), rfl⟩
    · go_enter Tryz.func94, Tryz.ntmps94
      go_wp2
      go_ret
      exact ⟨ret_bool (by simp [h1, h2]), rfl⟩
  · go_enter Tryz.func94, Tryz.ntmps94
    go_wp2
    go_ret
    exact ⟨ret_bool (by have h3 : ¬ 0 ≤ id := by omega
                        simp [h3]), rfl⟩
theorem eq_opsB (a a2 : Option Addr) (len cap len2 cap2 : Nat) (l l2 : List Od) (w : World) (h : SlO w a len l) (h2 : SlO w a2 len2 l2) :
 Calls Tryz.prog 64 #[.slice a len cap, .slice a2 len2 cap2] w fun e w' => e = .returned (.bool (decide (l = l2))) ∧ Below w.heap.size w w' := by
 refine (eq_ops a a2 len cap len2 cap2 l l2 w h h2).mono ?_
 rintro e w' ⟨rfl, n, rfl⟩
 exact ⟨rfl, below_drewN (Below.refl _ _) n⟩
set_option maxRecDepth 100000 in
set_option maxHeartbeats 2000000 in
theorem i_sameRec (x y : Rc) (pa qa : Option Addr) (pl pc ql qc : Nat) (w : World) (hx : SlO w pa pl x.2.2) (hy : SlO w qa ql y.2.2) :
 Calls Tryz.prog 98 #[.agg #[.int .i64 x.1, .int .i64 x.2.1, .slice pa pl pc], .agg #[.int .i64 y.1, .int .i64 y.2.1, .slice qa ql qc]] w fun e w' => e = .returned (.bool (decide (x = y))) ∧ Below w.heap.size w w' := by
 obtain ⟨W, hW⟩ : ∃ W, (w.alloc (.cells #[.int .i64 x.1, .int .i64 x.2.1, .slice pa pl pc] 133)).alloc (.cells #[.int .i64 y.1, .int .i64 y.2.1, .slice qa ql qc] 133) = W := ⟨_, rfl⟩
 have hB : Below w.heap.size w W := by rw [← hW]; exact ((Below.refl _ _).alloc (Nat.le_refl _) _).alloc (by simp) _
 have HE := Hid.mk' (eq_opsB pa qa pl pc ql qc x.2.2 y.2.2 W (hx.below hB) (hy.below hB))
 have HW := Hid.mk' hW
 obtain ⟨x1, x2, x3⟩ := x
 obtain ⟨y1, y2, y3⟩ := y
 simp only [] at HE HW
 clear hW hx hy
 by_cases e1 : x1 = y1
 · subst e1
   have hn : (x1 == x1) = true := by simp
   by_cases e2 : x2 = y2
   · subst e2
     have hf : (x2 == x2) = true := by simp
     have HD : Hid (decide ((x1, x2, x3) = (x1, x2, y3)) = decide (x3 = y3)) := by show _ = _; simp
     go_enter Tryz.func98, Tryz.ntmps98
     go_wp2_with fail
     rw [HW.out]
     refine HE.out.mono ?_
     rintro e w1 ⟨rfl, hb1⟩
     have hB1 := hB.trans (hb1.mono hB.size)
     clear HE HW hb1
     go_wp2_with fail
     go_ret
     rw [HD.out]
     exact ⟨rfl, hB1⟩
   · have hf : (x2 == y2) = false := beq_eq_false_iff_ne.2 e2
     have HD : Hid (decide ((x1, x2, x3) = (x1, y2, y3)) = false) := by show _ = _; simp [e2]
     clear e2
     go_enter Tryz.func98, Tryz.ntmps98
     go_wp2_with fail
     go_ret
     rw [HD.out, HW.out]
     exact ⟨rfl, hB⟩
 · have hn : (x1 == y1) = false := beq_eq_false_iff_ne.2 e1
   have HD : Hid (decide ((x1, x2, x3) = (y1, y2, y3)) = false) := by show _ = _; simp [e1]
   clear e1
   go_enter Tryz.func98, Tryz.ntmps98
   go_wp2_with fail
   go_ret
   rw [HD.out, HW.out]
   exact ⟨rfl, hB⟩
set_option maxRecDepth 100000 in
set_option maxHeartbeats 2000000 in
theorem eq_recs (a a2 : Option Addr) (len cap len2 cap2 : Nat) (l l2 : List Rc) (w : World) (h : SlR w a len l) (h2 : SlR w a2 len2 l2) :
 Calls Tryz.prog 97 #[.slice a len cap, .slice a2 len2 cap2, .func (.func 98) #[] #[]] w fun e w' => e = .returned (.bool (decide (l = l2))) ∧ Below w.heap.size w w' := by
 obtain ⟨hl, hm, hsm, hc⟩ := id h
 obtain ⟨hl2, hm2, hsm2, hc2⟩ := id h2
 subst hl hl2
 unfold maxLen at hm hm2
 by_cases hne : l.length = l2.length
 · have hb : ((l.length : Int) == (l2.length : Int)) = true := by simp; omega
   go_enter Tryz.func97, Tryz.ntmps97
   go_wp2_with fail
   go_loopw [17] (fun i wr => ∃ k : Nat, k ≤ l.length ∧ i = .int .i64 k ∧ l.take k = l2.take k ∧ Below w.heap.size w wr) (fun i _ => l.length - (intOf i).toNat)
   case atStart => exact ⟨0, Nat.zero_le _, rfl, rfl, Below.refl _ _⟩
   case round =>
    obtain ⟨k, hk, rfl, htk, hB⟩ := hrel
    by_cases hlt : k < l.length
    · obtain ⟨b, off, ha, hcl⟩ := hc (by omega)
      obtain ⟨b2, off2, ha2, hcl2⟩ := hc2 (by omega)
      subst ha ha2
      have hlt2 : k < l2.length := by omega
      have hki : (k : Int) < (l.length : Int) := by omega
      have hki2 : (k : Int) < (l2.length : Int) := by omega
      have i1 := h.at k hlt
      have i2 := h2.at k hlt2
      obtain ⟨c1, c2, pa, pl, pc, c3, hS1, _⟩ := i1.below hB
      obtain ⟨c4, c5, qa, ql, qc, c6, hS2, _⟩ := i2.below hB
      have hg1 := World.block_lt_of_cell? _ _ c1
      have hg2 := World.block_lt_of_cell? _ _ c4
      obtain ⟨W1, hW1⟩ : ∃ W1, (wr.alloc (.cells #[.int .i64 l[k].1, .int .i64 l[k].2.1, .slice pa pl pc] 133)) = W1 := ⟨_, rfl⟩
      have hb1 : Below wr.heap.size wr W1 := by rw [← hW1]; exact (Below.refl _ _).alloc (Nat.le_refl _) _
      obtain ⟨W2, hW2⟩ : ∃ W2, (W1.alloc (.cells #[.int .i64 l2[k].1, .int .i64 l2[k].2.1, .slice qa ql qc] 133)) = W2 := ⟨_, rfl⟩
      have hb2 : Below W1.heap.size W1 W2 := by rw [← hW2]; exact (Below.refl _ _).alloc (Nat.le_refl _) _
      have hB2 := (hB.trans (hb1.mono hB.size)).trans (hb2.mono (Nat.le_trans hB.size hb1.size))
      have HSA := Hid.mk' (i_sameRec l[k] l2[k] pa qa pl pc ql qc W2 ((hS1.below hb1).below hb2) ((hS2.below hb1).below hb2))
      have HE1 : Hid (l[k] = l2[k] → l.take (k + 1) = l2.take (k + 1)) := fun e => take_eqR htk hlt hlt2 e
      have HE2 : Hid (¬ l[k] = l2[k] → ¬ l = l2) := fun e e2 => e (by subst e2; rfl)
      have HW : Hid ((wr.alloc (.cells #[.int .i64 l[k].1, .int .i64 l[k].2.1, .slice pa pl pc] 133)).alloc (.cells #[.int .i64 l2[k].1, .int .i64 l2[k].2.1, .slice qa ql qc] 133) = W2) := by show _ = _; rw [hW1, hW2]
      clear hcl hcl2 hc hc2 i1 i2 hsm hsm2 h h2 hS1 hS2 htk hne hW1 hW2 hb1 hb2
      cases hd : decide (l[k] = l2[k]) with
      | true =>
       rw [hd] at HSA
       have HE := Hid.mk' (HE1.out (of_decide_eq_true hd))
       clear hd HE1 HE2
       generalize l[k] = p at *
       generalize l2[k] = q at *
       go_wp2_with fail
       rw [HW.out]
       refine HSA.out.mono ?_
       rintro e w5 ⟨rfl, hb5⟩
       have hB5 := hB2.trans (hb5.mono hB2.size)
       clear HSA HW
       go_wp2_with fail
       go_roundw
       case rel => exact ⟨k + 1, by omega, by go_num, HE.out, hB5⟩
       case measure => simp [intOf]; omega
      | false =>
       rw [hd] at HSA
       have HE := Hid.mk' (HE2.out (of_decide_eq_false hd))
       clear hd HE1 HE2
       generalize l[k] = p at *
       generalize l2[k] = q at *
       go_wp2_with fail
       rw [HW.out]
       refine HSA.out.mono ?_
       rintro e w5 ⟨rfl, hb5⟩
       have hB5 := hB2.trans (hb5.mono hB2.size)
       clear HSA HW
       go_wp2_with fail
       go_ret
       exact ⟨ret_bool (by symm; rw [decide_eq_false_iff_not]; exact HE.out), hB5⟩
    · have e : k = l.length := by omega
      have hfin : l = l2 := by
       subst e
       rw [List.take_of_length_le (Nat.le_refl _), List.take_of_length_le (by omega)] at htk
       exact htk
      have HF := Hid.mk' hfin
      clear hfin htk
      go_wp2_with fail
      go_ret
      exact ⟨ret_bool (by symm; rw [decide_eq_true_iff]; exact HF.out), hB⟩
 · have hb : ((l.length : Int) == (l2.length : Int)) = false := by simp; omega
   go_enter Tryz.func97, Tryz.ntmps97
   go_wp2
   go_ret
   exact ⟨ret_bool (by symm; rw [decide_eq_false_iff_not]; intro h; exact hne (by rw [h])), Below.refl _ _⟩
end recs
namespace wos
open Go Go.RowKit base pairs ords lay
def begZ (l : List Orr) (tx : Int) : Int := match l.findIdx? fun o => decide (o.1 = tx) with
 | none => -1
 | some k => (k : Int)
theorem beg_hit {l : List Orr} {tx : Int} {k : Nat} (hk : k < l.length) (h : l[k].1 = tx) (hno : ∀ j (hj : j < k) (hl : j < l.length), l[j].1 ≠ tx) : begZ l tx = (k : Int) ∧ firstO l tx = some l[k] := by
 constructor
 · unfold begZ
   rw [show l.findIdx? (fun o => decide (o.1 = tx)) = some k from by
    rw [List.findIdx?_eq_some_iff_getElem]
    exact ⟨hk, by simp [h], fun j hj => by simp [hno j hj (by omega)]⟩]
 · unfold firstO
   rw [List.find?_eq_some_iff_getElem]
   exact ⟨by simp [h], k, hk, rfl, fun j hj => by simp [hno j hj (by omega)]⟩
theorem beg_none {l : List Orr} {tx : Int} (hno : ∀ j (hl : j < l.length), l[j].1 ≠ tx) : begZ l tx = -1 ∧ firstO l tx = none := by
 have h : ∀ x ∈ l, x.1 ≠ tx := fun x hx => by
  obtain ⟨j, hj, rfl⟩ := List.getElem_of_mem hx
  exact hno j hj
 constructor
 · unfold begZ
   rw [List.findIdx?_eq_none_iff.2 (fun x hx => by simp [h x hx])]
 · unfold firstO
   rw [List.find?_eq_none]
   exact fun x hx => by simp [h x hx]
theorem beg_cases (l : List Orr) (tx : Int) : (begZ l tx = -1 ∧ firstO l tx = none) ∨ ∃ k, ∃ hk : k < l.length, begZ l tx = (k : Int) ∧ firstO l tx = some l[k] := by
 cases e : l.findIdx? fun o => decide (o.1 = tx) with
 | none =>
  refine .inl (beg_none fun j hl h => ?_)
  have := List.findIdx?_eq_none_iff.1 e _ (List.getElem_mem hl)
  simp [h] at this
 | some k =>
  obtain ⟨hk, h1, h2⟩ := List.findIdx?_eq_some_iff_getElem.1 e
  exact .inr ⟨k, hk, beg_hit hk (by simpa using h1) fun j hj hl h3 => by have := h2 j hj; simp [h3] at this⟩
def wholeA (l : List Orr) (id n : Int) (r : recs.Rc) : Bool := !decide (r.1 = 1) || (match firstO l r.2.1 with | none => false | some o => decide (r.2.2 = opsFor id n o.2))
def wholeS (x : Wo) (s : recs.Shd) : Bool := s.2.1.all (wholeA x.2.2.2.2 s.1 x.1.1)
def wholeR (x : Wo) : Bool := x.2.1.all (wholeS x)
set_option maxRecDepth 100000 in
set_option maxHeartbeats 2000000 in
theorem spec_l12Begun (ja : Option Addr) (jn jc : Nat) (la : Option Addr) (ln lc : Nat) (sa : Option Addr) (sn sc : Nat) (na : Option Addr) (nn nc : Nat) (oa : Option Addr) (on oc : Nat) (ba : Option Addr) (bn bc : Nat) (x : Wo) (tx : Int) (w : World) (h : SeeWo w ja jn jc la ln lc sa sn sc na nn nc oa on oc ba bn bc x) :
 Calls Tryz.prog 48 #[.agg #[.int .i64 x.1.1, .int .i64 x.1.2.1, .int .i64 x.1.2.2.1, .slice ja jn jc, .slice la ln lc, .int .i64 x.1.2.2.2.2.2, .slice sa sn sc, .slice na nn nc, .slice oa on oc, .slice ba bn bc], .int .i64 tx] w fun e w' => e = .returned (.int .i64 (begZ x.2.2.2.2 tx)) ∧ Below w.heap.size w w' := by
 obtain ⟨W, hW⟩ : ∃ W, w.alloc (.cells #[.int .i64 x.1.1, .int .i64 x.1.2.1, .int .i64 x.1.2.2.1, .slice ja jn jc, .slice la ln lc, .int .i64 x.1.2.2.2.2.2, .slice sa sn sc, .slice na nn nc, .slice oa on oc, .slice ba bn bc] 41) = W := ⟨_, rfl⟩
 have hB : Below w.heap.size w W := by rw [← hW]; exact below_make
 have hX : BoxIn w.heap.size 41 [] [.int .i64 x.1.1, .int .i64 x.1.2.1, .int .i64 x.1.2.2.1, .slice ja jn jc, .slice la ln lc, .int .i64 x.1.2.2.2.2.2, .slice sa sn sc, .slice na nn nc, .slice oa on oc, .slice ba bn bc] [] W := by rw [← hW]; exact boxIn_new w _ _
 have hL := h.begun.below hB
 have hm := h.begun.2.1
 unfold maxLen at hm
 have HLL := Hid.mk' h.begun.1
 have HW := Hid.mk' hW
 clear hW h
 go_enter Tryz.func48, Tryz.ntmps48
 go_wp2_with fail
 rw [HW.out]
 go_loopw [5] (fun i wr => ∃ k : Nat, k ≤ bn ∧ i = .int .i64 (k : Int) ∧ Below W.heap.size W wr ∧ ∀ j (hj : j < k) (hl : j < x.2.2.2.2.length), x.2.2.2.2[j].1 ≠ tx) (fun i _ => bn - (intOf i).toNat)
 case atStart => exact ⟨0, Nat.zero_le _, rfl, Below.refl _ _, fun j hj => absurd hj (Nat.not_lt_zero _)⟩
 case round =>
  obtain ⟨k, hk, rfl, hb, hno⟩ := hrel
  have HNO := Hid.mk' hno
  have hBw := hB.trans (hb.mono hB.size)
  obtain ⟨a0, a1, a2, a3, a4, a5, a6, a7, a8, a9⟩ := cells10 (hX.below hb)
  clear hno a0 a1 a2 a3 a4 a5 a6 a7 a8
  by_cases hlt : k < bn
  · have hki : (k : Int) < (bn : Int) := by omega
    have hkl : k < x.2.2.2.2.length := by have := HLL.out; omega
    obtain ⟨b, off, hba⟩ := cos.slg_some hL (by omega)
    subst hba
    obtain ⟨c0, oa', ol', oc', c1, _, _⟩ := ord_at (hL.below hb) k hkl
    have HP : Hid ((x.2.2.2.2[k].1 = tx → begZ x.2.2.2.2 tx = (k : Int)) ∧ (x.2.2.2.2[k].1 ≠ tx → ∀ j (hj : j < k + 1) (hl : j < x.2.2.2.2.length), x.2.2.2.2[j].1 ≠ tx)) := ⟨fun e => (beg_hit hkl e HNO.out).1, fun e j hj hl => by
     by_cases hjk : j = k
     · subst hjk; exact e
     · exact HNO.out j (by omega) hl⟩
    generalize x.2.2.2.2[k].1 = t at *
    clear c1
    by_cases e1 : t = tx
    · have d1 : (t == tx) = true := beq_iff_eq.2 e1
      have HT := Hid.mk' (HP.out.1 e1)
      clear HP e1
      go_wp2_with fail
      go_ret
      exact ⟨ret_int HT.out.symm, hBw⟩
    · have d1 : (t == tx) = false := beq_eq_false_iff_ne.2 e1
      have HF := Hid.mk' (HP.out.2 e1)
      clear HP e1
      go_wp2_with fail
      go_roundw
      case rel => exact ⟨k + 1, by omega, by go_num, hb, HF.out⟩
      case measure => simp [intOf]; omega
  · have hki : ¬ (k : Int) < (bn : Int) := by omega
    have HT : Hid (begZ x.2.2.2.2 tx = -1) := (beg_none fun j hl => HNO.out j (by have := HLL.out; omega) hl).1
    go_wp2_with fail
    go_ret
    exact ⟨ret_int HT.out.symm, hBw⟩
structure SmallB (x : Wo) : Prop where
 ops : ∀ y ∈ x.2.2.2.2, y.2.length ≤ 1048576 ∧ ∀ p ∈ y.2, p.2.1.size ≤ 1048576
 n : x.2.2.2.2.length ≤ 1048576
theorem spec_same (a a2 : Option Addr) (len cap len2 cap2 : Nat) (l l2 : List Od) (w : World) (h : SlO w a len l) (h2 : SlO w a2 len2 l2) :
 Calls Tryz.prog 49 #[.slice a len cap, .slice a2 len2 cap2] w fun e w' => e = .returned (.bool (decide (l = l2))) ∧ Below w.heap.size w w' := by
 refine (recs.spec_sameOps a a2 len cap len2 cap2 l l2 w h h2).mono ?_
 rintro e w' ⟨rfl, n, rfl⟩
 exact ⟨rfl, below_drewN (Below.refl _ _) n⟩
set_option maxRecDepth 100000 in
set_option maxHeartbeats 8000000 in
theorem spec_whole (ja : Option Addr) (jn jc : Nat) (la : Option Addr) (ln lc : Nat) (sa : Option Addr) (sn sc : Nat) (na : Option Addr) (nn nc : Nat) (oa : Option Addr) (on oc : Nat) (ba : Option Addr) (bn bc : Nat) (x : Wo) (w : World) (h : SeeWo w ja jn jc la ln lc sa sn sc na nn nc oa on oc ba bn bc x) (hsm : SmallB x) :
 Calls Tryz.prog 35 #[.agg #[.int .i64 x.1.1, .int .i64 x.1.2.1, .int .i64 x.1.2.2.1, .slice ja jn jc, .slice la ln lc, .int .i64 x.1.2.2.2.2.2, .slice sa sn sc, .slice na nn nc, .slice oa on oc, .slice ba bn bc]] w fun e w' => e = .returned (.bool (wholeR x)) ∧ Below w.heap.size w w' := by
 obtain ⟨W, hW⟩ : ∃ W, w.alloc (.cells #[.int .i64 x.1.1, .int .i64 x.1.2.1, .int .i64 x.1.2.2.1, .slice ja jn jc, .slice la ln lc, .int .i64 x.1.2.2.2.2.2, .slice sa sn sc, .slice na nn nc, .slice oa on oc, .slice ba bn bc] 41) = W := ⟨_, rfl⟩
 have hB : Below w.heap.size w W := by rw [← hW]; exact below_make
 have hX : BoxIn w.heap.size 41 [] [.int .i64 x.1.1, .int .i64 x.1.2.1, .int .i64 x.1.2.2.1, .slice ja jn jc, .slice la ln lc, .int .i64 x.1.2.2.2.2.2, .slice sa sn sc, .slice na nn nc, .slice oa on oc, .slice ba bn bc] [] W := by rw [← hW]; exact boxIn_new w _ _
 have hS := h.sh.below hB
 have hBg := h.begun.below hB
 have hnw := h.co.n
 have HBE := Hid.mk' (fun tx wx (hb : Below W.heap.size W wx) => spec_l12Begun ja jn jc la ln lc sa sn sc na nn nc oa on oc ba bn bc x tx wx ((h.below hB).below hb))
 have hsl := h.sh.1
 have hm := h.sh.2.1
 unfold maxLen at hm
 have HSL := Hid.mk' hsl
 have HBN := Hid.mk' h.begun.1
 have HW := Hid.mk' hW
 clear hW h hsl
 go_enter Tryz.func35, Tryz.ntmps35
 go_wp2_with fail
 rw [HW.out]
 go_loopw [3] (fun i wr => ∃ k : Nat, k ≤ sn ∧ i = .int .i64 (k : Int) ∧ Below W.heap.size W wr ∧ ∀ j (hj : j < k) (hl : j < x.2.1.length), wholeS x x.2.1[j] = true) (fun i _ => sn - (intOf i).toNat)
 case atStart => exact ⟨0, Nat.zero_le _, rfl, Below.refl _ _, fun j hj => absurd hj (Nat.not_lt_zero _)⟩
 case round =>
  obtain ⟨k, hk, rfl, hb, hyes⟩ := hrel
  have HYES := Hid.mk' hyes
  have hBw := hB.trans (hb.mono hB.size)
  obtain ⟨a0, a1, a2, a3, a4, a5, a6, a7, a8, a9⟩ := cells10 (hX.below hb)
  clear hyes
  by_cases hlt : k < sn
  · have hki : (k : Int) < (sn : Int) := by omega
    have hkl : k < x.2.1.length := by have := HSL.out; omega
    obtain ⟨b, off, hsa⟩ := cos.slg_some hS (by omega)
    subst hsa
    obtain ⟨rla, rln, rlc, rma, rmn, rmc, rha, rhn, rhc, s0, s1, s2, s3, s4, hsee⟩ := shard_at (hS.below hb) k hkl
    have hlog := hsee.log
    have hidw := hsee.id
    have hlg := hlog.1
    have hlm := hlog.2.1
    unfold maxLen at hlm
    have HBL : Hid (∀ v, wholeS x x.2.1[k] = v → (v = false → wholeR x = false) ∧ (v = true → ∀ j (hj : j < k + 1) (hl : j < x.2.1.length), wholeS x x.2.1[j] = true)) := fun v hv => ⟨fun e => all_miss (p := wholeS x) hkl (hv.trans e), fun e j hj hl => by
     by_cases hjk : j = k
     · subst hjk; exact hv.trans e
     · exact HYES.out j (by omega) hl⟩
    generalize x.2.1[k] = s at *
    have HS0 := Hid.mk' s0
    clear hsee s0 s2 s3 s4 a0 a1 a2 a3 a4 a5
    have HLG := Hid.mk' hlg
    clear hlg
    go_wp2_with fail
    clear a6 a7 a8 a9 s1
    obtain ⟨v0, hv0⟩ : ∃ v0, v0 = wr := ⟨_, rfl⟩
    subst hv0
    go_loopw [5] (fun i wr => ∃ q : Nat, q ≤ rln ∧ i = .int .i64 (q : Int) ∧ Below v0.heap.size v0 wr ∧ ∀ j (hj : j < q) (hl : j < s.2.1.length), wholeA x.2.2.2.2 s.1 x.1.1 s.2.1[j] = true) (fun i _ => rln - (intOf i).toNat)
    case atStart => exact ⟨0, Nat.zero_le _, rfl, Below.refl _ _, fun j hj => absurd hj (Nat.not_lt_zero _)⟩
    case round =>
     obtain ⟨q, hq, rfl, hb2, hyes⟩ := hrel
     have HY2 := Hid.mk' hyes
     have hbw2 := hb.trans (hb2.mono hb.size)
     have hBw2 := hB.trans (hbw2.mono hB.size)
     clear hyes
     by_cases hlt2 : q < rln
     · have hqi : (q : Int) < (rln : Int) := by omega
       have hql : q < s.2.1.length := by have := HLG.out; omega
       obtain ⟨rb, roff, hra⟩ := slr_some hlog (by omega)
       subst hra
       obtain ⟨c0, c1, pa, pl, pc, c2, hSo, _⟩ := rec_at (hlog.below hb2) q hql
       obtain ⟨a0, a1, a2, a3, a4, a5, a6, a7, a8, a9⟩ := cells10 (hX.below hbw2)
       have HV : Hid (wholeA x.2.2.2.2 s.1 x.1.1 s.2.1[q] = (!decide (s.2.1[q].1 = 1) || (match firstO x.2.2.2.2 s.2.1[q].2.1 with | none => false | some o => decide (s.2.1[q].2.2 = opsFor s.1 x.1.1 o.2)))) := rfl
       have HP : Hid (∀ v, wholeA x.2.2.2.2 s.1 x.1.1 s.2.1[q] = v → (v = false → wholeS x s = false) ∧ (v = true → ∀ j (hj : j < q + 1) (hl : j < s.2.1.length), wholeA x.2.2.2.2 s.1 x.1.1 s.2.1[j] = true)) := fun v hv => ⟨fun e => all_miss hql (hv.trans e), fun e j hj hl => by
        by_cases hjk : j = q
        · subst hjk; exact hv.trans e
        · exact HY2.out j (by omega) hl⟩
       generalize s.2.1[q] = r at *
       by_cases e1 : r.1 = 1
       · have d1 : (r.1 != 1) = false := by simp [e1]
         have HC1 := Hid.mk' c1
         have HC2 := Hid.mk' c2
         have hcall0 : ∀ xx : last.On wr.heap.size wr, Calls Tryz.prog 48 #[.agg #[.int .i64 x.1.1, .int .i64 x.1.2.1, .int .i64 x.1.2.2.1, .slice ja jn jc, .slice la ln lc, .int .i64 x.1.2.2.2.2.2, .slice (some ⟨b, off, none⟩) sn sc, .slice na nn nc, .slice oa on oc, .slice ba bn bc], .int .i64 r.2.1] xx.w fun e w' => e = .returned (.int .i64 (begZ x.2.2.2.2 r.2.1)) ∧ ∃ yv : last.On wr.heap.size wr, w' = yv.w := fun xx => last.Calls.on xx (Nat.le_refl _) (HBE.out _ xx.w (hbw2.trans (xx.2.mono hbw2.size)))
         have HBC := Hid.mk' (beg_cases x.2.2.2.2 r.2.1)
         generalize begZ x.2.2.2.2 r.2.1 = bz at *
         have o1 := last.On.cell (B := wr.heap.size) c1 (World.block_lt_of_cell? _ _ c1)
         have p0 := last.On.cell (B := wr.heap.size) a0 (World.block_lt_of_cell? _ _ a0)
         have p1 := last.On.cell (B := wr.heap.size) a1 (World.block_lt_of_cell? _ _ a1)
         have p2 := last.On.cell (B := wr.heap.size) a2 (World.block_lt_of_cell? _ _ a2)
         have p3 := last.On.cell (B := wr.heap.size) a3 (World.block_lt_of_cell? _ _ a3)
         have p4 := last.On.cell (B := wr.heap.size) a4 (World.block_lt_of_cell? _ _ a4)
         have p5 := last.On.cell (B := wr.heap.size) a5 (World.block_lt_of_cell? _ _ a5)
         have p6 := last.On.cell (B := wr.heap.size) a6 (World.block_lt_of_cell? _ _ a6)
         have p7 := last.On.cell (B := wr.heap.size) a7 (World.block_lt_of_cell? _ _ a7)
         have p8 := last.On.cell (B := wr.heap.size) a8 (World.block_lt_of_cell? _ _ a8)
         have p9 := last.On.cell (B := wr.heap.size) a9 (World.block_lt_of_cell? _ _ a9)
         have hinh := last.On.inh wr.heap.size wr
         clear c1 c2 a0 a1 a2 a3 a4 a5 a6 a7 a8 a9
         go_wp2_with fail
         clear c0
         refine last.wp_region_on wr.heap.size (by kernel_rfl) (by kernel_rfl) ?_
         repeat (go_big_quiet_step ((go_at_call 48; exact hcall0 _)))
         refine wpQuiet_nil ?_
         intro wq hwq
         obtain ⟨xq, hwq⟩ := hwq
         subst hwq
         have hbq : Below wr.heap.size wr xq.w := xq.2
         generalize xq.w = W3 at *
         clear o1 p0 p1 p2 p3 p4 p5 p6 p7 p8 p9 hinh hcall0
         have hb3 := hbw2.trans (hbq.mono hbw2.size)
         have hBw3 := hB.trans (hb3.mono hB.size)
         have hv3 := hb2.trans (hbq.mono hb2.size)
         rcases HBC.out with ⟨rfl, hnone⟩ | ⟨K, hK, rfl, hsome⟩
         · have HF := Hid.mk' ((HBL.out false ((HP.out false (by rw [HV.out, hnone]; simp [e1])).1 rfl)).1 rfl)
           have hinh := last.On.inh W3.heap.size W3
           clear HP HV HBL HBC hnone e1 d1
           go_wp2_with fail
           refine last.wp_region_on W3.heap.size (by kernel_rfl) (by kernel_rfl) ?_
           repeat (go_big_quiet_step (fail))
           refine wpQuiet_nil ?_
           intro wq hwq
           obtain ⟨xq, hwq⟩ := hwq
           subst hwq
           have hbq4 : Below W3.heap.size W3 xq.w := xq.2
           go_wp2_with fail
           go_ret
           exact ⟨by rw [HF.out]; rfl, hBw3.trans (hbq4.mono hBw3.size)⟩
         · have hKn : K < bn := by have := HBN.out; omega
           have hKi : (K : Int) < (bn : Int) := by omega
           have hK0 : ¬ (K : Int) < 0 := by omega
           obtain ⟨bb, boff, hba⟩ := cos.slg_some hBg (by omega)
           subst hba
           obtain ⟨_, qa, ql, qc, q1, hSq, hqc⟩ := ord_at (hBg.below hb3) K hK
           have hfit := hsm.ops _ (List.getElem_mem hK)
           have HWV : Hid (wholeA x.2.2.2.2 s.1 x.1.1 r = decide (r.2.2 = opsFor s.1 x.1.1 x.2.2.2.2[K].2)) := by show _ = _; rw [HV.out, hsome]; simp [e1]
           have HOF := Hid.mk' (fun wx (hx : Below W3.heap.size W3 wx) => spec_opsFor qa ql qc x.2.2.2.2[K].2 s.1 x.1.1 wx (hSq.below hx) (by have := hSq.1; omega) hnw hidw)
           have HSA := Hid.mk' (fun (g n c : Nat) (wy wx : World) (hx : Below W3.heap.size W3 wx) (ho : OwnO wx wy.heap.size g n c (opsFor s.1 x.1.1 x.2.2.2.2[K].2)) => spec_same pa (some ⟨g, 0, none⟩) pl pc n c r.2.2 (opsFor s.1 x.1.1 x.2.2.2.2[K].2) wx (hSo.below (hbq.trans (hx.mono hbq.size))) ho.sl)
           have HALL : Hid (∀ wx, Below W3.heap.size W3 wx → Below W3.heap.size W3 wx ∧ wx.cell? ⟨rb, roff + q * 3 + 2, none⟩ = some (.slice pa pl pc) ∧ wx.cell? ⟨w.heap.size, 0, none⟩ = some (.int .i64 x.1.1) ∧ wx.cell? ⟨w.heap.size, 6, none⟩ = some (.slice (some ⟨b, off, none⟩) sn sc) ∧ wx.cell? ⟨w.heap.size, 9, none⟩ = some (.slice (some ⟨bb, boff, none⟩) bn bc) ∧ wx.cell? ⟨bb, boff + K * 2 + 1, none⟩ = some (.slice qa ql qc) ∧ wx.cell? ⟨b, off + k * 5, none⟩ = some (.int .i64 s.1)) := fun wx hx => by
            have hbx := hbq.trans (hx.mono hbq.size)
            have hvx := hv3.trans (hx.mono hv3.size)
            have hWx := hb3.trans (hx.mono hb3.size)
            obtain ⟨a0, a1, a2, a3, a4, a5, a6, a7, a8, a9⟩ := cells10 (hX.below hWx)
            exact ⟨hx, (hbx.cell (p := ⟨rb, roff + q * 3 + 2, none⟩) (World.block_lt_of_cell? _ _ HC2.out)).trans HC2.out, a0, a6, a9, (hx.cell (p := ⟨bb, boff + K * 2 + 1, none⟩) (World.block_lt_of_cell? _ _ q1)).trans q1, (hvx.cell (p := ⟨b, off + k * 5, none⟩) (World.block_lt_of_cell? _ _ HS0.out)).trans HS0.out⟩
           have hd3 : Below W3.heap.size W3 W3.drew := (Below.refl _ _).drew
           generalize opsFor s.1 x.1.1 x.2.2.2.2[K].2 = fo at *
           by_cases heq : r.2.2 = fo
           · have HF := Hid.mk' ((HP.out true (by rw [HWV.out]; simp [heq])).2 rfl)
             rw [decide_eq_true heq] at HSA
             clear HP HV HBL HBC hsome e1 d1 heq q1 hSq hfit HWV
             go_wp2_with fail
             go_region_held3 (fun w' => Below W3.heap.size W3 w' ∧ w'.cell? ⟨rb, roff + q * 3 + 2, none⟩ = some (.slice pa pl pc) ∧ w'.cell? ⟨w.heap.size, 0, none⟩ = some (.int .i64 x.1.1) ∧ w'.cell? ⟨w.heap.size, 6, none⟩ = some (.slice (some ⟨b, off, none⟩) sn sc) ∧ w'.cell? ⟨w.heap.size, 9, none⟩ = some (.slice (some ⟨bb, boff, none⟩) bn bc) ∧ w'.cell? ⟨bb, boff + K * 2 + 1, none⟩ = some (.slice qa ql qc) ∧ w'.cell? ⟨b, off + k * 5, none⟩ = some (.int .i64 s.1)) (first | (with_reducible exact HALL.out _ hq5) | (with_reducible exact HALL.out _ hq4) | (with_reducible exact HALL.out _ hd3) | fail "keepW") (first | (go_at_call 49; (with_reducible refine (HSA.out _ _ _ _ _ hq4 hO4).mono ?_); rintro e w5 ⟨rfl, hb5⟩; have hq5 := hq4.trans (hb5.mono hq4.size)) | (go_at_call 72; (with_reducible refine (HOF.out _ hd3).mono ?_); rintro e w4 ⟨g4, n4, cp4, rfl, hO4, hb4⟩; have hq4 := hd3.trans (hb4.mono hd3.size)) | fail "armW")
             have hz := hq5
             go_wp2_with fail
             go_roundw
             case rel => exact ⟨q + 1, by omega, by go_num, hv3.trans (hz.mono hv3.size), HF.out⟩
             case measure => simp [intOf]; omega
           · have HF := Hid.mk' ((HBL.out false ((HP.out false (by rw [HWV.out]; simp [heq])).1 rfl)).1 rfl)
             rw [decide_eq_false heq] at HSA
             clear HP HV HBL HBC hsome e1 d1 heq q1 hSq hfit HWV
             go_wp2_with fail
             go_region_held3 (fun w' => Below W3.heap.size W3 w' ∧ w'.cell? ⟨rb, roff + q * 3 + 2, none⟩ = some (.slice pa pl pc) ∧ w'.cell? ⟨w.heap.size, 0, none⟩ = some (.int .i64 x.1.1) ∧ w'.cell? ⟨w.heap.size, 6, none⟩ = some (.slice (some ⟨b, off, none⟩) sn sc) ∧ w'.cell? ⟨w.heap.size, 9, none⟩ = some (.slice (some ⟨bb, boff, none⟩) bn bc) ∧ w'.cell? ⟨bb, boff + K * 2 + 1, none⟩ = some (.slice qa ql qc) ∧ w'.cell? ⟨b, off + k * 5, none⟩ = some (.int .i64 s.1)) (first | (with_reducible exact HALL.out _ hq5) | (with_reducible exact HALL.out _ hq4) | (with_reducible exact HALL.out _ hd3) | fail "keepW") (first | (go_at_call 49; (with_reducible refine (HSA.out _ _ _ _ _ hq4 hO4).mono ?_); rintro e w5 ⟨rfl, hb5⟩; have hq5 := hq4.trans (hb5.mono hq4.size)) | (go_at_call 72; (with_reducible refine (HOF.out _ hd3).mono ?_); rintro e w4 ⟨g4, n4, cp4, rfl, hO4, hb4⟩; have hq4 := hd3.trans (hb4.mono hd3.size)) | fail "armW")
             have hz := hq5
             go_wp2_with fail
             go_ret
             exact ⟨by rw [HF.out]; rfl, hBw3.trans (hz.mono hBw3.size)⟩
       · have d1 : (r.1 != 1) = true := by simp [e1]
         have HF := Hid.mk' ((HP.out true (by rw [HV.out]; simp [e1])).2 rfl)
         clear HP HV e1 c1 c2 a0 a1 a2 a3 a4 a5 a6 a7 a8 a9
         go_wp2_with fail
         go_roundw
         case rel => exact ⟨q + 1, by omega, by go_num, hb2, HF.out⟩
         case measure => simp [intOf]; omega
     · have hqi : ¬ (q : Int) < (rln : Int) := by omega
       have HF : Hid (∀ j (hj : j < k + 1) (hl : j < x.2.1.length), wholeS x x.2.1[j] = true) := (HBL.out true (all_every fun j hj => HY2.out j (by have := HLG.out; omega) hj)).2 rfl
       clear HBL
       go_wp2_with fail
       go_roundw
       case rel => exact ⟨k + 1, by omega, by go_num, hbw2, HF.out⟩
       case measure => simp [intOf]; omega
  · have hki : ¬ (k : Int) < (sn : Int) := by omega
    have HF : Hid (wholeR x = true) := all_every (p := wholeS x) fun j hj => HYES.out j (by have := HSL.out; omega) hj
    clear a0 a1 a2 a3 a4 a5
    go_wp2_with fail
    go_ret
    exact ⟨by rw [HF.out]; rfl, hBw⟩
end wos
namespace wos
open Go Go.RowKit base pairs ords lay
def wordA (n : Int) (m : wds.Wd) : Bool := wds.wordOk m && decide (m.2.1 < n)
def wordsO (n : Int) (l : List wds.Wd) : Bool := decide (l.length ≤ 400) && l.all (wordA n)
def shA (l : List recs.Shd) (k : Nat) : Bool := match l[k]? with
 | none => true
 | some s => decide (s.1 = (k : Int)) && recs.shardOk s
def shsO (l : List recs.Shd) : Bool := (List.range l.length).all (shA l)
def begA (hi : Int) (l : List Orr) (k : Nat) : Bool := match l[k]? with
 | none => true
 | some o => opsOk o.2 && (firstO (l.take k) o.1).isNone && decide (1000 ≤ o.1 ∧ o.1 < hi)
def begO (hi : Int) (l : List Orr) : Bool := decide (l.length ≤ 1000) && (List.range l.length).all (begA hi l)
def jobA (l : List Orr) (j : cos.Jb) : Bool := match firstO l j.1 with
 | none => false
 | some o => decide (o.2 = j.2.1)
def logA (l : List Orr) (c : cos.Ch) : Bool := (firstO l c.1).isSome
def allO (x : Wo) : Bool := x.1.2.2.2.1.all (jobA x.2.2.2.2) && x.1.2.2.2.2.1.all (logA x.2.2.2.2)
def worldOk (x : Wo) : Bool := cos.coordOk x.1 && decide ((x.2.1.length : Int) = x.1.1) && wordsO x.1.1 x.2.2.1 && wordsO x.1.1 x.2.2.2.1 && (begO (x.1.2.1 * 1000 + x.1.2.2.1) x.2.2.2.2 && allO x) && shsO x.2.1
theorem range_miss {f : Nat → Bool} {n k : Nat} (hk : k < n) (h : f k = false) : (List.range n).all f = false := by
 rw [List.all_eq_false]
 exact ⟨k, List.mem_range.2 hk, by rw [h]; decide⟩
theorem range_every {f : Nat → Bool} {n : Nat} (h : ∀ j, j < n → f j = true) : (List.range n).all f = true := by
 rw [List.all_eq_true]
 exact fun j hj => h j (List.mem_range.1 hj)
theorem shA_at {l : List recs.Shd} {k : Nat} (hk : k < l.length) : shA l k = (decide (l[k].1 = (k : Int)) && recs.shardOk l[k]) := by
 unfold shA
 rw [List.getElem?_eq_getElem hk]
theorem begA_at {hi : Int} {l : List Orr} {k : Nat} (hk : k < l.length) : begA hi l k = (opsOk l[k].2 && (firstO (l.take k) l[k].1).isNone && decide (1000 ≤ l[k].1 ∧ l[k].1 < hi)) := by
 unfold begA
 rw [List.getElem?_eq_getElem hk]
theorem beg_self {l : List Orr} {k : Nat} (hk : k < l.length) : decide (begZ l l[k].1 = (k : Int)) = (firstO (l.take k) l[k].1).isNone := by
 cases e : firstO (l.take k) l[k].1 with
 | none =>
  have hno : ∀ j (hj : j < k) (hl : j < l.length), l[j].1 ≠ l[k].1 := fun j hj hl h => by
   have := List.find?_eq_none.1 e l[j] (List.mem_take_iff_getElem.2 ⟨j, by omega, rfl⟩)
   simp [h] at this
  rw [(beg_hit hk rfl hno).1]
  simp
 | some o =>
  have h1 := List.find?_some e
  obtain ⟨j, hj, rfl⟩ := List.mem_take_iff_getElem.1 (List.mem_of_find?_eq_some e)
  by_cases h : begZ l l[k].1 = (k : Int)
  · exfalso
    unfold begZ at h
    cases e2 : l.findIdx? fun o => decide (o.1 = l[k].1) with
    | none => rw [e2] at h; simp only [] at h; omega
    | some q =>
     rw [e2] at h
     simp only [] at h
     obtain ⟨_, _, h3⟩ := List.findIdx?_eq_some_iff_getElem.1 e2
     have := h3 j (by omega)
     have h4 := of_decide_eq_true h1
     simp only [h4] at this
     simp at this
  · simp [h]
end wos
end Go.Proofs.YtijplooogplccaaGreat
