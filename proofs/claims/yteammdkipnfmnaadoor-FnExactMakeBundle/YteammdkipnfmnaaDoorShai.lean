/- The specification's right pairs, and pairs put into others. The specification's proving of all between. A call inside a region that draws its order, as a law of one step. No function of the program is named here. -/
import Derived.Test.YteammdkipnfmnaaDoorShah
import Derived.Test.YteammdkipnfmnaaDoorShac
import Derived.Test.YteammdkipnfmnaaDoorShaf
import Derived.Deep.RegionLaw
import Derived.WalkKit
import Derived.WalkSpells
import Derived.WalkLawsBesides
namespace Go.Proofs.YteammdkipnfmnaaDoor.pairs
open Go Go.RowKit Go.Proofs.YteammdkipnfmnaaDoor.base
set_option linter.unusedVariables false
set_option linter.unusedSimpArgs false

def prevOf (l : List Pr) (k : Nat) : Option ByteArray := if k = 0 then none else (l[k - 1]?).map (·.1)
theorem okFrom_zero (l : List Pr) (k : Nat) (h : k < l.length) (h0 : k = 0) : okFrom (prevOf l k) (l.drop k) = (pairOk l[k] && okFrom (prevOf l (k + 1)) (l.drop (k + 1))) := by
  subst h0
  cases l with
  | nil => simp at h
  | cons p l => simp [prevOf, okFrom]
theorem okFrom_step (l : List Pr) (k : Nat) (h : k < l.length) (h0 : 0 < k) : okFrom (prevOf l k) (l.drop k) = (pairOk l[k] && ltB l[k - 1].1 l[k].1 && okFrom (prevOf l (k + 1)) (l.drop (k + 1))) := by
  have e1 : prevOf l k = some l[k - 1].1 := by unfold prevOf; rw [if_neg (by omega), List.getElem?_eq_getElem (by omega)]; rfl
  have e2 : prevOf l (k + 1) = some l[k].1 := by unfold prevOf; rw [if_neg (by omega), Nat.add_sub_cancel, List.getElem?_eq_getElem h]; rfl
  rw [e1, e2, List.drop_eq_getElem_cons h, okFrom]

set_option maxRecDepth 100000 in
set_option maxHeartbeats 2000000 in
theorem spec_pairsOk (b off len cap : Nat) (l : List Pr) (w : World) (h : SlP w (some ⟨b, off, none⟩) len l) (hks : ∀ p ∈ l, p.1.size ≤ 1099511627776) :
    Calls Tryd.prog 32 #[.slice (some ⟨b, off, none⟩) len cap] w fun e w' => e = .returned (.bool (pairsOk l)) ∧ Below w.heap.size w w' := by
  have hl := h.1
  have hm := h.2.1
  have hsm := h.2.2.1
  subst hl
  unfold maxLen at hm
  generalize hR : okFrom none l = R
  have HR := Hid.mk' hR
  clear hR
  go_enter Tryd.func32, Tryd.ntmps32
  go_wp2_with fail
  go_loopw [3] (fun i wr => ∃ k : Nat, k ≤ l.length ∧ i = .int .i64 (k : Int) ∧ okFrom (prevOf l k) (l.drop k) = R ∧ Below w.heap.size w wr) (fun i _ => l.length - (intOf i).toNat)
  case atStart => exact ⟨0, Nat.zero_le _, rfl, HR.out, Below.refl _ _⟩
  case round =>
    obtain ⟨k, hk, rfl, hr, hB⟩ := hrel
    by_cases hlt : k < l.length
    · have hS := h.below hB
      obtain ⟨c1, c2⟩ := hS.cells k hlt
      have hbl := hS.lt (by omega)
      have hpk := hsm _ (List.getElem_mem hlt)
      have hks' := hks _ (List.getElem_mem hlt)
      have hki : (k : Int) < (l.length : Int) := by omega
      have hbd : b < wr.drew.heap.size := hbl
      by_cases h0 : k = 0
      · have hst := okFrom_zero l k hlt h0
        rw [hr] at hst
        have hk0 : ¬ (0 : Int) < (k : Int) := by omega
        have hk1 : decide (0 < k) = false := by simp; omega
        have hk2 : decide ((0 : Int) < (k : Int)) = false := by simp; omega
        cases hP : pairOk l[k]
        · have HF : Hid (R = false) := by rw [hP] at hst; exact hst
          have HP := Hid.mk' hP
          clear hst hr hP hS h0
          generalize l[k] = p at *
          have o1 := last.On.cell c1 hbl
          have o2 := last.On.cell c2 hbl
          go_wp2_with fail
          have hinh := last.On.inh wr.heap.size wr
          have hcall : ∀ x : last.On wr.heap.size wr, Calls Tryd.prog 45 #[.agg #[.string p.1, .string p.2]] x.w fun e w' => e = .returned (.bool false) ∧ ∃ y : last.On wr.heap.size wr, w' = y.w := fun x => last.Calls.on x (Nat.le_refl _) (by have := spec_pairOk p x.w hpk hks'; rw [HP.out] at this; exact this)
          refine last.wp_region_on wr.heap.size (by kernel_rfl) (by kernel_rfl) ?_
          repeat (go_big_quiet_step ((go_at_call 45; exact hcall _)))
          refine wpQuiet_nil ?_
          intro w5 hw5
          obtain ⟨x5, hw5⟩ := hw5
          subst hw5
          have hB5 : Below w.heap.size w x5.w := hB.trans (x5.2.mono hB.size)
          go_wp2_with fail
          go_ret
          exact ⟨ret_bool (by unfold pairsOk; rw [HR.out, HF.out]; rfl), hB5⟩
        · have HF : Hid (okFrom (prevOf l (k + 1)) (l.drop (k + 1)) = R) := by show _ = _; rw [hP] at hst; simpa using hst.symm
          have HP := Hid.mk' hP
          clear hst hr hP hS h0
          generalize l[k] = p at *
          have o1 := last.On.cell c1 hbl
          have o2 := last.On.cell c2 hbl
          go_wp2_with fail
          have hinh := last.On.inh wr.heap.size wr
          have hcall : ∀ x : last.On wr.heap.size wr, Calls Tryd.prog 45 #[.agg #[.string p.1, .string p.2]] x.w fun e w' => e = .returned (.bool true) ∧ ∃ y : last.On wr.heap.size wr, w' = y.w := fun x => last.Calls.on x (Nat.le_refl _) (by have := spec_pairOk p x.w hpk hks'; rw [HP.out] at this; exact this)
          refine last.wp_region_on wr.heap.size (by kernel_rfl) (by kernel_rfl) ?_
          repeat (go_big_quiet_step ((go_at_call 45; exact hcall _)))
          refine wpQuiet_nil ?_
          intro w5 hw5
          obtain ⟨x5, hw5⟩ := hw5
          subst hw5
          have hB5 : Below w.heap.size w x5.w := hB.trans (x5.2.mono hB.size)
          go_wp2_with fail
          go_roundw
          case rel => exact ⟨k + 1, by omega, by go_num, HF.out, hB5⟩
          case measure => simp [intOf]; omega
      · have hst := okFrom_step l k hlt (by omega)
        rw [hr] at hst
        have hk0 : (0 : Int) < (k : Int) := by omega
        have hk1 : decide (0 < k) = true := by simp; omega
        have hk2 : decide ((0 : Int) < (k : Int)) = true := by simp; omega
        have c3 := (hS.cells (k - 1) (by omega)).1
        obtain ⟨j, hj⟩ : ∃ j, k - 1 = j := ⟨_, rfl⟩
        have hjw : (k : Int) - 1 = (j : Int) := by omega
        have hjk : (j : Int) < (l.length : Int) := by omega
        generalize l[k - 1].1 = q at *
        rw [hj] at c3
        have o3 := last.On.cell c3 hbl
        cases hP : pairOk l[k]
        · have HF : Hid (R = false) := by rw [hP] at hst; exact hst
          have HP := Hid.mk' hP
          clear hst hr hP hS h0 hj
          generalize l[k] = p at *
          have o1 := last.On.cell c1 hbl
          have o2 := last.On.cell c2 hbl
          go_wp2_with fail
          have hinh := last.On.inh wr.heap.size wr
          have hcall : ∀ x : last.On wr.heap.size wr, Calls Tryd.prog 45 #[.agg #[.string p.1, .string p.2]] x.w fun e w' => e = .returned (.bool false) ∧ ∃ y : last.On wr.heap.size wr, w' = y.w := fun x => last.Calls.on x (Nat.le_refl _) (by have := spec_pairOk p x.w hpk hks'; rw [HP.out] at this; exact this)
          refine last.wp_region_on wr.heap.size (by kernel_rfl) (by kernel_rfl) ?_
          repeat (go_big_quiet_step ((go_at_call 45; exact hcall _)))
          refine wpQuiet_nil ?_
          intro w5 hw5
          obtain ⟨x5, hw5⟩ := hw5
          subst hw5
          have hB5 : Below w.heap.size w x5.w := hB.trans (x5.2.mono hB.size)
          go_wp2_with fail
          go_ret
          exact ⟨ret_bool (by unfold pairsOk; rw [HR.out, HF.out]; rfl), hB5⟩
        · cases hL : ltB q l[k].1
          · have HF : Hid (R = false) := by show _ = _; rw [hP, hL] at hst; simpa using hst
            have HP := Hid.mk' hP
            have hl2 : Op.bytesLess q.toList l[k].1.toList = false := hL
            clear hst hr hP hS h0 hj hL
            generalize l[k] = p at *
            have o1 := last.On.cell c1 hbl
            have o2 := last.On.cell c2 hbl
            go_wp2_with fail
            have hinh := last.On.inh wr.heap.size wr
            have hcall : ∀ x : last.On wr.heap.size wr, Calls Tryd.prog 45 #[.agg #[.string p.1, .string p.2]] x.w fun e w' => e = .returned (.bool true) ∧ ∃ y : last.On wr.heap.size wr, w' = y.w := fun x => last.Calls.on x (Nat.le_refl _) (by have := spec_pairOk p x.w hpk hks'; rw [HP.out] at this; exact this)
            refine last.wp_region_on wr.heap.size (by kernel_rfl) (by kernel_rfl) ?_
            repeat (go_big_quiet_step ((go_at_call 45; exact hcall _)))
            refine wpQuiet_nil ?_
            intro w5 hw5
            obtain ⟨x5, hw5⟩ := hw5
            subst hw5
            have hB5 : Below w.heap.size w x5.w := hB.trans (x5.2.mono hB.size)
            go_wp2_with fail
            go_ret
            exact ⟨ret_bool (by unfold pairsOk; rw [HR.out, HF.out]; rfl), hB5⟩
          · have HF : Hid (okFrom (prevOf l (k + 1)) (l.drop (k + 1)) = R) := by show _ = _; rw [hP, hL] at hst; simpa using hst.symm
            have HP := Hid.mk' hP
            have hl2 : Op.bytesLess q.toList l[k].1.toList = true := hL
            clear hst hr hP hS h0 hj hL
            generalize l[k] = p at *
            have o1 := last.On.cell c1 hbl
            have o2 := last.On.cell c2 hbl
            go_wp2_with fail
            have hinh := last.On.inh wr.heap.size wr
            have hcall : ∀ x : last.On wr.heap.size wr, Calls Tryd.prog 45 #[.agg #[.string p.1, .string p.2]] x.w fun e w' => e = .returned (.bool true) ∧ ∃ y : last.On wr.heap.size wr, w' = y.w := fun x => last.Calls.on x (Nat.le_refl _) (by have := spec_pairOk p x.w hpk hks'; rw [HP.out] at this; exact this)
            refine last.wp_region_on wr.heap.size (by kernel_rfl) (by kernel_rfl) ?_
            repeat (go_big_quiet_step ((go_at_call 45; exact hcall _)))
            refine wpQuiet_nil ?_
            intro w5 hw5
            obtain ⟨x5, hw5⟩ := hw5
            subst hw5
            have hB5 : Below w.heap.size w x5.w := hB.trans (x5.2.mono hB.size)
            go_wp2_with fail
            go_roundw
            case rel => exact ⟨k + 1, by omega, by go_num, HF.out, hB5⟩
            case measure => simp [intOf]; omega
    · have HF : Hid (R = true) := by show _ = _; rw [← hr, List.drop_eq_nil_of_le (by omega)]; cases prevOf l k <;> rfl
      clear hr
      go_wp2_with fail
      go_ret
      exact ⟨ret_bool (by unfold pairsOk; rw [HR.out, HF.out]; simp; omega), hB⟩

end Go.Proofs.YteammdkipnfmnaaDoor.pairs

namespace Go.Proofs.YteammdkipnfmnaaDoor.range
open Go Go.RowKit Go.Proofs.YteammdkipnfmnaaDoor.base Go.Proofs.YteammdkipnfmnaaDoor.pairs Go.Proofs.YteammdkipnfmnaaDoor.tree
set_option linter.unusedVariables false
set_option linter.unusedSimpArgs false

theorem ok_lim {l : List Pr} (h : pairsOk l = true) : ∀ p ∈ l, lim p := by
  intro p hp
  have h1 := ((pairsOk_iff l).1 h).1.1 p hp
  unfold pairOk keyOk at h1
  simp only [Bool.and_eq_true, decide_eq_true_eq] at h1
  exact ⟨by omega, by omega⟩

set_option maxRecDepth 100000 in
set_option maxHeartbeats 2000000 in
theorem spec_proveNo (b off cap : Nat) (l : List Pr) (lo hi : ByteArray) (w : World) (h : SlP w (some ⟨b, off, none⟩) l.length l) (hks : ∀ p ∈ l, p.1.size ≤ 1099511627776) (hok : pairsOk l = false) :
    Calls Tryd.prog 19 #[.slice (some ⟨b, off, none⟩) l.length cap, .string lo, .string hi] w fun e w' =>
      e = .returned (.agg #[.int .i64 0, .int .i64 0, .slice none 0 0]) ∧ Below w.heap.size w w' := by
  obtain ⟨w0, hw0⟩ : ∃ w0, w0 = w.alloc (.cells #[.int .i64 0, .int .i64 0, .slice none 0 0] 50) := ⟨_, rfl⟩
  have hba : Below w.heap.size w w0 := by rw [hw0]; exact (Below.refl _ _).alloc (Nat.le_refl _) _
  have hsz : w0.heap.size = w.heap.size + 1 := by rw [hw0]; simp
  have k0 : w0.cell? ⟨w.heap.size, 0, none⟩ = some (.int .i64 0) := by rw [hw0]; simp
  have k1 : w0.cell? ⟨w.heap.size, 1, none⟩ = some (.int .i64 0) := by rw [hw0]; simp
  have k2 : w0.cell? ⟨w.heap.size, 2, none⟩ = some (.slice none 0 0) := by rw [hw0]; simp
  have f0 : ∀ j, w0.frozen? ⟨w.heap.size, j, none⟩ = false := by intro j; rw [hw0]; simp
  have hP := spec_pairsOk b off l.length cap l w0 (h.below hba) hks
  rw [hok] at hP
  have HP := Hid.mk' hP
  clear hP hok
  go_enter Tryd.func19, Tryd.ntmps19
  go_wp2_with fail
  rw [← hw0]
  clear hw0
  refine HP.out.mono ?_
  rintro e w1 ⟨rfl, hb1⟩
  have hlt : w.heap.size < w0.heap.size := by omega
  have c0 := (hb1.cell (p := ⟨w.heap.size, 0, none⟩) hlt).trans k0
  have c1 := (hb1.cell (p := ⟨w.heap.size, 1, none⟩) hlt).trans k1
  have c2 := (hb1.cell (p := ⟨w.heap.size, 2, none⟩) hlt).trans k2
  have z0 := (hb1.frozen (p := ⟨w.heap.size, 0, none⟩) hlt).trans (f0 0)
  have z1 := (hb1.frozen (p := ⟨w.heap.size, 1, none⟩) hlt).trans (f0 1)
  have z2 := (hb1.frozen (p := ⟨w.heap.size, 2, none⟩) hlt).trans (f0 2)
  have hB1 := hba.trans (hb1.mono hba.size)
  clear k0 k1 k2 f0 hsz HP
  go_wp2_with fail
  have hBz := ((hB1.setCell (p := ⟨w.heap.size, 0, none⟩) (Nat.le_refl _) (.int .i64 0)).setCell (p := ⟨w.heap.size, 1, none⟩) (Nat.le_refl _) (.int .i64 0)).setCell (p := ⟨w.heap.size, 2, none⟩) (Nat.le_refl _) (.slice none 0 0)
  refine bodyPost_ret (v := .agg #[.int .i64 0, .int .i64 0, .slice none 0 0]) ?h1 rfl ⟨rfl, hBz⟩
  simp [results, Tryd.results19, go_sem, c0, c1, c2]

end Go.Proofs.YteammdkipnfmnaaDoor.range

namespace Go.Proofs.YteammdkipnfmnaaDoor.stepc
open Go Go.RowKit
theorem step_call_sl {P : Program} {ops : Array Oper} {o : Oper} {a : Act} {w : World} {K : Act → World → Prop} {Q : Exit → Act → World → Prop} {E : Prop} (hgd : o.guard = none) (f : FuncId) (x y : Operand) (ts : Array TypeId)
    (ho : o.op = .call { callee := .value (.func f), args := #[x, y], argTypes := ts }) (hent : ∀ args w, (callFunc f args).run P w = .ok (.enter f args) w)
    (v1 v2 : Value) (h1 : a.eval x = v1) (h2 : a.eval y = v2) (R : Nat → Nat → Nat → World → Prop)
    (hc : Calls P f #[v1, v2] w fun e w' => ∃ g n c, e = .returned (.slice (some ⟨g, 0, none⟩) n c) ∧ R g n c w')
    (h : ∀ g n c w', R g n c w' → K (a.put o.dst (.slice (some ⟨g, 0, none⟩) n c)) w') :
    if Region.wanted o (yielded ops a.tmps) = true then Oper.wp P o a w K Q else E := by
  have hw : Region.wanted o (yielded ops a.tmps) = true := by simp [Region.wanted, hgd]
  rw [if_pos hw]
  unfold Oper.wp execOp
  have hf : a.eval (.func f) = .func (.func f) #[] #[] := rfl
  have hof : (Deferred.ofValue (Value.func (Fn.func f) #[] #[]) #[v1, v2]).run P w = .ok { target := .fn (.func f) #[], args := #[v1, v2] } w := rfl
  simp only [ho, resolve, invoke, Sem.run_bind, List.map_toArray, List.map_cons, List.map_nil, h1, h2, hf, hof, Result.andThen_ok, hent]
  show Calls P f #[v1, v2] w _
  exact hc.mono (fun e w' he => by obtain ⟨g, n, c, rfl, hr⟩ := he; exact h g n c w' hr)
end Go.Proofs.YteammdkipnfmnaaDoor.stepc
