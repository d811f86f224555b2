/- A call as a step of a region that draws its order. No function of the program is named here. The specification's check of a bundle. The laws' helpers for seals: alike. The laws' own helpers on pairs: what each call does. The laws' marks on pairs, and pairs that are the same. -/
import Derived.WalkKit
import Derived.WalkSpells
import Derived.WalkLawsBesides
import Derived.Test.YteammdkipnfmnaaGreatDoorShaj
import Derived.Test.YteammdkipnfmnaaGreatDoorShaf
import Derived.Test.YteammdkipnfmnaaGreatDoorShak
import Derived.Test.YteammdkipnfmnaaGreatDoorShag
import Derived.Test.YteammdkipnfmnaaGreatDoorShae
namespace Go.Proofs.YteammdkipnfmnaaGreatDoor.stepg
open Go Go.RowKit
theorem call4 {P : Program} {ops : Array Oper} {o : Oper} {a : Act} {w : World} {K : Act → World → Prop} {Q : Exit → Act → World → Prop} {E : Prop} (hgd : o.guard = none) (f : FuncId) (x0 x1 x2 x3 : Operand) (ts : Array TypeId)
    (ho : o.op = .call { callee := .value (.func f), args := #[x0, x1, x2, x3], argTypes := ts }) (hent : ∀ args w, (callFunc f args).run P w = .ok (.enter f args) w)
    (v0 v1 v2 v3 : Value) (h0 : a.eval x0 = v0) (h1 : a.eval x1 = v1) (h2 : a.eval x2 = v2) (h3 : a.eval x3 = v3) (R : Ending → World → Prop) (hc : Calls P f #[v0, v1, v2, v3] w R)
    (h : ∀ e w', R e w' → ∃ v, e = .returned v ∧ K (a.put o.dst v) w') :
    if Region.wanted o (yielded ops a.tmps) = true then Oper.wp P o a w K Q else E := by
  have hw : Region.wanted o (yielded ops a.tmps) = true := by simp [Region.wanted, hgd]
  rw [if_pos hw]
  unfold Oper.wp execOp
  have hf : a.eval (.func f) = .func (.func f) #[] #[] := rfl
  have hof : (Deferred.ofValue (Value.func (Fn.func f) #[] #[]) #[v0, v1, v2, v3]).run P w = .ok { target := .fn (.func f) #[], args := #[v0, v1, v2, v3] } w := rfl
  simp only [ho, resolve, invoke, Sem.run_bind, List.map_toArray, List.map_cons, List.map_nil, h0, h1, h2, h3, hf, hof, Result.andThen_ok, hent]
  show Calls P f #[v0, v1, v2, v3] w _
  exact hc.mono (fun e w' he => by obtain ⟨v, rfl, hr⟩ := h e w' he; exact hr)
end Go.Proofs.YteammdkipnfmnaaGreatDoor.stepg

namespace Go.Proofs.YteammdkipnfmnaaGreatDoor.bun
open Go Go.RowKit Go.Proofs.YteammdkipnfmnaaGreatDoor.base Go.Proofs.YteammdkipnfmnaaGreatDoor.pairs Go.Proofs.YteammdkipnfmnaaGreatDoor.lay Go.Proofs.YteammdkipnfmnaaGreatDoor.range Go.Proofs.YteammdkipnfmnaaGreatDoor.seals
set_option linter.unusedVariables false
set_option linter.unusedSimpArgs false

set_option maxRecDepth 100000 in
set_option maxHeartbeats 16000000 in
theorem spec_checkBundle (super lo hi : ByteArray) (ra : Option Addr) (rn rc : Nat) (pa : Option Addr) (pn pc : Nat) (x : Bun) (w : World) (hno : (Lit.int .i64 x.1).wf = true) (hp : x.2.1.size ≤ 1048576) (hR : SlS w ra rn x.2.2.1) (hrs : x.2.2.1.length + puttexts.sum x.2.2.1 ≤ 1048576) (hP : PJ w pa pn x.2.2.2) (hps : ∀ f ∈ x.2.2.2, f.2.2.length ≤ 1048576) :
    Calls Tryz.prog 8 #[.string super, .string lo, .string hi, .agg #[.int .i64 x.1, .string x.2.1, .slice ra rn rc, .slice pa pn pc]] w (CPost w (checkB super lo hi x)) := by
  obtain ⟨no, pv, rs, ps⟩ := x
  simp only [] at *
  obtain rfl : rs.length = rn := hR.1
  obtain rfl : ps.length = pn := hP.1
  have hplm := hP.2.1
  unfold maxLen at hplm
  obtain ⟨W1, hW1⟩ : ∃ W, w.alloc (.cells #[.int .i64 no, .string pv, .slice ra rs.length rc, .slice pa ps.length pc] 27) = W := ⟨_, rfl⟩
  have hb1 : Below w.heap.size w W1 := by rw [← hW1]; exact below_make
  have hX1 : BoxIn w.heap.size 27 [] [.int .i64 no, .string pv, .slice ra rs.length rc, .slice pa ps.length pc] [] W1 := by rw [← hW1]; exact boxIn_new w _ _
  have hs1 : W1.heap.size = w.heap.size + 1 := by rw [← hW1]; simp
  obtain ⟨W, hW⟩ : ∃ W, W1.alloc (.cells #[] 34) = W := ⟨_, rfl⟩
  have hb2 : Below W1.heap.size W1 W := by rw [← hW]; exact below_make
  have hON : OwnP W w.heap.size (w.heap.size + 1) 0 0 [] := by
    rw [← hW, ← hs1]
    exact ownP_made W1 w.heap.size (by omega)
  have hB := hb1.trans (hb2.mono hb1.size)
  have hX := hX1.below hb2
  have HWW : Hid ((w.alloc (.cells #[.int .i64 no, .string pv, .slice ra rs.length rc, .slice pa ps.length pc] 27)).alloc (.cells #[] 34) = W) := by show _ = _; rw [hW1, hW]
  have HSU := Hid.mk' (spec_superOf no pv ra rs.length rc rs W (hR.below hB) hno hp hrs)
  have HIN := Hid.mk' (fun wx => seals.s_in (rs.length : Int) 1 8 wx)
  have hN8 : Hid (decide (1 ≤ (rs.length : Int) ∧ (rs.length : Int) ≤ 8) = true → rs.length ≤ 8) := fun e => by have := of_decide_eq_true e; omega
  have HR : Hid (checkB super lo hi (no, pv, rs, ps) = if superOf no pv rs = super ∧ (1 ≤ rs.length ∧ rs.length ≤ 8) ∧ ps.length = rs.length then sumB rs.length lo hi rs ps rs.length else none) := rfl
  have HDI : Hid (decide (1 ≤ (rs.length : Int) ∧ (rs.length : Int) ≤ 8) = decide (1 ≤ rs.length ∧ rs.length ≤ 8)) := decide_eq_decide.2 ⟨fun e => ⟨by omega, by omega⟩, fun e => ⟨by omega, by omega⟩⟩
  obtain ⟨x0, x1, x2, x3⟩ := box4 hX
  rw [← HWW.out] at x0 x1 x2 x3
  have hrlm := hR.2.1
  unfold maxLen at hrlm
  generalize checkB super lo hi (no, pv, rs, ps) = CB at *
  generalize superOf no pv rs = so at *
  have HPS := Hid.mk' hps
  clear hb1 hb2 hX1 hs1 hW1 hW hps
  go_enter Tryz.func8, Tryz.ntmps8
  go_wp2_with fail
  rw [HWW.out]
  refine HSU.out.mono ?_
  rintro e w1 ⟨rfl, hb1⟩
  have hB1 := hB.trans (hb1.mono hB.size)
  have hX1 := hX.below hb1
  have hO1 := hON.below hb1
  clear x0 x1 x2 x3 HSU HWW
  obtain ⟨x0, x1, x2, x3⟩ := box4 hX1
  by_cases e1 : so = super
  rotate_left
  · have hq := seals.str_ne e1
    have HF : Hid (CB = none) := by show _ = _; rw [HR.out, if_neg (fun h => e1 h.1)]
    clear HR e1
    go_wp2_with fail
    go_ret2
    rw [HF.out]
    exact ⟨hB1, _, _, _, rfl, hO1⟩
  subst e1
  have hq := seals.str_same so
  have HI1 := Hid.mk' (HIN.out w1)
  rw [HDI.out] at HI1 hN8
  clear HIN HDI
  go_wp2_with fail
  refine HI1.out.mono ?_
  rintro e w1' ⟨rfl, hw1⟩
  replace hw1 := hw1.symm
  subst hw1
  by_cases e2 : 1 ≤ rs.length ∧ rs.length ≤ 8
  rotate_left
  · have HF : Hid (CB = none) := by show _ = _; rw [HR.out, if_neg (fun h => e2 h.2.1)]
    rw [decide_eq_false e2]
    clear HR e2 hN8 HI1
    go_wp2_with fail
    go_ret2
    rw [HF.out]
    exact ⟨hB1, _, _, _, rfl, hO1⟩
  rw [decide_eq_true e2]
  clear hN8 HI1
  by_cases e3 : ps.length = rs.length
  rotate_left
  · have HF : Hid (CB = none) := by show _ = _; rw [HR.out, if_neg (fun h => e3 h.2.2)]
    have hd : ((ps.length : Int) != (rs.length : Int)) = true := by simp; omega
    clear HR e3
    go_wp2_with fail
    go_ret2
    rw [HF.out]
    exact ⟨hB1, _, _, _, rfl, hO1⟩
  have hd : ((ps.length : Int) != (rs.length : Int)) = false := by simp; omega
  have HR2 : Hid (CB = sumB rs.length lo hi rs ps rs.length) := by show _ = _; rw [HR.out, if_pos ⟨by first | rfl | trivial, e2, e3⟩]
  clear HR
  obtain ⟨W2, hW2⟩ : ∃ W, w1.alloc (.cells #[] 34) = W := ⟨_, rfl⟩
  have hb2 : Below w1.heap.size w1 W2 := by rw [← hW2]; exact below_make
  have hO2 : OwnP W2 w.heap.size w1.heap.size 0 0 [] := by
    rw [← hW2]
    exact ownP_made w1 w.heap.size hB1.size
  have hB2 := hB1.trans (hb2.mono hB1.size)
  have hX2 := hX1.below hb2
  have HNO := Hid.mk' (hO1.below hb2)
  have HW2 := Hid.mk' hW2
  have hON2 := hO1.below hb2
  clear hW2 hb2
  obtain ⟨b0, b1, b2, b3⟩ := box4 hX2
  go_wp2_with fail
  rw [HW2.out]
  clear x0 x1 x2 x3 b0 b1 b2 b3 HNO hX hX1 hO1 hON hq hd
  go_loopw [12, 13] (fun ov iv wr => ∃ (k g m c : Nat) (o : List Pr), ov = .slice (some ⟨g, 0, none⟩) m c ∧ iv = .int .i64 (k : Int) ∧ k ≤ rs.length ∧ sumB rs.length lo hi rs ps k = some o ∧ o.length ≤ k * 1048576 ∧ OwnP wr w.heap.size g m c o ∧ Below W2.heap.size W2 wr) (fun _ iv _ => rs.length - (intOf iv).toNat)
  case atStart => exact ⟨0, w1.heap.size, 0, 0, [], rfl, rfl, Nat.zero_le _, rfl, Nat.zero_le _, hO2, Below.refl _ _⟩
  case round =>
    clear hO2
    obtain ⟨k, g, m, c, o, rfl, rfl, hk, hsum, hol, hO, hb⟩ := hrel
    have hBw := hB2.trans (hb.mono hB2.size)
    by_cases hlt : k < rs.length
    · have hki : (k : Int) < (rs.length : Int) := by omega
      have hkp : k < ps.length := by omega
      have hki2 : (k : Int) < (ps.length : Int) := by omega
      obtain ⟨rb, ro, hra, hrc⟩ := (hR.below hBw).2.2.2 (by omega)
      subst hra
      obtain ⟨pb, po, hpa, hpc⟩ := (hP.below hBw).2.2 (by omega)
      subst hpa
      have r0 := hrc k hlt
      obtain ⟨ia, ic, c0, c1, c2, hJ, hw1, hw2⟩ := hpc k hkp
      have hrl := World.block_lt_of_cell? _ _ r0
      have hpl := World.block_lt_of_cell? _ _ c0
      obtain ⟨x0, x1, x2, x3⟩ := box4 (hX2.below hb)
      have hXl := World.block_lt_of_cell? _ _ x2
      have HPA := Hid.mk' (partB_at (n := rs.length) (lo := lo) (hi := hi) hlt hkp)
      have hpk := HPS.out ps[k] (List.getElem_mem hkp)
      have HCK := Hid.mk' (fun wx (hx : Below wr.heap.size wr wx) => spec_checkBetween rs[k] lo hi ps[k].1 ps[k].2.1 ia ps[k].2.2.length ic ps[k].2.2 wx (hJ.below hx) hw1 hw2)
      have HLN : Hid (∀ l, check rs[k] lo hi ⟨ps[k].1, ps[k].2.1, ps[k].2.2⟩ = some l → l.length ≤ 1048576) := fun l hl => Nat.le_trans (check_len hl) hpk
      have HSN := Hid.mk' (fun (e : partB rs.length lo hi rs ps k = none) => sumB_none e rs.length hlt)
      have HSS := Hid.mk' (fun (l : List Pr) (e : partB rs.length lo hi rs ps k = some l) => sumB_succ hsum e)
      have HO := Hid.mk' hO
      have HON := Hid.mk' (hON2.below hb)
      generalize check rs[k] lo hi ⟨ps[k].1, ps[k].2.1, ps[k].2.2⟩ = ck at *
      generalize partB rs.length lo hi rs ps k = pk at *
      generalize ps[k].2.2.length = il at *
      generalize rs[k] = rt at *
      generalize ps[k] = f at *
      obtain ⟨fn, ff, its⟩ := f
      simp only [] at *
      clear hrc hpc hJ hpk hO hsum hw1 hw2
      go_wp2_with fail
      have hdW : Below wr.heap.size wr wr.drew := (Below.refl _ _).drew
      have hBD := hb.trans (hdW.mono hb.size)
      refine last.wp_region_later (S := fun w' => Below wr.heap.size wr w') 17 (by kernel_rfl) hdW (fun hHeld0 => ?_)
      have HCB := Hid.mk' (HCK.out wr.drew hdW)
      generalize hD : wr.drew = D at *
      clear hD
      refine last.wpAnyL_take (i := 0) (v := (.pointer (some ⟨w.heap.size, 2, none⟩))) rfl rfl (by kernel_rfl) (by kernel_rfl) (by kernel_rfl) (by kernel_rfl) (fun _ _ _ h => h) (Or.inl ⟨by rfl, ?_⟩) (by assumption) ?_
      · intro wq hSq; go_simp
      try simp only [Act.put, List.setIfInBounds_toArray, List.set_cons_zero, List.set_cons_succ]
      refine last.wpAnyL_take (i := 1) (v := (.slice (some ⟨rb, ro, none⟩) rs.length rc)) rfl rfl (by kernel_rfl) (by kernel_rfl) (by kernel_rfl) (by kernel_rfl) (fun _ _ _ h => h) (Or.inl ⟨by rfl, ?_⟩) (by assumption) ?_
      · intro wq hSq; have q := (hSq.cell (p := ⟨w.heap.size, 2, none⟩) hXl).trans x2; go_simp
      try simp only [Act.put, List.setIfInBounds_toArray, List.set_cons_zero, List.set_cons_succ]
      refine last.wpAnyL_take (i := 2) (v := (.int .i64 (k : Int))) rfl rfl (by kernel_rfl) (by kernel_rfl) (by kernel_rfl) (by kernel_rfl) (fun _ _ _ h => h) (Or.inl ⟨by rfl, ?_⟩) (by assumption) ?_
      · intro wq hSq; go_simp
      try simp only [Act.put, List.setIfInBounds_toArray, List.set_cons_zero, List.set_cons_succ]
      refine last.wpAnyL_take (i := 3) (v := (.pointer (some ⟨rb, ro + k, none⟩))) rfl rfl (by kernel_rfl) (by kernel_rfl) (by kernel_rfl) (by kernel_rfl) (fun _ _ _ h => h) (Or.inl ⟨by rfl, ?_⟩) (by assumption) ?_
      · intro wq hSq; go_simp
      try simp only [Act.put, List.setIfInBounds_toArray, List.set_cons_zero, List.set_cons_succ]
      refine last.wpAnyL_take (i := 4) (v := (.string rt)) rfl rfl (by kernel_rfl) (by kernel_rfl) (by kernel_rfl) (by kernel_rfl) (fun _ _ _ h => h) (Or.inl ⟨by rfl, ?_⟩) (by assumption) ?_
      · intro wq hSq; have q := (hSq.cell (p := ⟨rb, ro + k, none⟩) hrl).trans r0; go_simp
      try simp only [Act.put, List.setIfInBounds_toArray, List.set_cons_zero, List.set_cons_succ]
      refine last.wpAnyL_take (i := 5) (v := (.string lo)) rfl rfl (by kernel_rfl) (by kernel_rfl) (by kernel_rfl) (by kernel_rfl) (fun _ _ _ h => h) (Or.inl ⟨by rfl, ?_⟩) (by assumption) ?_
      · intro wq hSq; go_simp
      try simp only [Act.put, List.setIfInBounds_toArray, List.set_cons_zero, List.set_cons_succ]
      refine last.wpAnyL_take (i := 6) (v := (.string hi)) rfl rfl (by kernel_rfl) (by kernel_rfl) (by kernel_rfl) (by kernel_rfl) (fun _ _ _ h => h) (Or.inl ⟨by rfl, ?_⟩) (by assumption) ?_
      · intro wq hSq; go_simp
      try simp only [Act.put, List.setIfInBounds_toArray, List.set_cons_zero, List.set_cons_succ]
      refine last.wpAnyL_take (i := 7) (v := (.pointer (some ⟨w.heap.size, 3, none⟩))) rfl rfl (by kernel_rfl) (by kernel_rfl) (by kernel_rfl) (by kernel_rfl) (fun _ _ _ h => h) (Or.inl ⟨by rfl, ?_⟩) (by assumption) ?_
      · intro wq hSq; go_simp
      try simp only [Act.put, List.setIfInBounds_toArray, List.set_cons_zero, List.set_cons_succ]
      refine last.wpAnyL_take (i := 8) (v := (.slice (some ⟨pb, po, none⟩) ps.length pc)) rfl rfl (by kernel_rfl) (by kernel_rfl) (by kernel_rfl) (by kernel_rfl) (fun _ _ _ h => h) (Or.inl ⟨by rfl, ?_⟩) (by assumption) ?_
      · intro wq hSq; have q := (hSq.cell (p := ⟨w.heap.size, 3, none⟩) hXl).trans x3; go_simp
      try simp only [Act.put, List.setIfInBounds_toArray, List.set_cons_zero, List.set_cons_succ]
      refine last.wpAnyL_take (i := 9) (v := (.int .i64 (k : Int))) rfl rfl (by kernel_rfl) (by kernel_rfl) (by kernel_rfl) (by kernel_rfl) (fun _ _ _ h => h) (Or.inl ⟨by rfl, ?_⟩) (by assumption) ?_
      · intro wq hSq; go_simp
      try simp only [Act.put, List.setIfInBounds_toArray, List.set_cons_zero, List.set_cons_succ]
      refine last.wpAnyL_take (i := 10) (v := (.pointer (some ⟨pb, po + k * 3, none⟩))) rfl rfl (by kernel_rfl) (by kernel_rfl) (by kernel_rfl) (by kernel_rfl) (fun _ _ _ h => h) (Or.inl ⟨by rfl, ?_⟩) (by assumption) ?_
      · intro wq hSq; go_simp
      try simp only [Act.put, List.setIfInBounds_toArray, List.set_cons_zero, List.set_cons_succ]
      refine last.wpAnyL_take (i := 11) (v := (.agg #[.int .i64 fn, .int .i64 ff, .slice ia il ic])) rfl rfl (by kernel_rfl) (by kernel_rfl) (by kernel_rfl) (by kernel_rfl) (fun _ _ _ h => h) (Or.inl ⟨by rfl, ?_⟩) (by assumption) ?_
      · intro wq hSq; have q0 := (hSq.cell (p := ⟨pb, po + k * 3, none⟩) hpl).trans c0; have q1 := (hSq.cell (p := ⟨pb, po + k * 3 + 1, none⟩) hpl).trans c1; have q2 := (hSq.cell (p := ⟨pb, po + k * 3 + 2, none⟩) hpl).trans c2; go_simp
      try simp only [Act.put, List.setIfInBounds_toArray, List.set_cons_zero, List.set_cons_succ]
      refine last.wpAnyL_one (i := 12) (o := { dst := some 62, op := Op.call { callee := Callee.value (Operand.func 31), args := #[Operand.tmp 54, Operand.tmp 55, Operand.tmp 56, Operand.tmp 61], argTypes := #[9, 9, 9, 64] }, type := 31, pos := "l16_bundle.go:24", after := #[{ on := 4, ground := Ground.data }, { on := 5, ground := Ground.data }, { on := 6, ground := Ground.data }, { on := 11, ground := Ground.data }], guard := none }) (by kernel_rfl) rfl (fun K hK => ?_)
      refine stepg.call4 rfl 31 (.tmp 54) (.tmp 55) (.tmp 56) (.tmp 61) _ rfl (fun _ _ => rfl) (.string rt) (.string lo) (.string hi) (.agg #[.int .i64 fn, .int .i64 ff, .slice ia il ic]) (by kernel_rfl) (by kernel_rfl) (by kernel_rfl) (by kernel_rfl) _ HCB.out ?_
      rintro e w5 ⟨hb5, g5, n5, c5, rfl, hO5⟩
      refine ⟨_, rfl, ?_⟩
      have hB5 : Below wr.heap.size wr w5 := hdW.trans (hb5.mono hdW.size)
      refine hK.out _ _ ?_ (fun hHeld => ?_)
      · exact hB5
      clear hK K hHeld0
      have hHeld0 := hHeld
      clear hHeld
      try simp only [Act.put, List.setIfInBounds_toArray, List.set_cons_zero, List.set_cons_succ]
      refine last.wpAnyL_take (i := 13) (v := (.tuple #[.slice (some ⟨g5, 0, none⟩) n5 c5, .bool ck.isSome])) rfl rfl (by kernel_rfl) (by kernel_rfl) (by kernel_rfl) (by kernel_rfl) (fun _ _ _ h => h) (Or.inl ⟨by rfl, ?_⟩) (by assumption) ?_
      · intro wq hSq; go_simp
      try simp only [Act.put, List.setIfInBounds_toArray, List.set_cons_zero, List.set_cons_succ]
      refine last.wpAnyL_take (i := 14) (v := (.slice (some ⟨g5, 0, none⟩) n5 c5)) rfl rfl (by kernel_rfl) (by kernel_rfl) (by kernel_rfl) (by kernel_rfl) (fun _ _ _ h => h) (Or.inl ⟨by rfl, ?_⟩) (by assumption) ?_
      · intro wq hSq; go_simp
      try simp only [Act.put, List.setIfInBounds_toArray, List.set_cons_zero, List.set_cons_succ]
      refine last.wpAnyL_take (i := 15) (v := (.bool ck.isSome)) rfl rfl (by kernel_rfl) (by kernel_rfl) (by kernel_rfl) (by kernel_rfl) (fun _ _ _ h => h) (Or.inl ⟨by rfl, ?_⟩) (by assumption) ?_
      · intro wq hSq; go_simp
      try simp only [Act.put, List.setIfInBounds_toArray, List.set_cons_zero, List.set_cons_succ]
      refine last.wpAnyL_take (i := 16) (v := (.slice (some ⟨g5, 0, none⟩) n5 c5)) rfl rfl (by kernel_rfl) (by kernel_rfl) (by kernel_rfl) (by kernel_rfl) (fun _ _ _ h => h) (Or.inl ⟨by rfl, ?_⟩) (by assumption) ?_
      · intro wq hSq; go_simp
      try simp only [Act.put, List.setIfInBounds_toArray, List.set_cons_zero, List.set_cons_succ]
      refine last.wpAnyL_last (o := { dst := some 15, op := Op.assign (Operand.tmp 64), type := 4, pos := "l16_bundle.go:24", after := #[{ on := 15, ground := Ground.data }, { on := 16, ground := Ground.chain }, { on := 0, ground := Ground.phase }, { on := 1, ground := Ground.phase }, { on := 2, ground := Ground.phase }, { on := 3, ground := Ground.phase }, { on := 4, ground := Ground.phase }, { on := 5, ground := Ground.phase }, { on := 6, ground := Ground.phase }, { on := 7, ground := Ground.phase }, { on := 8, ground := Ground.phase }, { on := 9, ground := Ground.phase }, { on := 10, ground := Ground.phase }, { on := 11, ground := Ground.phase }, { on := 12, ground := Ground.phase }, { on := 13, ground := Ground.phase }, { on := 14, ground := Ground.phase }, { on := 15, ground := Ground.phase }, { on := 16, ground := Ground.phase }], guard := none }) (by kernel_rfl) rfl (by kernel_rfl) (fun K hK => ?_)
      go_simp
      refine hK.out _ _ ?_
      clear hK K
      have HN5 := Hid.mk' (HON.out.below hB5)
      have HO6 := Hid.mk' (HO.out.below hB5)
      have hB6 := hBw.trans (hB5.mono hBw.size)
      have hb6 := hb.trans (hB5.mono hb.size)
      clear HON HO HCK HCB hb5
      cases ck with
      | none =>
        have HF : Hid (CB = none) := by show _ = _; rw [HR2.out]; exact HSN.out (by rw [HPA.out])
        simp only [Option.isSome_none] at *
        go_wp2_with fail
        go_ret2
        rw [HF.out]
        exact ⟨hB6, _, _, _, rfl, HN5.out⟩
      | some l =>
        have hll := HLN.out l rfl
        simp only [Option.isSome_some, Option.getD_some] at *
        have hnl : n5 = l.length := hO5.1.symm
        subst hnl
        have hOs := hO5.sl
        have HOs := Hid.mk' hOs
        have HO5 := Hid.mk' hO5
        clear hO5
        go_wp2_with fail
        go_loopw [16] (fun jv wj => ∃ j : Nat, j ≤ l.length ∧ jv = .int .i64 (j : Int) ∧ (∀ t (ht : t < j) (hl : t < l.length), ords.shardOf l[t].1 (rs.length : Int) = (k : Int)) ∧ w5 = wj) (fun jv _ => l.length - (intOf jv).toNat)
        case atStart => exact ⟨0, Nat.zero_le _, rfl, fun t ht => absurd ht (Nat.not_lt_zero _), rfl⟩
        case round =>
          obtain ⟨j, hj, rfl, hall, hwj⟩ := hrel
          subst hwj
          have HAL := Hid.mk' hall
          clear hall
          by_cases hjl : j < l.length
          · have hji : (j : Int) < (l.length : Int) := by omega
            obtain ⟨d0, d1⟩ := SlP.cells HOs.out j hjl
            simp only [Nat.zero_add] at d0 d1
            have hks := (HOs.out.2.2.1 l[j] (List.getElem_mem hjl)).1
            have HSH := Hid.mk' (ords.spec_shardOf l[j].1 (rs.length : Int) w5 hks (WalkArith.wf_i64 (by omega)))
            by_cases he : ords.shardOf l[j].1 (rs.length : Int) = (k : Int)
            · have hne : (ords.shardOf l[j].1 (rs.length : Int) != (k : Int)) = false := by simp [he]
              have HA2 : Hid (∀ t (ht : t < j + 1) (hl : t < l.length), ords.shardOf l[t].1 (rs.length : Int) = (k : Int)) := fun t ht hl => by
                by_cases e : t = j
                · subst e; exact he
                · exact HAL.out t (by omega) hl
              clear he hks
              generalize ords.shardOf l[j].1 (rs.length : Int) = sh at *
              generalize l[j] = p at *
              go_wp2_with fail
              refine HSH.out.mono ?_
              rintro e w6 ⟨rfl, hw6⟩
              replace hw6 := hw6.symm
              subst hw6
              go_wp2_with fail
              go_roundw
              case rel => exact ⟨j + 1, by omega, by go_num, HA2.out, by first | rfl | trivial⟩
              case measure => simp [intOf]; omega
            · have hne : (ords.shardOf l[j].1 (rs.length : Int) != (k : Int)) = true := by simp [he]
              have HF : Hid (CB = none) := by
                show _ = _
                rw [HR2.out]
                refine HSN.out ?_
                rw [HPA.out]
                have : l.all (fun p => decide (ords.shardOf p.1 (rs.length : Int) = (k : Int))) = false := by
                  rw [List.all_eq_false]
                  exact ⟨l[j], List.getElem_mem hjl, by simp [he]⟩
                simp only [this, Bool.false_eq_true, if_false]
              clear he hks
              generalize ords.shardOf l[j].1 (rs.length : Int) = sh at *
              generalize l[j] = p at *
              go_wp2_with fail
              refine HSH.out.mono ?_
              rintro e w6 ⟨rfl, hw6⟩
              replace hw6 := hw6.symm
              subst hw6
              go_wp2_with fail
              go_ret2
              rw [HF.out]
              exact ⟨hB6, _, _, _, rfl, HN5.out⟩
          · have hji : ¬ (j : Int) < (l.length : Int) := by omega
            have HPK : Hid (pk = some l) := by
              show _ = _
              rw [HPA.out]
              have : l.all (fun p => decide (ords.shardOf p.1 (rs.length : Int) = (k : Int))) = true := by
                rw [List.all_eq_true]
                intro p hp
                obtain ⟨t, ht, rfl⟩ := List.getElem_of_mem hp
                exact decide_eq_true (HAL.out t (by omega) ht)
              simp only [this, if_true]
            have HS7 := Hid.mk' (HSS.out l HPK.out)
            have hul := union_len o l
            have hom : m = o.length := HO6.out.1.symm
            have HUN := Hid.mk' (spec_unionOf g 0 m c o g5 0 l.length c5 l w5 HO6.out.sl HOs.out (by omega))
            have HUL : Hid ((unionOf o l).length ≤ (k + 1) * 1048576) := by show _ ≤ _; rw [Nat.add_mul]; omega
            generalize unionOf o l = u at *
            clear hul hom
            go_wp2_with fail
            refine HUN.out.mono ?_
            rintro e w6 ⟨g6, m6, c6, rfl, hO7, hb7⟩
            have hb8 := hb6.trans (hb7.mono hb6.size)
            have HO7 := Hid.mk' (hO7.mono hB6.size)
            clear hO7
            go_wp2_with fail
            go_roundw
            case rel => exact ⟨k + 1, g6, m6, c6, u, rfl, by go_num, by omega, HS7.out, HUL.out, HO7.out, hb8⟩
            case measure => simp [intOf]; omega
    · have hki : ¬ (k : Int) < (rs.length : Int) := by omega
      have hke : k = rs.length := by omega
      have HF : Hid (CB = some o) := by show _ = _; rw [HR2.out]; rw [hke] at hsum; exact hsum
      clear hke hsum
      go_wp2_with fail
      go_ret2
      rw [HF.out]
      exact ⟨hBw, _, _, _, rfl, hO⟩
end Go.Proofs.YteammdkipnfmnaaGreatDoor.bun

namespace Go.Proofs.YteammdkipnfmnaaGreatDoor.seals
open Go Go.RowKit Go.Proofs.YteammdkipnfmnaaGreatDoor.base Go.Proofs.YteammdkipnfmnaaGreatDoor.pairs Go.Proofs.YteammdkipnfmnaaGreatDoor.lay
set_option linter.unusedVariables false
set_option linter.unusedSimpArgs false

theorem slg_some {α : Type} {R : Rd α} {w : World} {a : Option Addr} {len : Nat} {l : List α} (h : SlG R w a len l) (h0 : 0 < len) : ∃ b off, a = some ⟨b, off, none⟩ := by
  obtain ⟨b, off, e, _⟩ := h.2.2.2 h0
  exact ⟨b, off, e⟩
theorem below_two (w : World) (o o2 : Obj) : Below w.heap.size w ((w.alloc o).alloc o2) := ((Below.refl _ _).alloc (Nat.le_refl _) _).alloc (by simp) _
end Go.Proofs.YteammdkipnfmnaaGreatDoor.seals

namespace Go.Proofs.YteammdkipnfmnaaGreatDoor.pairs
open Go Go.RowKit Go.Proofs.YteammdkipnfmnaaGreatDoor.base Go.Proofs.YteammdkipnfmnaaGreatDoor.helps
set_option linter.unusedVariables false
set_option linter.unusedSimpArgs false

set_option maxHeartbeats 400000 in
theorem toPair (k v : ByteArray) (w : World) :
    Calls Tryz.prog 146 #[.agg #[.string k, .string v]] w fun e w' => e = .returned (.agg #[.string k, .string v]) ∧ Below w.heap.size w w' := by
  go_enter Tryz.func146, Tryz.ntmps146
  have hB : Below w.heap.size w (((w.alloc (.cells #[.string k, .string v] 166)).alloc (.cells #[.string k, .string v] 34)).alloc (.cells #[.string k, .string v] 34)) :=
    (((Below.refl _ _).alloc (Nat.le_refl _) _).alloc (by simp) _).alloc (by simp; omega) _
  go_wp2
  refine bodyPost_ret (v := .agg #[.string k, .string v]) ?h1 rfl ⟨rfl, hB⟩
  simp [results, Tryz.results146, go_sem]

def szR (L t : Nat) : Int := if t ≤ L then (L : Int) - (t : Int) else -1
theorem szR_neg {L t : Nat} (h : L < t) : szR L t = -1 := by unfold szR; rw [if_neg (by omega)]
theorem szR_pos {L t : Nat} (h : t ≤ L) : szR L t = (L : Int) - (t : Int) := by unfold szR; rw [if_pos h]
def psz (p : Pr) : Nat := p.1.size + p.2.size
set_option maxHeartbeats 400000 in
theorem szPair (p : Pr) (L : Nat) (w : World) (hp : small p) (hL : L ≤ 1099511627776) :
    Calls Tryz.prog 145 #[.agg #[.string p.1, .string p.2], .int .i64 (L : Int)] w fun e w' => e = .returned (.int .i64 (szR L (psz p))) ∧ Below w.heap.size w w' := by
  have h1 := hp.1
  have h2 := hp.2
  unfold maxLen at h1 h2
  have hB : Below w.heap.size w (w.alloc (.cells #[.string p.1, .string p.2] 166)) := (Below.refl _ _).alloc (Nat.le_refl _) _
  by_cases a1 : L < p.1.size
  · have a2 : (L : Int) - (p.1.size : Int) < 0 := by omega
    have HZ : Hid (szR L (psz p) = -1) := szR_neg (by unfold psz; omega)
    go_enter Tryz.func145, Tryz.ntmps145
    go_wp2
    go_ret
    exact ⟨ret_int HZ.out.symm, hB⟩
  · have a2 : ¬ (L : Int) - (p.1.size : Int) < 0 := by omega
    by_cases a3 : L < p.1.size + p.2.size
    · have a4 : (L : Int) - (p.1.size : Int) - (p.2.size : Int) < 0 := by omega
      have HZ : Hid (szR L (psz p) = -1) := szR_neg (by unfold psz; omega)
      go_enter Tryz.func145, Tryz.ntmps145
      go_wp2
      go_ret
      exact ⟨ret_int HZ.out.symm, hB⟩
    · have a4 : ¬ (L : Int) - (p.1.size : Int) - (p.2.size : Int) < 0 := by omega
      have HZ : Hid (szR L (psz p) = (L : Int) - (p.1.size : Int) - (p.2.size : Int)) := by show _ = _; rw [szR_pos (by unfold psz; omega)]; unfold psz; omega
      go_enter Tryz.func145, Tryz.ntmps145
      go_wp2
      go_ret
      exact ⟨ret_int HZ.out.symm, hB⟩

set_option maxHeartbeats 400000 in
theorem eqPair (p q : Pr) (w : World) :
    Calls Tryz.prog 42 #[.agg #[.string p.1, .string p.2], .agg #[.string q.1, .string q.2]] w fun e w' => e = .returned (.bool (decide (p = q))) ∧ Below w.heap.size w w' := by
  have hB : Below w.heap.size w ((w.alloc (.cells #[.string p.1, .string p.2] 34)).alloc (.cells #[.string q.1, .string q.2] 34)) := ((Below.refl _ _).alloc (Nat.le_refl _) _).alloc (by simp) _
  obtain ⟨p1, p2⟩ := p
  obtain ⟨q1, q2⟩ := q
  by_cases e1 : p1 = q1
  · subst e1
    by_cases e2 : p2 = q2
    · subst e2
      go_enter Tryz.func42, Tryz.ntmps42
      go_wp2
      go_ret
      exact ⟨ret_bool (by simp), hB⟩
    · have hq := str_ne e2
      have HE := Hid.mk' e2
      clear e2
      go_enter Tryz.func42, Tryz.ntmps42
      go_wp2
      go_ret
      exact ⟨ret_bool (by have := HE.out; simp [this]), hB⟩
  · have hq := str_ne e1
    have HE := Hid.mk' e1
    clear e1
    go_enter Tryz.func42, Tryz.ntmps42
    go_wp2
    go_ret
    exact ⟨ret_bool (by have := HE.out; simp [this]), hB⟩

theorem take_eqP {l l2 : List Pr} {k : Nat} (h : l.take k = l2.take k) (h1 : k < l.length) (h2 : k < l2.length) (e : l[k] = l2[k]) : l.take (k + 1) = l2.take (k + 1) := by
  rw [take_snocP l k h1, take_snocP l2 k h2, h, e]
set_option maxRecDepth 100000 in
set_option maxHeartbeats 1000000 in
theorem eqPairS (a a2 : Option Addr) (len cap len2 cap2 : Nat) (l l2 : List Pr) (w : World) (h : SlP w a len l) (h2 : SlP w a2 len2 l2) :
    Calls Tryz.prog 12 #[.slice a len cap, .slice a2 len2 cap2] w fun e w' => e = .returned (.bool (decide (l = l2))) ∧ Below w.heap.size w w' := by
  obtain ⟨hl, hm, _, hc⟩ := h
  obtain ⟨hl2, hm2, _, hc2⟩ := h2
  subst hl hl2
  unfold maxLen at hm hm2
  by_cases hne : l.length = l2.length
  · have hb : ((l.length : Int) == (l2.length : Int)) = true := by simp; omega
    go_enter Tryz.func12, Tryz.ntmps12
    go_wp2_with fail
    go_loopw [5] (fun i wr => ∃ k : Nat, k ≤ l.length ∧ i = .int .i64 k ∧ l.take k = l2.take k ∧ Below w.heap.size w wr) (fun i _ => l.length - (intOf i).toNat)
    case atStart => exact ⟨0, Nat.zero_le _, rfl, rfl, Below.refl _ _⟩
    case round =>
      obtain ⟨k, hk, rfl, htk, hB⟩ := hrel
      by_cases hlt : k < l.length
      · obtain ⟨b, off, ha, hcl⟩ := hc (by omega)
        obtain ⟨b2, off2, ha2, hcl2⟩ := hc2 (by omega)
        subst ha ha2
        have hlt2 : k < l2.length := by omega
        have hi1 : (k : Int) < (l.length : Int) := by omega
        have hi2 : (k : Int) < (l2.length : Int) := by omega
        have HT := Hid.mk' htk
        have hb1 : b < w.heap.size := World.block_lt_of_cell? w _ (hcl k hlt).1
        have hb2 : b2 < w.heap.size := World.block_lt_of_cell? w _ (hcl2 k hlt2).1
        have c1 := (hB.cell (p := ⟨b, off + k * 2, none⟩) hb1).trans (hcl k hlt).1
        have c2 := (hB.cell (p := ⟨b, off + k * 2 + 1, none⟩) hb1).trans (hcl k hlt).2
        have c3 := (hB.cell (p := ⟨b2, off2 + k * 2, none⟩) hb2).trans (hcl2 k hlt2).1
        have c4 := (hB.cell (p := ⟨b2, off2 + k * 2 + 1, none⟩) hb2).trans (hcl2 k hlt2).2
        have o1 := last.On.cell (B := wr.heap.size) c1 (by have := hB.size; omega)
        have o2 := last.On.cell (B := wr.heap.size) c2 (by have := hB.size; omega)
        have o3 := last.On.cell (B := wr.heap.size) c3 (by have := hB.size; omega)
        have o4 := last.On.cell (B := wr.heap.size) c4 (by have := hB.size; omega)
        have hinh := last.On.inh wr.heap.size wr
        have hcall : ∀ x : last.On wr.heap.size wr, Calls Tryz.prog 42 #[.agg #[.string l[k].1, .string l[k].2], .agg #[.string l2[k].1, .string l2[k].2]] x.w fun e w' => e = .returned (.bool (decide (l[k] = l2[k]))) ∧ ∃ y : last.On wr.heap.size wr, w' = y.w := fun x => last.Calls.on x (Nat.le_refl _) (eqPair l[k] l2[k] x.w)
        by_cases e : l[k] = l2[k]
        · rw [decide_eq_true e] at hcall
          have HE := Hid.mk' (take_eqP htk hlt hlt2 e)
          clear hcl hcl2 hc hc2 htk hne e
          generalize l[k] = p at *
          generalize l2[k] = q at *
          go_wp2_with fail
          refine last.wp_region_on wr.heap.size (by kernel_rfl) (by kernel_rfl) ?_
          repeat (go_big_quiet_step ((go_at_call 42; exact hcall _)))
          refine wpQuiet_nil ?_
          intro w5 hw5
          obtain ⟨x5, hw5⟩ := hw5
          subst hw5
          have hB5 : Below w.heap.size w x5.w := hB.trans (x5.2.mono hB.size)
          go_wp2_with fail
          go_roundw
          case rel => exact ⟨k + 1, by omega, by go_num, HE.out, hB5⟩
          case measure => simp [intOf]; omega
        · rw [decide_eq_false e] at hcall
          have HE : Hid (¬ l = l2) := by
            show ¬ _
            rintro rfl; exact e rfl
          clear hcl hcl2 hc hc2 htk hne e
          generalize l[k] = p at *
          generalize l2[k] = q at *
          go_wp2_with fail
          refine last.wp_region_on wr.heap.size (by kernel_rfl) (by kernel_rfl) ?_
          repeat (go_big_quiet_step ((go_at_call 42; exact hcall _)))
          refine wpQuiet_nil ?_
          intro w5 hw5
          obtain ⟨x5, hw5⟩ := hw5
          subst hw5
          have hB5 : Below w.heap.size w x5.w := hB.trans (x5.2.mono hB.size)
          go_wp2_with fail
          go_ret
          exact ⟨ret_bool (by symm; rw [decide_eq_false_iff_not]; exact HE.out), hB5⟩
      · have e : k = l.length := by omega
        have hfin : l = l2 := by
          subst e
          rw [List.take_of_length_le (Nat.le_refl _), List.take_of_length_le (by omega)] at htk
          exact htk
        have HF := Hid.mk' hfin
        clear hfin htk
        go_wp2_with fail
        go_ret
        exact ⟨ret_bool (by symm; rw [decide_eq_true_iff]; exact HF.out), hB⟩
  · have hb : ((l.length : Int) == (l2.length : Int)) = false := by simp; omega
    go_enter Tryz.func12, Tryz.ntmps12
    go_wp2
    go_ret
    exact ⟨ret_bool (by symm; rw [decide_eq_false_iff_not]; intro h; exact hne (by rw [h])), Below.refl _ _⟩

end Go.Proofs.YteammdkipnfmnaaGreatDoor.pairs

namespace Go.Proofs.YteammdkipnfmnaaGreatDoor.pairs
open Go Go.RowKit Go.Proofs.YteammdkipnfmnaaGreatDoor.base Go.Proofs.YteammdkipnfmnaaGreatDoor.helps
set_option linter.unusedVariables false
set_option linter.unusedSimpArgs false

def marksP (k0 n : Nat) : List Pr := (List.range n).map fun j => (markBytes (k0 + 2 * j), markBytes (k0 + 2 * j + 1))
def markPTo (l : List Pr) (k0 i : Nat) : List Pr := marksP k0 i ++ l.drop i
theorem marksP_length (k0 n : Nat) : (marksP k0 n).length = n := by simp [marksP]
theorem marksP_get (k0 n i : Nat) (h : i < n) : (marksP k0 n)[i]'(by rw [marksP_length]; exact h) = (markBytes (k0 + 2 * i), markBytes (k0 + 2 * i + 1)) := by simp [marksP]
theorem markPTo_length (l : List Pr) (k0 i : Nat) (h : i ≤ l.length) : (markPTo l k0 i).length = l.length := by simp [markPTo, marksP]; omega
theorem markPTo_zero (l : List Pr) (k0 : Nat) : markPTo l k0 0 = l := by simp [markPTo, marksP]
theorem markPTo_all (l : List Pr) (k0 : Nat) : markPTo l k0 l.length = marksP k0 l.length := by simp [markPTo]
theorem markPTo_set (l : List Pr) (k0 i : Nat) (h : i < l.length) : (markPTo l k0 i).set i (markBytes (k0 + 2 * i), markBytes (k0 + 2 * i + 1)) = markPTo l k0 (i + 1) := by
  unfold markPTo marksP
  rw [List.set_append_right _ _ (by simp)]
  simp only [List.length_map, List.length_range, Nat.sub_self, List.range_succ, List.map_append, List.map_cons, List.map_nil, List.append_assoc]
  congr 1
  rw [List.drop_eq_getElem_cons h]
  rfl

set_option maxRecDepth 100000 in
set_option maxHeartbeats 1000000 in
theorem markPairS (g len cap k0 base : Nat) (l : List Pr) (w : World) (h : OwnP w base g len cap l) (hk1 : 1 ≤ k0) (hk0 : k0 + 2 * len ≤ 1099511627776) :
    Calls Tryz.prog 15 #[.slice (some ⟨g, 0, none⟩) len cap, .int .i64 (k0 : Nat)] w fun e w' => e = .returned (.int .i64 ((k0 + 2 * len : Nat) : Int)) ∧ OwnP w' base g len cap (marksP k0 len) ∧ w.grownBy w' (some g) := by
  have hl := h.1
  subst hl
  go_enter Tryz.func15, Tryz.ntmps15
  go_wp2_with fail
  go_loopw [1, 5] (fun kv i wr => ∃ k : Nat, k ≤ l.length ∧ i = .int .i64 k ∧ kv = .int .i64 ((k0 + 2 * k : Nat) : Int) ∧ OwnP wr base g l.length cap (markPTo l k0 k) ∧ w.grownBy wr (some g)) (fun _ i _ => l.length - (intOf i).toNat)
  case atStart => exact ⟨0, Nat.zero_le _, rfl, rfl, by rw [markPTo_zero]; exact h, World.grownBy.refl _ _⟩
  case round =>
    obtain ⟨k, hk, rfl, rfl, hO, hG⟩ := hrel
    by_cases hlt : k < l.length
    · have hlen : k < (markPTo l k0 k).length := by rw [markPTo_length l k0 k hk]; exact hlt
      have HS := Hid.mk' (markPTo_set l k0 k hlt)
      have hki : (k : Int) < (l.length : Int) := by omega
      go_wp2_with fail
      refine (markTextI _ (k0 + 2 * k) _ (by show _ = _; omega) (by omega) (by omega)).mono ?_
      rintro e w1 ⟨rfl, hB1⟩
      have hO1 := hO.below hB1
      have hG1 := grown_below hG hB1
      have d1 := hO1.key k hlen
      have f1 := hO1.frozen (k * 2)
      have R := hO1.setKey k hlen (markBytes (k0 + 2 * k)) (mark_max _)
      have HR := Hid.mk' R
      have hG2 := grownBy_trans hG1 R.2
      clear R hO hG hO1 hG1
      go_wp2_with fail
      refine (markTextI _ (k0 + 2 * k + 1) _ (by show _ = _; omega) (by omega) (by omega)).mono ?_
      rintro e w2 ⟨rfl, hB2⟩
      have hO2 := HR.out.1.below hB2
      have hG3 := grown_below hG2 hB2
      have hlen2 : k < ((markPTo l k0 k).set k (markBytes (k0 + 2 * k), (markPTo l k0 k)[k].2)).length := by simpa using hlen
      have d2 := hO2.val k hlen2
      have f2 := hO2.frozen (k * 2 + 1)
      have R2 := hO2.setVal k hlen2 (markBytes (k0 + 2 * k + 1)) (mark_max _)
      simp only [List.getElem_set_self, List.set_set] at R2
      rw [HS.out] at R2
      have HR2 := Hid.mk' R2
      have hG4 := grownBy_trans hG3 R2.2
      clear R2 hO2 hG3 hG2 HR d1 f1
      go_wp2_with fail
      go_roundw
      case rel => exact ⟨k + 1, by omega, by go_num, by go_num, HR2.out.1, hG4⟩
      case measure => simp [intOf]; omega
    · go_wp2_with fail
      go_ret
      have e : k = l.length := by omega
      subst e
      rw [markPTo_all] at hO
      exact ⟨rfl, hO, hG⟩

set_option maxRecDepth 100000 in
set_option maxHeartbeats 1000000 in
theorem heldPairS (a : Option Addr) (len cap k0 : Nat) (w : World) (h : SlP w a len (marksP k0 len)) (hk1 : 1 ≤ k0) (hk0 : k0 + 2 * len ≤ 1099511627776) :
    Calls Tryz.prog 16 #[.slice a len cap, .int .i64 (k0 : Nat)] w fun e w' => e = .returned (.int .i64 ((k0 + 2 * len : Nat) : Int)) ∧ Below w.heap.size w w' := by
  obtain ⟨hl, hm, _, hc⟩ := h
  go_enter Tryz.func16, Tryz.ntmps16
  go_wp2_with fail
  go_loopw [1, 5] (fun kv i wr => ∃ k : Nat, k ≤ len ∧ i = .int .i64 k ∧ kv = .int .i64 ((k0 + 2 * k : Nat) : Int) ∧ Below w.heap.size w wr) (fun _ i _ => len - (intOf i).toNat)
  case atStart => exact ⟨0, Nat.zero_le _, rfl, rfl, Below.refl _ _⟩
  case round =>
    obtain ⟨k, hk, rfl, rfl, hB⟩ := hrel
    by_cases hlt : k < len
    · obtain ⟨b, off, ha, hcl⟩ := hc (by omega)
      subst ha
      have hkl : k < (marksP k0 len).length := by omega
      obtain ⟨d1, d2⟩ := hcl k hkl
      rw [marksP_get k0 len k hlt] at d1 d2
      have hbb : b < w.heap.size := World.block_lt_of_cell? w _ d1
      have c1 := (hB.cell (p := ⟨b, off + k * 2, none⟩) hbb).trans d1
      have c2 := (hB.cell (p := ⟨b, off + k * 2 + 1, none⟩) hbb).trans d2
      have hbw := hB.size
      have o1 := last.On.cell (B := wr.heap.size) c1 (by omega)
      have hinh := last.On.inh wr.heap.size wr
      have hki : (k : Int) < (len : Int) := by omega
      have hm1 : ∀ x : last.On wr.heap.size wr, Calls Tryz.prog 47 #[.int .i64 ((k0 : Int) + 2 * (k : Int))] x.w fun e w' => e = .returned (.string (markBytes (k0 + 2 * k))) ∧ ∃ y : last.On wr.heap.size wr, w' = y.w := fun x => last.Calls.on x (Nat.le_refl _) (markTextI _ (k0 + 2 * k) x.w (by show _ = _; omega) (by omega) (by omega))
      clear hcl hc d1 d2 hkl
      generalize hM1 : markBytes (k0 + 2 * k) = M1 at *
      generalize hM2 : markBytes (k0 + 2 * k + 1) = M2 at *
      have HM2 := Hid.mk' hM2
      clear hM1 hM2
      go_wp2_with fail
      refine last.wp_region_on wr.heap.size (by kernel_rfl) (by kernel_rfl) ?_
      repeat (go_big_quiet_step ((go_at_call 47; exact hm1 _)))
      refine wpQuiet_nil ?_
      intro w5 hw5
      obtain ⟨x5, hw5⟩ := hw5
      subst hw5
      have hB5 : Below w.heap.size w x5.w := hB.trans (x5.2.mono hB.size)
      have c2' : x5.w.cell? ⟨b, off + k * 2 + 1, none⟩ = some (.string M2) := (x5.2.cell (p := ⟨b, off + k * 2 + 1, none⟩) (by show b < _; omega)).trans c2
      generalize x5.w = w6 at *
      clear o1 hinh hm1 c1 c2
      have hbw6 := hB5.size
      have o2 := last.On.cell (B := w6.heap.size) c2' (by omega)
      have hinh := last.On.inh w6.heap.size w6
      have hm2 : ∀ x : last.On w6.heap.size w6, Calls Tryz.prog 47 #[.int .i64 ((k0 : Int) + 2 * (k : Int) + 1)] x.w fun e w' => e = .returned (.string M2) ∧ ∃ y : last.On w6.heap.size w6, w' = y.w := fun x => last.Calls.on x (Nat.le_refl _) (by rw [← HM2.out]; exact markTextI _ (k0 + 2 * k + 1) x.w (by show _ = _; omega) (by omega) (by omega))
      clear HM2
      go_wp2_with fail
      refine last.wp_region_on w6.heap.size (by kernel_rfl) (by kernel_rfl) ?_
      repeat (go_big_quiet_step ((go_at_call 47; exact hm2 _)))
      refine wpQuiet_nil ?_
      intro w7 hw7
      obtain ⟨x7, hw7⟩ := hw7
      subst hw7
      have hB7 : Below w.heap.size w x7.w := hB5.trans (x7.2.mono hB5.size)
      go_wp2_with fail
      go_roundw
      case rel => exact ⟨k + 1, by omega, by go_num, by go_num, hB7⟩
      case measure => simp [intOf]; omega
    · go_wp2_with fail
      go_ret
      have e : k = len := by omega
      subst e
      exact ⟨rfl, hB⟩


end Go.Proofs.YteammdkipnfmnaaGreatDoor.pairs
