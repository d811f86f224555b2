/- The specification's check of a bundle. The laws' helpers for seals: alike. The laws' own helpers on pairs: what each call does. The laws' marks on pairs, and pairs that are the same. The laws' helpers for items and proofs: alike, marked, held. The laws' helpers for bundles: alike. The laws' helpers for items and proofs that are handed in: copied, and their size. The laws' copies of items: a row that is filled item by item. The laws' copies of proofs, and the size of items and proofs that are handed in. The laws' helpers for bundles: their sizes. The laws' helpers for seals: their sizes. The laws' own copies of seals. The laws' own copies of bundles. The laws' helpers for items and proofs: held; proofs marked and held. The laws' marks on proofs and bundles. The laws' marks on bundles. Rows of pairs that a law made, kept from step to step; arguments that are pairs, opened. What the exact law of CheckBundle keeps from step to step, and its walk over the program's contract. Bundles: the parts of all shards, one behind the other. Mathematics. -/
import Derived.Test.YteammdkipnfmnaaGreatDoorShaj
import Derived.Test.YteammdkipnfmnaaGreatDoorShaf
import Derived.Test.YteammdkipnfmnaaGreatDoorShav
import Derived.Test.YteammdkipnfmnaaGreatDoorShan
import Derived.Test.YteammdkipnfmnaaGreatDoorShap
import Derived.Test.YteammdkipnfmnaaGreatDoorShal
import Derived.Test.YteammdkipnfmnaaGreatDoorShag
import Derived.Test.YteammdkipnfmnaaGreatDoorShae
import Derived.Test.YteammdkipnfmnaaGreatDoorSham
import Derived.Deep.SlicePairs
import Derived.ChangeArms
import Derived.Test.YteammdkipnfmnaaGreatDoorShar
import Derived.Deep.RegionHeld3
namespace Go.Proofs.YteammdkipnfmnaaGreatDoor.bun
open Go Go.RowKit Go.Proofs.YteammdkipnfmnaaGreatDoor.base Go.Proofs.YteammdkipnfmnaaGreatDoor.pairs Go.Proofs.YteammdkipnfmnaaGreatDoor.lay Go.Proofs.YteammdkipnfmnaaGreatDoor.range Go.Proofs.YteammdkipnfmnaaGreatDoor.seals
set_option linter.unusedVariables false
set_option linter.unusedSimpArgs false

set_option maxRecDepth 100000 in
set_option maxHeartbeats 16000000 in
theorem spec_checkBundle (super lo hi : ByteArray) (ra : Option Addr) (rn rc : Nat) (pa : Option Addr) (pn pc : Nat) (x : Bun) (w : World) (hno : (Lit.int .i64 x.1).wf = true) (hp : x.2.1.size ≤ 1048576) (hR : SlS w ra rn x.2.2.1) (hrs : x.2.2.1.length + puttexts.sum x.2.2.1 ≤ 1048576) (hP : PJ w pa pn x.2.2.2) (hps : ∀ f ∈ x.2.2.2, f.2.2.length ≤ 1048576) :
    Calls Tryz.prog 8 #[.string super, .string lo, .string hi, .agg #[.int .i64 x.1, .string x.2.1, .slice ra rn rc, .slice pa pn pc]] w (CPost w (checkB super lo hi x)) := by
  obtain ⟨no, pv, rs, ps⟩ := x
  simp only [] at *
  obtain rfl : rs.length = rn := hR.1
  obtain rfl : ps.length = pn := hP.1
  have hplm := hP.2.1
  unfold maxLen at hplm
  obtain ⟨W1, hW1⟩ : ∃ W, w.alloc (.cells #[.int .i64 no, .string pv, .slice ra rs.length rc, .slice pa ps.length pc] 27) = W := ⟨_, rfl⟩
  have hb1 : Below w.heap.size w W1 := by rw [← hW1]; exact below_make
  have hX1 : BoxIn w.heap.size 27 [] [.int .i64 no, .string pv, .slice ra rs.length rc, .slice pa ps.length pc] [] W1 := by rw [← hW1]; exact boxIn_new w _ _
  have hs1 : W1.heap.size = w.heap.size + 1 := by rw [← hW1]; simp
  obtain ⟨W, hW⟩ : ∃ W, W1.alloc (.cells #[] 34) = W := ⟨_, rfl⟩
  have hb2 : Below W1.heap.size W1 W := by rw [← hW]; exact below_make
  have hON : OwnP W w.heap.size (w.heap.size + 1) 0 0 [] := by
    rw [← hW, ← hs1]
    exact ownP_made W1 w.heap.size (by omega)
  have hB := hb1.trans (hb2.mono hb1.size)
  have hX := hX1.below hb2
  have HWW : Hid ((w.alloc (.cells #[.int .i64 no, .string pv, .slice ra rs.length rc, .slice pa ps.length pc] 27)).alloc (.cells #[] 34) = W) := by show _ = _; rw [hW1, hW]
  have HSU := Hid.mk' (spec_superOf no pv ra rs.length rc rs W (hR.below hB) hno hp hrs)
  have HIN := Hid.mk' (fun wx => seals.s_in (rs.length : Int) 1 8 wx)
  have hN8 : Hid (decide (1 ≤ (rs.length : Int) ∧ (rs.length : Int) ≤ 8) = true → rs.length ≤ 8) := fun e => by have := of_decide_eq_true e; omega
  have HR : Hid (checkB super lo hi (no, pv, rs, ps) = if superOf no pv rs = super ∧ (1 ≤ rs.length ∧ rs.length ≤ 8) ∧ ps.length = rs.length then sumB rs.length lo hi rs ps rs.length else none) := rfl
  have HDI : Hid (decide (1 ≤ (rs.length : Int) ∧ (rs.length : Int) ≤ 8) = decide (1 ≤ rs.length ∧ rs.length ≤ 8)) := decide_eq_decide.2 ⟨fun e => ⟨by omega, by omega⟩, fun e => ⟨by omega, by omega⟩⟩
  obtain ⟨x0, x1, x2, x3⟩ := box4 hX
  rw [← HWW.out] at x0 x1 x2 x3
  have hrlm := hR.2.1
  unfold maxLen at hrlm
  generalize checkB super lo hi (no, pv, rs, ps) = CB at *
  generalize superOf no pv rs = so at *
  have HPS := Hid.mk' hps
  clear hb1 hb2 hX1 hs1 hW1 hW hps
  go_enter Tryz.func8, Tryz.ntmps8
  go_wp2_with fail
  rw [HWW.out]
  refine HSU.out.mono ?_
  rintro e w1 ⟨rfl, hb1⟩
  have hB1 := hB.trans (hb1.mono hB.size)
  have hX1 := hX.below hb1
  have hO1 := hON.below hb1
  clear x0 x1 x2 x3 HSU HWW
  obtain ⟨x0, x1, x2, x3⟩ := box4 hX1
  by_cases e1 : so = super
  rotate_left
  · have hq := seals.str_ne e1
    have HF : Hid (CB = none) := by show _ = _; rw [HR.out, if_neg (fun h => e1 h.1)]
    clear HR e1
    go_wp2_with fail
    go_ret2
    rw [HF.out]
    exact ⟨hB1, _, _, _, rfl, hO1⟩
  subst e1
  have hq := seals.str_same so
  have HI1 := Hid.mk' (HIN.out w1)
  rw [HDI.out] at HI1 hN8
  clear HIN HDI
  go_wp2_with fail
  refine HI1.out.mono ?_
  rintro e w1' ⟨rfl, hw1⟩
  replace hw1 := hw1.symm
  subst hw1
  by_cases e2 : 1 ≤ rs.length ∧ rs.length ≤ 8
  rotate_left
  · have HF : Hid (CB = none) := by show _ = _; rw [HR.out, if_neg (fun h => e2 h.2.1)]
    rw [decide_eq_false e2]
    clear HR e2 hN8 HI1
    go_wp2_with fail
    go_ret2
    rw [HF.out]
    exact ⟨hB1, _, _, _, rfl, hO1⟩
  rw [decide_eq_true e2]
  clear hN8 HI1
  by_cases e3 : ps.length = rs.length
  rotate_left
  · have HF : Hid (CB = none) := by show _ = _; rw [HR.out, if_neg (fun h => e3 h.2.2)]
    have hd : ((ps.length : Int) != (rs.length : Int)) = true := by simp; omega
    clear HR e3
    go_wp2_with fail
    go_ret2
    rw [HF.out]
    exact ⟨hB1, _, _, _, rfl, hO1⟩
  have hd : ((ps.length : Int) != (rs.length : Int)) = false := by simp; omega
  have HR2 : Hid (CB = sumB rs.length lo hi rs ps rs.length) := by show _ = _; rw [HR.out, if_pos ⟨by first | rfl | trivial, e2, e3⟩]
  clear HR
  obtain ⟨W2, hW2⟩ : ∃ W, w1.alloc (.cells #[] 34) = W := ⟨_, rfl⟩
  have hb2 : Below w1.heap.size w1 W2 := by rw [← hW2]; exact below_make
  have hO2 : OwnP W2 w.heap.size w1.heap.size 0 0 [] := by
    rw [← hW2]
    exact ownP_made w1 w.heap.size hB1.size
  have hB2 := hB1.trans (hb2.mono hB1.size)
  have hX2 := hX1.below hb2
  have HNO := Hid.mk' (hO1.below hb2)
  have HW2 := Hid.mk' hW2
  have hON2 := hO1.below hb2
  clear hW2 hb2
  obtain ⟨b0, b1, b2, b3⟩ := box4 hX2
  go_wp2_with fail
  rw [HW2.out]
  clear x0 x1 x2 x3 b0 b1 b2 b3 HNO hX hX1 hO1 hON hq hd
  go_loopw [12, 13] (fun ov iv wr => ∃ (k g m c : Nat) (o : List Pr), ov = .slice (some ⟨g, 0, none⟩) m c ∧ iv = .int .i64 (k : Int) ∧ k ≤ rs.length ∧ sumB rs.length lo hi rs ps k = some o ∧ o.length ≤ k * 1048576 ∧ OwnP wr w.heap.size g m c o ∧ Below W2.heap.size W2 wr) (fun _ iv _ => rs.length - (intOf iv).toNat)
  case atStart => exact ⟨0, w1.heap.size, 0, 0, [], rfl, rfl, Nat.zero_le _, rfl, Nat.zero_le _, hO2, Below.refl _ _⟩
  case round =>
    clear hO2
    obtain ⟨k, g, m, c, o, rfl, rfl, hk, hsum, hol, hO, hb⟩ := hrel
    have hBw := hB2.trans (hb.mono hB2.size)
    by_cases hlt : k < rs.length
    · have hki : (k : Int) < (rs.length : Int) := by omega
      have hkp : k < ps.length := by omega
      have hki2 : (k : Int) < (ps.length : Int) := by omega
      obtain ⟨rb, ro, hra, hrc⟩ := (hR.below hBw).2.2.2 (by omega)
      subst hra
      obtain ⟨pb, po, hpa, hpc⟩ := (hP.below hBw).2.2 (by omega)
      subst hpa
      have r0 := hrc k hlt
      obtain ⟨ia, ic, c0, c1, c2, hJ, hw1, hw2⟩ := hpc k hkp
      have hrl := World.block_lt_of_cell? _ _ r0
      have hpl := World.block_lt_of_cell? _ _ c0
      obtain ⟨x0, x1, x2, x3⟩ := box4 (hX2.below hb)
      have hXl := World.block_lt_of_cell? _ _ x2
      have HPA := Hid.mk' (partB_at (n := rs.length) (lo := lo) (hi := hi) hlt hkp)
      have hpk := HPS.out ps[k] (List.getElem_mem hkp)
      have HCK := Hid.mk' (fun wx (hx : Below wr.heap.size wr wx) => spec_checkBetween rs[k] lo hi ps[k].1 ps[k].2.1 ia ps[k].2.2.length ic ps[k].2.2 wx (hJ.below hx) hw1 hw2)
      have HLN : Hid (∀ l, check rs[k] lo hi ⟨ps[k].1, ps[k].2.1, ps[k].2.2⟩ = some l → l.length ≤ 1048576) := fun l hl => Nat.le_trans (check_len hl) hpk
      have HSN := Hid.mk' (fun (e : partB rs.length lo hi rs ps k = none) => sumB_none e rs.length hlt)
      have HSS := Hid.mk' (fun (l : List Pr) (e : partB rs.length lo hi rs ps k = some l) => sumB_succ hsum e)
      have HO := Hid.mk' hO
      have HON := Hid.mk' (hON2.below hb)
      generalize check rs[k] lo hi ⟨ps[k].1, ps[k].2.1, ps[k].2.2⟩ = ck at *
      generalize partB rs.length lo hi rs ps k = pk at *
      generalize ps[k].2.2.length = il at *
      generalize rs[k] = rt at *
      generalize ps[k] = f at *
      obtain ⟨fn, ff, its⟩ := f
      simp only [] at *
      clear hrc hpc hJ hpk hO hsum hw1 hw2
      go_wp2_with fail
      have hdW : Below wr.heap.size wr wr.drew := (Below.refl _ _).drew
      have hBD := hb.trans (hdW.mono hb.size)
      refine last.wp_region_later (S := fun w' => Below wr.heap.size wr w') 17 (by kernel_rfl) hdW (fun hHeld0 => ?_)
      have HCB := Hid.mk' (HCK.out wr.drew hdW)
      generalize hD : wr.drew = D at *
      clear hD
      refine last.wpAnyL_take (i := 0) (v := (.pointer (some ⟨w.heap.size, 2, none⟩))) rfl rfl (by kernel_rfl) (by kernel_rfl) (by kernel_rfl) (by kernel_rfl) (fun _ _ _ h => h) (Or.inl ⟨by rfl, ?_⟩) (by assumption) ?_
      · intro wq hSq; go_simp
      try simp only [Act.put, List.setIfInBounds_toArray, List.set_cons_zero, List.set_cons_succ]
      refine last.wpAnyL_take (i := 1) (v := (.slice (some ⟨rb, ro, none⟩) rs.length rc)) rfl rfl (by kernel_rfl) (by kernel_rfl) (by kernel_rfl) (by kernel_rfl) (fun _ _ _ h => h) (Or.inl ⟨by rfl, ?_⟩) (by assumption) ?_
      · intro wq hSq; have q := (hSq.cell (p := ⟨w.heap.size, 2, none⟩) hXl).trans x2; go_simp
      try simp only [Act.put, List.setIfInBounds_toArray, List.set_cons_zero, List.set_cons_succ]
      refine last.wpAnyL_take (i := 2) (v := (.int .i64 (k : Int))) rfl rfl (by kernel_rfl) (by kernel_rfl) (by kernel_rfl) (by kernel_rfl) (fun _ _ _ h => h) (Or.inl ⟨by rfl, ?_⟩) (by assumption) ?_
      · intro wq hSq; go_simp
      try simp only [Act.put, List.setIfInBounds_toArray, List.set_cons_zero, List.set_cons_succ]
      refine last.wpAnyL_take (i := 3) (v := (.pointer (some ⟨rb, ro + k, none⟩))) rfl rfl (by kernel_rfl) (by kernel_rfl) (by kernel_rfl) (by kernel_rfl) (fun _ _ _ h => h) (Or.inl ⟨by rfl, ?_⟩) (by assumption) ?_
      · intro wq hSq; go_simp
      try simp only [Act.put, List.setIfInBounds_toArray, List.set_cons_zero, List.set_cons_succ]
      refine last.wpAnyL_take (i := 4) (v := (.string rt)) rfl rfl (by kernel_rfl) (by kernel_rfl) (by kernel_rfl) (by kernel_rfl) (fun _ _ _ h => h) (Or.inl ⟨by rfl, ?_⟩) (by assumption) ?_
      · intro wq hSq; have q := (hSq.cell (p := ⟨rb, ro + k, none⟩) hrl).trans r0; go_simp
      try simp only [Act.put, List.setIfInBounds_toArray, List.set_cons_zero, List.set_cons_succ]
      refine last.wpAnyL_take (i := 5) (v := (.string lo)) rfl rfl (by kernel_rfl) (by kernel_rfl) (by kernel_rfl) (by kernel_rfl) (fun _ _ _ h => h) (Or.inl ⟨by rfl, ?_⟩) (by assumption) ?_
      · intro wq hSq; go_simp
      try simp only [Act.put, List.setIfInBounds_toArray, List.set_cons_zero, List.set_cons_succ]
      refine last.wpAnyL_take (i := 6) (v := (.string hi)) rfl rfl (by kernel_rfl) (by kernel_rfl) (by kernel_rfl) (by kernel_rfl) (fun _ _ _ h => h) (Or.inl ⟨by rfl, ?_⟩) (by assumption) ?_
      · intro wq hSq; go_simp
      try simp only [Act.put, List.setIfInBounds_toArray, List.set_cons_zero, List.set_cons_succ]
      refine last.wpAnyL_take (i := 7) (v := (.pointer (some ⟨w.heap.size, 3, none⟩))) rfl rfl (by kernel_rfl) (by kernel_rfl) (by kernel_rfl) (by kernel_rfl) (fun _ _ _ h => h) (Or.inl ⟨by rfl, ?_⟩) (by assumption) ?_
      · intro wq hSq; go_simp
      try simp only [Act.put, List.setIfInBounds_toArray, List.set_cons_zero, List.set_cons_succ]
      refine last.wpAnyL_take (i := 8) (v := (.slice (some ⟨pb, po, none⟩) ps.length pc)) rfl rfl (by kernel_rfl) (by kernel_rfl) (by kernel_rfl) (by kernel_rfl) (fun _ _ _ h => h) (Or.inl ⟨by rfl, ?_⟩) (by assumption) ?_
      · intro wq hSq; have q := (hSq.cell (p := ⟨w.heap.size, 3, none⟩) hXl).trans x3; go_simp
      try simp only [Act.put, List.setIfInBounds_toArray, List.set_cons_zero, List.set_cons_succ]
      refine last.wpAnyL_take (i := 9) (v := (.int .i64 (k : Int))) rfl rfl (by kernel_rfl) (by kernel_rfl) (by kernel_rfl) (by kernel_rfl) (fun _ _ _ h => h) (Or.inl ⟨by rfl, ?_⟩) (by assumption) ?_
      · intro wq hSq; go_simp
      try simp only [Act.put, List.setIfInBounds_toArray, List.set_cons_zero, List.set_cons_succ]
      refine last.wpAnyL_take (i := 10) (v := (.pointer (some ⟨pb, po + k * 3, none⟩))) rfl rfl (by kernel_rfl) (by kernel_rfl) (by kernel_rfl) (by kernel_rfl) (fun _ _ _ h => h) (Or.inl ⟨by rfl, ?_⟩) (by assumption) ?_
      · intro wq hSq; go_simp
      try simp only [Act.put, List.setIfInBounds_toArray, List.set_cons_zero, List.set_cons_succ]
      refine last.wpAnyL_take (i := 11) (v := (.agg #[.int .i64 fn, .int .i64 ff, .slice ia il ic])) rfl rfl (by kernel_rfl) (by kernel_rfl) (by kernel_rfl) (by kernel_rfl) (fun _ _ _ h => h) (Or.inl ⟨by rfl, ?_⟩) (by assumption) ?_
      · intro wq hSq; have q0 := (hSq.cell (p := ⟨pb, po + k * 3, none⟩) hpl).trans c0; have q1 := (hSq.cell (p := ⟨pb, po + k * 3 + 1, none⟩) hpl).trans c1; have q2 := (hSq.cell (p := ⟨pb, po + k * 3 + 2, none⟩) hpl).trans c2; go_simp
      try simp only [Act.put, List.setIfInBounds_toArray, List.set_cons_zero, List.set_cons_succ]
      refine last.wpAnyL_one (i := 12) (o := { dst := some 62, op := Op.call { callee := Callee.value (Operand.func 31), args := #[Operand.tmp 54, Operand.tmp 55, Operand.tmp 56, Operand.tmp 61], argTypes := #[9, 9, 9, 64] }, type := 31, pos := "l16_bundle.go:24", after := #[{ on := 4, ground := Ground.data }, { on := 5, ground := Ground.data }, { on := 6, ground := Ground.data }, { on := 11, ground := Ground.data }], guard := none }) (by kernel_rfl) rfl (fun K hK => ?_)
      refine stepg.call4 rfl 31 (.tmp 54) (.tmp 55) (.tmp 56) (.tmp 61) _ rfl (fun _ _ => rfl) (.string rt) (.string lo) (.string hi) (.agg #[.int .i64 fn, .int .i64 ff, .slice ia il ic]) (by kernel_rfl) (by kernel_rfl) (by kernel_rfl) (by kernel_rfl) _ HCB.out ?_
      rintro e w5 ⟨hb5, g5, n5, c5, rfl, hO5⟩
      refine ⟨_, rfl, ?_⟩
      have hB5 : Below wr.heap.size wr w5 := hdW.trans (hb5.mono hdW.size)
      refine hK.out _ _ ?_ (fun hHeld => ?_)
      · exact hB5
      clear hK K hHeld0
      have hHeld0 := hHeld
      clear hHeld
      try simp only [Act.put, List.setIfInBounds_toArray, List.set_cons_zero, List.set_cons_succ]
      refine last.wpAnyL_take (i := 13) (v := (.tuple #[.slice (some ⟨g5, 0, none⟩) n5 c5, .bool ck.isSome])) rfl rfl (by kernel_rfl) (by kernel_rfl) (by kernel_rfl) (by kernel_rfl) (fun _ _ _ h => h) (Or.inl ⟨by rfl, ?_⟩) (by assumption) ?_
      · intro wq hSq; go_simp
      try simp only [Act.put, List.setIfInBounds_toArray, List.set_cons_zero, List.set_cons_succ]
      refine last.wpAnyL_take (i := 14) (v := (.slice (some ⟨g5, 0, none⟩) n5 c5)) rfl rfl (by kernel_rfl) (by kernel_rfl) (by kernel_rfl) (by kernel_rfl) (fun _ _ _ h => h) (Or.inl ⟨by rfl, ?_⟩) (by assumption) ?_
      · intro wq hSq; go_simp
      try simp only [Act.put, List.setIfInBounds_toArray, List.set_cons_zero, List.set_cons_succ]
      refine last.wpAnyL_take (i := 15) (v := (.bool ck.isSome)) rfl rfl (by kernel_rfl) (by kernel_rfl) (by kernel_rfl) (by kernel_rfl) (fun _ _ _ h => h) (Or.inl ⟨by rfl, ?_⟩) (by assumption) ?_
      · intro wq hSq; go_simp
      try simp only [Act.put, List.setIfInBounds_toArray, List.set_cons_zero, List.set_cons_succ]
      refine last.wpAnyL_take (i := 16) (v := (.slice (some ⟨g5, 0, none⟩) n5 c5)) rfl rfl (by kernel_rfl) (by kernel_rfl) (by kernel_rfl) (by kernel_rfl) (fun _ _ _ h => h) (Or.inl ⟨by rfl, ?_⟩) (by assumption) ?_
      · intro wq hSq; go_simp
      try simp only [Act.put, List.setIfInBounds_toArray, List.set_cons_zero, List.set_cons_succ]
      refine last.wpAnyL_last (o := { dst := some 15, op := Op.assign (Operand.tmp 64), type := 4, pos := "l16_bundle.go:24", after := #[{ on := 15, ground := Ground.data }, { on := 16, ground := Ground.chain }, { on := 0, ground := Ground.phase }, { on := 1, ground := Ground.phase }, { on := 2, ground := Ground.phase }, { on := 3, ground := Ground.phase }, { on := 4, ground := Ground.phase }, { on := 5, ground := Ground.phase }, { on := 6, ground := Ground.phase }, { on := 7, ground := Ground.phase }, { on := 8, ground := Ground.phase }, { on := 9, ground := Ground.phase }, { on := 10, ground := Ground.phase }, { on := 11, ground := Ground.phase }, { on := 12, ground := Ground.phase }, { on := 13, ground := Ground.phase }, { on := 14, ground := Ground.phase }, { on := 15, ground := Ground.phase }, { on := 16, ground := Ground.phase }], guard := none }) (by kernel_rfl) rfl (by kernel_rfl) (fun K hK => ?_)
      go_simp
      refine hK.out _ _ ?_
      clear hK K
      have HN5 := Hid.mk' (HON.out.below hB5)
      have HO6 := Hid.mk' (HO.out.below hB5)
      have hB6 := hBw.trans (hB5.mono hBw.size)
      have hb6 := hb.trans (hB5.mono hb.size)
      clear HON HO HCK HCB hb5
      cases ck with
      | none =>
        have HF : Hid (CB = none) := by show _ = _; rw [HR2.out]; exact HSN.out (by rw [HPA.out])
        simp only [Option.isSome_none] at *
        go_wp2_with fail
        go_ret2
        rw [HF.out]
        exact ⟨hB6, _, _, _, rfl, HN5.out⟩
      | some l =>
        have hll := HLN.out l rfl
        simp only [Option.isSome_some, Option.getD_some] at *
        have hnl : n5 = l.length := hO5.1.symm
        subst hnl
        have hOs := hO5.sl
        have HOs := Hid.mk' hOs
        have HO5 := Hid.mk' hO5
        clear hO5
        go_wp2_with fail
        go_loopw [16] (fun jv wj => ∃ j : Nat, j ≤ l.length ∧ jv = .int .i64 (j : Int) ∧ (∀ t (ht : t < j) (hl : t < l.length), ords.shardOf l[t].1 (rs.length : Int) = (k : Int)) ∧ w5 = wj) (fun jv _ => l.length - (intOf jv).toNat)
        case atStart => exact ⟨0, Nat.zero_le _, rfl, fun t ht => absurd ht (Nat.not_lt_zero _), rfl⟩
        case round =>
          obtain ⟨j, hj, rfl, hall, hwj⟩ := hrel
          subst hwj
          have HAL := Hid.mk' hall
          clear hall
          by_cases hjl : j < l.length
          · have hji : (j : Int) < (l.length : Int) := by omega
            obtain ⟨d0, d1⟩ := SlP.cells HOs.out j hjl
            simp only [Nat.zero_add] at d0 d1
            have hks := (HOs.out.2.2.1 l[j] (List.getElem_mem hjl)).1
            have HSH := Hid.mk' (ords.spec_shardOf l[j].1 (rs.length : Int) w5 hks (WalkArith.wf_i64 (by omega)))
            by_cases he : ords.shardOf l[j].1 (rs.length : Int) = (k : Int)
            · have hne : (ords.shardOf l[j].1 (rs.length : Int) != (k : Int)) = false := by simp [he]
              have HA2 : Hid (∀ t (ht : t < j + 1) (hl : t < l.length), ords.shardOf l[t].1 (rs.length : Int) = (k : Int)) := fun t ht hl => by
                by_cases e : t = j
                · subst e; exact he
                · exact HAL.out t (by omega) hl
              clear he hks
              generalize ords.shardOf l[j].1 (rs.length : Int) = sh at *
              generalize l[j] = p at *
              go_wp2_with fail
              refine HSH.out.mono ?_
              rintro e w6 ⟨rfl, hw6⟩
              replace hw6 := hw6.symm
              subst hw6
              go_wp2_with fail
              go_roundw
              case rel => exact ⟨j + 1, by omega, by go_num, HA2.out, by first | rfl | trivial⟩
              case measure => simp [intOf]; omega
            · have hne : (ords.shardOf l[j].1 (rs.length : Int) != (k : Int)) = true := by simp [he]
              have HF : Hid (CB = none) := by
                show _ = _
                rw [HR2.out]
                refine HSN.out ?_
                rw [HPA.out]
                have : l.all (fun p => decide (ords.shardOf p.1 (rs.length : Int) = (k : Int))) = false := by
                  rw [List.all_eq_false]
                  exact ⟨l[j], List.getElem_mem hjl, by simp [he]⟩
                simp only [this, Bool.false_eq_true, if_false]
              clear he hks
              generalize ords.shardOf l[j].1 (rs.length : Int) = sh at *
              generalize l[j] = p at *
              go_wp2_with fail
              refine HSH.out.mono ?_
              rintro e w6 ⟨rfl, hw6⟩
              replace hw6 := hw6.symm
              subst hw6
              go_wp2_with fail
              go_ret2
              rw [HF.out]
              exact ⟨hB6, _, _, _, rfl, HN5.out⟩
          · have hji : ¬ (j : Int) < (l.length : Int) := by omega
            have HPK : Hid (pk = some l) := by
              show _ = _
              rw [HPA.out]
              have : l.all (fun p => decide (ords.shardOf p.1 (rs.length : Int) = (k : Int))) = true := by
                rw [List.all_eq_true]
                intro p hp
                obtain ⟨t, ht, rfl⟩ := List.getElem_of_mem hp
                exact decide_eq_true (HAL.out t (by omega) ht)
              simp only [this, if_true]
            have HS7 := Hid.mk' (HSS.out l HPK.out)
            have hul := union_len o l
            have hom : m = o.length := HO6.out.1.symm
            have HUN := Hid.mk' (spec_unionOf g 0 m c o g5 0 l.length c5 l w5 HO6.out.sl HOs.out (by omega))
            have HUL : Hid ((unionOf o l).length ≤ (k + 1) * 1048576) := by show _ ≤ _; rw [Nat.add_mul]; omega
            generalize unionOf o l = u at *
            clear hul hom
            go_wp2_with fail
            refine HUN.out.mono ?_
            rintro e w6 ⟨g6, m6, c6, rfl, hO7, hb7⟩
            have hb8 := hb6.trans (hb7.mono hb6.size)
            have HO7 := Hid.mk' (hO7.mono hB6.size)
            clear hO7
            go_wp2_with fail
            go_roundw
            case rel => exact ⟨k + 1, g6, m6, c6, u, rfl, by go_num, by omega, HS7.out, HUL.out, HO7.out, hb8⟩
            case measure => simp [intOf]; omega
    · have hki : ¬ (k : Int) < (rs.length : Int) := by omega
      have hke : k = rs.length := by omega
      have HF : Hid (CB = some o) := by show _ = _; rw [HR2.out]; rw [hke] at hsum; exact hsum
      clear hke hsum
      go_wp2_with fail
      go_ret2
      rw [HF.out]
      exact ⟨hBw, _, _, _, rfl, hO⟩
end Go.Proofs.YteammdkipnfmnaaGreatDoor.bun

namespace Go.Proofs.YteammdkipnfmnaaGreatDoor.seals
open Go Go.RowKit Go.Proofs.YteammdkipnfmnaaGreatDoor.base Go.Proofs.YteammdkipnfmnaaGreatDoor.pairs Go.Proofs.YteammdkipnfmnaaGreatDoor.lay
set_option linter.unusedVariables false
set_option linter.unusedSimpArgs false

end Go.Proofs.YteammdkipnfmnaaGreatDoor.seals

namespace Go.Proofs.YteammdkipnfmnaaGreatDoor.pairs
open Go Go.RowKit Go.Proofs.YteammdkipnfmnaaGreatDoor.base Go.Proofs.YteammdkipnfmnaaGreatDoor.helps
set_option linter.unusedVariables false
set_option linter.unusedSimpArgs false

end Go.Proofs.YteammdkipnfmnaaGreatDoor.pairs

namespace Go.Proofs.YteammdkipnfmnaaGreatDoor.pairs
open Go Go.RowKit Go.Proofs.YteammdkipnfmnaaGreatDoor.base Go.Proofs.YteammdkipnfmnaaGreatDoor.helps
set_option linter.unusedVariables false
set_option linter.unusedSimpArgs false

end Go.Proofs.YteammdkipnfmnaaGreatDoor.pairs

namespace Go.Proofs.YteammdkipnfmnaaGreatDoor.range
open Go Go.RowKit Go.Proofs.YteammdkipnfmnaaGreatDoor.base Go.Proofs.YteammdkipnfmnaaGreatDoor.pairs Go.Proofs.YteammdkipnfmnaaGreatDoor.tree Go.Proofs.YteammdkipnfmnaaGreatDoor.helps
set_option linter.unusedVariables false
set_option linter.unusedSimpArgs false

/-! ### marks -/
end Go.Proofs.YteammdkipnfmnaaGreatDoor.range

namespace Go.Proofs.YteammdkipnfmnaaGreatDoor.bun
open Go Go.RowKit Go.Proofs.YteammdkipnfmnaaGreatDoor.base Go.Proofs.YteammdkipnfmnaaGreatDoor.pairs Go.Proofs.YteammdkipnfmnaaGreatDoor.lay Go.Proofs.YteammdkipnfmnaaGreatDoor.range Go.Proofs.YteammdkipnfmnaaGreatDoor.seals
set_option linter.unusedVariables false
set_option linter.unusedSimpArgs false

end Go.Proofs.YteammdkipnfmnaaGreatDoor.bun

namespace Go.Proofs.YteammdkipnfmnaaGreatDoor.range
open Go Go.RowKit Go.Proofs.YteammdkipnfmnaaGreatDoor.base Go.Proofs.YteammdkipnfmnaaGreatDoor.pairs Go.Proofs.YteammdkipnfmnaaGreatDoor.tree Go.Proofs.YteammdkipnfmnaaGreatDoor.helps
set_option linter.unusedVariables false
set_option linter.unusedSimpArgs false

section
variable {w : World} {g g2 : Nat} {t : TypeId} {x y z : Value}
theorem V3.other (h : V3 w g t x y z) (j : Nat) (v : Value) (hne : g ≠ g2) : V3 (w.setCell ⟨g2, j, none⟩ v) g t x y z := (heap_setCell_other w ⟨g2, j, none⟩ g v hne).trans h
theorem V3.fz (h : V3 w g t x y z) (j : Nat) : w.frozen? ⟨g, j, none⟩ = false := by unfold V3 at h; simp [World.frozen?, h]
end
end Go.Proofs.YteammdkipnfmnaaGreatDoor.range

namespace Go.Proofs.YteammdkipnfmnaaGreatDoor.range
open Go Go.RowKit Go.Proofs.YteammdkipnfmnaaGreatDoor.base Go.Proofs.YteammdkipnfmnaaGreatDoor.pairs Go.Proofs.YteammdkipnfmnaaGreatDoor.tree Go.Proofs.YteammdkipnfmnaaGreatDoor.helps
set_option linter.unusedVariables false
set_option linter.unusedSimpArgs false

section
variable {w w2 : World} {base g n : Nat} {vals : List Value} {L : List It} {hs : List Hd}
end

end Go.Proofs.YteammdkipnfmnaaGreatDoor.range

namespace Go.Proofs.YteammdkipnfmnaaGreatDoor.range
open Go Go.RowKit Go.Proofs.YteammdkipnfmnaaGreatDoor.base Go.Proofs.YteammdkipnfmnaaGreatDoor.pairs Go.Proofs.YteammdkipnfmnaaGreatDoor.tree Go.Proofs.YteammdkipnfmnaaGreatDoor.helps
set_option linter.unusedVariables false
set_option linter.unusedSimpArgs false

end Go.Proofs.YteammdkipnfmnaaGreatDoor.range

namespace Go.Proofs.YteammdkipnfmnaaGreatDoor.bun
open Go Go.RowKit Go.Proofs.YteammdkipnfmnaaGreatDoor.base Go.Proofs.YteammdkipnfmnaaGreatDoor.pairs Go.Proofs.YteammdkipnfmnaaGreatDoor.lay Go.Proofs.YteammdkipnfmnaaGreatDoor.range Go.Proofs.YteammdkipnfmnaaGreatDoor.seals
set_option linter.unusedVariables false
set_option linter.unusedSimpArgs false

end Go.Proofs.YteammdkipnfmnaaGreatDoor.bun

namespace Go.Proofs.YteammdkipnfmnaaGreatDoor.seals
open Go Go.RowKit Go.Proofs.YteammdkipnfmnaaGreatDoor.base Go.Proofs.YteammdkipnfmnaaGreatDoor.pairs Go.Proofs.YteammdkipnfmnaaGreatDoor.lay
set_option linter.unusedVariables false
set_option linter.unusedSimpArgs false

end Go.Proofs.YteammdkipnfmnaaGreatDoor.seals

namespace Go.Proofs.YteammdkipnfmnaaGreatDoor.seals
open Go Go.RowKit Go.Proofs.YteammdkipnfmnaaGreatDoor.base Go.Proofs.YteammdkipnfmnaaGreatDoor.pairs Go.Proofs.YteammdkipnfmnaaGreatDoor.lay
set_option linter.unusedVariables false
set_option linter.unusedSimpArgs false

end Go.Proofs.YteammdkipnfmnaaGreatDoor.seals

namespace Go.Proofs.YteammdkipnfmnaaGreatDoor.bun
open Go Go.RowKit Go.Proofs.YteammdkipnfmnaaGreatDoor.base Go.Proofs.YteammdkipnfmnaaGreatDoor.pairs Go.Proofs.YteammdkipnfmnaaGreatDoor.lay Go.Proofs.YteammdkipnfmnaaGreatDoor.range Go.Proofs.YteammdkipnfmnaaGreatDoor.seals
set_option linter.unusedVariables false
set_option linter.unusedSimpArgs false

end Go.Proofs.YteammdkipnfmnaaGreatDoor.bun

namespace Go.Proofs.YteammdkipnfmnaaGreatDoor.range
open Go Go.RowKit Go.Proofs.YteammdkipnfmnaaGreatDoor.base Go.Proofs.YteammdkipnfmnaaGreatDoor.pairs Go.Proofs.YteammdkipnfmnaaGreatDoor.tree Go.Proofs.YteammdkipnfmnaaGreatDoor.helps
set_option linter.unusedVariables false
set_option linter.unusedSimpArgs false



end Go.Proofs.YteammdkipnfmnaaGreatDoor.range

namespace Go.Proofs.YteammdkipnfmnaaGreatDoor.bun
open Go Go.RowKit Go.Proofs.YteammdkipnfmnaaGreatDoor.base Go.Proofs.YteammdkipnfmnaaGreatDoor.pairs Go.Proofs.YteammdkipnfmnaaGreatDoor.lay Go.Proofs.YteammdkipnfmnaaGreatDoor.range Go.Proofs.YteammdkipnfmnaaGreatDoor.seals
set_option linter.unusedVariables false
set_option linter.unusedSimpArgs false

section
variable {w w' : World} {us : List Value} {x : Pf} {F : List Nat}
end
end Go.Proofs.YteammdkipnfmnaaGreatDoor.bun

namespace Go.Proofs.YteammdkipnfmnaaGreatDoor.bun
open Go Go.RowKit Go.Proofs.YteammdkipnfmnaaGreatDoor.base Go.Proofs.YteammdkipnfmnaaGreatDoor.pairs Go.Proofs.YteammdkipnfmnaaGreatDoor.lay Go.Proofs.YteammdkipnfmnaaGreatDoor.range Go.Proofs.YteammdkipnfmnaaGreatDoor.seals
set_option linter.unusedVariables false
set_option linter.unusedSimpArgs false

end Go.Proofs.YteammdkipnfmnaaGreatDoor.bun

namespace Go.Proofs.YteammdkipnfmnaaGreatDoor.pairs
open Go Go.RowKit Go.Proofs.YteammdkipnfmnaaGreatDoor.base Go.Proofs.YteammdkipnfmnaaGreatDoor.helps
set_option linter.unusedVariables false
set_option linter.unusedSimpArgs false

section
variable {w0 w w' : World} {gx lx cx gg lg cg gw lw cw : Nat} {X G W : List Pr}
end

/-! ### arguments -/
end Go.Proofs.YteammdkipnfmnaaGreatDoor.pairs

namespace Go.Proofs.YteammdkipnfmnaaGreatDoor.bun
open Go Go.RowKit Go.Proofs.YteammdkipnfmnaaGreatDoor.base Go.Proofs.YteammdkipnfmnaaGreatDoor.pairs Go.Proofs.YteammdkipnfmnaaGreatDoor.lay Go.Proofs.YteammdkipnfmnaaGreatDoor.range Go.Proofs.YteammdkipnfmnaaGreatDoor.seals
set_option linter.unusedVariables false
set_option linter.unusedSimpArgs false

section
variable {w0 w w' : World} {A bx : Nat} {av us : List Value} {X : Bun} {FX : List Nat} {S G : List Pr} {gw lw cw gg lg cg : Nat}
end
def ImplCheck : Prop := ∀ (super lo hi : ByteArray) (ra : Option Addr) (rn rc : Nat) (pa : Option Addr) (pn pc : Nat) (x : Bun) (w : World), (Lit.int .i64 x.1).wf = true → super.size ≤ 1048576 → lo.size ≤ 1048576 → hi.size ≤ 1048576 → x.2.1.size ≤ 1048576 → SlS w ra rn x.2.2.1 → x.2.2.1.length + puttexts.sum x.2.2.1 ≤ 1048576 → PJ w pa pn x.2.2.2 → (∀ f ∈ x.2.2.2, f.2.2.length ≤ 1048576) → rn ≤ rc → pn ≤ pc → sha.KW w →
  Calls Tryz.prog 7 #[.string super, .string lo, .string hi, .agg #[.int .i64 x.1, .string x.2.1, .slice ra rn rc, .slice pa pn pc]] w (CPost w (checkB super lo hi x))
theorem sum_len {super lo hi : ByteArray} {x : Bun} (hps : ∀ f ∈ x.2.2.2, f.2.2.length ≤ 1048576) : ∀ l, checkB super lo hi x = some l → l.length ≤ 8388608 := by
  intro l hl
  unfold checkB at hl
  split at hl
  · rename_i hc
    have key : ∀ k o, sumB x.2.2.1.length lo hi x.2.2.1 x.2.2.2 k = some o → o.length ≤ k * 1048576 := by
      intro k
      induction k with
      | zero => intro o ho; cases ho; exact Nat.zero_le _
      | succ k ih =>
        intro o ho
        unfold sumB at ho
        split at ho
        · rename_i o1 l1 h1 h2
          cases ho
          have h3 := ih o1 h1
          have h4 := union_len o1 l1
          have h5 : l1.length ≤ 1048576 := by
            unfold partB at h2
            split at h2
            · rename_i r f hr hf
              split at h2
              · rename_i l2 hck
                split at h2
                · cases h2
                  exact Nat.le_trans (check_len hck) (hps f (List.mem_of_getElem? hf))
                · cases h2
              · cases h2
            · cases h2
          rw [Nat.add_mul]; omega
        · cases ho
    have := key _ _ hl
    have h8 := hc.2.1.2
    have : x.2.2.1.length * 1048576 ≤ 8 * 1048576 := Nat.mul_le_mul_right _ h8
    omega
  · cases hl
end Go.Proofs.YteammdkipnfmnaaGreatDoor.bun

namespace Go.Proofs.YteammdkipnfmnaaGreatDoor.bun
open Go Go.RowKit Go.Proofs.YteammdkipnfmnaaGreatDoor.base Go.Proofs.YteammdkipnfmnaaGreatDoor.pairs Go.Proofs.YteammdkipnfmnaaGreatDoor.lay Go.Proofs.YteammdkipnfmnaaGreatDoor.range Go.Proofs.YteammdkipnfmnaaGreatDoor.seals
set_option linter.unusedVariables false
set_option linter.unusedSimpArgs false

def foldB (ps : List (List Pr)) : List Pr := ps.foldl unionOf []
theorem foldB_snoc (ps : List (List Pr)) (l : List Pr) : foldB (ps ++ [l]) = unionOf (foldB ps) l := by
  unfold foldB; rw [List.foldl_append]; rfl
theorem foldB_take (ps : List (List Pr)) (k : Nat) (h : k < ps.length) : foldB (ps.take (k + 1)) = unionOf (foldB (ps.take k)) ps[k] := by
  rw [List.take_succ_eq_append_getElem h, foldB_snoc]
theorem foldB_len {ps : List (List Pr)} (h : ∀ l ∈ ps, l.length ≤ 1048576) : ∀ k, k ≤ ps.length → (foldB (ps.take k)).length ≤ k * 1048576 := by
  intro k
  induction k with
  | zero => intro _; exact Nat.le_of_eq rfl
  | succ k ih =>
    intro hk
    have h1 := ih (by omega)
    have h2 := h ps[k] (List.getElem_mem (by omega))
    rw [foldB_take ps k (by omega)]
    have h3 := union_len (foldB (ps.take k)) ps[k]
    rw [Nat.add_mul]; omega
section
variable {n : Nat} {lo hi : ByteArray} {roots : List ByteArray} {proofs : List Pf}
theorem sum_parts {ps : List (List Pr)} (h : ∀ j (hj : j < ps.length), partB n lo hi roots proofs j = some ps[j]) : ∀ k, k ≤ ps.length → sumB n lo hi roots proofs k = some (foldB (ps.take k)) := by
  intro k
  induction k with
  | zero => intro _; rfl
  | succ k ih =>
    intro hk
    rw [sumB_succ (ih (by omega)) (h k (by omega)), foldB_take ps k (by omega)]
theorem part_len {k : Nat} {l : List Pr} (hp : ∀ f ∈ proofs, f.2.2.length ≤ 1048576) (h : partB n lo hi roots proofs k = some l) : l.length ≤ 1048576 := by
  unfold partB at h
  split at h
  · rename_i r f hr hf
    split at h
    · rename_i l2 hck
      split at h
      · cases h
        exact Nat.le_trans (check_len hck) (hp f (List.mem_of_getElem? hf))
      · cases h
    · cases h
  · cases h
end
theorem check_lim {root lo hi : ByteArray} {f : Prf} {l : List Pr} (h : check root lo hi f = some l) (hl : ∀ x ∈ f.items, limI x) : ∀ p ∈ l, p.1.size ≤ 1099511627776 := by
  unfold check at h
  split at h
  · split at h
    · cases h; intro p hp; cases hp
    · cases h
  · split at h
    · cases h
    · split at h
      · cases h
      · split at h
        · cases h
        · cases h
          intro p hp
          unfold between keysOf at hp
          obtain ⟨x, hx, rfl⟩ := List.mem_map.1 (List.mem_filter.1 hp).1
          have := (hl x hx).1.1
          omega
def DPost (w : World) (r : Option (List Pr)) (e : Ending) (w' : World) : Prop :=
  Below w.heap.size w w' ∧ ∃ g n c l, e = .returned (.tuple #[.slice (some ⟨g, 0, none⟩) n c, .bool r.isSome]) ∧ OwnP w' w.heap.size g n c l ∧ (∀ o, r = some o → l = o)
end Go.Proofs.YteammdkipnfmnaaGreatDoor.bun
