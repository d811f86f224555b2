/- What is read of a drawn bundle is kept by draws. The specification's MakeBundle. Tables of the call's own, none of them nil, are read. -/
import Derived.Test.YteammdkipnfmnaaGreatDoorShat
import Derived.Test.YteammdkipnfmnaaGreatDoorShan
import Derived.Test.YteammdkipnfmnaaGreatDoorShak
import Derived.Test.YteammdkipnfmnaaGreatDoorShal
import Derived.Test.YteammdkipnfmnaaGreatDoorShap
import Derived.Deep.CutRange
import Derived.Deep.CutBlock
namespace Go.Proofs.YteammdkipnfmnaaGreatDoor.bun
open Go Go.RowKit Go.Proofs.YteammdkipnfmnaaGreatDoor.base Go.Proofs.YteammdkipnfmnaaGreatDoor.pairs Go.Proofs.YteammdkipnfmnaaGreatDoor.tree Go.Proofs.YteammdkipnfmnaaGreatDoor.lay Go.Proofs.YteammdkipnfmnaaGreatDoor.range Go.Proofs.YteammdkipnfmnaaGreatDoor.seals Go.Proofs.YteammdkipnfmnaaGreatDoor.tabs Go.Proofs.YteammdkipnfmnaaGreatDoor.draw
set_option linter.unusedVariables false
set_option linter.unusedSimpArgs false

section
variable {w0 w w' : World} {gc : Nat} {a : Option Addr} {len cap : Nat} {code : List UInt8}
theorem cur_not (h : Cur w0 w gc a len cap code) {o : Nat} {z1 z2 : Int} {ia : Option Addr} {m c : Nat} (h0 : w.cell? ⟨gc, o, none⟩ = some (.int .i64 z1)) (h1 : w.cell? ⟨gc, o + 1, none⟩ = some (.int .i64 z2)) (h2 : w.cell? ⟨gc, o + 2, none⟩ = some (.slice ia m c)) : False := by
  obtain ⟨_, _, _, _, i, hh, _, _, hrow⟩ := h
  rw [cell_of_row w gc _ _ _ _ hrow] at h0 h1 h2
  match o, h0, h1, h2 with
  | 0, e, _, _ => simp at e
  | 1, _, _, e => simp at e
  | 2, _, e, _ => simp at e
  | n + 3, e, _, _ => simp at e
theorem sls_gc {b : Option Addr} {n k : Nat} {p : List ByteArray} (h : SlS w b n p) (hk : NoStr w k) (hg : w.grownBy w' (some k)) : SlS w' b n p := by
  obtain ⟨h1, h2, h3, h4⟩ := h
  refine ⟨h1, h2, h3, fun h0 => ?_⟩
  obtain ⟨b', o', e, hc⟩ := h4 h0
  exact ⟨b', o', e, fun i hi => hg.cell (hc i hi) (fun e => by cases e; exact hk _ _ (hc i hi))⟩
theorem rj_gc {b : Option Addr} {n : Nat} (h : RJ w b n) (hC : Cur w0 w gc a len cap code) (hg : w.grownBy w' (some gc)) : RJ w' b n := by
  obtain ⟨rs, h1, h2⟩ := h
  exact ⟨rs, sls_gc h1 (cur_noStr hC) hg, h2⟩
theorem fj_gc {b : Option Addr} {n : Nat} (h : FJ w b n) (hC : Cur w0 w gc a len cap code) (hg : w.grownBy w' (some gc)) : FJ w' b n := by
  intro h0
  obtain ⟨b', off, rfl, hc⟩ := h h0
  refine ⟨b', off, rfl, fun i hi => ?_⟩
  obtain ⟨z1, z2, ia, m, ic, c0, c1, c2, hm, k1, k2, its, hJ, ht⟩ := hc i hi
  have hne : (some b' : Option Nat) ≠ some gc := fun e => by cases e; exact cur_not hC c0 c1 c2
  exact ⟨z1, z2, ia, m, ic, hg.cell c0 hne, hg.cell c1 hne, hg.cell c2 hne, hm, k1, k2, its, slJ_keep hJ (cur_noStr hC) hg, ht⟩
theorem pj_gc {b : Option Addr} {n : Nat} {L : List Pf} (h : PJ w b n L) (hC : Cur w0 w gc a len cap code) (hg : w.grownBy w' (some gc)) : PJ w' b n L := by
  obtain ⟨h1, h2, h3⟩ := h
  refine ⟨h1, h2, fun h0 => ?_⟩
  obtain ⟨b', off, e, hc⟩ := h3 h0
  refine ⟨b', off, e, fun i hi => ?_⟩
  obtain ⟨ia, ic, c0, c1, c2, hJ, k1, k2⟩ := hc i hi
  have hne : (some b' : Option Nat) ≠ some gc := fun e => by cases e; exact cur_not hC c0 c1 c2
  exact ⟨ia, ic, hg.cell c0 hne, hg.cell c1 hne, hg.cell c2 hne, slJ_keep hJ (cur_noStr hC) hg, k1, k2⟩
theorem fj_pjw {b : Option Addr} {n : Nat} {L : List Pf} (h : PJ w b n L) (ht : ∀ f ∈ L, tinyF f) : FJ w b n := by
  intro h0
  obtain ⟨b', off, e, hc⟩ := h.2.2 h0
  have hl := h.1
  refine ⟨b', off, e, fun i hi => ?_⟩
  obtain ⟨ia, ic, c0, c1, c2, hJ, k1, k2⟩ := hc i (by omega)
  have hm := ht L[i] (List.getElem_mem (by omega))
  exact ⟨_, _, ia, _, ic, c0, c1, c2, by have := hm.2.2.1; omega, k1, k2, _, hJ, fun x hx => tinyJ_itS (hm.2.2.2 x hx)⟩
end
def smallB (y : Bun) : Prop := (0 ≤ y.1 ∧ y.1 ≤ 50) ∧ sm64 y.2.1 ∧ (y.2.2.1.length ≤ 8 ∧ ∀ r ∈ y.2.2.1, sm64 r) ∧ y.2.2.2.length ≤ 8 ∧ ∀ f ∈ y.2.2.2, tinyF f
theorem makeB_small (lo hi : ByteArray) (x : Seal) (ts : List (List Pr)) (h1 : 1 ≤ x.1 ∧ x.1 ≤ 3) (h2 : x.2.1.size = 32) (h3 : ∀ r ∈ x.2.2.2, r.size = 32) (h4 : x.2.2.2.length ≤ 3) (h5 : ∀ t ∈ ts, t.length ≤ 8 ∧ ∀ p ∈ t, tiny p) : smallB (makeB lo hi x ts) := by
  unfold makeB
  split
  · rename_i he
    refine ⟨⟨by simp only []; omega, by simp only []; omega⟩, by simp only []; unfold sm64; omega, ⟨by simp only []; omega, fun r hr => by unfold sm64; have := h3 r hr; omega⟩, by simp only [List.length_map]; omega, fun f hf => ?_⟩
    obtain ⟨t, ht, rfl⟩ := List.mem_map.1 hf
    have := prove_small t lo hi (h5 t ht).1 (h5 t ht).2
    exact ⟨this.1, this.2.1, this.2.2.1, this.2.2.2⟩
  · refine ⟨by simp, by unfold sm64; decide, ⟨by simp, fun r hr => absurd hr List.not_mem_nil⟩, by simp, fun f hf => absurd hf List.not_mem_nil⟩
def GotCB (w : World) (e : Ending) (w' : World) : Prop :=
  ∃ (su lo hi : ByteArray) (no : Int) (pv : ByteArray) (ra : Option Addr) (rn rc : Nat) (pa : Option Addr) (pn pc : Nat), e = .returned (.tuple #[.string su, .string lo, .string hi, .agg #[.int .i64 no, .string pv, .slice ra rn rc, .slice pa pn pc]]) ∧ su.size = 32 ∧ lo.size ≤ 13 ∧ hi.size ≤ 13 ∧ (0 ≤ no ∧ no ≤ 100) ∧ sm64 pv ∧ RJ w' ra rn ∧ rn ≤ 9 ∧ rn ≤ rc ∧ FJ w' pa pn ∧ pn ≤ 9 ∧ pn ≤ pc ∧ Below w.heap.size w w'
structure DSt (w wr : World) (gc : Nat) (a : Option Addr) (len cap : Nat) (code : List UInt8) (S R B : Nat) (su : ByteArray) (no : Int) (pv : ByteArray) (ra : Option Addr) (rn rc : Nat) (pa : Option Addr) (pn pc : Nat) : Prop where
  cur : Cur w wr gc a len cap code
  sup : ∃ v0 v1 v3, BoxIn S 49 [] [v0, v1, .string su, v3] [] wr
  ret : BoxB R 0 ⟨#[]⟩ (.slice none 0 0) (.slice none 0 0) wr
  box : BoxB B no pv (.slice ra rn rc) (.slice pa pn pc) wr
  rj : RJ wr ra rn
  fj : FJ wr pa pn
  ne : S ≠ gc ∧ R ≠ gc ∧ B ≠ gc ∧ S ≠ B ∧ R ≠ B ∧ w.heap.size ≤ R ∧ w.heap.size ≤ B
  bnd : (0 ≤ no ∧ no ≤ 100) ∧ sm64 pv ∧ (rn ≤ 9 ∧ rn ≤ rc) ∧ pn ≤ 9 ∧ pn ≤ pc
section
variable {w wr w' : World} {gc : Nat} {a : Option Addr} {len cap : Nat} {code : List UInt8} {S R B : Nat} {su : ByteArray} {no no' : Int} {pv pv' : ByteArray} {ra pa ra' pa' : Option Addr} {rn rc pn pc rn' rc' pn' pc' : Nat}
theorem DSt.drawn (h : DSt w wr gc a len cap code S R B su no pv ra rn rc pa pn pc) (hC : Cur w w' gc a len cap code) (hg : wr.grownBy w' (some gc)) : DSt w w' gc a len cap code S R B su no pv ra rn rc pa pn pc := by
  obtain ⟨v0, v1, v3, hs⟩ := h.sup
  exact ⟨hC, ⟨v0, v1, v3, hs.grown hg (fun e => h.ne.1 (Option.some.inj e))⟩, h.ret.grown hg (fun e => h.ne.2.1 (Option.some.inj e)), h.box.grown hg (fun e => h.ne.2.2.1 (Option.some.inj e)), rj_gc h.rj h.cur hg, fj_gc h.fj h.cur hg, h.ne, h.bnd⟩
theorem DSt.put (h : DSt w wr gc a len cap code S R B su no pv ra rn rc pa pn pc) (hr : RJ wr ra' rn') (hf : FJ wr pa' pn') (hb : (0 ≤ no' ∧ no' ≤ 100) ∧ sm64 pv' ∧ (rn' ≤ 9 ∧ rn' ≤ rc') ∧ pn' ≤ 9 ∧ pn' ≤ pc') : DSt w (putAll wr B 0 [.int .i64 no', .string pv', .slice ra' rn' rc', .slice pa' pn' pc']) gc a len cap code S R B su no' pv' ra' rn' rc' pa' pn' pc' := by
  obtain ⟨v0, v1, v3, hs⟩ := h.sup
  have hS := h.box.whole [.int .i64 no', .string pv', .slice ra' rn' rc', .slice pa' pn' pc'] rfl
  have hn := h.ne
  exact ⟨h.cur.grown hS.2 (fun e => hn.2.2.1 (Option.some.inj e).symm) (fun k e => by have := Option.some.inj e; omega), ⟨v0, v1, v3, hs.grown hS.2 (fun e => hn.2.2.2.1 (Option.some.inj e))⟩, h.ret.grown hS.2 (fun e => hn.2.2.2.2.1 (Option.some.inj e)), hS.1, rj_box hr h.box hS.1 hb.2.1 hS.2, fj_box hf h.box hS.1 hb.2.1 hS.2, hn, hb⟩
theorem DSt.done {lo hi : ByteArray} (h : DSt w wr gc a len cap code S R B su no pv ra rn rc pa pn pc) (hs : su.size = 32) (hl : lo.size ≤ 13) (hh : hi.size ≤ 13) :
    BoxB R no pv (.slice ra rn rc) (.slice pa pn pc) (putAll wr R 0 [.int .i64 no, .string pv, .slice ra rn rc, .slice pa pn pc]) ∧ GotCB w (.returned (.tuple #[.string su, .string lo, .string hi, .agg #[.int .i64 no, .string pv, .slice ra rn rc, .slice pa pn pc]])) (putAll wr R 0 [.int .i64 no, .string pv, .slice ra rn rc, .slice pa pn pc]) := by
  have hS := h.ret.whole [.int .i64 no, .string pv, .slice ra rn rc, .slice pa pn pc] rfl
  have hn := h.ne
  have hb := h.bnd
  exact ⟨hS.1, su, lo, hi, no, pv, ra, rn, rc, pa, pn, pc, rfl, hs, hl, hh, hb.1, hb.2.1, rj_box h.rj h.ret hS.1 hb.2.1 hS.2, hb.2.2.1.1, hb.2.2.1.2, fj_box h.fj h.ret hS.1 hb.2.1 hS.2, hb.2.2.2.1, hb.2.2.2.2, h.cur.2.1.grown hS.2 h.cur.2.1.size (fun k e => by have := Option.some.inj e; omega)⟩
end
end Go.Proofs.YteammdkipnfmnaaGreatDoor.bun

namespace Go.Proofs.YteammdkipnfmnaaGreatDoor.bun
open Go Go.RowKit Go.Proofs.YteammdkipnfmnaaGreatDoor.base Go.Proofs.YteammdkipnfmnaaGreatDoor.pairs Go.Proofs.YteammdkipnfmnaaGreatDoor.tree Go.Proofs.YteammdkipnfmnaaGreatDoor.lay Go.Proofs.YteammdkipnfmnaaGreatDoor.range Go.Proofs.YteammdkipnfmnaaGreatDoor.seals Go.Proofs.YteammdkipnfmnaaGreatDoor.tabs
set_option linter.unusedVariables false
set_option linter.unusedSimpArgs false

set_option maxRecDepth 100000 in
set_option maxHeartbeats 16000000 in
theorem spec_makeBundle (lo hi : ByteArray) (ra : Option Addr) (rn rc : Nat) (x : Seal) (ta : Option Addr) (tn tc : Nat) (ts : List (List Pr)) (w : World) (hno : (Lit.int .i64 x.1).wf = true) (hp : x.2.1.size ≤ maxLen) (hR : SlS w ra rn x.2.2.2) (hrc : rn ≤ rc) (hrl : rn ≤ 1048576) (hT : TN w ta tn ts) (hlim : ∀ t ∈ ts, ∀ p ∈ t, lim p) :
    Calls Tryz.prog 20 #[.agg #[.int .i64 x.1, .string x.2.1, .string x.2.2.1, .slice ra rn rc], .slice ta tn tc, .string lo, .string hi] w (RetR bundleR w (makeB lo hi x ts)) := by
  obtain ⟨no, pv, su, rs⟩ := x
  simp only [] at *
  obtain rfl : rs.length = rn := hR.1
  obtain rfl : ts.length = tn := hT.1
  have htm := hT.2.1
  unfold maxLen at htm
  obtain ⟨W1, hW1⟩ : ∃ W, w.alloc (.cells #[.int .i64 no, .string pv, .string su, .slice ra rs.length rc] 49) = W := ⟨_, rfl⟩
  obtain ⟨W, hW2⟩ : ∃ W, W1.alloc (.cells #[.int .i64 0, .string ⟨#[]⟩, .slice none 0 0, .slice none 0 0] 27) = W := ⟨_, rfl⟩
  have hs1 : W1.heap.size = w.heap.size + 1 := by rw [← hW1]; simp
  have q1 : Below w.heap.size w W1 := by rw [← hW1]; exact below_make
  have q2 : Below W1.heap.size W1 W := by rw [← hW2]; exact below_make
  have hB := q1.trans (q2.mono q1.size)
  have hA1 : BoxIn w.heap.size 49 [] [.int .i64 no, .string pv, .string su, .slice ra rs.length rc] [] W1 := by rw [← hW1]; exact boxIn_new w _ _
  have hA := hA1.below q2
  have hRb : BoxIn W1.heap.size 27 [] [.int .i64 0, .string ⟨#[]⟩, .slice none 0 0, .slice none 0 0] [] W := by rw [← hW2]; exact boxIn_new W1 _ _
  rw [hs1] at hRb
  have HWW : Hid ((w.alloc (.cells #[.int .i64 no, .string pv, .string su, .slice ra rs.length rc] 49)).alloc (.cells #[.int .i64 0, .string ⟨#[]⟩, .slice none 0 0, .slice none 0 0] 27) = W) := by show _ = _; rw [hW1, hW2]
  obtain ⟨a0, a1, a2, a3⟩ := box4 hA
  rw [← HWW.out] at a0 a1 a2 a3
  by_cases hne : (ts.length : Int) = (rs.length : Int)
  rotate_left
  · have hq : ((ts.length : Int) != (rs.length : Int)) = true := by simp; omega
    have HM : Hid (makeB lo hi (no, pv, su, rs) ts = (0, ⟨#[]⟩, [], [])) := by show _ = _; unfold makeB; rw [if_neg (fun e => hne (by simp only [] at e; omega))]
    obtain ⟨r0, r1, r2, r3⟩ := box4 hRb
    have f0 := hRb.fz 0
    have f1 := hRb.fz 1
    have f2 := hRb.fz 2
    have f3 := hRb.fz 3
    have hS := hRb.whole [.int .i64 0, .string ⟨#[]⟩, .slice none 0 0, .slice none 0 0] rfl
    obtain ⟨u0, u1, u2, u3⟩ := box4 hS.1
    simp only [putAll, Nat.zero_add, Nat.reduceAdd] at u0 u1 u2 u3
    have HBz := Hid.mk' (hB.grown hS.2 hB.size (fun k e => by cases e; omega))
    simp only [putAll, Nat.zero_add, Nat.reduceAdd] at HBz
    clear hS hne hT hR hlim hW1 hW2
    go_enter Tryz.func20, Tryz.ntmps20
    go_upto_region 2 with fail
    rw [HWW.out]
    go_wp2_with fail
    refine bodyPost_ret (v := .agg #[.int .i64 0, .string ⟨#[]⟩, .slice none 0 0, .slice none 0 0]) ?_ rfl ?_
    · simp [results, Tryz.results20, go_sem, u0, u1, u2, u3]
    · rw [HM.out]
      exact ⟨[.int .i64 0, .string ⟨#[]⟩, .slice none 0 0, .slice none 0 0], [], rfl, bundle_own.2 ⟨_, _, [], [], rfl, rfl, by decide, by unfold maxLen; decide, own_nilB _ _ _, own_nilB _ _ _, List.nodup_nil⟩, fun k hk => absurd hk List.not_mem_nil, HBz.out⟩
  have hq : ((ts.length : Int) != (rs.length : Int)) = false := by simp; omega
  have HM : Hid (makeB lo hi (no, pv, su, rs) ts = (no, pv, rs, ts.map (pfOf lo hi))) := by show _ = _; unfold makeB; rw [if_pos (by simp only []; omega)]
  have htl : ts.length ≤ 1048576 := by omega
  have HTN := Hid.mk' hT
  obtain ⟨ra', n', c', e, _, hG0⟩ := texts_see.2 ⟨hR.below hB, hrc⟩
  simp only [List.cons.injEq, Value.slice.injEq, and_true] at e
  obtain ⟨rfl, rfl, rfl⟩ := e
  have HG0 := Hid.mk' hG0
  have HLM := Hid.mk' hlim
  clear hne hT hR hG0 hlim hW1 hW2 q1 q2 hA1
  go_enter Tryz.func20, Tryz.ntmps20
  go_upto_region 3 with fail
  rw [HWW.out]
  clear a0 a1 a2 a3 HWW
  obtain ⟨a0, a1, a2, a3⟩ := box4 hA
  go_cut [9] from 18 to 26 (fun sx wx => ∃ X g c, sx = .pointer (some ⟨X, 0, none⟩) ∧ MSt w wx X (w.heap.size + 1) no pv g rs.length c rs (.slice none 0 0) [] [])
  case first =>
    have hdW : Below W.heap.size W W.drew := (Below.refl _ _).drew
    refine last.wp_region_later (S := fun w' => BoxIn w.heap.size 49 [] [.int .i64 no, .string pv, .string su, .slice ra rs.length rc] [] w') 10 (by kernel_rfl) (hA.below hdW) (fun hHeld0 => ?_)
    have hBD := hB.trans (hdW.mono hB.size)
    have hRD := hRb.below hdW
    have hAD := hA.below hdW
    have hGD := HG0.out.below hdW
    have hsD : w.heap.size + 2 ≤ W.drew.heap.size := by have := hRD.lt; omega
    generalize hD : W.drew = D at *
    clear hD
    refine last.wpAnyL_take (i := 0) (v := (.pointer (some ⟨w.heap.size, 0, none⟩))) rfl rfl (by kernel_rfl) (by kernel_rfl) (by kernel_rfl) (by kernel_rfl) (fun _ _ _ h => h) (Or.inl ⟨by rfl, ?_⟩) (by assumption) ?_
    · intro wq hSq; go_simp
    try simp only [Act.put, List.setIfInBounds_toArray, List.set_cons_zero, List.set_cons_succ]
    refine last.wpAnyL_take (i := 1) (v := (.int .i64 no)) rfl rfl (by kernel_rfl) (by kernel_rfl) (by kernel_rfl) (by kernel_rfl) (fun _ _ _ h => h) (Or.inl ⟨by rfl, ?_⟩) (by assumption) ?_
    · intro wq hSq; have q := (box4 hSq).1; go_simp
    try simp only [Act.put, List.setIfInBounds_toArray, List.set_cons_zero, List.set_cons_succ]
    refine last.wpAnyL_take (i := 2) (v := (.pointer (some ⟨w.heap.size, 1, none⟩))) rfl rfl (by kernel_rfl) (by kernel_rfl) (by kernel_rfl) (by kernel_rfl) (fun _ _ _ h => h) (Or.inl ⟨by rfl, ?_⟩) (by assumption) ?_
    · intro wq hSq; go_simp
    try simp only [Act.put, List.setIfInBounds_toArray, List.set_cons_zero, List.set_cons_succ]
    refine last.wpAnyL_take (i := 3) (v := (.string pv)) rfl rfl (by kernel_rfl) (by kernel_rfl) (by kernel_rfl) (by kernel_rfl) (fun _ _ _ h => h) (Or.inl ⟨by rfl, ?_⟩) (by assumption) ?_
    · intro wq hSq; have q := (box4 hSq).2.1; go_simp
    try simp only [Act.put, List.setIfInBounds_toArray, List.set_cons_zero, List.set_cons_succ]
    refine last.wpAnyL_take (i := 5) (v := (.pointer (some ⟨w.heap.size, 3, none⟩))) rfl rfl (by kernel_rfl) (by kernel_rfl) (by kernel_rfl) (by kernel_rfl) (fun _ _ _ h => h) (Or.inl ⟨by rfl, ?_⟩) (by assumption) ?_
    · intro wq hSq; go_simp
    try simp only [Act.put, List.setIfInBounds_toArray, List.set_cons_zero, List.set_cons_succ]
    refine last.wpAnyL_take (i := 6) (v := (.slice ra rs.length rc)) rfl rfl (by kernel_rfl) (by kernel_rfl) (by kernel_rfl) (by kernel_rfl) (fun _ _ _ h => h) (Or.inl ⟨by rfl, ?_⟩) (by assumption) ?_
    · intro wq hSq; have q := (box4 hSq).2.2.2; go_simp
    try simp only [Act.put, List.setIfInBounds_toArray, List.set_cons_zero, List.set_cons_succ]
    refine last.wpAnyL_two (i := 4) (j := 9) (o := { dst := some 22, op := Op.buildSlice 24 0 #[], type := 24, pos := "l16_bundle.go:9", after := #[], guard := none }) (o' := { dst := some 9, op := Op.alloc 27, type := 0, pos := "l16_bundle.go:9", after := #[], guard := none }) (by kernel_rfl) rfl rfl (fun K hK => ?_) (fun K hK => ?_)
    · go_simp
      obtain ⟨V1, hV1⟩ : ∃ V, D.alloc (.cells #[] 9) = V := ⟨_, rfl⟩
      have hbV1 : Below D.heap.size D V1 := by rw [← hV1]; exact below_make
      have hrow : V1.ownsRow 0 9 1 (.slice (some ⟨D.heap.size, 0, none⟩) 0 0) 0 [] := by rw [← hV1]; exact World.ownsRow_made D #[] 0 (Nat.zero_le _) (Nat.zero_le _) (by simp)
      rw [hV1]
      refine hK.out _ _ ?_ (fun hHeld => ?_)
      · exact hAD.below hbV1
      clear hK K hHeld0
      have hHeld0 := hHeld
      clear hHeld
      try simp only [Act.put, List.setIfInBounds_toArray, List.set_cons_zero, List.set_cons_succ]
      refine last.wpAnyL_two (i := 7) (j := 9) (o := { dst := some 25, op := Op.call { callee := Callee.builtin Builtin.append, args := #[Operand.tmp 22, Operand.tmp 24], argTypes := #[24, 24] }, type := 24, pos := "l16_bundle.go:9", after := #[{ on := 4, ground := Ground.data }, { on := 6, ground := Ground.data }], guard := none }) (o' := { dst := some 9, op := Op.alloc 27, type := 0, pos := "l16_bundle.go:9", after := #[], guard := none }) (by kernel_rfl) rfl rfl (fun K hK => ?_) (fun K hK => ?_)
      · obtain ⟨gR, cR, w2, hrun, hTx, hgr, hat⟩ := copy_strs (c := rc) hrow (hGD.below hbV1) (by omega) 24
        refine cos.step_append_run rfl (.tmp 22) (.tmp 24) 24 rfl (by kernel_rfl) (by kernel_rfl) hrun ?_
        clear hrun
        have hg2 : D.heap.size ≤ gR := by have := hbV1.size; rcases hat with e | e <;> omega
        have hA2 := (hAD.below hbV1).grown hgr (fun e => by simp only [Option.some.injEq] at e; omega)
        have hR2 := (hRD.below hbV1).grown hgr (fun e => by simp only [Option.some.injEq] at e; omega)
        have hB2 := (hBD.trans (hbV1.mono hBD.size)).grown hgr (Nat.le_trans hBD.size hbV1.size) (fun k e => by cases e; omega)
        have hs2 := hgr.size
        have hsV1 := hbV1.size
        refine hK.out _ _ ?_ (fun hHeld => ?_)
        · exact hA2
        clear hK K hHeld0
        have hHeld0 := hHeld
        clear hHeld
        try simp only [Act.put, List.setIfInBounds_toArray, List.set_cons_zero, List.set_cons_succ]
        refine last.wpAnyL_take (i := 8) (v := (.agg #[.int .i64 no, .string pv, .slice (some ⟨gR, 0, none⟩) rs.length cR, .slice none 0 0])) rfl rfl (by kernel_rfl) (by kernel_rfl) (by kernel_rfl) (by kernel_rfl) (fun _ _ _ h => h) (Or.inl ⟨by rfl, ?_⟩) (by assumption) ?_
        · intro wq hSq; go_simp
        try simp only [Act.put, List.setIfInBounds_toArray, List.set_cons_zero, List.set_cons_succ]
        refine last.wpAnyL_one (i := 9) (o := { dst := some 9, op := Op.alloc 27, type := 0, pos := "l16_bundle.go:9", after := #[], guard := none }) (by kernel_rfl) rfl (fun K hK => ?_)
        go_simp
        obtain ⟨V3, hV3⟩ : ∃ V, w2.alloc (.cells #[.int .i64 0, .string ⟨#[]⟩, .slice none 0 0, .slice none 0 0] 27) = V := ⟨_, rfl⟩
        have hbV3 : Below w2.heap.size w2 V3 := by rw [← hV3]; exact below_make
        have hX : BoxIn w2.heap.size 27 [] [.int .i64 0, .string ⟨#[]⟩, .slice none 0 0, .slice none 0 0] [] V3 := by rw [← hV3]; exact boxIn_new w2 _ _
        have hsV3 : w2.heap.size + 1 ≤ V3.heap.size ∧ V3.heap.size ≤ w2.heap.size + 1 := by rw [← hV3]; simp
        rw [hV3]
        refine hK.out _ _ ?_ (fun hHeld => ?_)
        · exact hA2.below hbV3
        clear hK K hHeld0
        have hHeld0 := hHeld
        clear hHeld
        try simp only [Act.put, List.setIfInBounds_toArray, List.set_cons_zero, List.set_cons_succ]
        have hBf := hB2.trans (hbV3.mono hB2.size)
        have hRf := hR2.below hbV3
        have hTf := textsR.ownBelow hTx hbV3
        have hXf := hX
        have hgl := textsR.ownLt hTx gR (by simp)
        have HM3 := Hid.mk' (MSt.start (no := no) (pv := pv) hBf hXf hRf hTf (by omega) (by omega) (by omega) (by omega) (by omega) (by omega))
        simp only [putAll, Nat.zero_add, Nat.reduceAdd] at HM3
        refine last.wpAnyL_last (o := { dst := none, op := Op.store 27 (Operand.tmp 9) (Operand.tmp 26), type := 0, pos := "l16_bundle.go:9", after := #[{ on := 9, ground := Ground.data }, { on := 8, ground := Ground.data }, { on := 7, ground := Ground.chain }, { on := 0, ground := Ground.phase }, { on := 1, ground := Ground.phase }, { on := 2, ground := Ground.phase }, { on := 3, ground := Ground.phase }, { on := 4, ground := Ground.phase }, { on := 5, ground := Ground.phase }, { on := 6, ground := Ground.phase }, { on := 7, ground := Ground.phase }, { on := 8, ground := Ground.phase }, { on := 9, ground := Ground.phase }], guard := none }) (by kernel_rfl) rfl (by kernel_rfl) (fun K hK => ?_)
        obtain ⟨z0, z1, z2, z3⟩ := box4 hXf
        have f0 := hXf.fz 0
        have f1 := hXf.fz 1
        have f2 := hXf.fz 2
        have f3 := hXf.fz 3
        go_simp
        refine hK.out _ _ ?_
        clear hK K
        go_wp2_with fail
        go_meet
        exact ⟨_, _, _, rfl, HM3.out⟩
      · go_simp
        obtain ⟨V2, hV2⟩ : ∃ V, V1.alloc (.cells #[.int .i64 0, .string ⟨#[]⟩, .slice none 0 0, .slice none 0 0] 27) = V := ⟨_, rfl⟩
        have hbV2 : Below V1.heap.size V1 V2 := by rw [← hV2]; exact below_make
        have hX : BoxIn V1.heap.size 27 [] [.int .i64 0, .string ⟨#[]⟩, .slice none 0 0, .slice none 0 0] [] V2 := by rw [← hV2]; exact boxIn_new V1 _ _
        have hsV2 : V1.heap.size + 1 ≤ V2.heap.size ∧ V2.heap.size ≤ V1.heap.size + 1 := by rw [← hV2]; simp
        rw [hV2]
        refine hK.out _ _ ?_ (fun hHeld => ?_)
        · exact (hAD.below hbV1).below hbV2
        clear hK K hHeld0
        have hHeld0 := hHeld
        clear hHeld
        try simp only [Act.put, List.setIfInBounds_toArray, List.set_cons_zero, List.set_cons_succ]
        refine last.wpAnyL_one (i := 7) (o := { dst := some 25, op := Op.call { callee := Callee.builtin Builtin.append, args := #[Operand.tmp 22, Operand.tmp 24], argTypes := #[24, 24] }, type := 24, pos := "l16_bundle.go:9", after := #[{ on := 4, ground := Ground.data }, { on := 6, ground := Ground.data }], guard := none }) (by kernel_rfl) rfl (fun K hK => ?_)
        obtain ⟨gR, cR, w3, hrun, hTx, hgr, hat⟩ := copy_strs (c := rc) (row_belowB hrow hbV2) ((hGD.below hbV1).below hbV2) (by omega) 24
        refine cos.step_append_run rfl (.tmp 22) (.tmp 24) 24 rfl (by kernel_rfl) (by kernel_rfl) hrun ?_
        clear hrun
        have hsV1 := hbV1.size
        have hl1 : D.heap.size < V1.heap.size := by rw [← hV1]; simp
        have hg2 : gR = D.heap.size ∨ V2.heap.size ≤ gR := hat
        have hA3 := ((hAD.below hbV1).below hbV2).grown hgr (fun e => by simp only [Option.some.injEq] at e; omega)
        have hRf := ((hRD.below hbV1).below hbV2).grown hgr (fun e => by simp only [Option.some.injEq] at e; omega)
        have hB12 := (hBD.trans (hbV1.mono hBD.size)).trans (hbV2.mono (Nat.le_trans hBD.size hbV1.size))
        have hBf := hB12.grown hgr hB12.size (fun k e => by cases e; omega)
        have hTf := hTx
        have hXf := hX.grown hgr (fun e => by simp only [Option.some.injEq] at e; omega)
        refine hK.out _ _ ?_ (fun hHeld => ?_)
        · exact hA3
        clear hK K hHeld0
        have hHeld0 := hHeld
        clear hHeld
        try simp only [Act.put, List.setIfInBounds_toArray, List.set_cons_zero, List.set_cons_succ]
        refine last.wpAnyL_take (i := 8) (v := (.agg #[.int .i64 no, .string pv, .slice (some ⟨gR, 0, none⟩) rs.length cR, .slice none 0 0])) rfl rfl (by kernel_rfl) (by kernel_rfl) (by kernel_rfl) (by kernel_rfl) (fun _ _ _ h => h) (Or.inl ⟨by rfl, ?_⟩) (by assumption) ?_
        · intro wq hSq; go_simp
        try simp only [Act.put, List.setIfInBounds_toArray, List.set_cons_zero, List.set_cons_succ]
        have HM3 := Hid.mk' (MSt.start (no := no) (pv := pv) hBf hXf hRf hTf (by omega) (by omega) (by omega) (by omega) (by omega) (by omega))
        simp only [putAll, Nat.zero_add, Nat.reduceAdd] at HM3
        refine last.wpAnyL_last (o := { dst := none, op := Op.store 27 (Operand.tmp 9) (Operand.tmp 26), type := 0, pos := "l16_bundle.go:9", after := #[{ on := 9, ground := Ground.data }, { on := 8, ground := Ground.data }, { on := 7, ground := Ground.chain }, { on := 0, ground := Ground.phase }, { on := 1, ground := Ground.phase }, { on := 2, ground := Ground.phase }, { on := 3, ground := Ground.phase }, { on := 4, ground := Ground.phase }, { on := 5, ground := Ground.phase }, { on := 6, ground := Ground.phase }, { on := 7, ground := Ground.phase }, { on := 8, ground := Ground.phase }, { on := 9, ground := Ground.phase }], guard := none }) (by kernel_rfl) rfl (by kernel_rfl) (fun K hK => ?_)
        obtain ⟨z0, z1, z2, z3⟩ := box4 hXf
        have f0 := hXf.fz 0
        have f1 := hXf.fz 1
        have f2 := hXf.fz 2
        have f3 := hXf.fz 3
        go_simp
        refine hK.out _ _ ?_
        clear hK K
        go_wp2_with fail
        go_meet
        exact ⟨_, _, _, rfl, HM3.out⟩
    · go_simp
      obtain ⟨V1, hV1⟩ : ∃ V, D.alloc (.cells #[.int .i64 0, .string ⟨#[]⟩, .slice none 0 0, .slice none 0 0] 27) = V := ⟨_, rfl⟩
      have hbV1 : Below D.heap.size D V1 := by rw [← hV1]; exact below_make
      have hX : BoxIn D.heap.size 27 [] [.int .i64 0, .string ⟨#[]⟩, .slice none 0 0, .slice none 0 0] [] V1 := by rw [← hV1]; exact boxIn_new D _ _
      have hsV1 : D.heap.size + 1 ≤ V1.heap.size ∧ V1.heap.size ≤ D.heap.size + 1 := by rw [← hV1]; simp
      rw [hV1]
      refine hK.out _ _ ?_ (fun hHeld => ?_)
      · exact hAD.below hbV1
      clear hK K hHeld0
      have hHeld0 := hHeld
      clear hHeld
      try simp only [Act.put, List.setIfInBounds_toArray, List.set_cons_zero, List.set_cons_succ]
      refine last.wpAnyL_one (i := 4) (o := { dst := some 22, op := Op.buildSlice 24 0 #[], type := 24, pos := "l16_bundle.go:9", after := #[], guard := none }) (by kernel_rfl) rfl (fun K hK => ?_)
      go_simp
      obtain ⟨V2, hV2⟩ : ∃ V, V1.alloc (.cells #[] 9) = V := ⟨_, rfl⟩
      have hbV2 : Below V1.heap.size V1 V2 := by rw [← hV2]; exact below_make
      have hrow : V2.ownsRow 0 9 1 (.slice (some ⟨V1.heap.size, 0, none⟩) 0 0) 0 [] := by rw [← hV2]; exact World.ownsRow_made V1 #[] 0 (Nat.zero_le _) (Nat.zero_le _) (by simp)
      rw [hV2]
      refine hK.out _ _ ?_ (fun hHeld => ?_)
      · exact (hAD.below hbV1).below hbV2
      clear hK K hHeld0
      have hHeld0 := hHeld
      clear hHeld
      try simp only [Act.put, List.setIfInBounds_toArray, List.set_cons_zero, List.set_cons_succ]
      refine last.wpAnyL_one (i := 7) (o := { dst := some 25, op := Op.call { callee := Callee.builtin Builtin.append, args := #[Operand.tmp 22, Operand.tmp 24], argTypes := #[24, 24] }, type := 24, pos := "l16_bundle.go:9", after := #[{ on := 4, ground := Ground.data }, { on := 6, ground := Ground.data }], guard := none }) (by kernel_rfl) rfl (fun K hK => ?_)
      obtain ⟨gR, cR, w3, hrun, hTx, hgr, hat⟩ := copy_strs (c := rc) hrow ((hGD.below hbV1).below hbV2) (by omega) 24
      refine cos.step_append_run rfl (.tmp 22) (.tmp 24) 24 rfl (by kernel_rfl) (by kernel_rfl) hrun ?_
      clear hrun
      have hg2 : gR = V1.heap.size ∨ V2.heap.size ≤ gR := hat
      have hl2 : V1.heap.size + 1 ≤ V2.heap.size := by rw [← hV2]; simp
      have hA3 := ((hAD.below hbV1).below hbV2).grown hgr (fun e => by simp only [Option.some.injEq] at e; omega)
      have hRf := ((hRD.below hbV1).below hbV2).grown hgr (fun e => by simp only [Option.some.injEq] at e; omega)
      have hB12 := (hBD.trans (hbV1.mono hBD.size)).trans (hbV2.mono (Nat.le_trans hBD.size hbV1.size))
      have hBf := hB12.grown hgr hB12.size (fun k e => by cases e; omega)
      have hTf := hTx
      have hXf := (hX.below hbV2).grown hgr (fun e => by simp only [Option.some.injEq] at e; omega)
      refine hK.out _ _ ?_ (fun hHeld => ?_)
      · exact hA3
      clear hK K hHeld0
      have hHeld0 := hHeld
      clear hHeld
      try simp only [Act.put, List.setIfInBounds_toArray, List.set_cons_zero, List.set_cons_succ]
      refine last.wpAnyL_take (i := 8) (v := (.agg #[.int .i64 no, .string pv, .slice (some ⟨gR, 0, none⟩) rs.length cR, .slice none 0 0])) rfl rfl (by kernel_rfl) (by kernel_rfl) (by kernel_rfl) (by kernel_rfl) (fun _ _ _ h => h) (Or.inl ⟨by rfl, ?_⟩) (by assumption) ?_
      · intro wq hSq; go_simp
      try simp only [Act.put, List.setIfInBounds_toArray, List.set_cons_zero, List.set_cons_succ]
      have HM3 := Hid.mk' (MSt.start (no := no) (pv := pv) hBf hXf hRf hTf (by omega) (by omega) (by omega) (by omega) (by omega) (by omega))
      simp only [putAll, Nat.zero_add, Nat.reduceAdd] at HM3
      refine last.wpAnyL_last (o := { dst := none, op := Op.store 27 (Operand.tmp 9) (Operand.tmp 26), type := 0, pos := "l16_bundle.go:9", after := #[{ on := 9, ground := Ground.data }, { on := 8, ground := Ground.data }, { on := 7, ground := Ground.chain }, { on := 0, ground := Ground.phase }, { on := 1, ground := Ground.phase }, { on := 2, ground := Ground.phase }, { on := 3, ground := Ground.phase }, { on := 4, ground := Ground.phase }, { on := 5, ground := Ground.phase }, { on := 6, ground := Ground.phase }, { on := 7, ground := Ground.phase }, { on := 8, ground := Ground.phase }, { on := 9, ground := Ground.phase }], guard := none }) (by kernel_rfl) rfl (by kernel_rfl) (fun K hK => ?_)
      obtain ⟨z0, z1, z2, z3⟩ := box4 hXf
      have f0 := hXf.fz 0
      have f1 := hXf.fz 1
      have f2 := hXf.fz 2
      have f3 := hXf.fz 3
      go_simp
      refine hK.out _ _ ?_
      clear hK K
      go_wp2_with fail
      go_meet
      exact ⟨_, _, _, rfl, HM3.out⟩
  obtain ⟨X, g, c, rfl, hM0⟩ := hcut
  clear a0 a1 a2 a3
  have HM0 := Hid.mk' hM0
  clear hM0 hA hRb
  go_wp2_with fail
  go_loopw [10] (fun i wr => ∃ (k : Nat) (v : Value) (q : Parts), k ≤ ts.length ∧ i = .int .i64 (k : Int) ∧ MSt w wr X (w.heap.size + 1) no pv g rs.length c rs v ((ts.take k).map (pfOf lo hi)) q) (fun i _ => ts.length - (intOf i).toNat)
  case atStart => exact ⟨0, _, _, Nat.zero_le _, rfl, HM0.out⟩
  case round =>
    obtain ⟨k, v, q, hk, rfl, hM⟩ := hrel
    by_cases hlt : k < ts.length
    · have hki : (k : Int) < (ts.length : Int) := by omega
      obtain ⟨tb, tf, e, hcl⟩ := HTN.out.2.2 (by omega)
      subst e
      obtain ⟨sg, so, sm, sc, t0, hSl, hsc⟩ := hcl k hlt
      have d0 := (hM.bel.cell (p := ⟨tb, tf + k, none⟩) (World.block_lt_of_cell? w _ t0)).trans t0
      have htbW := World.block_lt_of_cell? w _ t0
      dsimp only at htbW
      have HTK : Hid ((ts.take (k + 1)).map (pfOf lo hi) = (ts.take k).map (pfOf lo hi) ++ [pfOf lo hi ts[k]]) := by show _ = _; rw [List.take_succ_eq_append_getElem hlt, List.map_append]; rfl
      have HTL : Hid (((ts.take k).map (pfOf lo hi)).length = k) := by show _ = _; simp; omega
      have HLK := Hid.mk' (HLM.out ts[k] (List.getElem_mem hlt))
      have hpw := prove_wf ts[k] lo hi
      have HPX : Hid (pfOf lo hi ts[k] = ((prove ts[k] lo hi).n, (prove ts[k] lo hi).fr, (prove ts[k] lo hi).items)) := rfl
      have HPB := Hid.mk' (fun wx (hx : Below w.heap.size w wx) => spec_proveBetween sg so sm sc ts[k] lo hi wx (hSl.below hx) hsc HLK.out)
      generalize (ts.take k).map (pfOf lo hi) = L at *
      generalize pfOf lo hi ts[k] = pf at *
      generalize prove ts[k] lo hi = pr at *
      generalize ts[k] = tk at *
      obtain ⟨fn, ff, its⟩ := pr
      simp only [] at *
      obtain ⟨pa, pn, pc, rfl⟩ := slice_shape (own_mk hM.prf)
      clear hcl t0 hSl
      have hdW : Below wr.heap.size wr wr.drew := (Below.refl _ _).drew
      have hXl := hM.box.lt
      have hTl : tb < wr.heap.size := Nat.lt_of_lt_of_le htbW hM.bel.size
      have hT0 := d0
      have hM1 := hM
      obtain ⟨y0, y1, y2, y3⟩ := box4 hM.box
      go_wp2_with fail
      refine last.wp_region_later (S := fun w' => BoxIn X 27 [] [.int .i64 no, .string pv, .slice (some ⟨g, 0, none⟩) rs.length c, .slice pa pn pc] [] w' ∧ w'.cell? ⟨tb, tf + k, none⟩ = some (.slice (some ⟨sg, so, none⟩) sm sc)) 13 (by kernel_rfl) ⟨hM1.box.below hdW, (hdW.cell (p := ⟨tb, tf + k, none⟩) hTl).trans hT0⟩ (fun hHeld0 => ?_)
      have hMD := hM1.below hdW
      have hTD := (hdW.cell (p := ⟨tb, tf + k, none⟩) hTl).trans hT0
      have hTl2 : tb < wr.drew.heap.size := Nat.lt_of_lt_of_le hTl hdW.size
      have HCB := Hid.mk' (HPB.out wr.drew hMD.bel)
      generalize hD : wr.drew = D at *
      clear hD
      refine last.wpAnyL_take (i := 0) (v := (.pointer (some ⟨X, 3, none⟩))) rfl rfl (by kernel_rfl) (by kernel_rfl) (by kernel_rfl) (by kernel_rfl) (fun _ _ _ h => h) (Or.inl ⟨by rfl, ?_⟩) (by assumption) ?_
      · intro wq hSq; go_simp
      try simp only [Act.put, List.setIfInBounds_toArray, List.set_cons_zero, List.set_cons_succ]
      refine last.wpAnyL_take (i := 1) (v := (.slice pa pn pc)) rfl rfl (by kernel_rfl) (by kernel_rfl) (by kernel_rfl) (by kernel_rfl) (fun _ _ _ h => h) (Or.inl ⟨by rfl, ?_⟩) (by assumption) ?_
      · intro wq hSq; have q := (box4 hSq.1).2.2.2; go_simp
      try simp only [Act.put, List.setIfInBounds_toArray, List.set_cons_zero, List.set_cons_succ]
      refine last.wpAnyL_take (i := 2) (v := (.slice (some ⟨tb, tf, none⟩) ts.length tc)) rfl rfl (by kernel_rfl) (by kernel_rfl) (by kernel_rfl) (by kernel_rfl) (fun _ _ _ h => h) (Or.inl ⟨by rfl, ?_⟩) (by assumption) ?_
      · intro wq hSq; go_simp
      try simp only [Act.put, List.setIfInBounds_toArray, List.set_cons_zero, List.set_cons_succ]
      refine last.wpAnyL_take (i := 3) (v := (.int .i64 (k : Int))) rfl rfl (by kernel_rfl) (by kernel_rfl) (by kernel_rfl) (by kernel_rfl) (fun _ _ _ h => h) (Or.inl ⟨by rfl, ?_⟩) (by assumption) ?_
      · intro wq hSq; go_simp
      try simp only [Act.put, List.setIfInBounds_toArray, List.set_cons_zero, List.set_cons_succ]
      refine last.wpAnyL_take (i := 4) (v := (.pointer (some ⟨tb, tf + k, none⟩))) rfl rfl (by kernel_rfl) (by kernel_rfl) (by kernel_rfl) (by kernel_rfl) (fun _ _ _ h => h) (Or.inl ⟨by rfl, ?_⟩) (by assumption) ?_
      · intro wq hSq; go_simp
      try simp only [Act.put, List.setIfInBounds_toArray, List.set_cons_zero, List.set_cons_succ]
      refine last.wpAnyL_take (i := 5) (v := (.pointer (some ⟨tb, tf + k, none⟩))) rfl rfl (by kernel_rfl) (by kernel_rfl) (by kernel_rfl) (by kernel_rfl) (fun _ _ _ h => h) (Or.inl ⟨by rfl, ?_⟩) (by assumption) ?_
      · intro wq hSq; go_simp
      try simp only [Act.put, List.setIfInBounds_toArray, List.set_cons_zero, List.set_cons_succ]
      refine last.wpAnyL_take (i := 6) (v := (.slice (some ⟨sg, so, none⟩) sm sc)) rfl rfl (by kernel_rfl) (by kernel_rfl) (by kernel_rfl) (by kernel_rfl) (fun _ _ _ h => h) (Or.inl ⟨by rfl, ?_⟩) (by assumption) ?_
      · intro wq hSq; have q := hSq.2; go_simp
      try simp only [Act.put, List.setIfInBounds_toArray, List.set_cons_zero, List.set_cons_succ]
      refine last.wpAnyL_take (i := 7) (v := (.string lo)) rfl rfl (by kernel_rfl) (by kernel_rfl) (by kernel_rfl) (by kernel_rfl) (fun _ _ _ h => h) (Or.inl ⟨by rfl, ?_⟩) (by assumption) ?_
      · intro wq hSq; go_simp
      try simp only [Act.put, List.setIfInBounds_toArray, List.set_cons_zero, List.set_cons_succ]
      refine last.wpAnyL_take (i := 8) (v := (.string hi)) rfl rfl (by kernel_rfl) (by kernel_rfl) (by kernel_rfl) (by kernel_rfl) (fun _ _ _ h => h) (Or.inl ⟨by rfl, ?_⟩) (by assumption) ?_
      · intro wq hSq; go_simp
      try simp only [Act.put, List.setIfInBounds_toArray, List.set_cons_zero, List.set_cons_succ]
      refine last.wpAnyL_one (i := 9) (o := { dst := some 42, op := Op.call { callee := Callee.value (Operand.func 54), args := #[Operand.tmp 39, Operand.tmp 40, Operand.tmp 41], argTypes := #[30, 9, 9] }, type := 64, pos := "l16_bundle.go:11", after := #[{ on := 6, ground := Ground.data }, { on := 7, ground := Ground.data }, { on := 8, ground := Ground.data }], guard := none }) (by kernel_rfl) rfl (fun K hK => ?_)
      refine stepg.call3 rfl 54 (.tmp 39) (.tmp 40) (.tmp 41) _ rfl (fun _ _ => rfl) (.slice (some ⟨sg, so, none⟩) sm sc) (.string lo) (.string hi) (by kernel_rfl) (by kernel_rfl) (by kernel_rfl) _ HCB.out ?_
      rintro e w5 ⟨ia, im, ic, hs, rfl, hI5, hb5⟩
      refine ⟨_, rfl, ?_⟩
      have hM5 := hMD.below hb5
      have hT5 := (hb5.cell (p := ⟨tb, tf + k, none⟩) hTl2).trans hTD
      refine hK.out _ _ ?_ (fun hHeld => ?_)
      · exact ⟨hM5.box, hT5⟩
      clear hK K hHeld0
      have hHeld0 := hHeld
      clear hHeld
      try simp only [Act.put, List.setIfInBounds_toArray, List.set_cons_zero, List.set_cons_succ]
      refine last.wpAnyL_one (i := 10) (o := { dst := some 43, op := Op.buildSlice 25 1 #[(0, Operand.tmp 42)], type := 25, pos := "l16_bundle.go:11", after := #[{ on := 9, ground := Ground.data }], guard := none }) (by kernel_rfl) rfl (fun K hK => ?_)
      go_simp
      obtain ⟨V, hV⟩ : ∃ V, w5.alloc (.cells #[.int .i64 fn, .int .i64 ff, .slice ia im ic] 64) = V := ⟨_, rfl⟩
      have hbv : Below w5.heap.size w5 V := by rw [← hV]; exact below_make
      have hXV : BoxIn w5.heap.size 64 [] [.int .i64 fn, .int .i64 ff, .slice ia im ic] [] V := by rw [← hV]; exact boxIn_new w5 _ _
      have hM6 := hM5.below hbv
      have hT6 := (hbv.cell (p := ⟨tb, tf + k, none⟩) (World.block_lt_of_cell? w5 _ hT5)).trans hT5
      rw [hV]
      refine hK.out _ _ ?_ (fun hHeld => ?_)
      · exact ⟨hM6.box, hT6⟩
      clear hK K hHeld0
      have hHeld0 := hHeld
      clear hHeld
      try simp only [Act.put, List.setIfInBounds_toArray, List.set_cons_zero, List.set_cons_succ]
      refine last.wpAnyL_one (i := 11) (o := { dst := some 44, op := Op.call { callee := Callee.builtin Builtin.append, args := #[Operand.tmp 34, Operand.tmp 43], argTypes := #[25, 25] }, type := 25, pos := "l16_bundle.go:11", after := #[{ on := 1, ground := Ground.data }, { on := 10, ground := Ground.data }, { on := 9, ground := Ground.chain }], guard := none }) (by kernel_rfl) rfl (fun K hK => ?_)
      have hD0 := hMD.bel.size
      have hIl : ∀ k ∈ blkI (.slice ia im ic) hs, D.heap.size ≤ k ∧ k < w5.heap.size := fun k hk => hI5.lt k (mem_blkI.1 hk)
      have hDX : X < D.heap.size := hMD.box.lt
      have hDR : w.heap.size + 1 < D.heap.size := hMD.ret.lt
      have hDG : g < D.heap.size := textsR.ownLt hMD.txt g (by simp)
      have hPr : proofR.own V [.int .i64 fn, .int .i64 ff, .slice ia im ic] (fn, ff, its) (blkI (.slice ia im ic) hs) := proof_own.2 ⟨_, rfl, hpw.1, hpw.2, ⟨_, hs, rfl, rfl, (hI5.below hbv).mono (Nat.zero_le _)⟩⟩
      obtain ⟨gP, cP, w7, hrun, hO7, hgr, hat⟩ := cos.OwnG.appRun (P := Tryz.prog) (z := .agg #[.int .i64 0, .int .i64 0, .slice none 0 0]) Tryz.underlying25 infoPf rfl (by decide) hM6.prf hPr (fun b hb hc => by
        have h1 := (hIl b hb).1
        have h2 := hMD.prf.at_ b hc
        omega) hXV (by rw [HTL.out]; unfold maxLen; omega) (by rw [HTL.out]; omega) 25
      have hM8 := hM6.push hPr (fun b hb => by
        have h1 := (hIl b hb).1
        refine ⟨by omega, by omega, by omega, by omega⟩) hO7 hgr hat
      have hbx7 := hM6.box.grown hgr (fun e => hM6.out.1 (mem_own e.symm))
      have hT7 : w7.cell? ⟨tb, tf + k, none⟩ = some (.slice (some ⟨sg, so, none⟩) sm sc) := hgr.cell hT6 (fun e => by have := hM1.newP tb (mem_own e.symm); omega)
      rw [HTL.out] at hrun hM8
      refine cos.step_append_run rfl (.tmp 34) (.tmp 43) 25 rfl (by kernel_rfl) (by kernel_rfl) hrun ?_
      clear hrun
      refine hK.out _ _ ?_ (fun hHeld => ?_)
      · exact ⟨hbx7, hT7⟩
      clear hK K hHeld0
      have hHeld0 := hHeld
      clear hHeld
      try simp only [Act.put, List.setIfInBounds_toArray, List.set_cons_zero, List.set_cons_succ]
      refine last.wpAnyL_take (i := 12) (v := (.pointer (some ⟨X, 3, none⟩))) rfl rfl (by kernel_rfl) (by kernel_rfl) (by kernel_rfl) (by kernel_rfl) (fun _ _ _ h => h) (Or.inl ⟨by rfl, ?_⟩) (by assumption) ?_
      · intro wq hSq; go_simp
      try simp only [Act.put, List.setIfInBounds_toArray, List.set_cons_zero, List.set_cons_succ]
      refine last.wpAnyL_last (o := { dst := none, op := Op.store 25 (Operand.tmp 45) (Operand.tmp 44), type := 0, pos := "l16_bundle.go:11", after := #[{ on := 12, ground := Ground.data }, { on := 11, ground := Ground.data }, { on := 11, ground := Ground.chain }, { on := 0, ground := Ground.phase }, { on := 1, ground := Ground.phase }, { on := 2, ground := Ground.phase }, { on := 3, ground := Ground.phase }, { on := 4, ground := Ground.phase }, { on := 5, ground := Ground.phase }, { on := 6, ground := Ground.phase }, { on := 7, ground := Ground.phase }, { on := 8, ground := Ground.phase }, { on := 9, ground := Ground.phase }, { on := 10, ground := Ground.phase }, { on := 11, ground := Ground.phase }], guard := none }) (by kernel_rfl) rfl (by kernel_rfl) (fun K hK => ?_)
      obtain ⟨z0, z1, z2, z3⟩ := box4 hbx7
      have f3 := hbx7.fz 3
      go_simp
      refine hK.out _ _ ?_
      clear hK K
      have HM8 : Hid (MSt w (w7.setCell ⟨X, 3, none⟩ (.slice (some ⟨gP, 0, none⟩) (k + 1) cP)) X (w.heap.size + 1) no pv g rs.length c rs (.slice (some ⟨gP, 0, none⟩) (k + 1) cP) ((ts.take (k + 1)).map (pfOf lo hi)) (q ++ [([.int .i64 fn, .int .i64 ff, .slice ia im ic], blkI (.slice ia im ic) hs)])) := by
        show MSt _ _ _ _ _ _ _ _ _ _ _ _ _
        rw [HTK.out, HPX.out]
        exact hM8
      clear hM8 hO7 hgr hat hbx7 hT7 hM6 hM5 hMD hM1 hM hPr hXV hV hbv hb5 hI5 hIl z0 z1 z2 z3 f3
      go_wp2_with fail
      go_roundw
      case rel => exact ⟨k + 1, _, _, by omega, by go_num, HM8.out⟩
      case measure => simp [intOf]; omega
    · have hki : ¬ (k : Int) < (ts.length : Int) := by omega
      rw [List.take_of_length_le (by omega)] at hM
      obtain ⟨pa, pn, pc, rfl⟩ := slice_shape (own_mk hM.prf)
      obtain ⟨y0, y1, y2, y3⟩ := box4 hM.box
      obtain ⟨r0, r1, r2, r3⟩ := box4 hM.ret
      have f0 := hM.ret.fz 0
      have f1 := hM.ret.fz 1
      have f2 := hM.ret.fz 2
      have f3 := hM.ret.fz 3
      have hD := hM.done hno hp
      obtain ⟨u0, u1, u2, u3⟩ := box4 hD.1
      simp only [putAll, Nat.zero_add, Nat.reduceAdd] at u0 u1 u2 u3
      have HD := Hid.mk' hD.2
      simp only [putAll, Nat.zero_add, Nat.reduceAdd] at HD
      clear hD hM
      go_wp2_with fail
      refine bodyPost_ret (v := .agg #[.int .i64 no, .string pv, .slice (some ⟨g, 0, none⟩) rs.length c, .slice pa pn pc]) ?_ rfl ?_
      · simp [results, Tryz.results20, go_sem, u0, u1, u2, u3]
      · rw [HM.out]
        exact ⟨_, _, rfl, HD.out.1, HD.out.2.1, HD.out.2.2⟩
end Go.Proofs.YteammdkipnfmnaaGreatDoor.bun

namespace Go.Proofs.YteammdkipnfmnaaGreatDoor.bun
open Go Go.RowKit Go.Proofs.YteammdkipnfmnaaGreatDoor.base Go.Proofs.YteammdkipnfmnaaGreatDoor.pairs Go.Proofs.YteammdkipnfmnaaGreatDoor.tree Go.Proofs.YteammdkipnfmnaaGreatDoor.lay Go.Proofs.YteammdkipnfmnaaGreatDoor.range Go.Proofs.YteammdkipnfmnaaGreatDoor.seals Go.Proofs.YteammdkipnfmnaaGreatDoor.tabs
set_option linter.unusedVariables false
set_option linter.unusedSimpArgs false

theorem tn_own {w : World} {a : Option Addr} {n c : Nat} {ts : List (List Pr)} {F : List Nat} (h : tablesN.own w [.slice a n c] ts F) : TN w a n ts := by
  obtain ⟨v, q, e, _, hO⟩ := h
  cases e
  have hs := hO.sl
  refine ⟨hs.1, hs.2.1, fun h0 => ?_⟩
  rcases hO.shape with ⟨e, rfl, _⟩ | ⟨g, cap, e, _, _⟩
  · have := hs.1; simp at this; omega
  · cases e
    refine ⟨g, 0, rfl, fun i hi => ?_⟩
    have hc := hO.cells i hi
    obtain ⟨g2, n2, c2, e2, ht⟩ := hO.each i hi
    rw [e2] at hc ht
    have c0 := hc 0 _ rfl
    rw [show i * tableN.size + 0 = 0 + i by show i * 1 + 0 = 0 + i; omega] at c0
    have h2 := table_see.1 (tableR.ownSee ht)
    exact ⟨g2, 0, n2, c2, c0, h2.1, h2.2⟩
end Go.Proofs.YteammdkipnfmnaaGreatDoor.bun
