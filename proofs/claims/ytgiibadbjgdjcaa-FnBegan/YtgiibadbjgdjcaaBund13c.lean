/- The program's words that tell shards what was decided. The specification's words that tell of a job. -/
import Derived.Test.YtgiibadbjgdjcaaBund13a
import Derived.Test.YtgiibadbjgdjcaaBund13b
import Derived.Test.YtgiibadbjgdjcaaBund12an
namespace Go.Proofs.Ytgiibadbjgdjcaa.cos
open Go Go.RowKit Go.Proofs.Ytgiibadbjgdjcaa.base Go.Proofs.Ytgiibadbjgdjcaa.pairs Go.Proofs.Ytgiibadbjgdjcaa.ords Go.Proofs.Ytgiibadbjgdjcaa.lay Go.Proofs.Ytgiibadbjgdjcaa.wds
set_option linter.unusedVariables false
set_option linter.unusedSimpArgs false

theorem tellsW_snoc (tx : Int) (y : Bool) (l : List Int) (s : Int) : tellsW tx y (l ++ [s]) = tellsW tx y l ++ [(3, s, tx, [], y)] := by unfold tellsW; rw [List.map_append]; rfl
theorem tellsW_len (tx : Int) (y : Bool) (l : List Int) : (tellsW tx y l).length = l.length := by unfold tellsW; rw [List.length_map]
/-- one more word that tells -/
theorem tell_more {V wr : World} {w : World} {g m cap gs k : Nat} {q : Parts} {s tx : Int} {y : Bool} {sh : List Int} (W0 : Nat) (HO : OwnG 39 wordR wr (.slice (some ⟨g, 0, none⟩) m cap) (tellsW tx y (sh.take k)) q) (hq : ∀ bb ∈ g :: blocksOf q, W0 ≤ bb) (hW0 : w.heap.size ≤ W0) (hggs : g ≠ gs) (hgsl : gs < wr.heap.size) (hBw : Below w.heap.size w wr) (hW1 : W0 ≤ wr.heap.size)
    (hV : wr.alloc (.cells #[.int .i64 3, .int .i64 s, .int .i64 tx, .slice none 0 0, .bool y] 39) = V) (hmk : m ≤ 8) (hsw : (Lit.int .i64 s).wf = true) (htw : (Lit.int .i64 tx).wf = true) (HTK : sh.take (k + 1) = sh.take k ++ [s]) (ty : TypeId) :
    ∃ g' cap' w4 q', (Builtin.append_ #[31, 31] ty #[.slice (some ⟨g, 0, none⟩) m cap, .slice (some ⟨wr.heap.size, 0, none⟩) 1 1]).run Try.prog V = .ok (.slice (some ⟨g', 0, none⟩) (m + 1) cap') w4 ∧ OwnG 39 wordR w4 (.slice (some ⟨g', 0, none⟩) (m + 1) cap') (tellsW tx y (sh.take (k + 1))) q' ∧ (∀ bb ∈ g' :: blocksOf q', W0 ≤ bb) ∧ g' ≠ gs ∧ Below w.heap.size w w4 ∧ (∀ bb, bb < wr.heap.size → bb ≠ g → w4.heap[bb]? = wr.heap[bb]?) ∧ wr.heap.size ≤ w4.heap.size := by
  have hbv : Below wr.heap.size wr V := by rw [← hV]; exact below_make
  have hX : BoxIn wr.heap.size 39 [] [.int .i64 3, .int .i64 s, .int .i64 tx, .slice none 0 0, .bool y] [] V := by rw [← hV]; exact boxIn_new wr _ _
  have HML : (tellsW tx y (sh.take k)).length = m := HO.nlen.symm
  have hOR := HO.below hbv
  have hxw : wordR.own V [.int .i64 3, .int .i64 s, .int .i64 tx, .slice none 0 0, .bool y] (3, s, tx, [], y) [] := word_own.2 ⟨_, rfl, by show (Lit.int .i64 3).wf = true; decide, hsw, htw, ops_own.2 ⟨ownV_nil _ _, rfl⟩⟩
  obtain ⟨g', cap', w4, hrun, hO4, hgr, hat4⟩ := OwnG.appRun (P := Try.prog) (z := .agg #[.int .i64 0, .int .i64 0, .int .i64 0, .slice none 0 0, .bool false]) Try.underlying31 infoW rfl (by decide) hOR hxw (fun b hb => absurd hb List.not_mem_nil) hX (by rw [HML]; unfold maxLen; omega) (by rw [HML]; omega) ty
  rw [HML] at hrun hO4
  have hqg := hq g (by simp)
  have hge : ∀ bb, (Value.slice (some ⟨g, 0, none⟩) m cap).ownBlock = some bb → g = bb := fun bb e => by simpa [Value.ownBlock] using e
  have hBwV := hBw.trans (hbv.mono hBw.size)
  have hs4 := hbv.size
  have hs5 := hgr.size
  refine ⟨g', cap', w4, _, hrun, by rw [HTK, tellsW_snoc]; exact hO4, fun bb hb => ?_, ?_, hBwV.grown hgr hBwV.size (fun bb e => by have := hge bb e; omega), fun bb h1 h2 => (hgr.block bb (Nat.lt_of_lt_of_le h1 hbv.size) (fun e => h2 (hge bb e.symm).symm)).trans (hbv.block bb h1), by omega⟩
  · rw [blocksOf_append] at hb
    rcases List.mem_cons.1 hb with e | e
    · rcases hat4 with e2 | e2
      · have : g = g' := by simpa [Value.ownBlock] using e2
        omega
      · omega
    · rcases List.mem_append.1 e with e | e
      · exact hq bb (List.mem_cons_of_mem _ e)
      · exact absurd e (by simp [blocksOf])
  · rcases hat4 with e2 | e2
    · have : g = g' := by simpa [Value.ownBlock] using e2
      omega
    · omega
set_option maxRecDepth 100000 in
set_option maxHeartbeats 1000000 in
theorem i_tells (b off : Nat) (tx n : Int) (y : Bool) (ob ooff ol oc : Nat) (ops : List Od) (w : World) (c0 : w.cell? ⟨b, off, none⟩ = some (.int .i64 tx)) (c1 : w.cell? ⟨b, off + 1, none⟩ = some (.slice (some ⟨ob, ooff, none⟩) ol oc)) (htw : (Lit.int .i64 tx).wf = true) (hO0 : SlO w (some ⟨ob, ooff, none⟩) ol ops) (hks : ∀ p ∈ ops, p.2.1.size ≤ 1099511627776) (hsz : ol ≤ 8) (hn : (Lit.int .i64 n).wf = true) :
    Calls Try.prog 58 #[.pointer (some ⟨b, off, none⟩), .int .i64 n, .bool y] w (RetW w (tellsW tx y (shardsOf n ops))) := by
  obtain ⟨W, hW⟩ : ∃ W, w.alloc (.cells #[] 39) = W := ⟨_, rfl⟩
  have hB : Below w.heap.size w W := by rw [← hW]; exact below_make
  have hr0 := row_new0 w
  rw [hW] at hr0
  have hsW : w.heap.size < W.heap.size := by rw [← hW]; simp
  have hbl := World.block_lt_of_cell? _ _ c0
  have HSH := Hid.mk' (impl_shardsOf ob ooff ol oc ops n W (hO0.below hB) hks (by omega) hn)
  have hshl : (shardsOf n ops).length ≤ 8 := shards_len n ops (by have := hO0.1; omega)
  have hshw : ∀ s ∈ shardsOf n ops, (Lit.int .i64 s).wf = true := fun s hs => by
    obtain ⟨o, _, rfl⟩ := (shards_mem n ops s).1 hs
    exact shardOf_wf _ _
  have x1 := (hB.cell (p := ⟨b, off + 1, none⟩) hbl).trans c1
  have C0 := Hid.mk' c0
  have HW := Hid.mk' hW
  have HSW := Hid.mk' hshw
  rw [← hW] at x1
  clear hW hO0 hks c0 c1 hshw hn
  generalize shardsOf n ops = sh at *
  go_enter Try.func58, Try.ntmps58
  go_wp2_with fail
  rw [HW.out]
  refine HSH.out.mono ?_
  rintro e w1 ⟨gs, ns, cs, rfl, hZ, hb1⟩
  have hB1 := hB.trans (hb1.mono hB.size)
  have hO1 := ownG_row0 (R := wordR) (ty := 39) hr0
  have hO1b := hO1.below hb1
  have hZl := hZ.1
  have hZlt := hZ.lt
  clear x1 HSH hO1 hr0
  go_wp2_with fail
  go_loopw [18, 7] (fun i v wr => ∃ (k g m cap : Nat) (q : Parts), k ≤ ns ∧ i = .int .i64 (k : Int) ∧ v = .slice (some ⟨g, 0, none⟩) m cap ∧ OwnG 39 wordR wr (.slice (some ⟨g, 0, none⟩) m cap) (tellsW tx y (sh.take k)) q ∧ (∀ bb ∈ g :: blocksOf q, w.heap.size ≤ bb) ∧ g ≠ gs ∧ Below w.heap.size w wr ∧ wr.heap[gs]? = w1.heap[gs]? ∧ gs < wr.heap.size) (fun i _ _ => ns - (intOf i).toNat)
  case atStart => exact ⟨0, w.heap.size, 0, 0, [], Nat.zero_le _, rfl, rfl, hO1b, fun bb hb => by simp [blocksOf] at hb; omega, by omega, hB1, rfl, hZlt.2⟩
  case round =>
    obtain ⟨k, g, m, cap, q, hk, rfl, rfl, hO, hq, hggs, hBw, hgsb, hgsl⟩ := hrel
    by_cases hlt : k < ns
    · have hltl : k < sh.length := by omega
      have hki : (k : Int) < (ns : Int) := by omega
      have hat := (hZ.kept hgsb).at k hltl
      have hsw := HSW.out _ (List.getElem_mem hltl)
      have HTK : sh.take (k + 1) = sh.take k ++ [sh[k]] := List.take_succ_eq_append_getElem hltl
      have hmk : m ≤ 8 := by have h1 := tellsW_len tx y (sh.take k); rw [← hO.nlen] at h1; simp at h1; omega
      generalize sh[k] = s at *
      have d0 := (hBw.cell (p := ⟨b, off, none⟩) hbl).trans C0.out
      obtain ⟨V, hV⟩ : ∃ V, wr.alloc (.cells #[.int .i64 3, .int .i64 s, .int .i64 tx, .slice none 0 0, .bool y] 39) = V := ⟨_, rfl⟩
      obtain ⟨g', cap', w4, q', hrun, hO4, hq4, hg4, hB4, hb4, hs4⟩ := tell_more w.heap.size hO hq (Nat.le_refl _) hggs hgsl hBw hBw.size hV hmk hsw htw HTK 31
      have HV := Hid.mk' hV
      have HO4 := Hid.mk' hO4
      have HQ4 := Hid.mk' hq4
      have hgs4 : w4.heap[gs]? = w1.heap[gs]? := (hb4 gs hgsl (fun e => hggs e.symm)).trans hgsb
      have hgl4 : gs < w4.heap.size := Nat.lt_of_lt_of_le hgsl hs4
      clear hV hO4 hq4 hO HTK hb4 hs4
      go_wp2_with (at_builtin; rw [HV.out]; refine wpList_append_run rfl _ _ 31 rfl (by kernel_rfl) (by kernel_rfl) hrun ?_)
      go_wp2_with fail
      go_roundw
      case rel => exact ⟨k + 1, g', m + 1, cap', q', by omega, by go_num, rfl, HO4.out, HQ4.out, hg4, hB4, hgs4, hgl4⟩
      case measure => simp [intOf]; omega
    · have hke : sh.take k = sh := List.take_of_length_le (by omega)
      rw [hke] at hO
      have hki : ¬ (k : Int) < (ns : Int) := by omega
      go_wp2_with fail
      go_ret
      exact ⟨_, _, _, q, rfl, hO, hq, hBw⟩
end Go.Proofs.Ytgiibadbjgdjcaa.cos

namespace Go.Proofs.Ytgiibadbjgdjcaa.cos
open Go Go.RowKit Go.Proofs.Ytgiibadbjgdjcaa.base Go.Proofs.Ytgiibadbjgdjcaa.pairs Go.Proofs.Ytgiibadbjgdjcaa.ords Go.Proofs.Ytgiibadbjgdjcaa.lay Go.Proofs.Ytgiibadbjgdjcaa.wds
set_option linter.unusedVariables false
set_option linter.unusedSimpArgs false

/-- the words of one job -/
def jobW (n life sure : Int) (log : List Ch) (j : Jb) : List Wd := if j.2.2.1 = 1 then holdsW n j.1 j.2.1 j.2.2.2 (shardsOf n j.2.1) else if (answerS life sure log j.1).2 = true then tellsW j.1 (answerS life sure log j.1).1 (shardsOf n j.2.1) else []
set_option maxRecDepth 100000 in
set_option maxHeartbeats 1000000 in
theorem spec_tells (n life next sure : Int) (ja : Option Addr) (jn jc : Nat) (la : Option Addr) (ln lc : Nat) (tx st : Int) (oa : Option Addr) (ol oc : Nat) (ya : Option Addr) (yl yc : Nat) (ops : List Od) (yes : List Int) (log : List Ch) (w : World) (hlg : SlG chR w la ln log) (hlf : 1 ≤ life ∧ life ≤ 900) (htw : (Lit.int .i64 tx).wf = true) (hO0 : SlO w oa ol ops) (hY : SlZ w ya yl yes) (hsz : ol ≤ 8) (hn : (Lit.int .i64 n).wf = true) :
    Calls Try.prog 88 #[.agg #[.int .i64 n, .int .i64 life, .int .i64 next, .slice ja jn jc, .slice la ln lc, .int .i64 sure], .agg #[.int .i64 tx, .slice oa ol oc, .int .i64 st, .slice ya yl yc]] w (RetW w (jobW n life sure log (tx, ops, st, yes))) := by
  obtain ⟨W0, hW0⟩ : ∃ W, (w.alloc (.cells #[.int .i64 n, .int .i64 life, .int .i64 next, .slice ja jn jc, .slice la ln lc, .int .i64 sure] 27)).alloc (.cells #[.int .i64 tx, .slice oa ol oc, .int .i64 st, .slice ya yl yc] 49) = W := ⟨_, rfl⟩
  have hB0 : Below w.heap.size w W0 := by rw [← hW0]; exact ((Below.refl _ _).alloc (Nat.le_refl _) _).alloc (by simp) _
  have hC0 : BoxIn w.heap.size 27 [] [.int .i64 n, .int .i64 life, .int .i64 next, .slice ja jn jc, .slice la ln lc, .int .i64 sure] [] W0 := by rw [← hW0]; exact (boxIn_new w _ _).below below_make
  have hJ0 : BoxIn (w.heap.size + 1) 49 [] [.int .i64 tx, .slice oa ol oc, .int .i64 st, .slice ya yl yc] [] W0 := by
    rw [← hW0]
    have := boxIn_new (w.alloc (.cells #[.int .i64 n, .int .i64 life, .int .i64 next, .slice ja jn jc, .slice la ln lc, .int .i64 sure] 27)) [.int .i64 tx, .slice oa ol oc, .int .i64 st, .slice ya yl yc] 49
    rwa [show (w.alloc (.cells #[.int .i64 n, .int .i64 life, .int .i64 next, .slice ja jn jc, .slice la ln lc, .int .i64 sure] 27)).heap.size = w.heap.size + 1 by simp] at this
  obtain ⟨W, hW⟩ : ∃ W, W0.alloc (.cells #[] 39) = W := ⟨_, rfl⟩
  have hb0 : Below W0.heap.size W0 W := by rw [← hW]; exact below_make
  have hB := hB0.trans (hb0.mono hB0.size)
  have hr0 := row_new0 W0
  rw [hW] at hr0
  have hs0 : W0.heap.size = w.heap.size + 1 + 1 := by rw [← hW0]; simp
  have hsW : W0.heap.size < W.heap.size := by rw [← hW]; simp
  have hC := hC0.below hb0
  have hJ := hJ0.below hb0
  have HAN := Hid.mk' (spec_answerS n life next sure ja jn jc la ln lc log tx W (hlg.below hB) hlf)
  have HSH := Hid.mk' (fun wx (hx : Below w.heap.size w wx) => spec_shardsOf oa ol oc ops n wx (hO0.below hx) (by omega) hn)
  have HHO := Hid.mk' (fun wx (hx : Below w.heap.size w wx) => spec_holds n life next sure ja jn jc la ln lc tx st oa ol oc ya yl yc ops yes wx htw (hO0.below hx) (hY.below hx) hsz hn)
  have hshl : (shardsOf n ops).length ≤ 8 := shards_len n ops (by have := hO0.1; omega)
  have hshw : ∀ s ∈ shardsOf n ops, (Lit.int .i64 s).wf = true := fun s hs => by
    obtain ⟨o, _, rfl⟩ := (shards_mem n ops s).1 hs
    exact shardOf_wf _ _
  have HW : Hid (((w.alloc (.cells #[.int .i64 n, .int .i64 life, .int .i64 next, .slice ja jn jc, .slice la ln lc, .int .i64 sure] 27)).alloc (.cells #[.int .i64 tx, .slice oa ol oc, .int .i64 st, .slice ya yl yc] 49)).alloc (.cells #[] 39) = W) := by show _ = _; rw [hW0, hW]
  have HSW := Hid.mk' hshw
  have hO1 := ownG_row0 (R := wordR) (ty := 39) hr0
  rw [hs0] at hO1 hsW
  obtain ⟨a0, a1, a2, a3, a4, a5⟩ := cells6 hC
  obtain ⟨j0, j1, j2, j3⟩ := cells4 hJ
  rw [← HW.out] at a0 a1 a2 a3 a4 a5 j0 j1 j2 j3
  have HJW : Hid (jobW n life sure log (tx, ops, st, yes) = if st = 1 then holdsW n tx ops yes (shardsOf n ops) else if (answerS life sure log tx).2 = true then tellsW tx (answerS life sure log tx).1 (shardsOf n ops) else []) := rfl
  clear hW0 hW hO0 hY hshw hn hr0 hlg
  generalize jobW n life sure log (tx, ops, st, yes) = jw at *
  generalize answerS life sure log tx = an at *
  obtain ⟨y, kn⟩ := an
  generalize shardsOf n ops = sh at *
  go_enter Try.func88, Try.ntmps88
  go_wp2_with fail
  rw [HW.out]
  refine HAN.out.mono ?_
  rintro e w1 ⟨rfl, hb1⟩
  have hB1 := hB.trans (hb1.mono hB.size)
  have hC1 := hC.below hb1
  have hJ1 := hJ.below hb1
  have hO1b := hO1.below hb1
  clear a0 a1 a2 a3 a4 a5 j0 j1 j2 j3 HAN hO1
  obtain ⟨a0, a1, a2, a3, a4, a5⟩ := cells6 hC1
  obtain ⟨j0, j1, j2, j3⟩ := cells4 hJ1
  have HHO := Hid.mk' (HHO.out w1 hB1)
  have HSH := Hid.mk' (HSH.out w1 hB1)
  by_cases hst : st = 1
  · have HE : Hid (jw = holdsW n tx ops yes sh) := by show _ = _; rw [HJW.out, if_pos hst]
    have hd : (st == 1) = true := by rw [hst]; rfl
    clear HJW hst HSH
    go_wp2_with fail
    refine HHO.out.mono ?_
    rintro e w2 ⟨g, m, cap, q, rfl, hO, hF, hb2⟩
    go_wp2_with fail
    go_ret
    rw [HE.out]
    exact ⟨g, m, cap, q, rfl, hO, fun bb hb => by have := hF bb hb; have := hB1.size; omega, hB1.trans (hb2.mono hB1.size)⟩
  · have HE : Hid (jw = if kn = true then tellsW tx y sh else []) := by show _ = _; rw [HJW.out, if_neg hst]
    have hd : (st == 1) = false := beq_false_of_ne hst
    clear HJW hst HHO
    go_wp2_with fail
    refine HSH.out.mono ?_
    rintro e w2 ⟨gs, ns, cs, rfl, hZ, hb2⟩
    have hB2 := hB1.trans (hb2.mono hB1.size)
    have hC2 := hC1.below hb2
    have hJ2 := hJ1.below hb2
    have hO2 := hO1b.below hb2
    have hZl := hZ.1
    have hZlt := hZ.lt
    have hgs0 : w.heap.size + 1 + 1 ≠ gs := by have := hb1.size; omega
    clear a0 a1 a2 a3 a4 a5 j0 j1 j2 j3 HSH hO1b hC1 hJ1 hC hJ hd
    cases kn
    · go_wp2_with fail
      go_loopw [9, 5] (fun i v wr => i = .int .i64 0 ∧ v = .slice (some ⟨w.heap.size + 1 + 1, 0, none⟩) 0 0 ∧ wr = w2) (fun _ _ _ => 0)
      case atStart => exact ⟨rfl, rfl, rfl⟩
      case round =>
        obtain ⟨rfl, rfl, hwr⟩ := hrel
        subst hwr
        by_cases h0 : 0 < ns
        · have hki : (0 : Int) < (ns : Int) := by omega
          go_wp2_with fail
          go_ret
          rw [HE.out]
          exact ⟨_, _, _, [], rfl, hO2, fun bb hb => by have : bb = w.heap.size + 1 + 1 := (by simpa [blocksOf] using hb); omega, hB2⟩
        · have hki : ¬ (0 : Int) < (ns : Int) := by omega
          go_wp2_with fail
          go_ret
          rw [HE.out]
          exact ⟨_, _, _, [], rfl, hO2, fun bb hb => by have : bb = w.heap.size + 1 + 1 := (by simpa [blocksOf] using hb); omega, hB2⟩
    · go_wp2_with fail
      go_loopw [9, 5] (fun i v wr => ∃ (k g m cap : Nat) (q : Parts), k ≤ ns ∧ i = .int .i64 (k : Int) ∧ v = .slice (some ⟨g, 0, none⟩) m cap ∧ OwnG 39 wordR wr (.slice (some ⟨g, 0, none⟩) m cap) (tellsW tx y (sh.take k)) q ∧ (∀ bb ∈ g :: blocksOf q, w.heap.size + 1 + 1 ≤ bb) ∧ g ≠ gs ∧ Below w.heap.size w wr ∧ BoxIn w.heap.size 27 [] [.int .i64 n, .int .i64 life, .int .i64 next, .slice ja jn jc, .slice la ln lc, .int .i64 sure] [] wr ∧ BoxIn (w.heap.size + 1) 49 [] [.int .i64 tx, .slice oa ol oc, .int .i64 st, .slice ya yl yc] [] wr ∧ wr.heap[gs]? = w2.heap[gs]? ∧ gs < wr.heap.size) (fun i _ _ => ns - (intOf i).toNat)
      case atStart => exact ⟨0, w.heap.size + 1 + 1, 0, 0, [], Nat.zero_le _, rfl, rfl, hO2, fun bb hb => by simp [blocksOf] at hb; omega, hgs0, hB2, hC2, hJ2, rfl, hZlt.2⟩
      case round =>
        obtain ⟨k, g, m, cap, q, hk, rfl, rfl, hO, hq, hggs, hBw, hCw, hJw, hgsb, hgsl⟩ := hrel
        clear hC2 hJ2 hO2
        by_cases hlt : k < ns
        · have hltl : k < sh.length := by omega
          have hki : (k : Int) < (ns : Int) := by omega
          have hat := (hZ.kept hgsb).at k hltl
          have hsw := HSW.out _ (List.getElem_mem hltl)
          have HTK : Hid (sh.take (k + 1) = sh.take k ++ [sh[k]]) := List.take_succ_eq_append_getElem hltl
          have hmk : m ≤ 8 := by have h1 := tellsW_len tx y (sh.take k); rw [← hO.nlen] at h1; simp at h1; omega
          generalize sh[k] = s at *
          have HO := Hid.mk' hO
          clear hO
          go_wp2_with fail
          have hdW : Below wr.heap.size wr wr.drew := (Below.refl _ _).drew
          refine last.wp_region_later (S := fun w' => BoxIn (w.heap.size + 1) 49 [] [.int .i64 tx, .slice oa ol oc, .int .i64 st, .slice ya yl yc] [] w' ∧ w'.cell? ⟨gs, k, none⟩ = some (.int .i64 s)) 11 (by kernel_rfl) ⟨hJw.below hdW, hat⟩ (fun hHeld0 => ?_)
          generalize hD : wr.drew = D at *
          clear hD
          refine last.wpAnyL_take (i := 0) (v := (.slice (some ⟨g, 0, none⟩) m cap)) rfl rfl (by kernel_rfl) (by kernel_rfl) (by kernel_rfl) (by kernel_rfl) (fun _ _ _ h => h) (Or.inl ⟨by rfl, ?_⟩) (by assumption) ?_
          · intro wq hSq; go_simp
          try simp only [Act.put, List.setIfInBounds_toArray, List.set_cons_zero, List.set_cons_succ]
          refine last.wpAnyL_take (i := 1) (v := (.slice (some ⟨gs, 0, none⟩) ns cs)) rfl rfl (by kernel_rfl) (by kernel_rfl) (by kernel_rfl) (by kernel_rfl) (fun _ _ _ h => h) (Or.inl ⟨by rfl, ?_⟩) (by assumption) ?_
          · intro wq hSq; go_simp
          try simp only [Act.put, List.setIfInBounds_toArray, List.set_cons_zero, List.set_cons_succ]
          refine last.wpAnyL_take (i := 2) (v := (.int .i64 (k : Int))) rfl rfl (by kernel_rfl) (by kernel_rfl) (by kernel_rfl) (by kernel_rfl) (fun _ _ _ h => h) (Or.inl ⟨by rfl, ?_⟩) (by assumption) ?_
          · intro wq hSq; go_simp
          try simp only [Act.put, List.setIfInBounds_toArray, List.set_cons_zero, List.set_cons_succ]
          refine last.wpAnyL_take (i := 3) (v := (.pointer (some ⟨gs, k, none⟩))) rfl rfl (by kernel_rfl) (by kernel_rfl) (by kernel_rfl) (by kernel_rfl) (fun _ _ _ h => h) (Or.inl ⟨by rfl, ?_⟩) (by assumption) ?_
          · intro wq hSq; go_simp
          try simp only [Act.put, List.setIfInBounds_toArray, List.set_cons_zero, List.set_cons_succ]
          refine last.wpAnyL_take (i := 4) (v := (.int .i64 s)) rfl rfl (by kernel_rfl) (by kernel_rfl) (by kernel_rfl) (by kernel_rfl) (fun _ _ _ h => h) (Or.inl ⟨by rfl, ?_⟩) (by assumption) ?_
          · intro wq hSq; have q := hSq.2; go_simp
          try simp only [Act.put, List.setIfInBounds_toArray, List.set_cons_zero, List.set_cons_succ]
          refine last.wpAnyL_take (i := 5) (v := (.pointer (some ⟨w.heap.size + 1, 0, none⟩))) rfl rfl (by kernel_rfl) (by kernel_rfl) (by kernel_rfl) (by kernel_rfl) (fun _ _ _ h => h) (Or.inl ⟨by rfl, ?_⟩) (by assumption) ?_
          · intro wq hSq; go_simp
          try simp only [Act.put, List.setIfInBounds_toArray, List.set_cons_zero, List.set_cons_succ]
          refine last.wpAnyL_take (i := 6) (v := (.int .i64 tx)) rfl rfl (by kernel_rfl) (by kernel_rfl) (by kernel_rfl) (by kernel_rfl) (fun _ _ _ h => h) (Or.inl ⟨by rfl, ?_⟩) (by assumption) ?_
          · intro wq hSq; have q := (cells4 hSq.1).1; go_simp
          try simp only [Act.put, List.setIfInBounds_toArray, List.set_cons_zero, List.set_cons_succ]
          refine last.wpAnyL_take (i := 7) (v := (.bool y)) rfl rfl (by kernel_rfl) (by kernel_rfl) (by kernel_rfl) (by kernel_rfl) (fun _ _ _ h => h) (Or.inl ⟨by rfl, ?_⟩) (by assumption) ?_
          · intro wq hSq; go_simp
          try simp only [Act.put, List.setIfInBounds_toArray, List.set_cons_zero, List.set_cons_succ]
          refine last.wpAnyL_take (i := 8) (v := (.agg #[.int .i64 3, .int .i64 s, .int .i64 tx, .slice none 0 0, .bool y])) rfl rfl (by kernel_rfl) (by kernel_rfl) (by kernel_rfl) (by kernel_rfl) (fun _ _ _ h => h) (Or.inl ⟨by rfl, ?_⟩) (by assumption) ?_
          · intro wq hSq; go_simp
          try simp only [Act.put, List.setIfInBounds_toArray, List.set_cons_zero, List.set_cons_succ]
          refine last.wpAnyL_one (i := 9) (o := { dst := some 47, op := Op.buildSlice 31 1 #[(0, Operand.tmp 46)], type := 31, pos := "l11_coord.go:168", after := #[{ on := 8, ground := Ground.data }], guard := none }) (by kernel_rfl) rfl (fun K hK => ?_)
          go_simp
          obtain ⟨V, hV⟩ : ∃ V, D.alloc (.cells #[.int .i64 3, .int .i64 s, .int .i64 tx, .slice none 0 0, .bool y] 39) = V := ⟨_, rfl⟩
          have hbv : Below D.heap.size D V := by rw [← hV]; exact below_make
          have hBD := hBw.trans (hdW.mono hBw.size)
          have hDs := hdW.size
          have hBV := hdW.trans (hbv.mono hDs)
          obtain ⟨g', cap', w4, q', hrun, hO4, hq4, hg4, hB4, hb4, hs4⟩ := tell_more (w.heap.size + 1 + 1) (HO.out.below hdW) hq (by omega) hggs (Nat.lt_of_lt_of_le hgsl hDs) hBD (by have := hJw.lt; have := hq g (by simp); have := HO.out.lts g (by simp); omega) hV hmk hsw htw HTK.out 31
          have HO4 := Hid.mk' hO4
          have HQ4 := Hid.mk' hq4
          have hqg := hq g (by simp)
          have hgs4 : w4.heap[gs]? = wr.heap[gs]? := (hb4 gs (Nat.lt_of_lt_of_le hgsl hDs) (fun e => hggs e.symm)).trans (hdW.block gs hgsl)
          have hJl := hJw.lt
          have hCl := hCw.lt
          have hJ4 := hJw.keep ((hb4 _ (Nat.lt_of_lt_of_le hJl hDs) (by omega)).trans (hdW.block _ hJl))
          have hC4 := hCw.keep ((hb4 _ (Nat.lt_of_lt_of_le hCl hDs) (by omega)).trans (hdW.block _ hCl))
          have hat5 : w4.cell? ⟨gs, k, none⟩ = some (.int .i64 s) := (World.cell?_of_block hgs4).trans hat
          have hgl4 : gs < w4.heap.size := by omega
          replace hgsb := hgs4.trans hgsb
          clear hO4 hq4 hb4
          rw [hV]
          refine hK.out _ _ ?_ (fun hHeld => ?_)
          · exact ⟨hJw.below hBV, (hBV.cell (p := ⟨gs, k, none⟩) hgsl).trans hat⟩
          clear hK K hHeld0
          have hHeld0 := hHeld
          clear hHeld
          try simp only [Act.put, List.setIfInBounds_toArray, List.set_cons_zero, List.set_cons_succ]
          refine last.wpAnyL_one (i := 10) (o := { dst := some 48, op := Op.call { callee := Callee.builtin Builtin.append, args := #[Operand.tmp 38, Operand.tmp 47], argTypes := #[31, 31] }, type := 31, pos := "l11_coord.go:168", after := #[{ on := 0, ground := Ground.data }, { on := 9, ground := Ground.data }], guard := none }) (by kernel_rfl) rfl (fun K hK => ?_)
          refine step_append_run rfl (.tmp 38) (.tmp 47) 31 rfl (by kernel_rfl) (by kernel_rfl) hrun ?_
          clear hrun
          refine hK.out _ _ ?_ (fun hHeld => ?_)
          · exact ⟨hJ4, hat5⟩
          clear hK K hHeld0
          have hHeld0 := hHeld
          clear hHeld
          try simp only [Act.put, List.setIfInBounds_toArray, List.set_cons_zero, List.set_cons_succ]
          refine last.wpAnyL_last (o := { dst := some 5, op := Op.assign (Operand.tmp 48), type := 31, pos := "l11_coord.go:168", after := #[{ on := 10, ground := Ground.data }, { on := 10, ground := Ground.chain }, { on := 0, ground := Ground.phase }, { on := 1, ground := Ground.phase }, { on := 2, ground := Ground.phase }, { on := 3, ground := Ground.phase }, { on := 4, ground := Ground.phase }, { on := 5, ground := Ground.phase }, { on := 6, ground := Ground.phase }, { on := 7, ground := Ground.phase }, { on := 8, ground := Ground.phase }, { on := 9, ground := Ground.phase }, { on := 10, ground := Ground.phase }], guard := none }) (by kernel_rfl) rfl (by kernel_rfl) (fun K hK => ?_)
          go_simp
          refine hK.out _ _ ?_
          clear hK K
          go_wp2_with fail
          go_roundw
          case rel => exact ⟨k + 1, g', m + 1, cap', q', by omega, by go_num, rfl, HO4.out, HQ4.out, hg4, hB4, hC4, hJ4, hgsb, hgl4⟩
          case measure => simp [intOf]; omega
        · have hke : sh.take k = sh := List.take_of_length_le (by omega)
          rw [hke] at hO
          have hki : ¬ (k : Int) < (ns : Int) := by omega
          go_wp2_with fail
          go_ret
          rw [HE.out]
          exact ⟨_, _, _, q, rfl, hO, fun bb hb => by have := hq bb hb; omega, hBw⟩
end Go.Proofs.Ytgiibadbjgdjcaa.cos
