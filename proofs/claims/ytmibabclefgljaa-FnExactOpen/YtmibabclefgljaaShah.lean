/- The laws' own functions on shards: sizes, copies, marks. The laws' helpers for rows of words: alike. The laws' helpers for worlds: alike. The laws' helpers for one word: its size. -/
import Derived.Test.YtmibabclefgljaaShag
import Derived.Test.YtmibabclefgljaaShae
import Derived.Test.YtmibabclefgljaaShad
import Derived.Test.YtmibabclefgljaaShaf
import Derived.Test.YtmibabclefgljaaShac
namespace Go.Proofs.Ytmibabclefgljaa.recs
open Go Go.RowKit Go.Proofs.Ytmibabclefgljaa.base Go.Proofs.Ytmibabclefgljaa.pairs Go.Proofs.Ytmibabclefgljaa.ords Go.Proofs.Ytmibabclefgljaa.helps Go.Proofs.Ytmibabclefgljaa.help Go.Proofs.Ytmibabclefgljaa.lay
set_option linter.unusedVariables false
set_option linter.unusedSimpArgs false

def szSh (s : Shd) : Nat := (s.2.1.length + sumR s.2.1) + (s.2.2.2.1.length + sumP s.2.2.2.1) + (s.2.2.2.2.length + sumR s.2.2.2.2)
theorem rsz_in (l : List Rc) (r : Rc) (h : r ∈ l) : rsz r ≤ sumR l := by
  induction l with
  | nil => cases h
  | cons x l ih =>
    have e : sumR (x :: l) = rsz x + sumR l := by simp [sumR]
    rcases List.mem_cons.1 h with rfl | h
    · omega
    · have := ih h; omega
theorem few_of {l : List Rc} {N : Nat} (h : sumR l ≤ N) (hN : N ≤ 1099511627776) : Few l := fun r hr => by
  have h1 := rsz_in l r hr
  unfold rsz at h1
  refine ⟨by omega, fun p hp => ?_⟩
  have h2 := osz_le r.2.2 p hp
  unfold osz at h2
  omega
section
variable {w w' : World} {la ma ha : Option Addr} {ln lc mn mc hn hc : Nat} {s : Shd} {F : List Nat}
theorem SeeSh.lens (h : SeeSh w la ln lc ma mn mc ha hn hc s) : s.2.1.length = ln ∧ s.2.2.2.1.length = mn ∧ s.2.2.2.2.length = hn := ⟨h.log.1, h.map.1, h.held.1⟩
end
set_option maxRecDepth 100000 in
set_option maxHeartbeats 2000000 in
theorem szShard (la : Option Addr) (ln lc : Nat) (ma : Option Addr) (mn mc : Nat) (ha : Option Addr) (hn hc : Nat) (s : Shd) (L : Nat) (w : World) (h : SeeSh w la ln lc ma mn mc ha hn hc s) (hL : L ≤ 1099511627776) :
    Calls Try.prog 24 #[aggSh s.1 s.2.2.1 la ln lc ma mn mc ha hn hc, .int .i64 (L : Int)] w fun e w' => e = .returned (.int .i64 (pairs.szR L (szSh s))) ∧ Below w.heap.size w w' := by
  obtain ⟨W, hW⟩ : ∃ W, w.alloc (.cells #[.int .i64 s.1, .slice la ln lc, .int .i64 s.2.2.1, .slice ma mn mc, .slice ha hn hc] 72) = W := ⟨_, rfl⟩
  have hB : Below w.heap.size w W := by rw [← hW]; exact (Below.refl _ _).alloc (Nat.le_refl _) _
  have hbx : BoxIn w.heap.size 72 [] (shVals s.1 s.2.2.1 la ln lc ma mn mc ha hn hc) [] W := by rw [← hW]; exact boxIn_new w _ _
  have HW := Hid.mk' hW
  have c1 := hbx.cell 1 _ rfl
  simp only [List.length_nil, Nat.zero_add] at c1
  rw [← hW] at c1
  clear hW
  obtain ⟨A, hA⟩ : ∃ A, A = s.2.1.length + sumR s.2.1 := ⟨_, rfl⟩
  obtain ⟨Bq, hBq⟩ : ∃ Bq, Bq = s.2.2.2.1.length + sumP s.2.2.2.1 := ⟨_, rfl⟩
  obtain ⟨Cq, hCq⟩ : ∃ Cq, Cq = s.2.2.2.2.length + sumR s.2.2.2.2 := ⟨_, rfl⟩
  have HS : Hid (szSh s = A + Bq + Cq) := by show _ = _; unfold szSh; rw [hA, hBq, hCq]
  have H1 := Hid.mk' (szRecS la ln lc s.2.1 L W (h.log.below hB) hL)
  have H2 := Hid.mk' (fun (L2 : Nat) (hL2 : L2 ≤ 1099511627776) wx (hx : Below w.heap.size w wx) => szPairS ma mn mc s.2.2.2.1 L2 wx (h.map.below hx) hL2)
  have H3 := Hid.mk' (fun (L2 : Nat) (hL2 : L2 ≤ 1099511627776) wx (hx : Below w.heap.size w wx) => szRecS ha hn hc s.2.2.2.2 L2 wx (h.held.below hx) hL2)
  rw [← hA] at H1
  rw [← hBq] at H2
  rw [← hCq] at H3
  clear hA hBq hCq h
  by_cases g1 : A ≤ L
  · obtain ⟨L1, hL1⟩ : ∃ L1 : Nat, (L : Int) - (A : Int) = (L1 : Int) := ⟨L - A, by omega⟩
    rw [pairs.szR_pos g1, hL1] at H1
    have hn1 : ¬ (L1 : Int) < 0 := by omega
    by_cases g2 : Bq ≤ L1
    · obtain ⟨L2, hL2⟩ : ∃ L2 : Nat, (L1 : Int) - (Bq : Int) = (L2 : Int) := ⟨L1 - Bq, by omega⟩
      have H2' := Hid.mk' (H2.out L1 (by omega))
      rw [pairs.szR_pos g2, hL2] at H2'
      have hn2 : ¬ (L2 : Int) < 0 := by omega
      by_cases g3 : Cq ≤ L2
      · obtain ⟨L3, hL3⟩ : ∃ L3 : Nat, (L2 : Int) - (Cq : Int) = (L3 : Int) := ⟨L2 - Cq, by omega⟩
        have H3' := Hid.mk' (H3.out L2 (by omega))
        rw [pairs.szR_pos g3, hL3] at H3'
        have hn3 : ¬ (L3 : Int) < 0 := by omega
        have HV : Hid (pairs.szR L (szSh s) = (L3 : Int)) := by show _ = _; rw [HS.out, pairs.szR_pos (by omega)]; omega
        clear H2 H3 hL1 hL2 hL3 g1 g2 g3
        go_enter Try.func24, Try.ntmps24
        go_wp2_with fail
        rw [HW.out]
        refine H1.out.mono ?_
        rintro e w1 ⟨rfl, hb1⟩
        have hB1 := hB.trans (hb1.mono hB.size)
        have hbx1 := hbx.below hb1
        have d3 := hbx1.cell 3 _ rfl
        simp only [List.length_nil, Nat.zero_add] at d3
        clear c1 H1
        go_wp2_with fail
        refine (H2'.out _ hB1).mono ?_
        rintro e w2 ⟨rfl, hb2⟩
        have hB2 := hB1.trans (hb2.mono hB1.size)
        have hbx2 := hbx1.below hb2
        have d4 := hbx2.cell 4 _ rfl
        simp only [List.length_nil, Nat.zero_add] at d4
        clear d3 H2'
        go_wp2_with fail
        refine (H3'.out _ hB2).mono ?_
        rintro e w3 ⟨rfl, hb3⟩
        have hB3 := hB2.trans (hb3.mono hB2.size)
        clear d4 H3'
        go_wp2_with fail
        go_ret
        rw [HV.out]
        exact ⟨rfl, hB3⟩
      · have H3' := Hid.mk' (H3.out L2 (by omega))
        rw [pairs.szR_neg (by omega)] at H3'
        have HV : Hid (pairs.szR L (szSh s) = -1) := by show _ = _; rw [HS.out, pairs.szR_neg (by omega)]
        clear H2 H3 hL1 hL2 g1 g2 g3
        go_enter Try.func24, Try.ntmps24
        go_wp2_with fail
        rw [HW.out]
        refine H1.out.mono ?_
        rintro e w1 ⟨rfl, hb1⟩
        have hB1 := hB.trans (hb1.mono hB.size)
        have hbx1 := hbx.below hb1
        have d3 := hbx1.cell 3 _ rfl
        simp only [List.length_nil, Nat.zero_add] at d3
        clear c1 H1
        go_wp2_with fail
        refine (H2'.out _ hB1).mono ?_
        rintro e w2 ⟨rfl, hb2⟩
        have hB2 := hB1.trans (hb2.mono hB1.size)
        have hbx2 := hbx1.below hb2
        have d4 := hbx2.cell 4 _ rfl
        simp only [List.length_nil, Nat.zero_add] at d4
        clear d3 H2'
        go_wp2_with fail
        refine (H3'.out _ hB2).mono ?_
        rintro e w3 ⟨rfl, hb3⟩
        have hB3 := hB2.trans (hb3.mono hB2.size)
        clear d4 H3'
        go_wp2_with fail
        go_ret
        rw [HV.out]
        exact ⟨rfl, hB3⟩
    · have H2' := Hid.mk' (H2.out L1 (by omega))
      rw [pairs.szR_neg (by omega)] at H2'
      have HV : Hid (pairs.szR L (szSh s) = -1) := by show _ = _; rw [HS.out, pairs.szR_neg (by omega)]
      clear H2 H3 hL1 g1 g2
      go_enter Try.func24, Try.ntmps24
      go_wp2_with fail
      rw [HW.out]
      refine H1.out.mono ?_
      rintro e w1 ⟨rfl, hb1⟩
      have hB1 := hB.trans (hb1.mono hB.size)
      have hbx1 := hbx.below hb1
      have d3 := hbx1.cell 3 _ rfl
      simp only [List.length_nil, Nat.zero_add] at d3
      clear c1 H1
      go_wp2_with fail
      refine (H2'.out _ hB1).mono ?_
      rintro e w2 ⟨rfl, hb2⟩
      have hB2 := hB1.trans (hb2.mono hB1.size)
      clear d3 H2'
      go_wp2_with fail
      go_ret
      rw [HV.out]
      exact ⟨rfl, hB2⟩
  · rw [pairs.szR_neg (by omega)] at H1
    have HV : Hid (pairs.szR L (szSh s) = -1) := by show _ = _; rw [HS.out, pairs.szR_neg (by omega)]
    clear H2 H3 g1
    go_enter Try.func24, Try.ntmps24
    go_wp2_with fail
    rw [HW.out]
    refine H1.out.mono ?_
    rintro e w1 ⟨rfl, hb1⟩
    have hB1 := hB.trans (hb1.mono hB.size)
    clear c1 H1
    go_wp2_with fail
    go_ret
    rw [HV.out]
    exact ⟨rfl, hB1⟩
theorem eqPairsS (a a2 : Option Addr) (len cap len2 cap2 : Nat) (l : List Pr) (w : World) (h : SlP w a len l) (h2 : SlP w a2 len2 l) :
    Calls Try.prog 49 #[.slice a len cap, .slice a2 len2 cap2] w fun e w' => e = .returned (.bool true) ∧ Below w.heap.size w w' :=
  (eqPairS a a2 len cap len2 cap2 l l w h h2).mono fun e w' hp => ⟨by rw [hp.1]; simp, hp.2⟩
set_option maxRecDepth 100000 in
set_option maxHeartbeats 2000000 in
theorem eqShardT (la : Option Addr) (ln lc : Nat) (ma : Option Addr) (mn mc : Nat) (ha : Option Addr) (hn hc : Nat) (la2 : Option Addr) (ln2 lc2 : Nat) (ma2 : Option Addr) (mn2 mc2 : Nat) (ha2 : Option Addr) (hn2 hc2 : Nat) (s : Shd) (w : World) (h : SeeSh w la ln lc ma mn mc ha hn hc s) (h2 : SeeSh w la2 ln2 lc2 ma2 mn2 mc2 ha2 hn2 hc2 s) :
    Calls Try.prog 34 #[aggSh s.1 s.2.2.1 la ln lc ma mn mc ha hn hc, aggSh s.1 s.2.2.1 la2 ln2 lc2 ma2 mn2 mc2 ha2 hn2 hc2] w fun e w' => e = .returned (.bool true) ∧ Below w.heap.size w w' := by
  obtain ⟨l1, l2, l3⟩ := SeeSh.lens h
  obtain ⟨k1, k2, k3⟩ := SeeSh.lens h2
  obtain rfl : ln2 = ln := by omega
  obtain rfl : mn2 = mn := by omega
  obtain rfl : hn2 = hn := by omega
  obtain ⟨W, hW⟩ : ∃ W, (w.alloc (boxSh s.1 s.2.2.1 la ln2 lc ma mn2 mc ha hn2 hc)).alloc (boxSh s.1 s.2.2.1 la2 ln2 lc2 ma2 mn2 mc2 ha2 hn2 hc2) = W := ⟨_, rfl⟩
  have hba : Below w.heap.size w (w.alloc (boxSh s.1 s.2.2.1 la ln2 lc ma mn2 mc ha hn2 hc)) := (Below.refl _ _).alloc (Nat.le_refl _) _
  have hB : Below w.heap.size w W := by rw [← hW]; exact hba.alloc hba.size _
  have hT : BoxIn w.heap.size 52 [] (shVals s.1 s.2.2.1 la ln2 lc ma mn2 mc ha hn2 hc) [] W := by rw [← hW]; exact (boxIn_new w _ _).below ((Below.refl _ _).alloc (Nat.le_refl _) _)
  have hR : BoxIn (w.heap.size + 1) 52 [] (shVals s.1 s.2.2.1 la2 ln2 lc2 ma2 mn2 mc2 ha2 hn2 hc2) [] W := by
    rw [← hW]
    have := boxIn_new (w.alloc (boxSh s.1 s.2.2.1 la ln2 lc ma mn2 mc ha hn2 hc)) (shVals s.1 s.2.2.1 la2 ln2 lc2 ma2 mn2 mc2 ha2 hn2 hc2) 52
    rwa [show (w.alloc (boxSh s.1 s.2.2.1 la ln2 lc ma mn2 mc ha hn2 hc)).heap.size = w.heap.size + 1 by simp] at this
  have HW := Hid.mk' hW
  have a0 := hT.cell 0 _ rfl
  have a1 := hT.cell 1 _ rfl
  have b0 := hR.cell 0 _ rfl
  have b1 := hR.cell 1 _ rfl
  simp only [List.length_nil, Nat.zero_add] at a0 a1 b0 b1
  rw [← hW] at a0 a1 b0 b1
  have f1 : (s.1 == s.1) = true := by simp
  have f2 : (s.2.2.1 == s.2.2.1) = true := by simp
  have H1 := Hid.mk' (eqRecsT la la2 ln2 lc lc2 s.2.1 W (h.log.below hB) (h2.log.below hB))
  have H2 := Hid.mk' (fun wx (hx : Below w.heap.size w wx) => eqPairsS ma ma2 mn2 mc mn2 mc2 s.2.2.2.1 wx (h.map.below hx) (h2.map.below hx))
  have H3 := Hid.mk' (fun wx (hx : Below w.heap.size w wx) => eqRecsT ha ha2 hn2 hc hc2 s.2.2.2.2 wx (h.held.below hx) (h2.held.below hx))
  clear hW l1 l2 l3 k1 k2 k3 h h2
  go_enter Try.func34, Try.ntmps34
  go_wp2_with fail
  rw [HW.out]
  refine H1.out.mono ?_
  rintro e w1 ⟨rfl, hb1⟩
  have hB1 := hB.trans (hb1.mono hB.size)
  have hT1 := hT.below hb1
  have hR1 := hR.below hb1
  have p2 := hT1.cell 2 _ rfl
  have p3 := hT1.cell 3 _ rfl
  have q2 := hR1.cell 2 _ rfl
  have q3 := hR1.cell 3 _ rfl
  simp only [List.length_nil, Nat.zero_add] at p2 p3 q2 q3
  clear a0 a1 b0 b1 H1 HW
  go_wp2_with fail
  refine (H2.out _ hB1).mono ?_
  rintro e w2 ⟨rfl, hb2⟩
  have hB2 := hB1.trans (hb2.mono hB1.size)
  have p4 := (hT1.below hb2).cell 4 _ rfl
  have q4 := (hR1.below hb2).cell 4 _ rfl
  simp only [List.length_nil, Nat.zero_add] at p4 q4
  clear p2 p3 q2 q3 H2
  go_wp2_with fail
  refine (H3.out _ hB2).mono ?_
  rintro e w3 ⟨rfl, hb3⟩
  have hB3 := hB2.trans (hb3.mono hB2.size)
  clear p4 q4 H3
  go_wp2_with fail
  go_ret
  exact ⟨rfl, hB3⟩
end Go.Proofs.Ytmibabclefgljaa.recs

namespace Go.Proofs.Ytmibabclefgljaa.cos
open Go Go.RowKit Go.Proofs.Ytmibabclefgljaa.base Go.Proofs.Ytmibabclefgljaa.pairs Go.Proofs.Ytmibabclefgljaa.ords Go.Proofs.Ytmibabclefgljaa.lay Go.Proofs.Ytmibabclefgljaa.wds
set_option linter.unusedVariables false
set_option linter.unusedSimpArgs false

theorem word_at {w : World} {b off len : Nat} {l : List Wd} (h : SlG wordR w (some ⟨b, off, none⟩) len l) (i : Nat) (hi : i < l.length) :
    ∃ oa ol oc, w.cell? ⟨b, off + i * 5, none⟩ = some (.int .i64 l[i].1) ∧ w.cell? ⟨b, off + i * 5 + 1, none⟩ = some (.int .i64 l[i].2.1) ∧ w.cell? ⟨b, off + i * 5 + 2, none⟩ = some (.int .i64 l[i].2.2.1) ∧ w.cell? ⟨b, off + i * 5 + 3, none⟩ = some (.slice oa ol oc) ∧ w.cell? ⟨b, off + i * 5 + 4, none⟩ = some (.bool l[i].2.2.2.2) ∧ SlO w oa ol l[i].2.2.2.1 ∧ ol ≤ oc := by
  obtain ⟨u0, u1, u2, u3, u4, hs, c0, c1, c2, c3, c4⟩ := slg_at5 rfl h i hi
  obtain ⟨oa, ol, oc, e, _, _, _, h4, h5⟩ := word_see.1 hs
  simp only [List.cons.injEq, and_true] at e
  obtain ⟨rfl, rfl, rfl, rfl, rfl⟩ := e
  exact ⟨oa, ol, oc, c0, c1, c2, c3, c4, h4, h5⟩
set_option maxRecDepth 100000 in
set_option maxHeartbeats 1000000 in
theorem eqWord1T (k s t : Int) (y : Bool) (pa qa : Option Addr) (pl pc ql qc : Nat) (l : List Od) (w : World) (hx : SlO w pa pl l) (hy : SlO w qa ql l) :
    Calls Try.prog 35 #[.agg #[.int .i64 k, .int .i64 s, .int .i64 t, .slice pa pl pc, .bool y], .agg #[.int .i64 k, .int .i64 s, .int .i64 t, .slice qa ql qc, .bool y]] w fun e w' => e = .returned (.bool true) ∧ Below w.heap.size w w' := by
  obtain ⟨W, hW⟩ : ∃ W, (w.alloc (.cells #[.int .i64 k, .int .i64 s, .int .i64 t, .slice pa pl pc, .bool y] 84)).alloc (.cells #[.int .i64 k, .int .i64 s, .int .i64 t, .slice qa ql qc, .bool y] 84) = W := ⟨_, rfl⟩
  have hB : Below w.heap.size w W := by rw [← hW]; exact below_two _ _ _
  have vx : BoxIn w.heap.size 84 [] [.int .i64 k, .int .i64 s, .int .i64 t, .slice pa pl pc, .bool y] [] W := by rw [← hW]; exact (boxIn_new w _ _).below below_make
  have vy : BoxIn (w.heap.size + 1) 84 [] [.int .i64 k, .int .i64 s, .int .i64 t, .slice qa ql qc, .bool y] [] W := by
    rw [← hW]
    have := boxIn_new (w.alloc (.cells #[.int .i64 k, .int .i64 s, .int .i64 t, .slice pa pl pc, .bool y] 84)) [.int .i64 k, .int .i64 s, .int .i64 t, .slice qa ql qc, .bool y] 84
    rwa [show (w.alloc (.cells #[.int .i64 k, .int .i64 s, .int .i64 t, .slice pa pl pc, .bool y] 84)).heap.size = w.heap.size + 1 by simp] at this
  have HE := Hid.mk' (eqO pa qa pl pc ql qc l l W (hx.below hB) (hy.below hB) rfl)
  have HW := Hid.mk' hW
  clear hW
  cases y
  all_goals
    have hn1 : (k == k) = true := by simp
    have hn2 : (s == s) = true := by simp
    have hn3 : (t == t) = true := by simp
    go_enter Try.func35, Try.ntmps35
    go_wp2_with fail
    rw [HW.out]
    refine HE.out.mono ?_
    rintro e w1 ⟨rfl, hb1⟩
    have hB1 := hB.trans (hb1.mono hB.size)
    have x4 := (vx.below hb1).cell 4 _ rfl
    have y4 := (vy.below hb1).cell 4 _ rfl
    rw [show ([] : List Value).length + 4 = 4 from rfl] at x4 y4
    clear HE HW hb1 vx vy
    go_wp2_with fail
    go_ret
    exact ⟨rfl, hB1⟩
set_option maxRecDepth 100000 in
set_option maxHeartbeats 2000000 in
theorem eqWordsT (a a2 : Option Addr) (len cap cap2 : Nat) (l : List Wd) (w : World) (h : SlG wordR w a len l) (h2 : SlG wordR w a2 len l) :
    Calls Try.prog 20 #[.slice a len cap, .slice a2 len cap2] w fun e w' => e = .returned (.bool true) ∧ Below w.heap.size w w' := by
  have hl := h.1
  have hm := h.2.1
  unfold maxLen at hm
  have hb : ((len : Int) == (len : Int)) = true := by simp
  go_enter Try.func20, Try.ntmps20
  go_wp2_with fail
  go_loopw [5] (fun i wr => ∃ k : Nat, k ≤ len ∧ i = .int .i64 k ∧ Below w.heap.size w wr) (fun i _ => len - (intOf i).toNat)
  case atStart => exact ⟨0, Nat.zero_le _, rfl, Below.refl _ _⟩
  case round =>
    obtain ⟨k, hk, rfl, hB⟩ := hrel
    by_cases hlt : k < len
    · have hltl : k < l.length := by omega
      obtain ⟨b, off, e⟩ := slg_some h (by omega)
      obtain ⟨b2, off2, e2⟩ := slg_some h2 (by omega)
      subst e e2
      have hki : (k : Int) < (len : Int) := by omega
      obtain ⟨oa, ol, oc, c0, c1, c2, c3, c4, hO1, _⟩ := word_at (h.below hB) k hltl
      obtain ⟨ob, bl, bc, d0, d1, d2, d3, d4, hO2, _⟩ := word_at (h2.below hB) k hltl
      have o0 := last.On.cell (B := wr.heap.size) c0 (World.block_lt_of_cell? _ _ c0)
      have o1 := last.On.cell (B := wr.heap.size) c1 (World.block_lt_of_cell? _ _ c1)
      have o2 := last.On.cell (B := wr.heap.size) c2 (World.block_lt_of_cell? _ _ c2)
      have o3 := last.On.cell (B := wr.heap.size) c3 (World.block_lt_of_cell? _ _ c3)
      have o4 := last.On.cell (B := wr.heap.size) c4 (World.block_lt_of_cell? _ _ c4)
      have p0 := last.On.cell (B := wr.heap.size) d0 (World.block_lt_of_cell? _ _ d0)
      have p1 := last.On.cell (B := wr.heap.size) d1 (World.block_lt_of_cell? _ _ d1)
      have p2 := last.On.cell (B := wr.heap.size) d2 (World.block_lt_of_cell? _ _ d2)
      have p3 := last.On.cell (B := wr.heap.size) d3 (World.block_lt_of_cell? _ _ d3)
      have p4 := last.On.cell (B := wr.heap.size) d4 (World.block_lt_of_cell? _ _ d4)
      have hinh := last.On.inh wr.heap.size wr
      have hcall : ∀ x : last.On wr.heap.size wr, Calls Try.prog 35 #[.agg #[.int .i64 l[k].1, .int .i64 l[k].2.1, .int .i64 l[k].2.2.1, .slice oa ol oc, .bool l[k].2.2.2.2], .agg #[.int .i64 l[k].1, .int .i64 l[k].2.1, .int .i64 l[k].2.2.1, .slice ob bl bc, .bool l[k].2.2.2.2]] x.w fun e w' => e = .returned (.bool true) ∧ ∃ y : last.On wr.heap.size wr, w' = y.w := fun x => last.Calls.on x (Nat.le_refl _) (eqWord1T _ _ _ _ oa ob ol oc bl bc l[k].2.2.2.1 x.w (hO1.below x.2) (hO2.below x.2))
      clear h h2 hO1 hO2
      generalize l[k] = p at *
      go_wp2_with fail
      refine last.wp_region_on wr.heap.size (by kernel_rfl) (by kernel_rfl) ?_
      repeat (go_big_quiet_step ((go_at_call 35; exact hcall _)))
      refine wpQuiet_nil ?_
      intro w5 hw5
      obtain ⟨x5, hw5⟩ := hw5
      subst hw5
      have hB5 : Below w.heap.size w x5.w := hB.trans (x5.2.mono hB.size)
      go_wp2_with fail
      go_roundw
      case rel => exact ⟨k + 1, by omega, by go_num, hB5⟩
      case measure => simp [intOf]; omega
    · have hnk : ¬ (k : Int) < (len : Int) := by omega
      go_wp2_with fail
      go_ret
      exact ⟨rfl, hB⟩
end Go.Proofs.Ytmibabclefgljaa.cos

namespace Go.Proofs.Ytmibabclefgljaa.wos
open Go Go.RowKit Go.Proofs.Ytmibabclefgljaa.base Go.Proofs.Ytmibabclefgljaa.pairs Go.Proofs.Ytmibabclefgljaa.ords Go.Proofs.Ytmibabclefgljaa.lay
set_option linter.unusedVariables false
set_option linter.unusedSimpArgs false

set_option maxRecDepth 100000 in
set_option maxHeartbeats 1000000 in
theorem eqOrderT (tx : Int) (oa ob : Option Addr) (ol oc bl bc : Nat) (ops : List Od) (w : World) (h1 : SlO w oa ol ops) (h2 : SlO w ob bl ops) :
    Calls Try.prog 36 #[.agg #[.int .i64 tx, .slice oa ol oc], .agg #[.int .i64 tx, .slice ob bl bc]] w fun e w' => e = .returned (.bool true) ∧ Below w.heap.size w w' := by
  obtain ⟨W, hW⟩ : ∃ W, (w.alloc (.cells #[.int .i64 tx, .slice oa ol oc] 87)).alloc (.cells #[.int .i64 tx, .slice ob bl bc] 87) = W := ⟨_, rfl⟩
  have hB : Below w.heap.size w W := by rw [← hW]; exact cos.below_two _ _ _
  have HO := Hid.mk' (eqO oa ob ol oc bl bc ops ops W (h1.below hB) (h2.below hB) rfl)
  have HW := Hid.mk' hW
  have hn : (tx == tx) = true := by simp
  clear hW h1 h2
  go_enter Try.func36, Try.ntmps36
  go_wp2_with fail
  rw [HW.out]
  refine HO.out.mono ?_
  rintro e w1 ⟨rfl, hb1⟩
  have hB1 := hB.trans (hb1.mono hB.size)
  clear HO HW
  go_wp2_with fail
  go_ret
  exact ⟨rfl, hB1⟩
set_option maxRecDepth 100000 in
set_option maxHeartbeats 2000000 in
theorem eqOrdersT (a a2 : Option Addr) (len cap cap2 : Nat) (l : List Orr) (w : World) (h : SlG ordR w a len l) (h2 : SlG ordR w a2 len l) :
    Calls Try.prog 21 #[.slice a len cap, .slice a2 len cap2] w fun e w' => e = .returned (.bool true) ∧ Below w.heap.size w w' := by
  have hl := h.1
  have hm := h.2.1
  unfold maxLen at hm
  have hb : ((len : Int) == (len : Int)) = true := by simp
  go_enter Try.func21, Try.ntmps21
  go_wp2_with fail
  go_loopw [5] (fun i wr => ∃ k : Nat, k ≤ len ∧ i = .int .i64 k ∧ Below w.heap.size w wr) (fun i _ => len - (intOf i).toNat)
  case atStart => exact ⟨0, Nat.zero_le _, rfl, Below.refl _ _⟩
  case round =>
    obtain ⟨k, hk, rfl, hB⟩ := hrel
    by_cases hlt : k < len
    · have hltl : k < l.length := by omega
      obtain ⟨b, off, e⟩ := cos.slg_some h (by omega)
      obtain ⟨b2, off2, e2⟩ := cos.slg_some h2 (by omega)
      subst e e2
      have hki : (k : Int) < (len : Int) := by omega
      obtain ⟨c0, oa, ol, oc, c1, hO1, _⟩ := ord_at (h.below hB) k hltl
      obtain ⟨d0, ob, bl, bc, d1, hO2, _⟩ := ord_at (h2.below hB) k hltl
      have o0 := last.On.cell (B := wr.heap.size) c0 (World.block_lt_of_cell? _ _ c0)
      have p0 := last.On.cell (B := wr.heap.size) d0 (World.block_lt_of_cell? _ _ d0)
      have o1 := last.On.cell (B := wr.heap.size) c1 (World.block_lt_of_cell? _ _ c1)
      have p1 := last.On.cell (B := wr.heap.size) d1 (World.block_lt_of_cell? _ _ d1)
      have hinh := last.On.inh wr.heap.size wr
      have hcall : ∀ x : last.On wr.heap.size wr, Calls Try.prog 36 #[.agg #[.int .i64 l[k].1, .slice oa ol oc], .agg #[.int .i64 l[k].1, .slice ob bl bc]] x.w fun e w' => e = .returned (.bool true) ∧ ∃ y : last.On wr.heap.size wr, w' = y.w := fun x => last.Calls.on x (Nat.le_refl _) (eqOrderT _ oa ob ol oc bl bc l[k].2 x.w (hO1.below x.2) (hO2.below x.2))
      clear h h2 hO1 hO2
      generalize l[k] = p at *
      go_wp2_with fail
      refine last.wp_region_on wr.heap.size (by kernel_rfl) (by kernel_rfl) ?_
      repeat (go_big_quiet_step ((go_at_call 36; exact hcall _)))
      refine wpQuiet_nil ?_
      intro w5 hw5
      obtain ⟨x5, hw5⟩ := hw5
      subst hw5
      have hB5 : Below w.heap.size w x5.w := hB.trans (x5.2.mono hB.size)
      go_wp2_with fail
      go_roundw
      case rel => exact ⟨k + 1, by omega, by go_num, hB5⟩
      case measure => simp [intOf]; omega
    · have hnk : ¬ (k : Int) < (len : Int) := by omega
      go_wp2_with fail
      go_ret
      exact ⟨rfl, hB⟩
set_option maxRecDepth 100000 in
set_option maxHeartbeats 2000000 in
theorem eqShardsT (a a2 : Option Addr) (len cap cap2 : Nat) (l : List recs.Shd) (w : World) (h : SlG shardR w a len l) (h2 : SlG shardR w a2 len l) :
    Calls Try.prog 19 #[.slice a len cap, .slice a2 len cap2] w fun e w' => e = .returned (.bool true) ∧ Below w.heap.size w w' := by
  have hl := h.1
  have hm := h.2.1
  unfold maxLen at hm
  have hb : ((len : Int) == (len : Int)) = true := by simp
  go_enter Try.func19, Try.ntmps19
  go_wp2_with fail
  go_loopw [5] (fun i wr => ∃ k : Nat, k ≤ len ∧ i = .int .i64 k ∧ Below w.heap.size w wr) (fun i _ => len - (intOf i).toNat)
  case atStart => exact ⟨0, Nat.zero_le _, rfl, Below.refl _ _⟩
  case round =>
    obtain ⟨k, hk, rfl, hB⟩ := hrel
    by_cases hlt : k < len
    · have hltl : k < l.length := by omega
      obtain ⟨b, off, e⟩ := cos.slg_some h (by omega)
      obtain ⟨b2, off2, e2⟩ := cos.slg_some h2 (by omega)
      subst e e2
      have hki : (k : Int) < (len : Int) := by omega
      obtain ⟨la, ln, lc, ma, mn, mc, ha, hn, hc, c0, c1, c2, c3, c4, hS1⟩ := shard_at (h.below hB) k hltl
      obtain ⟨zla, zln, zlc, zma, zmn, zmc, zha, zhn, zhc, d0, d1, d2, d3, d4, hS2⟩ := shard_at (h2.below hB) k hltl
      have o0 := last.On.cell (B := wr.heap.size) c0 (World.block_lt_of_cell? _ _ c0)
      have p0 := last.On.cell (B := wr.heap.size) d0 (World.block_lt_of_cell? _ _ d0)
      have o1 := last.On.cell (B := wr.heap.size) c1 (World.block_lt_of_cell? _ _ c1)
      have p1 := last.On.cell (B := wr.heap.size) d1 (World.block_lt_of_cell? _ _ d1)
      have o2 := last.On.cell (B := wr.heap.size) c2 (World.block_lt_of_cell? _ _ c2)
      have p2 := last.On.cell (B := wr.heap.size) d2 (World.block_lt_of_cell? _ _ d2)
      have o3 := last.On.cell (B := wr.heap.size) c3 (World.block_lt_of_cell? _ _ c3)
      have p3 := last.On.cell (B := wr.heap.size) d3 (World.block_lt_of_cell? _ _ d3)
      have o4 := last.On.cell (B := wr.heap.size) c4 (World.block_lt_of_cell? _ _ c4)
      have p4 := last.On.cell (B := wr.heap.size) d4 (World.block_lt_of_cell? _ _ d4)
      have hinh := last.On.inh wr.heap.size wr
      have hcall : ∀ x : last.On wr.heap.size wr, Calls Try.prog 34 #[.agg #[.int .i64 l[k].1, .slice la ln lc, .int .i64 l[k].2.2.1, .slice ma mn mc, .slice ha hn hc], .agg #[.int .i64 l[k].1, .slice zla zln zlc, .int .i64 l[k].2.2.1, .slice zma zmn zmc, .slice zha zhn zhc]] x.w fun e w' => e = .returned (.bool true) ∧ ∃ y : last.On wr.heap.size wr, w' = y.w := fun x => last.Calls.on x (Nat.le_refl _) (recs.eqShardT _ _ _ _ _ _ _ _ _ _ _ _ _ _ _ _ _ _ l[k] x.w (hS1.below x.2) (hS2.below x.2))
      clear h h2 hS1 hS2
      generalize l[k] = p at *
      go_wp2_with fail
      refine last.wp_region_on wr.heap.size (by kernel_rfl) (by kernel_rfl) ?_
      repeat (go_big_quiet_step ((go_at_call 34; exact hcall _)))
      refine wpQuiet_nil ?_
      intro w5 hw5
      obtain ⟨x5, hw5⟩ := hw5
      subst hw5
      have hB5 : Below w.heap.size w x5.w := hB.trans (x5.2.mono hB.size)
      go_wp2_with fail
      go_roundw
      case rel => exact ⟨k + 1, by omega, by go_num, hB5⟩
      case measure => simp [intOf]; omega
    · have hnk : ¬ (k : Int) < (len : Int) := by omega
      go_wp2_with fail
      go_ret
      exact ⟨rfl, hB⟩
set_option maxRecDepth 100000 in
set_option maxHeartbeats 4000000 in
theorem eqWorldT (ja : Option Addr) (jn jc : Nat) (la : Option Addr) (ln lc : Nat) (sa : Option Addr) (sn sc : Nat) (na : Option Addr) (nn nc : Nat) (oa : Option Addr) (on oc : Nat) (ba : Option Addr) (bn bc : Nat) (zja : Option Addr) (zjn zjc : Nat) (zla : Option Addr) (zln zlc : Nat) (zsa : Option Addr) (zsn zsc : Nat) (zna : Option Addr) (znn znc : Nat) (zoa : Option Addr) (zon zoc : Nat) (zba : Option Addr) (zbn zbc : Nat) (x : Wo) (w : World) (h1 : SeeWo w ja jn jc la ln lc sa sn sc na nn nc oa on oc ba bn bc x) (h2 : SeeWo w zja zjn zjc zla zln zlc zsa zsn zsc zna znn znc zoa zon zoc zba zbn zbc x) :
    Calls Try.prog 8 #[.agg #[.int .i64 x.1.1, .int .i64 x.1.2.1, .int .i64 x.1.2.2.1, .slice ja jn jc, .slice la ln lc, .int .i64 x.1.2.2.2.2.2, .slice sa sn sc, .slice na nn nc, .slice oa on oc, .slice ba bn bc], .agg #[.int .i64 x.1.1, .int .i64 x.1.2.1, .int .i64 x.1.2.2.1, .slice zja zjn zjc, .slice zla zln zlc, .int .i64 x.1.2.2.2.2.2, .slice zsa zsn zsc, .slice zna znn znc, .slice zoa zon zoc, .slice zba zbn zbc]] w fun e w' => e = .returned (.bool true) ∧ Below w.heap.size w w' := by
  obtain rfl : sn = zsn := h1.sh.1.symm.trans h2.sh.1
  obtain rfl : nn = znn := h1.net.1.symm.trans h2.net.1
  obtain rfl : on = zon := h1.outs.1.symm.trans h2.outs.1
  obtain rfl : bn = zbn := h1.begun.1.symm.trans h2.begun.1
  obtain ⟨W, hW⟩ : ∃ W, (w.alloc (.cells #[.int .i64 x.1.1, .int .i64 x.1.2.1, .int .i64 x.1.2.2.1, .slice ja jn jc, .slice la ln lc, .int .i64 x.1.2.2.2.2.2, .slice sa sn sc, .slice na nn nc, .slice oa on oc, .slice ba bn bc] 41)).alloc (.cells #[.int .i64 x.1.1, .int .i64 x.1.2.1, .int .i64 x.1.2.2.1, .slice zja zjn zjc, .slice zla zln zlc, .int .i64 x.1.2.2.2.2.2, .slice zsa sn zsc, .slice zna nn znc, .slice zoa on zoc, .slice zba bn zbc] 41) = W := ⟨_, rfl⟩
  have hB : Below w.heap.size w W := by rw [← hW]; exact cos.below_two _ _ _
  have hx : BoxIn w.heap.size 41 [] [.int .i64 x.1.1, .int .i64 x.1.2.1, .int .i64 x.1.2.2.1, .slice ja jn jc, .slice la ln lc, .int .i64 x.1.2.2.2.2.2, .slice sa sn sc, .slice na nn nc, .slice oa on oc, .slice ba bn bc] [] W := by rw [← hW]; exact (boxIn_new w _ _).below below_make
  have hy : BoxIn (w.heap.size + 1) 41 [] [.int .i64 x.1.1, .int .i64 x.1.2.1, .int .i64 x.1.2.2.1, .slice zja zjn zjc, .slice zla zln zlc, .int .i64 x.1.2.2.2.2.2, .slice zsa sn zsc, .slice zna nn znc, .slice zoa on zoc, .slice zba bn zbc] [] W := by
    rw [← hW]
    have := boxIn_new (w.alloc (.cells #[.int .i64 x.1.1, .int .i64 x.1.2.1, .int .i64 x.1.2.2.1, .slice ja jn jc, .slice la ln lc, .int .i64 x.1.2.2.2.2.2, .slice sa sn sc, .slice na nn nc, .slice oa on oc, .slice ba bn bc] 41)) [.int .i64 x.1.1, .int .i64 x.1.2.1, .int .i64 x.1.2.2.1, .slice zja zjn zjc, .slice zla zln zlc, .int .i64 x.1.2.2.2.2.2, .slice zsa sn zsc, .slice zna nn znc, .slice zoa on zoc, .slice zba bn zbc] 41
    rwa [show (w.alloc (.cells #[.int .i64 x.1.1, .int .i64 x.1.2.1, .int .i64 x.1.2.2.1, .slice ja jn jc, .slice la ln lc, .int .i64 x.1.2.2.2.2.2, .slice sa sn sc, .slice na nn nc, .slice oa on oc, .slice ba bn bc] 41)).heap.size = w.heap.size + 1 by simp] at this
  have H0 := Hid.mk' (fun wx (hb : Below W.heap.size W wx) => cos.eqCoordT _ _ _ _ _ _ _ _ _ _ _ _ x.1 wx ((h1.co.below hB).below hb) ((h2.co.below hB).below hb))
  have H1 := Hid.mk' (fun wx (hb : Below W.heap.size W wx) => eqShardsT sa zsa sn sc zsc x.2.1 wx ((h1.sh.below hB).below hb) ((h2.sh.below hB).below hb))
  have H2 := Hid.mk' (fun wx (hb : Below W.heap.size W wx) => cos.eqWordsT na zna nn nc znc x.2.2.1 wx ((h1.net.below hB).below hb) ((h2.net.below hB).below hb))
  have H3 := Hid.mk' (fun wx (hb : Below W.heap.size W wx) => cos.eqWordsT oa zoa on oc zoc x.2.2.2.1 wx ((h1.outs.below hB).below hb) ((h2.outs.below hB).below hb))
  have H4 := Hid.mk' (fun wx (hb : Below W.heap.size W wx) => eqOrdersT ba zba bn bc zbc x.2.2.2.2 wx ((h1.begun.below hB).below hb) ((h2.begun.below hB).below hb))
  have HW := Hid.mk' hW
  obtain ⟨x0, x1, x2, x3, x4, x5, x6, x7, x8, x9⟩ := cells10 hx
  obtain ⟨y0, y1, y2, y3, y4, y5, y6, y7, y8, y9⟩ := cells10 hy
  rw [← hW] at x0 x1 x2 x3 x4 x5 x6 x7 x8 x9 y0 y1 y2 y3 y4 y5 y6 y7 y8 y9
  clear hW h1 h2
  go_enter Try.func8, Try.ntmps8
  go_wp2_with fail
  rw [HW.out]
  refine (H0.out W (Below.refl _ _)).mono ?_
  rintro e w1 ⟨rfl, hb1⟩
  clear x0 x1 x2 x3 x4 x5 x6 x7 x8 x9 y0 y1 y2 y3 y4 y5 y6 y7 y8 y9 HW H0
  obtain ⟨x0, x1, x2, x3, x4, x5, x6, x7, x8, x9⟩ := cells10 (hx.below hb1)
  obtain ⟨y0, y1, y2, y3, y4, y5, y6, y7, y8, y9⟩ := cells10 (hy.below hb1)
  go_wp2_with fail
  refine (H1.out _ hb1).mono ?_
  rintro e w2 ⟨rfl, hn1⟩
  have hb2 := hb1.trans (hn1.mono hb1.size)
  clear x0 x1 x2 x3 x4 x5 x6 x7 x8 x9 y0 y1 y2 y3 y4 y5 y6 y7 y8 y9 H1
  obtain ⟨x0, x1, x2, x3, x4, x5, x6, x7, x8, x9⟩ := cells10 (hx.below hb2)
  obtain ⟨y0, y1, y2, y3, y4, y5, y6, y7, y8, y9⟩ := cells10 (hy.below hb2)
  go_wp2_with fail
  refine (H2.out _ hb2).mono ?_
  rintro e w3 ⟨rfl, hn2⟩
  have hb3 := hb2.trans (hn2.mono hb2.size)
  clear x0 x1 x2 x3 x4 x5 x6 x7 x8 x9 y0 y1 y2 y3 y4 y5 y6 y7 y8 y9 H2
  obtain ⟨x0, x1, x2, x3, x4, x5, x6, x7, x8, x9⟩ := cells10 (hx.below hb3)
  obtain ⟨y0, y1, y2, y3, y4, y5, y6, y7, y8, y9⟩ := cells10 (hy.below hb3)
  go_wp2_with fail
  refine (H3.out _ hb3).mono ?_
  rintro e w4 ⟨rfl, hn3⟩
  have hb4 := hb3.trans (hn3.mono hb3.size)
  clear x0 x1 x2 x3 x4 x5 x6 x7 x8 x9 y0 y1 y2 y3 y4 y5 y6 y7 y8 y9 H3
  obtain ⟨x0, x1, x2, x3, x4, x5, x6, x7, x8, x9⟩ := cells10 (hx.below hb4)
  obtain ⟨y0, y1, y2, y3, y4, y5, y6, y7, y8, y9⟩ := cells10 (hy.below hb4)
  go_wp2_with fail
  refine (H4.out _ hb4).mono ?_
  rintro e w5 ⟨rfl, hn4⟩
  have hb5 := hb4.trans (hn4.mono hb4.size)
  clear x0 x1 x2 x3 x4 x5 x6 x7 x8 x9 y0 y1 y2 y3 y4 y5 y6 y7 y8 y9 H4
  go_wp2_with fail
  go_ret
  exact ⟨rfl, hB.trans (hb5.mono hB.size)⟩
end Go.Proofs.Ytmibabclefgljaa.wos

namespace Go.Proofs.Ytmibabclefgljaa.wds
open Go Go.RowKit Go.Proofs.Ytmibabclefgljaa.base Go.Proofs.Ytmibabclefgljaa.pairs Go.Proofs.Ytmibabclefgljaa.ords Go.Proofs.Ytmibabclefgljaa.lay
set_option linter.unusedVariables false
set_option linter.unusedSimpArgs false

set_option maxRecDepth 100000 in
set_option maxHeartbeats 1000000 in
theorem szWordZ (k s t : Int) (y : Bool) (a : Option Addr) (len cap : Nat) (l : List Od) (L : Nat) (w : World) (h : SlO w a len l) (hL : L ≤ 1099511627776) :
    Calls Try.prog 25 #[.agg #[.int .i64 k, .int .i64 s, .int .i64 t, .slice a len cap, .bool y], .int .i64 (L : Int)] w fun e w' => e = .returned (.int .i64 (pairs.szR L (l.length + sumO l))) ∧ Below w.heap.size w w' := by
  have hba : Below w.heap.size w (w.alloc (.cells #[.int .i64 k, .int .i64 s, .int .i64 t, .slice a len cap, .bool y] 76)) := (Below.refl _ _).alloc (Nat.le_refl _) _
  have HS := Hid.mk' (szOpS a len cap l L _ (h.below hba) hL)
  by_cases hc : l.length + sumO l ≤ L
  · rw [pairs.szR_pos hc] at HS ⊢
    have hn : ¬ (L : Int) - ((l.length + sumO l : Nat) : Int) < 0 := by omega
    generalize (L : Int) - ((l.length + sumO l : Nat) : Int) = S at *
    go_enter Try.func25, Try.ntmps25
    go_wp2_with fail
    refine HS.out.mono ?_
    rintro e w1 ⟨rfl, hb1⟩
    go_wp2_with fail
    go_ret
    exact ⟨rfl, hba.trans (hb1.mono hba.size)⟩
  · rw [pairs.szR_neg (by omega)] at HS ⊢
    go_enter Try.func25, Try.ntmps25
    go_wp2_with fail
    refine HS.out.mono ?_
    rintro e w1 ⟨rfl, hb1⟩
    go_wp2_with fail
    go_ret
    exact ⟨rfl, hba.trans (hb1.mono hba.size)⟩
end Go.Proofs.Ytmibabclefgljaa.wds
