/- The laws' own functions on shards: sizes, copies, marks. The laws' own functions on shards: copies and marks. -/
import Derived.Test.YteniflajiklffaaGreatDoorShar
import Derived.Test.YteniflajiklffaaGreatDoorShaq
namespace Go.Proofs.YteniflajiklffaaGreatDoor.recs
open Go Go.RowKit Go.Proofs.YteniflajiklffaaGreatDoor.base Go.Proofs.YteniflajiklffaaGreatDoor.pairs Go.Proofs.YteniflajiklffaaGreatDoor.ords Go.Proofs.YteniflajiklffaaGreatDoor.helps Go.Proofs.YteniflajiklffaaGreatDoor.help Go.Proofs.YteniflajiklffaaGreatDoor.lay
set_option linter.unusedVariables false
set_option linter.unusedSimpArgs false

def szSh (s : Shd) : Nat := (s.2.1.length + sumR s.2.1) + (s.2.2.2.1.length + sumP s.2.2.2.1) + (s.2.2.2.2.length + sumR s.2.2.2.2)
def cntS (s : Shd) : Nat := cntR s.2.1 + 2 * s.2.2.2.1.length + cntR s.2.2.2.2
def mShd (k : Nat) (s : Shd) : Shd := (s.1, markR k s.2.1, s.2.2.1, marksP (k + cntR s.2.1) s.2.2.2.1.length, markR (k + cntR s.2.1 + 2 * s.2.2.2.1.length) s.2.2.2.2)
theorem rsz_in (l : List Rc) (r : Rc) (h : r ∈ l) : rsz r ≤ sumR l := by
  induction l with
  | nil => cases h
  | cons x l ih =>
    have e : sumR (x :: l) = rsz x + sumR l := by simp [sumR]
    rcases List.mem_cons.1 h with rfl | h
    · omega
    · have := ih h; omega
theorem cntR_le (l : List Rc) : cntR l ≤ 3 * (l.length + sumR l) := by
  induction l with
  | nil => simp [cntR]
  | cons x l ih =>
    have e : sumR (x :: l) = rsz x + sumR l := by simp [sumR]
    rw [cntR_cons, List.length_cons, e]
    unfold rsz
    omega
theorem cntS_le (s : Shd) : cntS s ≤ 3 * szSh s := by
  have h1 := cntR_le s.2.1
  have h2 := cntR_le s.2.2.2.2
  unfold cntS szSh
  omega
theorem few_of {l : List Rc} {N : Nat} (h : sumR l ≤ N) (hN : N ≤ 1099511627776) : Few l := fun r hr => by
  have h1 := rsz_in l r hr
  unfold rsz at h1
  refine ⟨by omega, fun p hp => ?_⟩
  have h2 := osz_le r.2.2 p hp
  unfold osz at h2
  omega
section
variable {w w' : World} {la ma ha : Option Addr} {ln lc mn mc hn hc : Nat} {s : Shd} {F : List Nat}
theorem SeeSh.lens (h : SeeSh w la ln lc ma mn mc ha hn hc s) : s.2.1.length = ln ∧ s.2.2.2.1.length = mn ∧ s.2.2.2.2.length = hn := ⟨h.log.1, h.map.1, h.held.1⟩
end
set_option maxRecDepth 100000 in
set_option maxHeartbeats 2000000 in
theorem szShard (la : Option Addr) (ln lc : Nat) (ma : Option Addr) (mn mc : Nat) (ha : Option Addr) (hn hc : Nat) (s : Shd) (L : Nat) (w : World) (h : SeeSh w la ln lc ma mn mc ha hn hc s) (hL : L ≤ 1099511627776) :
    Calls Tryz.prog 18 #[aggSh s.1 s.2.2.1 la ln lc ma mn mc ha hn hc, .int .i64 (L : Int)] w fun e w' => e = .returned (.int .i64 (pairs.szR L (szSh s))) ∧ Below w.heap.size w w' := by
  obtain ⟨W, hW⟩ : ∃ W, w.alloc (.cells #[.int .i64 s.1, .slice la ln lc, .int .i64 s.2.2.1, .slice ma mn mc, .slice ha hn hc] 46) = W := ⟨_, rfl⟩
  have hB : Below w.heap.size w W := by rw [← hW]; exact (Below.refl _ _).alloc (Nat.le_refl _) _
  have hbx : BoxIn w.heap.size 46 [] (shVals s.1 s.2.2.1 la ln lc ma mn mc ha hn hc) [] W := by rw [← hW]; exact boxIn_new w _ _
  have HW := Hid.mk' hW
  have c1 := hbx.cell 1 _ rfl
  simp only [List.length_nil, Nat.zero_add] at c1
  rw [← hW] at c1
  clear hW
  obtain ⟨A, hA⟩ : ∃ A, A = s.2.1.length + sumR s.2.1 := ⟨_, rfl⟩
  obtain ⟨Bq, hBq⟩ : ∃ Bq, Bq = s.2.2.2.1.length + sumP s.2.2.2.1 := ⟨_, rfl⟩
  obtain ⟨Cq, hCq⟩ : ∃ Cq, Cq = s.2.2.2.2.length + sumR s.2.2.2.2 := ⟨_, rfl⟩
  have HS : Hid (szSh s = A + Bq + Cq) := by show _ = _; unfold szSh; rw [hA, hBq, hCq]
  have H1 := Hid.mk' (szRecS la ln lc s.2.1 L W (h.log.below hB) hL)
  have H2 := Hid.mk' (fun (L2 : Nat) (hL2 : L2 ≤ 1099511627776) wx (hx : Below w.heap.size w wx) => szPairS ma mn mc s.2.2.2.1 L2 wx (h.map.below hx) hL2)
  have H3 := Hid.mk' (fun (L2 : Nat) (hL2 : L2 ≤ 1099511627776) wx (hx : Below w.heap.size w wx) => szRecS ha hn hc s.2.2.2.2 L2 wx (h.held.below hx) hL2)
  rw [← hA] at H1
  rw [← hBq] at H2
  rw [← hCq] at H3
  clear hA hBq hCq h
  by_cases g1 : A ≤ L
  · obtain ⟨L1, hL1⟩ : ∃ L1 : Nat, (L : Int) - (A : Int) = (L1 : Int) := ⟨L - A, by omega⟩
    rw [pairs.szR_pos g1, hL1] at H1
    have hn1 : ¬ (L1 : Int) < 0 := by omega
    by_cases g2 : Bq ≤ L1
    · obtain ⟨L2, hL2⟩ : ∃ L2 : Nat, (L1 : Int) - (Bq : Int) = (L2 : Int) := ⟨L1 - Bq, by omega⟩
      have H2' := Hid.mk' (H2.out L1 (by omega))
      rw [pairs.szR_pos g2, hL2] at H2'
      have hn2 : ¬ (L2 : Int) < 0 := by omega
      by_cases g3 : Cq ≤ L2
      · obtain ⟨L3, hL3⟩ : ∃ L3 : Nat, (L2 : Int) - (Cq : Int) = (L3 : Int) := ⟨L2 - Cq, by omega⟩
        have H3' := Hid.mk' (H3.out L2 (by omega))
        rw [pairs.szR_pos g3, hL3] at H3'
        have hn3 : ¬ (L3 : Int) < 0 := by omega
        have HV : Hid (pairs.szR L (szSh s) = (L3 : Int)) := by show _ = _; rw [HS.out, pairs.szR_pos (by omega)]; omega
        clear H2 H3 hL1 hL2 hL3 g1 g2 g3
        go_enter Tryz.func18, Tryz.ntmps18
        go_wp2_with fail
        rw [HW.out]
        refine H1.out.mono ?_
        rintro e w1 ⟨rfl, hb1⟩
        have hB1 := hB.trans (hb1.mono hB.size)
        have hbx1 := hbx.below hb1
        have d3 := hbx1.cell 3 _ rfl
        simp only [List.length_nil, Nat.zero_add] at d3
        clear c1 H1
        go_wp2_with fail
        refine (H2'.out _ hB1).mono ?_
        rintro e w2 ⟨rfl, hb2⟩
        have hB2 := hB1.trans (hb2.mono hB1.size)
        have hbx2 := hbx1.below hb2
        have d4 := hbx2.cell 4 _ rfl
        simp only [List.length_nil, Nat.zero_add] at d4
        clear d3 H2'
        go_wp2_with fail
        refine (H3'.out _ hB2).mono ?_
        rintro e w3 ⟨rfl, hb3⟩
        have hB3 := hB2.trans (hb3.mono hB2.size)
        clear d4 H3'
        go_wp2_with fail
        go_ret
        rw [HV.out]
        exact ⟨rfl, hB3⟩
      · have H3' := Hid.mk' (H3.out L2 (by omega))
        rw [pairs.szR_neg (by omega)] at H3'
        have HV : Hid (pairs.szR L (szSh s) = -1) := by show _ = _; rw [HS.out, pairs.szR_neg (by omega)]
        clear H2 H3 hL1 hL2 g1 g2 g3
        go_enter Tryz.func18, Tryz.ntmps18
        go_wp2_with fail
        rw [HW.out]
        refine H1.out.mono ?_
        rintro e w1 ⟨rfl, hb1⟩
        have hB1 := hB.trans (hb1.mono hB.size)
        have hbx1 := hbx.below hb1
        have d3 := hbx1.cell 3 _ rfl
        simp only [List.length_nil, Nat.zero_add] at d3
        clear c1 H1
        go_wp2_with fail
        refine (H2'.out _ hB1).mono ?_
        rintro e w2 ⟨rfl, hb2⟩
        have hB2 := hB1.trans (hb2.mono hB1.size)
        have hbx2 := hbx1.below hb2
        have d4 := hbx2.cell 4 _ rfl
        simp only [List.length_nil, Nat.zero_add] at d4
        clear d3 H2'
        go_wp2_with fail
        refine (H3'.out _ hB2).mono ?_
        rintro e w3 ⟨rfl, hb3⟩
        have hB3 := hB2.trans (hb3.mono hB2.size)
        clear d4 H3'
        go_wp2_with fail
        go_ret
        rw [HV.out]
        exact ⟨rfl, hB3⟩
    · have H2' := Hid.mk' (H2.out L1 (by omega))
      rw [pairs.szR_neg (by omega)] at H2'
      have HV : Hid (pairs.szR L (szSh s) = -1) := by show _ = _; rw [HS.out, pairs.szR_neg (by omega)]
      clear H2 H3 hL1 g1 g2
      go_enter Tryz.func18, Tryz.ntmps18
      go_wp2_with fail
      rw [HW.out]
      refine H1.out.mono ?_
      rintro e w1 ⟨rfl, hb1⟩
      have hB1 := hB.trans (hb1.mono hB.size)
      have hbx1 := hbx.below hb1
      have d3 := hbx1.cell 3 _ rfl
      simp only [List.length_nil, Nat.zero_add] at d3
      clear c1 H1
      go_wp2_with fail
      refine (H2'.out _ hB1).mono ?_
      rintro e w2 ⟨rfl, hb2⟩
      have hB2 := hB1.trans (hb2.mono hB1.size)
      clear d3 H2'
      go_wp2_with fail
      go_ret
      rw [HV.out]
      exact ⟨rfl, hB2⟩
  · rw [pairs.szR_neg (by omega)] at H1
    have HV : Hid (pairs.szR L (szSh s) = -1) := by show _ = _; rw [HS.out, pairs.szR_neg (by omega)]
    clear H2 H3 g1
    go_enter Tryz.func18, Tryz.ntmps18
    go_wp2_with fail
    rw [HW.out]
    refine H1.out.mono ?_
    rintro e w1 ⟨rfl, hb1⟩
    have hB1 := hB.trans (hb1.mono hB.size)
    clear c1 H1
    go_wp2_with fail
    go_ret
    rw [HV.out]
    exact ⟨rfl, hB1⟩
theorem eqPairsS (a a2 : Option Addr) (len cap len2 cap2 : Nat) (l : List Pr) (w : World) (h : SlP w a len l) (h2 : SlP w a2 len2 l) :
    Calls Tryz.prog 59 #[.slice a len cap, .slice a2 len2 cap2] w fun e w' => e = .returned (.bool true) ∧ Below w.heap.size w w' :=
  (eqPairS a a2 len cap len2 cap2 l l w h h2).mono fun e w' hp => ⟨by rw [hp.1]; simp, hp.2⟩
set_option maxRecDepth 100000 in
set_option maxHeartbeats 2000000 in
theorem eqShardT (la : Option Addr) (ln lc : Nat) (ma : Option Addr) (mn mc : Nat) (ha : Option Addr) (hn hc : Nat) (la2 : Option Addr) (ln2 lc2 : Nat) (ma2 : Option Addr) (mn2 mc2 : Nat) (ha2 : Option Addr) (hn2 hc2 : Nat) (s : Shd) (w : World) (h : SeeSh w la ln lc ma mn mc ha hn hc s) (h2 : SeeSh w la2 ln2 lc2 ma2 mn2 mc2 ha2 hn2 hc2 s) :
    Calls Tryz.prog 22 #[aggSh s.1 s.2.2.1 la ln lc ma mn mc ha hn hc, aggSh s.1 s.2.2.1 la2 ln2 lc2 ma2 mn2 mc2 ha2 hn2 hc2] w fun e w' => e = .returned (.bool true) ∧ Below w.heap.size w w' := by
  obtain ⟨l1, l2, l3⟩ := SeeSh.lens h
  obtain ⟨k1, k2, k3⟩ := SeeSh.lens h2
  obtain rfl : ln2 = ln := by omega
  obtain rfl : mn2 = mn := by omega
  obtain rfl : hn2 = hn := by omega
  obtain ⟨W, hW⟩ : ∃ W, (w.alloc (boxSh s.1 s.2.2.1 la ln2 lc ma mn2 mc ha hn2 hc)).alloc (boxSh s.1 s.2.2.1 la2 ln2 lc2 ma2 mn2 mc2 ha2 hn2 hc2) = W := ⟨_, rfl⟩
  have hba : Below w.heap.size w (w.alloc (boxSh s.1 s.2.2.1 la ln2 lc ma mn2 mc ha hn2 hc)) := (Below.refl _ _).alloc (Nat.le_refl _) _
  have hB : Below w.heap.size w W := by rw [← hW]; exact hba.alloc hba.size _
  have hT : BoxIn w.heap.size 27 [] (shVals s.1 s.2.2.1 la ln2 lc ma mn2 mc ha hn2 hc) [] W := by rw [← hW]; exact (boxIn_new w _ _).below ((Below.refl _ _).alloc (Nat.le_refl _) _)
  have hR : BoxIn (w.heap.size + 1) 27 [] (shVals s.1 s.2.2.1 la2 ln2 lc2 ma2 mn2 mc2 ha2 hn2 hc2) [] W := by
    rw [← hW]
    have := boxIn_new (w.alloc (boxSh s.1 s.2.2.1 la ln2 lc ma mn2 mc ha hn2 hc)) (shVals s.1 s.2.2.1 la2 ln2 lc2 ma2 mn2 mc2 ha2 hn2 hc2) 27
    rwa [show (w.alloc (boxSh s.1 s.2.2.1 la ln2 lc ma mn2 mc ha hn2 hc)).heap.size = w.heap.size + 1 by simp] at this
  have HW := Hid.mk' hW
  have a0 := hT.cell 0 _ rfl
  have a1 := hT.cell 1 _ rfl
  have b0 := hR.cell 0 _ rfl
  have b1 := hR.cell 1 _ rfl
  simp only [List.length_nil, Nat.zero_add] at a0 a1 b0 b1
  rw [← hW] at a0 a1 b0 b1
  have f1 : (s.1 == s.1) = true := by simp
  have f2 : (s.2.2.1 == s.2.2.1) = true := by simp
  have H1 := Hid.mk' (eqRecsT la la2 ln2 lc lc2 s.2.1 W (h.log.below hB) (h2.log.below hB))
  have H2 := Hid.mk' (fun wx (hx : Below w.heap.size w wx) => eqPairsS ma ma2 mn2 mc mn2 mc2 s.2.2.2.1 wx (h.map.below hx) (h2.map.below hx))
  have H3 := Hid.mk' (fun wx (hx : Below w.heap.size w wx) => eqRecsT ha ha2 hn2 hc hc2 s.2.2.2.2 wx (h.held.below hx) (h2.held.below hx))
  clear hW l1 l2 l3 k1 k2 k3 h h2
  go_enter Tryz.func22, Tryz.ntmps22
  go_wp2_with fail
  rw [HW.out]
  refine H1.out.mono ?_
  rintro e w1 ⟨rfl, hb1⟩
  have hB1 := hB.trans (hb1.mono hB.size)
  have hT1 := hT.below hb1
  have hR1 := hR.below hb1
  have p2 := hT1.cell 2 _ rfl
  have p3 := hT1.cell 3 _ rfl
  have q2 := hR1.cell 2 _ rfl
  have q3 := hR1.cell 3 _ rfl
  simp only [List.length_nil, Nat.zero_add] at p2 p3 q2 q3
  clear a0 a1 b0 b1 H1 HW
  go_wp2_with fail
  refine (H2.out _ hB1).mono ?_
  rintro e w2 ⟨rfl, hb2⟩
  have hB2 := hB1.trans (hb2.mono hB1.size)
  have p4 := (hT1.below hb2).cell 4 _ rfl
  have q4 := (hR1.below hb2).cell 4 _ rfl
  simp only [List.length_nil, Nat.zero_add] at p4 q4
  clear p2 p3 q2 q3 H2
  go_wp2_with fail
  refine (H3.out _ hB2).mono ?_
  rintro e w3 ⟨rfl, hb3⟩
  have hB3 := hB2.trans (hb3.mono hB2.size)
  clear p4 q4 H3
  go_wp2_with fail
  go_ret
  exact ⟨rfl, hB3⟩
end Go.Proofs.YteniflajiklffaaGreatDoor.recs

namespace Go.Proofs.YteniflajiklffaaGreatDoor.recs
open Go Go.RowKit Go.Proofs.YteniflajiklffaaGreatDoor.base Go.Proofs.YteniflajiklffaaGreatDoor.pairs Go.Proofs.YteniflajiklffaaGreatDoor.ords Go.Proofs.YteniflajiklffaaGreatDoor.helps Go.Proofs.YteniflajiklffaaGreatDoor.help Go.Proofs.YteniflajiklffaaGreatDoor.lay
set_option linter.unusedVariables false
set_option linter.unusedSimpArgs false

set_option maxRecDepth 100000 in
set_option maxHeartbeats 4000000 in
theorem toShard (la : Option Addr) (ln lc : Nat) (ma : Option Addr) (mn mc : Nat) (ha : Option Addr) (hn hc : Nat) (s : Shd) (w : World) (h : SeeSh w la ln lc ma mn mc ha hn hc s) (hf : Few s.2.1) (hf2 : Few s.2.2.2.2) (hl1 : ln ≤ 1099511627776) (hl2 : mn ≤ 1099511627776) (hl3 : hn ≤ 1099511627776) :
    Calls Tryz.prog 20 #[aggSh s.1 s.2.2.1 la ln lc ma mn mc ha hn hc] w fun e w' => ∃ gl gm gh F, e = .returned (aggSh s.1 s.2.2.1 (some ⟨gl, 0, none⟩) ln ln (some ⟨gm, 0, none⟩) mn mn (some ⟨gh, 0, none⟩) hn hn) ∧
      OwnSh w' (some ⟨gl, 0, none⟩) ln ln (some ⟨gm, 0, none⟩) mn mn (some ⟨gh, 0, none⟩) hn hn s F ∧ (∀ k ∈ F, w.heap.size ≤ k) ∧ Below w.heap.size w w' := by
  obtain ⟨W1, hW1⟩ : ∃ W1, w.alloc (.cells #[.int .i64 s.1, .slice la ln lc, .int .i64 s.2.2.1, .slice ma mn mc, .slice ha hn hc] 46) = W1 := ⟨_, rfl⟩
  have hb1 : Below w.heap.size w W1 := by rw [← hW1]; exact (Below.refl _ _).alloc (Nat.le_refl _) _
  have hA1 : BoxIn w.heap.size 46 [] (shVals s.1 s.2.2.1 la ln lc ma mn mc ha hn hc) [] W1 := by rw [← hW1]; exact boxIn_new w _ _
  have hs1 : W1.heap.size = w.heap.size + 1 := by rw [← hW1]; simp
  obtain ⟨W2, hW2⟩ : ∃ W2, W1.alloc (boxSh 0 0 none 0 0 none 0 0 none 0 0) = W2 := ⟨_, rfl⟩
  have hb2 : Below W1.heap.size W1 W2 := by rw [← hW2]; exact (Below.refl _ _).alloc (Nat.le_refl _) _
  have hR2 : BoxIn (w.heap.size + 1) 27 [] (shVals 0 0 none 0 0 none 0 0 none 0 0) [] W2 := by rw [← hW2, ← hs1]; exact boxIn_new W1 _ _
  have hs2 : W2.heap.size = w.heap.size + 1 + 1 := by rw [← hW2]; simp [hs1]
  obtain ⟨W, hW⟩ : ∃ W, W2.alloc (boxSh s.1 0 none 0 0 none 0 0 none 0 0) = W := ⟨_, rfl⟩
  have hb3 : Below W2.heap.size W2 W := by rw [← hW]; exact (Below.refl _ _).alloc (Nat.le_refl _) _
  have hO3 : BoxIn (w.heap.size + 1 + 1) 27 [] (shVals s.1 0 none 0 0 none 0 0 none 0 0) [] W := by rw [← hW, ← hs2]; exact boxIn_new W2 _ _
  have hA3 := (hA1.below hb2).below hb3
  have hR3 := hR2.below hb3
  have hB := (hb1.trans (hb2.mono hb1.size)).trans (hb3.mono (Nat.le_trans hb1.size hb2.size))
  have HWW : Hid (((w.alloc (.cells #[.int .i64 s.1, .slice la ln lc, .int .i64 s.2.2.1, .slice ma mn mc, .slice ha hn hc] 46)).alloc (boxSh 0 0 none 0 0 none 0 0 none 0 0)).alloc (boxSh s.1 0 none 0 0 none 0 0 none 0 0) = W) := by show _ = _; rw [hW1, hW2, hW]
  have H1 := Hid.mk' (toRecS la ln lc s.2.1 W (h.log.below hB) hl1 (fun r hr => (hf r hr).1))
  have H2 := Hid.mk' (fun wx (hx : Below w.heap.size w wx) => toPairS ma mn mc s.2.2.2.1 wx (h.map.below hx) hl2)
  have H3 := Hid.mk' (fun wx (hx : Below w.heap.size w wx) => toRecS ha hn hc s.2.2.2.2 wx (h.held.below hx) hl3 (fun r hr => (hf2 r hr).1))
  have hid := h.id
  have hsu := h.sure
  have c1 := hA3.cell 1 _ rfl
  simp only [List.length_nil, Nat.zero_add] at c1
  rw [← HWW.out] at c1
  have hOl := hO3.lt
  clear hW1 hW2 hW hb1 hb2 hb3 hA1 hR2 hs1 hs2 h hf hf2
  go_enter Tryz.func20, Tryz.ntmps20
  go_wp2_with fail
  rw [HWW.out]
  refine H1.out.mono ?_
  rintro e w1 ⟨gl, hl, rfl, hOl1, hb1⟩
  have hB1 := hB.trans (hb1.mono hB.size)
  have hO1 := hO3.below hb1
  have hA1 := hA3.below hb1
  have hR1 := hR3.below hb1
  have n1 := hO1.set 1 (by simp [shVals]) (.slice (some ⟨gl, 0, none⟩) ln ln)
  have n2 := n1.1.set 2 (by simp [shVals]) (.int .i64 s.2.2.1)
  simp only [List.length_nil, Nat.zero_add] at n1 n2
  have g12 := grownBy_trans n1.2 n2.2
  have u1 := hO1.cell 1 _ rfl
  have v1 := hO1.fz 1
  have u2 := n1.1.cell 2 _ rfl
  have v2 := n1.1.fz 2
  have t2 := (hA1.grown n1.2 (by simp; omega)).cell 2 _ rfl
  have t3 := (hA1.grown g12 (by simp; omega)).cell 3 _ rfl
  simp only [List.length_nil, Nat.zero_add] at u1 u2 t2 t3
  have hB2 := hB1.grown g12 hB1.size (fun k e => by cases e; omega)
  have hR2 := hR1.grown g12 (by simp)
  have hA2 := hA1.grown g12 (by simp; omega)
  have hOl2 := hOl1.grown g12 (fun e => by have := (hOl1.lt _ e).1; omega)
  have H2' := Hid.mk' (H2.out _ hB2)
  have hO2 : BoxIn (w.heap.size + 1 + 1) 27 [] (shVals s.1 s.2.2.1 (some ⟨gl, 0, none⟩) ln ln none 0 0 none 0 0) [] _ := n2.1
  clear c1 H1 H2
  go_wp2_with fail
  refine H2'.out.mono ?_
  generalize (w1.setCell ⟨w.heap.size + 1 + 1, 1, none⟩ (.slice (some ⟨gl, 0, none⟩) ln ln)).setCell ⟨w.heap.size + 1 + 1, 2, none⟩ (.int .i64 s.2.2.1) = w2 at *
  rintro e w3 ⟨gm, rfl, hOm3, hb3⟩
  clear u1 v1 u2 v2 t2 t3 H2' n1 n2 g12 hOl1 hO1 hA1 hR1 hB1
  have hB3 := hB2.trans (hb3.mono hB2.size)
  have hO3' := hO2.below hb3
  have hA3' := hA2.below hb3
  have hR3' := hR2.below hb3
  have hOl3 := hOl2.below hb3
  have n3 := hO3'.set 3 (by simp [shVals]) (.slice (some ⟨gm, 0, none⟩) mn mn)
  simp only [List.length_nil, Nat.zero_add] at n3
  have u3 := hO3'.cell 3 _ rfl
  have v3 := hO3'.fz 3
  have t4 := (hA3'.grown n3.2 (by simp; omega)).cell 4 _ rfl
  simp only [List.length_nil, Nat.zero_add] at u3 t4
  have hB4 := hB3.grown n3.2 hB3.size (fun k e => by cases e; omega)
  have hs2 := hB2.size
  have hWw2 : W.heap.size ≤ w2.heap.size := by have := hOl2.lt gl (.inl rfl); omega
  have hR4 := hR3'.grown n3.2 (by simp)
  have hOl4 := hOl3.grown n3.2 (fun e => by have := (hOl2.lt _ e).1; omega)
  have hOm4 := hOm3.grown n3.2 (fun e => by have := hOm3.lt.1; have := hO2.lt; have := Option.some.inj e; omega)
  have hO4 : BoxIn (w.heap.size + 1 + 1) 27 [] (shVals s.1 s.2.2.1 (some ⟨gl, 0, none⟩) ln ln (some ⟨gm, 0, none⟩) mn mn none 0 0) [] _ := n3.1
  have H3' := Hid.mk' (H3.out _ hB4)
  clear H3
  go_wp2_with fail
  refine H3'.out.mono ?_
  generalize w3.setCell ⟨w.heap.size + 1 + 1, 3, none⟩ (.slice (some ⟨gm, 0, none⟩) mn mn) = w4 at *
  rintro e w5 ⟨gh, hh, rfl, hOh5, hb5⟩
  clear u3 v3 t4 H3' n3 hO3' hA3' hR3' hOl3 hO2 hA2 hR2
  have hB5 := hB4.trans (hb5.mono hB4.size)
  have hO5 := hO4.below hb5
  have hR5 := hR4.below hb5
  have hOl5 := (hOl4.below hb5).mono (base' := w.heap.size) hB.size
  have hOm5 := (hOm4.below hb5).mono (base' := w.heap.size) hB2.size
  have n4 := hO5.set 4 (by simp [shVals]) (.slice (some ⟨gh, 0, none⟩) hn hn)
  simp only [List.length_nil, Nat.zero_add] at n4
  have u4 := hO5.cell 4 _ rfl
  have v4 := hO5.fz 4
  simp only [List.length_nil, Nat.zero_add] at u4
  have hB6 := hB5.grown n4.2 hB5.size (fun k e => by cases e; omega)
  have hR6 := hR5.grown n4.2 (by simp)
  have hlo : ∀ k, BlkR (.slice (some ⟨gl, 0, none⟩) ln ln) hl k → k < w4.heap.size := fun k hk => (hOl4.lt k hk).2
  have hhi : ∀ k, BlkR (.slice (some ⟨gh, 0, none⟩) hn hn) hh k → w4.heap.size ≤ k := fun k hk => (hOh5.lt k hk).1
  have hO4l := hO4.lt
  have hR4l := hR4.lt
  have hlW : ∀ k, BlkR (.slice (some ⟨gl, 0, none⟩) ln ln) hl k → W.heap.size ≤ k := fun k hk => (hOl4.lt k hk).1
  have hgmW : w2.heap.size ≤ gm := hOm4.lt.1
  have hW4 : W.heap.size ≤ w4.heap.size := Nat.le_trans (hOl4.lt gl (.inl rfl)).1 (Nat.le_of_lt (hOl4.lt gl (.inl rfl)).2)
  obtain ⟨F, hOS, hFW⟩ := ownSh_of (s := s) (B := W.heap.size) hid hsu (hOl4.below hb5) ((hOm4.below hb5).mono hWw2) (hOh5.mono hW4) hlo hhi
  have hFn : ∀ k ∈ F, w.heap.size ≤ k := fun k hk => Nat.le_trans hB.size (hFW k hk)
  have hXo : ∀ k ∈ F, k ≠ w.heap.size + 1 + 1 ∧ k ≠ w.heap.size + 1 := fun k hk => by have := hFW k hk; omega
  have hOS6 := hOS.keep (fun j hj => n4.2.block j (hOS.lt j hj) (fun e => (hXo j hj).1 (Option.some.inj e)))
  have hO6 : BoxIn (w.heap.size + 1 + 1) 27 [] (shVals s.1 s.2.2.1 (some ⟨gl, 0, none⟩) ln ln (some ⟨gm, 0, none⟩) mn mn (some ⟨gh, 0, none⟩) hn hn) [] _ := n4.1
  have q0 := hO6.cell 0 _ rfl
  have q1 := hO6.cell 1 _ rfl
  have q2 := hO6.cell 2 _ rfl
  have q3 := hO6.cell 3 _ rfl
  have q4 := hO6.cell 4 _ rfl
  have z0 := hR6.cell 0 _ rfl
  have z1 := hR6.cell 1 _ rfl
  have z2 := hR6.cell 2 _ rfl
  have z3 := hR6.cell 3 _ rfl
  have z4 := hR6.cell 4 _ rfl
  simp only [List.length_nil, Nat.zero_add] at q0 q1 q2 q3 q4 z0 z1 z2 z3 z4
  have f0 := hR6.fz 0
  have f1 := hR6.fz 1
  have f2 := hR6.fz 2
  have f3 := hR6.fz 3
  have f4 := hR6.fz 4
  have hS5 := hR6.set5 (.int .i64 s.1) (.slice (some ⟨gl, 0, none⟩) ln ln) (.int .i64 s.2.2.1) (.slice (some ⟨gm, 0, none⟩) mn mn) (.slice (some ⟨gh, 0, none⟩) hn hn)
  simp only [List.length_nil, Nat.zero_add] at hS5
  have hOSz := hOS6.keep (fun j hj => hS5.2.block j (hOS6.lt j hj) (fun e => (hXo j hj).2 (Option.some.inj e)))
  have hBz := hB6.grown hS5.2 hB6.size (fun j e => by cases e; omega)
  have hzc0 := hS5.1.cell 0 _ rfl
  have hzc1 := hS5.1.cell 1 _ rfl
  have hzc2 := hS5.1.cell 2 _ rfl
  have hzc3 := hS5.1.cell 3 _ rfl
  have hzc4 := hS5.1.cell 4 _ rfl
  simp only [List.length_nil, Nat.zero_add] at hzc0 hzc1 hzc2 hzc3 hzc4
  have HOSz := Hid.mk' hOSz
  have HBz := Hid.mk' hBz
  clear hOSz hBz hS5 hOS6 hOS hO5 hO6 hR5 hR6 n4
  go_wp2_with fail
  refine bodyPost_ret (v := aggSh s.1 s.2.2.1 (some ⟨gl, 0, none⟩) ln ln (some ⟨gm, 0, none⟩) mn mn (some ⟨gh, 0, none⟩) hn hn) ?_ rfl ⟨_, _, _, F, rfl, HOSz.out, hFn, HBz.out⟩
  simp [results, Tryz.results20, go_sem, hzc0, hzc1, hzc2, hzc3, hzc4]
theorem blkS_split {w : World} {la ma ha : Option Addr} {ln lc mn mc hn hc : Nat} {s : Shd} {F : List Nat} (h : OwnSh w la ln lc ma mn mc ha hn hc s F) : ∃ hl hh, OwnR w 0 (.slice la ln lc) s.2.1 hl ∧ OwnR w 0 (.slice ha hn hc) s.2.2.2.2 hh ∧ F = blkR (.slice la ln lc) hl ++ ((Value.slice ma mn mc).ownBlock.toList ++ blkR (.slice ha hn hc) hh) ∧
    (∀ k, BlkR (.slice la ln lc) hl k → (Value.slice ma mn mc).ownBlock ≠ some k ∧ ¬ BlkR (.slice ha hn hc) hh k) ∧ (∀ k, (Value.slice ma mn mc).ownBlock = some k → ¬ BlkR (.slice ha hn hc) hh k) := by
  obtain ⟨hl, q1, hh, q3, rfl⟩ := h.log
  obtain ⟨n1, n2, n3⟩ := nodup_parts h.nodup
  obtain ⟨m1, m2, m3⟩ := nodup_parts n2
  refine ⟨hl, hh, q1, q3, rfl, fun k hk => ⟨fun e => ?_, fun e => ?_⟩, fun k hk e => ?_⟩
  · exact n3 k (mem_blkR.2 hk) (List.mem_append.2 (.inl (by simp [e])))
  · exact n3 k (mem_blkR.2 hk) (List.mem_append.2 (.inr (mem_blkR.2 e)))
  · exact m3 k (by simp [hk]) (mem_blkR.2 e)
set_option maxRecDepth 100000 in
theorem markPairV (a : Option Addr) (n cap k0 : Nat) (l : List Pr) (w : World) (h : OwnPV w a n cap l) (hk1 : 1 ≤ k0) (hk0 : k0 + 2 * n ≤ 1099511627776) :
    Calls Tryz.prog 62 #[.slice a n cap, .int .i64 (k0 : Nat)] w fun e w' => e = .returned (.int .i64 ((k0 + 2 * n : Nat) : Int)) ∧ OwnPV w' a n cap (marksP k0 n) ∧ w.grownBy w' (Value.slice a n cap).ownBlock := by
  rcases h.shape with ⟨rfl, rfl, rfl, rfl⟩ | ⟨g, rfl, ho⟩
  · have hm : marksP k0 0 = [] := rfl
    rw [hm]
    go_enter Tryz.func62, Tryz.ntmps62
    go_wp2_with fail
    go_loopw [1, 5] (fun kv i wr => kv = .int .i64 (k0 : Int) ∧ i = .int .i64 0 ∧ wr = w) (fun _ i _ => 0)
    case atStart => exact ⟨rfl, rfl, rfl⟩
    case round =>
      obtain ⟨rfl, rfl, rfl⟩ := hrel
      go_wp2_with fail
      go_ret
      exact ⟨rfl, ownPV_nil _, World.grownBy.refl _ _⟩
  · refine (markPairS g n cap k0 0 l w ho hk1 hk0).mono ?_
    rintro e w' ⟨rfl, h1, h2⟩
    exact ⟨rfl, ownPV_of h1, h2⟩
theorem frame_keepR {v : Value} {hs : List Value} {w w' : World} {G : List Nat} (h : KeepR v hs w w') (hG : ∀ k, BlkR v hs k → k ∈ G) : lay.Frame G w w' :=
  ⟨h.os, h.tape, h.output, h.size, fun j hj hn => h.block j hj (fun e => hn (hG j e))⟩
set_option maxRecDepth 100000 in
set_option maxHeartbeats 2000000 in
theorem markShard (la : Option Addr) (ln lc : Nat) (ma : Option Addr) (mn mc : Nat) (ha : Option Addr) (hn hc : Nat) (s : Shd) (F : List Nat) (k0 : Nat) (w : World) (h : OwnSh w la ln lc ma mn mc ha hn hc s F) (hk1 : 1 ≤ k0) (hk0 : k0 + cntS s ≤ 1099511627776) (hl1 : ln ≤ 1099511627776) (hl3 : hn ≤ 1099511627776) (K : Int) (hK : Hid (K = (k0 : Int))) :
    Calls Tryz.prog 24 #[aggSh s.1 s.2.2.1 la ln lc ma mn mc ha hn hc, .int .i64 K] w fun e w' => e = .returned (.int .i64 ((k0 + cntS s : Nat) : Int)) ∧ OwnSh w' la ln lc ma mn mc ha hn hc (mShd k0 s) F ∧ lay.Frame F w w' := by
  obtain ⟨hl, hh, hOL, hOH, hFe, d1, d2⟩ := blkS_split h
  have hOM := h.map
  have hlnl := hOL.nlen
  have hhnl := hOH.nlen
  have hmnl := hOM.1
  obtain ⟨W, hW⟩ : ∃ W, w.alloc (boxSh s.1 s.2.2.1 la ln lc ma mn mc ha hn hc) = W := ⟨_, rfl⟩
  have hB : Below w.heap.size w W := by rw [← hW]; exact (Below.refl _ _).alloc (Nat.le_refl _) _
  have hbx : BoxIn w.heap.size 27 [] (shVals s.1 s.2.2.1 la ln lc ma mn mc ha hn hc) [] W := by rw [← hW]; exact boxIn_new w _ _
  have HW := Hid.mk' hW
  have c1 := hbx.cell 1 _ rfl
  simp only [List.length_nil, Nat.zero_add] at c1
  rw [← hW] at c1
  have hFlt := h.lt
  have hXF : ∀ k ∈ F, k ≠ w.heap.size := fun k hk e => by have := hFlt k hk; omega
  have hLF : ∀ k, BlkR (.slice la ln lc) hl k → k ∈ F := fun k hk => by rw [hFe]; exact List.mem_append.2 (.inl (mem_blkR.2 hk))
  have hMF : ∀ k, (Value.slice ma mn mc).ownBlock = some k → k ∈ F := fun k hk => by rw [hFe]; exact List.mem_append.2 (.inr (List.mem_append.2 (.inl (by simp [hk]))))
  have hHF : ∀ k, BlkR (.slice ha hn hc) hh k → k ∈ F := fun k hk => by rw [hFe]; exact List.mem_append.2 (.inr (List.mem_append.2 (.inr (mem_blkR.2 hk))))
  unfold cntS at hk0
  have H1 := Hid.mk' (markRecS (.slice la ln lc) 0 k0 s.2.1 hl W (hOL.below hB) (Nat.zero_le _) hk1 (by omega) (by omega) K hK)
  have HC : Hid (k0 + cntS s = k0 + cntR s.2.1 + 2 * mn + cntR s.2.2.2.2) := by show _ = _; unfold cntS; omega
  obtain ⟨k2, hk2⟩ : ∃ k2, k2 = k0 + cntR s.2.1 := ⟨_, rfl⟩
  rw [← hk2] at H1 HC
  have hid := h.id
  have hsu := h.sure
  have hnd := h.nodup
  have HM : Hid (mShd k0 s = (s.1, markR k0 s.2.1, s.2.2.1, marksP k2 mn, markR (k2 + 2 * mn) s.2.2.2.2)) := by show _ = _; unfold mShd; rw [hk2, hmnl]
  have hk2' : 1 ≤ k2 := by omega
  have hb2 : k2 + 2 * mn + cntR s.2.2.2.2 ≤ 1099511627776 := by omega
  have hhl : s.2.2.2.2.length ≤ 1099511627776 := by omega
  clear hW h hk2 hk0 hlnl hhnl hmnl
  go_enter Tryz.func24, Tryz.ntmps24
  go_wp2_with fail
  rw [HW.out]
  refine H1.out.mono ?_
  rintro e w1 ⟨rfl, hL1, hk1'⟩
  have hF1 : lay.Frame F w w1 := (lay.Frame.of_below (G := F) hB).trans (frame_keepR hk1' hLF) (Fresh.refl _ _)
  have hbx1 : BoxIn w.heap.size 27 [] (shVals s.1 s.2.2.1 la ln lc ma mn mc ha hn hc) [] w1 := hbx.keep (hk1'.block _ hbx.lt (fun e => hXF _ (hLF _ e) rfl))
  have hM1 := (hOM.below hB).of_block (w' := w1) (fun k hk => hk1'.block k ((hOM.below hB).lt k hk) (fun e => (d1 k e).1 hk))
  have hH1 := (hOH.below hB).of_blocks (w' := w1) (fun k hk => hk1'.block k ((hOH.below hB).lt k hk).2 (fun e => (d1 k e).2 hk))
  have H2 := Hid.mk' (markPairV ma mn mc k2 s.2.2.2.1 w1 hM1 hk2' (by omega))
  have c3 := hbx1.cell 3 _ rfl
  simp only [List.length_nil, Nat.zero_add] at c3
  clear c1 H1 HW hk1' hM1
  go_wp2_with fail
  refine H2.out.mono ?_
  rintro e w2 ⟨rfl, hM2, hg2⟩
  have hF2 : lay.Frame F w w2 := hF1.grown hg2 (fun k e => .inl (hMF k e))
  have hbx2 := hbx1.grown hg2 (fun e => hXF _ (hMF _ e.symm) rfl)
  have hL2 := hL1.of_blocks (w' := w2) (fun k hk => hg2.block k (hL1.lt k hk).2 (fun e => (d1 k hk).1 e.symm))
  have hH2 := hH1.of_blocks (w' := w2) (fun k hk => hg2.block k (hH1.lt k hk).2 (fun e => d2 k e.symm hk))
  have H3 := Hid.mk' (markRecS (.slice ha hn hc) 0 (k2 + 2 * mn) s.2.2.2.2 hh w2 hH2 (Nat.zero_le _) (by omega) hb2 hhl _ (by show _ = _; rfl))
  have c4 := hbx2.cell 4 _ rfl
  simp only [List.length_nil, Nat.zero_add] at c4
  clear c3 H2 hg2 hH1 hL1
  go_wp2_with fail
  refine H3.out.mono ?_
  rintro e w3 ⟨rfl, hH3, hk3⟩
  have hF3 : lay.Frame F w w3 := hF2.trans (frame_keepR hk3 hHF) (Fresh.refl _ _)
  have hL3 := hL2.of_blocks (w' := w3) (fun k hk => hk3.block k (hL2.lt k hk).2 (fun e => (d1 k hk).2 e))
  have hM3 := hM2.of_block (w' := w3) (fun k hk => hk3.block k (hM2.lt k hk) (fun e => d2 k hk e))
  clear c4 H3 hk3 hL2 hM2 hH2
  go_wp2_with fail
  go_ret
  rw [HC.out, HM.out]
  exact ⟨rfl, ⟨hid, hsu, ⟨hl, hL3, hh, hH3, hFe⟩, hM3, hnd⟩, hF3⟩
set_option maxRecDepth 100000 in
set_option maxHeartbeats 2000000 in
theorem heldShard (la : Option Addr) (ln lc : Nat) (ma : Option Addr) (mn mc : Nat) (ha : Option Addr) (hn hc : Nat) (s : Shd) (k0 : Nat) (w : World) (h : SeeSh w la ln lc ma mn mc ha hn hc (mShd k0 s)) (hk1 : 1 ≤ k0) (hk0 : k0 + cntS s ≤ 1099511627776) (hl1 : ln ≤ 1099511627776) (hl3 : hn ≤ 1099511627776) (K : Int) (hK : Hid (K = (k0 : Int))) :
    Calls Tryz.prog 26 #[aggSh s.1 s.2.2.1 la ln lc ma mn mc ha hn hc, .int .i64 K] w fun e w' => e = .returned (.int .i64 ((k0 + cntS s : Nat) : Int)) ∧ Below w.heap.size w w' := by
  have hlnl : ln = s.2.1.length := by have := h.log.1; unfold mShd at this; rw [← this]; exact markR_length _ _
  have hhnl : hn = s.2.2.2.2.length := by have := h.held.1; unfold mShd at this; rw [← this]; exact markR_length _ _
  have hmnl : mn = s.2.2.2.1.length := by have := h.map.1; unfold mShd at this; rw [← this]; exact marksP_length _ _
  obtain ⟨W, hW⟩ : ∃ W, w.alloc (boxSh s.1 s.2.2.1 la ln lc ma mn mc ha hn hc) = W := ⟨_, rfl⟩
  have hB : Below w.heap.size w W := by rw [← hW]; exact (Below.refl _ _).alloc (Nat.le_refl _) _
  have hbx : BoxIn w.heap.size 27 [] (shVals s.1 s.2.2.1 la ln lc ma mn mc ha hn hc) [] W := by rw [← hW]; exact boxIn_new w _ _
  have HW := Hid.mk' hW
  have c1 := hbx.cell 1 _ rfl
  simp only [List.length_nil, Nat.zero_add] at c1
  rw [← hW] at c1
  unfold cntS at hk0
  have hlog : SlR w la ln (markR k0 s.2.1) := h.log
  have hmap : SlP w ma mn (marksP (k0 + cntR s.2.1) mn) := by have := h.map; unfold mShd at this; rw [hmnl] at this ⊢; exact this
  have hheld : SlR w ha hn (markR (k0 + cntR s.2.1 + 2 * mn) s.2.2.2.2) := by have := h.held; unfold mShd at this; rw [hmnl]; exact this
  have H1 := Hid.mk' (heldRecS la ln lc k0 s.2.1 W (hlog.below hB) hk1 (by omega) (by omega) K hK)
  have HC : Hid (k0 + cntS s = k0 + cntR s.2.1 + 2 * mn + cntR s.2.2.2.2) := by show _ = _; unfold cntS; omega
  obtain ⟨k2, hk2⟩ : ∃ k2, k2 = k0 + cntR s.2.1 := ⟨_, rfl⟩
  rw [← hk2] at H1 HC hmap hheld
  have H2 := Hid.mk' (fun wx (hx : Below w.heap.size w wx) => heldPairS ma mn mc k2 wx (hmap.below hx) (by omega) (by omega))
  have H3 := Hid.mk' (fun wx (hx : Below w.heap.size w wx) => heldRecS ha hn hc (k2 + 2 * mn) s.2.2.2.2 wx (hheld.below hx) (by omega) (by omega) (by omega) _ (by show _ = _; rfl))
  have m1 : ¬ (k2 : Int) < 0 := by omega
  have m2 : ¬ ((k2 + 2 * mn : Nat) : Int) < 0 := by omega
  have m3 : ¬ ((k2 + 2 * mn + cntR s.2.2.2.2 : Nat) : Int) < 0 := by omega
  clear hW h hk2 hk0 hlnl hhnl hmnl hlog hmap hheld
  go_enter Tryz.func26, Tryz.ntmps26
  go_wp2_with fail
  rw [HW.out]
  refine H1.out.mono ?_
  rintro e w1 ⟨rfl, hb1⟩
  have hB1 := hB.trans (hb1.mono hB.size)
  have hbx1 := hbx.below hb1
  have c3 := hbx1.cell 3 _ rfl
  simp only [List.length_nil, Nat.zero_add] at c3
  clear c1 H1 HW
  go_wp2_with fail
  refine (H2.out _ hB1).mono ?_
  rintro e w2 ⟨rfl, hb2⟩
  have hB2 := hB1.trans (hb2.mono hB1.size)
  have hbx2 := hbx1.below hb2
  have c4 := hbx2.cell 4 _ rfl
  simp only [List.length_nil, Nat.zero_add] at c4
  clear c3 H2
  go_wp2_with fail
  refine (H3.out _ hB2).mono ?_
  rintro e w3 ⟨rfl, hb3⟩
  have hB3 := hB2.trans (hb3.mono hB2.size)
  clear c4 H3
  go_wp2_with fail
  go_ret
  rw [HC.out]
  exact ⟨rfl, hB3⟩
end Go.Proofs.YteniflajiklffaaGreatDoor.recs
