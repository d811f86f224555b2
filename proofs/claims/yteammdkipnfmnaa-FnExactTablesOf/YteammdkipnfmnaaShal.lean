/- The specification's shard: a copy of it. The laws' own functions on shards: sizes, copies, marks. The laws' own functions on shards: copies and marks. -/
import Derived.Test.YteammdkipnfmnaaShak
namespace Go.Proofs.Yteammdkipnfmnaa.lay
open Go Go.RowKit Go.Proofs.Yteammdkipnfmnaa.base Go.Proofs.Yteammdkipnfmnaa.pairs Go.Proofs.Yteammdkipnfmnaa.ords Go.Proofs.Yteammdkipnfmnaa.recs
theorem BoxIn.set5 {X : Nat} {T : TypeId} {pre post : List Value} {a0 a1 a2 a3 a4 : Value} {w : World} (h : BoxIn X T pre [a0, a1, a2, a3, a4] post w) (b0 b1 b2 b3 b4 : Value) :
    BoxIn X T pre [b0, b1, b2, b3, b4] post (((((w.setCell ⟨X, pre.length, none⟩ b0).setCell ⟨X, pre.length + 1, none⟩ b1).setCell ⟨X, pre.length + 2, none⟩ b2).setCell ⟨X, pre.length + 3, none⟩ b3).setCell ⟨X, pre.length + 4, none⟩ b4) ∧
    w.grownBy (((((w.setCell ⟨X, pre.length, none⟩ b0).setCell ⟨X, pre.length + 1, none⟩ b1).setCell ⟨X, pre.length + 2, none⟩ b2).setCell ⟨X, pre.length + 3, none⟩ b3).setCell ⟨X, pre.length + 4, none⟩ b4) (some X) := by
  have h0 := h.set 0 (by simp) b0
  have h1 := h0.1.set 1 (by simp) b1
  have h2 := h1.1.set 2 (by simp) b2
  have h3 := h2.1.set 3 (by simp) b3
  have h4 := h3.1.set 4 (by simp) b4
  exact ⟨h4.1, grownBy_trans (grownBy_trans (grownBy_trans (grownBy_trans h0.2 h1.2) h2.2) h3.2) h4.2⟩
end Go.Proofs.Yteammdkipnfmnaa.lay
namespace Go.Proofs.Yteammdkipnfmnaa.recs
open Go Go.RowKit Go.Proofs.Yteammdkipnfmnaa.base Go.Proofs.Yteammdkipnfmnaa.pairs Go.Proofs.Yteammdkipnfmnaa.ords Go.Proofs.Yteammdkipnfmnaa.helps Go.Proofs.Yteammdkipnfmnaa.help Go.Proofs.Yteammdkipnfmnaa.lay
set_option linter.unusedVariables false
set_option linter.unusedSimpArgs false

theorem OwnR.notPair {w : World} {base b2 g n cap : Nat} {v : Value} {l : List Rc} {hs : List Value} {P : List Pr} (h : OwnR w base v l hs) (hp : OwnP w b2 g n cap P) : ¬ BlkR v hs g := by
  rintro (e | ⟨y, hy, e⟩)
  · exact recRow_ne h.row hp.2.2 e rfl (by decide)
  · obtain ⟨i, hi, rfl⟩ := List.getElem_of_mem hy
    exact recRow_ne (h.ops i (by have := h.len; omega)).2 hp.2.2 e rfl (by decide)
theorem ownSh_of {w : World} {B C gl ln cl gm mn cm gh hn ch : Nat} {s : Shd} {hl hh : List Value} (hid : (Lit.int .i64 s.1).wf = true) (hsu : (Lit.int .i64 s.2.2.1).wf = true)
    (h1 : OwnR w B (.slice (some ⟨gl, 0, none⟩) ln cl) s.2.1 hl) (h2 : OwnP w B gm mn cm s.2.2.2.1) (h3 : OwnR w B (.slice (some ⟨gh, 0, none⟩) hn ch) s.2.2.2.2 hh) (hlo : ∀ k, BlkR (.slice (some ⟨gl, 0, none⟩) ln cl) hl k → k < C) (hhi : ∀ k, BlkR (.slice (some ⟨gh, 0, none⟩) hn ch) hh k → C ≤ k) :
    ∃ F, OwnSh w (some ⟨gl, 0, none⟩) ln cl (some ⟨gm, 0, none⟩) mn cm (some ⟨gh, 0, none⟩) hn ch s F ∧ ∀ k ∈ F, B ≤ k := by
  have o1 := h1.mono (base' := 0) (Nat.zero_le _)
  have o3 := h3.mono (base' := 0) (Nat.zero_le _)
  have d1 := lay.recsR.ownNodup (lay.recs_own.2 ⟨hl, o1, rfl⟩)
  have d3 := lay.recsR.ownNodup (lay.recs_own.2 ⟨hh, o3, rfl⟩)
  refine ⟨_, ⟨hid, hsu, ⟨hl, o1, hh, o3, rfl⟩, ownPV_of h2, ?_⟩, fun k hk => ?_⟩
  · refine nodup_mk d1 (nodup_mk (by simp [Value.ownBlock]) d3 (fun k hk hk2 => ?_)) (fun k hk hk2 => ?_)
    · have : k = gm := by simpa [Value.ownBlock] using hk
      subst this
      exact h3.notPair h2 (lay.mem_blkR.1 hk2)
    · have hk := lay.mem_blkR.1 hk
      rcases List.mem_append.1 hk2 with e | e
      · have : k = gm := by simpa [Value.ownBlock] using e
        subst this
        exact h1.notPair h2 hk
      · have := hlo k hk
        have := hhi k (lay.mem_blkR.1 e)
        omega
  · rcases List.mem_append.1 hk with e | e
    · exact (h1.lt k (lay.mem_blkR.1 e)).1
    · rcases List.mem_append.1 e with e | e
      · have : k = gm := by simpa [Value.ownBlock] using e
        subst this
        exact h2.lt.1
      · exact (h3.lt k (lay.mem_blkR.1 e)).1
end Go.Proofs.Yteammdkipnfmnaa.recs

namespace Go.Proofs.Yteammdkipnfmnaa.recs
open Go Go.RowKit Go.Proofs.Yteammdkipnfmnaa.base Go.Proofs.Yteammdkipnfmnaa.pairs Go.Proofs.Yteammdkipnfmnaa.ords Go.Proofs.Yteammdkipnfmnaa.helps Go.Proofs.Yteammdkipnfmnaa.help Go.Proofs.Yteammdkipnfmnaa.lay
set_option linter.unusedVariables false
set_option linter.unusedSimpArgs false

def szSh (s : Shd) : Nat := (s.2.1.length + sumR s.2.1) + (s.2.2.2.1.length + sumP s.2.2.2.1) + (s.2.2.2.2.length + sumR s.2.2.2.2)
def cntS (s : Shd) : Nat := cntR s.2.1 + 2 * s.2.2.2.1.length + cntR s.2.2.2.2
theorem rsz_in (l : List Rc) (r : Rc) (h : r ∈ l) : rsz r ≤ sumR l := by
  induction l with
  | nil => cases h
  | cons x l ih =>
    have e : sumR (x :: l) = rsz x + sumR l := by simp [sumR]
    rcases List.mem_cons.1 h with rfl | h
    · omega
    · have := ih h; omega
theorem cntR_le (l : List Rc) : cntR l ≤ 3 * (l.length + sumR l) := by
  induction l with
  | nil => simp [cntR]
  | cons x l ih =>
    have e : sumR (x :: l) = rsz x + sumR l := by simp [sumR]
    rw [cntR_cons, List.length_cons, e]
    unfold rsz
    omega
theorem cntS_le (s : Shd) : cntS s ≤ 3 * szSh s := by
  have h1 := cntR_le s.2.1
  have h2 := cntR_le s.2.2.2.2
  unfold cntS szSh
  omega
theorem few_of {l : List Rc} {N : Nat} (h : sumR l ≤ N) (hN : N ≤ 1099511627776) : Few l := fun r hr => by
  have h1 := rsz_in l r hr
  unfold rsz at h1
  refine ⟨by omega, fun p hp => ?_⟩
  have h2 := osz_le r.2.2 p hp
  unfold osz at h2
  omega
section
variable {w w' : World} {la ma ha : Option Addr} {ln lc mn mc hn hc : Nat} {s : Shd} {F : List Nat}
theorem SeeSh.lens (h : SeeSh w la ln lc ma mn mc ha hn hc s) : s.2.1.length = ln ∧ s.2.2.2.1.length = mn ∧ s.2.2.2.2.length = hn := ⟨h.log.1, h.map.1, h.held.1⟩
end
set_option maxRecDepth 100000 in
set_option maxHeartbeats 2000000 in
theorem szShard (la : Option Addr) (ln lc : Nat) (ma : Option Addr) (mn mc : Nat) (ha : Option Addr) (hn hc : Nat) (s : Shd) (L : Nat) (w : World) (h : SeeSh w la ln lc ma mn mc ha hn hc s) (hL : L ≤ 1099511627776) :
    Calls Try.prog 34 #[aggSh s.1 s.2.2.1 la ln lc ma mn mc ha hn hc, .int .i64 (L : Int)] w fun e w' => e = .returned (.int .i64 (pairs.szR L (szSh s))) ∧ Below w.heap.size w w' := by
  obtain ⟨W, hW⟩ : ∃ W, w.alloc (.cells #[.int .i64 s.1, .slice la ln lc, .int .i64 s.2.2.1, .slice ma mn mc, .slice ha hn hc] 79) = W := ⟨_, rfl⟩
  have hB : Below w.heap.size w W := by rw [← hW]; exact (Below.refl _ _).alloc (Nat.le_refl _) _
  have hbx : BoxIn w.heap.size 79 [] (shVals s.1 s.2.2.1 la ln lc ma mn mc ha hn hc) [] W := by rw [← hW]; exact boxIn_new w _ _
  have HW := Hid.mk' hW
  have c1 := hbx.cell 1 _ rfl
  simp only [List.length_nil, Nat.zero_add] at c1
  rw [← hW] at c1
  clear hW
  obtain ⟨A, hA⟩ : ∃ A, A = s.2.1.length + sumR s.2.1 := ⟨_, rfl⟩
  obtain ⟨Bq, hBq⟩ : ∃ Bq, Bq = s.2.2.2.1.length + sumP s.2.2.2.1 := ⟨_, rfl⟩
  obtain ⟨Cq, hCq⟩ : ∃ Cq, Cq = s.2.2.2.2.length + sumR s.2.2.2.2 := ⟨_, rfl⟩
  have HS : Hid (szSh s = A + Bq + Cq) := by show _ = _; unfold szSh; rw [hA, hBq, hCq]
  have H1 := Hid.mk' (szRecS la ln lc s.2.1 L W (h.log.below hB) hL)
  have H2 := Hid.mk' (fun (L2 : Nat) (hL2 : L2 ≤ 1099511627776) wx (hx : Below w.heap.size w wx) => szPairS ma mn mc s.2.2.2.1 L2 wx (h.map.below hx) hL2)
  have H3 := Hid.mk' (fun (L2 : Nat) (hL2 : L2 ≤ 1099511627776) wx (hx : Below w.heap.size w wx) => szRecS ha hn hc s.2.2.2.2 L2 wx (h.held.below hx) hL2)
  rw [← hA] at H1
  rw [← hBq] at H2
  rw [← hCq] at H3
  clear hA hBq hCq h
  by_cases g1 : A ≤ L
  · obtain ⟨L1, hL1⟩ : ∃ L1 : Nat, (L : Int) - (A : Int) = (L1 : Int) := ⟨L - A, by omega⟩
    rw [pairs.szR_pos g1, hL1] at H1
    have hn1 : ¬ (L1 : Int) < 0 := by omega
    by_cases g2 : Bq ≤ L1
    · obtain ⟨L2, hL2⟩ : ∃ L2 : Nat, (L1 : Int) - (Bq : Int) = (L2 : Int) := ⟨L1 - Bq, by omega⟩
      have H2' := Hid.mk' (H2.out L1 (by omega))
      rw [pairs.szR_pos g2, hL2] at H2'
      have hn2 : ¬ (L2 : Int) < 0 := by omega
      by_cases g3 : Cq ≤ L2
      · obtain ⟨L3, hL3⟩ : ∃ L3 : Nat, (L2 : Int) - (Cq : Int) = (L3 : Int) := ⟨L2 - Cq, by omega⟩
        have H3' := Hid.mk' (H3.out L2 (by omega))
        rw [pairs.szR_pos g3, hL3] at H3'
        have hn3 : ¬ (L3 : Int) < 0 := by omega
        have HV : Hid (pairs.szR L (szSh s) = (L3 : Int)) := by show _ = _; rw [HS.out, pairs.szR_pos (by omega)]; omega
        clear H2 H3 hL1 hL2 hL3 g1 g2 g3
        go_enter Try.func34, Try.ntmps34
        go_wp2_with fail
        rw [HW.out]
        refine H1.out.mono ?_
        rintro e w1 ⟨rfl, hb1⟩
        have hB1 := hB.trans (hb1.mono hB.size)
        have hbx1 := hbx.below hb1
        have d3 := hbx1.cell 3 _ rfl
        simp only [List.length_nil, Nat.zero_add] at d3
        clear c1 H1
        go_wp2_with fail
        refine (H2'.out _ hB1).mono ?_
        rintro e w2 ⟨rfl, hb2⟩
        have hB2 := hB1.trans (hb2.mono hB1.size)
        have hbx2 := hbx1.below hb2
        have d4 := hbx2.cell 4 _ rfl
        simp only [List.length_nil, Nat.zero_add] at d4
        clear d3 H2'
        go_wp2_with fail
        refine (H3'.out _ hB2).mono ?_
        rintro e w3 ⟨rfl, hb3⟩
        have hB3 := hB2.trans (hb3.mono hB2.size)
        clear d4 H3'
        go_wp2_with fail
        go_ret
        rw [HV.out]
        exact ⟨rfl, hB3⟩
      · have H3' := Hid.mk' (H3.out L2 (by omega))
        rw [pairs.szR_neg (by omega)] at H3'
        have HV : Hid (pairs.szR L (szSh s) = -1) := by show _ = _; rw [HS.out, pairs.szR_neg (by omega)]
        clear H2 H3 hL1 hL2 g1 g2 g3
        go_enter Try.func34, Try.ntmps34
        go_wp2_with fail
        rw [HW.out]
        refine H1.out.mono ?_
        rintro e w1 ⟨rfl, hb1⟩
        have hB1 := hB.trans (hb1.mono hB.size)
        have hbx1 := hbx.below hb1
        have d3 := hbx1.cell 3 _ rfl
        simp only [List.length_nil, Nat.zero_add] at d3
        clear c1 H1
        go_wp2_with fail
        refine (H2'.out _ hB1).mono ?_
        rintro e w2 ⟨rfl, hb2⟩
        have hB2 := hB1.trans (hb2.mono hB1.size)
        have hbx2 := hbx1.below hb2
        have d4 := hbx2.cell 4 _ rfl
        simp only [List.length_nil, Nat.zero_add] at d4
        clear d3 H2'
        go_wp2_with fail
        refine (H3'.out _ hB2).mono ?_
        rintro e w3 ⟨rfl, hb3⟩
        have hB3 := hB2.trans (hb3.mono hB2.size)
        clear d4 H3'
        go_wp2_with fail
        go_ret
        rw [HV.out]
        exact ⟨rfl, hB3⟩
    · have H2' := Hid.mk' (H2.out L1 (by omega))
      rw [pairs.szR_neg (by omega)] at H2'
      have HV : Hid (pairs.szR L (szSh s) = -1) := by show _ = _; rw [HS.out, pairs.szR_neg (by omega)]
      clear H2 H3 hL1 g1 g2
      go_enter Try.func34, Try.ntmps34
      go_wp2_with fail
      rw [HW.out]
      refine H1.out.mono ?_
      rintro e w1 ⟨rfl, hb1⟩
      have hB1 := hB.trans (hb1.mono hB.size)
      have hbx1 := hbx.below hb1
      have d3 := hbx1.cell 3 _ rfl
      simp only [List.length_nil, Nat.zero_add] at d3
      clear c1 H1
      go_wp2_with fail
      refine (H2'.out _ hB1).mono ?_
      rintro e w2 ⟨rfl, hb2⟩
      have hB2 := hB1.trans (hb2.mono hB1.size)
      clear d3 H2'
      go_wp2_with fail
      go_ret
      rw [HV.out]
      exact ⟨rfl, hB2⟩
  · rw [pairs.szR_neg (by omega)] at H1
    have HV : Hid (pairs.szR L (szSh s) = -1) := by show _ = _; rw [HS.out, pairs.szR_neg (by omega)]
    clear H2 H3 g1
    go_enter Try.func34, Try.ntmps34
    go_wp2_with fail
    rw [HW.out]
    refine H1.out.mono ?_
    rintro e w1 ⟨rfl, hb1⟩
    have hB1 := hB.trans (hb1.mono hB.size)
    clear c1 H1
    go_wp2_with fail
    go_ret
    rw [HV.out]
    exact ⟨rfl, hB1⟩
theorem eqPairsS (a a2 : Option Addr) (len cap len2 cap2 : Nat) (l : List Pr) (w : World) (h : SlP w a len l) (h2 : SlP w a2 len2 l) :
    Calls Try.prog 42 #[.slice a len cap, .slice a2 len2 cap2] w fun e w' => e = .returned (.bool true) ∧ Below w.heap.size w w' :=
  (eqPairS a a2 len cap len2 cap2 l l w h h2).mono fun e w' hp => ⟨by rw [hp.1]; simp, hp.2⟩
set_option maxRecDepth 100000 in
set_option maxHeartbeats 2000000 in
theorem eqShardT (la : Option Addr) (ln lc : Nat) (ma : Option Addr) (mn mc : Nat) (ha : Option Addr) (hn hc : Nat) (la2 : Option Addr) (ln2 lc2 : Nat) (ma2 : Option Addr) (mn2 mc2 : Nat) (ha2 : Option Addr) (hn2 hc2 : Nat) (s : Shd) (w : World) (h : SeeSh w la ln lc ma mn mc ha hn hc s) (h2 : SeeSh w la2 ln2 lc2 ma2 mn2 mc2 ha2 hn2 hc2 s) :
    Calls Try.prog 45 #[aggSh s.1 s.2.2.1 la ln lc ma mn mc ha hn hc, aggSh s.1 s.2.2.1 la2 ln2 lc2 ma2 mn2 mc2 ha2 hn2 hc2] w fun e w' => e = .returned (.bool true) ∧ Below w.heap.size w w' := by
  obtain ⟨l1, l2, l3⟩ := SeeSh.lens h
  obtain ⟨k1, k2, k3⟩ := SeeSh.lens h2
  obtain rfl : ln2 = ln := by omega
  obtain rfl : mn2 = mn := by omega
  obtain rfl : hn2 = hn := by omega
  obtain ⟨W, hW⟩ : ∃ W, (w.alloc (boxSh s.1 s.2.2.1 la ln2 lc ma mn2 mc ha hn2 hc)).alloc (boxSh s.1 s.2.2.1 la2 ln2 lc2 ma2 mn2 mc2 ha2 hn2 hc2) = W := ⟨_, rfl⟩
  have hba : Below w.heap.size w (w.alloc (boxSh s.1 s.2.2.1 la ln2 lc ma mn2 mc ha hn2 hc)) := (Below.refl _ _).alloc (Nat.le_refl _) _
  have hB : Below w.heap.size w W := by rw [← hW]; exact hba.alloc hba.size _
  have hT : BoxIn w.heap.size 56 [] (shVals s.1 s.2.2.1 la ln2 lc ma mn2 mc ha hn2 hc) [] W := by rw [← hW]; exact (boxIn_new w _ _).below ((Below.refl _ _).alloc (Nat.le_refl _) _)
  have hR : BoxIn (w.heap.size + 1) 56 [] (shVals s.1 s.2.2.1 la2 ln2 lc2 ma2 mn2 mc2 ha2 hn2 hc2) [] W := by
    rw [← hW]
    have := boxIn_new (w.alloc (boxSh s.1 s.2.2.1 la ln2 lc ma mn2 mc ha hn2 hc)) (shVals s.1 s.2.2.1 la2 ln2 lc2 ma2 mn2 mc2 ha2 hn2 hc2) 56
    rwa [show (w.alloc (boxSh s.1 s.2.2.1 la ln2 lc ma mn2 mc ha hn2 hc)).heap.size = w.heap.size + 1 by simp] at this
  have HW := Hid.mk' hW
  have a0 := hT.cell 0 _ rfl
  have a1 := hT.cell 1 _ rfl
  have b0 := hR.cell 0 _ rfl
  have b1 := hR.cell 1 _ rfl
  simp only [List.length_nil, Nat.zero_add] at a0 a1 b0 b1
  rw [← hW] at a0 a1 b0 b1
  have f1 : (s.1 == s.1) = true := by simp
  have f2 : (s.2.2.1 == s.2.2.1) = true := by simp
  have H1 := Hid.mk' (eqRecsT la la2 ln2 lc lc2 s.2.1 W (h.log.below hB) (h2.log.below hB))
  have H2 := Hid.mk' (fun wx (hx : Below w.heap.size w wx) => eqPairsS ma ma2 mn2 mc mn2 mc2 s.2.2.2.1 wx (h.map.below hx) (h2.map.below hx))
  have H3 := Hid.mk' (fun wx (hx : Below w.heap.size w wx) => eqRecsT ha ha2 hn2 hc hc2 s.2.2.2.2 wx (h.held.below hx) (h2.held.below hx))
  clear hW l1 l2 l3 k1 k2 k3 h h2
  go_enter Try.func45, Try.ntmps45
  go_wp2_with fail
  rw [HW.out]
  refine H1.out.mono ?_
  rintro e w1 ⟨rfl, hb1⟩
  have hB1 := hB.trans (hb1.mono hB.size)
  have hT1 := hT.below hb1
  have hR1 := hR.below hb1
  have p2 := hT1.cell 2 _ rfl
  have p3 := hT1.cell 3 _ rfl
  have q2 := hR1.cell 2 _ rfl
  have q3 := hR1.cell 3 _ rfl
  simp only [List.length_nil, Nat.zero_add] at p2 p3 q2 q3
  clear a0 a1 b0 b1 H1 HW
  go_wp2_with fail
  refine (H2.out _ hB1).mono ?_
  rintro e w2 ⟨rfl, hb2⟩
  have hB2 := hB1.trans (hb2.mono hB1.size)
  have p4 := (hT1.below hb2).cell 4 _ rfl
  have q4 := (hR1.below hb2).cell 4 _ rfl
  simp only [List.length_nil, Nat.zero_add] at p4 q4
  clear p2 p3 q2 q3 H2
  go_wp2_with fail
  refine (H3.out _ hB2).mono ?_
  rintro e w3 ⟨rfl, hb3⟩
  have hB3 := hB2.trans (hb3.mono hB2.size)
  clear p4 q4 H3
  go_wp2_with fail
  go_ret
  exact ⟨rfl, hB3⟩
end Go.Proofs.Yteammdkipnfmnaa.recs

namespace Go.Proofs.Yteammdkipnfmnaa.recs
open Go Go.RowKit Go.Proofs.Yteammdkipnfmnaa.base Go.Proofs.Yteammdkipnfmnaa.pairs Go.Proofs.Yteammdkipnfmnaa.ords Go.Proofs.Yteammdkipnfmnaa.helps Go.Proofs.Yteammdkipnfmnaa.help Go.Proofs.Yteammdkipnfmnaa.lay
set_option linter.unusedVariables false
set_option linter.unusedSimpArgs false

set_option maxRecDepth 100000 in
set_option maxHeartbeats 4000000 in
theorem toShard (la : Option Addr) (ln lc : Nat) (ma : Option Addr) (mn mc : Nat) (ha : Option Addr) (hn hc : Nat) (s : Shd) (w : World) (h : SeeSh w la ln lc ma mn mc ha hn hc s) (hf : Few s.2.1) (hf2 : Few s.2.2.2.2) (hl1 : ln ≤ 1099511627776) (hl2 : mn ≤ 1099511627776) (hl3 : hn ≤ 1099511627776) :
    Calls Try.prog 39 #[aggSh s.1 s.2.2.1 la ln lc ma mn mc ha hn hc] w fun e w' => ∃ gl gm gh F, e = .returned (aggSh s.1 s.2.2.1 (some ⟨gl, 0, none⟩) ln ln (some ⟨gm, 0, none⟩) mn mn (some ⟨gh, 0, none⟩) hn hn) ∧
      OwnSh w' (some ⟨gl, 0, none⟩) ln ln (some ⟨gm, 0, none⟩) mn mn (some ⟨gh, 0, none⟩) hn hn s F ∧ (∀ k ∈ F, w.heap.size ≤ k) ∧ Below w.heap.size w w' := by
  obtain ⟨W1, hW1⟩ : ∃ W1, w.alloc (.cells #[.int .i64 s.1, .slice la ln lc, .int .i64 s.2.2.1, .slice ma mn mc, .slice ha hn hc] 79) = W1 := ⟨_, rfl⟩
  have hb1 : Below w.heap.size w W1 := by rw [← hW1]; exact (Below.refl _ _).alloc (Nat.le_refl _) _
  have hA1 : BoxIn w.heap.size 79 [] (shVals s.1 s.2.2.1 la ln lc ma mn mc ha hn hc) [] W1 := by rw [← hW1]; exact boxIn_new w _ _
  have hs1 : W1.heap.size = w.heap.size + 1 := by rw [← hW1]; simp
  obtain ⟨W2, hW2⟩ : ∃ W2, W1.alloc (boxSh 0 0 none 0 0 none 0 0 none 0 0) = W2 := ⟨_, rfl⟩
  have hb2 : Below W1.heap.size W1 W2 := by rw [← hW2]; exact (Below.refl _ _).alloc (Nat.le_refl _) _
  have hR2 : BoxIn (w.heap.size + 1) 56 [] (shVals 0 0 none 0 0 none 0 0 none 0 0) [] W2 := by rw [← hW2, ← hs1]; exact boxIn_new W1 _ _
  have hs2 : W2.heap.size = w.heap.size + 1 + 1 := by rw [← hW2]; simp [hs1]
  obtain ⟨W, hW⟩ : ∃ W, W2.alloc (boxSh s.1 0 none 0 0 none 0 0 none 0 0) = W := ⟨_, rfl⟩
  have hb3 : Below W2.heap.size W2 W := by rw [← hW]; exact (Below.refl _ _).alloc (Nat.le_refl _) _
  have hO3 : BoxIn (w.heap.size + 1 + 1) 56 [] (shVals s.1 0 none 0 0 none 0 0 none 0 0) [] W := by rw [← hW, ← hs2]; exact boxIn_new W2 _ _
  have hA3 := (hA1.below hb2).below hb3
  have hR3 := hR2.below hb3
  have hB := (hb1.trans (hb2.mono hb1.size)).trans (hb3.mono (Nat.le_trans hb1.size hb2.size))
  have HWW : Hid (((w.alloc (.cells #[.int .i64 s.1, .slice la ln lc, .int .i64 s.2.2.1, .slice ma mn mc, .slice ha hn hc] 79)).alloc (boxSh 0 0 none 0 0 none 0 0 none 0 0)).alloc (boxSh s.1 0 none 0 0 none 0 0 none 0 0) = W) := by show _ = _; rw [hW1, hW2, hW]
  have H1 := Hid.mk' (toRecS la ln lc s.2.1 W (h.log.below hB) hl1 (fun r hr => (hf r hr).1))
  have H2 := Hid.mk' (fun wx (hx : Below w.heap.size w wx) => toPairS ma mn mc s.2.2.2.1 wx (h.map.below hx) hl2)
  have H3 := Hid.mk' (fun wx (hx : Below w.heap.size w wx) => toRecS ha hn hc s.2.2.2.2 wx (h.held.below hx) hl3 (fun r hr => (hf2 r hr).1))
  have hid := h.id
  have hsu := h.sure
  have c1 := hA3.cell 1 _ rfl
  simp only [List.length_nil, Nat.zero_add] at c1
  rw [← HWW.out] at c1
  have hOl := hO3.lt
  clear hW1 hW2 hW hb1 hb2 hb3 hA1 hR2 hs1 hs2 h hf hf2
  go_enter Try.func39, Try.ntmps39
  go_wp2_with fail
  rw [HWW.out]
  refine H1.out.mono ?_
  rintro e w1 ⟨gl, hl, rfl, hOl1, hb1⟩
  have hB1 := hB.trans (hb1.mono hB.size)
  have hO1 := hO3.below hb1
  have hA1 := hA3.below hb1
  have hR1 := hR3.below hb1
  have n1 := hO1.set 1 (by simp [shVals]) (.slice (some ⟨gl, 0, none⟩) ln ln)
  have n2 := n1.1.set 2 (by simp [shVals]) (.int .i64 s.2.2.1)
  simp only [List.length_nil, Nat.zero_add] at n1 n2
  have g12 := grownBy_trans n1.2 n2.2
  have u1 := hO1.cell 1 _ rfl
  have v1 := hO1.fz 1
  have u2 := n1.1.cell 2 _ rfl
  have v2 := n1.1.fz 2
  have t2 := (hA1.grown n1.2 (by simp; omega)).cell 2 _ rfl
  have t3 := (hA1.grown g12 (by simp; omega)).cell 3 _ rfl
  simp only [List.length_nil, Nat.zero_add] at u1 u2 t2 t3
  have hB2 := hB1.grown g12 hB1.size (fun k e => by cases e; omega)
  have hR2 := hR1.grown g12 (by simp)
  have hA2 := hA1.grown g12 (by simp; omega)
  have hOl2 := hOl1.grown g12 (fun e => by have := (hOl1.lt _ e).1; omega)
  have H2' := Hid.mk' (H2.out _ hB2)
  have hO2 : BoxIn (w.heap.size + 1 + 1) 56 [] (shVals s.1 s.2.2.1 (some ⟨gl, 0, none⟩) ln ln none 0 0 none 0 0) [] _ := n2.1
  clear c1 H1 H2
  go_wp2_with fail
  refine H2'.out.mono ?_
  generalize (w1.setCell ⟨w.heap.size + 1 + 1, 1, none⟩ (.slice (some ⟨gl, 0, none⟩) ln ln)).setCell ⟨w.heap.size + 1 + 1, 2, none⟩ (.int .i64 s.2.2.1) = w2 at *
  rintro e w3 ⟨gm, rfl, hOm3, hb3⟩
  clear u1 v1 u2 v2 t2 t3 H2' n1 n2 g12 hOl1 hO1 hA1 hR1 hB1
  have hB3 := hB2.trans (hb3.mono hB2.size)
  have hO3' := hO2.below hb3
  have hA3' := hA2.below hb3
  have hR3' := hR2.below hb3
  have hOl3 := hOl2.below hb3
  have n3 := hO3'.set 3 (by simp [shVals]) (.slice (some ⟨gm, 0, none⟩) mn mn)
  simp only [List.length_nil, Nat.zero_add] at n3
  have u3 := hO3'.cell 3 _ rfl
  have v3 := hO3'.fz 3
  have t4 := (hA3'.grown n3.2 (by simp; omega)).cell 4 _ rfl
  simp only [List.length_nil, Nat.zero_add] at u3 t4
  have hB4 := hB3.grown n3.2 hB3.size (fun k e => by cases e; omega)
  have hs2 := hB2.size
  have hWw2 : W.heap.size ≤ w2.heap.size := by have := hOl2.lt gl (.inl rfl); omega
  have hR4 := hR3'.grown n3.2 (by simp)
  have hOl4 := hOl3.grown n3.2 (fun e => by have := (hOl2.lt _ e).1; omega)
  have hOm4 := hOm3.grown n3.2 (fun e => by have := hOm3.lt.1; have := hO2.lt; have := Option.some.inj e; omega)
  have hO4 : BoxIn (w.heap.size + 1 + 1) 56 [] (shVals s.1 s.2.2.1 (some ⟨gl, 0, none⟩) ln ln (some ⟨gm, 0, none⟩) mn mn none 0 0) [] _ := n3.1
  have H3' := Hid.mk' (H3.out _ hB4)
  clear H3
  go_wp2_with fail
  refine H3'.out.mono ?_
  generalize w3.setCell ⟨w.heap.size + 1 + 1, 3, none⟩ (.slice (some ⟨gm, 0, none⟩) mn mn) = w4 at *
  rintro e w5 ⟨gh, hh, rfl, hOh5, hb5⟩
  clear u3 v3 t4 H3' n3 hO3' hA3' hR3' hOl3 hO2 hA2 hR2
  have hB5 := hB4.trans (hb5.mono hB4.size)
  have hO5 := hO4.below hb5
  have hR5 := hR4.below hb5
  have hOl5 := (hOl4.below hb5).mono (base' := w.heap.size) hB.size
  have hOm5 := (hOm4.below hb5).mono (base' := w.heap.size) hB2.size
  have n4 := hO5.set 4 (by simp [shVals]) (.slice (some ⟨gh, 0, none⟩) hn hn)
  simp only [List.length_nil, Nat.zero_add] at n4
  have u4 := hO5.cell 4 _ rfl
  have v4 := hO5.fz 4
  simp only [List.length_nil, Nat.zero_add] at u4
  have hB6 := hB5.grown n4.2 hB5.size (fun k e => by cases e; omega)
  have hR6 := hR5.grown n4.2 (by simp)
  have hlo : ∀ k, BlkR (.slice (some ⟨gl, 0, none⟩) ln ln) hl k → k < w4.heap.size := fun k hk => (hOl4.lt k hk).2
  have hhi : ∀ k, BlkR (.slice (some ⟨gh, 0, none⟩) hn hn) hh k → w4.heap.size ≤ k := fun k hk => (hOh5.lt k hk).1
  have hO4l := hO4.lt
  have hR4l := hR4.lt
  have hlW : ∀ k, BlkR (.slice (some ⟨gl, 0, none⟩) ln ln) hl k → W.heap.size ≤ k := fun k hk => (hOl4.lt k hk).1
  have hgmW : w2.heap.size ≤ gm := hOm4.lt.1
  have hW4 : W.heap.size ≤ w4.heap.size := Nat.le_trans (hOl4.lt gl (.inl rfl)).1 (Nat.le_of_lt (hOl4.lt gl (.inl rfl)).2)
  obtain ⟨F, hOS, hFW⟩ := ownSh_of (s := s) (B := W.heap.size) hid hsu (hOl4.below hb5) ((hOm4.below hb5).mono hWw2) (hOh5.mono hW4) hlo hhi
  have hFn : ∀ k ∈ F, w.heap.size ≤ k := fun k hk => Nat.le_trans hB.size (hFW k hk)
  have hXo : ∀ k ∈ F, k ≠ w.heap.size + 1 + 1 ∧ k ≠ w.heap.size + 1 := fun k hk => by have := hFW k hk; omega
  have hOS6 := hOS.keep (fun j hj => n4.2.block j (hOS.lt j hj) (fun e => (hXo j hj).1 (Option.some.inj e)))
  have hO6 : BoxIn (w.heap.size + 1 + 1) 56 [] (shVals s.1 s.2.2.1 (some ⟨gl, 0, none⟩) ln ln (some ⟨gm, 0, none⟩) mn mn (some ⟨gh, 0, none⟩) hn hn) [] _ := n4.1
  have q0 := hO6.cell 0 _ rfl
  have q1 := hO6.cell 1 _ rfl
  have q2 := hO6.cell 2 _ rfl
  have q3 := hO6.cell 3 _ rfl
  have q4 := hO6.cell 4 _ rfl
  have z0 := hR6.cell 0 _ rfl
  have z1 := hR6.cell 1 _ rfl
  have z2 := hR6.cell 2 _ rfl
  have z3 := hR6.cell 3 _ rfl
  have z4 := hR6.cell 4 _ rfl
  simp only [List.length_nil, Nat.zero_add] at q0 q1 q2 q3 q4 z0 z1 z2 z3 z4
  have f0 := hR6.fz 0
  have f1 := hR6.fz 1
  have f2 := hR6.fz 2
  have f3 := hR6.fz 3
  have f4 := hR6.fz 4
  have hS5 := hR6.set5 (.int .i64 s.1) (.slice (some ⟨gl, 0, none⟩) ln ln) (.int .i64 s.2.2.1) (.slice (some ⟨gm, 0, none⟩) mn mn) (.slice (some ⟨gh, 0, none⟩) hn hn)
  simp only [List.length_nil, Nat.zero_add] at hS5
  have hOSz := hOS6.keep (fun j hj => hS5.2.block j (hOS6.lt j hj) (fun e => (hXo j hj).2 (Option.some.inj e)))
  have hBz := hB6.grown hS5.2 hB6.size (fun j e => by cases e; omega)
  have hzc0 := hS5.1.cell 0 _ rfl
  have hzc1 := hS5.1.cell 1 _ rfl
  have hzc2 := hS5.1.cell 2 _ rfl
  have hzc3 := hS5.1.cell 3 _ rfl
  have hzc4 := hS5.1.cell 4 _ rfl
  simp only [List.length_nil, Nat.zero_add] at hzc0 hzc1 hzc2 hzc3 hzc4
  have HOSz := Hid.mk' hOSz
  have HBz := Hid.mk' hBz
  clear hOSz hBz hS5 hOS6 hOS hO5 hO6 hR5 hR6 n4
  go_wp2_with fail
  refine bodyPost_ret (v := aggSh s.1 s.2.2.1 (some ⟨gl, 0, none⟩) ln ln (some ⟨gm, 0, none⟩) mn mn (some ⟨gh, 0, none⟩) hn hn) ?_ rfl ⟨_, _, _, F, rfl, HOSz.out, hFn, HBz.out⟩
  simp [results, Try.results39, go_sem, hzc0, hzc1, hzc2, hzc3, hzc4]
theorem blkS_split {w : World} {la ma ha : Option Addr} {ln lc mn mc hn hc : Nat} {s : Shd} {F : List Nat} (h : OwnSh w la ln lc ma mn mc ha hn hc s F) : ∃ hl hh, OwnR w 0 (.slice la ln lc) s.2.1 hl ∧ OwnR w 0 (.slice ha hn hc) s.2.2.2.2 hh ∧ F = blkR (.slice la ln lc) hl ++ ((Value.slice ma mn mc).ownBlock.toList ++ blkR (.slice ha hn hc) hh) ∧
    (∀ k, BlkR (.slice la ln lc) hl k → (Value.slice ma mn mc).ownBlock ≠ some k ∧ ¬ BlkR (.slice ha hn hc) hh k) ∧ (∀ k, (Value.slice ma mn mc).ownBlock = some k → ¬ BlkR (.slice ha hn hc) hh k) := by
  obtain ⟨hl, q1, hh, q3, rfl⟩ := h.log
  obtain ⟨n1, n2, n3⟩ := nodup_parts h.nodup
  obtain ⟨m1, m2, m3⟩ := nodup_parts n2
  refine ⟨hl, hh, q1, q3, rfl, fun k hk => ⟨fun e => ?_, fun e => ?_⟩, fun k hk e => ?_⟩
  · exact n3 k (mem_blkR.2 hk) (List.mem_append.2 (.inl (by simp [e])))
  · exact n3 k (mem_blkR.2 hk) (List.mem_append.2 (.inr (mem_blkR.2 e)))
  · exact m3 k (by simp [hk]) (mem_blkR.2 e)
set_option maxRecDepth 100000 in
theorem markPairV (a : Option Addr) (n cap k0 : Nat) (l : List Pr) (w : World) (h : OwnPV w a n cap l) (hk1 : 1 ≤ k0) (hk0 : k0 + 2 * n ≤ 1099511627776) :
    Calls Try.prog 30 #[.slice a n cap, .int .i64 (k0 : Nat)] w fun e w' => e = .returned (.int .i64 ((k0 + 2 * n : Nat) : Int)) ∧ OwnPV w' a n cap (marksP k0 n) ∧ w.grownBy w' (Value.slice a n cap).ownBlock := by
  rcases h.shape with ⟨rfl, rfl, rfl, rfl⟩ | ⟨g, rfl, ho⟩
  · have hm : marksP k0 0 = [] := rfl
    rw [hm]
    go_enter Try.func30, Try.ntmps30
    go_wp2_with fail
    go_loopw [1, 5] (fun kv i wr => kv = .int .i64 (k0 : Int) ∧ i = .int .i64 0 ∧ wr = w) (fun _ i _ => 0)
    case atStart => exact ⟨rfl, rfl, rfl⟩
    case round =>
      obtain ⟨rfl, rfl, rfl⟩ := hrel
      go_wp2_with fail
      go_ret
      exact ⟨rfl, ownPV_nil _, World.grownBy.refl _ _⟩
  · refine (markPairS g n cap k0 0 l w ho hk1 hk0).mono ?_
    rintro e w' ⟨rfl, h1, h2⟩
    exact ⟨rfl, ownPV_of h1, h2⟩
theorem frame_keepR {v : Value} {hs : List Value} {w w' : World} {G : List Nat} (h : KeepR v hs w w') (hG : ∀ k, BlkR v hs k → k ∈ G) : lay.Frame G w w' :=
  ⟨h.os, h.tape, h.output, h.size, fun j hj hn => h.block j hj (fun e => hn (hG j e))⟩
end Go.Proofs.Yteammdkipnfmnaa.recs
