/- The statement FnExactBeginSaid: at every one who decides and orders FnExactBegin answers true, and the arguments read afterwards as before. No condition besides the row's own. -/
import Derived.Test.YtgiibadbjgdjcaaGreatRows
import Derived.Test.YtgiibadbjgdjcaaGreatBund12bd
import Derived.Test.YtgiibadbjgdjcaaGreatBund12bc
import Derived.Test.YtgiibadbjgdjcaaGreatBund13g
import Derived.Test.YtgiibadbjgdjcaaGreatBund13o
import Derived.Test.YtgiibadbjgdjcaaGreatBund13m
import Derived.Test.YtgiibadbjgdjcaaGreatBund13p
import Derived.Test.YtgiibadbjgdjcaaGreatBund12ar
import Derived.ProofKit
import Derived.OpenShut
import Derived.ShutString
import Derived.ChangeOld
import Derived.Below
namespace Go.Proofs.YtgiibadbjgdjcaaGreat.fnExactBegin
open Go.ChangeShapes Go.WideShapes Go.ChangeAt Go.RowKit
open Go.ChangeMaps (open_string shut_string)
set_option linter.unusedVariables false
open Go.Proofs.YtgiibadbjgdjcaaGreat.base Go.Proofs.YtgiibadbjgdjcaaGreat.pairs Go.Proofs.YtgiibadbjgdjcaaGreat.ords Go.Proofs.YtgiibadbjgdjcaaGreat.help Go.Proofs.YtgiibadbjgdjcaaGreat.helps Go.Proofs.YtgiibadbjgdjcaaGreat.cos Go.Proofs.YtgiibadbjgdjcaaGreat.lay Go.Proofs.YtgiibadbjgdjcaaGreat.wds

theorem job_cnt (l : List Jb) (j : Jb) : ((l ++ [j]).map cntJ).sum = (l.map cntJ).sum + cntJ j := by simp
theorem begin_cnt {c : Co} {ops : List Od} (hbd : BoundCo c) : cntC (beginR c ops).1 ≤ 7340100 ∧ cntAll cntW (beginR c ops).2.1 ≤ 1000 ∧ (Lit.int .i64 (beginR c ops).2.2).wf = true := by
  have h0 := hbd.cnt
  unfold beginR
  split
  · rename_i hok
    unfold beginS
    split
    · rename_i hm
      have hm2 := hm
      unfold mayBegin at hm
      simp only [Bool.and_eq_true, decide_eq_true_eq] at hm
      have h8 := opsOk_len hm.1.1
      have hR := coordOk_iff.1 hok
      have hl := hR.life
      have hn := hR.next
      refine ⟨?_, ?_, ?_⟩
      · unfold begunC cntC at *
        simp only [] at *
        rw [job_cnt]
        unfold cntJ at *
        simp only [List.length_nil] at *
        omega
      · have h1 := cnt_small (holdsW c.1 (nextTx c) ops [] (shardsOf c.1 ops)) (holds_small _ _ _ _ _ h8.2)
        have h2 := holdsW_len c.1 (nextTx c) ops [] (shardsOf c.1 ops)
        have h3 := shards_len c.1 ops h8.2
        show cntAll cntW (holdsW c.1 (nextTx c) ops [] (shardsOf c.1 ops)) ≤ 1000
        omega
      · exact WalkArith.wf_i64 (by unfold nextTx; simp only []; omega)
    · exact ⟨by simp only []; omega, by simp [cntAll], (by decide : (Lit.int .i64 0).wf = true)⟩
  · exact ⟨by simp only []; omega, by simp [cntAll], (by decide : (Lit.int .i64 0).wf = true)⟩
set_option maxRecDepth 100000 in
set_option maxHeartbeats 16000000 in
theorem walk (u0 u1 u2 u3 u4 u5 : Value) (c : Co) (oa : Option Addr) (on oc : Nat) (ops : List Od) (w : World) (h0 : coordR.see w [u0, u1, u2, u3, u4, u5] c) (hop : SlO w oa on ops) :
    Calls Tryz.prog 4 #[.agg #[u0, u1, u2, u3, u4, u5], .slice oa on oc] w fun e w' => e = .returned (.bool true) ∧ Below w.heap.size w w' := by
  obtain ⟨ja, jn, jc, la, ln, lc, rfl, rfl, rfl, rfl, rfl, rfl, h⟩ := coord_see6 h0
  clear h0
  obtain ⟨W, hW⟩ : ∃ W, w.alloc (.cells #[.int .i64 c.1, .int .i64 c.2.1, .int .i64 c.2.2.1, .slice ja jn jc, .slice la ln lc, .int .i64 c.2.2.2.2.2] 43) = W := ⟨_, rfl⟩
  have hB : Below w.heap.size w W := by rw [← hW]; exact below_make
  have hA : BoxIn w.heap.size 43 [] [.int .i64 c.1, .int .i64 c.2.1, .int .i64 c.2.2.1, .slice ja jn jc, .slice la ln lc, .int .i64 c.2.2.2.2.2] [] W := by rw [← hW]; exact boxIn_new w _ _
  have hsz := szCoord ja jn jc la ln lc c 1048576 W (h.below hB) (by omega)
  have HW := Hid.mk' hW
  have ARG : Hid (∀ wx, Below W.heap.size W wx → wx.cell? ⟨w.heap.size, 0, none⟩ = some (.int .i64 c.1) ∧ wx.cell? ⟨w.heap.size, 1, none⟩ = some (.int .i64 c.2.1) ∧ wx.cell? ⟨w.heap.size, 2, none⟩ = some (.int .i64 c.2.2.1) ∧ wx.cell? ⟨w.heap.size, 3, none⟩ = some (.slice ja jn jc) ∧ wx.cell? ⟨w.heap.size, 4, none⟩ = some (.slice la ln lc) ∧ wx.cell? ⟨w.heap.size, 5, none⟩ = some (.int .i64 c.2.2.2.2.2)) := fun wx hx => cells6 (hA.below hx)
  obtain ⟨a0, a1, a2, a3, a4, a5⟩ := ARG.out W (Below.refl _ _)
  rw [← hW] at a0 a1 a2 a3 a4 a5
  clear hW
  by_cases hover : 1048576 < csz c
  · rw [pairs.szR_neg hover] at hsz
    have HZ := Hid.mk' hsz
    clear hsz
    go_enter Tryz.func4, Tryz.ntmps4
    go_wp2_with fail
    rw [HW.out]
    refine HZ.out.mono ?_
    rintro e wa ⟨rfl, hb⟩
    clear a0 a1 a2 a3 a4 a5
    go_wp2_with fail
    go_ret
    exact ⟨rfl, hB.trans (hb.mono hB.size)⟩
  rw [pairs.szR_pos (by omega)] at hsz
  obtain ⟨r, hrr⟩ : ∃ r : Nat, ((1048576 : Nat) : Int) - (csz c : Int) = (r : Int) := ⟨1048576 - csz c, by omega⟩
  rw [hrr] at hsz
  have HZ := Hid.mk' hsz
  have hr1 : r ≤ 1048576 := by omega
  have HZ2 := Hid.mk' (fun wx (hx : Below W.heap.size W wx) => szOpS oa on oc ops r wx ((hop.below hB).below hx) (by omega))
  by_cases hover2 : r < ops.length + sumO ops
  · rw [pairs.szR_neg hover2] at HZ2
    clear hsz
    go_enter Tryz.func4, Tryz.ntmps4
    go_wp2_with fail
    rw [HW.out]
    refine HZ.out.mono ?_
    rintro e wa ⟨rfl, hb⟩
    clear a0 a1 a2 a3 a4 a5
    have hrn : ¬ (r : Int) < 0 := by omega
    go_wp2_with fail
    refine (HZ2.out wa hb).mono ?_
    rintro e wb ⟨rfl, hbb⟩
    have hbz := hb.trans (hbb.mono hb.size)
    clear hrn
    go_wp2_with fail
    go_ret
    exact ⟨rfl, hB.trans (hbz.mono hB.size)⟩
  rw [pairs.szR_pos (by omega)] at HZ2
  obtain ⟨r2, hrr2⟩ : ∃ r2 : Nat, (r : Int) - ((ops.length + sumO ops : Nat) : Int) = (r2 : Int) := ⟨r - (ops.length + sumO ops), by omega⟩
  rw [hrr2] at HZ2
  have honl := hop.1
  have hon : on ≤ 1048576 := by omega
  have hks : ∀ p ∈ ops, p.2.1.size ≤ 1099511627776 := fun p hp => by
    have h1 := osz_le ops p hp
    unfold osz at h1
    omega
  have HTP := Hid.mk' (fun wx (hx : Below W.heap.size W wx) => toOpS oa on oc ops wx ((hop.below hB).below hx) (by omega))
  have hbd := bound_co (c := c) (by omega)
  have HTO := Hid.mk' (fun wx (hx : Below W.heap.size W wx) => toCoord ja jn jc la ln lc c wx ((h.below hB).below hx) hbd)
  have hcs := hbd.cnt
  obtain ⟨hcR, hcW, hrtw⟩ := begin_cnt (ops := ops) hbd
  have HS := Hid.mk' (fun (ja jn jc la ln lc) wx (hs : SeeCo wx ja jn jc la ln lc c) (og : Nat) (base : Nat) (hoo : OwnO wx base og on on ops) => spec_begin ja jn jc la ln lc c (some ⟨og, 0, none⟩) on on ops wx hs hbd hoo.sl hks)
  have HI := Hid.mk' (fun (ja jn jc la ln lc) wx (hs : SeeCo wx ja jn jc la ln lc c) (og : Nat) (base : Nat) (hoo : OwnO wx base og on on ops) => impl_begin ja jn jc la ln lc c (some ⟨og, 0, none⟩) on on ops wx hs hbd hoo.sl (Nat.le_refl _) hks)
  generalize beginR c ops = RR at hcR hcW hrtw HS HI
  obtain ⟨RC, RW, rt⟩ := RR
  unfold RetB at HS HI
  simp only [] at hcR hcW hrtw HS HI
  clear hsz hrr hover h hA
  go_enter Tryz.func4, Tryz.ntmps4
  go_wp2_with fail
  rw [HW.out]
  refine HZ.out.mono ?_
  rintro e w1a ⟨rfl, hb1a⟩
  clear a0 a1 a2 a3 a4 a5 HZ HW
  have hrn : ¬ (r : Int) < 0 := by omega
  go_wp2_with fail
  refine (HZ2.out w1a hb1a).mono ?_
  rintro e w1 ⟨rfl, hb1b⟩
  have hb1 := hb1a.trans (hb1b.mono hb1a.size)
  clear hrn HZ2 hb1b hb1a hover2 hrr2 honl
  have hrn2 : ¬ (r2 : Int) < 0 := by omega
  obtain ⟨a0, a1, a2, a3, a4, a5⟩ := ARG.out w1 hb1
  go_wp2_with fail
  refine (HTO.out _ hb1).mono ?_
  rintro e w2 ⟨vs2, F1, rfl, hO2, hF1, hb2⟩
  obtain ⟨tja, tjn, tjc, tla, tln, tlc, rfl⟩ := coord_shape hO2
  have hbW2 := hb1.trans (hb2.mono hb1.size)
  have HTP2 := Hid.mk' (HTP.out w2 hbW2)
  clear a0 a1 a2 a3 a4 a5 hrn2
  go_wp2_with fail
  refine HTP2.out.mono ?_
  rintro e w2b ⟨go, rfl, hOo, hb2b⟩
  have hbW2b := hbW2.trans (hb2b.mono hbW2.size)
  have HS2 := Hid.mk' (HS.out _ _ _ _ _ _ w2b (see_co (coordR.ownSee (coordR.ownBelow hO2 hb2b))) go _ hOo)
  clear hO2 HS hOo HTP2
  go_wp2_with fail
  refine HS2.out.mono ?_
  rintro e w3 ⟨vs3, FW, gW, mW', capW, qW, rfl, hO3, hWw3, hFW, hqW, hb3⟩
  obtain ⟨w_ja, w_jn, w_jc, w_la, w_ln, w_lc, rfl⟩ := coord_shape hO3
  have hlW := hWw3.nlen
  have hbW3 := hbW2b.trans (hb3.mono hbW2b.size)
  obtain ⟨v3, hv3⟩ : ∃ v3, w3.alloc (.cells #[.int .i64 RC.1, .int .i64 RC.2.1, .int .i64 RC.2.2.1, .slice w_ja w_jn w_jc, .slice w_la w_ln w_lc, .int .i64 RC.2.2.2.2.2] 33) = v3 := ⟨_, rfl⟩
  have hc3 : Below w3.heap.size w3 v3 := by rw [← hv3]; exact below_make
  have hs3 : v3.heap.size = w3.heap.size + 1 := by rw [← hv3]; simp
  have hW3 := inR_new (T := 33) hO3
  rw [hv3] at hW3
  have hWw3b := hWw3.below hc3
  have hbW4 := hbW3.trans (hc3.mono hbW3.size)
  have kW : ∀ k ∈ w3.heap.size :: FW, W.heap.size ≤ k ∧ k < v3.heap.size := fun k hk => by
    rcases List.mem_cons.1 hk with e | e
    · have := hbW3.size; omega
    · have := hFW k e; have := coordR.ownLt hO3 k e; have := hbW2b.size; omega
  have kWw : ∀ k ∈ gW :: blocksOf qW, W.heap.size ≤ k ∧ k < v3.heap.size := fun k hk => by
    have := (hqW k hk).1; have := hWw3.lts k hk; have := hbW2b.size; omega
  obtain ⟨a0, a1, a2, a3, a4, a5⟩ := ARG.out v3 hbW4
  rw [← hv3] at a0 a1 a2 a3 a4 a5
  have HV3 := Hid.mk' hv3
  have HT3 := Hid.mk' (HTO.out v3 hbW4)
  have HLW := Hid.mk' hlW
  clear HS2 hO3 hWw3 hv3 hs3 hFW hqW hF1 hlW
  go_wp2_with fail
  rw [HV3.out]
  refine HT3.out.mono ?_
  rintro e w5 ⟨vs5, FX, rfl, hO5, hFX, hb5⟩
  obtain ⟨xja, xjn, xjc, xla, xln, xlc, rfl⟩ := coord_shape hO5
  have hbW5 := hbW4.trans (hb5.mono hbW4.size)
  obtain ⟨v5, hv5⟩ : ∃ v5, w5.alloc (.cells #[.int .i64 c.1, .int .i64 c.2.1, .int .i64 c.2.2.1, .slice xja xjn xjc, .slice xla xln xlc, .int .i64 c.2.2.2.2.2] 33) = v5 := ⟨_, rfl⟩
  have hc5 : Below w5.heap.size w5 v5 := by rw [← hv5]; exact below_make
  have hs5 : v5.heap.size = w5.heap.size + 1 := by rw [← hv5]; simp
  have hX5 := inR_new (T := 33) hO5
  rw [hv5] at hX5
  have hbW6 := hbW5.trans (hc5.mono hbW5.size)
  have hW5 := (hW3.below hb5).below hc5
  have hWw5 := (hWw3b.below hb5).below hc5
  have kX : ∀ k ∈ w5.heap.size :: FX, v3.heap.size ≤ k ∧ k < v5.heap.size := fun k hk => by
    rcases List.mem_cons.1 hk with e | e
    · have := hb5.size; omega
    · have := hFX k e; have := coordR.ownLt hO5 k e; omega
  have HV5 := Hid.mk' hv5
  have HT5 := Hid.mk' (HTP.out v5 hbW6)
  clear a0 a1 a2 a3 a4 a5 HV3 HT3 hO5 hv5 hs5 hFX hW3 hWw3b hbW4 hbW5 hb5 hc5 hc3 hb3
  go_wp2_with fail
  rw [HV5.out]
  refine HT5.out.mono ?_
  rintro e v5b ⟨gX, rfl, hOX5, hb5b⟩
  have hbW6b := hbW6.trans (hb5b.mono hbW6.size)
  have hX5b := hX5.below hb5b
  have hW5b := hW5.below hb5b
  have hWw5b := hWw5.below hb5b
  have hgX := hOX5.lt
  have HI5 := Hid.mk' (HI.out _ _ _ _ _ _ v5b (see_co hX5b.see) gX _ hOX5)
  obtain ⟨x0, x1, x2, x3, x4, x5⟩ := cells6 hX5b.box
  have hb5bs := hb5b.size
  clear HV5 HT5 hX5 hW5 hWw5
  go_wp2_with fail
  refine HI5.out.mono ?_
  rintro e w6 ⟨vs6, FG, gG, mG, capG, qG, rfl, hO6, hWg6, hFG, hqG, hb6⟩
  obtain ⟨g_ja, g_jn, g_jc, g_la, g_ln, g_lc, rfl⟩ := coord_shape hO6
  obtain rfl : mG = mW' := hWg6.nlen.trans HLW.out.symm
  obtain ⟨v6, hv6⟩ : ∃ v6, w6.alloc (.cells #[.int .i64 RC.1, .int .i64 RC.2.1, .int .i64 RC.2.2.1, .slice g_ja g_jn g_jc, .slice g_la g_ln g_lc, .int .i64 RC.2.2.2.2.2] 33) = v6 := ⟨_, rfl⟩
  have hc6 : Below w6.heap.size w6 v6 := by rw [← hv6]; exact below_make
  have hG6 := inR_new (T := 33) hO6
  rw [hv6] at hG6
  have hWg6b := hWg6.below hc6
  have hb66 := hb6.trans (hc6.mono hb6.size)
  have hW6 := hW5b.below hb66
  have hWw6 := hWw5b.below hb66
  have hX6 := hX5b.below hb66
  have hOX6 := hOX5.below hb66
  have hbW7 := hbW6b.trans (hb66.mono hbW6b.size)
  have kG : ∀ k ∈ w6.heap.size :: FG, v5b.heap.size ≤ k := fun k hk => by
    rcases List.mem_cons.1 hk with e | e
    · have := hb6.size; omega
    · exact hFG k e
  have kGw : ∀ k ∈ gG :: blocksOf qG, v5b.heap.size ≤ k ∧ k ∉ w6.heap.size :: FG := fun k hk => by
    have h1 := hqG k hk
    have h2 := hWg6.lts k hk
    refine ⟨h1.1, fun e => ?_⟩
    rcases List.mem_cons.1 e with e | e
    · omega
    · exact h1.2 e
  have hW0 : W.heap.size ≤ v3.heap.size := by have := kW _ List.mem_cons_self; omega
  have hW1 : v3.heap.size ≤ v5.heap.size := by have := kX _ List.mem_cons_self; omega
  have dXW : ∀ k ∈ w3.heap.size :: FW, k ∉ FX := fun k hk e => by have := kW k hk; have := kX k (List.mem_cons_of_mem _ e); omega
  have dXWw : ∀ k ∈ gW :: blocksOf qW, k ∉ FX := fun k hk e => by have := kWw k hk; have := kX k (List.mem_cons_of_mem _ e); omega
  have dXG : ∀ k ∈ w6.heap.size :: FG, k ∉ FX := fun k hk e => by have := kG k hk; have := kX k (List.mem_cons_of_mem _ e); omega
  have dXGw : ∀ k ∈ gG :: blocksOf qG, k ∉ FX := fun k hk e => by have := (kGw k hk).1; have := kX k (List.mem_cons_of_mem _ e); omega
  have dXo : gX ∉ FX := fun e => by have := kX gX (List.mem_cons_of_mem _ e); omega
  have oXo : gX ≠ w5.heap.size := fun e => by have := kX _ List.mem_cons_self; omega
  have oXW : ∀ k ∈ w3.heap.size :: FW, k ≠ gX := fun k hk e => by have := kW k hk; omega
  have oXWw : ∀ k ∈ gW :: blocksOf qW, k ≠ gX := fun k hk e => by have := kWw k hk; omega
  have oXG : ∀ k ∈ w6.heap.size :: FG, k ≠ gX := fun k hk e => by have := kG k hk; omega
  have oXGw : ∀ k ∈ gG :: blocksOf qG, k ≠ gX := fun k hk e => by have := (kGw k hk).1; omega
  have dGW : ∀ k ∈ w3.heap.size :: FW, k ∉ FG := fun k hk e => by have := kW k hk; have := kG k (List.mem_cons_of_mem _ e); omega
  have dGWw : ∀ k ∈ gW :: blocksOf qW, k ∉ FG := fun k hk e => by have := kWw k hk; have := kG k (List.mem_cons_of_mem _ e); omega
  have dGGw : ∀ k ∈ gG :: blocksOf qG, k ∉ FG := fun k hk e => (kGw k hk).2 (List.mem_cons_of_mem _ e)
  have dWW : ∀ k ∈ w3.heap.size :: FW, k ∉ gG :: blocksOf qG := fun k hk e => by have := kW k hk; have := (kGw k e).1; omega
  have dWWw : ∀ k ∈ gW :: blocksOf qW, k ∉ gG :: blocksOf qG := fun k hk e => by have := kWw k hk; have := (kGw k e).1; omega
  have dWG : ∀ k ∈ w6.heap.size :: FG, k ∉ gG :: blocksOf qG := fun k hk e => (kGw k e).2 hk
  have fX : ∀ k ∈ FX, W.heap.size ≤ k := fun k hk => by have := kX k (List.mem_cons_of_mem _ hk); omega
  have fXo : W.heap.size ≤ gX := by omega
  have fG : ∀ k ∈ FG, W.heap.size ≤ k := fun k hk => by have := kG k (List.mem_cons_of_mem _ hk); omega
  have fGw : ∀ k ∈ gG :: blocksOf qG, W.heap.size ≤ k := fun k hk => by have := (kGw k hk).1; omega
  obtain ⟨g0, g1, g2, g3, g4, g5⟩ := cells6 hG6.box
  obtain ⟨c0, c1, c2, c3, c4, c5⟩ := cells6 hW6.box
  rw [← hv6] at g0 g1 g2 g3 g4 g5 c0 c1 c2 c3 c4 c5
  have HV6 := Hid.mk' hv6
  have HE6 := Hid.mk' (eqCoordT _ _ _ _ _ _ _ _ _ _ _ _ RC v6 (see_co hG6.see) (see_co hW6.see))
  have HQ6 := Hid.mk' (fun wx (hx : Below v6.heap.size v6 wx) => eqWordsT _ _ mG capG capW RW wx (hWg6b.below hx).sl (hWw6.below hx).sl)
  have hne : (rt != rt) = false := by simp
  clear x0 x1 x2 x3 x4 x5 HI5 hO6 hv6 hFG hW5b hX5b hWw5b hbW6 hbW6b hb6 hc6 hb66 kW kX kG kWw kGw hW0 hW1 hqG hWg6 hOX5
  go_wp2_with fail
  rw [HV6.out]
  refine HE6.out.mono ?_
  rintro e w7a ⟨rfl, hb7a⟩
  have HQ7 := Hid.mk' (HQ6.out w7a hb7a)
  clear g0 g1 g2 g3 g4 g5 c0 c1 c2 c3 c4 c5 HE6 HQ6
  go_wp2_with fail
  refine HQ7.out.mono ?_
  rintro e w7 ⟨rfl, hb7b⟩
  have hb7 := hb7a.trans (hb7b.mono hb7a.size)
  have hG7 := hG6.below hb7
  have hWg7 := hWg6b.below hb7
  have hW7 := hW6.below hb7
  have hWw7 := hWw6.below hb7
  have hX7 := hX6.below hb7
  have hOX7 := hOX6.below hb7
  have hbW8 := hbW7.trans (hb7.mono hbW7.size)
  obtain ⟨x0, x1, x2, x3, x4, x5⟩ := cells6 hX7.box
  obtain ⟨a0, a1, a2, a3, a4, a5⟩ := ARG.out w7 hbW8
  clear HV6 HQ7 hG6 hW6 hX6 hWg6b hWw6 hOX6 hbW7 hb7 hb7a hb7b
  have hdr : Below w7.heap.size w7 w7.drew := (Below.refl _ _).drew
  have hbWd := hbW8.trans (hdr.mono hbW8.size)
  go_wp2_with fail
  go_region_held3 (fun w' => (w'.cell? ⟨w5.heap.size, 0, none⟩ = some (.int .i64 c.1) ∧ w'.cell? ⟨w5.heap.size, 1, none⟩ = some (.int .i64 c.2.1) ∧ w'.cell? ⟨w5.heap.size, 2, none⟩ = some (.int .i64 c.2.2.1) ∧ w'.cell? ⟨w5.heap.size, 3, none⟩ = some (.slice xja xjn xjc) ∧ w'.cell? ⟨w5.heap.size, 4, none⟩ = some (.slice xla xln xlc) ∧ w'.cell? ⟨w5.heap.size, 5, none⟩ = some (.int .i64 c.2.2.2.2.2) ∧ w'.cell? ⟨w.heap.size, 0, none⟩ = some (.int .i64 c.1) ∧ w'.cell? ⟨w.heap.size, 1, none⟩ = some (.int .i64 c.2.1) ∧ w'.cell? ⟨w.heap.size, 2, none⟩ = some (.int .i64 c.2.2.1) ∧ w'.cell? ⟨w.heap.size, 3, none⟩ = some (.slice ja jn jc) ∧ w'.cell? ⟨w.heap.size, 4, none⟩ = some (.slice la ln lc) ∧ w'.cell? ⟨w.heap.size, 5, none⟩ = some (.int .i64 c.2.2.2.2.2))) (first | (exact keepBoth6 hb9 (by assumption)) | (exact keepBoth6 hb8 (by assumption)) | (go_keep)) (first | (go_at_call 26; have h9 := hb8; refine (eqCoordT _ _ _ _ _ _ _ _ _ _ _ _ c _ (see_co (hX7.below (hdr.trans (hb8.mono hdr.size))).see) HO8.out).mono ?_; rintro e w9 ⟨rfl, hb9⟩) | (go_at_call 23; refine (HTO.out _ hbWd).mono ?_; rintro e w8 ⟨vs8, F3, rfl, hO8, hF8, hb8⟩; obtain ⟨yja, yjn, yjc, yla, yln, ylc, rfl⟩ := coord_shape hO8; have HO8 := Hid.mk' (see_co (coordR.ownSee hO8))) | fail "no arm")
  have hb79 := (hdr.trans (hb8.mono hdr.size)).trans (hb9.mono (Nat.le_trans hdr.size hb8.size))
  have hG9 := hG7.below hb79
  have hWg9 := hWg7.below hb79
  have hW9 := hW7.below hb79
  have hWw9 := hWw7.below hb79
  have hX9 := hX7.below hb79
  have hOX9 := hOX7.below hb79
  have hbW9 := hbW8.trans (hb79.mono hbW8.size)
  have HTP9 := Hid.mk' (HTP.out w9 hbW9)
  clear x0 x1 x2 x3 x4 x5 a0 a1 a2 a3 a4 a5 hdr hbWd hb8 hb9 hb79 hO8 HO8 hF8 hG7 hW7 hX7 hWg7 hWw7 hOX7 hbW8
  go_wp2_with fail
  refine HTP9.out.mono ?_
  rintro e w9b ⟨gY, rfl, hOY, hb9b⟩
  have HEO := Hid.mk' (eqOpS (some ⟨gX, 0, none⟩) (some ⟨gY, 0, none⟩) on on on on ops ops w9b (hOX9.below hb9b).sl hOY.sl)
  rw [decide_eq_true rfl] at HEO
  clear HTP9 hOY
  go_wp2_with fail
  refine HEO.out.mono ?_
  rintro e w9c ⟨rfl, hb9c⟩
  have hb9 := hb9b.trans (hb9c.mono hb9b.size)
  replace hG9 := hG9.below hb9
  replace hWg9 := hWg9.below hb9
  replace hW9 := hW9.below hb9
  replace hWw9 := hWw9.below hb9
  replace hX9 := hX9.below hb9
  replace hOX9 := hOX9.below hb9
  replace hbW9 := hbW9.trans (hb9.mono hbW9.size)
  have HM9 := Hid.mk' (markCoord _ _ _ _ _ _ c FX 1 w9c hX9.own (by omega) (by omega))
  clear HEO hb9b hb9c hb9
  obtain ⟨x0, x1, x2, x3, x4, x5⟩ := cells6 hX9.box
  go_wp2_with fail
  refine HM9.out.mono ?_
  rintro e w10 ⟨rfl, hOx, hf10⟩
  have hG10 := hG9.framed hf10 (dXG _ List.mem_cons_self) (fun k hk => dXG k (List.mem_cons_of_mem _ hk))
  have hW10 := hW9.framed hf10 (dXW _ List.mem_cons_self) (fun k hk => dXW k (List.mem_cons_of_mem _ hk))
  have hWg10 := hWg9.keep fun k hk => hf10.block k (hWg9.at_ k hk) (dXGw k (by simpa [Value.ownBlock] using hk))
  have hWw10 := hWw9.keep fun k hk => hf10.block k (hWw9.at_ k hk) (dXWw k (by simpa [Value.ownBlock] using hk))
  have hOX10 : OwnO w10 0 gX on on ops := by
    have h9 := hOX9.mono (base' := 0) (Nat.zero_le _)
    refine ⟨h9.1, h9.2.1, row_of_block h9.2.2 (fun k e => ?_)⟩
    have e3 : gX = k := by simpa [Value.ownBlock] using e
    subst e3
    exact hf10.block gX hOX9.lt.2 dXo
  have hbW10 := hbW9.trans (hf10.bel hbW9.size fX)
  have HMO := Hid.mk' (markOpS gX on on (1 + cntC c) 0 ops w10 hOX10 (by omega) (by omega))
  clear x0 x1 x2 x3 x4 x5 HM9 hOx hf10 hG9 hW9 hX9 hWg9 hWw9 hOX9 hbW9
  go_wp2_with fail
  refine HMO.out.mono ?_
  rintro e w10b ⟨rfl, hOXm, hg10⟩
  have hG10b : InR coordR 33 w10b w6.heap.size [.int .i64 RC.1, .int .i64 RC.2.1, .int .i64 RC.2.2.1, .slice g_ja g_jn g_jc, .slice g_la g_ln g_lc, .int .i64 RC.2.2.2.2.2] RC FG := ⟨hG10.box.grown hg10 (fun e => oXG _ List.mem_cons_self (Option.some.inj e)), coordR.ownGrown hG10.own hg10 (fun k hk e => oXG k (List.mem_cons_of_mem _ hk) (Option.some.inj e)), hG10.out⟩
  have hW10b : InR coordR 33 w10b w3.heap.size [.int .i64 RC.1, .int .i64 RC.2.1, .int .i64 RC.2.2.1, .slice w_ja w_jn w_jc, .slice w_la w_ln w_lc, .int .i64 RC.2.2.2.2.2] RC FW := ⟨hW10.box.grown hg10 (fun e => oXW _ List.mem_cons_self (Option.some.inj e)), coordR.ownGrown hW10.own hg10 (fun k hk e => oXW k (List.mem_cons_of_mem _ hk) (Option.some.inj e)), hW10.out⟩
  have hWg10b := hWg10.keep fun k hk => hg10.block k (hWg10.at_ k hk) (fun e => oXGw k (by simpa [Value.ownBlock] using hk) (Option.some.inj e))
  have hWw10b := hWw10.keep fun k hk => hg10.block k (hWw10.at_ k hk) (fun e => oXWw k (by simpa [Value.ownBlock] using hk) (Option.some.inj e))
  have hbW10b := hbW10.grown hg10 hbW10.size (fun k e => by cases e; exact fXo)
  have hnn : ¬ ((1 + cntC c + 3 * on : Nat) : Int) < 0 := by omega
  have HE10 := Hid.mk' (eqCoordT _ _ _ _ _ _ _ _ _ _ _ _ RC w10b (see_co hG10b.see) (see_co hW10b.see))
  have HQ10 := Hid.mk' (fun wx (hx : Below w10b.heap.size w10b wx) => eqWordsT _ _ mG capG capW RW wx (hWg10b.below hx).sl (hWw10b.below hx).sl)
  clear HMO hOXm hg10 hG10 hW10 hWg10 hWw10 hOX10 hbW10
  obtain ⟨g0, g1, g2, g3, g4, g5⟩ := cells6 hG10b.box
  obtain ⟨c0, c1, c2, c3, c4, c5⟩ := cells6 hW10b.box
  go_wp2_with fail
  refine HE10.out.mono ?_
  rintro e w11a ⟨rfl, hb11a⟩
  have HQ11 := Hid.mk' (HQ10.out w11a hb11a)
  clear g0 g1 g2 g3 g4 g5 c0 c1 c2 c3 c4 c5 HE10 HQ10
  go_wp2_with fail
  refine HQ11.out.mono ?_
  rintro e w11 ⟨rfl, hb11b⟩
  have hb11 := hb11a.trans (hb11b.mono hb11a.size)
  have hG11 := hG10b.below hb11
  have hWg11 := hWg10b.below hb11
  have hW11 := hW10b.below hb11
  have hWw11 := hWw10b.below hb11
  have hbW11 := hbW10b.trans (hb11.mono hbW10b.size)
  have HM11 := Hid.mk' (markCoord _ _ _ _ _ _ RC FG 1 w11 hG11.own (by omega) (by omega))
  clear HQ11 hG10b hW10b hWg10b hWw10b hbW10b hb11 hb11a hb11b
  obtain ⟨g0, g1, g2, g3, g4, g5⟩ := cells6 hG11.box
  go_wp2_with fail
  refine HM11.out.mono ?_
  rintro e w12 ⟨rfl, hOg, hf12⟩
  have hW12 := hW11.framed hf12 (dGW _ List.mem_cons_self) (fun k hk => dGW k (List.mem_cons_of_mem _ hk))
  have hbg12 := hG11.box.frame hf12 hG11.out
  have hG12 : InR coordR 33 w12 w6.heap.size [.int .i64 RC.1, .int .i64 RC.2.1, .int .i64 RC.2.2.1, .slice g_ja g_jn g_jc, .slice g_la g_ln g_lc, .int .i64 RC.2.2.2.2.2] (mCo 1 RC) FG := ⟨hbg12, hOg, hG11.out⟩
  have hWg12 := hWg11.keep fun k hk => hf12.block k (hWg11.at_ k hk) (dGGw k (by simpa [Value.ownBlock] using hk))
  have hWw12 := hWw11.keep fun k hk => hf12.block k (hWw11.at_ k hk) (dGWw k (by simpa [Value.ownBlock] using hk))
  have hbW12 := hbW11.trans (hf12.bel hbW11.size fG)
  have HMW := Hid.mk' (markWordS _ _ _ RW qG (1 + cntC RC) w12 hWg12 (by omega) (by omega))
  clear g0 g1 g2 g3 g4 g5 HM11 hOg hf12 hG11 hW11 hWg11 hWw11 hbW11 hbg12 hnn
  go_wp2_with fail
  refine HMW.out.mono ?_
  rintro e w12b ⟨rfl, qM, hWg12b, hqM, hf12b⟩
  have hG12b := hG12.framed hf12b (dWG _ List.mem_cons_self) (fun k hk => dWG k (List.mem_cons_of_mem _ hk))
  have hW12b := hW12.framed hf12b (dWW _ List.mem_cons_self) (fun k hk => dWW k (List.mem_cons_of_mem _ hk))
  have hWw12b := hWw12.keep fun k hk => hf12b.block k (hWw12.at_ k hk) (dWWw k (by simpa [Value.ownBlock] using hk))
  have hbW12b := hbW12.trans (hf12b.bel hbW12.size fGw)
  have HD := Hid.mk' (fun wx (hx : InR coordR 33 wx w6.heap.size [.int .i64 RC.1, .int .i64 RC.2.1, .int .i64 RC.2.2.1, .slice g_ja g_jn g_jc, .slice g_la g_ln g_lc, .int .i64 RC.2.2.2.2.2] (mCo 1 RC) FG) => heldCoord _ _ _ _ _ _ RC 1 wx (see_mco hx.see) (by omega) (by omega))
  have HDW := Hid.mk' (fun wx (hx : OwnG 112 wordR wx (.slice (some ⟨gG, 0, none⟩) mG capG) (markRow mW cntW (1 + cntC RC) RW) qM) => heldWordS _ _ capG RW (1 + cntC RC) wx hx.sl (by omega) (by omega))
  have HD12 := Hid.mk' (HD.out _ hG12b)
  have hnm : ¬ ((1 + cntC RC : Nat) : Int) < 0 := by omega
  have hnm2 : ¬ ((1 + cntC RC + cntAll cntW RW : Nat) : Int) < 0 := by omega
  have hmm : (((1 + cntC RC + cntAll cntW RW : Nat) : Int) != ((1 + cntC RC + cntAll cntW RW : Nat) : Int)) = false := by simp
  clear HMW hf12b hqM hG12 hW12 hWg12 hWw12 hbW12
  obtain ⟨g0, g1, g2, g3, g4, g5⟩ := cells6 hG12b.box
  go_wp2_with fail
  refine HD12.out.mono ?_
  rintro e w13 ⟨rfl, hb13⟩
  have HD13 := Hid.mk' (HDW.out _ (hWg12b.below hb13))
  clear g0 g1 g2 g3 g4 g5 HD12
  go_wp2_with fail
  refine HD13.out.mono ?_
  rintro e w13b ⟨rfl, hb13b⟩
  replace hb13 := hb13.trans (hb13b.mono hb13.size)
  have hG13 := hG12b.below hb13
  have hW13 := hW12b.below hb13
  have hWg13 := hWg12b.below hb13
  have hWw13 := hWw12b.below hb13
  have hbW13 := hbW12b.trans (hb13.mono hbW12b.size)
  clear HD13 hG12b hW12b hWg12b hWw12b hbW12b hb13 hb13b
  obtain ⟨a0, a1, a2, a3, a4, a5⟩ := ARG.out w13b hbW13
  go_wp2_with fail
  refine (HTO.out _ hbW13).mono ?_
  rintro e w14a ⟨vs14, FZ, rfl, hO14, hFZ, hb14a⟩
  obtain ⟨zja, zjn, zjc, zla, zln, zlc, rfl⟩ := coord_shape hO14
  have hbW14a := hbW13.trans (hb14a.mono hbW13.size)
  have HTP14 := Hid.mk' (HTP.out w14a hbW14a)
  clear a0 a1 a2 a3 a4 a5
  go_wp2_with fail
  refine HTP14.out.mono ?_
  rintro e w14 ⟨gZ, rfl, hOZ, hb14b⟩
  have hb14 := hb14a.trans (hb14b.mono hb14a.size)
  have hG14 := hG13.below hb14
  have hW14 := hW13.below hb14
  have hWg14 := hWg13.below hb14
  have hWw14 := hWw13.below hb14
  have hbW14 := hbW13.trans (hb14.mono hbW13.size)
  have HI14 := Hid.mk' (HI.out _ _ _ _ _ _ w14 (see_co (coordR.ownSee (coordR.ownBelow hO14 hb14b))) gZ _ hOZ)
  clear HTP14 hG13 hW13 hWg13 hWw13 hbW13 hb14 hb14a hb14b HI hO14 hOZ hbW14a
  go_wp2_with fail
  refine HI14.out.mono ?_
  rintro e w15 ⟨vs15, FH, gH, mH, capH, qH, rfl, hO15, hWh15, hFH, hqH, hb15⟩
  obtain ⟨h_ja, h_jn, h_jc, h_la, h_ln, h_lc, rfl⟩ := coord_shape hO15
  obtain rfl : mH = mG := hWh15.nlen.trans HLW.out.symm
  obtain ⟨v15, hv15⟩ : ∃ v15, w15.alloc (.cells #[.int .i64 RC.1, .int .i64 RC.2.1, .int .i64 RC.2.2.1, .slice h_ja h_jn h_jc, .slice h_la h_ln h_lc, .int .i64 RC.2.2.2.2.2] 33) = v15 := ⟨_, rfl⟩
  have hc15 : Below w15.heap.size w15 v15 := by rw [← hv15]; exact below_make
  have hH15 := inR_new (T := 33) hO15
  rw [hv15] at hH15
  have hWh15b := hWh15.below hc15
  have hb1515 := hb15.trans (hc15.mono hb15.size)
  have hG15 := hG14.below hb1515
  have hW15 := hW14.below hb1515
  have hWg15 := hWg14.below hb1515
  have hWw15 := hWw14.below hb1515
  have hbW15 := hbW14.trans (hb1515.mono hbW14.size)
  have HE15 := Hid.mk' (eqCoordT _ _ _ _ _ _ _ _ _ _ _ _ RC v15 (see_co hH15.see) (see_co hW15.see))
  have HQ15 := Hid.mk' (fun wx (hx : Below v15.heap.size v15 wx) => eqWordsT _ _ mH capH capW RW wx (hWh15b.below hx).sl (hWw15.below hx).sl)
  obtain ⟨p0, p1, p2, p3, p4, p5⟩ := cells6 hH15.box
  obtain ⟨c0, c1, c2, c3, c4, c5⟩ := cells6 hW15.box
  rw [← hv15] at p0 p1 p2 p3 p4 p5 c0 c1 c2 c3 c4 c5
  have HV15 := Hid.mk' hv15
  clear HI14 hO15 hv15 hFH hFZ hG14 hW14 hWg14 hWw14 hbW14 hb15 hc15 hb1515 hH15 hqH hWh15
  go_wp2_with fail
  rw [HV15.out]
  refine HE15.out.mono ?_
  rintro e w16a ⟨rfl, hb16a⟩
  have HQ16 := Hid.mk' (HQ15.out w16a hb16a)
  clear p0 p1 p2 p3 p4 p5 c0 c1 c2 c3 c4 c5 HE15 HV15 HQ15
  go_wp2_with fail
  refine HQ16.out.mono ?_
  rintro e w16 ⟨rfl, hb16b⟩
  have hb16 := hb16a.trans (hb16b.mono hb16a.size)
  have hG16 := hG15.below hb16
  have hWg16 := hWg15.below hb16
  have hbW16 := hbW15.trans (hb16.mono hbW15.size)
  have HD16 := Hid.mk' (HD.out _ hG16)
  clear HQ16 hG15 hW15 hWg15 hWw15 hbW15 hb16 hb16a hb16b HD hWh15b
  obtain ⟨g0, g1, g2, g3, g4, g5⟩ := cells6 hG16.box
  go_wp2_with fail
  refine HD16.out.mono ?_
  rintro e w17a ⟨rfl, hb17a⟩
  have HD17 := Hid.mk' (HDW.out _ (hWg16.below hb17a))
  clear g0 g1 g2 g3 g4 g5 HD16
  go_wp2_with fail
  refine HD17.out.mono ?_
  rintro e w17 ⟨rfl, hb17b⟩
  have hb17 := hb17a.trans (hb17b.mono hb17a.size)
  have hB17 := hB.trans ((hbW16.trans (hb17.mono hbW16.size)).mono hB.size)
  clear HD17 hG16 hbW16 hb17 hb17a hb17b
  go_wp2_with fail
  go_ret
  exact ⟨rfl, hB17⟩

theorem own : ownKnob Tryz.prog.godebug = none := by kernel_rfl
theorem laidOut : laidOutB Tryz.prog = true := by kernel_rfl

set_option maxRecDepth 100000 in
theorem lifted (os : Os) (started : os.Started) (H : Type) (enc : TypeId × Value → H) :
    ReturnsInHanded {} Tryz.checked os 4 .any (Rows.fnExactBeginSpec.pre6 enc Tryz.prog Tryz.f4 Rows.fnExactBeginRow.domain false) (Rows.fnExactBeginSpec.post enc Tryz.prog Tryz.f4 false true false false) := by
  refine returnsInHanded_of_change (C := Tryz.checked) own started (by kernel_rfl) Tryz.func4
    (ChangeSpec.witness6 (enc := enc) (C := Tryz.checked) false ⟨#[], #[.agg #[.int .i64 0, .int .i64 0, .int .i64 0, .slice none 0 0, .slice none 0 0, .int .i64 0], .slice none 0 0], []⟩ 8 (by kernel_rfl) (by kernel_rfl) (by kernel_rfl) (by kernel_rfl)) ?_
  intro W base args ds gs before hval0 hW hcnd _
  have hval : ∀ (j : Nat) t v, Tryz.f4.params[j]? = some t → args[j]? = some v → Value.okWide Tryz.prog W .any base t v := hval0
  have hW' := hW
  obtain ⟨p, q, hA0, hV, rfl, hfz, hnd⟩ := hW
  have hA : DataW.TrodAll enc Tryz.prog W 0 (fun _ => true) true Tryz.f4.params.toList args.toList ds p := hA0
  rw [Tryz.params4] at hA hval
  obtain ⟨v0, vs0, d0, ds0, p0, q0, hargs, rfl, rfl, h0, r0⟩ := trodAll_cons hA
  obtain ⟨v1, vs1, d1, ds1, p1, q1, rfl, rfl, rfl, h1, r1⟩ := trodAll_cons r0
  obtain ⟨rfl, rfl, rfl⟩ := trodAll_nil r1
  obtain rfl : args = #[v0, v1] := by cases args; simp_all
  obtain ⟨rfl, rfl⟩ := trodVars_none hV
  have k0 := h0
  have lt0 : ∀ x ∈ p0, x.block < W.heap.size := by obtain ⟨m, hm⟩ := k0; exact DataW.trod_lt m _ _ _ hm
  obtain ⟨cs0, b0, rfl, w0⟩ : ∃ cs b, v0 = .agg cs.toArray ∧ cos.coordR.see W cs b := by obtain ⟨fuel, hf⟩ := h0; exact lay.arg_struct Tryz.underlying43 (by kernel_rfl) cos.reads_coord (hval 0 43 v0 rfl rfl) hf
  obtain ⟨c0_0, c0_1, c0_2, c0_3, c0_4, c0_5, rfl⟩ := lay.vals6 (cos.coordR.seeLen w0)
  obtain ⟨a1, len1, cap1, rfl⟩ := okWide_slice Tryz.underlying44 (hval 1 44 v1 rfl rfl)
  have k1 := h1
  have lt1 : ∀ x ∈ p1, x.block < W.heap.size := by obtain ⟨m, hm⟩ := k1; exact DataW.trod_lt m _ _ _ hm
  obtain ⟨b1, w1⟩ : ∃ l, ords.SlO W a1 len1 l := by obtain ⟨fuel, hf⟩ := h1; exact ords.slo_arg 44 93 _ _ _ Tryz.underlying44 Tryz.underlying93 (by kernel_rfl) rfl rfl rfl rfl rfl rfl (by kernel_rfl) (by kernel_rfl) hf
  clear hA0 hval0
  refine (walk c0_0 c0_1 c0_2 c0_3 c0_4 c0_5 b0 a1 len1 cap1 b1 W w0 w1).mono fun e W' ⟨he, bel⟩ => ?_
  subst he
  exact ⟨_, rfl, _, _, _, [], _, [], hW', trodAll_mk1 (shut_bool Tryz.underlying4 _), (trodAll_cons_mk (Below.trod laidOut (by kernel_rfl) (of_decide_eq_true (by kernel_rfl)) k0 bel lt0) (trodAll_cons_mk (Below.trod laidOut (by kernel_rfl) (of_decide_eq_true (by kernel_rfl)) k1 bel lt1) trodAll_mk0)), rfl, bel.frame _, fun h => by cases h⟩

theorem over : Rows.fnExactBeginRow.holds Tryz.pinned (OpenSpec.ofChange Rows.fnExactBeginSpec) :=
  OpenClaim.holds_of_wide 4 Tryz.f4 rfl rfl rfl rfl rfl rfl rfl ⟨rfl, rfl, rfl, rfl, rfl⟩ rfl rfl rfl rfl rfl (by kernel_rfl) Tryz.func4 (by kernel_rfl)
    (of_decide_eq_true (by kernel_rfl)) (by unfold Func.isWrapper; first | (rw [if_pos (by decide +kernel)]; kernel_rfl) | (rw [if_neg (by decide +kernel)]; exact ⟨rfl, rfl⟩))
    (fun os started H enc _ => lifted os started H enc)

theorem proved : Rows.FnExactBeginSaid := over
end Go.Proofs.YtgiibadbjgdjcaaGreat.fnExactBegin
