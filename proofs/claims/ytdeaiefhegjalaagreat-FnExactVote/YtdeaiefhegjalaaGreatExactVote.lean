/- The statement FnExactVoteSaid: at every one who decides, shard, transaction and answer FnExactVote answers true, and the arguments read afterwards as before. No condition besides the row's own. -/
import Derived.Test.YtdeaiefhegjalaaGreatRows
import Derived.Test.YtdeaiefhegjalaaGreatBund12bd
import Derived.Test.YtdeaiefhegjalaaGreatBund12bc
import Derived.Test.YtdeaiefhegjalaaGreatBund14d
import Derived.Test.YtdeaiefhegjalaaGreatBund13l
import Derived.ProofKit
import Derived.OpenShut
import Derived.ShutString
import Derived.ChangeOld
import Derived.Below
namespace Go.Proofs.YtdeaiefhegjalaaGreat.fnExactVote
open Go.ChangeShapes Go.WideShapes Go.ChangeAt Go.RowKit
open Go.ChangeMaps (open_string shut_string)
set_option linter.unusedVariables false
open Go.Proofs.YtdeaiefhegjalaaGreat.base Go.Proofs.YtdeaiefhegjalaaGreat.pairs Go.Proofs.YtdeaiefhegjalaaGreat.ords Go.Proofs.YtdeaiefhegjalaaGreat.help Go.Proofs.YtdeaiefhegjalaaGreat.helps Go.Proofs.YtdeaiefhegjalaaGreat.cos Go.Proofs.YtdeaiefhegjalaaGreat.lay

theorem sum_set {l : List Jb} : ∀ {k : Nat} {j : Jb} (hk : k < l.length), cntJ j ≤ cntJ l[k] + 1 → ((l.set k j).map cntJ).sum ≤ (l.map cntJ).sum + 1 := by
  induction l with
  | nil => intro k j hk; cases hk
  | cons x l ih =>
    intro k j hk h
    cases k with
    | zero => simp only [List.set_cons_zero, List.map_cons, List.sum_cons, List.getElem_cons_zero] at h ⊢; omega
    | succ k =>
      have := ih (k := k) (j := j) (by simpa using hk) (by simpa using h)
      simp only [List.set_cons_succ, List.map_cons, List.sum_cons]
      omega
theorem cnt_vote (c : Co) (sh tx : Int) (y : Bool) : cntC (voteR c sh tx y) ≤ cntC c + 3 := by
  unfold voteR
  split
  · cases e : votes c sh tx with
    | none => rw [voteS_none e]; omega
    | some k =>
      obtain ⟨hk, _⟩ := votes_some e
      rw [voteS_eq e hk]
      have hp := putI_len c.2.2.2.1[k].2.2.2 sh
      have h1 : cntJ (votedJ c.2.2.2.1[k] (shardsOf c.1 c.2.2.2.1[k].2.1) sh y).1 ≤ cntJ c.2.2.2.1[k] + 1 := by
        unfold votedJ
        cases y
        · simp only [Bool.false_eq_true, if_false]
          unfold cntJ
          simp only []
          omega
        · simp only [if_true]
          split <;> (unfold cntJ; simp only []; omega)
      have h2 := sum_set hk h1
      have h3 : ∀ t o, (addCh c.2.2.2.2.1 t o).length ≤ c.2.2.2.2.1.length + 1 := fun t o => by
        cases o with
        | none => exact Nat.le_succ _
        | some b => unfold addCh; simp
      have h4 := h3 c.2.2.2.1[k].1 (votedJ c.2.2.2.1[k] (shardsOf c.1 c.2.2.2.1[k].2.1) sh y).2
      unfold votedC cntC
      simp only []
      omega
  · omega
set_option maxRecDepth 100000 in
set_option maxHeartbeats 8000000 in
theorem walk (u0 u1 u2 u3 u4 u5 : Value) (c : Co) (sh tx : Int) (y : Bool) (w : World) (h0 : coordR.see w [u0, u1, u2, u3, u4, u5] c) (hs0 : (Lit.int .i64 sh).wf = true) (ht0 : (Lit.int .i64 tx).wf = true) (_ : True) :
    Calls Tryz.prog 4 #[.agg #[u0, u1, u2, u3, u4, u5], .int .i64 sh, .int .i64 tx, .bool y] w fun e w' => e = .returned (.bool true) ∧ Below w.heap.size w w' := by
  obtain ⟨ja, jn, jc, la, ln, lc, rfl, rfl, rfl, rfl, rfl, rfl, h⟩ := coord_see6 h0
  clear h0
  obtain ⟨W, hW⟩ : ∃ W, w.alloc (.cells #[.int .i64 c.1, .int .i64 c.2.1, .int .i64 c.2.2.1, .slice ja jn jc, .slice la ln lc, .int .i64 c.2.2.2.2.2] 43) = W := ⟨_, rfl⟩
  have hB : Below w.heap.size w W := by rw [← hW]; exact below_make
  have hA : BoxIn w.heap.size 43 [] [.int .i64 c.1, .int .i64 c.2.1, .int .i64 c.2.2.1, .slice ja jn jc, .slice la ln lc, .int .i64 c.2.2.2.2.2] [] W := by rw [← hW]; exact boxIn_new w _ _
  have hsz := szCoord ja jn jc la ln lc c 1048576 W (h.below hB) (by omega)
  have HW := Hid.mk' hW
  have ARG : Hid (∀ wx, Below W.heap.size W wx → wx.cell? ⟨w.heap.size, 0, none⟩ = some (.int .i64 c.1) ∧ wx.cell? ⟨w.heap.size, 1, none⟩ = some (.int .i64 c.2.1) ∧ wx.cell? ⟨w.heap.size, 2, none⟩ = some (.int .i64 c.2.2.1) ∧ wx.cell? ⟨w.heap.size, 3, none⟩ = some (.slice ja jn jc) ∧ wx.cell? ⟨w.heap.size, 4, none⟩ = some (.slice la ln lc) ∧ wx.cell? ⟨w.heap.size, 5, none⟩ = some (.int .i64 c.2.2.2.2.2)) := fun wx hx => cells6 (hA.below hx)
  obtain ⟨a0, a1, a2, a3, a4, a5⟩ := ARG.out W (Below.refl _ _)
  rw [← hW] at a0 a1 a2 a3 a4 a5
  clear hW
  by_cases hover : 1048576 < csz c
  · rw [pairs.szR_neg hover] at hsz
    have HZ := Hid.mk' hsz
    clear hsz
    go_enter Tryz.func4, Tryz.ntmps4
    go_wp2_with fail
    rw [HW.out]
    refine HZ.out.mono ?_
    rintro e wa ⟨rfl, hb⟩
    clear a0 a1 a2 a3 a4 a5
    go_wp2_with fail
    go_ret
    exact ⟨rfl, hB.trans (hb.mono hB.size)⟩
  rw [pairs.szR_pos (by omega)] at hsz
  obtain ⟨r, hrr⟩ : ∃ r : Nat, ((1048576 : Nat) : Int) - (csz c : Int) = (r : Int) := ⟨1048576 - csz c, by omega⟩
  rw [hrr] at hsz
  have HZ := Hid.mk' hsz
  have hbd := bound_co (c := c) (by omega)
  have HTO := Hid.mk' (fun wx (hx : Below W.heap.size W wx) => toCoord ja jn jc la ln lc c wx ((h.below hB).below hx) hbd)
  have hcs := hbd.cnt
  have hcR : cntC (voteR c sh tx y) ≤ 7340035 := Nat.le_trans (cnt_vote c sh tx y) (by have := hbd.cnt; omega)
  have HS := Hid.mk' (fun (ja jn jc la ln lc) wx (hs : SeeCo wx ja jn jc la ln lc c) => spec_vote ja jn jc la ln lc c sh tx y wx hs hbd hs0 ht0)
  have HI := Hid.mk' (fun (ja jn jc la ln lc) wx (hs : SeeCo wx ja jn jc la ln lc c) => impl_vote i_addYes ja jn jc la ln lc c sh tx y wx hs hbd hs0 ht0)
  generalize voteR c sh tx y = R at hcR HS HI
  clear hsz hrr hover h hA
  go_enter Tryz.func4, Tryz.ntmps4
  go_wp2_with fail
  rw [HW.out]
  refine HZ.out.mono ?_
  rintro e w1 ⟨rfl, hb1⟩
  clear a0 a1 a2 a3 a4 a5 HZ HW
  obtain ⟨a0, a1, a2, a3, a4, a5⟩ := ARG.out w1 hb1
  go_wp2_with fail
  refine (HTO.out _ hb1).mono ?_
  rintro e w2 ⟨vs2, F1, rfl, hO2, hF1, hb2⟩
  obtain ⟨tja, tjn, tjc, tla, tln, tlc, rfl⟩ := coord_shape hO2
  have hbW2 := hb1.trans (hb2.mono hb1.size)
  have HS2 := Hid.mk' (HS.out _ _ _ _ _ _ w2 (see_co (coordR.ownSee hO2)))
  clear a0 a1 a2 a3 a4 a5 hO2 HS
  go_wp2_with fail
  refine HS2.out.mono ?_
  rintro e w3 ⟨vs3, FW, rfl, hO3, hFW, hb3⟩
  obtain ⟨w_ja, w_jn, w_jc, w_la, w_ln, w_lc, rfl⟩ := coord_shape hO3
  have hbW3 := hbW2.trans (hb3.mono hbW2.size)
  obtain ⟨v3, hv3⟩ : ∃ v3, w3.alloc (.cells #[.int .i64 R.1, .int .i64 R.2.1, .int .i64 R.2.2.1, .slice w_ja w_jn w_jc, .slice w_la w_ln w_lc, .int .i64 R.2.2.2.2.2] 33) = v3 := ⟨_, rfl⟩
  have hc3 : Below w3.heap.size w3 v3 := by rw [← hv3]; exact below_make
  have hs3 : v3.heap.size = w3.heap.size + 1 := by rw [← hv3]; simp
  have hW3 := inR_new (T := 33) hO3
  rw [hv3] at hW3
  have hbW4 := hbW3.trans (hc3.mono hbW3.size)
  have kW : ∀ k ∈ w3.heap.size :: FW, W.heap.size ≤ k ∧ k < v3.heap.size := fun k hk => by
    rcases List.mem_cons.1 hk with e | e
    · have := hbW3.size; omega
    · have := hFW k e; have := coordR.ownLt hO3 k e; have := hbW2.size; omega
  obtain ⟨a0, a1, a2, a3, a4, a5⟩ := ARG.out v3 hbW4
  rw [← hv3] at a0 a1 a2 a3 a4 a5
  have HV3 := Hid.mk' hv3
  have HT3 := Hid.mk' (HTO.out v3 hbW4)
  clear HS2 hO3 hv3 hs3 hFW hF1
  go_wp2_with fail
  rw [HV3.out]
  refine HT3.out.mono ?_
  rintro e w5 ⟨vs5, FX, rfl, hO5, hFX, hb5⟩
  obtain ⟨xja, xjn, xjc, xla, xln, xlc, rfl⟩ := coord_shape hO5
  have hbW5 := hbW4.trans (hb5.mono hbW4.size)
  obtain ⟨v5, hv5⟩ : ∃ v5, w5.alloc (.cells #[.int .i64 c.1, .int .i64 c.2.1, .int .i64 c.2.2.1, .slice xja xjn xjc, .slice xla xln xlc, .int .i64 c.2.2.2.2.2] 33) = v5 := ⟨_, rfl⟩
  have hc5 : Below w5.heap.size w5 v5 := by rw [← hv5]; exact below_make
  have hs5 : v5.heap.size = w5.heap.size + 1 := by rw [← hv5]; simp
  have hX5 := inR_new (T := 33) hO5
  rw [hv5] at hX5
  have hbW6 := hbW5.trans (hc5.mono hbW5.size)
  have hW5 := (hW3.below hb5).below hc5
  have kX : ∀ k ∈ w5.heap.size :: FX, v3.heap.size ≤ k ∧ k < v5.heap.size := fun k hk => by
    rcases List.mem_cons.1 hk with e | e
    · have := hb5.size; omega
    · have := hFX k e; have := coordR.ownLt hO5 k e; omega
  obtain ⟨x0, x1, x2, x3, x4, x5⟩ := cells6 hX5.box
  rw [← hv5] at x0 x1 x2 x3 x4 x5
  have HV5 := Hid.mk' hv5
  have HI5 := Hid.mk' (HI.out _ _ _ _ _ _ v5 (see_co hX5.see))
  clear a0 a1 a2 a3 a4 a5 HV3 HT3 hO5 hv5 hs5 hFX hW3 hbW4 hbW5 hb5 hc5 hc3 hb3
  go_wp2_with fail
  rw [HV5.out]
  refine HI5.out.mono ?_
  rintro e w6 ⟨vs6, FG, rfl, hO6, hFG, hb6⟩
  obtain ⟨g_ja, g_jn, g_jc, g_la, g_ln, g_lc, rfl⟩ := coord_shape hO6
  obtain ⟨v6, hv6⟩ : ∃ v6, w6.alloc (.cells #[.int .i64 R.1, .int .i64 R.2.1, .int .i64 R.2.2.1, .slice g_ja g_jn g_jc, .slice g_la g_ln g_lc, .int .i64 R.2.2.2.2.2] 33) = v6 := ⟨_, rfl⟩
  have hc6 : Below w6.heap.size w6 v6 := by rw [← hv6]; exact below_make
  have hG6 := inR_new (T := 33) hO6
  rw [hv6] at hG6
  have hb66 := hb6.trans (hc6.mono hb6.size)
  have hW6 := hW5.below hb66
  have hX6 := hX5.below hb66
  have hbW7 := hbW6.trans (hb66.mono hbW6.size)
  have kG : ∀ k ∈ w6.heap.size :: FG, v5.heap.size ≤ k := fun k hk => by
    rcases List.mem_cons.1 hk with e | e
    · have := hb6.size; omega
    · exact hFG k e
  have hW0 : W.heap.size ≤ v3.heap.size := by have := kW _ List.mem_cons_self; omega
  have hW1 : v3.heap.size ≤ v5.heap.size := by have := kX _ List.mem_cons_self; omega
  have dXW : ∀ k ∈ w3.heap.size :: FW, k ∉ FX := fun k hk e => by have := kW k hk; have := kX k (List.mem_cons_of_mem _ e); omega
  have dXG : ∀ k ∈ w6.heap.size :: FG, k ∉ FX := fun k hk e => by have := kG k hk; have := kX k (List.mem_cons_of_mem _ e); omega
  have dGW : ∀ k ∈ w3.heap.size :: FW, k ∉ FG := fun k hk e => by have := kW k hk; have := kG k (List.mem_cons_of_mem _ e); omega
  have fX : ∀ k ∈ FX, W.heap.size ≤ k := fun k hk => by have := kX k (List.mem_cons_of_mem _ hk); omega
  have fG : ∀ k ∈ FG, W.heap.size ≤ k := fun k hk => by have := kG k (List.mem_cons_of_mem _ hk); omega
  obtain ⟨g0, g1, g2, g3, g4, g5⟩ := cells6 hG6.box
  obtain ⟨c0, c1, c2, c3, c4, c5⟩ := cells6 hW6.box
  rw [← hv6] at g0 g1 g2 g3 g4 g5 c0 c1 c2 c3 c4 c5
  have HV6 := Hid.mk' hv6
  have HE6 := Hid.mk' (eqCoordT _ _ _ _ _ _ _ _ _ _ _ _ R v6 (see_co hG6.see) (see_co hW6.see))
  clear x0 x1 x2 x3 x4 x5 HV5 HI5 hO6 hv6 hFG hW5 hX5 hbW6 hb6 hc6 hb66 kW kX kG hW0 hW1
  go_wp2_with fail
  rw [HV6.out]
  refine HE6.out.mono ?_
  rintro e w7 ⟨rfl, hb7⟩
  have hG7 := hG6.below hb7
  have hW7 := hW6.below hb7
  have hX7 := hX6.below hb7
  have hbW8 := hbW7.trans (hb7.mono hbW7.size)
  obtain ⟨x0, x1, x2, x3, x4, x5⟩ := cells6 hX7.box
  obtain ⟨a0, a1, a2, a3, a4, a5⟩ := ARG.out w7 hbW8
  clear g0 g1 g2 g3 g4 g5 c0 c1 c2 c3 c4 c5 HV6 HE6 hG6 hW6 hX6 hbW7 hb7
  have hdr : Below w7.heap.size w7 w7.drew := (Below.refl _ _).drew
  have hbWd := hbW8.trans (hdr.mono hbW8.size)
  go_wp2_with fail
  go_region_held3 (fun w' => (w'.cell? ⟨w5.heap.size, 0, none⟩ = some (.int .i64 c.1) ∧ w'.cell? ⟨w5.heap.size, 1, none⟩ = some (.int .i64 c.2.1) ∧ w'.cell? ⟨w5.heap.size, 2, none⟩ = some (.int .i64 c.2.2.1) ∧ w'.cell? ⟨w5.heap.size, 3, none⟩ = some (.slice xja xjn xjc) ∧ w'.cell? ⟨w5.heap.size, 4, none⟩ = some (.slice xla xln xlc) ∧ w'.cell? ⟨w5.heap.size, 5, none⟩ = some (.int .i64 c.2.2.2.2.2) ∧ w'.cell? ⟨w.heap.size, 0, none⟩ = some (.int .i64 c.1) ∧ w'.cell? ⟨w.heap.size, 1, none⟩ = some (.int .i64 c.2.1) ∧ w'.cell? ⟨w.heap.size, 2, none⟩ = some (.int .i64 c.2.2.1) ∧ w'.cell? ⟨w.heap.size, 3, none⟩ = some (.slice ja jn jc) ∧ w'.cell? ⟨w.heap.size, 4, none⟩ = some (.slice la ln lc) ∧ w'.cell? ⟨w.heap.size, 5, none⟩ = some (.int .i64 c.2.2.2.2.2))) (first | (exact keepBoth6 hb9 (by assumption)) | (exact keepBoth6 hb8 (by assumption)) | (go_keep)) (first | (go_at_call 22; have h9 := hb8; refine (eqCoordT _ _ _ _ _ _ _ _ _ _ _ _ c _ (see_co (hX7.below (hdr.trans (hb8.mono hdr.size))).see) HO8.out).mono ?_; rintro e w9 ⟨rfl, hb9⟩) | (go_at_call 20; refine (HTO.out _ hbWd).mono ?_; rintro e w8 ⟨vs8, F3, rfl, hO8, hF8, hb8⟩; obtain ⟨yja, yjn, yjc, yla, yln, ylc, rfl⟩ := coord_shape hO8; have HO8 := Hid.mk' (see_co (coordR.ownSee hO8))) | fail "no arm")
  have hb79 := (hdr.trans (hb8.mono hdr.size)).trans (hb9.mono (Nat.le_trans hdr.size hb8.size))
  have hG9 := hG7.below hb79
  have hW9 := hW7.below hb79
  have hX9 := hX7.below hb79
  have hbW9 := hbW8.trans (hb79.mono hbW8.size)
  have HM9 := Hid.mk' (markCoord _ _ _ _ _ _ c FX 1 w9 hX9.own (by omega) (by omega))
  clear x0 x1 x2 x3 x4 x5 a0 a1 a2 a3 a4 a5 hdr hbWd hb8 hb9 hb79 hO8 HO8 hF8 hG7 hW7 hX7 hbW8
  obtain ⟨x0, x1, x2, x3, x4, x5⟩ := cells6 hX9.box
  go_wp2_with fail
  refine HM9.out.mono ?_
  rintro e w10 ⟨rfl, hOx, hf10⟩
  have hG10 := hG9.framed hf10 (dXG _ List.mem_cons_self) (fun k hk => dXG k (List.mem_cons_of_mem _ hk))
  have hW10 := hW9.framed hf10 (dXW _ List.mem_cons_self) (fun k hk => dXW k (List.mem_cons_of_mem _ hk))
  have hbW10 := hbW9.trans (hf10.bel hbW9.size fX)
  have hnn : ¬ ((1 + cntC c : Nat) : Int) < 0 := by omega
  have HE10 := Hid.mk' (eqCoordT _ _ _ _ _ _ _ _ _ _ _ _ R w10 (see_co hG10.see) (see_co hW10.see))
  clear x0 x1 x2 x3 x4 x5 HM9 hOx hf10 hG9 hW9 hX9 hbW9
  obtain ⟨g0, g1, g2, g3, g4, g5⟩ := cells6 hG10.box
  obtain ⟨c0, c1, c2, c3, c4, c5⟩ := cells6 hW10.box
  go_wp2_with fail
  refine HE10.out.mono ?_
  rintro e w11 ⟨rfl, hb11⟩
  have hG11 := hG10.below hb11
  have hW11 := hW10.below hb11
  have hbW11 := hbW10.trans (hb11.mono hbW10.size)
  have HM11 := Hid.mk' (markCoord _ _ _ _ _ _ R FG 1 w11 hG11.own (by omega) (by omega))
  clear g0 g1 g2 g3 g4 g5 c0 c1 c2 c3 c4 c5 HE10 hG10 hW10 hbW10 hb11
  obtain ⟨g0, g1, g2, g3, g4, g5⟩ := cells6 hG11.box
  go_wp2_with fail
  refine HM11.out.mono ?_
  rintro e w12 ⟨rfl, hOg, hf12⟩
  have hW12 := hW11.framed hf12 (dGW _ List.mem_cons_self) (fun k hk => dGW k (List.mem_cons_of_mem _ hk))
  have hbg12 := hG11.box.frame hf12 hG11.out
  have hG12 : InR coordR 33 w12 w6.heap.size [.int .i64 R.1, .int .i64 R.2.1, .int .i64 R.2.2.1, .slice g_ja g_jn g_jc, .slice g_la g_ln g_lc, .int .i64 R.2.2.2.2.2] (mCo 1 R) FG := ⟨hbg12, hOg, hG11.out⟩
  have hbW12 := hbW11.trans (hf12.bel hbW11.size fG)
  have HD := Hid.mk' (fun wx (hx : InR coordR 33 wx w6.heap.size [.int .i64 R.1, .int .i64 R.2.1, .int .i64 R.2.2.1, .slice g_ja g_jn g_jc, .slice g_la g_ln g_lc, .int .i64 R.2.2.2.2.2] (mCo 1 R) FG) => heldCoord _ _ _ _ _ _ R 1 wx (see_mco hx.see) (by omega) (by omega))
  have HD12 := Hid.mk' (HD.out _ hG12)
  have hnm : ¬ ((1 + cntC R : Nat) : Int) < 0 := by omega
  have hmm : (((1 + cntC R : Nat) : Int) != ((1 + cntC R : Nat) : Int)) = false := by simp
  clear g0 g1 g2 g3 g4 g5 HM11 hOg hf12 hG11 hW11 hbW11 hbg12 hnn
  obtain ⟨g0, g1, g2, g3, g4, g5⟩ := cells6 hG12.box
  go_wp2_with fail
  refine HD12.out.mono ?_
  rintro e w13 ⟨rfl, hb13⟩
  have hG13 := hG12.below hb13
  have hW13 := hW12.below hb13
  have hbW13 := hbW12.trans (hb13.mono hbW12.size)
  clear g0 g1 g2 g3 g4 g5 HD12 hG12 hW12 hbW12 hb13
  obtain ⟨a0, a1, a2, a3, a4, a5⟩ := ARG.out w13 hbW13
  go_wp2_with fail
  refine (HTO.out _ hbW13).mono ?_
  rintro e w14 ⟨vs14, FZ, rfl, hO14, hFZ, hb14⟩
  obtain ⟨zja, zjn, zjc, zla, zln, zlc, rfl⟩ := coord_shape hO14
  have hG14 := hG13.below hb14
  have hW14 := hW13.below hb14
  have hbW14 := hbW13.trans (hb14.mono hbW13.size)
  have HI14 := Hid.mk' (HI.out _ _ _ _ _ _ w14 (see_co (coordR.ownSee hO14)))
  clear a0 a1 a2 a3 a4 a5 hG13 hW13 hbW13 hb14 HI hO14
  go_wp2_with fail
  refine HI14.out.mono ?_
  rintro e w15 ⟨vs15, FH, rfl, hO15, hFH, hb15⟩
  obtain ⟨h_ja, h_jn, h_jc, h_la, h_ln, h_lc, rfl⟩ := coord_shape hO15
  obtain ⟨v15, hv15⟩ : ∃ v15, w15.alloc (.cells #[.int .i64 R.1, .int .i64 R.2.1, .int .i64 R.2.2.1, .slice h_ja h_jn h_jc, .slice h_la h_ln h_lc, .int .i64 R.2.2.2.2.2] 33) = v15 := ⟨_, rfl⟩
  have hc15 : Below w15.heap.size w15 v15 := by rw [← hv15]; exact below_make
  have hH15 := inR_new (T := 33) hO15
  rw [hv15] at hH15
  have hb1515 := hb15.trans (hc15.mono hb15.size)
  have hG15 := hG14.below hb1515
  have hW15 := hW14.below hb1515
  have hbW15 := hbW14.trans (hb1515.mono hbW14.size)
  have HE15 := Hid.mk' (eqCoordT _ _ _ _ _ _ _ _ _ _ _ _ R v15 (see_co hH15.see) (see_co hW15.see))
  obtain ⟨p0, p1, p2, p3, p4, p5⟩ := cells6 hH15.box
  obtain ⟨c0, c1, c2, c3, c4, c5⟩ := cells6 hW15.box
  rw [← hv15] at p0 p1 p2 p3 p4 p5 c0 c1 c2 c3 c4 c5
  have HV15 := Hid.mk' hv15
  clear HI14 hO15 hv15 hFH hFZ hG14 hW14 hbW14 hb15 hc15 hb1515 hH15
  go_wp2_with fail
  rw [HV15.out]
  refine HE15.out.mono ?_
  rintro e w16 ⟨rfl, hb16⟩
  have hG16 := hG15.below hb16
  have hbW16 := hbW15.trans (hb16.mono hbW15.size)
  have HD16 := Hid.mk' (HD.out _ hG16)
  clear p0 p1 p2 p3 p4 p5 c0 c1 c2 c3 c4 c5 HE15 HV15 hG15 hW15 hbW15 hb16 HD
  obtain ⟨g0, g1, g2, g3, g4, g5⟩ := cells6 hG16.box
  go_wp2_with fail
  refine HD16.out.mono ?_
  rintro e w17 ⟨rfl, hb17⟩
  have hB17 := hB.trans ((hbW16.trans (hb17.mono hbW16.size)).mono hB.size)
  clear g0 g1 g2 g3 g4 g5 HD16 hG16 hbW16 hb17
  go_wp2_with fail
  go_ret
  exact ⟨rfl, hB17⟩

theorem own : ownKnob Tryz.prog.godebug = none := by kernel_rfl
theorem laidOut : laidOutB Tryz.prog = true := by kernel_rfl

set_option maxRecDepth 100000 in
theorem lifted (os : Os) (started : os.Started) (H : Type) (enc : TypeId × Value → H) :
    ReturnsInHanded {} Tryz.checked os 4 .any (Rows.fnExactVoteSpec.pre6 enc Tryz.prog Tryz.f4 Rows.fnExactVoteRow.domain false) (Rows.fnExactVoteSpec.post enc Tryz.prog Tryz.f4 false true false false) := by
  refine returnsInHanded_of_change (C := Tryz.checked) own started (by kernel_rfl) Tryz.func4
    (ChangeSpec.witness6 (enc := enc) (C := Tryz.checked) false ⟨#[], #[.agg #[.int .i64 0, .int .i64 0, .int .i64 0, .slice none 0 0, .slice none 0 0, .int .i64 0], .int .i64 0, .int .i64 0, .bool false], []⟩ 8 (by kernel_rfl) (by kernel_rfl) (by kernel_rfl) (by kernel_rfl)) ?_
  intro W base args ds gs before hval0 hW hcnd _
  have hval : ∀ (j : Nat) t v, Tryz.f4.params[j]? = some t → args[j]? = some v → Value.okWide Tryz.prog W .any base t v := hval0
  have hW' := hW
  obtain ⟨p, q, hA0, hV, rfl, hfz, hnd⟩ := hW
  have hA : DataW.TrodAll enc Tryz.prog W 0 (fun _ => true) true Tryz.f4.params.toList args.toList ds p := hA0
  rw [Tryz.params4] at hA hval
  obtain ⟨v0, vs0, d0, ds0, p0, q0, hargs, rfl, rfl, h0, r0⟩ := trodAll_cons hA
  obtain ⟨v1, vs1, d1, ds1, p1, q1, rfl, rfl, rfl, h1, r1⟩ := trodAll_cons r0
  obtain ⟨v2, vs2, d2, ds2, p2, q2, rfl, rfl, rfl, h2, r2⟩ := trodAll_cons r1
  obtain ⟨v3, vs3, d3, ds3, p3, q3, rfl, rfl, rfl, h3, r3⟩ := trodAll_cons r2
  obtain ⟨rfl, rfl, rfl⟩ := trodAll_nil r3
  obtain rfl : args = #[v0, v1, v2, v3] := by cases args; simp_all
  obtain ⟨rfl, rfl⟩ := trodVars_none hV
  have k0 := h0
  have lt0 : ∀ x ∈ p0, x.block < W.heap.size := by obtain ⟨m, hm⟩ := k0; exact DataW.trod_lt m _ _ _ hm
  obtain ⟨cs0, b0, rfl, w0⟩ : ∃ cs b, v0 = .agg cs.toArray ∧ cos.coordR.see W cs b := by obtain ⟨fuel, hf⟩ := h0; exact lay.arg_struct Tryz.underlying43 (by kernel_rfl) cos.reads_coord (hval 0 43 v0 rfl rfl) hf
  obtain ⟨c0_0, c0_1, c0_2, c0_3, c0_4, c0_5, rfl⟩ := lay.vals6 (cos.coordR.seeLen w0)
  obtain ⟨a1, rfl, rfl, rfl, w1⟩ := open_int Tryz.underlying3 (hval 1 3 v1 rfl rfl) h1
  obtain ⟨a2, rfl, rfl, rfl, w2⟩ := open_int Tryz.underlying3 (hval 2 3 v2 rfl rfl) h2
  obtain ⟨a3, rfl, rfl, rfl⟩ := open_bool Tryz.underlying4 (hval 3 4 v3 rfl rfl) h3
  have w3 : True := trivial
  clear hA0 hval0
  refine (walk c0_0 c0_1 c0_2 c0_3 c0_4 c0_5 b0 a1 a2 a3 W w0 w1 w2 w3).mono fun e W' ⟨he, bel⟩ => ?_
  subst he
  exact ⟨_, rfl, _, _, _, [], _, [], hW', trodAll_mk1 (shut_bool Tryz.underlying4 _), (trodAll_cons_mk (Below.trod laidOut (by kernel_rfl) (of_decide_eq_true (by kernel_rfl)) k0 bel lt0) (trodAll_cons_mk (shut_int Tryz.underlying3 w1) (trodAll_cons_mk (shut_int Tryz.underlying3 w2) (trodAll_cons_mk (shut_bool Tryz.underlying4 a3) trodAll_mk0)))), rfl, bel.frame _, fun h => by cases h⟩

theorem over : Rows.fnExactVoteRow.holds Tryz.pinned (OpenSpec.ofChange Rows.fnExactVoteSpec) :=
  OpenClaim.holds_of_wide 4 Tryz.f4 rfl rfl rfl rfl rfl rfl rfl ⟨rfl, rfl, rfl, rfl, rfl⟩ rfl rfl rfl rfl rfl (by kernel_rfl) Tryz.func4 (by kernel_rfl)
    (of_decide_eq_true (by kernel_rfl)) (by unfold Func.isWrapper; first | (rw [if_pos (by decide +kernel)]; kernel_rfl) | (rw [if_neg (by decide +kernel)]; exact ⟨rfl, rfl⟩))
    (fun os started H enc _ => lifted os started H enc)

theorem proved : Rows.FnExactVoteSaid := over
end Go.Proofs.YtdeaiefhegjalaaGreat.fnExactVote
