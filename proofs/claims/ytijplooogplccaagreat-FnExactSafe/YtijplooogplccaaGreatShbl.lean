/- WoNu WoPs WoPv -/
import Derived.Test.YtijplooogplccaaGreatShbk
import Derived.Test.YtijplooogplccaaGreatShbc
import Derived.Test.YtijplooogplccaaGreatShae
import Derived.BigRegion
set_option linter.unusedVariables false
set_option linter.unusedSimpArgs false
namespace Go.Proofs.YtijplooogplccaaGreat
namespace wos
open Go Go.RowKit base pairs ords lay
theorem says_all (l : List recs.Rc) (kind tx : Int) : saysS l (l.length : Int) kind tx = l.any (sayA kind tx) := by
 unfold saysS
 rw [show sureN (l.length : Int) l.length = l.length from by unfold sureN; omega, List.take_length]
theorem gone_at (l : List recs.Shd) (tx : Int) : gone l tx = !(List.range l.length).all (holdsAt (fun s : recs.Shd => !(s.2.1.any (sayA 3 tx))) l) := by
 rw [← all_at, gone, List.not_all_eq_any_not]
 simp
set_option maxRecDepth 100000 in
set_option maxHeartbeats 4000000 in
theorem spec_noSplit (ja : Option Addr) (jn jc : Nat) (la : Option Addr) (ln lc : Nat) (sa : Option Addr) (sn sc : Nat) (na : Option Addr) (nn nc : Nat) (oa : Option Addr) (on oc : Nat) (ba : Option Addr) (bn bc : Nat) (x : Wo) (w : World) (h : SeeWo w ja jn jc la ln lc sa sn sc na nn nc oa on oc ba bn bc x) :
 Calls Tryz.prog 33 #[.agg #[.int .i64 x.1.1, .int .i64 x.1.2.1, .int .i64 x.1.2.2.1, .slice ja jn jc, .slice la ln lc, .int .i64 x.1.2.2.2.2.2, .slice sa sn sc, .slice na nn nc, .slice oa on oc, .slice ba bn bc]] w fun e w' => e = .returned (.bool (nospS x.2.1)) ∧ Below w.heap.size w w' := by
 obtain ⟨W, hW⟩ : ∃ W, w.alloc (.cells #[.int .i64 x.1.1, .int .i64 x.1.2.1, .int .i64 x.1.2.2.1, .slice ja jn jc, .slice la ln lc, .int .i64 x.1.2.2.2.2.2, .slice sa sn sc, .slice na nn nc, .slice oa on oc, .slice ba bn bc] 41) = W := ⟨_, rfl⟩
 have hB : Below w.heap.size w W := by rw [← hW]; exact below_make
 have hX : BoxIn w.heap.size 41 [] [.int .i64 x.1.1, .int .i64 x.1.2.1, .int .i64 x.1.2.2.1, .slice ja jn jc, .slice la ln lc, .int .i64 x.1.2.2.2.2.2, .slice sa sn sc, .slice na nn nc, .slice oa on oc, .slice ba bn bc] [] W := by rw [← hW]; exact boxIn_new w _ _
 have hS := h.sh.below hB
 have hm := h.sh.2.1
 unfold maxLen at hm
 have HSL := Hid.mk' h.sh.1
 have HR : Hid (nospS x.2.1 = (List.range sn).all (holdsAt (fun s : recs.Shd => s.2.1.all (nospR x.2.1)) x.2.1)) := by show _ = _; unfold nospS; rw [all_at, h.sh.1]
 have HGO : Hid (∀ tx, gone x.2.1 tx = !(List.range sn).all (holdsAt (fun s : recs.Shd => !(s.2.1.any (sayA 3 tx))) x.2.1)) := fun tx => by rw [gone_at, h.sh.1]
 generalize nospS x.2.1 = R at *
 have HW := Hid.mk' hW
 clear hW h
 go_enter Tryz.func33, Tryz.ntmps33
 go_wp2_with fail
 rw [HW.out]
 go_loopw [3] (fun i wr => ∃ k : Nat, k ≤ sn ∧ i = .int .i64 (k : Int) ∧ Below W.heap.size W wr ∧ ∀ j, j < k → holdsAt (fun s : recs.Shd => s.2.1.all (nospR x.2.1)) x.2.1 j = true) (fun i _ => sn - (intOf i).toNat)
 case atStart => exact ⟨0, Nat.zero_le _, rfl, Below.refl _ _, fun j hj => absurd hj (Nat.not_lt_zero _)⟩
 case round =>
  obtain ⟨k, hk, rfl, hb, hno⟩ := hrel
  have HNO := Hid.mk' hno
  have hBw := hB.trans (hb.mono hB.size)
  obtain ⟨a0, a1, a2, a3, a4, a5, a6, a7, a8, a9⟩ := cells10 (hX.below hb)
  clear hno a0 a1 a2 a3 a4 a5 a7 a8 a9
  by_cases hlt : k < sn
  · have hki : (k : Int) < (sn : Int) := by omega
    have hkl : k < x.2.1.length := by have := HSL.out; omega
    obtain ⟨b, off, hsa⟩ := cos.slg_some hS (by omega)
    subst hsa
    obtain ⟨rla, rln, rlc, rma, rmn, rmc, rha, rhn, rhc, s0, s1, s2, s3, s4, hsee⟩ := shard_at (hS.below hb) k hkl
    have hlog := hsee.log
    have hlm := hlog.2.1
    unfold maxLen at hlm
    have HLG := Hid.mk' hlog.1
    have HV : Hid (holdsAt (fun s : recs.Shd => s.2.1.all (nospR x.2.1)) x.2.1 k = (List.range rln).all (holdsAt (nospR x.2.1) x.2.1[k].2.1)) := by show _ = _; rw [holdsAt_at hkl, all_at, hlog.1]
    have HP : Hid ((holdsAt (fun s : recs.Shd => s.2.1.all (nospR x.2.1)) x.2.1 k = false → R = false) ∧ (holdsAt (fun s : recs.Shd => s.2.1.all (nospR x.2.1)) x.2.1 k = true → ∀ j, j < k + 1 → holdsAt (fun s : recs.Shd => s.2.1.all (nospR x.2.1)) x.2.1 j = true)) := ⟨fun e => by rw [HR.out, range_miss hlt e], upto_next HNO.out⟩
    generalize holdsAt (fun s : recs.Shd => s.2.1.all (nospR x.2.1)) x.2.1 k = hv at *
    generalize x.2.1[k] = s at *
    clear hsee s0 s2 s3 s4
    go_wp2_with fail
    clear a6 s1
    obtain ⟨v0, hv0⟩ : ∃ v0, v0 = wr := ⟨_, rfl⟩
    subst hv0
    go_loopw [5] (fun i wr => ∃ q : Nat, q ≤ rln ∧ i = .int .i64 (q : Int) ∧ Below v0.heap.size v0 wr ∧ ∀ j, j < q → holdsAt (nospR x.2.1) s.2.1 j = true) (fun i _ => rln - (intOf i).toNat)
    case atStart => exact ⟨0, Nat.zero_le _, rfl, Below.refl _ _, fun j hj => absurd hj (Nat.not_lt_zero _)⟩
    case round =>
     obtain ⟨q, hq, rfl, hb2, hno2⟩ := hrel
     have HNO2 := Hid.mk' hno2
     have hbw2 := hb.trans (hb2.mono hb.size)
     have hBw2 := hB.trans (hbw2.mono hB.size)
     clear hno2
     by_cases hlt2 : q < rln
     · have hqi : (q : Int) < (rln : Int) := by omega
       have hql : q < s.2.1.length := by have := HLG.out; omega
       obtain ⟨rb, roff, hra⟩ := slr_some hlog (by omega)
       subst hra
       have HV2 : Hid (holdsAt (nospR x.2.1) s.2.1 q = (!decide (s.2.1[q].1 = 2) || !gone x.2.1 s.2.1[q].2.1)) := holdsAt_at hql
       have HP2 : Hid ((holdsAt (nospR x.2.1) s.2.1 q = false → hv = false) ∧ (holdsAt (nospR x.2.1) s.2.1 q = true → ∀ j, j < q + 1 → holdsAt (nospR x.2.1) s.2.1 j = true)) := ⟨fun e => by rw [HV.out, range_miss hlt2 e], upto_next HNO2.out⟩
       have HREC : Hid (∀ wx, Below v0.heap.size v0 wx → wx.cell? ⟨rb, roff + q * 3, none⟩ = some (.int .i64 s.2.1[q].1) ∧ wx.cell? ⟨rb, roff + q * 3 + 1, none⟩ = some (.int .i64 s.2.1[q].2.1)) := fun wx hx => by
        obtain ⟨c0, c1, _⟩ := rec_at (hlog.below hx) q hql
        exact ⟨c0, c1⟩
       generalize holdsAt (nospR x.2.1) s.2.1 q = hv2 at *
       generalize s.2.1[q] = r at *
       obtain ⟨rk, rt, ro⟩ := r
       simp only [] at HREC HV2
       by_cases e2 : rk = 2
       · have d2 : (rk == 2) = true := by simp [e2]
         rw [HGO.out rt] at HV2
         have HV3 : Hid (hv2 = (List.range sn).all (holdsAt (fun s : recs.Shd => !(s.2.1.any (sayA 3 rt))) x.2.1)) := by show _ = _; rw [HV2.out]; simp [e2]
         clear HV2 e2
         go_wp2_with fail
         obtain ⟨v1, hv1⟩ : ∃ v1, v1 = wr := ⟨_, rfl⟩
         subst hv1
         go_loopw [6] (fun i wr => ∃ z : Nat, z ≤ sn ∧ i = .int .i64 (z : Int) ∧ Below v1.heap.size v1 wr ∧ ∀ j, j < z → holdsAt (fun s : recs.Shd => !(s.2.1.any (sayA 3 rt))) x.2.1 j = true) (fun i _ => sn - (intOf i).toNat)
         case atStart => exact ⟨0, Nat.zero_le _, rfl, Below.refl _ _, fun j hj => absurd hj (Nat.not_lt_zero _)⟩
         case round =>
          obtain ⟨z, hz, rfl, hb3, hno3⟩ := hrel
          have HNO3 := Hid.mk' hno3
          have hb23 := hb2.trans (hb3.mono hb2.size)
          have hbw3 := hbw2.trans (hb3.mono hbw2.size)
          have hBw3 := hB.trans (hbw3.mono hB.size)
          obtain ⟨a0, a1, a2, a3, a4, a5, a6, a7, a8, a9⟩ := cells10 (hX.below hbw3)
          obtain ⟨c0, c1⟩ := HREC.out wr hb23
          clear hno3 a0 a1 a2 a3 a4 a5 a7 a8 a9
          by_cases hlt3 : z < sn
          · have hzi : (z : Int) < (sn : Int) := by omega
            have hzl : z < x.2.1.length := by have := HSL.out; omega
            obtain ⟨ola, oln, olc, oma, omn, omc, oha, ohn, ohc, t0, t1, t2, t3, t4, hsee3⟩ := shard_at (hS.below hbw3) z hzl
            have HSY := Hid.mk' (fun wx (hx : Below wr.heap.size wr wx) => spec_l13Says ola oln olc x.2.1[z].2.1 (oln : Int) 3 rt wx (hsee3.log.below hx))
            have hol := hsee3.log.1
            have hse : saysS x.2.1[z].2.1 (oln : Int) 3 rt = x.2.1[z].2.1.any (sayA 3 rt) := by rw [← hol]; exact says_all _ _ _
            rw [hse] at HSY
            have HV4 : Hid (holdsAt (fun s : recs.Shd => !(s.2.1.any (sayA 3 rt))) x.2.1 z = !(x.2.1[z].2.1.any (sayA 3 rt))) := holdsAt_at hzl
            have HP4 : Hid ((holdsAt (fun s : recs.Shd => !(s.2.1.any (sayA 3 rt))) x.2.1 z = false → hv2 = false) ∧ (holdsAt (fun s : recs.Shd => !(s.2.1.any (sayA 3 rt))) x.2.1 z = true → ∀ j, j < z + 1 → holdsAt (fun s : recs.Shd => !(s.2.1.any (sayA 3 rt))) x.2.1 j = true)) := ⟨fun e => by rw [HV3.out, range_miss hlt3 e], upto_next HNO3.out⟩
            generalize holdsAt (fun s : recs.Shd => !(s.2.1.any (sayA 3 rt))) x.2.1 z = hv4 at *
            generalize x.2.1[z].2.1.any (sayA 3 rt) = sv at *
            have pa6 := last.On.cell (B := wr.heap.size) a6 (World.block_lt_of_cell? _ _ a6)
            have pt1 := last.On.cell (B := wr.heap.size) t1 (World.block_lt_of_cell? _ _ t1)
            have pc1 := last.On.cell (B := wr.heap.size) c1 (World.block_lt_of_cell? _ _ c1)
            have hinh := last.On.inh wr.heap.size wr
            have hc0 : ∀ xx : last.On wr.heap.size wr, Calls Tryz.prog 70 #[.slice ola oln olc, .int .i64 (oln : Int), .int .i64 3, .int .i64 rt] xx.w fun e w' => e = .returned (.bool sv) ∧ ∃ yv : last.On wr.heap.size wr, w' = yv.w := fun xx => last.Calls.on xx (Nat.le_refl _) (HSY.out xx.w xx.2)
            clear HSY hsee3 t0 t2 t3 t4 hse hol
            cases sv
            · have HF := Hid.mk' (HP4.out.2 HV4.out)
              clear HP4 HV4
              go_wp2_with fail
              clear a6 t1 c0 c1
              refine last.wp_region_on wr.heap.size (by kernel_rfl) (by kernel_rfl) ?_
              repeat (go_big_quiet_step ((first | (go_at_call 70; with_reducible exact hc0 _))))
              refine wpQuiet_nil ?_
              intro wq hwq
              obtain ⟨xq, hwq⟩ := hwq
              subst hwq
              have hbq : Below wr.heap.size wr xq.w := xq.2
              go_wp2_with fail
              go_roundw
              case rel => exact ⟨z + 1, by omega, by go_num, hb3.trans (hbq.mono hb3.size), HF.out⟩
              case measure => simp [intOf]; omega
            · have HF := Hid.mk' (HP.out.1 (HP2.out.1 (HP4.out.1 HV4.out)))
              clear HP4 HV4
              go_wp2_with fail
              clear a6 t1 c0 c1
              refine last.wp_region_on wr.heap.size (by kernel_rfl) (by kernel_rfl) ?_
              repeat (go_big_quiet_step ((first | (go_at_call 70; with_reducible exact hc0 _))))
              refine wpQuiet_nil ?_
              intro wq hwq
              obtain ⟨xq, hwq⟩ := hwq
              subst hwq
              have hbq : Below wr.heap.size wr xq.w := xq.2
              go_wp2_with fail
              go_ret
              exact ⟨by rw [HF.out]; rfl, hBw3.trans (hbq.mono hBw3.size)⟩
          · have hzi : ¬ (z : Int) < (sn : Int) := by omega
            have HF := Hid.mk' (HP2.out.2 (by rw [HV3.out]; exact range_every (fun j hj => HNO3.out j (by omega))))
            go_wp2_with fail
            go_roundw
            case rel => exact ⟨q + 1, by omega, by go_num, hb23, HF.out⟩
            case measure => simp [intOf]; omega
       · have d2 : (rk == 2) = false := by simp [e2]
         have HF := Hid.mk' (HP2.out.2 (by rw [HV2.out]; simp [e2]))
         clear HV2 e2 HP2
         go_wp2_with fail
         go_loopw [6] (fun i wr' => i = .int .i64 0 ∧ wr = wr') (fun i _ => 0)
         case atStart => exact ⟨rfl, rfl⟩
         case round =>
          obtain ⟨rfl, rfl⟩ := hrel
          obtain ⟨a0, a1, a2, a3, a4, a5, a6, a7, a8, a9⟩ := cells10 (hX.below hbw2)
          obtain ⟨c0, c1⟩ := HREC.out _ hb2
          clear a0 a1 a2 a3 a4 a5 a7 a8 a9
          have hs0 : (0 : Int) < (sn : Int) := by omega
          go_wp2_with fail
          go_roundw
          case rel => exact ⟨q + 1, by omega, by go_num, hb2, HF.out⟩
          case measure => simp [intOf]; omega
     · have hqi : ¬ (q : Int) < (rln : Int) := by omega
       have HF := Hid.mk' (HP.out.2 (by rw [HV.out]; exact range_every (fun j hj => HNO2.out j (by omega))))
       clear HP
       go_wp2_with fail
       go_roundw
       case rel => exact ⟨k + 1, by omega, by go_num, hbw2, HF.out⟩
       case measure => simp [intOf]; omega
  · have hki : ¬ (k : Int) < (sn : Int) := by omega
    have HF : Hid (R = true) := by show _ = _; rw [HR.out, range_every (fun j hj => HNO.out j (by omega))]
    go_wp2_with fail
    go_ret
    exact ⟨by rw [HF.out]; rfl, hBw⟩
end wos
namespace wos
open Go Go.RowKit base pairs ords lay
def heldA (x : Wo) (tx z : Int) : Bool := match x.2.1[z.toNat]? with | none => false | some s => keepS s tx
def heldO (x : Wo) (o : Orr) : Bool := (shardsOf x.1.1 o.2).all (heldA x o.1)
def promA (x : Wo) (c : cos.Ch) : Bool := !c.2 || (match firstO x.2.2.2.2 c.1 with | none => false | some o => heldO x o)
def promR (x : Wo) : Bool := x.1.2.2.2.2.1.all (promA x)
theorem shards_nat {n : Int} {l : List Od} {z : Int} (h : z ∈ shardsOf n l) : ∃ K : Nat, z = (K : Int) := by
 obtain ⟨o, _, rfl⟩ := (shards_mem n l z).1 h
 have h0 : 0 ≤ shardOf o.2.1 n := by
  unfold shardOf
  split
  · omega
  · exact Int.emod_nonneg _ (by omega)
 exact ⟨(shardOf o.2.1 n).toNat, by omega⟩
theorem heldA_out {x : Wo} {tx : Int} {K : Nat} (h : x.2.1.length ≤ K) : heldA x tx (K : Int) = false := by
 unfold heldA
 rw [Int.toNat_natCast, List.getElem?_eq_none h]
theorem heldA_in {x : Wo} {tx : Int} {K : Nat} (h : K < x.2.1.length) : heldA x tx (K : Int) = keepS x.2.1[K] tx := by
 unfold heldA
 rw [Int.toNat_natCast, List.getElem?_eq_getElem h]
set_option maxRecDepth 100000 in
set_option maxHeartbeats 4000000 in
theorem spec_l13Held (ja : Option Addr) (jn jc : Nat) (la : Option Addr) (ln lc : Nat) (sa : Option Addr) (sn sc : Nat) (na : Option Addr) (nn nc : Nat) (oa : Option Addr) (on oc : Nat) (ba : Option Addr) (bn bc : Nat) (x : Wo) (qa : Option Addr) (ql qc : Nat) (o : Orr) (w : World) (h : SeeWo w ja jn jc la ln lc sa sn sc na nn nc oa on oc ba bn bc x) (ho : SlO w qa ql o.2) (hql : ql ≤ 1048576) :
 Calls Tryz.prog 73 #[.agg #[.int .i64 x.1.1, .int .i64 x.1.2.1, .int .i64 x.1.2.2.1, .slice ja jn jc, .slice la ln lc, .int .i64 x.1.2.2.2.2.2, .slice sa sn sc, .slice na nn nc, .slice oa on oc, .slice ba bn bc], .agg #[.int .i64 o.1, .slice qa ql qc]] w fun e w' => e = .returned (.bool (heldO x o)) ∧ Below w.heap.size w w' := by
 obtain ⟨W, hW⟩ : ∃ W, (w.alloc (.cells #[.int .i64 x.1.1, .int .i64 x.1.2.1, .int .i64 x.1.2.2.1, .slice ja jn jc, .slice la ln lc, .int .i64 x.1.2.2.2.2.2, .slice sa sn sc, .slice na nn nc, .slice oa on oc, .slice ba bn bc] 41)).alloc (.cells #[.int .i64 o.1, .slice qa ql qc] 103) = W := ⟨_, rfl⟩
 have hba : Below w.heap.size w (w.alloc (.cells #[.int .i64 x.1.1, .int .i64 x.1.2.1, .int .i64 x.1.2.2.1, .slice ja jn jc, .slice la ln lc, .int .i64 x.1.2.2.2.2.2, .slice sa sn sc, .slice na nn nc, .slice oa on oc, .slice ba bn bc] 41)) := (Below.refl _ _).alloc (Nat.le_refl _) _
 have hB : Below w.heap.size w W := by rw [← hW]; exact hba.alloc hba.size _
 have hX : BoxIn w.heap.size 41 [] [.int .i64 x.1.1, .int .i64 x.1.2.1, .int .i64 x.1.2.2.1, .slice ja jn jc, .slice la ln lc, .int .i64 x.1.2.2.2.2.2, .slice sa sn sc, .slice na nn nc, .slice oa on oc, .slice ba bn bc] [] W := by rw [← hW]; exact (boxIn_new w _ _).below ((Below.refl _ _).alloc (Nat.le_refl _) _)
 have hR : BoxIn (w.heap.size + 1) 103 [] [.int .i64 o.1, .slice qa ql qc] [] W := by
  rw [← hW]
  have := boxIn_new (w.alloc (.cells #[.int .i64 x.1.1, .int .i64 x.1.2.1, .int .i64 x.1.2.2.1, .slice ja jn jc, .slice la ln lc, .int .i64 x.1.2.2.2.2.2, .slice sa sn sc, .slice na nn nc, .slice oa on oc, .slice ba bn bc] 41)) [.int .i64 o.1, .slice qa ql qc] 103
  rwa [show (w.alloc (.cells #[.int .i64 x.1.1, .int .i64 x.1.2.1, .int .i64 x.1.2.2.1, .slice ja jn jc, .slice la ln lc, .int .i64 x.1.2.2.2.2.2, .slice sa sn sc, .slice na nn nc, .slice oa on oc, .slice ba bn bc] 41)).heap.size = w.heap.size + 1 by simp] at this
 have hS := h.sh.below hB
 have hnw := h.co.n
 have hm := h.sh.2.1
 unfold maxLen at hm
 have HSL := Hid.mk' h.sh.1
 have HSO := Hid.mk' (spec_shardsOf qa ql qc o.2 x.1.1 W (ho.below hB) (by omega) hnw)
 have HW := Hid.mk' hW
 obtain ⟨a0, a1, a2, a3, a4, a5, a6, a7, a8, a9⟩ := cells10 hX
 obtain ⟨b0, b1⟩ := cells2 hR
 rw [← hW] at a0 b1
 clear hW h a1 a2 a3 a4 a5 a6 a7 a8 a9 b0 ho hba
 go_enter Tryz.func73, Tryz.ntmps73
 go_wp2_with fail
 rw [HW.out]
 refine HSO.out.mono ?_
 rintro e W1 ⟨g, n, cap, rfl, hZ, hb1⟩
 clear a0 b1 HSO HW
 have HMEM : Hid (∀ z ∈ shardsOf x.1.1 o.2, ∃ K : Nat, z = (K : Int)) := fun z hz => shards_nat hz
 have HHO : Hid (heldO x o = (shardsOf x.1.1 o.2).all (heldA x o.1)) := rfl
 generalize shardsOf x.1.1 o.2 = zs at *
 have HZL := Hid.mk' hZ.1
 have hnm : n ≤ 9223372036854775807 := by have := hZ.sl.2.1; unfold maxLen at this; omega
 go_wp2_with fail
 go_loopw [6] (fun i wr => ∃ k : Nat, k ≤ n ∧ i = .int .i64 (k : Int) ∧ Below W1.heap.size W1 wr ∧ ∀ j (hj : j < k) (hl : j < zs.length), heldA x o.1 zs[j] = true) (fun i _ => n - (intOf i).toNat)
 case atStart => exact ⟨0, Nat.zero_le _, rfl, Below.refl _ _, fun j hj => absurd hj (Nat.not_lt_zero _)⟩
 case round =>
  obtain ⟨k, hk, rfl, hb, hyes⟩ := hrel
  have HYES := Hid.mk' hyes
  have hbw := hb1.trans (hb.mono hb1.size)
  have hBw := hB.trans (hbw.mono hB.size)
  clear hyes
  by_cases hlt : k < n
  · have hki : (k : Int) < (n : Int) := by omega
    have hkl : k < zs.length := by have := HZL.out; omega
    have z0 := (hZ.below hb).at k hkl
    obtain ⟨K, hK⟩ := HMEM.out _ (List.getElem_mem hkl)
    have HP : Hid (∀ v, heldA x o.1 (K : Int) = v → (v = false → heldO x o = false) ∧ (v = true → ∀ j (hj : j < k + 1) (hl : j < zs.length), heldA x o.1 zs[j] = true)) := fun v hv => ⟨fun e => HHO.out.trans (all_miss hkl (by rw [hK]; exact hv.trans e)), fun e j hj hl => by
     by_cases hjk : j = k
     · subst hjk; rw [hK]; exact hv.trans e
     · exact HYES.out j (by omega) hl⟩
    have HK := Hid.mk' hK
    rw [hK] at z0
    clear hK
    obtain ⟨a0, a1, a2, a3, a4, a5, a6, a7, a8, a9⟩ := cells10 (hX.below hbw)
    have o0 := last.On.cell (B := wr.heap.size) z0 (World.block_lt_of_cell? _ _ z0)
    have p6 := last.On.cell (B := wr.heap.size) a6 (World.block_lt_of_cell? _ _ a6)
    have hinh := last.On.inh wr.heap.size wr
    clear z0 a0 a1 a2 a3 a4 a5 a6 a7 a8 a9
    go_wp2_with fail
    refine last.wp_region_on wr.heap.size (by kernel_rfl) (by kernel_rfl) ?_
    repeat (go_big_quiet_step (fail))
    refine wpQuiet_nil ?_
    intro wq hwq
    obtain ⟨xq, hwq⟩ := hwq
    subst hwq
    have hbq : Below wr.heap.size wr xq.w := xq.2
    generalize xq.w = W3 at *
    clear o0 p6 hinh
    have hb3 := hb.trans (hbq.mono hb.size)
    have hbw3 := hbw.trans (hbq.mono hbw.size)
    have hBw3 := hBw.trans (hbq.mono hBw.size)
    by_cases hKs : K < sn
    · have hKi : (K : Int) < (sn : Int) := by omega
      have hKl : K < x.2.1.length := by have := HSL.out; omega
      obtain ⟨b, off, hsa⟩ := cos.slg_some hS (by omega)
      subst hsa
      obtain ⟨rla, rln, rlc, rma, rmn, rmc, rha, rhn, rhc, s0, s1, s2, s3, s4, hsee⟩ := shard_at (hS.below hbw3) K hKl
      have HKE := Hid.mk' (heldA_in (tx := o.1) hKl)
      generalize x.2.1[K] = s at *
      have z0 := (hZ.below hb3).at k hkl
      rw [HK.out] at z0
      obtain ⟨a0, a1, a2, a3, a4, a5, a6, a7, a8, a9⟩ := cells10 (hX.below hbw3)
      clear a0 a1 a2 a3 a4 a5 a7 a8 a9
      have hbU : Below W3.heap.size W3 (W3.alloc (.cells #[.int .i64 0, .slice none 0 0, .int .i64 0, .slice none 0 0, .slice none 0 0] 55)) := (Below.refl _ _).alloc (Nat.le_refl _) _
      have z0' := (hbU.cell (World.block_lt_of_cell? _ _ z0)).trans z0
      have a6' := (hbU.cell (World.block_lt_of_cell? _ _ a6)).trans a6
      have s0' := (hbU.cell (World.block_lt_of_cell? _ _ s0)).trans s0
      have s1' := (hbU.cell (World.block_lt_of_cell? _ _ s1)).trans s1
      have s2' := (hbU.cell (World.block_lt_of_cell? _ _ s2)).trans s2
      have s3' := (hbU.cell (World.block_lt_of_cell? _ _ s3)).trans s3
      have s4' := (hbU.cell (World.block_lt_of_cell? _ _ s4)).trans s4
      obtain ⟨W4, hW4⟩ : ∃ W4, (W3.alloc (.cells #[.int .i64 s.1, .slice rla rln rlc, .int .i64 s.2.2.1, .slice rma rmn rmc, .slice rha rhn rhc] 55)).drew = W4 := ⟨_, rfl⟩
      have hb4 : Below W3.heap.size W3 W4 := by rw [← hW4]; exact ((Below.refl _ _).alloc (Nat.le_refl _) _).drew
      have hC : BoxIn W3.heap.size 55 [] [.int .i64 s.1, .slice rla rln rlc, .int .i64 s.2.2.1, .slice rma rmn rmc, .slice rha rhn rhc] [] W4 := by
       rw [← hW4]
       exact (boxIn_new W3 _ _).below (Below.refl _ _).drew
      have HW4 := Hid.mk' hW4
      have hlog := hsee.log.below hb4
      clear hW4 hsee
      have hbw4 := hbw3.trans (hb4.mono hbw3.size)
      have hBw4 := hBw3.trans (hb4.mono hBw3.size)
      have hr4 := hb3.trans (hb4.mono hb3.size)
      have HC1 := Hid.mk' (spec_l13Says rla rln rlc s.2.1 s.2.2.1 1 o.1 W4 hlog)
      have HC2 := Hid.mk' (fun wx (hx : Below W4.heap.size W4 wx) => spec_l13Says rla rln rlc s.2.1 s.2.2.1 2 o.1 wx (hlog.below hx))
      have HKS := Hid.mk' (keepS_says s o.1)
      go_wp2_with fail
      go_region
      rw [HW4.out]
      clear HW4 z0 z0' a6 a6' s0 s1 s2 s3 s4 s0' s1' s2' s3' s4' hbU
      obtain ⟨y0, y1, y2, y3, y4⟩ := cells5 hC
      obtain ⟨b0, b1⟩ := cells2 (hR.below hbw4)
      clear y0 y3 y4 b1
      generalize saysS s.2.1 s.2.2.1 1 o.1 = v1 at *
      generalize saysS s.2.1 s.2.2.1 2 o.1 = v2 at *
      cases v1
      · go_wp2_with fail
        refine HC1.out.mono ?_
        rintro e W5 ⟨rfl, hb5⟩
        clear y1 y2 b0 HC1
        have hbw5 := hbw4.trans (hb5.mono hbw4.size)
        have hBw5 := hBw4.trans (hb5.mono hBw4.size)
        have hr5 := hr4.trans (hb5.mono hr4.size)
        obtain ⟨y0, y1, y2, y3, y4⟩ := cells5 (hC.below hb5)
        obtain ⟨b0, b1⟩ := cells2 (hR.below hbw5)
        clear y0 y3 y4 b1
        cases v2
        · have HF := Hid.mk' ((HP.out false (HKE.out.trans HKS.out)).1 rfl)
          clear HP HKE HKS
          go_wp2_with fail
          refine (HC2.out _ hb5).mono ?_
          rintro e W6 ⟨rfl, hb6⟩
          clear y1 y2 b0 HC2
          go_wp2_with fail
          go_ret
          exact ⟨by rw [HF.out]; rfl, hBw5.trans (hb6.mono hBw5.size)⟩
        · have HF := Hid.mk' ((HP.out true (HKE.out.trans HKS.out)).2 rfl)
          clear HP HKE HKS
          go_wp2_with fail
          refine (HC2.out _ hb5).mono ?_
          rintro e W6 ⟨rfl, hb6⟩
          clear y1 y2 b0 HC2
          go_wp2_with fail
          go_roundw
          case rel => exact ⟨k + 1, by omega, by go_num, hr5.trans (hb6.mono hr5.size), HF.out⟩
          case measure => simp [intOf]; omega
      · have HF := Hid.mk' ((HP.out true (HKE.out.trans (HKS.out.trans (Bool.true_or _)))).2 rfl)
        clear HP HKE HKS
        go_wp2_with fail
        refine HC1.out.mono ?_
        rintro e W5 ⟨rfl, hb5⟩
        clear y1 y2 b0 HC1 HC2
        go_wp2_with fail
        go_roundw
        case rel => exact ⟨k + 1, by omega, by go_num, hr4.trans (hb5.mono hr4.size), HF.out⟩
        case measure => simp [intOf]; omega
    · have hKi : ¬ (K : Int) < (sn : Int) := by omega
      have HF := Hid.mk' ((HP.out false (heldA_out (by have := HSL.out; omega))).1 rfl)
      clear HP
      go_wp2_with fail
      go_ret
      exact ⟨by rw [HF.out]; rfl, hBw3⟩
  · have hki : ¬ (k : Int) < (n : Int) := by omega
    have HF : Hid (heldO x o = true) := HHO.out.trans (all_every fun j hj => HYES.out j (by have := HZL.out; omega) hj)
    go_wp2_with fail
    go_ret
    exact ⟨by rw [HF.out]; rfl, hBw⟩
end wos
namespace wos
open Go Go.RowKit base pairs ords lay
set_option maxRecDepth 100000 in
set_option maxHeartbeats 8000000 in
theorem spec_promised (ja : Option Addr) (jn jc : Nat) (la : Option Addr) (ln lc : Nat) (sa : Option Addr) (sn sc : Nat) (na : Option Addr) (nn nc : Nat) (oa : Option Addr) (on oc : Nat) (ba : Option Addr) (bn bc : Nat) (x : Wo) (w : World) (h : SeeWo w ja jn jc la ln lc sa sn sc na nn nc oa on oc ba bn bc x) (hsm : SmallB x) :
 Calls Tryz.prog 36 #[.agg #[.int .i64 x.1.1, .int .i64 x.1.2.1, .int .i64 x.1.2.2.1, .slice ja jn jc, .slice la ln lc, .int .i64 x.1.2.2.2.2.2, .slice sa sn sc, .slice na nn nc, .slice oa on oc, .slice ba bn bc]] w fun e w' => e = .returned (.bool (promR x)) ∧ Below w.heap.size w w' := by
 obtain ⟨W, hW⟩ : ∃ W, w.alloc (.cells #[.int .i64 x.1.1, .int .i64 x.1.2.1, .int .i64 x.1.2.2.1, .slice ja jn jc, .slice la ln lc, .int .i64 x.1.2.2.2.2.2, .slice sa sn sc, .slice na nn nc, .slice oa on oc, .slice ba bn bc] 41) = W := ⟨_, rfl⟩
 have hB : Below w.heap.size w W := by rw [← hW]; exact below_make
 have hX : BoxIn w.heap.size 41 [] [.int .i64 x.1.1, .int .i64 x.1.2.1, .int .i64 x.1.2.2.1, .slice ja jn jc, .slice la ln lc, .int .i64 x.1.2.2.2.2.2, .slice sa sn sc, .slice na nn nc, .slice oa on oc, .slice ba bn bc] [] W := by rw [← hW]; exact boxIn_new w _ _
 have hL := h.co.log.below hB
 have hBg := h.begun.below hB
 have HBE := Hid.mk' (fun tx wx (hb : Below W.heap.size W wx) => spec_l12Begun ja jn jc la ln lc sa sn sc na nn nc oa on oc ba bn bc x tx wx ((h.below hB).below hb))
 have HHE := Hid.mk' (fun qa ql qc o wx (hb : Below W.heap.size W wx) (ho : SlO wx qa ql o.2) (hq : ql ≤ 1048576) => spec_l13Held ja jn jc la ln lc sa sn sc na nn nc oa on oc ba bn bc x qa ql qc o wx ((h.below hB).below hb) ho hq)
 have hm := h.co.log.2.1
 unfold maxLen at hm
 have HLL := Hid.mk' h.co.log.1
 have HBN := Hid.mk' h.begun.1
 have HW := Hid.mk' hW
 clear hW h
 go_enter Tryz.func36, Tryz.ntmps36
 go_wp2_with fail
 rw [HW.out]
 go_loopw [3] (fun i wr => ∃ k : Nat, k ≤ ln ∧ i = .int .i64 (k : Int) ∧ Below W.heap.size W wr ∧ ∀ j (hj : j < k) (hl : j < x.1.2.2.2.2.1.length), promA x x.1.2.2.2.2.1[j] = true) (fun i _ => ln - (intOf i).toNat)
 case atStart => exact ⟨0, Nat.zero_le _, rfl, Below.refl _ _, fun j hj => absurd hj (Nat.not_lt_zero _)⟩
 case round =>
  obtain ⟨k, hk, rfl, hb, hyes⟩ := hrel
  have HYES := Hid.mk' hyes
  have hBw := hB.trans (hb.mono hB.size)
  obtain ⟨a0, a1, a2, a3, a4, a5, a6, a7, a8, a9⟩ := cells10 (hX.below hb)
  clear hyes
  by_cases hlt : k < ln
  · have hki : (k : Int) < (ln : Int) := by omega
    have hkl : k < x.1.2.2.2.2.1.length := by have := HLL.out; omega
    obtain ⟨b, off, hla⟩ := cos.slg_some hL (by omega)
    subst hla
    obtain ⟨c0, c1⟩ := cos.ch_at (hL.below hb) k hkl
    have HV : Hid (promA x x.1.2.2.2.2.1[k] = (!x.1.2.2.2.2.1[k].2 || (match firstO x.2.2.2.2 x.1.2.2.2.2.1[k].1 with | none => false | some o => heldO x o))) := rfl
    have HP : Hid (∀ v, promA x x.1.2.2.2.2.1[k] = v → (v = false → promR x = false) ∧ (v = true → ∀ j (hj : j < k + 1) (hl : j < x.1.2.2.2.2.1.length), promA x x.1.2.2.2.2.1[j] = true)) := fun v hv => ⟨fun e => all_miss hkl (hv.trans e), fun e j hj hl => by
     by_cases hjk : j = k
     · subst hjk; exact hv.trans e
     · exact HYES.out j (by omega) hl⟩
    generalize x.1.2.2.2.2.1[k] = ch at *
    obtain ⟨t, y⟩ := ch
    simp only [] at c0 c1 HV
    cases y
    · have HF := Hid.mk' ((HP.out true (by rw [HV.out]; rfl)).2 rfl)
      clear HP HV
      go_wp2_with fail
      go_roundw
      case rel => exact ⟨k + 1, by omega, by go_num, hb, HF.out⟩
      case measure => simp [intOf]; omega
    · have hcall0 : ∀ xx : last.On wr.heap.size wr, Calls Tryz.prog 48 #[.agg #[.int .i64 x.1.1, .int .i64 x.1.2.1, .int .i64 x.1.2.2.1, .slice ja jn jc, .slice (some ⟨b, off, none⟩) ln lc, .int .i64 x.1.2.2.2.2.2, .slice sa sn sc, .slice na nn nc, .slice oa on oc, .slice ba bn bc], .int .i64 t] xx.w fun e w' => e = .returned (.int .i64 (begZ x.2.2.2.2 t)) ∧ ∃ yv : last.On wr.heap.size wr, w' = yv.w := fun xx => last.Calls.on xx (Nat.le_refl _) (HBE.out _ xx.w (hb.trans (xx.2.mono hb.size)))
      have HBC := Hid.mk' (beg_cases x.2.2.2.2 t)
      generalize begZ x.2.2.2.2 t = bz at *
      have o0 := last.On.cell (B := wr.heap.size) c0 (World.block_lt_of_cell? _ _ c0)
      have p0 := last.On.cell (B := wr.heap.size) a0 (World.block_lt_of_cell? _ _ a0)
      have p1 := last.On.cell (B := wr.heap.size) a1 (World.block_lt_of_cell? _ _ a1)
      have p2 := last.On.cell (B := wr.heap.size) a2 (World.block_lt_of_cell? _ _ a2)
      have p3 := last.On.cell (B := wr.heap.size) a3 (World.block_lt_of_cell? _ _ a3)
      have p4 := last.On.cell (B := wr.heap.size) a4 (World.block_lt_of_cell? _ _ a4)
      have p5 := last.On.cell (B := wr.heap.size) a5 (World.block_lt_of_cell? _ _ a5)
      have p6 := last.On.cell (B := wr.heap.size) a6 (World.block_lt_of_cell? _ _ a6)
      have p7 := last.On.cell (B := wr.heap.size) a7 (World.block_lt_of_cell? _ _ a7)
      have p8 := last.On.cell (B := wr.heap.size) a8 (World.block_lt_of_cell? _ _ a8)
      have p9 := last.On.cell (B := wr.heap.size) a9 (World.block_lt_of_cell? _ _ a9)
      have hinh := last.On.inh wr.heap.size wr
      clear c0 a0 a1 a2 a3 a5 a6 a7 a8 a9
      go_wp2_with fail
      clear c1 a4
      refine last.wp_region_on wr.heap.size (by kernel_rfl) (by kernel_rfl) ?_
      repeat (go_big_quiet_step ((go_at_call 48; exact hcall0 _)))
      refine wpQuiet_nil ?_
      intro wq hwq
      obtain ⟨xq, hwq⟩ := hwq
      subst hwq
      have hbq : Below wr.heap.size wr xq.w := xq.2
      generalize xq.w = W3 at *
      clear o0 p0 p1 p2 p3 p4 p5 p6 p7 p8 p9 hinh hcall0
      have hb3 := hb.trans (hbq.mono hb.size)
      have hBw3 := hB.trans (hb3.mono hB.size)
      rcases HBC.out with ⟨rfl, hnone⟩ | ⟨K, hK, rfl, hsome⟩
      · have HF := Hid.mk' ((HP.out false (by rw [HV.out, hnone]; rfl)).1 rfl)
        have hinh := last.On.inh W3.heap.size W3
        clear HP HV HBC hnone
        go_wp2_with fail
        refine last.wp_region_on W3.heap.size (by kernel_rfl) (by kernel_rfl) ?_
        repeat (go_big_quiet_step (fail))
        refine wpQuiet_nil ?_
        intro wq hwq
        obtain ⟨xq, hwq⟩ := hwq
        subst hwq
        have hbq4 : Below W3.heap.size W3 xq.w := xq.2
        go_wp2_with fail
        go_ret
        exact ⟨by rw [HF.out]; rfl, hBw3.trans (hbq4.mono hBw3.size)⟩
      · have hKn : K < bn := by have := HBN.out; omega
        have hKi : (K : Int) < (bn : Int) := by omega
        have hK0 : ¬ (K : Int) < 0 := by omega
        have hK1 : decide ((K : Int) < 0) = false := decide_eq_false hK0
        obtain ⟨bb, boff, hba⟩ := cos.slg_some hBg (by omega)
        subst hba
        obtain ⟨q0, qa, ql, qc, q1, hSq, hqc⟩ := ord_at (hBg.below hb3) K hK
        have hfit := hsm.ops _ (List.getElem_mem hK)
        have HWV : Hid (promA x (t, true) = heldO x x.2.2.2.2[K]) := by show _ = _; rw [HV.out, hsome]; rfl
        have hqm : ql ≤ 1048576 := by have := hSq.1; omega
        generalize x.2.2.2.2[K] = o at *
        have hcall1 : ∀ xx : last.On W3.heap.size W3, Calls Tryz.prog 73 #[.agg #[.int .i64 x.1.1, .int .i64 x.1.2.1, .int .i64 x.1.2.2.1, .slice ja jn jc, .slice (some ⟨b, off, none⟩) ln lc, .int .i64 x.1.2.2.2.2.2, .slice sa sn sc, .slice na nn nc, .slice oa on oc, .slice (some ⟨bb, boff, none⟩) bn bc], .agg #[.int .i64 o.1, .slice qa ql qc]] xx.w fun e w' => e = .returned (.bool (heldO x o)) ∧ ∃ yv : last.On W3.heap.size W3, w' = yv.w := fun xx => last.Calls.on xx (Nat.le_refl _) (HHE.out qa ql qc o xx.w (hb3.trans (xx.2.mono hb3.size)) (hSq.below xx.2) hqm)
        obtain ⟨a0, a1, a2, a3, a4, a5, a6, a7, a8, a9⟩ := cells10 (hX.below hb3)
        have o0 := last.On.cell (B := W3.heap.size) q0 (World.block_lt_of_cell? _ _ q0)
        have o1 := last.On.cell (B := W3.heap.size) q1 (World.block_lt_of_cell? _ _ q1)
        have p0 := last.On.cell (B := W3.heap.size) a0 (World.block_lt_of_cell? _ _ a0)
        have p1 := last.On.cell (B := W3.heap.size) a1 (World.block_lt_of_cell? _ _ a1)
        have p2 := last.On.cell (B := W3.heap.size) a2 (World.block_lt_of_cell? _ _ a2)
        have p3 := last.On.cell (B := W3.heap.size) a3 (World.block_lt_of_cell? _ _ a3)
        have p4 := last.On.cell (B := W3.heap.size) a4 (World.block_lt_of_cell? _ _ a4)
        have p5 := last.On.cell (B := W3.heap.size) a5 (World.block_lt_of_cell? _ _ a5)
        have p6 := last.On.cell (B := W3.heap.size) a6 (World.block_lt_of_cell? _ _ a6)
        have p7 := last.On.cell (B := W3.heap.size) a7 (World.block_lt_of_cell? _ _ a7)
        have p8 := last.On.cell (B := W3.heap.size) a8 (World.block_lt_of_cell? _ _ a8)
        have p9 := last.On.cell (B := W3.heap.size) a9 (World.block_lt_of_cell? _ _ a9)
        have hinh := last.On.inh W3.heap.size W3
        generalize heldO x o = bv at *
        clear a0 a1 a2 a3 a4 a5 a6 a7 a8 a9 q0 q1 hSq hfit HV HBC hsome hK0
        cases bv
        · have HF := Hid.mk' ((HP.out false HWV.out).1 rfl)
          clear HP HWV
          go_wp2_with fail
          refine last.wp_region_on W3.heap.size (by kernel_rfl) (by kernel_rfl) ?_
          repeat (go_big_quiet_step ((go_at_call 73; exact hcall1 _)))
          refine wpQuiet_nil ?_
          intro wq hwq
          obtain ⟨xq, hwq⟩ := hwq
          subst hwq
          have hbq4 : Below W3.heap.size W3 xq.w := xq.2
          go_wp2_with fail
          go_ret
          exact ⟨by rw [HF.out]; rfl, hBw3.trans (hbq4.mono hBw3.size)⟩
        · have HF := Hid.mk' ((HP.out true HWV.out).2 rfl)
          clear HP HWV
          go_wp2_with fail
          refine last.wp_region_on W3.heap.size (by kernel_rfl) (by kernel_rfl) ?_
          repeat (go_big_quiet_step ((go_at_call 73; exact hcall1 _)))
          refine wpQuiet_nil ?_
          intro wq hwq
          obtain ⟨xq, hwq⟩ := hwq
          subst hwq
          have hbq4 : Below W3.heap.size W3 xq.w := xq.2
          go_wp2_with fail
          go_roundw
          case rel => exact ⟨k + 1, by omega, by go_num, hb3.trans (hbq4.mono hb3.size), HF.out⟩
          case measure => simp [intOf]; omega
  · have hki : ¬ (k : Int) < (ln : Int) := by omega
    have HF : Hid (promR x = true) := all_every (p := promA x) fun j hj => HYES.out j (by have := HLL.out; omega) hj
    clear a0 a1 a2 a3 a5
    go_wp2_with fail
    go_ret
    exact ⟨by rw [HF.out]; rfl, hBw⟩
end wos
end Go.Proofs.YtijplooogplccaaGreat
