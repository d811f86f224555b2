/- The program's shard does what it holds, and lets it go. -/
import Derived.Test.YteniflajiklffaaGreatDoorShay
namespace Go.Proofs.YteniflajiklffaaGreatDoor.recs
open Go Go.RowKit Go.Proofs.YteniflajiklffaaGreatDoor.base Go.Proofs.YteniflajiklffaaGreatDoor.pairs Go.Proofs.YteniflajiklffaaGreatDoor.ords Go.Proofs.YteniflajiklffaaGreatDoor.helps Go.Proofs.YteniflajiklffaaGreatDoor.help Go.Proofs.YteniflajiklffaaGreatDoor.lay Go.Proofs.YteniflajiklffaaGreatDoor.sent
set_option linter.unusedVariables false
set_option linter.unusedSimpArgs false
theorem four {s : Shd} (h : Right s) (tx : Int) : lastKind tx s.2.1 = 0 ∨ lastKind tx s.2.1 = 1 ∨ lastKind tx s.2.1 = 2 ∨ lastKind tx s.2.1 = 3 := by
  obtain ⟨seen, hm⟩ := h.made
  exact (stood_replay hm).kinds tx
set_option maxRecDepth 100000 in
set_option maxHeartbeats 4000000 in
theorem finish_no (G : List Nat) (A : Nat → Addr) (la : Option Addr) (ln lc : Nat) (ma : Option Addr) (mn mc : Nat) (ha : Option Addr) (hn hc : Nat) (s : Shd) (tx : Int) (w : World) (h : SeeSh w la ln lc ma mn mc ha hn hc s) (hR : Right s) (htx : 1 ≤ tx ∧ tx ≤ 1000000) (hK : KS G A w) (hst : lastKind tx s.2.1 ≠ 1) :
    Calls Tryz.prog 46 #[aggSh s.1 s.2.2.1 la ln lc ma mn mc ha hn hc, .agg #[.int .i64 2, .int .i64 tx, .slice none 0 0]] w (fun e w' => e = .returned (.tuple #[.agg #[.int .i64 0, .slice none 0 0, .int .i64 0, .slice none 0 0, .slice none 0 0], .iface 180 (.pointer (some (A (senOf (lastKind tx s.2.1)))))]) ∧ Below w.heap.size w w') := by
  obtain ⟨W, hW⟩ : ∃ W, ((w.alloc (boxSh s.1 s.2.2.1 la ln lc ma mn mc ha hn hc)).alloc (.cells #[.int .i64 2, .int .i64 tx, .slice none 0 0] 41)).alloc (boxSh 0 0 none 0 0 none 0 0 none 0 0) = W := ⟨_, rfl⟩
  have hb0 : Below w.heap.size w (w.alloc (boxSh s.1 s.2.2.1 la ln lc ma mn mc ha hn hc)) := below_alloc
  have hb1 : Below w.heap.size w ((w.alloc (boxSh s.1 s.2.2.1 la ln lc ma mn mc ha hn hc)).alloc (.cells #[.int .i64 2, .int .i64 tx, .slice none 0 0] 41)) := hb0.alloc hb0.size _
  have hB : Below w.heap.size w W := by rw [← hW]; exact hb1.alloc hb1.size _
  have hX : BoxIn w.heap.size 27 [] (shVals s.1 s.2.2.1 la ln lc ma mn mc ha hn hc) [] W := by rw [← hW]; exact ((boxIn_new w _ _).below below_alloc).below below_alloc
  have hC : BoxR (w.heap.size + 1) 2 tx (.slice none 0 0) W := by
    rw [← hW]
    have := (boxR_new (w.alloc (boxSh s.1 s.2.2.1 la ln lc ma mn mc ha hn hc)) 2 tx (.slice none 0 0)).below (below_alloc (o := boxSh 0 0 none 0 0 none 0 0 none 0 0))
    rwa [show (w.alloc (boxSh s.1 s.2.2.1 la ln lc ma mn mc ha hn hc)).heap.size = w.heap.size + 1 by simp] at this
  have hRB : BoxIn (w.heap.size + 1 + 1) 27 [] (shVals 0 0 none 0 0 none 0 0 none 0 0) [] W := by
    rw [← hW]
    have := boxIn_new ((w.alloc (boxSh s.1 s.2.2.1 la ln lc ma mn mc ha hn hc)).alloc (.cells #[.int .i64 2, .int .i64 tx, .slice none 0 0] 41)) (shVals 0 0 none 0 0 none 0 0 none 0 0) 27
    rwa [show ((w.alloc (boxSh s.1 s.2.2.1 la ln lc ma mn mc ha hn hc)).alloc (.cells #[.int .i64 2, .int .i64 tx, .slice none 0 0] 41)).heap.size = w.heap.size + 1 + 1 by simp] at this
  have hsW : w.heap.size + 1 + 1 < W.heap.size := hRB.lt
  have HXC := Hid.mk' (fun wx (hx : Below W.heap.size W wx) => (show _ ∧ _ ∧ _ ∧ _ ∧ _ from by
    have a0 := (hX.below hx).cell 0 _ rfl
    have a1 := (hX.below hx).cell 1 _ rfl
    have a2 := (hX.below hx).cell 2 _ rfl
    have a3 := (hX.below hx).cell 3 _ rfl
    have a4 := (hX.below hx).cell 4 _ rfl
    simp only [List.length_nil, Nat.zero_add] at a0 a1 a2 a3 a4
    exact ⟨a0, a1, a2, a3, a4⟩))
  have HCC := Hid.mk' (fun wx (hx : Below W.heap.size W wx) => (hC.below hx).cells)
  have hKW := hK.below hB
  have hroom := hR.room
  obtain ⟨l1, l2, l3⟩ := SeeSh.lens h
  have hmn : s.2.2.2.1.length ≤ 60 := by
    obtain ⟨seen, hm⟩ := hR.made
    exact ((pairsOk_iff _).1 (replay_ok hm).1).2
  have HST := Hid.mk' (i_standing G A la ln lc ma mn mc ha hn hc s tx W (h.below hB) hKW)
  have HIS := Hid.mk' (fun (gg : Nat) (hgg : gg ∈ gs) wx (hx : Below W.heap.size W wx) => (is_ (senOf (lastKind tx s.2.1)) gg (hK.sub _ (senOf_mem _)) (hK.sub _ hgg) wx (hKW.below hx)).mono (fun e w' (hp : e = .returned (.bool (decide (senOf (lastKind tx s.2.1) = gg))) ∧ w' = wx) => (⟨hp.1, hp.2.symm⟩ : e = .returned (.bool (decide (senOf (lastKind tx s.2.1) = gg))) ∧ wx = w')))
  have HGC := Hid.mk' (fun (gg : Nat) (hgg : gg ∈ gs) wx (hx : Below W.heap.size W wx) => (hKW.below hx).cell gg (hK.sub _ hgg))
  have HSE := Hid.mk' (fun wx (hx : Below W.heap.size W wx) => (h.below hB).below hx)
  have hbd := right_bd hR
  have hnd : (s.2.2.2.2.map fun r => r.2.1).Nodup := by
    obtain ⟨seen, hm⟩ := hR.made
    exact (stood_replay hm).nd
  have htxw : (Lit.int .i64 tx).wf = true := WalkArith.wf_i64 (by omega)
  have hsn : senOf (lastKind tx s.2.1) ≠ 6 := by
    rcases four hR tx with e | e | e | e
    all_goals (rw [e] at hst ⊢)
    all_goals first | exact absurd rfl hst | decide
  generalize senOf (lastKind tx s.2.1) = gg at *
  have HW := Hid.mk' hW
  obtain ⟨a0, a1, a2, a3, a4⟩ := HXC.out W (Below.refl _ _)
  obtain ⟨c0, c1, c2⟩ := HCC.out W (Below.refl _ _)
  rw [← hW] at a0 a1 a2 a3 a4 c0 c1 c2
  clear hW hb0 hb1 hroom l1 l2 l3 hmn hst hbd hnd htxw HSE
  go_enter Tryz.func46, Tryz.ntmps46
  go_wp2_with fail
  rw [HW.out]
  refine HST.out.mono ?_
  rintro e w1 ⟨rfl, hb2⟩
  clear a0 a1 a2 a3 a4 c0 c1 c2 HST HW
  have hdf : decide (gg = 6) = false := decide_eq_false hsn
  have gN := HGC.out 6 (by decide) w1 hb2
  have HI1 := Hid.mk' (HIS.out 6 (by decide) w1 hb2)
  rw [hdf] at HI1
  clear hdf
  go_wp2_with fail
  refine HI1.out.mono ?_
  rintro e w2 ⟨rfl, hw2⟩
  subst hw2
  clear gN HI1
  have hR1 := hRB.below hb2
  have hB1 := hB.trans ((hb2).mono hB.size)
  have z0 := hR1.cell 0 _ rfl
  have z1 := hR1.cell 1 _ rfl
  have z2 := hR1.cell 2 _ rfl
  have z3 := hR1.cell 3 _ rfl
  have z4 := hR1.cell 4 _ rfl
  have hS5 := hR1.set5 (.int .i64 0) (.slice none 0 0) (.int .i64 0) (.slice none 0 0) (.slice none 0 0)
  simp only [List.length_nil, Nat.zero_add] at z0 z1 z2 z3 z4 hS5
  have f0 := hR1.fz 0
  have f1 := hR1.fz 1
  have f2 := hR1.fz 2
  have f3 := hR1.fz 3
  have f4 := hR1.fz 4
  have hBz := hB1.grown hS5.2 hB1.size (fun j e => by cases e; omega)
  have hzc0 := hS5.1.cell 0 _ rfl
  have hzc1 := hS5.1.cell 1 _ rfl
  have hzc2 := hS5.1.cell 2 _ rfl
  have hzc3 := hS5.1.cell 3 _ rfl
  have hzc4 := hS5.1.cell 4 _ rfl
  simp only [List.length_nil, Nat.zero_add] at hzc0 hzc1 hzc2 hzc3 hzc4
  have HB := Hid.mk' hBz
  clear hBz hS5 hR1 HIS HGC HXC HCC
  go_wp2_with fail
  refine bodyPost_ret (v := .tuple #[.agg #[.int .i64 0, .slice none 0 0, .int .i64 0, .slice none 0 0, .slice none 0 0], .iface 180 (.pointer (some (A gg)))]) ?_ rfl ⟨rfl, HB.out⟩
  simp [results, Tryz.results46, go_sem, hzc0, hzc1, hzc2, hzc3, hzc4]
set_option maxRecDepth 100000 in
set_option maxHeartbeats 4000000 in
theorem finish_yes (G : List Nat) (A : Nat → Addr) (la : Option Addr) (ln lc : Nat) (ma : Option Addr) (mn mc : Nat) (ha : Option Addr) (hn hc : Nat) (s : Shd) (tx : Int) (w : World) (h : SeeSh w la ln lc ma mn mc ha hn hc s) (hR : Right s) (htx : 1 ≤ tx ∧ tx ≤ 1000000) (hK : KS G A w) (hst : lastKind tx s.2.1 = 1) (hma : (ma = none ∧ mc = 0) ∨ ∃ mb mo, ma = some ⟨mb, mo, none⟩) :
    Calls Tryz.prog 46 #[aggSh s.1 s.2.2.1 la ln lc ma mn mc ha hn hc, .agg #[.int .i64 2, .int .i64 tx, .slice none 0 0]] w (DoPost A (written s (2, tx, [])) none w) := by
  obtain ⟨W, hW⟩ : ∃ W, ((w.alloc (boxSh s.1 s.2.2.1 la ln lc ma mn mc ha hn hc)).alloc (.cells #[.int .i64 2, .int .i64 tx, .slice none 0 0] 41)).alloc (boxSh 0 0 none 0 0 none 0 0 none 0 0) = W := ⟨_, rfl⟩
  have hb0 : Below w.heap.size w (w.alloc (boxSh s.1 s.2.2.1 la ln lc ma mn mc ha hn hc)) := below_alloc
  have hb1 : Below w.heap.size w ((w.alloc (boxSh s.1 s.2.2.1 la ln lc ma mn mc ha hn hc)).alloc (.cells #[.int .i64 2, .int .i64 tx, .slice none 0 0] 41)) := hb0.alloc hb0.size _
  have hB : Below w.heap.size w W := by rw [← hW]; exact hb1.alloc hb1.size _
  have hX : BoxIn w.heap.size 27 [] (shVals s.1 s.2.2.1 la ln lc ma mn mc ha hn hc) [] W := by rw [← hW]; exact ((boxIn_new w _ _).below below_alloc).below below_alloc
  have hC : BoxR (w.heap.size + 1) 2 tx (.slice none 0 0) W := by
    rw [← hW]
    have := (boxR_new (w.alloc (boxSh s.1 s.2.2.1 la ln lc ma mn mc ha hn hc)) 2 tx (.slice none 0 0)).below (below_alloc (o := boxSh 0 0 none 0 0 none 0 0 none 0 0))
    rwa [show (w.alloc (boxSh s.1 s.2.2.1 la ln lc ma mn mc ha hn hc)).heap.size = w.heap.size + 1 by simp] at this
  have hRB : BoxIn (w.heap.size + 1 + 1) 27 [] (shVals 0 0 none 0 0 none 0 0 none 0 0) [] W := by
    rw [← hW]
    have := boxIn_new ((w.alloc (boxSh s.1 s.2.2.1 la ln lc ma mn mc ha hn hc)).alloc (.cells #[.int .i64 2, .int .i64 tx, .slice none 0 0] 41)) (shVals 0 0 none 0 0 none 0 0 none 0 0) 27
    rwa [show ((w.alloc (boxSh s.1 s.2.2.1 la ln lc ma mn mc ha hn hc)).alloc (.cells #[.int .i64 2, .int .i64 tx, .slice none 0 0] 41)).heap.size = w.heap.size + 1 + 1 by simp] at this
  have hsW : w.heap.size + 1 + 1 < W.heap.size := hRB.lt
  have HXC := Hid.mk' (fun wx (hx : Below W.heap.size W wx) => (show _ ∧ _ ∧ _ ∧ _ ∧ _ from by
    have a0 := (hX.below hx).cell 0 _ rfl
    have a1 := (hX.below hx).cell 1 _ rfl
    have a2 := (hX.below hx).cell 2 _ rfl
    have a3 := (hX.below hx).cell 3 _ rfl
    have a4 := (hX.below hx).cell 4 _ rfl
    simp only [List.length_nil, Nat.zero_add] at a0 a1 a2 a3 a4
    exact ⟨a0, a1, a2, a3, a4⟩))
  have HCC := Hid.mk' (fun wx (hx : Below W.heap.size W wx) => (hC.below hx).cells)
  have hKW := hK.below hB
  have hroom := hR.room
  obtain ⟨l1, l2, l3⟩ := SeeSh.lens h
  have hmn : s.2.2.2.1.length ≤ 60 := by
    obtain ⟨seen, hm⟩ := hR.made
    exact ((pairsOk_iff _).1 (replay_ok hm).1).2
  have HST := Hid.mk' (i_standing G A la ln lc ma mn mc ha hn hc s tx W (h.below hB) hKW)
  have HIS := Hid.mk' (fun (gg : Nat) (hgg : gg ∈ gs) wx (hx : Below W.heap.size W wx) => (is_ (senOf (lastKind tx s.2.1)) gg (hK.sub _ (senOf_mem _)) (hK.sub _ hgg) wx (hKW.below hx)).mono (fun e w' (hp : e = .returned (.bool (decide (senOf (lastKind tx s.2.1) = gg))) ∧ w' = wx) => (⟨hp.1, hp.2.symm⟩ : e = .returned (.bool (decide (senOf (lastKind tx s.2.1) = gg))) ∧ wx = w')))
  have HGC := Hid.mk' (fun (gg : Nat) (hgg : gg ∈ gs) wx (hx : Below W.heap.size W wx) => (hKW.below hx).cell gg (hK.sub _ hgg))
  have HSE := Hid.mk' (fun wx (hx : Below W.heap.size W wx) => (h.below hB).below hx)
  have hbd := right_bd hR
  have hnd : (s.2.2.2.2.map fun r => r.2.1).Nodup := by
    obtain ⟨seen, hm⟩ := hR.made
    exact (stood_replay hm).nd
  have htxw : (Lit.int .i64 tx).wf = true := WalkArith.wf_i64 (by omega)
  have hsn : senOf (lastKind tx s.2.1) = 6 := by rw [hst]; rfl
  obtain ⟨k, hpk⟩ := outc_held hR (by rw [outc_stand hR, hst]; rfl : outc s tx = 1)
  obtain ⟨hk, hkt⟩ := placeTx_some hpk
  have hok8 := ok_eight (hR.recOk _ (hR.held_tx _ (List.getElem_mem hk)).1)
  have hne1 : 1 ≤ s.2.2.2.2[k].2.2.length := by
    have h1 := hR.held_tx _ (List.getElem_mem hk)
    rcases ((recOk_iff _).1 (hR.recOk _ h1.1)).2 with ⟨_, h3⟩ | ⟨h3, _⟩
    · exact ((opsOk_iff _).1 h3).2.1
    · have := h1.2; omega
  have HSET := Hid.mk' (fun wx (hx : Below W.heap.size W wx) => i_settled la ln lc ma mn mc ha hn hc s 2 tx none 0 0 [] wx (HSE.out wx hx) hbd (slo_nil _ _) ⟨rfl, htxw, fun o ho => absurd ho List.not_mem_nil⟩ (Nat.zero_le _) hnd)
  have HHO := Hid.mk' (fun wx (hx : Below W.heap.size W wx) => i_heldOps la ln lc ma mn mc ha hn hc s tx wx (HSE.out wx hx) k hk hpk)
  have hlo : s.2.2.2.2[k].2.2.length ≤ 8 := hok8.1
  have HAP : Hid (∀ wx, Below W.heap.size W wx → ∀ (pa : Option Addr) (pl pc : Nat), SlO wx pa pl s.2.2.2.2[k].2.2 → Calls Tryz.prog 17 #[.slice ma mn mc, .slice pa pl pc] wx fun e w' => ∃ g' n' cap', e = .returned (.slice (some ⟨g', 0, none⟩) n' cap') ∧ OwnP w' wx.heap.size g' n' cap' (applyAll s.2.2.2.1 s.2.2.2.2[k].2.2) ∧ Below wx.heap.size wx w') := fun wx hx pa pl pc hS => by
    have h1 := hS.1
    obtain ⟨b2, off2, e2, _⟩ := hS.2.2.2 (by omega)
    subst e2
    have hm2 := (HSE.out wx hx).map
    have hmc := (HSE.out wx hx).mc
    rcases hma with ⟨e1, e2⟩ | ⟨mb, mo, e1⟩
    · have hn0 : mn = 0 := Nat.eq_zero_of_not_pos fun hp => by
        obtain ⟨_, _, e3, _⟩ := hm2.2.2.2 hp
        rw [e1] at e3
        cases e3
      have hm0 : s.2.2.2.1 = [] := List.length_eq_zero_iff.1 (by have := hm2.1; omega)
      rw [e1, e2, hn0, hm0]
      exact impl_apply_nil b2 off2 pl pc _ wx hS (by omega)
    · rw [e1] at hm2 ⊢
      exact impl_apply mb mo mn mc s.2.2.2.1 b2 off2 pl pc _ wx hm2 hS hmc (by omega)
  have HWR : Hid ((s.1, s.2.1 ++ [((2 : Int), tx, [])], s.2.2.1, applyAll s.2.2.2.1 s.2.2.2.2[k].2.2, heldNo s.2.2.2.2 tx) = written s (2, tx, [])) := by
    show _ = _
    unfold written forced heldNo
    rw [if_neg (by simp)]
    simp only [hpk]
    unfold nextM
    simp only [if_pos]
    rw [opsAt_eq hk]
  rw [hsn] at HST HIS
  generalize s.2.2.2.2[k].2.2 = oo at *
  have HW := Hid.mk' hW
  obtain ⟨a0, a1, a2, a3, a4⟩ := HXC.out W (Below.refl _ _)
  obtain ⟨c0, c1, c2⟩ := HCC.out W (Below.refl _ _)
  rw [← hW] at a0 a1 a2 a3 a4 c0 c1 c2
  clear hW hb0 hb1 hroom l1 l2 l3 hmn hst hsn hbd hnd htxw hpk hk hkt hok8 hne1 hlo hma
  go_enter Tryz.func46, Tryz.ntmps46
  go_wp2_with fail
  rw [HW.out]
  refine HST.out.mono ?_
  rintro e w1 ⟨rfl, hb2⟩
  clear a0 a1 a2 a3 a4 c0 c1 c2 HST HW
  have gN := HGC.out 6 (by decide) w1 hb2
  have HI1 := Hid.mk' (HIS.out 6 (by decide) w1 hb2)
  rw [show decide (6 = 6) = true from rfl] at HI1
  go_wp2_with fail
  refine HI1.out.mono ?_
  rintro e w2 ⟨rfl, hw2⟩
  subst hw2
  clear gN HI1
  obtain ⟨a0, a1, a2, a3, a4⟩ := HXC.out w1 hb2
  obtain ⟨c0, c1, c2⟩ := HCC.out w1 hb2
  have HSW := Hid.mk' (HSET.out w1 hb2)
  go_wp2_with fail
  refine HSW.out.mono ?_
  rintro e w3 ⟨ta, tn, tc, sa, sn, sc, ra, rn, rc, FF, he3, hO3, hF3, hb3⟩
  have he4 : e = .returned (aggSh s.1 s.2.2.1 ta tn tc sa sn sc ra rn rc) := he3
  subst he4
  clear a0 a1 a2 a3 a4 c0 c1 c2 HSW HSET
  have hb4 := hb2.trans (hb3.mono hb2.size)
  obtain ⟨u3, hu3⟩ : ∃ u3, w3.alloc (boxSh s.1 s.2.2.1 ta tn tc sa sn sc ra rn rc) = u3 := ⟨_, rfl⟩
  have hb5 : Below w3.heap.size w3 u3 := by rw [← hu3]; exact below_alloc
  have hT := inBox_new hO3
  rw [hu3] at hT
  have hb6 := hb4.trans (hb5.mono hb4.size)
  have hd : Below u3.heap.size u3 u3.drew := (Below.refl _ _).drew
  have hbd := hb6.trans (hd.mono hb6.size)
  have hTd := hT.below hd
  have hs2 := hb2.size
  have hs4 := hb4.size
  have HU3 := Hid.mk' hu3
  have HHO2 := Hid.mk' (HHO.out _ hbd)
  clear hu3 hT hO3
  go_wp2_with fail
  rw [HU3.out]
  refine last.wp_region_later (S := fun w' => BoxIn w.heap.size 27 [] (shVals s.1 s.2.2.1 la ln lc ma mn mc ha hn hc) [] w' ∧ BoxR (w.heap.size + 1) 2 tx (.slice none 0 0) w' ∧ BoxIn w3.heap.size 27 [] (shVals s.1 s.2.2.1 ta tn tc sa sn sc ra rn rc) [] w') 8 (by kernel_rfl) ⟨hX.below hbd, hC.below hbd, hTd.box⟩ (fun hHeld0 => ?_)
  generalize u3.drew = D5 at *
  refine last.wpAnyL_take (i := 0) (v := (.pointer (some ⟨w.heap.size, 3, none⟩))) rfl rfl (by kernel_rfl) (by kernel_rfl) (by kernel_rfl) (by kernel_rfl) (fun _ _ _ h => h) (Or.inl ⟨by rfl, ?_⟩) (by assumption) ?_
  · intro wq hSq; go_simp
  try simp only [Act.put, List.setIfInBounds_toArray, List.set_cons_zero, List.set_cons_succ]
  refine last.wpAnyL_take (i := 1) (v := (.slice ma mn mc)) rfl rfl (by kernel_rfl) (by kernel_rfl) (by kernel_rfl) (by kernel_rfl) (fun _ _ _ h => h) (Or.inl ⟨by rfl, ?_⟩) (by assumption) ?_
  · intro wq hSq; have q := hSq.1.cell 3 _ rfl; simp only [List.length_nil, Nat.zero_add] at q; go_simp
  try simp only [Act.put, List.setIfInBounds_toArray, List.set_cons_zero, List.set_cons_succ]
  refine last.wpAnyL_take (i := 2) (v := (aggSh s.1 s.2.2.1 la ln lc ma mn mc ha hn hc)) rfl rfl (by kernel_rfl) (by kernel_rfl) (by kernel_rfl) (by kernel_rfl) (fun _ _ _ h => h) (Or.inl ⟨by rfl, ?_⟩) (by assumption) ?_
  · intro wq hSq; obtain ⟨q0, q1, q2, q3, q4⟩ := boxcells hSq.1; go_simp
  try simp only [Act.put, List.setIfInBounds_toArray, List.set_cons_zero, List.set_cons_succ]
  refine last.wpAnyL_take (i := 3) (v := (.pointer (some ⟨w.heap.size + 1, 1, none⟩))) rfl rfl (by kernel_rfl) (by kernel_rfl) (by kernel_rfl) (by kernel_rfl) (fun _ _ _ h => h) (Or.inl ⟨by rfl, ?_⟩) (by assumption) ?_
  · intro wq hSq; go_simp
  try simp only [Act.put, List.setIfInBounds_toArray, List.set_cons_zero, List.set_cons_succ]
  refine last.wpAnyL_take (i := 4) (v := (.int .i64 tx)) rfl rfl (by kernel_rfl) (by kernel_rfl) (by kernel_rfl) (by kernel_rfl) (fun _ _ _ h => h) (Or.inl ⟨by rfl, ?_⟩) (by assumption) ?_
  · intro wq hSq; obtain ⟨q1, q2, q3⟩ := hSq.2.1.cells; go_simp
  try simp only [Act.put, List.setIfInBounds_toArray, List.set_cons_zero, List.set_cons_succ]
  refine last.wpAnyL_one (i := 5) (o := { dst := some 26, op := Op.call { callee := Callee.value (Operand.func 93), args := #[Operand.tmp 23, Operand.tmp 25], argTypes := #[27, 3] }, type := 28, pos := "l09_shard.go:181", after := #[{ on := 2, ground := Ground.data }, { on := 4, ground := Ground.data }], guard := none }) (by kernel_rfl) rfl (fun K hK => ?_)
  refine stepc.step_call2 rfl 93 (.tmp 23) (.tmp 25) _ rfl (fun _ _ => rfl) (aggSh s.1 s.2.2.1 la ln lc ma mn mc ha hn hc) (.int .i64 tx) (by kernel_rfl) (by kernel_rfl) _ HHO2.out ?_
  rintro e u6 ⟨pa, pl, pc, rfl, hSo, hpc, hb7⟩
  refine ⟨_, rfl, ?_⟩
  have hb8 := hbd.trans (hb7.mono hbd.size)
  have hT6 := hTd.below hb7
  refine hK.out _ _ ?_ (fun hHeld => ?_)
  · exact ⟨hX.below hb8, hC.below hb8, hT6.box⟩
  clear hK K hHeld0
  have hHeld0 := hHeld
  clear hHeld
  try simp only [Act.put, List.setIfInBounds_toArray, List.set_cons_zero, List.set_cons_succ]
  refine last.wpAnyL_one (i := 6) (o := { dst := some 27, op := Op.call { callee := Callee.value (Operand.func 17), args := #[Operand.tmp 22, Operand.tmp 26], argTypes := #[25, 28] }, type := 25, pos := "l09_shard.go:181", after := #[{ on := 1, ground := Ground.data }, { on := 5, ground := Ground.data }, { on := 5, ground := Ground.chain }], guard := none }) (by kernel_rfl) rfl (fun K hK => ?_)
  refine stepc.step_call2 rfl 17 (.tmp 22) (.tmp 26) _ rfl (fun _ _ => rfl) (.slice ma mn mc) (.slice pa pl pc) (by kernel_rfl) (by kernel_rfl) _ (HAP.out _ hb8 pa pl pc (hSo.below hb7)) ?_
  rintro e u7 ⟨g', n', cap', rfl, hOP, hb9⟩
  refine ⟨_, rfl, ?_⟩
  have hb10 := hb8.trans (hb9.mono hb8.size)
  have hT7 := hT6.below hb9
  refine hK.out _ _ ?_ (fun hHeld => ?_)
  · exact ⟨hX.below hb10, hC.below hb10, hT7.box⟩
  clear hK K hHeld0
  have hHeld0 := hHeld
  clear hHeld
  try simp only [Act.put, List.setIfInBounds_toArray, List.set_cons_zero, List.set_cons_succ]
  refine last.wpAnyL_take (i := 7) (v := (.pointer (some ⟨w3.heap.size, 3, none⟩))) rfl rfl (by kernel_rfl) (by kernel_rfl) (by kernel_rfl) (by kernel_rfl) (fun _ _ _ h => h) (Or.inl ⟨by rfl, ?_⟩) (by assumption) ?_
  · intro wq hSq; go_simp
  try simp only [Act.put, List.setIfInBounds_toArray, List.set_cons_zero, List.set_cons_succ]
  have e8 := hT7.box.cell 3 _ rfl
  have f8 := hT7.box.fz 3
  simp only [List.length_nil, Nat.zero_add] at e8
  refine last.wpAnyL_last (o := { dst := none, op := Op.store 25 (Operand.tmp 28) (Operand.tmp 27), type := 0, pos := "l09_shard.go:181", after := #[{ on := 7, ground := Ground.data }, { on := 6, ground := Ground.data }, { on := 6, ground := Ground.chain }, { on := 0, ground := Ground.phase }, { on := 1, ground := Ground.phase }, { on := 2, ground := Ground.phase }, { on := 3, ground := Ground.phase }, { on := 4, ground := Ground.phase }, { on := 5, ground := Ground.phase }, { on := 6, ground := Ground.phase }], guard := none }) (by kernel_rfl) rfl (by kernel_rfl) (fun K hK => ?_)
  go_simp
  refine hK.out _ _ ?_
  clear hK K
  have hgl := hOP.lt
  have hT6l := hT6.own.lt
  have hX6l := hT6.box.lt
  have hPM := hT7.putMap (World.grownBy.refl _ _) (ownPV_of hOP) (.inr ⟨fun e => by have := hT6l g' e; omega, by omega⟩)
  simp only [List.length_nil, Nat.zero_add] at hPM
  obtain ⟨F', hY, hfy, hF'⟩ := hPM
  have hsd := hbd.size
  have hs8 := hb8.size
  have hF2 : ∀ k ∈ F', W.heap.size ≤ k := fun k hk => by
    rcases hF' k hk with e | e
    · have := hF3 k e; omega
    · omega
  have hBy : Below W.heap.size W _ := hb10.trans (hfy.bel hb10.size (fun j e => by
    rcases List.mem_cons.1 e with e | e
    · omega
    · have := hF3 j e; omega))
  have hRZ := hRB.below hBy
  have hBw := hB.trans (hBy.mono hB.size)
  clear hHeld0 e8 f8 hT7 hT6 hTd hOP hSo hfy hF' hb7 hb9 hb8 hb10 hbd HHO2 HHO HAP HU3 hT6l hX6l hgl
  generalize u7.setCell ⟨w3.heap.size, 3, none⟩ (.slice (some ⟨g', 0, none⟩) n' cap') = V at *
  obtain ⟨y0, y1, y2, y3, y4⟩ := hY.cells
  have z0 := hRZ.cell 0 _ rfl
  have z1 := hRZ.cell 1 _ rfl
  have z2 := hRZ.cell 2 _ rfl
  have z3 := hRZ.cell 3 _ rfl
  have z4 := hRZ.cell 4 _ rfl
  have hS5 := hRZ.set5 (.int .i64 s.1) (.slice ta tn tc) (.int .i64 s.2.2.1) (.slice (some ⟨g', 0, none⟩) n' cap') (.slice ra rn rc)
  simp only [List.length_nil, Nat.zero_add] at z0 z1 z2 z3 z4 hS5
  have f0 := hRZ.fz 0
  have f1 := hRZ.fz 1
  have f2 := hRZ.fz 2
  have f3 := hRZ.fz 3
  have f4 := hRZ.fz 4
  have hXR : w.heap.size + 1 + 1 ≠ w3.heap.size := by omega
  have hXR2 : w3.heap.size ≠ w.heap.size + 1 + 1 := by omega
  have hBz := hBw.grown hS5.2 hBw.size (fun j e => by cases e; omega)
  have hOz := hY.own.keep (fun j hj => hS5.2.block j (hY.own.lt j hj) (fun e => by have h1 := hF2 j hj; have h2 := Option.some.inj e; omega))
  have hzc0 := hS5.1.cell 0 _ rfl
  have hzc1 := hS5.1.cell 1 _ rfl
  have hzc2 := hS5.1.cell 2 _ rfl
  have hzc3 := hS5.1.cell 3 _ rfl
  have hzc4 := hS5.1.cell 4 _ rfl
  simp only [List.length_nil, Nat.zero_add] at hzc0 hzc1 hzc2 hzc3 hzc4
  have HP : Hid (DoPost A (s.1, s.2.1 ++ [((2 : Int), tx, [])], s.2.2.1, applyAll s.2.2.2.1 oo, heldNo s.2.2.2.2 tx) none w (.returned (.tuple #[aggSh s.1 s.2.2.1 ta tn tc (some ⟨g', 0, none⟩) n' cap' ra rn rc, .nilIface])) _) := ⟨_, _, _, _, _, _, _, _, _, F', rfl, hOz, fun k hk => Nat.le_trans hB.size (hF2 k hk), hBz⟩
  clear hOz hBz hS5 hY hRZ hBw
  go_wp2_with fail
  refine bodyPost_ret (v := .tuple #[aggSh s.1 s.2.2.1 ta tn tc (some ⟨g', 0, none⟩) n' cap' ra rn rc, .nilIface]) ?_ rfl (by rw [← HWR.out]; exact HP.out)
  simp [results, Tryz.results46, go_sem, hzc0, hzc1, hzc2, hzc3, hzc4]
set_option maxRecDepth 100000 in
set_option maxHeartbeats 4000000 in
theorem letgo_full (G : List Nat) (A : Nat → Addr) (la : Option Addr) (ln lc : Nat) (ma : Option Addr) (mn mc : Nat) (ha : Option Addr) (hn hc : Nat) (s : Shd) (tx : Int) (w : World) (h : SeeSh w la ln lc ma mn mc ha hn hc s) (hR : Right s) (htx : 1 ≤ tx ∧ tx ≤ 1000000) (hK : KS G A w) (hst : lastKind tx s.2.1 = 0) (hgr : 4 ∈ G) (hfull : 300 ≤ s.2.1.length + s.2.2.2.2.length) :
    Calls Tryz.prog 48 #[aggSh s.1 s.2.2.1 la ln lc ma mn mc ha hn hc, .agg #[.int .i64 3, .int .i64 tx, .slice none 0 0]] w (fun e w' => e = .returned (.tuple #[.agg #[.int .i64 0, .slice none 0 0, .int .i64 0, .slice none 0 0, .slice none 0 0], .iface 180 (.pointer (some (A 4)))]) ∧ Below w.heap.size w w') := by
  obtain ⟨W, hW⟩ : ∃ W, ((w.alloc (boxSh s.1 s.2.2.1 la ln lc ma mn mc ha hn hc)).alloc (.cells #[.int .i64 3, .int .i64 tx, .slice none 0 0] 41)).alloc (boxSh 0 0 none 0 0 none 0 0 none 0 0) = W := ⟨_, rfl⟩
  have hb0 : Below w.heap.size w (w.alloc (boxSh s.1 s.2.2.1 la ln lc ma mn mc ha hn hc)) := below_alloc
  have hb1 : Below w.heap.size w ((w.alloc (boxSh s.1 s.2.2.1 la ln lc ma mn mc ha hn hc)).alloc (.cells #[.int .i64 3, .int .i64 tx, .slice none 0 0] 41)) := hb0.alloc hb0.size _
  have hB : Below w.heap.size w W := by rw [← hW]; exact hb1.alloc hb1.size _
  have hX : BoxIn w.heap.size 27 [] (shVals s.1 s.2.2.1 la ln lc ma mn mc ha hn hc) [] W := by rw [← hW]; exact ((boxIn_new w _ _).below below_alloc).below below_alloc
  have hC : BoxR (w.heap.size + 1) 3 tx (.slice none 0 0) W := by
    rw [← hW]
    have := (boxR_new (w.alloc (boxSh s.1 s.2.2.1 la ln lc ma mn mc ha hn hc)) 3 tx (.slice none 0 0)).below (below_alloc (o := boxSh 0 0 none 0 0 none 0 0 none 0 0))
    rwa [show (w.alloc (boxSh s.1 s.2.2.1 la ln lc ma mn mc ha hn hc)).heap.size = w.heap.size + 1 by simp] at this
  have hRB : BoxIn (w.heap.size + 1 + 1) 27 [] (shVals 0 0 none 0 0 none 0 0 none 0 0) [] W := by
    rw [← hW]
    have := boxIn_new ((w.alloc (boxSh s.1 s.2.2.1 la ln lc ma mn mc ha hn hc)).alloc (.cells #[.int .i64 3, .int .i64 tx, .slice none 0 0] 41)) (shVals 0 0 none 0 0 none 0 0 none 0 0) 27
    rwa [show ((w.alloc (boxSh s.1 s.2.2.1 la ln lc ma mn mc ha hn hc)).alloc (.cells #[.int .i64 3, .int .i64 tx, .slice none 0 0] 41)).heap.size = w.heap.size + 1 + 1 by simp] at this
  have hsW : w.heap.size + 1 + 1 < W.heap.size := hRB.lt
  have HXC := Hid.mk' (fun wx (hx : Below W.heap.size W wx) => (show _ ∧ _ ∧ _ ∧ _ ∧ _ from by
    have a0 := (hX.below hx).cell 0 _ rfl
    have a1 := (hX.below hx).cell 1 _ rfl
    have a2 := (hX.below hx).cell 2 _ rfl
    have a3 := (hX.below hx).cell 3 _ rfl
    have a4 := (hX.below hx).cell 4 _ rfl
    simp only [List.length_nil, Nat.zero_add] at a0 a1 a2 a3 a4
    exact ⟨a0, a1, a2, a3, a4⟩))
  have HCC := Hid.mk' (fun wx (hx : Below W.heap.size W wx) => (hC.below hx).cells)
  have hKW := hK.below hB
  have hroom := hR.room
  obtain ⟨l1, l2, l3⟩ := SeeSh.lens h
  have hmn : s.2.2.2.1.length ≤ 60 := by
    obtain ⟨seen, hm⟩ := hR.made
    exact ((pairsOk_iff _).1 (replay_ok hm).1).2
  have HST := Hid.mk' (i_standing G A la ln lc ma mn mc ha hn hc s tx W (h.below hB) hKW)
  have HIS := Hid.mk' (fun (gg : Nat) (hgg : gg ∈ gs) wx (hx : Below W.heap.size W wx) => (is_ (senOf (lastKind tx s.2.1)) gg (hK.sub _ (senOf_mem _)) (hK.sub _ hgg) wx (hKW.below hx)).mono (fun e w' (hp : e = .returned (.bool (decide (senOf (lastKind tx s.2.1) = gg))) ∧ w' = wx) => (⟨hp.1, hp.2.symm⟩ : e = .returned (.bool (decide (senOf (lastKind tx s.2.1) = gg))) ∧ wx = w')))
  have HGC := Hid.mk' (fun (gg : Nat) (hgg : gg ∈ gs) wx (hx : Below W.heap.size W wx) => (hKW.below hx).cell gg (hK.sub _ hgg))
  have HSE := Hid.mk' (fun wx (hx : Below W.heap.size W wx) => (h.below hB).below hx)
  have hbd := right_bd hR
  have hnd : (s.2.2.2.2.map fun r => r.2.1).Nodup := by
    obtain ⟨seen, hm⟩ := hR.made
    exact (stood_replay hm).nd
  have htxw : (Lit.int .i64 tx).wf = true := WalkArith.wf_i64 (by omega)
  have HRM := Hid.mk' (fun wx => i_room la ln lc ma mn mc ha hn hc s wx (by omega))
  have hsn : senOf (lastKind tx s.2.1) = 3 := by rw [hst]; rfl
  have HGR := Hid.mk' (fun wx (hx : Below w.heap.size w wx) => (hK.below hx).cell 4 hgr)
  have kr : decide (300 - (ln : Int) - (hn : Int) < 1) = true := decide_eq_true (by omega)
  have kr2 : 300 - (ln : Int) - (hn : Int) < 1 := by omega
  rw [hsn] at HST HIS
  have HW := Hid.mk' hW
  obtain ⟨a0, a1, a2, a3, a4⟩ := HXC.out W (Below.refl _ _)
  obtain ⟨c0, c1, c2⟩ := HCC.out W (Below.refl _ _)
  rw [← hW] at a0 a1 a2 a3 a4 c0 c1 c2
  clear hW hb0 hb1 hroom l1 l2 l3 hmn hst hsn hbd hnd htxw HSE hfull
  go_enter Tryz.func48, Tryz.ntmps48
  go_wp2_with fail
  rw [HW.out]
  refine HST.out.mono ?_
  rintro e w1 ⟨rfl, hb2⟩
  clear a0 a1 a2 a3 a4 c0 c1 c2 HST HW
  have gN := HGC.out 3 (by decide) w1 hb2
  have HI1 := Hid.mk' (HIS.out 3 (by decide) w1 hb2)
  rw [show decide (3 = 3) = true from rfl] at HI1
  go_wp2_with fail
  refine HI1.out.mono ?_
  rintro e w2 ⟨rfl, hw2⟩
  subst hw2
  clear gN HI1
  obtain ⟨a0, a1, a2, a3, a4⟩ := HXC.out w1 hb2
  go_wp2_with fail
  refine (HRM.out w1).mono ?_
  rintro e w2 ⟨rfl, hb3⟩
  have hb4 := hb2.trans (hb3.mono hb2.size)
  clear a0 a1 a2 a3 a4 HRM
  have hd5 : Below w2.heap.size w2 w2.drew := (Below.refl _ _).drew
  have hb5d := hb4.trans (hd5.mono hb4.size)
  have hgd := HGR.out _ (hB.trans (hb5d.mono hB.size))
  have hR1 := hRB.below hb5d
  have hB1 := hB.trans ((hb5d).mono hB.size)
  have z0 := hR1.cell 0 _ rfl
  have z1 := hR1.cell 1 _ rfl
  have z2 := hR1.cell 2 _ rfl
  have z3 := hR1.cell 3 _ rfl
  have z4 := hR1.cell 4 _ rfl
  have hS5 := hR1.set5 (.int .i64 0) (.slice none 0 0) (.int .i64 0) (.slice none 0 0) (.slice none 0 0)
  simp only [List.length_nil, Nat.zero_add] at z0 z1 z2 z3 z4 hS5
  have f0 := hR1.fz 0
  have f1 := hR1.fz 1
  have f2 := hR1.fz 2
  have f3 := hR1.fz 3
  have f4 := hR1.fz 4
  have hBz := hB1.grown hS5.2 hB1.size (fun j e => by cases e; omega)
  have hzc0 := hS5.1.cell 0 _ rfl
  have hzc1 := hS5.1.cell 1 _ rfl
  have hzc2 := hS5.1.cell 2 _ rfl
  have hzc3 := hS5.1.cell 3 _ rfl
  have hzc4 := hS5.1.cell 4 _ rfl
  simp only [List.length_nil, Nat.zero_add] at hzc0 hzc1 hzc2 hzc3 hzc4
  have HB := Hid.mk' hBz
  have hgz := HGR.out _ hBz
  clear hBz hS5 hR1 HIS HGC HXC HCC
  go_wp2_with fail
  refine last.wp_region_later (S := fun w' => w'.cell? ⟨4, 0, none⟩ = some (.iface 180 (.pointer (some (A 4))))) 3 (by kernel_rfl) hgd (fun hHeld0 => ?_)
  generalize w2.drew = D5 at *
  refine last.wpAnyL_take (i := 0) (v := (.agg #[.int .i64 0, .slice none 0 0, .int .i64 0, .slice none 0 0, .slice none 0 0])) rfl rfl (by kernel_rfl) (by kernel_rfl) (by kernel_rfl) (by kernel_rfl) (fun _ _ _ h => h) (Or.inl ⟨by rfl, ?_⟩) (by assumption) ?_
  · intro wq hSq; go_simp
  try simp only [Act.put, List.setIfInBounds_toArray, List.set_cons_zero, List.set_cons_succ]
  refine last.wpAnyL_take (i := 1) (v := (.iface 180 (.pointer (some (A 4))))) rfl rfl (by kernel_rfl) (by kernel_rfl) (by kernel_rfl) (by kernel_rfl) (fun _ _ _ h => h) (Or.inl ⟨by rfl, ?_⟩) (by assumption) ?_
  · intro wq hSq; have q := hSq; go_simp
  try simp only [Act.put, List.setIfInBounds_toArray, List.set_cons_zero, List.set_cons_succ]
  refine last.wpAnyL_one (i := 2) (o := { dst := none, op := Op.store 27 (Operand.tmp 4) (Operand.tmp 19), type := 0, pos := "l09_shard.go:189", after := #[{ on := 0, ground := Ground.data }, { on := 0, ground := Ground.phase }, { on := 1, ground := Ground.textOnly Departure.lateStores }], guard := none }) (by kernel_rfl) rfl (fun K hK => ?_)
  go_simp
  refine hK.out _ _ ?_ (fun hHeld => ?_)
  · exact hgz
  clear hK K hHeld0
  have hHeld0 := hHeld
  clear hHeld
  try simp only [Act.put, List.setIfInBounds_toArray, List.set_cons_zero, List.set_cons_succ]
  refine last.wpAnyL_last (o := { dst := some 5, op := Op.assign (Operand.tmp 20), type := 65, pos := "l09_shard.go:189", after := #[{ on := 1, ground := Ground.data }, { on := 2, ground := Ground.chain }, { on := 0, ground := Ground.phase }, { on := 1, ground := Ground.phase }, { on := 2, ground := Ground.phase }], guard := none }) (by kernel_rfl) rfl (by kernel_rfl) (fun K hK => ?_)
  go_simp
  refine hK.out _ _ ?_
  clear hK K
  clear hHeld0
  go_wp2_with fail
  refine bodyPost_ret (v := .tuple #[.agg #[.int .i64 0, .slice none 0 0, .int .i64 0, .slice none 0 0, .slice none 0 0], .iface 180 (.pointer (some (A 4)))]) ?_ rfl ⟨rfl, HB.out⟩
  simp [results, Tryz.results48, go_sem, hzc0, hzc1, hzc2, hzc3, hzc4]
set_option maxRecDepth 100000 in
set_option maxHeartbeats 4000000 in
theorem letgo_done (G : List Nat) (A : Nat → Addr) (la : Option Addr) (ln lc : Nat) (ma : Option Addr) (mn mc : Nat) (ha : Option Addr) (hn hc : Nat) (s : Shd) (tx : Int) (w : World) (h : SeeSh w la ln lc ma mn mc ha hn hc s) (hR : Right s) (htx : 1 ≤ tx ∧ tx ≤ 1000000) (hK : KS G A w) (hst : lastKind tx s.2.1 = 2) :
    Calls Tryz.prog 48 #[aggSh s.1 s.2.2.1 la ln lc ma mn mc ha hn hc, .agg #[.int .i64 3, .int .i64 tx, .slice none 0 0]] w (fun e w' => e = .returned (.tuple #[.agg #[.int .i64 0, .slice none 0 0, .int .i64 0, .slice none 0 0, .slice none 0 0], .iface 180 (.pointer (some (A 0)))]) ∧ Below w.heap.size w w') := by
  obtain ⟨W, hW⟩ : ∃ W, ((w.alloc (boxSh s.1 s.2.2.1 la ln lc ma mn mc ha hn hc)).alloc (.cells #[.int .i64 3, .int .i64 tx, .slice none 0 0] 41)).alloc (boxSh 0 0 none 0 0 none 0 0 none 0 0) = W := ⟨_, rfl⟩
  have hb0 : Below w.heap.size w (w.alloc (boxSh s.1 s.2.2.1 la ln lc ma mn mc ha hn hc)) := below_alloc
  have hb1 : Below w.heap.size w ((w.alloc (boxSh s.1 s.2.2.1 la ln lc ma mn mc ha hn hc)).alloc (.cells #[.int .i64 3, .int .i64 tx, .slice none 0 0] 41)) := hb0.alloc hb0.size _
  have hB : Below w.heap.size w W := by rw [← hW]; exact hb1.alloc hb1.size _
  have hX : BoxIn w.heap.size 27 [] (shVals s.1 s.2.2.1 la ln lc ma mn mc ha hn hc) [] W := by rw [← hW]; exact ((boxIn_new w _ _).below below_alloc).below below_alloc
  have hC : BoxR (w.heap.size + 1) 3 tx (.slice none 0 0) W := by
    rw [← hW]
    have := (boxR_new (w.alloc (boxSh s.1 s.2.2.1 la ln lc ma mn mc ha hn hc)) 3 tx (.slice none 0 0)).below (below_alloc (o := boxSh 0 0 none 0 0 none 0 0 none 0 0))
    rwa [show (w.alloc (boxSh s.1 s.2.2.1 la ln lc ma mn mc ha hn hc)).heap.size = w.heap.size + 1 by simp] at this
  have hRB : BoxIn (w.heap.size + 1 + 1) 27 [] (shVals 0 0 none 0 0 none 0 0 none 0 0) [] W := by
    rw [← hW]
    have := boxIn_new ((w.alloc (boxSh s.1 s.2.2.1 la ln lc ma mn mc ha hn hc)).alloc (.cells #[.int .i64 3, .int .i64 tx, .slice none 0 0] 41)) (shVals 0 0 none 0 0 none 0 0 none 0 0) 27
    rwa [show ((w.alloc (boxSh s.1 s.2.2.1 la ln lc ma mn mc ha hn hc)).alloc (.cells #[.int .i64 3, .int .i64 tx, .slice none 0 0] 41)).heap.size = w.heap.size + 1 + 1 by simp] at this
  have hsW : w.heap.size + 1 + 1 < W.heap.size := hRB.lt
  have HXC := Hid.mk' (fun wx (hx : Below W.heap.size W wx) => (show _ ∧ _ ∧ _ ∧ _ ∧ _ from by
    have a0 := (hX.below hx).cell 0 _ rfl
    have a1 := (hX.below hx).cell 1 _ rfl
    have a2 := (hX.below hx).cell 2 _ rfl
    have a3 := (hX.below hx).cell 3 _ rfl
    have a4 := (hX.below hx).cell 4 _ rfl
    simp only [List.length_nil, Nat.zero_add] at a0 a1 a2 a3 a4
    exact ⟨a0, a1, a2, a3, a4⟩))
  have HCC := Hid.mk' (fun wx (hx : Below W.heap.size W wx) => (hC.below hx).cells)
  have hKW := hK.below hB
  have hroom := hR.room
  obtain ⟨l1, l2, l3⟩ := SeeSh.lens h
  have hmn : s.2.2.2.1.length ≤ 60 := by
    obtain ⟨seen, hm⟩ := hR.made
    exact ((pairsOk_iff _).1 (replay_ok hm).1).2
  have HST := Hid.mk' (i_standing G A la ln lc ma mn mc ha hn hc s tx W (h.below hB) hKW)
  have HIS := Hid.mk' (fun (gg : Nat) (hgg : gg ∈ gs) wx (hx : Below W.heap.size W wx) => (is_ (senOf (lastKind tx s.2.1)) gg (hK.sub _ (senOf_mem _)) (hK.sub _ hgg) wx (hKW.below hx)).mono (fun e w' (hp : e = .returned (.bool (decide (senOf (lastKind tx s.2.1) = gg))) ∧ w' = wx) => (⟨hp.1, hp.2.symm⟩ : e = .returned (.bool (decide (senOf (lastKind tx s.2.1) = gg))) ∧ wx = w')))
  have HGC := Hid.mk' (fun (gg : Nat) (hgg : gg ∈ gs) wx (hx : Below W.heap.size W wx) => (hKW.below hx).cell gg (hK.sub _ hgg))
  have HSE := Hid.mk' (fun wx (hx : Below W.heap.size W wx) => (h.below hB).below hx)
  have hbd := right_bd hR
  have hnd : (s.2.2.2.2.map fun r => r.2.1).Nodup := by
    obtain ⟨seen, hm⟩ := hR.made
    exact (stood_replay hm).nd
  have htxw : (Lit.int .i64 tx).wf = true := WalkArith.wf_i64 (by omega)
  have hsn : senOf (lastKind tx s.2.1) = 0 := by rw [hst]; rfl
  rw [hsn] at HST HIS
  have HW := Hid.mk' hW
  obtain ⟨a0, a1, a2, a3, a4⟩ := HXC.out W (Below.refl _ _)
  obtain ⟨c0, c1, c2⟩ := HCC.out W (Below.refl _ _)
  rw [← hW] at a0 a1 a2 a3 a4 c0 c1 c2
  clear hW hb0 hb1 hroom l1 l2 l3 hmn hst hsn hbd hnd htxw HSE
  go_enter Tryz.func48, Tryz.ntmps48
  go_wp2_with fail
  rw [HW.out]
  refine HST.out.mono ?_
  rintro e w1 ⟨rfl, hb2⟩
  clear a0 a1 a2 a3 a4 c0 c1 c2 HST HW
  have gN := HGC.out 3 (by decide) w1 hb2
  have HI1 := Hid.mk' (HIS.out 3 (by decide) w1 hb2)
  rw [show decide (0 = 3) = false from rfl] at HI1
  go_wp2_with fail
  refine HI1.out.mono ?_
  rintro e w2 ⟨rfl, hw2⟩
  subst hw2
  clear gN HI1
  have gN := HGC.out 0 (by decide) w1 hb2
  have HI1 := Hid.mk' (HIS.out 0 (by decide) w1 hb2)
  rw [show decide (0 = 0) = true from rfl] at HI1
  go_wp2_with fail
  refine HI1.out.mono ?_
  rintro e w2 ⟨rfl, hw2⟩
  subst hw2
  clear gN HI1
  have hR1 := hRB.below hb2
  have hB1 := hB.trans ((hb2).mono hB.size)
  have z0 := hR1.cell 0 _ rfl
  have z1 := hR1.cell 1 _ rfl
  have z2 := hR1.cell 2 _ rfl
  have z3 := hR1.cell 3 _ rfl
  have z4 := hR1.cell 4 _ rfl
  have hS5 := hR1.set5 (.int .i64 0) (.slice none 0 0) (.int .i64 0) (.slice none 0 0) (.slice none 0 0)
  simp only [List.length_nil, Nat.zero_add] at z0 z1 z2 z3 z4 hS5
  have f0 := hR1.fz 0
  have f1 := hR1.fz 1
  have f2 := hR1.fz 2
  have f3 := hR1.fz 3
  have f4 := hR1.fz 4
  have hBz := hB1.grown hS5.2 hB1.size (fun j e => by cases e; omega)
  have hzc0 := hS5.1.cell 0 _ rfl
  have hzc1 := hS5.1.cell 1 _ rfl
  have hzc2 := hS5.1.cell 2 _ rfl
  have hzc3 := hS5.1.cell 3 _ rfl
  have hzc4 := hS5.1.cell 4 _ rfl
  simp only [List.length_nil, Nat.zero_add] at hzc0 hzc1 hzc2 hzc3 hzc4
  have HB := Hid.mk' hBz
  clear hBz hS5 hR1 HIS HGC HXC HCC
  go_wp2_with fail
  refine bodyPost_ret (v := .tuple #[.agg #[.int .i64 0, .slice none 0 0, .int .i64 0, .slice none 0 0, .slice none 0 0], .iface 180 (.pointer (some (A 0)))]) ?_ rfl ⟨rfl, HB.out⟩
  simp [results, Tryz.results48, go_sem, hzc0, hzc1, hzc2, hzc3, hzc4]
set_option maxRecDepth 100000 in
set_option maxHeartbeats 4000000 in
theorem letgo_gone (G : List Nat) (A : Nat → Addr) (la : Option Addr) (ln lc : Nat) (ma : Option Addr) (mn mc : Nat) (ha : Option Addr) (hn hc : Nat) (s : Shd) (tx : Int) (w : World) (h : SeeSh w la ln lc ma mn mc ha hn hc s) (hR : Right s) (htx : 1 ≤ tx ∧ tx ≤ 1000000) (hK : KS G A w) (hst : lastKind tx s.2.1 = 3) :
    Calls Tryz.prog 48 #[aggSh s.1 s.2.2.1 la ln lc ma mn mc ha hn hc, .agg #[.int .i64 3, .int .i64 tx, .slice none 0 0]] w (fun e w' => e = .returned (.tuple #[.agg #[.int .i64 0, .slice none 0 0, .int .i64 0, .slice none 0 0, .slice none 0 0], .iface 180 (.pointer (some (A 1)))]) ∧ Below w.heap.size w w') := by
  obtain ⟨W, hW⟩ : ∃ W, ((w.alloc (boxSh s.1 s.2.2.1 la ln lc ma mn mc ha hn hc)).alloc (.cells #[.int .i64 3, .int .i64 tx, .slice none 0 0] 41)).alloc (boxSh 0 0 none 0 0 none 0 0 none 0 0) = W := ⟨_, rfl⟩
  have hb0 : Below w.heap.size w (w.alloc (boxSh s.1 s.2.2.1 la ln lc ma mn mc ha hn hc)) := below_alloc
  have hb1 : Below w.heap.size w ((w.alloc (boxSh s.1 s.2.2.1 la ln lc ma mn mc ha hn hc)).alloc (.cells #[.int .i64 3, .int .i64 tx, .slice none 0 0] 41)) := hb0.alloc hb0.size _
  have hB : Below w.heap.size w W := by rw [← hW]; exact hb1.alloc hb1.size _
  have hX : BoxIn w.heap.size 27 [] (shVals s.1 s.2.2.1 la ln lc ma mn mc ha hn hc) [] W := by rw [← hW]; exact ((boxIn_new w _ _).below below_alloc).below below_alloc
  have hC : BoxR (w.heap.size + 1) 3 tx (.slice none 0 0) W := by
    rw [← hW]
    have := (boxR_new (w.alloc (boxSh s.1 s.2.2.1 la ln lc ma mn mc ha hn hc)) 3 tx (.slice none 0 0)).below (below_alloc (o := boxSh 0 0 none 0 0 none 0 0 none 0 0))
    rwa [show (w.alloc (boxSh s.1 s.2.2.1 la ln lc ma mn mc ha hn hc)).heap.size = w.heap.size + 1 by simp] at this
  have hRB : BoxIn (w.heap.size + 1 + 1) 27 [] (shVals 0 0 none 0 0 none 0 0 none 0 0) [] W := by
    rw [← hW]
    have := boxIn_new ((w.alloc (boxSh s.1 s.2.2.1 la ln lc ma mn mc ha hn hc)).alloc (.cells #[.int .i64 3, .int .i64 tx, .slice none 0 0] 41)) (shVals 0 0 none 0 0 none 0 0 none 0 0) 27
    rwa [show ((w.alloc (boxSh s.1 s.2.2.1 la ln lc ma mn mc ha hn hc)).alloc (.cells #[.int .i64 3, .int .i64 tx, .slice none 0 0] 41)).heap.size = w.heap.size + 1 + 1 by simp] at this
  have hsW : w.heap.size + 1 + 1 < W.heap.size := hRB.lt
  have HXC := Hid.mk' (fun wx (hx : Below W.heap.size W wx) => (show _ ∧ _ ∧ _ ∧ _ ∧ _ from by
    have a0 := (hX.below hx).cell 0 _ rfl
    have a1 := (hX.below hx).cell 1 _ rfl
    have a2 := (hX.below hx).cell 2 _ rfl
    have a3 := (hX.below hx).cell 3 _ rfl
    have a4 := (hX.below hx).cell 4 _ rfl
    simp only [List.length_nil, Nat.zero_add] at a0 a1 a2 a3 a4
    exact ⟨a0, a1, a2, a3, a4⟩))
  have HCC := Hid.mk' (fun wx (hx : Below W.heap.size W wx) => (hC.below hx).cells)
  have hKW := hK.below hB
  have hroom := hR.room
  obtain ⟨l1, l2, l3⟩ := SeeSh.lens h
  have hmn : s.2.2.2.1.length ≤ 60 := by
    obtain ⟨seen, hm⟩ := hR.made
    exact ((pairsOk_iff _).1 (replay_ok hm).1).2
  have HST := Hid.mk' (i_standing G A la ln lc ma mn mc ha hn hc s tx W (h.below hB) hKW)
  have HIS := Hid.mk' (fun (gg : Nat) (hgg : gg ∈ gs) wx (hx : Below W.heap.size W wx) => (is_ (senOf (lastKind tx s.2.1)) gg (hK.sub _ (senOf_mem _)) (hK.sub _ hgg) wx (hKW.below hx)).mono (fun e w' (hp : e = .returned (.bool (decide (senOf (lastKind tx s.2.1) = gg))) ∧ w' = wx) => (⟨hp.1, hp.2.symm⟩ : e = .returned (.bool (decide (senOf (lastKind tx s.2.1) = gg))) ∧ wx = w')))
  have HGC := Hid.mk' (fun (gg : Nat) (hgg : gg ∈ gs) wx (hx : Below W.heap.size W wx) => (hKW.below hx).cell gg (hK.sub _ hgg))
  have HSE := Hid.mk' (fun wx (hx : Below W.heap.size W wx) => (h.below hB).below hx)
  have hbd := right_bd hR
  have hnd : (s.2.2.2.2.map fun r => r.2.1).Nodup := by
    obtain ⟨seen, hm⟩ := hR.made
    exact (stood_replay hm).nd
  have htxw : (Lit.int .i64 tx).wf = true := WalkArith.wf_i64 (by omega)
  have hsn : senOf (lastKind tx s.2.1) = 1 := by rw [hst]; rfl
  rw [hsn] at HST HIS
  have HW := Hid.mk' hW
  obtain ⟨a0, a1, a2, a3, a4⟩ := HXC.out W (Below.refl _ _)
  obtain ⟨c0, c1, c2⟩ := HCC.out W (Below.refl _ _)
  rw [← hW] at a0 a1 a2 a3 a4 c0 c1 c2
  clear hW hb0 hb1 hroom l1 l2 l3 hmn hst hsn hbd hnd htxw HSE
  go_enter Tryz.func48, Tryz.ntmps48
  go_wp2_with fail
  rw [HW.out]
  refine HST.out.mono ?_
  rintro e w1 ⟨rfl, hb2⟩
  clear a0 a1 a2 a3 a4 c0 c1 c2 HST HW
  have gN := HGC.out 3 (by decide) w1 hb2
  have HI1 := Hid.mk' (HIS.out 3 (by decide) w1 hb2)
  rw [show decide (1 = 3) = false from rfl] at HI1
  go_wp2_with fail
  refine HI1.out.mono ?_
  rintro e w2 ⟨rfl, hw2⟩
  subst hw2
  clear gN HI1
  have gN := HGC.out 0 (by decide) w1 hb2
  have HI1 := Hid.mk' (HIS.out 0 (by decide) w1 hb2)
  rw [show decide (1 = 0) = false from rfl] at HI1
  go_wp2_with fail
  refine HI1.out.mono ?_
  rintro e w2 ⟨rfl, hw2⟩
  subst hw2
  clear gN HI1
  have gN := HGC.out 1 (by decide) w1 hb2
  have HI1 := Hid.mk' (HIS.out 1 (by decide) w1 hb2)
  rw [show decide (1 = 1) = true from rfl] at HI1
  go_wp2_with fail
  refine HI1.out.mono ?_
  rintro e w2 ⟨rfl, hw2⟩
  subst hw2
  clear gN HI1
  have hR1 := hRB.below hb2
  have hB1 := hB.trans ((hb2).mono hB.size)
  have z0 := hR1.cell 0 _ rfl
  have z1 := hR1.cell 1 _ rfl
  have z2 := hR1.cell 2 _ rfl
  have z3 := hR1.cell 3 _ rfl
  have z4 := hR1.cell 4 _ rfl
  have hS5 := hR1.set5 (.int .i64 0) (.slice none 0 0) (.int .i64 0) (.slice none 0 0) (.slice none 0 0)
  simp only [List.length_nil, Nat.zero_add] at z0 z1 z2 z3 z4 hS5
  have f0 := hR1.fz 0
  have f1 := hR1.fz 1
  have f2 := hR1.fz 2
  have f3 := hR1.fz 3
  have f4 := hR1.fz 4
  have hBz := hB1.grown hS5.2 hB1.size (fun j e => by cases e; omega)
  have hzc0 := hS5.1.cell 0 _ rfl
  have hzc1 := hS5.1.cell 1 _ rfl
  have hzc2 := hS5.1.cell 2 _ rfl
  have hzc3 := hS5.1.cell 3 _ rfl
  have hzc4 := hS5.1.cell 4 _ rfl
  simp only [List.length_nil, Nat.zero_add] at hzc0 hzc1 hzc2 hzc3 hzc4
  have HB := Hid.mk' hBz
  clear hBz hS5 hR1 HIS HGC HXC HCC
  go_wp2_with fail
  refine bodyPost_ret (v := .tuple #[.agg #[.int .i64 0, .slice none 0 0, .int .i64 0, .slice none 0 0, .slice none 0 0], .iface 180 (.pointer (some (A 1)))]) ?_ rfl ⟨rfl, HB.out⟩
  simp [results, Tryz.results48, go_sem, hzc0, hzc1, hzc2, hzc3, hzc4]
set_option maxRecDepth 100000 in
set_option maxHeartbeats 4000000 in
theorem letgo_held (G : List Nat) (A : Nat → Addr) (la : Option Addr) (ln lc : Nat) (ma : Option Addr) (mn mc : Nat) (ha : Option Addr) (hn hc : Nat) (s : Shd) (tx : Int) (w : World) (h : SeeSh w la ln lc ma mn mc ha hn hc s) (hR : Right s) (htx : 1 ≤ tx ∧ tx ≤ 1000000) (hK : KS G A w) (hst : lastKind tx s.2.1 = 1) :
    Calls Tryz.prog 48 #[aggSh s.1 s.2.2.1 la ln lc ma mn mc ha hn hc, .agg #[.int .i64 3, .int .i64 tx, .slice none 0 0]] w (DoPost A (written s (3, tx, [])) none w) := by
  obtain ⟨W, hW⟩ : ∃ W, ((w.alloc (boxSh s.1 s.2.2.1 la ln lc ma mn mc ha hn hc)).alloc (.cells #[.int .i64 3, .int .i64 tx, .slice none 0 0] 41)).alloc (boxSh 0 0 none 0 0 none 0 0 none 0 0) = W := ⟨_, rfl⟩
  have hb0 : Below w.heap.size w (w.alloc (boxSh s.1 s.2.2.1 la ln lc ma mn mc ha hn hc)) := below_alloc
  have hb1 : Below w.heap.size w ((w.alloc (boxSh s.1 s.2.2.1 la ln lc ma mn mc ha hn hc)).alloc (.cells #[.int .i64 3, .int .i64 tx, .slice none 0 0] 41)) := hb0.alloc hb0.size _
  have hB : Below w.heap.size w W := by rw [← hW]; exact hb1.alloc hb1.size _
  have hX : BoxIn w.heap.size 27 [] (shVals s.1 s.2.2.1 la ln lc ma mn mc ha hn hc) [] W := by rw [← hW]; exact ((boxIn_new w _ _).below below_alloc).below below_alloc
  have hC : BoxR (w.heap.size + 1) 3 tx (.slice none 0 0) W := by
    rw [← hW]
    have := (boxR_new (w.alloc (boxSh s.1 s.2.2.1 la ln lc ma mn mc ha hn hc)) 3 tx (.slice none 0 0)).below (below_alloc (o := boxSh 0 0 none 0 0 none 0 0 none 0 0))
    rwa [show (w.alloc (boxSh s.1 s.2.2.1 la ln lc ma mn mc ha hn hc)).heap.size = w.heap.size + 1 by simp] at this
  have hRB : BoxIn (w.heap.size + 1 + 1) 27 [] (shVals 0 0 none 0 0 none 0 0 none 0 0) [] W := by
    rw [← hW]
    have := boxIn_new ((w.alloc (boxSh s.1 s.2.2.1 la ln lc ma mn mc ha hn hc)).alloc (.cells #[.int .i64 3, .int .i64 tx, .slice none 0 0] 41)) (shVals 0 0 none 0 0 none 0 0 none 0 0) 27
    rwa [show ((w.alloc (boxSh s.1 s.2.2.1 la ln lc ma mn mc ha hn hc)).alloc (.cells #[.int .i64 3, .int .i64 tx, .slice none 0 0] 41)).heap.size = w.heap.size + 1 + 1 by simp] at this
  have hsW : w.heap.size + 1 + 1 < W.heap.size := hRB.lt
  have HXC := Hid.mk' (fun wx (hx : Below W.heap.size W wx) => (show _ ∧ _ ∧ _ ∧ _ ∧ _ from by
    have a0 := (hX.below hx).cell 0 _ rfl
    have a1 := (hX.below hx).cell 1 _ rfl
    have a2 := (hX.below hx).cell 2 _ rfl
    have a3 := (hX.below hx).cell 3 _ rfl
    have a4 := (hX.below hx).cell 4 _ rfl
    simp only [List.length_nil, Nat.zero_add] at a0 a1 a2 a3 a4
    exact ⟨a0, a1, a2, a3, a4⟩))
  have HCC := Hid.mk' (fun wx (hx : Below W.heap.size W wx) => (hC.below hx).cells)
  have hKW := hK.below hB
  have hroom := hR.room
  obtain ⟨l1, l2, l3⟩ := SeeSh.lens h
  have hmn : s.2.2.2.1.length ≤ 60 := by
    obtain ⟨seen, hm⟩ := hR.made
    exact ((pairsOk_iff _).1 (replay_ok hm).1).2
  have HST := Hid.mk' (i_standing G A la ln lc ma mn mc ha hn hc s tx W (h.below hB) hKW)
  have HIS := Hid.mk' (fun (gg : Nat) (hgg : gg ∈ gs) wx (hx : Below W.heap.size W wx) => (is_ (senOf (lastKind tx s.2.1)) gg (hK.sub _ (senOf_mem _)) (hK.sub _ hgg) wx (hKW.below hx)).mono (fun e w' (hp : e = .returned (.bool (decide (senOf (lastKind tx s.2.1) = gg))) ∧ w' = wx) => (⟨hp.1, hp.2.symm⟩ : e = .returned (.bool (decide (senOf (lastKind tx s.2.1) = gg))) ∧ wx = w')))
  have HGC := Hid.mk' (fun (gg : Nat) (hgg : gg ∈ gs) wx (hx : Below W.heap.size W wx) => (hKW.below hx).cell gg (hK.sub _ hgg))
  have HSE := Hid.mk' (fun wx (hx : Below W.heap.size W wx) => (h.below hB).below hx)
  have hbd := right_bd hR
  have hnd : (s.2.2.2.2.map fun r => r.2.1).Nodup := by
    obtain ⟨seen, hm⟩ := hR.made
    exact (stood_replay hm).nd
  have htxw : (Lit.int .i64 tx).wf = true := WalkArith.wf_i64 (by omega)
  have HSET := Hid.mk' (fun wx (hx : Below W.heap.size W wx) => i_settled la ln lc ma mn mc ha hn hc s 3 tx none 0 0 [] wx (HSE.out wx hx) hbd (slo_nil _ _) ⟨rfl, htxw, fun o ho => absurd ho List.not_mem_nil⟩ (Nat.zero_le _) hnd)
  have HWR : Hid ((s.1, s.2.1 ++ [((3 : Int), tx, [])], s.2.2.1, s.2.2.2.1, heldNo s.2.2.2.2 tx) = written s (3, tx, [])) := by
    show _ = _
    unfold written forced heldNo
    rw [if_neg (by simp)]
    simp only []
    cases placeTx tx s.2.2.2.2 with
    | none => rfl
    | some k => simp [nextM]
  have hsn : senOf (lastKind tx s.2.1) = 6 := by rw [hst]; rfl
  rw [hsn] at HST HIS
  have HW := Hid.mk' hW
  obtain ⟨a0, a1, a2, a3, a4⟩ := HXC.out W (Below.refl _ _)
  obtain ⟨c0, c1, c2⟩ := HCC.out W (Below.refl _ _)
  rw [← hW] at a0 a1 a2 a3 a4 c0 c1 c2
  clear hW hb0 hb1 hroom l1 l2 l3 hmn hst hsn hbd hnd htxw
  go_enter Tryz.func48, Tryz.ntmps48
  go_wp2_with fail
  rw [HW.out]
  refine HST.out.mono ?_
  rintro e w1 ⟨rfl, hb2⟩
  clear a0 a1 a2 a3 a4 c0 c1 c2 HST HW
  have gN := HGC.out 3 (by decide) w1 hb2
  have HI1 := Hid.mk' (HIS.out 3 (by decide) w1 hb2)
  rw [show decide (6 = 3) = false from rfl] at HI1
  go_wp2_with fail
  refine HI1.out.mono ?_
  rintro e w2 ⟨rfl, hw2⟩
  subst hw2
  clear gN HI1
  have gN := HGC.out 0 (by decide) w1 hb2
  have HI1 := Hid.mk' (HIS.out 0 (by decide) w1 hb2)
  rw [show decide (6 = 0) = false from rfl] at HI1
  go_wp2_with fail
  refine HI1.out.mono ?_
  rintro e w2 ⟨rfl, hw2⟩
  subst hw2
  clear gN HI1
  have gN := HGC.out 1 (by decide) w1 hb2
  have HI1 := Hid.mk' (HIS.out 1 (by decide) w1 hb2)
  rw [show decide (6 = 1) = false from rfl] at HI1
  go_wp2_with fail
  refine HI1.out.mono ?_
  rintro e w2 ⟨rfl, hw2⟩
  subst hw2
  clear gN HI1
  obtain ⟨a0, a1, a2, a3, a4⟩ := HXC.out w1 hb2
  obtain ⟨c0, c1, c2⟩ := HCC.out w1 hb2
  have HSW := Hid.mk' (HSET.out w1 hb2)
  go_wp2_with fail
  refine HSW.out.mono ?_
  rintro e w3 ⟨ta, tn, tc, sa, sn, sc, ra, rn, rc, FF, he3, hO3, hF3, hb3⟩
  have he4 : e = .returned (aggSh s.1 s.2.2.1 ta tn tc sa sn sc ra rn rc) := he3
  subst he4
  clear a0 a1 a2 a3 a4 c0 c1 c2 HSW HSET
  have hb9 := hb2.trans (hb3.mono hb2.size)
  have hsx := hb2.size
  have hRZ := hRB.below hb9
  have hBw := hB.trans (hb9.mono hB.size)
  have z0 := hRZ.cell 0 _ rfl
  have z1 := hRZ.cell 1 _ rfl
  have z2 := hRZ.cell 2 _ rfl
  have z3 := hRZ.cell 3 _ rfl
  have z4 := hRZ.cell 4 _ rfl
  have hS5 := hRZ.set5 (.int .i64 s.1) (.slice ta tn tc) (.int .i64 s.2.2.1) (.slice sa sn sc) (.slice ra rn rc)
  simp only [List.length_nil, Nat.zero_add] at z0 z1 z2 z3 z4 hS5
  have f0 := hRZ.fz 0
  have f1 := hRZ.fz 1
  have f2 := hRZ.fz 2
  have f3 := hRZ.fz 3
  have f4 := hRZ.fz 4
  have hBz := hBw.grown hS5.2 hBw.size (fun j e => by cases e; omega)
  have hOz := hO3.keep (fun j hj => hS5.2.block j (hO3.lt j hj) (fun e => by have h1 := hF3 j hj; have h2 := Option.some.inj e; omega))
  have hzc0 := hS5.1.cell 0 _ rfl
  have hzc1 := hS5.1.cell 1 _ rfl
  have hzc2 := hS5.1.cell 2 _ rfl
  have hzc3 := hS5.1.cell 3 _ rfl
  have hzc4 := hS5.1.cell 4 _ rfl
  simp only [List.length_nil, Nat.zero_add] at hzc0 hzc1 hzc2 hzc3 hzc4
  have HP : Hid (DoPost A (s.1, s.2.1 ++ [((3 : Int), tx, [])], s.2.2.1, s.2.2.2.1, heldNo s.2.2.2.2 tx) none w (.returned (.tuple #[aggSh s.1 s.2.2.1 ta tn tc sa sn sc ra rn rc, .nilIface])) _) := ⟨_, _, _, _, _, _, _, _, _, FF, rfl, hOz, fun k hk => by have h1 := hF3 k hk; have := hB.size; omega, hBz⟩
  clear hOz hBz hS5 hRZ hBw hO3
  go_wp2_with fail
  refine bodyPost_ret (v := .tuple #[aggSh s.1 s.2.2.1 ta tn tc sa sn sc ra rn rc, .nilIface]) ?_ rfl (by rw [← HWR.out]; exact HP.out)
  simp [results, Tryz.results48, go_sem, hzc0, hzc1, hzc2, hzc3, hzc4]
set_option maxRecDepth 100000 in
set_option maxHeartbeats 4000000 in
theorem letgo_new (G : List Nat) (A : Nat → Addr) (la : Option Addr) (ln lc : Nat) (ma : Option Addr) (mn mc : Nat) (ha : Option Addr) (hn hc : Nat) (s : Shd) (tx : Int) (w : World) (h : SeeSh w la ln lc ma mn mc ha hn hc s) (hR : Right s) (htx : 1 ≤ tx ∧ tx ≤ 1000000) (hK : KS G A w) (hst : lastKind tx s.2.1 = 0) (hfree : s.2.1.length + s.2.2.2.2.length < 300) :
    Calls Tryz.prog 48 #[aggSh s.1 s.2.2.1 la ln lc ma mn mc ha hn hc, .agg #[.int .i64 3, .int .i64 tx, .slice none 0 0]] w (DoPost A (written s (3, tx, [])) none w) := by
  obtain ⟨W, hW⟩ : ∃ W, ((w.alloc (boxSh s.1 s.2.2.1 la ln lc ma mn mc ha hn hc)).alloc (.cells #[.int .i64 3, .int .i64 tx, .slice none 0 0] 41)).alloc (boxSh 0 0 none 0 0 none 0 0 none 0 0) = W := ⟨_, rfl⟩
  have hb0 : Below w.heap.size w (w.alloc (boxSh s.1 s.2.2.1 la ln lc ma mn mc ha hn hc)) := below_alloc
  have hb1 : Below w.heap.size w ((w.alloc (boxSh s.1 s.2.2.1 la ln lc ma mn mc ha hn hc)).alloc (.cells #[.int .i64 3, .int .i64 tx, .slice none 0 0] 41)) := hb0.alloc hb0.size _
  have hB : Below w.heap.size w W := by rw [← hW]; exact hb1.alloc hb1.size _
  have hX : BoxIn w.heap.size 27 [] (shVals s.1 s.2.2.1 la ln lc ma mn mc ha hn hc) [] W := by rw [← hW]; exact ((boxIn_new w _ _).below below_alloc).below below_alloc
  have hC : BoxR (w.heap.size + 1) 3 tx (.slice none 0 0) W := by
    rw [← hW]
    have := (boxR_new (w.alloc (boxSh s.1 s.2.2.1 la ln lc ma mn mc ha hn hc)) 3 tx (.slice none 0 0)).below (below_alloc (o := boxSh 0 0 none 0 0 none 0 0 none 0 0))
    rwa [show (w.alloc (boxSh s.1 s.2.2.1 la ln lc ma mn mc ha hn hc)).heap.size = w.heap.size + 1 by simp] at this
  have hRB : BoxIn (w.heap.size + 1 + 1) 27 [] (shVals 0 0 none 0 0 none 0 0 none 0 0) [] W := by
    rw [← hW]
    have := boxIn_new ((w.alloc (boxSh s.1 s.2.2.1 la ln lc ma mn mc ha hn hc)).alloc (.cells #[.int .i64 3, .int .i64 tx, .slice none 0 0] 41)) (shVals 0 0 none 0 0 none 0 0 none 0 0) 27
    rwa [show ((w.alloc (boxSh s.1 s.2.2.1 la ln lc ma mn mc ha hn hc)).alloc (.cells #[.int .i64 3, .int .i64 tx, .slice none 0 0] 41)).heap.size = w.heap.size + 1 + 1 by simp] at this
  have hsW : w.heap.size + 1 + 1 < W.heap.size := hRB.lt
  have HXC := Hid.mk' (fun wx (hx : Below W.heap.size W wx) => (show _ ∧ _ ∧ _ ∧ _ ∧ _ from by
    have a0 := (hX.below hx).cell 0 _ rfl
    have a1 := (hX.below hx).cell 1 _ rfl
    have a2 := (hX.below hx).cell 2 _ rfl
    have a3 := (hX.below hx).cell 3 _ rfl
    have a4 := (hX.below hx).cell 4 _ rfl
    simp only [List.length_nil, Nat.zero_add] at a0 a1 a2 a3 a4
    exact ⟨a0, a1, a2, a3, a4⟩))
  have HCC := Hid.mk' (fun wx (hx : Below W.heap.size W wx) => (hC.below hx).cells)
  have hKW := hK.below hB
  have hroom := hR.room
  obtain ⟨l1, l2, l3⟩ := SeeSh.lens h
  have hmn : s.2.2.2.1.length ≤ 60 := by
    obtain ⟨seen, hm⟩ := hR.made
    exact ((pairsOk_iff _).1 (replay_ok hm).1).2
  have HST := Hid.mk' (i_standing G A la ln lc ma mn mc ha hn hc s tx W (h.below hB) hKW)
  have HIS := Hid.mk' (fun (gg : Nat) (hgg : gg ∈ gs) wx (hx : Below W.heap.size W wx) => (is_ (senOf (lastKind tx s.2.1)) gg (hK.sub _ (senOf_mem _)) (hK.sub _ hgg) wx (hKW.below hx)).mono (fun e w' (hp : e = .returned (.bool (decide (senOf (lastKind tx s.2.1) = gg))) ∧ w' = wx) => (⟨hp.1, hp.2.symm⟩ : e = .returned (.bool (decide (senOf (lastKind tx s.2.1) = gg))) ∧ wx = w')))
  have HGC := Hid.mk' (fun (gg : Nat) (hgg : gg ∈ gs) wx (hx : Below W.heap.size W wx) => (hKW.below hx).cell gg (hK.sub _ hgg))
  have HSE := Hid.mk' (fun wx (hx : Below W.heap.size W wx) => (h.below hB).below hx)
  have hbd := right_bd hR
  have hnd : (s.2.2.2.2.map fun r => r.2.1).Nodup := by
    obtain ⟨seen, hm⟩ := hR.made
    exact (stood_replay hm).nd
  have htxw : (Lit.int .i64 tx).wf = true := WalkArith.wf_i64 (by omega)
  have HSET := Hid.mk' (fun wx (hx : Below W.heap.size W wx) => i_settled la ln lc ma mn mc ha hn hc s 3 tx none 0 0 [] wx (HSE.out wx hx) hbd (slo_nil _ _) ⟨rfl, htxw, fun o ho => absurd ho List.not_mem_nil⟩ (Nat.zero_le _) hnd)
  have HWR : Hid ((s.1, s.2.1 ++ [((3 : Int), tx, [])], s.2.2.1, s.2.2.2.1, heldNo s.2.2.2.2 tx) = written s (3, tx, [])) := by
    show _ = _
    unfold written forced heldNo
    rw [if_neg (by simp)]
    simp only []
    cases placeTx tx s.2.2.2.2 with
    | none => rfl
    | some k => simp [nextM]
  have HRM := Hid.mk' (fun wx => i_room la ln lc ma mn mc ha hn hc s wx (by omega))
  have hsn : senOf (lastKind tx s.2.1) = 3 := by rw [hst]; rfl
  have kr : decide (300 - (ln : Int) - (hn : Int) < 1) = false := decide_eq_false (by omega)
  have kr2 : ¬ 300 - (ln : Int) - (hn : Int) < 1 := by omega
  rw [hsn] at HST HIS
  have HW := Hid.mk' hW
  obtain ⟨a0, a1, a2, a3, a4⟩ := HXC.out W (Below.refl _ _)
  obtain ⟨c0, c1, c2⟩ := HCC.out W (Below.refl _ _)
  rw [← hW] at a0 a1 a2 a3 a4 c0 c1 c2
  clear hW hb0 hb1 hroom l1 l2 l3 hmn hst hsn hbd hnd htxw hfree
  go_enter Tryz.func48, Tryz.ntmps48
  go_wp2_with fail
  rw [HW.out]
  refine HST.out.mono ?_
  rintro e w1 ⟨rfl, hb2⟩
  clear a0 a1 a2 a3 a4 c0 c1 c2 HST HW
  have gN := HGC.out 3 (by decide) w1 hb2
  have HI1 := Hid.mk' (HIS.out 3 (by decide) w1 hb2)
  rw [show decide (3 = 3) = true from rfl] at HI1
  go_wp2_with fail
  refine HI1.out.mono ?_
  rintro e w2 ⟨rfl, hw2⟩
  subst hw2
  clear gN HI1
  obtain ⟨a0, a1, a2, a3, a4⟩ := HXC.out w1 hb2
  go_wp2_with fail
  refine (HRM.out w1).mono ?_
  rintro e w2 ⟨rfl, hb3⟩
  have hb4 := hb2.trans (hb3.mono hb2.size)
  clear a0 a1 a2 a3 a4 HRM
  have gN := HGC.out 0 (by decide) w2 hb4
  have HI1 := Hid.mk' (HIS.out 0 (by decide) w2 hb4)
  rw [show decide (3 = 0) = false from rfl] at HI1
  go_wp2_with fail
  refine HI1.out.mono ?_
  rintro e w5 ⟨rfl, hw5⟩
  subst hw5
  clear gN HI1
  have gN := HGC.out 1 (by decide) w2 hb4
  have HI1 := Hid.mk' (HIS.out 1 (by decide) w2 hb4)
  rw [show decide (3 = 1) = false from rfl] at HI1
  go_wp2_with fail
  refine HI1.out.mono ?_
  rintro e w5 ⟨rfl, hw5⟩
  subst hw5
  clear gN HI1
  obtain ⟨a0, a1, a2, a3, a4⟩ := HXC.out w2 hb4
  obtain ⟨c0, c1, c2⟩ := HCC.out w2 hb4
  have HSW := Hid.mk' (HSET.out w2 hb4)
  go_wp2_with fail
  refine HSW.out.mono ?_
  rintro e w3 ⟨ta, tn, tc, sa, sn, sc, ra, rn, rc, FF, he3, hO3, hF3, hb3⟩
  have he4 : e = .returned (aggSh s.1 s.2.2.1 ta tn tc sa sn sc ra rn rc) := he3
  subst he4
  clear a0 a1 a2 a3 a4 c0 c1 c2 HSW HSET
  have hb9 := hb4.trans (hb3.mono hb4.size)
  have hsx := hb4.size
  have hRZ := hRB.below hb9
  have hBw := hB.trans (hb9.mono hB.size)
  have z0 := hRZ.cell 0 _ rfl
  have z1 := hRZ.cell 1 _ rfl
  have z2 := hRZ.cell 2 _ rfl
  have z3 := hRZ.cell 3 _ rfl
  have z4 := hRZ.cell 4 _ rfl
  have hS5 := hRZ.set5 (.int .i64 s.1) (.slice ta tn tc) (.int .i64 s.2.2.1) (.slice sa sn sc) (.slice ra rn rc)
  simp only [List.length_nil, Nat.zero_add] at z0 z1 z2 z3 z4 hS5
  have f0 := hRZ.fz 0
  have f1 := hRZ.fz 1
  have f2 := hRZ.fz 2
  have f3 := hRZ.fz 3
  have f4 := hRZ.fz 4
  have hBz := hBw.grown hS5.2 hBw.size (fun j e => by cases e; omega)
  have hOz := hO3.keep (fun j hj => hS5.2.block j (hO3.lt j hj) (fun e => by have h1 := hF3 j hj; have h2 := Option.some.inj e; omega))
  have hzc0 := hS5.1.cell 0 _ rfl
  have hzc1 := hS5.1.cell 1 _ rfl
  have hzc2 := hS5.1.cell 2 _ rfl
  have hzc3 := hS5.1.cell 3 _ rfl
  have hzc4 := hS5.1.cell 4 _ rfl
  simp only [List.length_nil, Nat.zero_add] at hzc0 hzc1 hzc2 hzc3 hzc4
  have HP : Hid (DoPost A (s.1, s.2.1 ++ [((3 : Int), tx, [])], s.2.2.1, s.2.2.2.1, heldNo s.2.2.2.2 tx) none w (.returned (.tuple #[aggSh s.1 s.2.2.1 ta tn tc sa sn sc ra rn rc, .nilIface])) _) := ⟨_, _, _, _, _, _, _, _, _, FF, rfl, hOz, fun k hk => by have h1 := hF3 k hk; have := hB.size; omega, hBz⟩
  clear hOz hBz hS5 hRZ hBw hO3
  go_wp2_with fail
  refine bodyPost_ret (v := .tuple #[aggSh s.1 s.2.2.1 ta tn tc sa sn sc ra rn rc, .nilIface]) ?_ rfl (by rw [← HWR.out]; exact HP.out)
  simp [results, Tryz.results48, go_sem, hzc0, hzc1, hzc2, hzc3, hzc4]
end Go.Proofs.YteniflajiklffaaGreatDoor.recs
