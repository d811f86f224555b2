/- A shard that crashes. What the draws of the first chapter's laws hand back. The draw of texts, the comparison of texts, and what the laws read of the code. -/
import Derived.Test.YtpnmijalpbllnaaBund9az
import Derived.Test.YtpnmijalpbllnaaBund9ba
import Derived.Test.YtpnmijalpbllnaaBund9bb
import Derived.Deep.RegionWith
import Derived.Test.YtpnmijalpbllnaaBund9ac
import Derived.ArgAppend
namespace Go.Proofs.Ytpnmijalpbllnaa.recs
open Go Go.RowKit Go.Proofs.Ytpnmijalpbllnaa.base Go.Proofs.Ytpnmijalpbllnaa.pairs Go.Proofs.Ytpnmijalpbllnaa.ords Go.Proofs.Ytpnmijalpbllnaa.helps Go.Proofs.Ytpnmijalpbllnaa.help Go.Proofs.Ytpnmijalpbllnaa.lay
set_option linter.unusedVariables false
set_option linter.unusedSimpArgs false
theorem spotA {w6 w8 : World} (hb8 : Below (w6.alloc (.cells #[.int .i64 0, .slice none 0 0, .int .i64 0, .slice none 0 0, .slice none 0 0] 27)).heap.size (w6.alloc (.cells #[.int .i64 0, .slice none 0 0, .int .i64 0, .slice none 0 0, .slice none 0 0] 27)) w8) : BoxIn w6.heap.size 27 [] (shVals 0 0 none 0 0 none 0 0 none 0 0) [] w8 := BoxIn.below (boxIn_new w6 (shVals 0 0 none 0 0 none 0 0 none 0 0) 27) hb8
theorem spotB {D w6 w8 : World} (hb6 : Below (D.alloc (.cells #[.int .i64 0, .slice none 0 0, .int .i64 0, .slice none 0 0, .slice none 0 0] 27)).drew.heap.size (D.alloc (.cells #[.int .i64 0, .slice none 0 0, .int .i64 0, .slice none 0 0, .slice none 0 0] 27)).drew w6) (h68 : Below w6.heap.size w6 w8) : BoxIn D.heap.size 27 [] (shVals 0 0 none 0 0 none 0 0 none 0 0) [] w8 := BoxIn.below (BoxIn.below (BoxIn.below (boxIn_new D (shVals 0 0 none 0 0 none 0 0 none 0 0) 27) (Below.refl _ _).drew) hb6) h68
theorem crash_spot {D w8 : World} {X blk : Nat} {vA : List Value} (hA : BoxIn X 27 [] vA [] D) (h8 : Below D.heap.size D w8) (hbx : BoxIn blk 27 [] (shVals 0 0 none 0 0 none 0 0 none 0 0) [] w8) (hb : D.heap.size ≤ blk) (b0 b1 b2 b3 b4 u0 u1 : Value) (hu0 : vA[0]? = some u0) (hu1 : vA[1]? = some u1) :
    w8.cell? ⟨blk, 0, none⟩ = some (.int .i64 0) ∧ w8.cell? ⟨blk, 1, none⟩ = some (.slice none 0 0) ∧ w8.cell? ⟨blk, 2, none⟩ = some (.int .i64 0) ∧ w8.cell? ⟨blk, 3, none⟩ = some (.slice none 0 0) ∧ w8.cell? ⟨blk, 4, none⟩ = some (.slice none 0 0) ∧
    w8.frozen? ⟨blk, 0, none⟩ = false ∧ w8.frozen? ⟨blk, 1, none⟩ = false ∧ w8.frozen? ⟨blk, 2, none⟩ = false ∧ w8.frozen? ⟨blk, 3, none⟩ = false ∧ w8.frozen? ⟨blk, 4, none⟩ = false ∧
    (((((w8.setCell ⟨blk, 0, none⟩ b0).setCell ⟨blk, 1, none⟩ b1).setCell ⟨blk, 2, none⟩ b2).setCell ⟨blk, 3, none⟩ b3).setCell ⟨blk, 4, none⟩ b4).cell? ⟨X, 0, none⟩ = some u0 ∧
    (((((w8.setCell ⟨blk, 0, none⟩ b0).setCell ⟨blk, 1, none⟩ b1).setCell ⟨blk, 2, none⟩ b2).setCell ⟨blk, 3, none⟩ b3).setCell ⟨blk, 4, none⟩ b4).cell? ⟨X, 1, none⟩ = some u1 ∧
    Hid (BoxIn blk 27 [] [b0, b1, b2, b3, b4] [] (((((w8.setCell ⟨blk, 0, none⟩ b0).setCell ⟨blk, 1, none⟩ b1).setCell ⟨blk, 2, none⟩ b2).setCell ⟨blk, 3, none⟩ b3).setCell ⟨blk, 4, none⟩ b4) ∧ w8.grownBy (((((w8.setCell ⟨blk, 0, none⟩ b0).setCell ⟨blk, 1, none⟩ b1).setCell ⟨blk, 2, none⟩ b2).setCell ⟨blk, 3, none⟩ b3).setCell ⟨blk, 4, none⟩ b4) (some blk)) := by
  have e5 := hbx.set5 b0 b1 b2 b3 b4
  have z0 := hbx.cell 0 _ rfl
  have z1 := hbx.cell 1 _ rfl
  have z2 := hbx.cell 2 _ rfl
  have z3 := hbx.cell 3 _ rfl
  have z4 := hbx.cell 4 _ rfl
  have hX := hA.lt
  have hA8 := (hA.below h8).grown e5.2 (fun e => by have := Option.some.inj e; omega)
  have y0 := hA8.cell 0 _ hu0
  have y1 := hA8.cell 1 _ hu1
  simp only [List.length_nil, Nat.zero_add] at e5 z0 z1 z2 z3 z4 y0 y1
  exact ⟨z0, z1, z2, z3, z4, hbx.fz 0, hbx.fz 1, hbx.fz 2, hbx.fz 3, hbx.fz 4, y0, y1, Hid.mk' e5⟩
theorem crash_last {w V : World} {R blk B C gl lf cl gm nm cm gh ch : Nat} {sid : Int} {t : Option St} {LT : List Rc} {hl hh : List Value} (hid : (Lit.int .i64 sid).wf = true) (hlw : (Lit.int .i64 (lf : Int)).wf = true)
    (hR : BoxIn R 27 [] (shVals 0 0 none 0 0 none 0 0 none 0 0) [] V) (hbx : BoxIn blk 27 [] [.int .i64 sid, .slice (some ⟨gl, 0, none⟩) lf cl, .int .i64 (lf : Int), .slice (some ⟨gm, 0, none⟩) nm cm, .slice (some ⟨gh, 0, none⟩) (resH t).length ch] [] V) (hOl : OwnR V B (.slice (some ⟨gl, 0, none⟩) lf cl) LT hl) (hOm : OwnP V C gm nm cm (resM t)) (hOh : OwnR V C (.slice (some ⟨gh, 0, none⟩) (resH t).length ch) (resH t) hh) (hlo : ∀ k, BlkR (.slice (some ⟨gl, 0, none⟩) lf cl) hl k → k < C) (hB : Below w.heap.size w V) (hwR : w.heap.size ≤ R) (hRB : R < B) (hBC : B ≤ C) :
    V.cell? ⟨R, 0, none⟩ = some (.int .i64 0) ∧ V.cell? ⟨R, 1, none⟩ = some (.slice none 0 0) ∧ V.cell? ⟨R, 2, none⟩ = some (.int .i64 0) ∧ V.cell? ⟨R, 3, none⟩ = some (.slice none 0 0) ∧ V.cell? ⟨R, 4, none⟩ = some (.slice none 0 0) ∧ V.frozen? ⟨R, 0, none⟩ = false ∧ V.frozen? ⟨R, 1, none⟩ = false ∧ V.frozen? ⟨R, 2, none⟩ = false ∧ V.frozen? ⟨R, 3, none⟩ = false ∧ V.frozen? ⟨R, 4, none⟩ = false ∧ V.cell? ⟨blk, 0, none⟩ = some (.int .i64 sid) ∧ V.cell? ⟨blk, 1, none⟩ = some (.slice (some ⟨gl, 0, none⟩) lf cl) ∧ V.cell? ⟨blk, 2, none⟩ = some (.int .i64 (lf : Int)) ∧ V.cell? ⟨blk, 3, none⟩ = some (.slice (some ⟨gm, 0, none⟩) nm cm) ∧ V.cell? ⟨blk, 4, none⟩ = some (.slice (some ⟨gh, 0, none⟩) (resH t).length ch) ∧ (((((V.setCell ⟨R, 0, none⟩ (.int .i64 sid)).setCell ⟨R, 1, none⟩ (.slice (some ⟨gl, 0, none⟩) lf cl)).setCell ⟨R, 2, none⟩ (.int .i64 (lf : Int))).setCell ⟨R, 3, none⟩ (.slice (some ⟨gm, 0, none⟩) nm cm)).setCell ⟨R, 4, none⟩ (.slice (some ⟨gh, 0, none⟩) (resH t).length ch)).cell? ⟨R, 0, none⟩ = some (.int .i64 sid) ∧ (((((V.setCell ⟨R, 0, none⟩ (.int .i64 sid)).setCell ⟨R, 1, none⟩ (.slice (some ⟨gl, 0, none⟩) lf cl)).setCell ⟨R, 2, none⟩ (.int .i64 (lf : Int))).setCell ⟨R, 3, none⟩ (.slice (some ⟨gm, 0, none⟩) nm cm)).setCell ⟨R, 4, none⟩ (.slice (some ⟨gh, 0, none⟩) (resH t).length ch)).cell? ⟨R, 1, none⟩ = some (.slice (some ⟨gl, 0, none⟩) lf cl) ∧ (((((V.setCell ⟨R, 0, none⟩ (.int .i64 sid)).setCell ⟨R, 1, none⟩ (.slice (some ⟨gl, 0, none⟩) lf cl)).setCell ⟨R, 2, none⟩ (.int .i64 (lf : Int))).setCell ⟨R, 3, none⟩ (.slice (some ⟨gm, 0, none⟩) nm cm)).setCell ⟨R, 4, none⟩ (.slice (some ⟨gh, 0, none⟩) (resH t).length ch)).cell? ⟨R, 2, none⟩ = some (.int .i64 (lf : Int)) ∧ (((((V.setCell ⟨R, 0, none⟩ (.int .i64 sid)).setCell ⟨R, 1, none⟩ (.slice (some ⟨gl, 0, none⟩) lf cl)).setCell ⟨R, 2, none⟩ (.int .i64 (lf : Int))).setCell ⟨R, 3, none⟩ (.slice (some ⟨gm, 0, none⟩) nm cm)).setCell ⟨R, 4, none⟩ (.slice (some ⟨gh, 0, none⟩) (resH t).length ch)).cell? ⟨R, 3, none⟩ = some (.slice (some ⟨gm, 0, none⟩) nm cm) ∧ (((((V.setCell ⟨R, 0, none⟩ (.int .i64 sid)).setCell ⟨R, 1, none⟩ (.slice (some ⟨gl, 0, none⟩) lf cl)).setCell ⟨R, 2, none⟩ (.int .i64 (lf : Int))).setCell ⟨R, 3, none⟩ (.slice (some ⟨gm, 0, none⟩) nm cm)).setCell ⟨R, 4, none⟩ (.slice (some ⟨gh, 0, none⟩) (resH t).length ch)).cell? ⟨R, 4, none⟩ = some (.slice (some ⟨gh, 0, none⟩) (resH t).length ch) ∧ Hid (RetSh w (sid, LT, (lf : Int), resM t, resH t) (.returned (aggSh sid (lf : Int) (some ⟨gl, 0, none⟩) lf cl (some ⟨gm, 0, none⟩) nm cm (some ⟨gh, 0, none⟩) (resH t).length ch)) (((((V.setCell ⟨R, 0, none⟩ (.int .i64 sid)).setCell ⟨R, 1, none⟩ (.slice (some ⟨gl, 0, none⟩) lf cl)).setCell ⟨R, 2, none⟩ (.int .i64 (lf : Int))).setCell ⟨R, 3, none⟩ (.slice (some ⟨gm, 0, none⟩) nm cm)).setCell ⟨R, 4, none⟩ (.slice (some ⟨gh, 0, none⟩) (resH t).length ch))) := by
  have e5 := hR.set5 (.int .i64 sid) (.slice (some ⟨gl, 0, none⟩) lf cl) (.int .i64 (lf : Int)) (.slice (some ⟨gm, 0, none⟩) nm cm) (.slice (some ⟨gh, 0, none⟩) (resH t).length ch)
  have z0 := hR.cell 0 _ rfl
  have z1 := hR.cell 1 _ rfl
  have z2 := hR.cell 2 _ rfl
  have z3 := hR.cell 3 _ rfl
  have z4 := hR.cell 4 _ rfl
  have q0 := hbx.cell 0 _ rfl
  have q1 := hbx.cell 1 _ rfl
  have q2 := hbx.cell 2 _ rfl
  have q3 := hbx.cell 3 _ rfl
  have q4 := hbx.cell 4 _ rfl
  have y0 := e5.1.cell 0 _ rfl
  have y1 := e5.1.cell 1 _ rfl
  have y2 := e5.1.cell 2 _ rfl
  have y3 := e5.1.cell 3 _ rfl
  have y4 := e5.1.cell 4 _ rfl
  simp only [List.length_nil, Nat.zero_add] at e5 z0 z1 z2 z3 z4 q0 q1 q2 q3 q4 y0 y1 y2 y3 y4
  have o1 := hOl.grown e5.2 (fun e => by have := (hOl.lt _ e).1; omega)
  have o2 := (hOm.mono (base' := B) hBC).grown e5.2 (fun e => by have := hOm.lt.1; have := Option.some.inj e; omega)
  have o3 := (hOh.mono (base' := B) hBC).grown e5.2 (fun e => by have := (hOh.lt _ e).1; omega)
  have hBz := hB.grown e5.2 hB.size (fun j e => by cases e; exact hwR)
  obtain ⟨F, hO, hF⟩ := ownSh_of (s := (sid, LT, (lf : Int), resM t, resH t)) (B := B) (C := C) hid hlw o1 o2 o3 hlo (fun k hk => (hOh.lt k hk).1)
  exact ⟨z0, z1, z2, z3, z4, hR.fz 0, hR.fz 1, hR.fz 2, hR.fz 3, hR.fz 4, q0, q1, q2, q3, q4, y0, y1, y2, y3, y4, Hid.mk' (retSh_mk hO (fun k hk => by have := hF k hk; omega) hBz)⟩
set_option maxRecDepth 100000 in
set_option maxHeartbeats 4000000 in
theorem spec_crash (la : Option Addr) (ln lc : Nat) (ma : Option Addr) (mn mc : Nat) (ha : Option Addr) (hn hc : Nat) (s : Shd) (keep : Int) (w : World) (h : SeeSh w la ln lc ma mn mc ha hn hc s) (hb : Bound s) :
    Calls Try.prog 13 #[aggSh s.1 s.2.2.1 la ln lc ma mn mc ha hn hc, .int .i64 keep] w (RetSh w (crashR s keep)) := by
  obtain ⟨b1, b2, b3⟩ := SeeSh.few h hb
  obtain ⟨l1, l2, l3⟩ := SeeSh.lens h
  obtain ⟨W, hW⟩ : ∃ W, (w.alloc (boxSh s.1 s.2.2.1 la ln lc ma mn mc ha hn hc)).alloc (boxSh 0 0 none 0 0 none 0 0 none 0 0) = W := ⟨_, rfl⟩
  have hba : Below w.heap.size w (w.alloc (boxSh s.1 s.2.2.1 la ln lc ma mn mc ha hn hc)) := below_alloc
  have hB : Below w.heap.size w W := by rw [← hW]; exact hba.alloc hba.size _
  have hA : BoxIn w.heap.size 27 [] (shVals s.1 s.2.2.1 la ln lc ma mn mc ha hn hc) [] W := by rw [← hW]; exact (boxIn_new w _ _).below below_alloc
  have hR : BoxIn (w.heap.size + 1) 27 [] (shVals 0 0 none 0 0 none 0 0 none 0 0) [] W := by
    rw [← hW]
    have := boxIn_new (w.alloc (boxSh s.1 s.2.2.1 la ln lc ma mn mc ha hn hc)) (shVals 0 0 none 0 0 none 0 0 none 0 0) 27
    rwa [show (w.alloc (boxSh s.1 s.2.2.1 la ln lc ma mn mc ha hn hc)).heap.size = w.heap.size + 1 by simp] at this
  have hsW : w.heap.size + 1 < W.heap.size := hR.lt
  have HW := Hid.mk' hW
  have a0 := hA.cell 0 _ rfl
  have a1 := hA.cell 1 _ rfl
  have a2 := hA.cell 2 _ rfl
  have a3 := hA.cell 3 _ rfl
  have a4 := hA.cell 4 _ rfl
  simp only [List.length_nil, Nat.zero_add] at a0 a1 a2 a3 a4
  rw [← hW] at a0 a1 a2 a3 a4
  have HCP := Hid.mk' (spec_copySh la ln lc ma mn mc ha hn hc s W (h.below hB) hb.few hb.fewH (by omega) (by omega) (by omega))
  have HOK := Hid.mk' (fun wx (hx : Below w.heap.size w wx) => spec_shardOk la ln lc ma mn mc ha hn hc s wx (h.below hx) hb.few)
  clear hW l1 l2 l3 h hba
  go_enter Try.func13, Try.ntmps13
  go_wp2_with fail
  rw [HW.out]
  refine HCP.out.mono ?_
  rintro e w1 ⟨gl, cl, gm, cm, gh, ch, F, rfl, hO1, hF1, hb1⟩
  have hB1 := hB.trans (hb1.mono hB.size)
  obtain ⟨v1, hv1⟩ : ∃ v1, w1.alloc (boxSh s.1 s.2.2.1 (some ⟨gl, 0, none⟩) ln cl (some ⟨gm, 0, none⟩) mn cm (some ⟨gh, 0, none⟩) hn ch) = v1 := ⟨_, rfl⟩
  have hc1 : Below w1.heap.size w1 v1 := by rw [← hv1]; exact below_alloc
  have hX1 := inBox_new hO1
  rw [hv1] at hX1
  have hA1 := (hA.below hb1).below hc1
  have hR1 := (hR.below hb1).below hc1
  have hBv := hB1.trans (hc1.mono hB1.size)
  have hsz1 := hb1.size
  clear a0 a1 a2 a3 a4 HW HCP hO1
  have a0 := hA1.cell 0 _ rfl
  have a1 := hA1.cell 1 _ rfl
  have a2 := hA1.cell 2 _ rfl
  have a3 := hA1.cell 3 _ rfl
  have a4 := hA1.cell 4 _ rfl
  simp only [List.length_nil, Nat.zero_add] at a0 a1 a2 a3 a4
  rw [← hv1] at a0 a1 a2 a3 a4
  have HV1 := Hid.mk' hv1
  have HOK1 := Hid.mk' (HOK.out v1 hBv)
  clear hv1 HOK
  go_wp2_with fail
  rw [HV1.out]
  refine HOK1.out.mono ?_
  rintro e w2 ⟨rfl, hb2⟩
  have hX2 := hX1.below hb2
  have hR2 := hR1.below hb2
  have hB2 := hBv.trans (hb2.mono hBv.size)
  have hFR : ∀ k ∈ F, W.heap.size ≤ k := hF1
  have hXR : w.heap.size + 1 ≠ w1.heap.size := by omega
  clear a0 a1 a2 a3 a4 HV1 HOK1 hX1 hA1 hR1 hBv hc1 hb2
  cases hok : shardOk s with
  | false =>
    obtain ⟨q0, q1, q2, q3, q4⟩ := hX2.cells
    have z0 := hR2.cell 0 _ rfl
    have z1 := hR2.cell 1 _ rfl
    have z2 := hR2.cell 2 _ rfl
    have z3 := hR2.cell 3 _ rfl
    have z4 := hR2.cell 4 _ rfl
    simp only [List.length_nil, Nat.zero_add] at z0 z1 z2 z3 z4
    have f0 := hR2.fz 0
    have f1 := hR2.fz 1
    have f2 := hR2.fz 2
    have f3 := hR2.fz 3
    have f4 := hR2.fz 4
    have hS5 := hR2.set5 (.int .i64 s.1) (.slice (some ⟨gl, 0, none⟩) ln cl) (.int .i64 s.2.2.1) (.slice (some ⟨gm, 0, none⟩) mn cm) (.slice (some ⟨gh, 0, none⟩) hn ch)
    simp only [List.length_nil, Nat.zero_add] at hS5
    have hOz := hX2.own.keep (fun j hj => hS5.2.block j (hX2.own.lt j hj) (fun e => by have := hFR j hj; have := Option.some.inj e; omega))
    have hBz := hB2.grown hS5.2 hB2.size (fun j e => by cases e; omega)
    have hzc0 := hS5.1.cell 0 _ rfl
    have hzc1 := hS5.1.cell 1 _ rfl
    have hzc2 := hS5.1.cell 2 _ rfl
    have hzc3 := hS5.1.cell 3 _ rfl
    have hzc4 := hS5.1.cell 4 _ rfl
    simp only [List.length_nil, Nat.zero_add] at hzc0 hzc1 hzc2 hzc3 hzc4
    have HE0 : Hid (crashR s keep = s) := by show _ = _; unfold crashR; rw [hok]; rfl
    have HP := Hid.mk' (retSh_mk (s := s) hOz (fun k hk => Nat.le_trans hB.size (hFR k hk)) hBz)
    clear hOz hBz hS5 hX2 hR2
    go_wp2_with fail
    refine bodyPost_ret (v := aggSh s.1 s.2.2.1 (some ⟨gl, 0, none⟩) ln cl (some ⟨gm, 0, none⟩) mn cm (some ⟨gh, 0, none⟩) hn ch) ?_ rfl (by rw [HE0.out]; exact HP.out)
    simp [results, Try.results13, go_sem, hzc0, hzc1, hzc2, hzc3, hzc4]
  | true =>
    have HCR := Hid.mk' (spec_l9Crash w1.heap.size 27 [] [] _ _ _ _ _ _ _ _ _ s F keep w2 hX2 ((shardOk_iff s).1 hok) hb.few)
    go_wp2_with fail
    refine HCR.out.mono ?_
    rintro e w3 ⟨rfl, xl, xln, xlc, xm, xmn, xmc, xh, xhn, xhc, F3, hX3, hf3, hfr3⟩
    generalize hcr : crashS s keep = r at *
    have hB3 := hB2.trans (hf3.bel hB2.size (fun k hk => by
      rcases List.mem_cons.1 hk with e | e
      · omega
      · have := hFR k e; omega))
    have hR3 := hR2.frame hf3 (fun e => by
      rcases List.mem_cons.1 e with e | e
      · omega
      · have := hFR _ e; omega)
    have hF3 : ∀ k ∈ F3, W.heap.size ≤ k := fun k hk => by
      rcases hfr3 k hk with e | e
      · exact hFR k e
      · have := hX2.box.lt; omega
    obtain ⟨q0, q1, q2, q3, q4⟩ := hX3.cells
    have z0 := hR3.cell 0 _ rfl
    have z1 := hR3.cell 1 _ rfl
    have z2 := hR3.cell 2 _ rfl
    have z3 := hR3.cell 3 _ rfl
    have z4 := hR3.cell 4 _ rfl
    simp only [List.length_nil, Nat.zero_add] at z0 z1 z2 z3 z4
    have f0 := hR3.fz 0
    have f1 := hR3.fz 1
    have f2 := hR3.fz 2
    have f3 := hR3.fz 3
    have f4 := hR3.fz 4
    have hS5 := hR3.set5 (.int .i64 r.1) (.slice xl xln xlc) (.int .i64 r.2.2.1) (.slice xm xmn xmc) (.slice xh xhn xhc)
    simp only [List.length_nil, Nat.zero_add] at hS5
    have hOz := hX3.own.keep (fun j hj => hS5.2.block j (hX3.own.lt j hj) (fun e => by have := hF3 j hj; have := Option.some.inj e; omega))
    have hBz := hB3.grown hS5.2 hB3.size (fun j e => by cases e; omega)
    have hzc0 := hS5.1.cell 0 _ rfl
    have hzc1 := hS5.1.cell 1 _ rfl
    have hzc2 := hS5.1.cell 2 _ rfl
    have hzc3 := hS5.1.cell 3 _ rfl
    have hzc4 := hS5.1.cell 4 _ rfl
    simp only [List.length_nil, Nat.zero_add] at hzc0 hzc1 hzc2 hzc3 hzc4
    have HE0 : Hid (crashR s keep = r) := by show _ = _; unfold crashR; rw [hok, hcr]; rfl
    have HP := Hid.mk' (retSh_mk (s := r) hOz (fun k hk => Nat.le_trans hB.size (hF3 k hk)) hBz)
    clear hOz hBz hS5 hX2 hR2 hX3 hR3 HCR hf3 hfr3
    go_wp2_with fail
    refine bodyPost_ret (v := aggSh r.1 r.2.2.1 xl xln xlc xm xmn xmc xh xhn xhc) ?_ rfl (by rw [HE0.out]; exact HP.out)
    simp [results, Try.results13, go_sem, hzc0, hzc1, hzc2, hzc3, hzc4]
set_option maxRecDepth 100000 in
set_option maxHeartbeats 4000000 in
theorem impl_crash (la : Option Addr) (ln lc : Nat) (ma : Option Addr) (mn mc : Nat) (ha : Option Addr) (hn hc : Nat) (s : Shd) (keep : Int) (w : World) (h : SeeSh w la ln lc ma mn mc ha hn hc s) (hpl : PlainR w la ln) (hb : Bound s) :
    Calls Try.prog 7 #[aggSh s.1 s.2.2.1 la ln lc ma mn mc ha hn hc, .int .i64 keep] w (RetSh w (crashR s keep)) := by
  obtain ⟨b1, b2, b3⟩ := SeeSh.few h hb
  obtain ⟨l1, l2, l3⟩ := SeeSh.lens h
  obtain ⟨W, hW⟩ : ∃ W, (w.alloc (boxSh s.1 s.2.2.1 la ln lc ma mn mc ha hn hc)).alloc (boxSh 0 0 none 0 0 none 0 0 none 0 0) = W := ⟨_, rfl⟩
  have hba : Below w.heap.size w (w.alloc (boxSh s.1 s.2.2.1 la ln lc ma mn mc ha hn hc)) := below_alloc
  have hB : Below w.heap.size w W := by rw [← hW]; exact hba.alloc hba.size _
  have hA : BoxIn w.heap.size 27 [] (shVals s.1 s.2.2.1 la ln lc ma mn mc ha hn hc) [] W := by rw [← hW]; exact (boxIn_new w _ _).below below_alloc
  have hR : BoxIn (w.heap.size + 1) 27 [] (shVals 0 0 none 0 0 none 0 0 none 0 0) [] W := by
    rw [← hW]
    have := boxIn_new (w.alloc (boxSh s.1 s.2.2.1 la ln lc ma mn mc ha hn hc)) (shVals 0 0 none 0 0 none 0 0 none 0 0) 27
    rwa [show (w.alloc (boxSh s.1 s.2.2.1 la ln lc ma mn mc ha hn hc)).heap.size = w.heap.size + 1 by simp] at this
  have hsW : w.heap.size + 1 < W.heap.size := hR.lt
  have HW := Hid.mk' hW
  have a0 := hA.cell 0 _ rfl
  have a1 := hA.cell 1 _ rfl
  have a2 := hA.cell 2 _ rfl
  have a3 := hA.cell 3 _ rfl
  have a4 := hA.cell 4 _ rfl
  simp only [List.length_nil, Nat.zero_add] at a0 a1 a2 a3 a4
  rw [← hW] at a0 a1 a2 a3 a4
  have HCP := Hid.mk' (fun wx (hx : Below w.heap.size w wx) => i_ownSh la ln lc ma mn mc ha hn hc s wx (h.below hx) hb.few hb.fewH (by omega) (by omega) (by omega))
  have HOK := Hid.mk' (impl_shardOk la ln lc ma mn mc ha hn hc s W (h.below hB) (plain_below h.log hpl hB) hb.few (by omega) (by omega))
  have hlog := h.log
  have hid := h.id
  have HLN := Hid.mk' l1
  clear hW l1 l2 l3 hba hpl
  go_enter Try.func7, Try.ntmps7
  go_wp2_with fail
  rw [HW.out]
  refine HOK.out.mono ?_
  rintro e w2 ⟨rfl, hb2⟩
  have hB2 := hB.trans (hb2.mono hB.size)
  have hA2 := hA.below hb2
  have hR2 := hR.below hb2
  have hs2 := hb2.size
  clear a0 a1 a2 a3 a4 HW HOK
  have a0 := hA2.cell 0 _ rfl
  have a1 := hA2.cell 1 _ rfl
  have a2 := hA2.cell 2 _ rfl
  have a3 := hA2.cell 3 _ rfl
  have a4 := hA2.cell 4 _ rfl
  simp only [List.length_nil, Nat.zero_add] at a0 a1 a2 a3 a4
  cases hok : shardOk s with
  | false =>
    have HCP2 := Hid.mk' (HCP.out w2 hB2)
    go_wp2_with fail
    refine HCP2.out.mono ?_
    rintro e w3 ⟨gl, cl, gm, cm, gh, ch, F, rfl, hO3, hF3, hb3⟩
    have hB3 := hB2.trans (hb3.mono hB2.size)
    have hR3 := hR2.below hb3
    clear a0 a1 a2 a3 a4 HCP HCP2
    have z0 := hR3.cell 0 _ rfl
    have z1 := hR3.cell 1 _ rfl
    have z2 := hR3.cell 2 _ rfl
    have z3 := hR3.cell 3 _ rfl
    have z4 := hR3.cell 4 _ rfl
    simp only [List.length_nil, Nat.zero_add] at z0 z1 z2 z3 z4
    have f0 := hR3.fz 0
    have f1 := hR3.fz 1
    have f2 := hR3.fz 2
    have f3 := hR3.fz 3
    have f4 := hR3.fz 4
    have hS5 := hR3.set5 (.int .i64 s.1) (.slice (some ⟨gl, 0, none⟩) ln cl) (.int .i64 s.2.2.1) (.slice (some ⟨gm, 0, none⟩) mn cm) (.slice (some ⟨gh, 0, none⟩) hn ch)
    simp only [List.length_nil, Nat.zero_add] at hS5
    have hOz := hO3.keep (fun j hj => hS5.2.block j (hO3.lt j hj) (fun e => by have := hF3 j hj; have := Option.some.inj e; omega))
    have hBz := hB3.grown hS5.2 hB3.size (fun j e => by cases e; omega)
    have hzc0 := hS5.1.cell 0 _ rfl
    have hzc1 := hS5.1.cell 1 _ rfl
    have hzc2 := hS5.1.cell 2 _ rfl
    have hzc3 := hS5.1.cell 3 _ rfl
    have hzc4 := hS5.1.cell 4 _ rfl
    simp only [List.length_nil, Nat.zero_add] at hzc0 hzc1 hzc2 hzc3 hzc4
    have HE0 : Hid (crashR s keep = s) := by show _ = _; unfold crashR; rw [hok]; rfl
    have HP := Hid.mk' (retSh_mk (s := s) hOz (fun k hk => Nat.le_trans hB2.size (hF3 k hk)) hBz)
    clear hOz hBz hS5 hO3 hR2 hR3
    go_wp2_with fail
    refine bodyPost_ret (v := aggSh s.1 s.2.2.1 (some ⟨gl, 0, none⟩) ln cl (some ⟨gm, 0, none⟩) mn cm (some ⟨gh, 0, none⟩) hn ch) ?_ rfl (by rw [HE0.out]; exact HP.out)
    simp [results, Try.results7, go_sem, hzc0, hzc1, hzc2, hzc3, hzc4]
  | true =>
    have hRt := (shardOk_iff s).1 hok
    have hsu := hRt.sure
    have hroom := hRt.room
    clear HCP
    obtain ⟨sid, log, sure, m, held⟩ := s
    simp only [] at hlog hid hsu hroom HLN a0 a2
    obtain ⟨sn, rfl⟩ : ∃ sn : Nat, sure = (sn : Int) := ⟨sure.toNat, by omega⟩
    have l1 := HLN.out
    have hs1 : sn ≤ ln := by omega
    have hln3 : ln ≤ 300 := by omega
    obtain ⟨kk, hkk⟩ : ∃ kk : Nat, (kk : Int) = min (max keep 0) ((ln : Int) - (sn : Int)) := ⟨(min (max keep 0) ((ln : Int) - (sn : Int))).toNat, by omega⟩
    obtain ⟨lf, hlf⟩ : ∃ lf, lf = sn + kk := ⟨_, rfl⟩
    have hLE : leftN (sid, log, (sn : Int), m, held) keep = lf := by
      unfold leftN
      show ((sn : Int) + min (max keep 0) ((log.length : Int) - (sn : Int))).toNat = _
      rw [l1, ← hkk]; omega
    have HCR : Hid (crashR (sid, log, (sn : Int), m, held) keep = (sid, log.take lf, (lf : Int), resM (replay (log.take lf)), resH (replay (log.take lf)))) := by
      show _ = _
      unfold crashR
      rw [hok, if_pos rfl]
      unfold crashS
      rw [hLE, resM_eq, resH_eq]
    have hlfn : lf ≤ ln := by omega
    have hlcap := h.lc
    have hlfc : lf ≤ lc := by omega
    have hsum : (sn : Int) + (kk : Int) = (lf : Int) := by omega
    have hwrap : IntKind.i64.wrap (lf : Int) = (lf : Int) := wraps_i64 _ (by omega) (by omega)
    have hLT : SlR w la lf (log.take lf) := by
      rcases Nat.eq_zero_or_pos lf with e | e
      · subst e; rw [List.take_zero]; exact slr_nil _ _
      · obtain ⟨b, off, ea, _⟩ := hlog.2.2.2 (by omega)
        subst ea
        exact hlog.cut lf hlfn
    have hfT : Few (log.take lf) := fun r hr => hb.few r (List.mem_of_mem_take hr)
    have hlfw : (Lit.int .i64 (lf : Int)).wf = true := by
      simp [Lit.wf, IntKind.min, IntKind.max, IntKind.signed, IntKind.bits]; omega
    have HOR := Hid.mk' (fun wx (hx : Below w.heap.size w wx) => i_ownRecs la lf lc (log.take lf) wx (hLT.below hx) (by omega) (fun r hr => (hfT r hr).1))
    have HSO := Hid.mk' (fun wx (base g cp : Nat) (hs : List Value) (ho : OwnR wx base (.slice (some ⟨g, 0, none⟩) lf cp) (log.take lf) hs) => i_shardOf sid (lf : Int) (some ⟨g, 0, none⟩) lf cp (log.take lf) wx ho.sl ho.plain hfT (by omega))
    generalize log.take lf = LT at *
    generalize replay LT = t at *
    have hkm : (kk : Int) = min (max keep 0) ((ln : Int) - (sn : Int)) := hkk
    clear hok hRt hsu hroom hkk hLE hLT hfT hlf h hlog l1 HLN
    have hdV : Below w2.heap.size w2 w2.drew := (Below.refl _ _).drew
    have hBd := hB2.trans (hdV.mono hB2.size)
    have hAd := hA2.below hdV
    have hmin : min (max keep 0) ((ln : Int) - (sn : Int)) = (kk : Int) := hkm.symm
    have hwln : IntKind.i64.wrap ((ln : Int) - (sn : Int)) = (ln : Int) - (sn : Int) := wraps_i64 _ (by omega) (by omega)
    clear hkm
    have d0 := hAd.cell 0 _ rfl
    have d1 := hAd.cell 1 _ rfl
    simp only [List.length_nil, Nat.zero_add] at d0 d1
    have hXd := hAd.lt
    have hda : Below w2.drew.heap.size w2.drew (w2.alloc (.cells #[.int .i64 0, .slice none 0 0, .int .i64 0, .slice none 0 0, .slice none 0 0] 27)).drew := below_alloc (w := w2.drew)
    have hBda := hBd.trans (hda.mono hBd.size)
    have hRd := hR2.below hdV
    have hRl := hRd.lt
    go_wp2_with fail
    go_region_held3 (fun w' => w'.cell? ⟨w.heap.size, 0, none⟩ = some (.int .i64 sid) ∧ w'.cell? ⟨w.heap.size, 1, none⟩ = some (.slice la ln lc)) (first | (with_reducible exact ⟨y0, y1⟩) | (with_reducible exact ⟨d0, d1⟩) | (with_reducible exact keepB2 hda ⟨d0, d1⟩) | (with_reducible exact keepB2 h6 ⟨d0, d1⟩) | (with_reducible exact keepB2 (h6.alloc h6.size _) ⟨d0, d1⟩) | (with_reducible exact keepB2 h8 ⟨d0, d1⟩) | (with_reducible exact keepB2 (h8.alloc h8.size _) ⟨d0, d1⟩)) (first | (go_at_call 25; (first | (with_reducible refine (HOR.out _ hBd).mono ?_) | (with_reducible refine (HOR.out _ hBda).mono ?_)); rintro e w6 ⟨gl, cl, hl, rfl, hOl6, hb6⟩; have O6 : OwnR w6 w2.drew.heap.size (.slice (some ⟨gl, 0, none⟩) lf cl) LT hl := hOl6.mono (by first | (with_reducible exact Nat.le_refl _) | (with_reducible exact hda.size)); have h6 : Below w2.drew.heap.size w2.drew w6 := by first | (with_reducible exact hb6) | (exact hda.trans (hb6.mono hda.size))) | (go_at_call 24; (first | (with_reducible refine (HSO.out w6 _ _ _ _ hOl6).mono ?_) | (with_reducible refine (HSO.out _ _ _ _ _ (hOl6.below (below_alloc (w := w6) (o := (.cells #[.int .i64 0, .slice none 0 0, .int .i64 0, .slice none 0 0, .slice none 0 0] 27))))).mono ?_)); rintro e w8 ⟨gm, nm, cm, gh, ch, hh, rfl, hOm8, hOh8, hnb8, hb8⟩; have O8m : OwnP w8 w6.heap.size gm nm cm (resM t) := hOm8.mono (by first | (with_reducible exact Nat.le_refl _) | (exact below_alloc.size)); have O8h : OwnR w8 w6.heap.size (.slice (some ⟨gh, 0, none⟩) (resH t).length ch) (resH t) hh := hOh8.mono (by first | (with_reducible exact Nat.le_refl _) | (exact below_alloc.size)); have h68 : Below w6.heap.size w6 w8 := (by first | (with_reducible exact hb8) | (exact (below_alloc (w := w6)).trans (hb8.mono below_alloc.size))); have h8 : Below w2.drew.heap.size w2.drew w8 := h6.trans (h68.mono h6.size); (first | (guard_hyp hb8 : Below (w6.alloc (.cells #[.int .i64 0, .slice none 0 0, .int .i64 0, .slice none 0 0, .slice none 0 0] 27)).heap.size (w6.alloc (.cells #[.int .i64 0, .slice none 0 0, .int .i64 0, .slice none 0 0, .slice none 0 0] 27)) w8; have hbx8 := spotA hb8; obtain ⟨z0, z1, z2, z3, z4, f0, f1, f2, f3, f4, y0, y1, HE5⟩ := crash_spot hAd h8 hbx8 h6.size (.int .i64 sid) (.slice (some ⟨gl, 0, none⟩) lf cl) (.int .i64 (lf : Int)) (.slice (some ⟨gm, 0, none⟩) nm cm) (.slice (some ⟨gh, 0, none⟩) (resH t).length ch) (.int .i64 sid) (.slice la ln lc) rfl rfl) | (guard_hyp hb6 : Below (w2.alloc (.cells #[.int .i64 0, .slice none 0 0, .int .i64 0, .slice none 0 0, .slice none 0 0] 27)).drew.heap.size (w2.alloc (.cells #[.int .i64 0, .slice none 0 0, .int .i64 0, .slice none 0 0, .slice none 0 0] 27)).drew w6; have hbx8 := spotB hb6 h68; obtain ⟨z0, z1, z2, z3, z4, f0, f1, f2, f3, f4, y0, y1, HE5⟩ := crash_spot hAd h8 hbx8 (Nat.le_refl _) (.int .i64 sid) (.slice (some ⟨gl, 0, none⟩) lf cl) (.int .i64 (lf : Int)) (.slice (some ⟨gm, 0, none⟩) nm cm) (.slice (some ⟨gh, 0, none⟩) (resH t).length ch) (.int .i64 sid) (.slice la ln lc) rfl rfl) | skip)))
    · have hB8 := hBd.trans (h8.mono hBd.size)
      have hbn : Below w8.heap.size w8 (w8.alloc (.cells #[.int .i64 sid, .slice (some ⟨gl, 0, none⟩) lf cl, .int .i64 (lf : Int), .slice (some ⟨gm, 0, none⟩) nm cm, .slice (some ⟨gh, 0, none⟩) (resH t).length ch] 27)) := below_alloc
      obtain ⟨z0, z1, z2, z3, z4, f0, f1, f2, f3, f4, q0, q1, q2, q3, q4, hzc0, hzc1, hzc2, hzc3, hzc4, HP⟩ := crash_last (B := w2.drew.heap.size) (C := w6.heap.size) hid hlfw ((hRd.below h8).below hbn) (boxIn_new w8 [.int .i64 sid, .slice (some ⟨gl, 0, none⟩) lf cl, .int .i64 (lf : Int), .slice (some ⟨gm, 0, none⟩) nm cm, .slice (some ⟨gh, 0, none⟩) (resH t).length ch] 27) ((O6.below h68).below hbn) (O8m.below hbn) (O8h.below hbn) (fun k hk => (O6.lt k hk).2) (hB8.trans (hbn.mono hB8.size)) (Nat.le_succ _) hRl h6.size
      clear hbn
      clear HOR HSO hAd hA hA2 hR hR2 hRd hBd hBda hda hdV hOl6 O6 hOm8 hOh8 O8m O8h hB8 h8 h68 h6 hb6 hb8 hnb8 d0 d1
      go_wp2_with fail
      refine bodyPost_ret (v := (aggSh sid (lf : Int) (some ⟨gl, 0, none⟩) lf cl (some ⟨gm, 0, none⟩) nm cm (some ⟨gh, 0, none⟩) (resH t).length ch)) ?_ rfl (by rw [HCR.out]; exact HP.out)
      simp [results, Try.results7, go_sem, hzc0, hzc1, hzc2, hzc3, hzc4]
    · have hB8 := hBd.trans (h8.mono hBd.size)
      have s6 := h6.size
      have s8 := h68.size
      have hw2 : w2.drew.heap.size = w2.heap.size := by simp
      have n8l : ¬ BlkR (.slice (some ⟨gl, 0, none⟩) lf cl) hl w6.heap.size := fun e => Nat.lt_irrefl _ (O6.lt _ e).2
      have hsz : (w6.alloc (.cells #[.int .i64 0, .slice none 0 0, .int .i64 0, .slice none 0 0, .slice none 0 0] 27)).heap.size = w6.heap.size + 1 := by simp
      have n8m : gm ≠ w6.heap.size := fun e => by have := hOm8.lt.1; omega
      have n8h : ¬ BlkR (.slice (some ⟨gh, 0, none⟩) (resH t).length ch) hh w6.heap.size := fun e => by have := (hOh8.lt _ e).1; omega
      clear hsz
      have hgr := HE5.out.2
      have hRV := (hRd.below h8).grown hgr (fun e => by have := Option.some.inj e; omega)
      have hOV := (O6.below h68).grown hgr n8l
      have hMV := O8m.grown hgr (fun e => n8m (Option.some.inj e))
      have hHV := O8h.grown hgr n8h
      have hBV := hB8.grown hgr hB8.size (fun j e => by cases e; have := hBd.size; omega)
      clear z0 z1 z2 z3 z4 f0 f1 f2 f3 f4 y0 y1
      obtain ⟨z0, z1, z2, z3, z4, f0, f1, f2, f3, f4, q0, q1, q2, q3, q4, hzc0, hzc1, hzc2, hzc3, hzc4, HP⟩ := crash_last (B := w2.drew.heap.size) (C := w6.heap.size) hid hlfw hRV HE5.out.1 hOV hMV hHV (fun k hk => (O6.lt k hk).2) hBV (Nat.le_succ _) hRl h6.size
      clear hRV hOV hMV hHV hBV hgr HE5 hbx8 s6 s8 hw2 n8l n8m n8h
      clear HOR HSO hAd hA hA2 hR hR2 hRd hBd hBda hda hdV hOl6 O6 hOm8 hOh8 O8m O8h hB8 h8 h68 h6 hb6 hb8 hnb8 d0 d1
      go_wp2_with fail
      refine bodyPost_ret (v := (aggSh sid (lf : Int) (some ⟨gl, 0, none⟩) lf cl (some ⟨gm, 0, none⟩) nm cm (some ⟨gh, 0, none⟩) (resH t).length ch)) ?_ rfl (by rw [HCR.out]; exact HP.out)
      simp [results, Try.results7, go_sem, hzc0, hzc1, hzc2, hzc3, hzc4]
    · have hB8 := hBd.trans (h8.mono hBd.size)
      have s6 := h6.size
      have s8 := h68.size
      have hw2 : w2.drew.heap.size = w2.heap.size := by simp
      have hsz : (w2.alloc (.cells #[.int .i64 0, .slice none 0 0, .int .i64 0, .slice none 0 0, .slice none 0 0] 27)).drew.heap.size = w2.heap.size + 1 := by simp
      have s6' := hb6.size
      have n8l : ¬ BlkR (.slice (some ⟨gl, 0, none⟩) lf cl) hl w2.heap.size := fun e => by have := (hOl6.lt _ e).1; omega
      have n8m : gm ≠ w2.heap.size := fun e => by have := O8m.lt.1; omega
      have n8h : ¬ BlkR (.slice (some ⟨gh, 0, none⟩) (resH t).length ch) hh w2.heap.size := fun e => by have := (O8h.lt _ e).1; omega
      clear hsz s6'
      have hgr := HE5.out.2
      have hRV := (hRd.below h8).grown hgr (fun e => by have := Option.some.inj e; omega)
      have hOV := (O6.below h68).grown hgr n8l
      have hMV := O8m.grown hgr (fun e => n8m (Option.some.inj e))
      have hHV := O8h.grown hgr n8h
      have hBV := hB8.grown hgr hB8.size (fun j e => by cases e; have := hBd.size; omega)
      clear z0 z1 z2 z3 z4 f0 f1 f2 f3 f4 y0 y1
      obtain ⟨z0, z1, z2, z3, z4, f0, f1, f2, f3, f4, q0, q1, q2, q3, q4, hzc0, hzc1, hzc2, hzc3, hzc4, HP⟩ := crash_last (B := w2.drew.heap.size) (C := w6.heap.size) hid hlfw hRV HE5.out.1 hOV hMV hHV (fun k hk => (O6.lt k hk).2) hBV (Nat.le_succ _) hRl h6.size
      clear hRV hOV hMV hHV hBV hgr HE5 hbx8 s6 s8 hw2 n8l n8m n8h
      clear HOR HSO hAd hA hA2 hR hR2 hRd hBd hBda hda hdV hOl6 O6 hOm8 hOh8 O8m O8h hB8 h8 h68 h6 hb6 hb8 hnb8 d0 d1
      go_wp2_with fail
      refine bodyPost_ret (v := (aggSh sid (lf : Int) (some ⟨gl, 0, none⟩) lf cl (some ⟨gm, 0, none⟩) nm cm (some ⟨gh, 0, none⟩) (resH t).length ch)) ?_ rfl (by rw [HCR.out]; exact HP.out)
      simp [results, Try.results7, go_sem, hzc0, hzc1, hzc2, hzc3, hzc4]
end Go.Proofs.Ytpnmijalpbllnaa.recs

namespace Go.Proofs.Ytpnmijalpbllnaa.draw
open Go.RowKit Go.Proofs.Ytpnmijalpbllnaa.base
set_option linter.unusedVariables false
set_option linter.unusedSimpArgs false

theorem below_of_grown {w w' : World} {gc : Nat} (h : w.grownBy w' (some gc)) (B : Nat) (hB : B ≤ gc) (hs : B ≤ w.heap.size) : Below B w w' := below_grown h hB hs
theorem Cur.drew {w0 w : World} {gc : Nat} {a : Option Addr} {len cap : Nat} {code : List UInt8} (h : Cur w0 w gc a len cap code) : Cur w0 w.drew gc a len cap code :=
  ⟨h.1, h.2.1.drew, h.2.2⟩


def GotNum (w : World) (e : Ending) (w' : World) : Prop :=
  ∃ (g m cp : Nat) (bs : List UInt8) (z : Int), m ≤ 1000 ∧ (Lit.int .i64 z).wf = true ∧ e = .returned (.tuple #[.slice (some ⟨g, 0, none⟩) m cp, .int .i64 z]) ∧ Own w' w.heap.size g m cp bs ∧ Below w.heap.size w w'


def GotText (w : World) (e : Ending) (w' : World) : Prop :=
  ∃ (g m cp : Nat) (bs ss : List UInt8), m ≤ 1000 ∧ ss.length ≤ 1000 ∧ e = .returned (.tuple #[.slice (some ⟨g, 0, none⟩) m cp, .string ⟨ss.toArray⟩]) ∧ Own w' w.heap.size g m cp bs ∧ Below w.heap.size w w'


def GotStr (w : World) (e : Ending) (w' : World) : Prop :=
  ∃ (ss : List UInt8), ss.length ≤ 1000 ∧ e = .returned (.string ⟨ss.toArray⟩) ∧ Below w.heap.size w w'


end Go.Proofs.Ytpnmijalpbllnaa.draw

namespace Go.Proofs.Ytpnmijalpbllnaa.draw
open Go.RowKit Go.Proofs.Ytpnmijalpbllnaa.base Go.Proofs.Ytpnmijalpbllnaa.help Go.Proofs.Ytpnmijalpbllnaa.helps
set_option linter.unusedVariables false
set_option linter.unusedSimpArgs false




def GotTextsC (w0 w : World) (gc : Nat) (a : Option Addr) (len cap : Nat) (code : List UInt8) (e : Ending) (w' : World) : Prop :=
  ∃ (g m cp : Nat) (ss : List ByteArray), m ≤ 5 ∧ (∀ s ∈ ss, s.size ≤ 15) ∧ e = .returned (.slice (some ⟨g, 0, none⟩) m cp) ∧ OwnS w' w.heap.size g m cp ss ∧ Cur w0 w' gc a len cap code ∧ w.grownBy w' (some gc)


def GotTexts (w : World) (e : Ending) (w' : World) : Prop :=
  ∃ (g m cp : Nat) (bs : List UInt8) (g2 m2 cp2 : Nat) (ss : List ByteArray), m ≤ 1000 ∧ m2 ≤ 5 ∧ (∀ s ∈ ss, s.size ≤ 15) ∧ e = .returned (.tuple #[.slice (some ⟨g, 0, none⟩) m cp, .slice (some ⟨g2, 0, none⟩) m2 cp2]) ∧ Own w' w.heap.size g m cp bs ∧ OwnS w' w.heap.size g2 m2 cp2 ss ∧ Below w.heap.size w w'


end Go.Proofs.Ytpnmijalpbllnaa.draw
